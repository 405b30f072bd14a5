/-
  Part 13 of the proof: 13 texts, one behind the other.
-/
import Derived.Test.YtbgoclfifhdonaaPart6
import Derived.Test.YtbgoclfifhdonaaPart1
import Derived.Test.YtbgoclfifhdonaaPart2
import Derived.Test.YtbgoclfifhdonaaPart9
import Derived.Test.YtbgoclfifhdonaaPart8
import Derived.Test.YtbgoclfifhdonaaPart12
import Derived.Test.YtbgoclfifhdonaaPart5
import Derived.Test.YtbgoclfifhdonaaPart7
import Derived.Test.YtbgoclfifhdonaaPart4
namespace Go.Proofs.Ytbgoclfifhdonaa
open Go.RowKit
set_option linter.unusedSimpArgs false
set_option linter.unusedVariables false

theorem At.drew {w : World} {B : Nat} {x : BitVec 128} (h : At w B x) : At w.drew B x := h
end Go.Proofs.Ytbgoclfifhdonaa
namespace Go.Proofs.Ytbgoclfifhdonaa
open Go.RowKit
set_option linter.unusedSimpArgs false
set_option linter.unusedVariables false

def hs (x y : BitVec 128) : Int := IntKind.u64.wrap (hI x + hI y)
def hd (x y : BitVec 128) : Int := IntKind.u64.wrap (hI x - hI y)
end Go.Proofs.Ytbgoclfifhdonaa
namespace Go.Proofs.Ytbgoclfifhdonaa
open Go.RowKit
set_option linter.unusedSimpArgs false
set_option linter.unusedVariables false

theorem isFamily_any (F : Int) (w : World) :
    Calls Try.prog 32 #[.int .i64 F] w fun e w' => e = .returned (.bool (fam F)) ∧ w' = w := by
  unfold fam
  by_cases h1 : F = 32
  · subst h1
    go_enter Try.func32, Try.ntmps32
    go_wp2
    go_ret
    exact ⟨rfl, rfl⟩
  · have b1 : (F == 32) = false := by simp [h1]
    have b2 : (F == 128) = decide (F = 128) := by rw [Bool.eq_iff_iff]; simp
    rw [show decide (F = 32) = false by simp [h1], Bool.false_or]
    go_enter Try.func32, Try.ntmps32
    go_wp2
    go_ret
    exact ⟨rfl, rfl⟩

theorem three (y x : BitVec 128) : ((hI y == hI x) = true ∧ (lI y == lI x) = true ∧ y = x) ∨ ((hI y == hI x) = false ∧ ¬ y = x) ∨ ((hI y == hI x) = true ∧ (lI y == lI x) = false ∧ ¬ y = x) := by
  by_cases e : y = x
  · exact Or.inl ⟨by simp [e], by simp [e], e⟩
  · by_cases e1 : hI y = hI x
    · exact Or.inr (Or.inr ⟨by simp [e1], by simp; exact fun e2 => e (eq_ints e1 e2), e⟩)
    · exact Or.inr (Or.inl ⟨by simp [e1], e⟩)
theorem three0 (y : BitVec 128) : ((hI y == 0) = true ∧ (lI y == 0) = true ∧ y = 0#128) ∨ ((hI y == 0) = false ∧ ¬ y = 0#128) ∨ ((hI y == 0) = true ∧ (lI y == 0) = false ∧ ¬ y = 0#128) := by
  have h := three y 0#128
  rw [hI_zero, lI_zero] at h; exact h

set_option maxHeartbeats 1000000 in
theorem rright_any (F : Int) (x : BitVec 128) (w : World) :
    Calls Try.prog 25 #[.int .i64 F, .agg #[.int .u64 (hI x), .int .u64 (lI x)]] w fun e w' => e = .returned (.int .i64 (rightE F x)) ∧ Below w.heap.size w w' := by
  have KI := fun w => isFamily_any F w
  unfold rightE
  cases h : fam F
  · rw [if_neg (by simp)]
    rw [h] at KI
    go_enter Try.func25, Try.ntmps25
    go_wp2_with fail
    refine (KI _).mono ?_
    rintro e w1 ⟨rfl, rfl⟩
    clear KI
    go_wp2
    go_ret
    exact ⟨rfl, bl1 _ _⟩
  · rw [if_pos rfl]
    rw [h] at KI
    have ha := and_not_mask F x
    have KA := fun w => rand_any x (~~~(maskW F)) w
    generalize x &&& ~~~(maskW F) = y at *
    have fin : ∀ (v : Int), v = (if x &&& maskW F = x then 0 else 6) → ((hI y == 0) = true ∧ (lI y == 0) = true ∧ v = 0 ∨ (hI y == 0) = false ∧ v = 6 ∨ (hI y == 0) = true ∧ (lI y == 0) = false ∧ v = 6) := by
      intro v hv
      rcases three0 y with ⟨a, b, c⟩ | ⟨a, c⟩ | ⟨a, b, c⟩
      · rw [if_pos (ha.mp c)] at hv; exact Or.inl ⟨a, b, hv⟩
      · rw [if_neg (fun q => c (ha.mpr q))] at hv; exact Or.inr (Or.inl ⟨a, hv⟩)
      · rw [if_neg (fun q => c (ha.mpr q))] at hv; exact Or.inr (Or.inr ⟨a, b, hv⟩)
    clear ha h
    generalize (if x &&& maskW F = x then (0 : Int) else 6) = v at *
    rcases fin v rfl with ⟨q1, q2, rfl⟩ | ⟨q1, rfl⟩ | ⟨q1, q2, rfl⟩
    all_goals
      clear fin
      go_enter Try.func25, Try.ntmps25
      go_wp2_with fail
      refine (KI _).mono ?_
      rintro e w1 ⟨rfl, rfl⟩
      clear KI
      have kB := (bl1 w (.cells #[.int .u64 (hI x), .int .u64 (lI x)] 25)).drew
      go_wp2_with fail
      go_region_held3 (fun w' => w'.cell? ⟨w.heap.size, 0, none⟩ = some (.int .u64 (hI x)) ∧ w'.cell? ⟨w.heap.size, 1, none⟩ = some (.int .u64 (lI x)) ∧ Below w.heap.size w w')
        (first
          | (obtain ⟨k1, k2, k9⟩ := ‹_ ∧ _›; exact ⟨keepc hb4 k1, keepc hb4 k2, keepb hb4 k9⟩)
          | (obtain ⟨k1, k2, k9⟩ := ‹_ ∧ _›; exact ⟨keepc hb3 k1, keepc hb3 k2, keepb hb3 k9⟩)
          | (obtain ⟨k1, k2, k9⟩ := ‹_ ∧ _›; exact ⟨keepc hb2 k1, keepc hb2 k2, keepb hb2 k9⟩)
          | exact ⟨by simp [go_sem], by simp [go_sem], kB⟩)
        (first
          | (go_at_call 35; refine (rmask_any _ _).mono ?_; rintro e w2 ⟨rfl, hb2⟩)
          | (go_at_call 34; refine (rnot_any _ _).mono ?_; rintro e w3 ⟨rfl, hb3⟩)
          | (go_at_call 33; refine (KA _).mono ?_; rintro e w4 ⟨rfl, hb4⟩))
      obtain ⟨-, -, kB3⟩ := ‹_ ∧ _›
      go_wp2
      go_ret
      exact ⟨rfl, kB3⟩
end Go.Proofs.Ytbgoclfifhdonaa
namespace Go.Proofs.Ytbgoclfifhdonaa
open Go.RowKit
set_option linter.unusedSimpArgs false
set_option linter.unusedVariables false

def StQ (w : World) (F : Int) (vc : Value) (x : BitVec 128) (r : Ending) (w' : World) : Prop := ∃ B, r = .returned (.pointer (some ⟨B, 0, none⟩)) ∧ w.heap.size ≤ B ∧ MV w' B F vc x (mc0 (rightE F x)) ∧ Below w.heap.size w w'
set_option maxHeartbeats 4000000 in
theorem start19 (F : Int) (co : Option Addr) (cn cc : Nat) (x : BitVec 128) (w : World) :
    Calls Try.prog 20 #[.int .i64 F, .slice co cn cc, .agg #[.int .u64 (hI x), .int .u64 (lI x)]] w (StQ w F (.slice co cn cc) x) := by
  obtain ⟨V, hV⟩ : ∃ V, V = (w.alloc (.cells #[.int .u64 (hI x), .int .u64 (lI x)] 25)).alloc (.cells (mcA F (.slice co cn cc) x (mc0 0)) 50) := ⟨_, rfl⟩
  have q1 := bl1 w (.cells #[.int .u64 (hI x), .int .u64 (lI x)] 25)
  have hs : (w.alloc (.cells #[.int .u64 (hI x), .int .u64 (lI x)] 25)).heap.size = w.heap.size + 1 := by simp
  have HQ : Hid (Below w.heap.size w V) := by rw [hV]; exact keepb (bl1 _ _) q1
  have HM : Hid (MV V (w.heap.size + 1) F (.slice co cn cc) x (mc0 0)) := by rw [hV]; unfold Hid MV; rw [← hs]; exact new_16 _ _
  have HW : Hid (V.heap[w.heap.size]? = some (.cells #[.int .u64 (hI x), .int .u64 (lI x)] 25)) := by rw [hV]; exact old_16 _ (new_16 _ _)
  have w0 := at_16 HW.out 0 _ rfl
  have w1 := at_16 HW.out 1 _ rfl
  have K1 := aright_any F x V
  have HE : Hid (mc0 (rightE F x) = if rightE F x = 0 then mc0 0 else { mc0 0 with en := true, err := rightE F x }) := by
    show _ = _
    unfold mc0
    by_cases q : rightE F x = 0
    · rw [if_pos q, if_pos q, if_pos rfl]
    · rw [if_neg q, if_neg q, if_pos rfl]
  have hmc : mcA F (.slice co cn cc) x (mc0 0) = #[.int .i64 F, .slice co cn cc, .int .u64 (hI x), .int .u64 (lI x), .int .i64 0, .bool false, .int .i64 0, .int .i64 0, .int .i64 0, .int .i64 0, .int .i64 0, .int .i64 0, .int .i64 0, .int .i64 0] := rfl
  rw [hmc] at hV
  unfold StQ
  generalize rightE F x = E at K1 HE ⊢
  clear q1 hs hmc
  go_enter Try.func20, Try.ntmps20
  go_wp2_with fail
  rw [← hV]
  clear hV
  refine K1.mono ?_
  rintro r X ⟨rfl, hb⟩
  have HMX := hid13 (HM.out.below hb)
  have HQX := hid13 (keepb hb HQ.out)
  clear K1 hb w0 w1 HW HM HQ
  by_cases hE : E = 0
  · subst hE
    rw [if_pos rfl] at HE
    clear HE
    go_wp2
    go_ret
    exact ⟨_, rfl, Nat.le_succ _, HMX.out, HQX.out⟩
  · rw [if_neg hE] at HE
    have hne : (E != 0) = true := by simpa using hE
    have K2 := fun Y hY => end19 (w.heap.size + 1) F (.slice co cn cc) x (mc0 0) E Y hY
    clear hE
    go_wp2_with fail
    refine (K2 _ HMX.out).mono ?_
    rintro r Y ⟨rfl, h1, h2⟩
    have HY : Hid (MV Y (w.heap.size + 1) F (.slice co cn cc) x (mc0 E) ∧ Below w.heap.size w Y) := ⟨by rw [HE.out]; exact h1, HQX.out.trans (h2.lo.mono (Nat.le_succ _))⟩
    clear K2 h1 h2 HMX HQX HE
    go_wp2
    go_ret
    exact ⟨_, rfl, Nat.le_succ _, HY.out.1, HY.out.2⟩
theorem fam_right {F : Int} {x : BitVec 128} (h : rightE F x = 0) : F = 32 ∨ F = 128 := by
  unfold rightE at h
  split at h
  · rename_i q
    unfold fam at q
    simp at q
    omega
  · cases h
end Go.Proofs.Ytbgoclfifhdonaa
namespace Go.Proofs.Ytbgoclfifhdonaa
open Go.RowKit
set_option linter.unusedSimpArgs false
set_option linter.unusedVariables false

theorem goM_one (F : Int) (x : BitVec 128) (l : List Nat) (k : Nat) (m : Mc) : goM F x l 1 (goM F x l k m) = goM F x l (k + 1) m := (goM_add F x l k 1 m).symm
end Go.Proofs.Ytbgoclfifhdonaa
namespace Go.Proofs.Ytbgoclfifhdonaa
open Go.RowKit
set_option linter.unusedSimpArgs false
set_option linter.unusedVariables false

def RM9 (W : World) (B : Nat) (F : Int) (vc : Value) (x : BitVec 128) (m : Mc) : Prop := ∃ y hb, RV W B F vc x y { rqO m with hb := hb } ∧ (m.en = false → hb = m.hb ∧ (m.hb ≠ 0 → lI y = m.hn))
theorem RM9.below {W W' : World} {B : Nat} {F : Int} {vc : Value} {x : BitVec 128} {m : Mc} (h : RM9 W B F vc x m) (hb : Below W.heap.size W W') : RM9 W' B F vc x m := by
  obtain ⟨y, q, h1, h2⟩ := h
  exact ⟨y, q, h1.below hb, h2⟩
theorem RM9.lt {W : World} {B : Nat} {F : Int} {vc : Value} {x : BitVec 128} {m : Mc} (h : RM9 W B F vc x m) : B < W.heap.size := by
  obtain ⟨y, q, h1, h2⟩ := h
  exact h1.lt
theorem RM9.keep {W W' : World} {B C : Nat} {F : Int} {vc : Value} {x : BitVec 128} {m : Mc} (h : RM9 W B F vc x m) (hk : KM C W W') (hne : B ≠ C) : RM9 W' B F vc x m := by
  obtain ⟨y, q, h1, h2⟩ := h
  exact ⟨y, q, (hk.ot.2 B h1.lt hne).trans h1, h2⟩
set_option maxRecDepth 20000 in
set_option maxHeartbeats 8000000 in
theorem rstep19 (B : Nat) (F : Int) (vc : Value) (x : BitVec 128) (m : Mc) (l : List Nat) (w : World) (h : RM9 w B F vc x m) (hcb : CB B vc l) (hcode : RwX cB w vc l) (hl : l.length ≤ 100000) (hx : ∀ b ∈ l, b < 256) (hm : MOk F ((l.length / 4 : Nat) : Int) m) :
    Calls Try.prog 17 #[.pointer (some ⟨B, 0, none⟩)] w fun r w' => r = .returned (.bool (decide (m.st < (goM F x l 1 m).st))) ∧ RM9 w' B F vc x (goM F x l 1 m) ∧ KM B w w' := by
  obtain ⟨y, hb, h1, h2⟩ := h
  cases he : m.en with
  | false =>
    obtain ⟨rfl, hy⟩ := h2 he
    rw [show (1 : Nat) = 0 + 1 from rfl, goM_go he]
    refine (rstep_go19 B F vc x y m l w h1 hy hcb hcode hl hx hm he).mono ?_
    rintro e W ⟨rfl, y', hb', h3, h4, h5⟩
    exact ⟨rfl, ⟨y', hb', h3, h4⟩, h5⟩
  | true =>
    rw [goM_en he, decide_eq_false (Int.lt_irrefl _)]
    have HM := hid13 (And.intro h1 h2)
    have c15 : w.cell? ⟨B, 15, none⟩ = some (.bool true) := by have := h1.c15; rw [show ({ rqO m with hb := hb } : Rq).en = m.en from rfl, he] at this; exact this
    clear h1 h2 he
    go_enter Try.func17, Try.ntmps17
    go_wp2
    go_ret
    exact ⟨rfl, ⟨y, hb, HM.out.1, HM.out.2⟩, KM.refl _ _⟩
theorem own_lt19 {W : World} {base e size n : Nat} {v : Value} {xs : List Value} (h : W.ownsRow base e size v n xs) (z : Nat) (hz : v.ownBlock = some z) : z < W.heap.size := by
  obtain ⟨cs, h2⟩ := own_typed18 h z hz
  exact lt_16 h2
def RnQ9 (w : World) (F : Int) (x : BitVec 128) (l : List Nat) (r : Ending) (w' : World) : Prop := ∃ B vc, r = .returned (.pointer (some ⟨B, 0, none⟩)) ∧ w.heap.size ≤ B ∧ RM9 w' B F vc x (mc0 (rightE F x)) ∧ w'.ownsRow w.heap.size 5 1 vc l.length (l.map cB) ∧ (∀ g, vc.ownBlock = some g → g ≠ B) ∧ Below w.heap.size w w'
set_option maxRecDepth 20000 in
set_option maxHeartbeats 8000000 in
theorem rnew19 (F : Int) (v : Value) (x : BitVec 128) (l : List Nat) (w : World) (hA : RowA w 1 v l.length (l.map cB)) (hl : l.length ≤ 100000) :
    Calls Try.prog 13 #[.int .i64 F, v, .agg #[.int .u64 (hI x), .int .u64 (lI x)]] w (RnQ9 w F x l) := by
  obtain ⟨i0, hi, hz0, hz1, hz2⟩ := info13 Try.infoB13
  obtain ⟨-, ao, cc, hvf, -⟩ := id hA
  subst hvf
  obtain ⟨V, hV⟩ : ∃ V, V = (w.alloc (.cells #[.int .u64 (hI x), .int .u64 (lI x)] 25)).alloc (.cells #[.int .i64 F, .slice none 0 0, .int .u64 (hI x), .int .u64 (lI x), .int .i64 0, .int .i64 0, .int .u64 0, .int .u64 0, .int .i64 0, .int .i64 0, .int .i64 0, .int .i64 0, .int .i64 0, .int .i64 0, .int .i64 0, .bool false] 38) := ⟨_, rfl⟩
  have q1 := bl1 w (.cells #[.int .u64 (hI x), .int .u64 (lI x)] 25)
  have hs : (w.alloc (.cells #[.int .u64 (hI x), .int .u64 (lI x)] 25)).heap.size = w.heap.size + 1 := by simp
  have HQ : Hid (Below w.heap.size w V) := by rw [hV]; exact keepb (bl1 _ _) q1
  have hS : V.heap.size = w.heap.size + 2 := by rw [hV]; simp
  have HS := hid13 hS
  have HM : Hid (V.heap[w.heap.size + 1]? = some (.cells #[.int .i64 F, .slice none 0 0, .int .u64 (hI x), .int .u64 (lI x), .int .i64 0, .int .i64 0, .int .u64 0, .int .u64 0, .int .i64 0, .int .i64 0, .int .i64 0, .int .i64 0, .int .i64 0, .int .i64 0, .int .i64 0, .bool false] 38)) := by rw [hV]; unfold Hid; rw [← hs]; exact new_16 _ _
  have HW : Hid (V.heap[w.heap.size]? = some (.cells #[.int .u64 (hI x), .int .u64 (lI x)] 25)) := by rw [hV]; exact old_16 _ (new_16 _ _)
  have HR := hid13 (hA.below HQ.out)
  have m1 : V.cell? ⟨w.heap.size + 1, 1, none⟩ = some (.slice none 0 0) := at_16 HM.out 1 _ rfl
  have HL := hid13 hl
  unfold RnQ9
  have K1 := fun X => rright_any F x X
  have HE : Hid (mc0 (rightE F x) = if rightE F x = 0 then mc0 0 else { mc0 0 with en := true, err := rightE F x }) := by
    show _ = _
    unfold mc0
    by_cases q : rightE F x = 0
    · rw [if_pos q, if_pos q, if_pos rfl]
    · rw [if_neg q, if_neg q, if_pos rfl]
  generalize rightE F x = E at K1 HE ⊢
  clear q1 hs hA hl hS
  go_enter Try.func13, Try.ntmps13
  go_wp2_with (at_builtin; apply stopHere9)
  rw [← hV]
  clear hV
  refine (show wpList _ _ _ _ _ _ from ?_)
  refine wpList_append_rowA rfl _ _ 22 rfl w.heap.size 5 i0 (.int .u8 0) 1 1 Try.underlying22 hi hz0 hz1 hz2 rfl (by decide) _ 0 [] rfl (World.ownsRow_nil _ _ _ _) _ l.length (l.map cB) rfl HR.out (cB_one l) (by have := HL.out; unfold maxLen; omega) (by have := HL.out; omega) (by have := HS.out; omega) ?_
  intro ao4 c4 w4 hO4 hg4
  rw [Nat.zero_add, List.nil_append] at hO4
  rw [Nat.zero_add]
  have hb4 : Below V.heap.size V w4 := (Below.refl V.heap.size V).grown hg4 (Nat.le_refl _) (fun z hz => by cases hz)
  have HM4 : Hid (w4.heap[w.heap.size + 1]? = some (.cells #[.int .i64 F, .slice none 0 0, .int .u64 (hI x), .int .u64 (lI x), .int .i64 0, .int .i64 0, .int .u64 0, .int .u64 0, .int .i64 0, .int .i64 0, .int .i64 0, .int .i64 0, .int .i64 0, .int .i64 0, .int .i64 0, .bool false] 38)) := (hb4.block _ (lt_16 HM.out)).trans HM.out
  have HW4 : Hid (w4.heap[w.heap.size]? = some (.cells #[.int .u64 (hI x), .int .u64 (lI x)] 25)) := (hb4.block _ (lt_16 HW.out)).trans HW.out
  have HB4 : Hid (Below w.heap.size w w4) := HQ.out.trans (hb4.mono HQ.out.size)
  have HO4 := hid13 hO4
  have HN4 : Hid ((Value.slice ao4 l.length c4).ownBlock ≠ some (w.heap.size + 1)) := hid13 (own_not18 hO4 HM4.out (by decide))
  have k1 : w4.cell? ⟨w.heap.size + 1, 1, none⟩ = some (.slice none 0 0) := at_16 HM4.out 1 _ rfl
  have f1 := fr_16 (j := 1) HM4.out
  have a0 := at_16 HW4.out 0 _ rfl
  have a1 := at_16 HW4.out 1 _ rfl
  have hne : ¬ w.heap.size = w.heap.size + 1 := by omega
  have hne2 : ¬ w.heap.size + 1 = w.heap.size := by omega
  clear hO4 hg4 hb4 HM HW HQ HR m1
  go_wp2_with fail
  have HV5 : Hid (RV (w4.setCell ⟨w.heap.size + 1, 1, none⟩ (.slice ao4 l.length c4)) (w.heap.size + 1) F (.slice ao4 l.length c4) x 0#128 (rqO (mc0 0)) ∧ (w4.setCell ⟨w.heap.size + 1, 1, none⟩ (.slice ao4 l.length c4)).ownsRow w.heap.size 5 1 (.slice ao4 l.length c4) l.length (l.map cB) ∧ Below w.heap.size w (w4.setCell ⟨w.heap.size + 1, 1, none⟩ (.slice ao4 l.length c4))) := by
    refine ⟨?_, own_keep18 HO4.out (fun z hz => far_16 (fun q => HN4.out (by rw [← q]; exact hz))), HB4.out.setCell (p := ⟨w.heap.size + 1, 1, none⟩) (Nat.le_succ _) _⟩
    unfold RV
    rw [set_16 HM4.out]
    unfold rqA
    rw [hI_zero, lI_zero]
    rfl
  generalize w4.setCell ⟨w.heap.size + 1, 1, none⟩ (.slice ao4 l.length c4) = V5 at HV5 ⊢
  clear HM4 HW4 HB4 HO4 k1 f1 a0 a1
  refine (K1 _).mono ?_
  rintro r X ⟨rfl, hb⟩
  have HX : Hid (RV X (w.heap.size + 1) F (.slice ao4 l.length c4) x 0#128 (rqO (mc0 0)) ∧ X.ownsRow w.heap.size 5 1 (.slice ao4 l.length c4) l.length (l.map cB) ∧ Below w.heap.size w X) := ⟨HV5.out.1.below hb, own_b13 hb HV5.out.2.1, HV5.out.2.2.trans (hb.mono HV5.out.2.2.size)⟩
  clear K1 hb HV5
  by_cases hE : E = 0
  · subst hE
    rw [if_pos rfl] at HE
    clear HE
    go_wp2
    go_ret
    exact ⟨_, _, rfl, Nat.le_succ _, ⟨0#128, 0, HX.out.1, fun _ => ⟨rfl, fun q => absurd rfl q⟩⟩, HX.out.2.1, fun g hg q => HN4.out (by rw [← q]; exact hg), HX.out.2.2⟩
  · rw [if_neg hE] at HE
    have hne3 : (E != 0) = true := by simpa using hE
    have K2 := fun Y hY => rfail19 (w.heap.size + 1) F (.slice ao4 l.length c4) x 0#128 (rqO (mc0 0)) E Y hY
    clear hE
    go_wp2_with fail
    refine (K2 _ HX.out.1).mono ?_
    rintro r Y ⟨rfl, h1, h2⟩
    have HY : Hid (RV Y (w.heap.size + 1) F (.slice ao4 l.length c4) x 0#128 { rqO (mc0 E) with hb := 0 } ∧ Y.ownsRow w.heap.size 5 1 (.slice ao4 l.length c4) l.length (l.map cB) ∧ Below w.heap.size w Y ∧ (mc0 E).en = true) := ⟨by rw [HE.out]; exact h1, own_keep18 HX.out.2.1 (fun z hz => h2.ot.2 z (own_lt19 HX.out.2.1 z hz) (fun q => HN4.out (by rw [← q]; exact hz))), HX.out.2.2.trans (h2.lo.mono (Nat.le_succ _)), by rw [HE.out]⟩
    clear K2 h1 h2 HX HE
    go_wp2
    go_ret
    exact ⟨_, _, rfl, Nat.le_succ _, ⟨0#128, 0, HY.out.1, fun q => (by rw [HY.out.2.2.2] at q; cases q)⟩, HY.out.2.1, fun g hg q => HN4.out (by rw [← q]; exact hg), HY.out.2.2.1⟩
end Go.Proofs.Ytbgoclfifhdonaa
namespace Go.Proofs.Ytbgoclfifhdonaa
open Go.RowKit
set_option linter.unusedSimpArgs false
set_option linter.unusedVariables false

def rsV (m : Mc) : Value := .agg #[.int .i64 m.hop, .int .i64 m.err, .int .i64 m.st, .int .i64 m.ex, .int .i64 m.ix, .int .i64 m.bt]
set_option maxHeartbeats 4000000 in
theorem result19 (B : Nat) (F : Int) (vc : Value) (x : BitVec 128) (m : Mc) (w : World) (h : MV w B F vc x m) :
    Calls Try.prog 14 #[.pointer (some ⟨B, 0, none⟩)] w fun r w' => r = .returned (rsV m) ∧ Below w.heap.size w w' := by
  unfold rsV
  have q1 := bl1 w (.cells #[.int .i64 0, .int .i64 0, .int .i64 0, .int .i64 0, .int .i64 0, .int .i64 0] 29)
  have HQ := hid13 q1
  have HM := h.below q1
  have c6 := HM.c6
  have c7 := HM.c7
  have c8 := HM.c8
  have c9 := HM.c9
  have c10 := HM.c10
  have c11 := HM.c11
  clear h HM q1
  go_enter Try.func14, Try.ntmps14
  go_wp2
  refine bodyPost_ret (v := .agg #[.int .i64 m.hop, .int .i64 m.err, .int .i64 m.st, .int .i64 m.ex, .int .i64 m.ix, .int .i64 m.bt]) (by simp [results, Try.results14, go_sem, *]) rfl ⟨rfl, ?_⟩
  exact bl1 _ _
set_option maxHeartbeats 2000000 in
theorem place19 (B : Nat) (F : Int) (vc : Value) (x : BitVec 128) (m : Mc) (w : World) (h : MV w B F vc x m) :
    Calls Try.prog 15 #[.pointer (some ⟨B, 0, none⟩)] w fun r w' => r = .returned (.int .i64 m.pl) ∧ w' = w := by
  have c4 := h.c4
  clear h
  go_enter Try.func15, Try.ntmps15
  go_wp2
  go_ret
  exact ⟨rfl, rfl⟩
set_option maxHeartbeats 4000000 in
theorem step19 (B : Nat) (F : Int) (vc : Value) (x : BitVec 128) (m : Mc) (l : List Nat) (w : World) (h : MV w B F vc x m) (hcb : CB B vc l) (hcode : RwX cB w vc l) (hl : l.length ≤ 16777216) (hx : ∀ b ∈ l, b < 256) (hm : MOk F ((l.length / 4 : Nat) : Int) m) :
    Calls Try.prog 16 #[.pointer (some ⟨B, 0, none⟩)] w fun r w' => r = .returned (.bool (decide (m.st < (goM F x l 1 m).st))) ∧ MV w' B F vc x (goM F x l 1 m) ∧ KM B w w' := by
  have K1 := goOn19 B F vc x m 1 l w h hcb hcode hl hx hm (by decide)
  rw [show (1 : Int).toNat = 1 from rfl] at K1
  generalize goM F x l 1 m = m2 at K1 ⊢
  have c8 := h.c8
  clear h hcb hcode hl hx hm
  go_enter Try.func16, Try.ntmps16
  go_wp2_with fail
  refine K1.mono ?_
  rintro r X ⟨rfl, h1, h2⟩
  have k8 := h1.c8
  have HX := hid13 (And.intro h1 h2)
  clear K1 h1 h2
  go_wp2
  go_ret
  exact ⟨rfl, HX.out.1, HX.out.2⟩
end Go.Proofs.Ytbgoclfifhdonaa
namespace Go.Proofs.Ytbgoclfifhdonaa
open Go.RowKit
set_option linter.unusedSimpArgs false
set_option linter.unusedVariables false

end Go.Proofs.Ytbgoclfifhdonaa
namespace Go.Proofs.Ytbgoclfifhdonaa
open Go.RowKit
set_option linter.unusedSimpArgs false
set_option linter.unusedVariables false

end Go.Proofs.Ytbgoclfifhdonaa
namespace Go.Proofs.Ytbgoclfifhdonaa
open Go.RowKit
set_option linter.unusedSimpArgs false
set_option linter.unusedVariables false

theorem ruM_def (F : Int) (x : BitVec 128) (l : List Nat) (k : Nat) : ruM F x l (rightE F x) k = if (goM F x l k (mc0 (rightE F x))).en = true then goM F x l k (mc0 (rightE F x)) else { goM F x l k (mc0 (rightE F x)) with en := true, err := 29 } := rfl
set_option maxHeartbeats 8000000 in
theorem run19 (F : Int) (vc : Value) (x : BitVec 128) (n : Int) (l : List Nat) (w : World) (hcode : RwX cB w vc l) (hl : l.length ≤ 16777216) (hx : ∀ b ∈ l, b < 256) (hn : n ≤ 9223372036854775807) :
    Calls Try.prog 10 #[.int .i64 F, vc, .agg #[.int .u64 (hI x), .int .u64 (lI x)], .int .i64 n] w fun r w' => r = .returned (rsV (ruM F x l (rightE F x) n.toNat)) ∧ Below w.heap.size w w' := by
  obtain ⟨co, cc, rfl, -⟩ := id hcode
  obtain ⟨V, hV⟩ : ∃ V, V = (w.alloc (.cells #[.int .u64 (hI x), .int .u64 (lI x)] 25)).alloc (.cells #[.int .i64 0, .int .i64 0, .int .i64 0, .int .i64 0, .int .i64 0, .int .i64 0] 29) := ⟨_, rfl⟩
  have q1 := bl1 w (.cells #[.int .u64 (hI x), .int .u64 (lI x)] 25)
  have hs : (w.alloc (.cells #[.int .u64 (hI x), .int .u64 (lI x)] 25)).heap.size = w.heap.size + 1 := by simp
  have HQ : Hid (Below w.heap.size w V) := by rw [hV]; exact keepb (bl1 _ _) q1
  have HS : Hid (V.heap.size = w.heap.size + 2) := by rw [hV]; show _ = _; simp
  have HR : Hid (V.heap[w.heap.size + 1]? = some (.cells #[.int .i64 0, .int .i64 0, .int .i64 0, .int .i64 0, .int .i64 0, .int .i64 0] 29)) := by rw [hV]; unfold Hid; rw [← hs]; exact new_16 _ _
  have HW : Hid (V.heap[w.heap.size]? = some (.cells #[.int .u64 (hI x), .int .u64 (lI x)] 25)) := by rw [hV]; exact old_16 _ (new_16 _ _)
  have w0 := at_16 HW.out 0 _ rfl
  have w1 := at_16 HW.out 1 _ rfl
  have K1 := start19 F co l.length cc x V
  have HCd := hid13 hcode
  have HL := hid13 (And.intro hl hx)
  have HN := hid13 hn
  have HU := hid13 (ruM_def F x l n.toNat)
  have HOK : Hid (MOk F ((l.length / 4 : Nat) : Int) (mc0 (rightE F x))) := mc0_ok (by omega) fam_right
  unfold StQ at K1
  unfold rsV
  generalize rightE F x = E at K1 HU HOK ⊢
  clear q1 hs hcode hl hx hn
  go_enter Try.func10, Try.ntmps10
  go_wp2_with fail
  rw [← hV]
  clear hV
  refine K1.mono ?_
  rintro r X ⟨B, rfl, hB, hMX, hbX⟩
  have HX : Hid (MV X B F (.slice co l.length cc) x (mc0 E) ∧ Below V.heap.size V X ∧ V.heap.size ≤ B) := ⟨hMX, hbX, hB⟩
  have KG := goOn19 B F (.slice co l.length cc) x (mc0 E) n l X hMX (CB.ne (HCd.out.below HQ.out) hB) ((HCd.out.below HQ.out).below hbX) HL.out.1 HL.out.2 HOK.out HN.out
  clear K1 hB hMX hbX w0 w1 HW
  go_wp2_with fail
  refine KG.mono ?_
  rintro r Y ⟨rfl, h1, h2⟩
  have HRY : Hid (Y.heap[w.heap.size + 1]? = some (.cells #[.int .i64 0, .int .i64 0, .int .i64 0, .int .i64 0, .int .i64 0, .int .i64 0] 29) ∧ w.heap.size + 1 ≠ B) := by
    have h3 := HX.out.2.2
    have h4 := HS.out
    refine ⟨(h2.ot.2 _ ?_ (by omega)).trans ((HX.out.2.1.block _ (lt_16 HR.out)).trans HR.out), by omega⟩
    have := HX.out.2.1.size
    omega
  have HBY : Hid (Below w.heap.size w Y ∧ w.heap.size ≤ B) := by
    have h3 := HX.out.2.2
    have h4 := HS.out
    exact ⟨(HQ.out.trans (HX.out.2.1.mono (by omega))).trans (h2.lo.mono (by omega)), by omega⟩
  generalize goM F x l n.toNat (mc0 E) = mG at h1 HU
  have c5 := h1.c5
  have HMY := hid13 h1
  clear KG h1 h2 HX HR HCd HL HN HOK HQ HS
  cases he : mG.en with
  | true =>
    rw [he] at c5
    rw [he, if_pos rfl] at HU
    clear he
    have K3 := fun Z hZ => result19 B F (.slice co l.length cc) x mG Z hZ
    unfold rsV at K3
    go_wp2_with fail
    refine (K3 _ HMY.out).mono ?_
    rintro r Z ⟨rfl, hb⟩
    have hz := (hb.block _ (lt_16 HRY.out.1)).trans HRY.out.1
    have HBZ : Hid (Below w.heap.size w Z) := HBY.out.1.trans (hb.mono HBY.out.1.size)
    have z0 := at_16 hz 0 _ rfl
    have z1 := at_16 hz 1 _ rfl
    have z2 := at_16 hz 2 _ rfl
    have z3 := at_16 hz 3 _ rfl
    have z4 := at_16 hz 4 _ rfl
    have z5 := at_16 hz 5 _ rfl
    have y0 := fr_16 (j := 0) hz
    have y1 := fr_16 (j := 1) hz
    have y2 := fr_16 (j := 2) hz
    have y3 := fr_16 (j := 3) hz
    have y4 := fr_16 (j := 4) hz
    have y5 := fr_16 (j := 5) hz
    clear K3 hb hz c5 HMY HRY HBY
    go_wp2
    refine bodyPost_ret (v := .agg #[.int .i64 mG.hop, .int .i64 mG.err, .int .i64 mG.st, .int .i64 mG.ex, .int .i64 mG.ix, .int .i64 mG.bt]) (by simp [results, Try.results10, go_sem, *]) rfl ⟨by rw [HU.out]; first | done | rfl, ?_⟩
    exact (((((HBZ.out.setCell (p := ⟨w.heap.size + 1, 0, none⟩) (Nat.le_succ _) _).setCell (p := ⟨w.heap.size + 1, 1, none⟩) (Nat.le_succ _) _).setCell (p := ⟨w.heap.size + 1, 2, none⟩) (Nat.le_succ _) _).setCell (p := ⟨w.heap.size + 1, 3, none⟩) (Nat.le_succ _) _).setCell (p := ⟨w.heap.size + 1, 4, none⟩) (Nat.le_succ _) _).setCell (p := ⟨w.heap.size + 1, 5, none⟩) (Nat.le_succ _) _
  | false =>
    rw [he] at c5
    rw [he, if_neg (by decide)] at HU
    clear he
    have K2 := fun Z hZ => end19 B F (.slice co l.length cc) x mG 29 Z hZ
    have K3 := fun Z hZ => result19 B F (.slice co l.length cc) x { mG with en := true, err := 29 } Z hZ
    unfold rsV at K3
    dsimp only at K3 ⊢
    go_wp2_with fail
    refine (K2 _ HMY.out).mono ?_
    rintro r Y2 ⟨rfl, h1, h2⟩
    have HRY2 : Hid (Y2.heap[w.heap.size + 1]? = some (.cells #[.int .i64 0, .int .i64 0, .int .i64 0, .int .i64 0, .int .i64 0, .int .i64 0] 29)) := (h2.ot.2 _ (lt_16 HRY.out.1) HRY.out.2).trans HRY.out.1
    have HBY2 : Hid (Below w.heap.size w Y2) := HBY.out.1.trans (h2.lo.mono HBY.out.2)
    have HM2 := hid13 h1
    clear K2 h1 h2 c5 HMY HRY HBY
    go_wp2_with fail
    refine (K3 _ HM2.out).mono ?_
    rintro r Z ⟨rfl, hb⟩
    have hz := (hb.block _ (lt_16 HRY2.out)).trans HRY2.out
    have HBZ : Hid (Below w.heap.size w Z) := HBY2.out.trans (hb.mono HBY2.out.size)
    have z0 := at_16 hz 0 _ rfl
    have z1 := at_16 hz 1 _ rfl
    have z2 := at_16 hz 2 _ rfl
    have z3 := at_16 hz 3 _ rfl
    have z4 := at_16 hz 4 _ rfl
    have z5 := at_16 hz 5 _ rfl
    have y0 := fr_16 (j := 0) hz
    have y1 := fr_16 (j := 1) hz
    have y2 := fr_16 (j := 2) hz
    have y3 := fr_16 (j := 3) hz
    have y4 := fr_16 (j := 4) hz
    have y5 := fr_16 (j := 5) hz
    clear K3 hb hz HM2 HRY2 HBY2
    go_wp2
    refine bodyPost_ret (v := .agg #[.int .i64 mG.hop, .int .i64 29, .int .i64 mG.st, .int .i64 mG.ex, .int .i64 mG.ix, .int .i64 mG.bt]) (by simp [results, Try.results10, go_sem, *]) rfl ⟨by rw [HU.out]; first | done | rfl, ?_⟩
    exact (((((HBZ.out.setCell (p := ⟨w.heap.size + 1, 0, none⟩) (Nat.le_succ _) _).setCell (p := ⟨w.heap.size + 1, 1, none⟩) (Nat.le_succ _) _).setCell (p := ⟨w.heap.size + 1, 2, none⟩) (Nat.le_succ _) _).setCell (p := ⟨w.heap.size + 1, 3, none⟩) (Nat.le_succ _) _).setCell (p := ⟨w.heap.size + 1, 4, none⟩) (Nat.le_succ _) _).setCell (p := ⟨w.heap.size + 1, 5, none⟩) (Nat.le_succ _) _
end Go.Proofs.Ytbgoclfifhdonaa
namespace Go.Proofs.Ytbgoclfifhdonaa
open Go.RowKit
set_option linter.unusedSimpArgs false
set_option linter.unusedVariables false

theorem eqR_run (a b c d e f a' b' c' d' e' f' : Int) (w : World) :
    (Op.equalIn 10000 29 (.agg #[.int .i64 a, .int .i64 b, .int .i64 c, .int .i64 d, .int .i64 e, .int .i64 f]) (.agg #[.int .i64 a', .int .i64 b', .int .i64 c', .int .i64 d', .int .i64 e', .int .i64 f'])).run Try.prog w = .ok ((a == a') && ((b == b') && ((c == c') && ((d == d') && ((e == e') && (f == f')))))) w := by
  by_cases h1 : a = a'
  · by_cases h2 : b = b'
    · by_cases h3 : c = c'
      · by_cases h4 : d = d'
        · by_cases h5 : e = e'
          · by_cases h6 : f = f'
            · subst h1 h2 h3 h4 h5 h6; go_simp
              try simp [*]
            · subst h1 h2 h3 h4 h5; go_simp
              try simp [*]
          · subst h1 h2 h3 h4; go_simp
            try simp [*]
        · subst h1 h2 h3; go_simp
          try simp [*]
      · subst h1 h2; go_simp
        try simp [*]
    · subst h1; go_simp
      try simp [*]
  · go_simp
    try simp [*]
theorem rwx_new19 (w : World) (l : List Nat) (T : TypeId) : RwX cB (w.alloc (.cells (l.map cB).toArray T)) (.slice (some ⟨w.heap.size, 0, none⟩) l.length l.length) l := by
  refine ⟨_, _, rfl, Nat.le_refl _, .inr ⟨w.heap.size, 0, rfl, fun j x hj => ?_⟩⟩
  refine at_16 (new_16 _ _) _ _ ?_
  rw [Nat.zero_add, List.getElem?_toArray, List.getElem?_map, hj]; rfl
theorem right_zero : rightE 32 0#128 = 0 := by decide +kernel
theorem kn19_dc : dcE [4, 0, 0, 9] 0 = 0 ∧ dcI [4, 0, 0, 9] 0 = ⟨4, 9, []⟩ := by
  have h := dec_enc [] [] 0 4 9 [] rfl (by decide)
  exact ⟨h.1, h.2.1⟩
theorem kn19_ru : ruM 32 0#128 [4, 0, 0, 9] 0 5 = ⟨0, true, 9, 0, 1, 0, 0, 0, 0, 0⟩ := by
  have h1 : (mc0 0).en = false := rfl
  have h2 : stM 32 0#128 [4, 0, 0, 9] (mc0 0) = ⟨0, true, 9, 0, 1, 0, 0, 0, 0, 0⟩ := by
    have e1 : (mc0 0).pl = 0 := rfl
    rw [stM_ok (by rw [e1]; exact kn19_dc.1) (by rw [e1, kn19_dc.2]; rfl), e1, kn19_dc.2]
    rfl
  have h3 : goM 32 0#128 [4, 0, 0, 9] 5 (mc0 0) = ⟨0, true, 9, 0, 1, 0, 0, 0, 0, 0⟩ := by
    rw [goM_go h1, h2, goM_en rfl]
  unfold ruM
  rw [h3]; rfl
set_option maxRecDepth 100000 in
set_option maxHeartbeats 8000000 in
theorem known19 (w : World) :
    Calls Try.prog 9 #[] w fun e w' => e = .returned (.bool true) ∧ Below w.heap.size w w' := by
  have q1 := bl1 w (.cells #[.int .u8 4, .int .u8 0, .int .u8 0, .int .u8 9] 5)
  have hr : RwX cB (w.alloc (.cells #[.int .u8 4, .int .u8 0, .int .u8 0, .int .u8 9] 5)) (.slice (some ⟨w.heap.size, 0, none⟩) 4 4) [4, 0, 0, 9] := rwx_new19 w [4, 0, 0, 9] 5
  have K1 := run19 32 (.slice (some ⟨w.heap.size, 0, none⟩) 4 4) 0#128 5 [4, 0, 0, 9] _ hr (by decide) (by decide) (by decide)
  rw [right_zero, show (5 : Int).toNat = 5 from rfl, kn19_ru, hI_zero, lI_zero] at K1
  unfold rsV at K1
  have HQ := hid13 q1
  have hq := eqR_run 9 0 1 0 0 0 9 0 1 0 0 0
  clear q1 hr
  go_enter Try.func9, Try.ntmps9
  go_wp2_with fail
  refine K1.mono ?_
  rintro e w1 ⟨rfl, hb1⟩
  have HB1 := hid13 (keepb hb1 HQ.out)
  have HB2 : Hid (Below w.heap.size w (w1.alloc (.cells #[.int .i64 9, .int .i64 0, .int .i64 1, .int .i64 0, .int .i64 0, .int .i64 0] 29))) := keepb (bl1 w1 _) HB1.out
  clear K1 hb1 HQ
  go_wp2
  go_ret
  exact ⟨rfl, HB2.out⟩
end Go.Proofs.Ytbgoclfifhdonaa
namespace Go.Proofs.Ytbgoclfifhdonaa
open Go.RowKit Go.Shelf
set_option linter.unusedSimpArgs false
set_option linter.unusedVariables false

section
variable {P : Program}
end
end Go.Proofs.Ytbgoclfifhdonaa
namespace Go.Proofs.Ytbgoclfifhdonaa
open Go.RowKit Go.Shelf
set_option linter.unusedSimpArgs false
set_option linter.unusedVariables false
attribute [local go_sem] Oper.semAt_some

set_option maxRecDepth 20000 in
set_option maxHeartbeats 2000000 in
theorem clone14 (v : Value) (l : List Nat) (w : World) (hA : RowA w 1 v l.length (l.map cB)) (hl : l.length ≤ 140737480000000) :
    Calls Try.prog 24 #[v] w fun e w' => ∃ v', e = .returned v' ∧ w'.ownsRow w.heap.size 5 1 v' l.length (l.map cB) ∧ Below w.heap.size w w' := by
  obtain ⟨i0, hi, hz0, hz1, hz2⟩ := info13 Try.infoB13
  obtain ⟨-, ao, c, hvf, -⟩ := id hA
  subst hvf
  have hq : ∀ (w : World) (a : Option Addr) (n c n' c' : Nat), (binOp .eql 22 (.slice a n c) (.slice none n' c')).run Try.prog w = .ok (.bool a.isNone) w := fun w a n c n' c' => Lib.run_eql_slice_nil w 22 5 a n c n' c' Try.underlying22
  have q3 := bl1 w (.cells #[] 5)
  have HR3 := hid13 (hA.below q3)
  have HO3 : Hid ((w.alloc (.cells #[] 5)).ownsRow w.heap.size 5 1 (.slice (some ⟨w.heap.size, 0, none⟩) 0 0) 0 []) := World.ownsRow_made w #[] 0 (Nat.le_refl _) (by unfold maxLen; omega) (by simp)
  have HQ := hid13 q3
  cases ao with
  | none =>
    have hl0 : l = [] := by
      obtain ⟨-, ao', c', e, -, h⟩ := hA
      injection e with e1 e2 e3
      subst e1
      rcases h with ⟨-, -, h⟩ | ⟨b, h, -⟩
      · simpa using h
      · cases h
    subst hl0
    clear hA q3 HR3 HO3 HQ
    go_enter Try.func24, Try.ntmps24
    go_wp2
    go_ret
    exact ⟨_, rfl, World.ownsRow_nil _ _ _ _, Below.refl _ _⟩
  | some ad =>
    clear hA
    go_enter Try.func24, Try.ntmps24
    go_wp2_with (at_builtin; apply stopHere9)
    refine (show wpList _ _ _ _ _ _ from ?_)
    refine wpList_append_rowA rfl _ _ 22 rfl w.heap.size 5 i0 (.int .u8 0) 1 1 Try.underlying22 hi hz0 hz1 hz2 rfl (by decide) _ 0 [] rfl HO3.out _ l.length (l.map cB) rfl HR3.out (cB_one l) (by unfold maxLen; omega) (by omega) q3.size ?_
    intro ao4 c4 w4 hO4 hg4
    rw [Nat.zero_add, List.nil_append] at hO4
    rw [Nat.zero_add]
    have HB4 : Hid (Below w.heap.size w w4) := hid13 (HQ.out.grown hg4 HQ.out.size (fun z hz => (HO3.out.lt z hz).1))
    have HO4 := hid13 hO4
    clear hO4 hg4 q3 HR3 HO3 HQ
    go_wp2
    go_ret
    exact ⟨_, rfl, HO4.out, HB4.out⟩
end Go.Proofs.Ytbgoclfifhdonaa
