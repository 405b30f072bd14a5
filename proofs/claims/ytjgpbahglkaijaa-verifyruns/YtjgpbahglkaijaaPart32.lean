/-
  Part 32 of the proof: 20 texts, one behind the other.
-/
import Derived.Test.YtjgpbahglkaijaaPart30
import Derived.Test.YtjgpbahglkaijaaPart22
import Derived.Test.YtjgpbahglkaijaaPart31
import Derived.Test.YtjgpbahglkaijaaPart26
import Derived.Test.YtjgpbahglkaijaaPart1
import Derived.Test.YtjgpbahglkaijaaPart6
import Derived.Test.YtjgpbahglkaijaaPart5
import Derived.Test.YtjgpbahglkaijaaPart18
import Derived.Test.YtjgpbahglkaijaaPart27
import Derived.Test.YtjgpbahglkaijaaPart28
import Derived.Deep.Slices
import Derived.Carry
import Derived.SizedLaws
import Derived.ProofKit
import Derived.Lib.SmallJoins
import Derived.Test.YtjgpbahglkaijaaPart3
import Derived.Deep.Strs
namespace Go.Proofs.Ytjgpbahglkaijaa
open Go.RowKit
set_option linter.unusedSimpArgs false
set_option linter.unusedVariables false

theorem fam_right {F : Int} {x : BitVec 128} (h : rightE F x = 0) : F = 32 ∨ F = 128 := by
  unfold rightE at h
  split at h
  · rename_i q
    unfold fam at q
    simp at q
    omega
  · cases h
end Go.Proofs.Ytjgpbahglkaijaa
namespace Go.Proofs.Ytjgpbahglkaijaa
open Go.RowKit
set_option linter.unusedSimpArgs false
set_option linter.unusedVariables false

theorem ru_done {F : Int} {x : BitVec 128} {l : List Nat} {E : Int} {k n : Nat} (h : (goM F x l k (mc0 E)).en = true) (hk : k ≤ n) : ruM F x l E n = goM F x l k (mc0 E) := by
  unfold ruM
  rw [goM_more h hk, if_pos h]
theorem goM_one (F : Int) (x : BitVec 128) (l : List Nat) (k : Nat) (m : Mc) : goM F x l 1 (goM F x l k m) = goM F x l (k + 1) m := (goM_add F x l k 1 m).symm
end Go.Proofs.Ytjgpbahglkaijaa
namespace Go.Proofs.Ytjgpbahglkaijaa
open Go.RowKit
set_option linter.unusedSimpArgs false
set_option linter.unusedVariables false

def RM9 (W : World) (B : Nat) (F : Int) (vc : Value) (x : BitVec 128) (m : Mc) : Prop := ∃ y hb, RV W B F vc x y { rqO m with hb := hb } ∧ (m.en = false → hb = m.hb ∧ (m.hb ≠ 0 → lI y = m.hn))
theorem RM9.below {W W' : World} {B : Nat} {F : Int} {vc : Value} {x : BitVec 128} {m : Mc} (h : RM9 W B F vc x m) (hb : Below W.heap.size W W') : RM9 W' B F vc x m := by
  obtain ⟨y, q, h1, h2⟩ := h
  exact ⟨y, q, h1.below hb, h2⟩
theorem RM9.lt {W : World} {B : Nat} {F : Int} {vc : Value} {x : BitVec 128} {m : Mc} (h : RM9 W B F vc x m) : B < W.heap.size := by
  obtain ⟨y, q, h1, h2⟩ := h
  exact h1.lt
theorem RM9.keep {W W' : World} {B C : Nat} {F : Int} {vc : Value} {x : BitVec 128} {m : Mc} (h : RM9 W B F vc x m) (hk : KM C W W') (hne : B ≠ C) : RM9 W' B F vc x m := by
  obtain ⟨y, q, h1, h2⟩ := h
  exact ⟨y, q, (hk.ot.2 B h1.lt hne).trans h1, h2⟩
set_option maxRecDepth 20000 in
set_option maxHeartbeats 8000000 in
theorem rstep19 (B : Nat) (F : Int) (vc : Value) (x : BitVec 128) (m : Mc) (l : List Nat) (w : World) (h : RM9 w B F vc x m) (hcb : CB B vc l) (hcode : RwX cB w vc l) (hl : l.length ≤ 100000) (hx : ∀ b ∈ l, b < 256) (hm : MOk F ((l.length / 4 : Nat) : Int) m) :
    Calls Try.prog 38 #[.pointer (some ⟨B, 0, none⟩)] w fun r w' => r = .returned (.bool (decide (m.st < (goM F x l 1 m).st))) ∧ RM9 w' B F vc x (goM F x l 1 m) ∧ KM B w w' := by
  obtain ⟨y, hb, h1, h2⟩ := h
  cases he : m.en with
  | false =>
    obtain ⟨rfl, hy⟩ := h2 he
    rw [show (1 : Nat) = 0 + 1 from rfl, goM_go he]
    refine (rstep_go19 B F vc x y m l w h1 hy hcb hcode hl hx hm he).mono ?_
    rintro e W ⟨rfl, y', hb', h3, h4, h5⟩
    exact ⟨rfl, ⟨y', hb', h3, h4⟩, h5⟩
  | true =>
    rw [goM_en he, decide_eq_false (Int.lt_irrefl _)]
    have HM := hid13 (And.intro h1 h2)
    have c15 : w.cell? ⟨B, 15, none⟩ = some (.bool true) := by have := h1.c15; rw [show ({ rqO m with hb := hb } : Rq).en = m.en from rfl, he] at this; exact this
    clear h1 h2 he
    go_enter Try.func38, Try.ntmps38
    go_wp2
    go_ret
    exact ⟨rfl, ⟨y, hb, HM.out.1, HM.out.2⟩, KM.refl _ _⟩
theorem own_lt19 {W : World} {base e size n : Nat} {v : Value} {xs : List Value} (h : W.ownsRow base e size v n xs) (z : Nat) (hz : v.ownBlock = some z) : z < W.heap.size := by
  obtain ⟨cs, h2⟩ := own_typed18 h z hz
  exact lt_16 h2
def RnQ9 (w : World) (F : Int) (x : BitVec 128) (l : List Nat) (r : Ending) (w' : World) : Prop := ∃ B vc, r = .returned (.pointer (some ⟨B, 0, none⟩)) ∧ w.heap.size ≤ B ∧ RM9 w' B F vc x (mc0 (rightE F x)) ∧ w'.ownsRow w.heap.size 5 1 vc l.length (l.map cB) ∧ (∀ g, vc.ownBlock = some g → g ≠ B) ∧ Below w.heap.size w w'
set_option maxRecDepth 20000 in
set_option maxHeartbeats 8000000 in
theorem rnew19 (F : Int) (v : Value) (x : BitVec 128) (l : List Nat) (w : World) (hA : RowA w 1 v l.length (l.map cB)) (hl : l.length ≤ 100000) :
    Calls Try.prog 36 #[.int .i64 F, v, .agg #[.int .u64 (hI x), .int .u64 (lI x)]] w (RnQ9 w F x l) := by
  obtain ⟨i0, hi, hz0, hz1, hz2⟩ := info13 Try.infoB13
  obtain ⟨-, ao, cc, hvf, -⟩ := id hA
  subst hvf
  obtain ⟨V, hV⟩ : ∃ V, V = (w.alloc (.cells #[.int .u64 (hI x), .int .u64 (lI x)] 47)).alloc (.cells #[.int .i64 F, .slice none 0 0, .int .u64 (hI x), .int .u64 (lI x), .int .i64 0, .int .i64 0, .int .u64 0, .int .u64 0, .int .i64 0, .int .i64 0, .int .i64 0, .int .i64 0, .int .i64 0, .int .i64 0, .int .i64 0, .bool false] 93) := ⟨_, rfl⟩
  have q1 := bl1 w (.cells #[.int .u64 (hI x), .int .u64 (lI x)] 47)
  have hs : (w.alloc (.cells #[.int .u64 (hI x), .int .u64 (lI x)] 47)).heap.size = w.heap.size + 1 := by simp
  have HQ : Hid (Below w.heap.size w V) := by rw [hV]; exact keepb (bl1 _ _) q1
  have hS : V.heap.size = w.heap.size + 2 := by rw [hV]; simp
  have HS := hid13 hS
  have HM : Hid (V.heap[w.heap.size + 1]? = some (.cells #[.int .i64 F, .slice none 0 0, .int .u64 (hI x), .int .u64 (lI x), .int .i64 0, .int .i64 0, .int .u64 0, .int .u64 0, .int .i64 0, .int .i64 0, .int .i64 0, .int .i64 0, .int .i64 0, .int .i64 0, .int .i64 0, .bool false] 93)) := by rw [hV]; unfold Hid; rw [← hs]; exact new_16 _ _
  have HW : Hid (V.heap[w.heap.size]? = some (.cells #[.int .u64 (hI x), .int .u64 (lI x)] 47)) := by rw [hV]; exact old_16 _ (new_16 _ _)
  have HR := hid13 (hA.below HQ.out)
  have m1 : V.cell? ⟨w.heap.size + 1, 1, none⟩ = some (.slice none 0 0) := at_16 HM.out 1 _ rfl
  have HL := hid13 hl
  unfold RnQ9
  have K1 := fun X => rright_any F x X
  have HE : Hid (mc0 (rightE F x) = if rightE F x = 0 then mc0 0 else { mc0 0 with en := true, err := rightE F x }) := by
    show _ = _
    unfold mc0
    by_cases q : rightE F x = 0
    · rw [if_pos q, if_pos q, if_pos rfl]
    · rw [if_neg q, if_neg q, if_pos rfl]
  generalize rightE F x = E at K1 HE ⊢
  clear q1 hs hA hl hS
  go_enter Try.func36, Try.ntmps36
  go_wp2_with (at_builtin; apply stopHere9)
  rw [← hV]
  clear hV
  refine (show wpList _ _ _ _ _ _ from ?_)
  refine wpList_append_rowA rfl _ _ 27 rfl w.heap.size 5 i0 (.int .u8 0) 1 1 Try.underlying27 hi hz0 hz1 hz2 rfl (by decide) _ 0 [] rfl (World.ownsRow_nil _ _ _ _) _ l.length (l.map cB) rfl HR.out (cB_one l) (by have := HL.out; unfold maxLen; omega) (by have := HL.out; omega) (by have := HS.out; omega) ?_
  intro ao4 c4 w4 hO4 hg4
  rw [Nat.zero_add, List.nil_append] at hO4
  rw [Nat.zero_add]
  have hb4 : Below V.heap.size V w4 := (Below.refl V.heap.size V).grown hg4 (Nat.le_refl _) (fun z hz => by cases hz)
  have HM4 : Hid (w4.heap[w.heap.size + 1]? = some (.cells #[.int .i64 F, .slice none 0 0, .int .u64 (hI x), .int .u64 (lI x), .int .i64 0, .int .i64 0, .int .u64 0, .int .u64 0, .int .i64 0, .int .i64 0, .int .i64 0, .int .i64 0, .int .i64 0, .int .i64 0, .int .i64 0, .bool false] 93)) := (hb4.block _ (lt_16 HM.out)).trans HM.out
  have HW4 : Hid (w4.heap[w.heap.size]? = some (.cells #[.int .u64 (hI x), .int .u64 (lI x)] 47)) := (hb4.block _ (lt_16 HW.out)).trans HW.out
  have HB4 : Hid (Below w.heap.size w w4) := HQ.out.trans (hb4.mono HQ.out.size)
  have HO4 := hid13 hO4
  have HN4 : Hid ((Value.slice ao4 l.length c4).ownBlock ≠ some (w.heap.size + 1)) := hid13 (own_not18 hO4 HM4.out (by decide))
  have k1 : w4.cell? ⟨w.heap.size + 1, 1, none⟩ = some (.slice none 0 0) := at_16 HM4.out 1 _ rfl
  have f1 := fr_16 (j := 1) HM4.out
  have a0 := at_16 HW4.out 0 _ rfl
  have a1 := at_16 HW4.out 1 _ rfl
  have hne : ¬ w.heap.size = w.heap.size + 1 := by omega
  have hne2 : ¬ w.heap.size + 1 = w.heap.size := by omega
  clear hO4 hg4 hb4 HM HW HQ HR m1
  go_wp2_with fail
  have HV5 : Hid (RV (w4.setCell ⟨w.heap.size + 1, 1, none⟩ (.slice ao4 l.length c4)) (w.heap.size + 1) F (.slice ao4 l.length c4) x 0#128 (rqO (mc0 0)) ∧ (w4.setCell ⟨w.heap.size + 1, 1, none⟩ (.slice ao4 l.length c4)).ownsRow w.heap.size 5 1 (.slice ao4 l.length c4) l.length (l.map cB) ∧ Below w.heap.size w (w4.setCell ⟨w.heap.size + 1, 1, none⟩ (.slice ao4 l.length c4))) := by
    refine ⟨?_, own_keep18 HO4.out (fun z hz => far_16 (fun q => HN4.out (by rw [← q]; exact hz))), HB4.out.setCell (p := ⟨w.heap.size + 1, 1, none⟩) (Nat.le_succ _) _⟩
    unfold RV
    rw [set_16 HM4.out]
    unfold rqA
    rw [hI_zero, lI_zero]
    rfl
  generalize w4.setCell ⟨w.heap.size + 1, 1, none⟩ (.slice ao4 l.length c4) = V5 at HV5 ⊢
  clear HM4 HW4 HB4 HO4 k1 f1 a0 a1
  refine (K1 _).mono ?_
  rintro r X ⟨rfl, hb⟩
  have HX : Hid (RV X (w.heap.size + 1) F (.slice ao4 l.length c4) x 0#128 (rqO (mc0 0)) ∧ X.ownsRow w.heap.size 5 1 (.slice ao4 l.length c4) l.length (l.map cB) ∧ Below w.heap.size w X) := ⟨HV5.out.1.below hb, own_b13 hb HV5.out.2.1, HV5.out.2.2.trans (hb.mono HV5.out.2.2.size)⟩
  clear K1 hb HV5
  by_cases hE : E = 0
  · subst hE
    rw [if_pos rfl] at HE
    clear HE
    go_wp2
    go_ret
    exact ⟨_, _, rfl, Nat.le_succ _, ⟨0#128, 0, HX.out.1, fun _ => ⟨rfl, fun q => absurd rfl q⟩⟩, HX.out.2.1, fun g hg q => HN4.out (by rw [← q]; exact hg), HX.out.2.2⟩
  · rw [if_neg hE] at HE
    have hne3 : (E != 0) = true := by simpa using hE
    have K2 := fun Y hY => rfail19 (w.heap.size + 1) F (.slice ao4 l.length c4) x 0#128 (rqO (mc0 0)) E Y hY
    clear hE
    go_wp2_with fail
    refine (K2 _ HX.out.1).mono ?_
    rintro r Y ⟨rfl, h1, h2⟩
    have HY : Hid (RV Y (w.heap.size + 1) F (.slice ao4 l.length c4) x 0#128 { rqO (mc0 E) with hb := 0 } ∧ Y.ownsRow w.heap.size 5 1 (.slice ao4 l.length c4) l.length (l.map cB) ∧ Below w.heap.size w Y ∧ (mc0 E).en = true) := ⟨by rw [HE.out]; exact h1, own_keep18 HX.out.2.1 (fun z hz => h2.ot.2 z (own_lt19 HX.out.2.1 z hz) (fun q => HN4.out (by rw [← q]; exact hz))), HX.out.2.2.trans (h2.lo.mono (Nat.le_succ _)), by rw [HE.out]⟩
    clear K2 h1 h2 HX HE
    go_wp2
    go_ret
    exact ⟨_, _, rfl, Nat.le_succ _, ⟨0#128, 0, HY.out.1, fun q => (by rw [HY.out.2.2.2] at q; cases q)⟩, HY.out.2.1, fun g hg q => HN4.out (by rw [← q]; exact hg), HY.out.2.2.1⟩
end Go.Proofs.Ytjgpbahglkaijaa
namespace Go.Proofs.Ytjgpbahglkaijaa
open Go.RowKit
set_option linter.unusedSimpArgs false
set_option linter.unusedVariables false

def rsV (m : Mc) : Value := .agg #[.int .i64 m.hop, .int .i64 m.err, .int .i64 m.st, .int .i64 m.ex, .int .i64 m.ix, .int .i64 m.bt]
end Go.Proofs.Ytjgpbahglkaijaa
namespace Go.Proofs.Ytjgpbahglkaijaa
open Go.RowKit
set_option linter.unusedSimpArgs false
set_option linter.unusedVariables false

end Go.Proofs.Ytjgpbahglkaijaa
namespace Go.Proofs.Ytjgpbahglkaijaa
open Go.RowKit
set_option linter.unusedSimpArgs false
set_option linter.unusedVariables false

end Go.Proofs.Ytjgpbahglkaijaa
namespace Go.Proofs.Ytjgpbahglkaijaa
open Go.RowKit
set_option linter.unusedSimpArgs false
set_option linter.unusedVariables false

end Go.Proofs.Ytjgpbahglkaijaa
namespace Go.Proofs.Ytjgpbahglkaijaa
open Go.RowKit
set_option linter.unusedSimpArgs false
set_option linter.unusedVariables false

end Go.Proofs.Ytjgpbahglkaijaa
namespace Go.Proofs.Ytjgpbahglkaijaa
open Go.RowKit Go.Shelf
set_option linter.unusedSimpArgs false
set_option linter.unusedVariables false

section
variable {P : Program}
end
end Go.Proofs.Ytjgpbahglkaijaa
namespace Go.Proofs.Ytjgpbahglkaijaa
open Go.RowKit Go.Shelf
set_option linter.unusedSimpArgs false
set_option linter.unusedVariables false
attribute [local go_sem] Oper.semAt_some

end Go.Proofs.Ytjgpbahglkaijaa
namespace Go.Proofs.Ytjgpbahglkaijaa
open Go.RowKit
set_option linter.unusedSimpArgs false
set_option linter.unusedVariables false

end Go.Proofs.Ytjgpbahglkaijaa
namespace Go.Proofs.Ytjgpbahglkaijaa
open Go.RowKit
set_option linter.unusedSimpArgs false
set_option linter.unusedVariables false

theorem cb_own {W : World} {base e B : Nat} {v : Value} {l : List Nat} (h : W.ownsRow base e 1 v l.length (l.map cB)) (hb : ∀ g, v.ownBlock = some g → g ≠ B) : CB B v l := by
  rcases h.2 with ⟨-, h2⟩ | ⟨g, cap, cur, rfl, -⟩
  · exact .inl (List.length_eq_zero_iff.1 h2)
  · exact .inr ⟨g, 0, cap, l.length, rfl, hb g rfl⟩
end Go.Proofs.Ytjgpbahglkaijaa
namespace Go.Proofs.Ytjgpbahglkaijaa
open Go.RowKit
set_option linter.unusedSimpArgs false
set_option linter.unusedVariables false

end Go.Proofs.Ytjgpbahglkaijaa
namespace Go.Proofs.Ytjgpbahglkaijaa
open Go.RowKit
set_option linter.unusedSimpArgs false
set_option linter.unusedVariables false

theorem stM_ex {F : Int} {x : BitVec 128} {l : List Nat} {m : Mc} : m.ex ≤ (stM F x l m).ex ∧ m.st ≤ (stM F x l m).st := by
  by_cases h1 : dcE l m.pl = 0
  · by_cases h2 : doE F m (dcI l m.pl) = 0
    · rcases did (x := x) h1 h2 with ⟨n, -, -, n0, n1, nb, e⟩ | ⟨z, r, -, -, -, hr, hz, z0, z1, r0, r1, e⟩ | ⟨n, -, -, n0, n1, e⟩ | ⟨n, -, -, n0, n1, e⟩
      · rw [e]; dsimp only; omega
      · rw [e]; dsimp only; omega
      · rw [e]; dsimp only; omega
      · rw [e]; dsimp only; omega
    · rw [stM_do h1 h2]; exact ⟨Int.le_refl _, Int.le_refl _⟩
  · rw [stM_dc h1]; exact ⟨Int.le_refl _, Int.le_refl _⟩
theorem goM_ex {F : Int} {x : BitVec 128} {l : List Nat} : ∀ (k : Nat) (m : Mc), m.ex ≤ (goM F x l k m).ex ∧ m.st ≤ (goM F x l k m).st
  | 0, m => ⟨Int.le_refl _, Int.le_refl _⟩
  | k + 1, m => by
    cases he : m.en with
    | true => rw [goM_en he]; exact ⟨Int.le_refl _, Int.le_refl _⟩
    | false =>
      rw [goM_go he]
      have h1 := stM_ex (F := F) (x := x) (l := l) (m := m)
      have h2 := goM_ex k (stM F x l m) (F := F) (x := x) (l := l)
      omega
end Go.Proofs.Ytjgpbahglkaijaa
namespace Go.Proofs.Ytjgpbahglkaijaa
open Go.RowKit
set_option linter.unusedSimpArgs false
set_option linter.unusedVariables false

def stA19 (B : Nat) (W : World) : Nat := (intOf13 ((W.cell? ⟨B, 11, none⟩).getD undef)).toNat
def boolOf19 : Value → Bool | .bool b => b | _ => false
def enA19 (B : Nat) (W : World) : Nat := if boolOf19 ((W.cell? ⟨B, 15, none⟩).getD undef) = true then 0 else 1
def muA19 (n B : Nat) (W : World) : Nat := 2 * (n - stA19 B W) + enA19 B W
theorem muA_eq {W : World} {n B : Nat} {F : Int} {vc : Value} {x : BitVec 128} {m : Mc} (h : RM9 W B F vc x m) : muA19 n B W = 2 * (n - m.st.toNat) + (if m.en = true then 0 else 1) := by
  obtain ⟨y, hb, h1, -⟩ := h
  have e1 : W.cell? ⟨B, 11, none⟩ = some (.int .i64 m.st) := h1.c11
  have e2 : W.cell? ⟨B, 15, none⟩ = some (.bool m.en) := h1.c15
  unfold muA19 stA19 enA19
  rw [e1, e2]
  rfl
structure Rn9 (w : World) (B R : Nat) (F : Int) (vc : Value) (x : BitVec 128) (l : List Nat) (m : Mc) (W : World) : Prop where
  lo : Below w.heap.size w W
  m : RM9 W B F vc x m
  c : RwX cB W vc l
  r : W.heap[R]? = some (.cells #[.int .i64 0, .int .i64 0, .int .i64 0, .int .i64 0, .int .i64 0, .int .i64 0] 53)
theorem Rn9.step {w W W' : World} {B R : Nat} {F : Int} {vc : Value} {x : BitVec 128} {l : List Nat} {m m' : Mc} (h : Rn9 w B R F vc x l m W) (h1 : w.heap.size ≤ B) (h2 : R ≠ B) (hc : CB B vc l) (hm : RM9 W' B F vc x m') (hk : KM B W W') : Rn9 w B R F vc x l m' W' :=
  ⟨h.lo.trans (hk.lo.mono h1), hm, rwx_km h.c hc hk, (hk.ot.2 _ (lt_16 h.r) h2).trans h.r⟩
set_option maxRecDepth 20000 in
set_option maxHeartbeats 16000000 in
theorem rrun19 (F : Int) (v : Value) (x : BitVec 128) (n : Int) (l : List Nat) (w : World) (hA : RowA w 1 v l.length (l.map cB)) (hl : l.length ≤ 100000) (hx : ∀ b ∈ l, b < 256) (hn : n ≤ 9223372036854775807) :
    Calls Try.prog 20 #[.int .i64 F, v, .agg #[.int .u64 (hI x), .int .u64 (lI x)], .int .i64 n] w fun r w' => r = .returned (rsV (ruM F x l (rightE F x) n.toNat)) ∧ Below w.heap.size w w' := by
  obtain ⟨-, ao, cc, hvf, -⟩ := id hA
  subst hvf
  obtain ⟨V, hV⟩ : ∃ V, V = (w.alloc (.cells #[.int .u64 (hI x), .int .u64 (lI x)] 47)).alloc (.cells #[.int .i64 0, .int .i64 0, .int .i64 0, .int .i64 0, .int .i64 0, .int .i64 0] 53) := ⟨_, rfl⟩
  have q1 := bl1 w (.cells #[.int .u64 (hI x), .int .u64 (lI x)] 47)
  have hs : (w.alloc (.cells #[.int .u64 (hI x), .int .u64 (lI x)] 47)).heap.size = w.heap.size + 1 := by simp
  have HQ : Hid (Below w.heap.size w V) := by rw [hV]; exact keepb (bl1 _ _) q1
  have HS : Hid (V.heap.size = w.heap.size + 2) := by rw [hV]; show _ = _; simp
  have HR : Hid (V.heap[w.heap.size + 1]? = some (.cells #[.int .i64 0, .int .i64 0, .int .i64 0, .int .i64 0, .int .i64 0, .int .i64 0] 53)) := by rw [hV]; unfold Hid; rw [← hs]; exact new_16 _ _
  have HW : Hid (V.heap[w.heap.size]? = some (.cells #[.int .u64 (hI x), .int .u64 (lI x)] 47)) := by rw [hV]; exact old_16 _ (new_16 _ _)
  have w0 := at_16 HW.out 0 _ rfl
  have w1 := at_16 HW.out 1 _ rfl
  have K1 := rnew19 F (.slice ao l.length cc) x l V (hA.below HQ.out) hl
  have HL := hid13 (And.intro hl hx)
  have HN := hid13 hn
  have HOK : Hid (MOk F ((l.length / 4 : Nat) : Int) (mc0 (rightE F x))) := mc0_ok (by omega) fam_right
  obtain ⟨mE, hmE⟩ : ∃ mE, mE = ruM F x l (rightE F x) n.toNat := ⟨_, rfl⟩
  have HmE := hid13 hmE
  rw [← hmE]
  unfold RnQ9 at K1
  unfold rsV
  generalize rightE F x = E at K1 HOK HmE
  clear q1 hs hA hl hx hn hmE
  go_enter Try.func20, Try.ntmps20
  go_wp2_with fail
  rw [← hV]
  clear hV
  refine K1.mono ?_
  rintro r X ⟨B, vc, rfl, hB, hM, hO, hg, hb⟩
  have HP : Hid (w.heap.size ≤ B ∧ w.heap.size + 1 ≠ B ∧ CB B vc l) := ⟨by have := HS.out; omega, by have := HS.out; omega, cb_own hO hg⟩
  have HS0 : Hid (Rn9 w B (w.heap.size + 1) F vc x l (mc0 E) X) := ⟨HQ.out.trans (hb.mono HQ.out.size), hM, own_rwx hO, (hb.block _ (lt_16 HR.out)).trans HR.out⟩
  have HT0 : Hid ((mc0 E).en = false → (mc0 E).st = ((0 : Nat) : Int)) := hid13 (fun _ => by unfold mc0; split <;> rfl)
  clear K1 hB hM hO hg hb w0 w1 HW HR HQ HS
  go_wp2_with fail
  go_loopw [] (fun wr => ∃ k : Nat, Hid (k ≤ n.toNat) ∧ Hid ((goM F x l k (mc0 E)).en = false → (goM F x l k (mc0 E)).st = (k : Int)) ∧ Hid (Rn9 w B (w.heap.size + 1) F vc x l (goM F x l k (mc0 E)) wr)) (fun wr => muA19 n.toNat B wr)
  case atStart => exact ⟨0, hid13 (Nat.zero_le _), HT0, HS0⟩
  case round =>
    clear HS0 HT0
    obtain ⟨k, Hk, HT, HS⟩ := hrel
    obtain ⟨m, hm⟩ : ∃ m, m = goM F x l k (mc0 E) := ⟨_, rfl⟩
    have Hm := hid13 hm
    have HOk : Hid (MOk F ((l.length / 4 : Nat) : Int) m) := by rw [hm]; exact goM_mok rfl k _ HOK.out
    rw [← hm] at HT HS
    obtain ⟨y, hb, hv, -⟩ := id HS.out.m
    have c9 : wr.cell? ⟨B, 9, none⟩ = some (.int .i64 m.hop) := hv.c9
    have c10 : wr.cell? ⟨B, 10, none⟩ = some (.int .i64 m.err) := hv.c10
    have c11 : wr.cell? ⟨B, 11, none⟩ = some (.int .i64 m.st) := hv.c11
    have c12 : wr.cell? ⟨B, 12, none⟩ = some (.int .i64 m.ex) := hv.c12
    have c13 : wr.cell? ⟨B, 13, none⟩ = some (.int .i64 m.ix) := hv.c13
    have c14 : wr.cell? ⟨B, 14, none⟩ = some (.int .i64 m.bt) := hv.c14
    have c15 : wr.cell? ⟨B, 15, none⟩ = some (.bool m.en) := hv.c15
    have HV := hid13 hv
    clear hv hm
    cases he : m.en with
    | true =>
      rw [he] at c15
      have HF : Hid (mE = m) := by rw [HmE.out]; show _ = _; rw [Hm.out] at he ⊢; exact ru_done he Hk.out
      obtain ⟨z0, z1, z2, z3, z4, z5⟩ : wr.cell? ⟨w.heap.size + 1, 0, none⟩ = some (.int .i64 0) ∧ wr.cell? ⟨w.heap.size + 1, 1, none⟩ = some (.int .i64 0) ∧ wr.cell? ⟨w.heap.size + 1, 2, none⟩ = some (.int .i64 0) ∧ wr.cell? ⟨w.heap.size + 1, 3, none⟩ = some (.int .i64 0) ∧ wr.cell? ⟨w.heap.size + 1, 4, none⟩ = some (.int .i64 0) ∧ wr.cell? ⟨w.heap.size + 1, 5, none⟩ = some (.int .i64 0) := ⟨at_16 HS.out.r 0 _ rfl, at_16 HS.out.r 1 _ rfl, at_16 HS.out.r 2 _ rfl, at_16 HS.out.r 3 _ rfl, at_16 HS.out.r 4 _ rfl, at_16 HS.out.r 5 _ rfl⟩
      have y0 := fr_16 (j := 0) HS.out.r
      have y1 := fr_16 (j := 1) HS.out.r
      have y2 := fr_16 (j := 2) HS.out.r
      have y3 := fr_16 (j := 3) HS.out.r
      have y4 := fr_16 (j := 4) HS.out.r
      have y5 := fr_16 (j := 5) HS.out.r
      have HBZ : Hid (Below w.heap.size w wr) := HS.out.lo
      have hne := HP.out.2.1
      have hne2 : ¬ B = w.heap.size + 1 := fun q => hne q.symm
      clear Hk HT HS HV he Hm HOk HmE
      go_wp2
      refine bodyPost_ret (v := .agg #[.int .i64 m.hop, .int .i64 m.err, .int .i64 m.st, .int .i64 m.ex, .int .i64 m.ix, .int .i64 m.bt]) (by simp [results, Try.results20, go_sem, *]) rfl ⟨by rw [HF.out], ?_⟩
      exact (((((HBZ.out.setCell (p := ⟨w.heap.size + 1, 0, none⟩) (Nat.le_succ _) _).setCell (p := ⟨w.heap.size + 1, 1, none⟩) (Nat.le_succ _) _).setCell (p := ⟨w.heap.size + 1, 2, none⟩) (Nat.le_succ _) _).setCell (p := ⟨w.heap.size + 1, 3, none⟩) (Nat.le_succ _) _).setCell (p := ⟨w.heap.size + 1, 4, none⟩) (Nat.le_succ _) _).setCell (p := ⟨w.heap.size + 1, 5, none⟩) (Nat.le_succ _) _
    | false =>
      rw [he] at c15
      by_cases hf : n ≤ m.st
      · have hst := HT.out he
        have HF : Hid (mE = { m with en := true, err := 29 }) := by
          have hk : k = n.toNat := by have := Hk.out; omega
          rw [HmE.out]
          show _ = _
          unfold ruM
          rw [← hk, ← Hm.out, he]
          rfl
        have hf2 : ¬ m.st < n := by omega
        have K2 := fun Z hZ => rfail19 B F vc x y { rqO m with hb := hb } 29 Z hZ
        have hz0 := HS.out.r
        have HLo := hid13 HS.out.lo
        have HZ0 := hid13 hz0
        clear Hk HT HS he Hm HOk HmE c9 c10 c12 c13 c14 hst hz0
        go_wp2_with fail
        refine (K2 _ HV.out).mono ?_
        rintro e W3 ⟨rfl, h1, h2⟩
        have d9 : W3.cell? ⟨B, 9, none⟩ = some (.int .i64 m.hop) := h1.c9
        have d10 : W3.cell? ⟨B, 10, none⟩ = some (.int .i64 29) := h1.c10
        have d11 : W3.cell? ⟨B, 11, none⟩ = some (.int .i64 m.st) := h1.c11
        have d12 : W3.cell? ⟨B, 12, none⟩ = some (.int .i64 m.ex) := h1.c12
        have d13 : W3.cell? ⟨B, 13, none⟩ = some (.int .i64 m.ix) := h1.c13
        have d14 : W3.cell? ⟨B, 14, none⟩ = some (.int .i64 m.bt) := h1.c14
        have hz := (h2.ot.2 _ (lt_16 HZ0.out) HP.out.2.1).trans HZ0.out
        have z0 := at_16 hz 0 _ rfl
        have z1 := at_16 hz 1 _ rfl
        have z2 := at_16 hz 2 _ rfl
        have z3 := at_16 hz 3 _ rfl
        have z4 := at_16 hz 4 _ rfl
        have z5 := at_16 hz 5 _ rfl
        have y0 := fr_16 (j := 0) hz
        have y1 := fr_16 (j := 1) hz
        have y2 := fr_16 (j := 2) hz
        have y3 := fr_16 (j := 3) hz
        have y4 := fr_16 (j := 4) hz
        have y5 := fr_16 (j := 5) hz
        have HBZ : Hid (Below w.heap.size w W3) := HLo.out.trans (h2.lo.mono HP.out.1)
        have hne := HP.out.2.1
        have hne2 : ¬ B = w.heap.size + 1 := fun q => hne q.symm
        clear K2 h1 h2 hz HV HZ0 HLo c11 c15
        go_wp2
        refine bodyPost_ret (v := .agg #[.int .i64 m.hop, .int .i64 29, .int .i64 m.st, .int .i64 m.ex, .int .i64 m.ix, .int .i64 m.bt]) (by simp [results, Try.results20, go_sem, *]) rfl ⟨by rw [HF.out], ?_⟩
        exact (((((HBZ.out.setCell (p := ⟨w.heap.size + 1, 0, none⟩) (Nat.le_succ _) _).setCell (p := ⟨w.heap.size + 1, 1, none⟩) (Nat.le_succ _) _).setCell (p := ⟨w.heap.size + 1, 2, none⟩) (Nat.le_succ _) _).setCell (p := ⟨w.heap.size + 1, 3, none⟩) (Nat.le_succ _) _).setCell (p := ⟨w.heap.size + 1, 4, none⟩) (Nat.le_succ _) _).setCell (p := ⟨w.heap.size + 1, 5, none⟩) (Nat.le_succ _) _
      · have hst := HT.out he
        have hf2 : m.st < n := by omega
        have K2 := rstep19 B F vc x m l wr HS.out.m HP.out.2.2 HS.out.c HL.out.1 HL.out.2 HOk.out
        have HT2 : Hid ((goM F x l (k + 1) (mc0 E)).en = false → (goM F x l (k + 1) (mc0 E)).st = ((k + 1 : Nat) : Int)) := hid13 (fun q => by
          have := (goM_cnt (k + 1) _ q)
          have h0 : (mc0 E).st = 0 := by unfold mc0; split <;> rfl
          rw [this.2, h0]; omega)
        have HG : Hid (goM F x l 1 m = goM F x l (k + 1) (mc0 E)) := by rw [Hm.out]; exact goM_one F x l k _
        have HMu : Hid (∀ W, RM9 W B F vc x (goM F x l (k + 1) (mc0 E)) → muA19 n.toNat B W < muA19 n.toNat B wr) := hid13 (fun W hW => by
          rw [muA_eq hW, muA_eq HS.out.m, he]
          have h1 := (goM_ex 1 m (F := F) (x := x) (l := l)).2
          rw [HG.out] at h1
          cases q : (goM F x l (k + 1) (mc0 E)).en with
          | true => simp; omega
          | false =>
            have h2 := HT2.out q
            simp
            omega)
        rw [HG.out] at K2
        have Hk2 : Hid (k + 1 ≤ n.toNat) := hid13 (by omega)
        clear HT he Hm HOk HmE c9 c10 c12 c13 c14 hst hf HV HG
        go_wp2_with fail
        refine K2.mono ?_
        rintro e W3 ⟨rfl, h1, h2⟩
        have HS3 := hid13 (HS.out.step HP.out.1 HP.out.2.1 HP.out.2.2 h1 h2)
        clear K2 h1 h2 HS
        go_wp2
        go_roundw
        case rel => exact ⟨k + 1, Hk2, HT2, HS3⟩
        case measure => exact HMu.out _ HS3.out.m
end Go.Proofs.Ytjgpbahglkaijaa
namespace Go.Proofs.Ytjgpbahglkaijaa
open Go.RowKit Go.Shelf
set_option linter.unusedSimpArgs false
set_option linter.unusedVariables false
attribute [local go_sem] Oper.semAt_some

set_option maxRecDepth 100000 in
set_option maxHeartbeats 16000000 in
theorem verifyRuns_any (F : Int) (v : Value) (l : List Nat) (x : BitVec 128) (w : World) (hF0 : -9223372036854775808 ≤ F) (hF1 : F ≤ 9223372036854775807) (hA : RowA w 1 v l.length (l.map cB)) (hv : RwX cB w v l) (hx : ∀ b ∈ l, b < 256) :
    Calls Try.prog 6 #[.int .i64 F, v, .agg #[.int .u64 (hI x), .int .u64 (lI x)]] w fun e w' => e = .returned (.bool true) ∧ Below w.heap.size w w' := by
  obtain ⟨ao, cc, hvf, -⟩ := id hv
  have q1 := bl1 w (.cells #[.int .u64 (hI x), .int .u64 (lI x)] 47)
  have HW1 : Hid (LkW w x (w.alloc (.cells #[.int .u64 (hI x), .int .u64 (lI x)] 47))) := ⟨q1, new_16 _ _⟩
  have HV := hid13 hv
  have HRA := hid13 hA
  have HX := hid13 hx
  subst hvf
  clear hv hx hA hF0 hF1 q1
  go_enter Try.func6, Try.ntmps6
  go_wp2_with fail
  refine (known18 _).mono ?_
  rintro e w2 ⟨rfl, hb2⟩
  have HW2 := hid13 (HW1.out.below hb2)
  clear hb2 HW1
  by_cases h1 : (65536 : Int) < (l.length : Int)
  · go_wp2
    go_ret
    exact ⟨rfl, HW2.out.b⟩
  have hl : l.length ≤ 65536 := by omega
  have HL := hid13 hl
  have HDep := hid13 (vfR_dep F l hl)
  have K3 := vcode18 w2 F _ l (HV.out.below HW2.out.b) (by omega) HX.out
  have KTr := hid13 (fun X (h : RwX cB X (.slice ao l.length cc) l) => tree18 X F _ _ l h (by omega) HX.out)
  have HTq := hid13 (fun (X : World) (e : Ending) (X' : World) (h : TrQ X F l e X') => h.rwd hl)
  have HOk := hid13 (fun h => tree_ok (F := F) (l := l) HX.out h)
  have HVl := hid13 (fun h => lk_val (F := F) (l := l) HX.out h)
  have HTl := hid13 (fun h => trL_ok (F := F) (l := l) h hl)
  have HRn := hid13 (fun (x' : BitVec 128) h h2 => runs_ok (F := F) (x := x') (l := l) HX.out hl h h2)
  obtain ⟨d, hd⟩ : ∃ d, d = (vfR F l).1 := ⟨_, rfl⟩
  obtain ⟨y2, hy2⟩ : ∃ y, y = (vfR F l).2.1 := ⟨_, rfl⟩
  obtain ⟨E, hE⟩ : ∃ E, E = (vfR F l).2.2 := ⟨_, rfl⟩
  rw [← hd, ← hy2, ← hE] at K3
  rw [← hd, ← hE] at HDep HOk HRn
  rw [← hE] at HVl HTl HTq
  clear hl hd hy2 hE
  go_wp2_with fail
  refine K3.mono ?_
  rintro e w3 ⟨rfl, hb3⟩
  have HW3 := hid13 (HW2.out.below hb3)
  clear K3 hb3 HW2
  by_cases hE : E = 0
  · subst hE
    have hok := chk_ok (F := F) (L := trL l) (by rw [HOk.out rfl])
    have hF := fam_ways F hok.2.2.1
    have hr := right_and F x hok.2.2.1
    have hL0 := hok.1.1
    obtain ⟨V, hVl⟩ := HVl.out rfl
    have htl := HTl.out rfl
    have hrn := HRn.out (x &&& maskW F) rfl hr
    have hdp := HDep.out.2 rfl
    have KF := Fitted_zero18 F x
    have KR := fun X (h : RowA X 1 (.slice ao l.length cc) l.length (l.map cB)) => rrun19 F (.slice ao l.length cc) (x &&& maskW F) 1048576 l X h (by have := HL.out; omega) HX.out (by decide)
    rw [show (1048576 : Int).toNat = 1048576 from rfl] at KR
    obtain ⟨x', hx'⟩ : ∃ x', x' = x &&& maskW F := ⟨_, rfl⟩
    rw [← hx'] at KF KR hrn hr
    have KLk := fun X u (h : RwD X u (trL l)) => rlook18 F u (trL l) x' X h htl.1 htl.2 V hVl (by rw [HOk.out rfl]) hr hL0
    unfold rsV at KR
    generalize ruM F x' l (rightE F x') 1048576 = M at *
    obtain ⟨r1, r2, r3, r4, r5, r6⟩ := hrn
    have KFt := KF w3 (by omega) (by omega)
    have HKR := hid13 KR
    have HKL := hid13 KLk
    have a0 := at_16 HW3.out.x 0 _ rfl
    have a1 := at_16 HW3.out.x 1 _ rfl
    have HM : Hid (M.err = 0 ∧ M.st ≤ max 1 (3 * d) ∧ M.ex ≤ d ∧ M.ix ≤ d ∧ M.bt ≤ F ∧ M.hop = walkR x' (trL l) (trL l).length 0 0) := ⟨r1, r2, r3, r4, r5, r6⟩
    have HD : Hid (0 ≤ d ∧ d ≤ 16384) := hdp
    clear hok hF hr hL0 hVl htl hdp KF KR hx' KLk r1 r2 r3 r4 r5 r6 HOk HVl HTl HRn HDep
    go_wp2_with fail
    refine KFt.mono ?_
    rintro e w4 ⟨rfl, hb4⟩
    have HW4 := hid13 (HW3.out.below hb4)
    have a0 := at_16 HW4.out.x 0 _ rfl
    have a1 := at_16 HW4.out.x 1 _ rfl
    have b0 := fr_16 (j := 0) HW4.out.x
    have b1 := fr_16 (j := 1) HW4.out.x
    clear KFt hb4 HW3
    have HW5 : Hid (LkW w x' ((w4.setCell ⟨w.heap.size, 0, none⟩ (.int .u64 (hI x'))).setCell ⟨w.heap.size, 1, none⟩ (.int .u64 (lI x')))) := hid13 ⟨(HW4.out.b.setCell (p := ⟨w.heap.size, 0, none⟩) (Nat.le_refl _) _).setCell (p := ⟨w.heap.size, 1, none⟩) (Nat.le_refl _) _, AtW18.put (show AtW18 w4 w.heap.size x from HW4.out.x) x'⟩
    have g0 := at_16 HW5.out.x 0 _ rfl
    have g1 := at_16 HW5.out.x 1 _ rfl
    go_wp2_with fail
    refine (HKR.out _ (HRA.out.below HW5.out.b)).mono ?_
    rintro e w6 ⟨rfl, hb6⟩
    have HW6 := hid13 (HW5.out.below hb6)
    have q7 := bl1 w6 (.cells #[.int .i64 M.hop, .int .i64 M.err, .int .i64 M.st, .int .i64 M.ex, .int .i64 M.ix, .int .i64 M.bt] 53)
    have n7 := new_16 w6 (.cells #[.int .i64 M.hop, .int .i64 M.err, .int .i64 M.st, .int .i64 M.ex, .int .i64 M.ix, .int .i64 M.bt] 53)
    have HW7 := hid13 (HW6.out.below q7)
    have HN7 := hid13 n7
    have KT := KTr.out _ (HV.out.below HW7.out.b)
    clear a0 a1 b0 b1 g0 g1 HW4 HW5 hb6 HW6 q7 n7 HKR KTr
    go_wp2_with fail
    refine KT.mono ?_
    rintro e w8 hq
    obtain ⟨v8, rfl, hb8, hd8, -⟩ := HTq.out _ _ _ hq
    have hd8 : RwD w8 v8 (trL l) := by simpa using hd8
    have HW8 := hid13 (HW7.out.below hb8)
    have HN8 := hid13 ((hb8.block _ (lt_16 HN7.out)).trans HN7.out)
    have a0 := at_16 HW8.out.x 0 _ rfl
    have a1 := at_16 HW8.out.x 1 _ rfl
    have KL := HKL.out _ v8 hd8
    clear hq hb8 hd8 HW7 HN7 KT HTq HKL
    go_wp2_with fail
    refine KL.mono ?_
    rintro e w9 ⟨rfl, hb9⟩
    have HB9 := hid13 (HW8.out.below hb9).b
    have n9 := (hb9.block _ (lt_16 HN8.out)).trans HN8.out
    have c0 := at_16 n9 0 _ rfl
    have c1 := at_16 n9 1 _ rfl
    have c2 := at_16 n9 2 _ rfl
    have c3 := at_16 n9 3 _ rfl
    have c4 := at_16 n9 4 _ rfl
    have c5 := at_16 n9 5 _ rfl
    obtain ⟨m1, m2, m3, m4, m5, m6⟩ := HM.out
    clear KL hb9 n9 HW8 HN8 a0 a1 HM
    generalize M.hop = hop at *
    generalize M.err = err at *
    generalize M.st = st at *
    generalize M.ex = ex at *
    generalize M.ix = ix at *
    generalize M.bt = bt at *
    generalize walkR x' (trL l) (trL l).length 0 0 = wk at *
    subst m1 m6
    have mx := fun W => max_16 1 (3 * d) W
    obtain ⟨mxv, hmx⟩ : ∃ m, m = max 1 (3 * d) := ⟨_, rfl⟩
    rw [← hmx] at m2 mx
    have w3d : IntKind.i64.wrap (3 * d) = 3 * d := by rw [IntKind.wrap_i64]; have := HD.out; omega
    have p2 : decide (st ≤ mxv) = true := decide_eq_true m2
    have p3 : decide (ex ≤ d) = true := decide_eq_true m3
    have p4 : decide (ix ≤ d) = true := decide_eq_true m4
    have p5 : decide (bt ≤ F) = true := decide_eq_true m5
    clear hmx
    go_wp2
    exact bodyPost_ret (v := .bool true) (by simp [results, Try.results6, go_sem]) rfl ⟨rfl, HB9.out⟩
  · have hEb : (E != 0) = true := by simpa using hE
    have hd := HDep.out.1 hE
    subst hd
    clear HDep HOk HVl HTl HRn KTr HTq hE
    go_wp2
    go_ret
    exact ⟨rfl, HW3.out.b⟩
end Go.Proofs.Ytjgpbahglkaijaa
namespace Go.Proofs.Ytjgpbahglkaijaa
open Go.ChangeShapes Go.WideShapes Go.ChangeAt Go.RowKit Go.Joins
set_option linter.unusedSimpArgs false
set_option linter.unusedVariables false

theorem Try.laidOut : laidOutB Try.prog = true := by kernel_rfl
section
variable {H : Type} {enc : TypeId × Value → H} {w : World} {spare : Nat → Bool} {held : Bool}
theorem RwX.map13 {α β : Type} {f : α → Value} {g : β → Value} (h : α → β) {v : Value} {l : List α} (hr : RwX f w v l) (he : ∀ x ∈ l, f x = g (h x)) : RwX g w v (l.map h) := by
  obtain ⟨ao, c, e, hc, hr⟩ := hr
  refine ⟨ao, c, by rw [List.length_map]; exact e, by rw [List.length_map]; exact hc, ?_⟩
  rcases hr with hr | ⟨b, off, e, hr⟩
  · exact .inl (by rw [hr]; rfl)
  · refine .inr ⟨b, off, e, fun j x hj => ?_⟩
    rw [List.getElem?_map] at hj
    cases hx : l[j]? with
    | none => rw [hx] at hj; cases hj
    | some y =>
      rw [hx] at hj
      simp only [Option.map_some, Option.some.injEq] at hj
      rw [hr j y hx, he y (List.mem_of_getElem? hx), hj]
set_option maxRecDepth 100000 in
theorem open_ints13 {t e : TypeId} {k : IntKind} (ht : Try.prog.underlying t = some (.slice e)) (he : Try.prog.underlying e = some (.int k)) (hce : Try.prog.cellsOf e = 1) {r : Reach} {b0 : Nat} {v : Value} {d : DataW H} {p : List MemPlace} (hv : Value.okWide Try.prog w r b0 t v) (h : DataW.Trod enc Try.prog w 0 (fun _ => true) held t v d p) :
    ∃ l : List Int, RowA w 1 v l.length (l.map fun a => .int k a) ∧ RwX (fun a => Value.int k a) w v l ∧ (∀ a ∈ l, (Lit.int k a).wf = true) ∧ (l = [] ∨ ∃ el sp, d = .slice el sp ∧ el.length = l.length) := by
  obtain ⟨a0, len, cap, rfl⟩ := okWide_slice ht hv
  obtain ⟨fuel, hf⟩ := h
  rcases Deep.open_slice ht hf with ⟨hcs, hx⟩ | ⟨a, len', cap', m, n, D, Pl, hcs, _, hl, hm, hmm, hx, hel⟩
  · simp [Value.cells] at hcs
    obtain ⟨rfl, rfl, rfl⟩ := hcs
    exact ⟨[], ⟨rfl, none, 0, rfl, Nat.le_refl _, .inl ⟨rfl, rfl, rfl⟩⟩, ⟨none, 0, rfl, Nat.le_refl _, .inl rfl⟩, (fun _ h => by cases h), .inl rfl⟩
  · simp [Value.cells] at hcs
    obtain ⟨rfl, rfl, rfl⟩ := hcs
    simp at hmm
    subst hmm
    rw [hce] at hel
    obtain ⟨f, hf⟩ := Deep.choose_lt (α := Int) (n := len) (p := fun i x => w.cell? (a.add i) = some (.int k x) ∧ (Lit.int k x).wf = true) (fun i hi => by
      obtain ⟨cs', h1, h2⟩ := hel i (by omega)
      obtain ⟨_, hlen, hc⟩ := World.cells?_some h1
      match cs', hlen with
      | [c0], _ =>
        obtain ⟨x, ex, -, wx⟩ := DataW.trod_int he h2
        simp at ex
        subst ex
        refine ⟨x, ?_, wx⟩
        have := hc 0 (by omega)
        simpa [Addr.add] using this)
    have hlen : ((List.range len).map f).length = len := by simp
    have hcells : ∀ j x, ((List.range len).map f)[j]? = some x → w.cell? (a.add j) = some (.int k x) := by
      intro j x hj
      have hlt : j < len := by have := (List.getElem?_eq_some_iff.1 hj).1; simpa using this
      rw [List.getElem?_map, List.getElem?_range hlt] at hj
      simp only [Option.map_some, Option.some.injEq] at hj
      rw [← hj]; exact (hf j hlt).1
    refine ⟨(List.range len).map f, ⟨by simp, some a, m, by rw [hlen], by rw [hlen]; exact hl, .inr ⟨a, rfl, fun j u hj => ?_⟩⟩, ⟨some a, m, by rw [hlen], by rw [hlen]; exact hl, ?_⟩, ?_, ?_⟩
    · rw [List.getElem?_map] at hj
      cases hx : ((List.range len).map f)[j]? with
      | none => rw [hx] at hj; cases hj
      | some y =>
        rw [hx] at hj
        simp only [Option.map_some, Option.some.injEq] at hj
        rw [← hj]; exact hcells j y hx
    · by_cases hz : len = 0
      · subst hz
        exact .inl (by simp)
      · have h00 := (hf 0 (by omega)).1
        have ea : a = ⟨a.block, a.off, none⟩ := by
          have : a.add 0 = a := by simp [Addr.add]
          rw [this] at h00
          exact spot9 h00
        refine .inr ⟨a.block, a.off, by rw [← ea], fun j u hj => ?_⟩
        have := hcells j u hj
        rw [ea, addA] at this
        exact this
    · intro x hx
      simp only [List.mem_map, List.mem_range] at hx
      obtain ⟨i, hi, rfl⟩ := hx
      exact (hf i hi).2
    · simp only [Prod.mk.injEq] at hx
      exact .inr ⟨_, _, hx.1, by simp⟩
end
end Go.Proofs.Ytjgpbahglkaijaa
namespace Go.Proofs.Ytjgpbahglkaijaa
open Go.ChangeShapes Go.WideShapes Go.ChangeAt Go.RowKit Go.Joins
set_option linter.unusedSimpArgs false
set_option linter.unusedVariables false

section
variable {H : Type} {enc : TypeId × Value → H} {w : World} {spare : Nat → Bool} {held : Bool}
theorem i64_bd14 {a : Int} (h : (Lit.int .i64 a).wf = true) : -9223372036854775808 ≤ a ∧ a ≤ 9223372036854775807 := by
  simp [Lit.wf, IntKind.min, IntKind.max, IntKind.signed, IntKind.bits] at h; omega
end
end Go.Proofs.Ytjgpbahglkaijaa
namespace Go.Proofs.Ytjgpbahglkaijaa
open Go.ChangeShapes Go.WideShapes Go.ChangeAt Go.RowKit Go.Joins
set_option linter.unusedSimpArgs false
set_option linter.unusedVariables false

section
variable {P : Program} {H : Type} {enc : TypeId × Value → H} {w : World} {base : Nat} {spare : Nat → Bool} {held : Bool}
end
end Go.Proofs.Ytjgpbahglkaijaa
namespace Go.Proofs.Ytjgpbahglkaijaa
open Go.RowKit
theorem Try.cellsW : Try.prog.cellsOf 47 = 2 := by kernel_rfl
theorem u64_bd19 {a : Int} (h : (Lit.int .u64 a).wf = true) : 0 ≤ a ∧ a < 18446744073709551616 := by
  simp [Lit.wf, IntKind.min, IntKind.max, IntKind.signed, IntKind.bits] at h; omega
end Go.Proofs.Ytjgpbahglkaijaa
