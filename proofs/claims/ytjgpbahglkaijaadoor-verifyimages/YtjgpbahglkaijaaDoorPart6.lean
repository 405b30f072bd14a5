/-
  Part 6 of the proof: 5 texts, one behind the other.
-/
import Derived.Test.YtjgpbahglkaijaaDoorPart5
import Derived.Test.YtjgpbahglkaijaaDoorPart4
import Derived.Test.YtjgpbahglkaijaaDoorPart3
namespace Go.Proofs.YtjgpbahglkaijaaDoor
open Go.RowKit
set_option linter.unusedSimpArgs false
set_option linter.unusedVariables false
attribute [local go_sem] Oper.semAt_some

def cmp18 (a b : Int) : Int := if a < b then -1 else if b < a then 1 else 0
theorem compare18 (a b : Int) (w : World) :
    Calls Tryd.prog 70 #[.int .i64 a, .int .i64 b] w fun e w' => e = .returned (.int .i64 (cmp18 a b)) ∧ w' = w := by
  unfold cmp18
  have haa : (a != a) = false := by simp
  have hbb : (b != b) = false := by simp
  by_cases h : a < b
  · rw [if_pos h]
    go_enter Tryd.func70, Tryd.ntmps70
    go_wp2_with go_in
    go_ret
    exact ⟨rfl, rfl⟩
  · rw [if_neg h]
    by_cases h2 : b < a
    · rw [if_pos h2]
      go_enter Tryd.func70, Tryd.ntmps70
      go_wp2_with go_in
      go_ret
      exact ⟨rfl, rfl⟩
    · rw [if_neg h2]
      go_enter Tryd.func70, Tryd.ntmps70
      go_wp2_with go_in
      go_ret
      exact ⟨rfl, rfl⟩
set_option maxHeartbeats 4000000 in
theorem bat1_18 (y t x : Int) (so eo : Option Addr) (sn sc en ec : Nat) (w : World) :
    Calls Tryd.prog 69 #[.agg #[.int .i64 y, .int .i64 t, .slice so sn sc, .slice eo en ec], .int .i64 x] w fun e w' => e = .returned (.int .i64 (cmp18 y x)) ∧ Below w.heap.size w w' := by
  have KC := fun w => compare18 y x w
  generalize cmp18 y x = z at *
  have HB := hid13 (bl1 w (.cells #[.int .i64 y, .int .i64 t, .slice so sn sc, .slice eo en ec] 124))
  go_enter Tryd.func69, Tryd.ntmps69
  go_wp2_with fail
  refine (KC _).mono ?_
  rintro e w1 ⟨rfl, hw⟩
  replace hw := hw.symm
  subst hw
  clear KC
  go_wp2
  go_ret
  exact ⟨rfl, HB.out⟩
def SrR (w : World) (g : Nat) (qs : List Int) : Prop := ∀ (j : Nat) (y : Int), qs[j]? = some y → ∃ (t : Int) (so eo : Option Addr) (sn sc en ec : Nat), w.cell? ⟨g, j * 4, none⟩ = some (.int .i64 y) ∧ w.cell? ⟨g, j * 4 + 1, none⟩ = some (.int .i64 t) ∧ w.cell? ⟨g, j * 4 + 2, none⟩ = some (.slice so sn sc) ∧ w.cell? ⟨g, j * 4 + 3, none⟩ = some (.slice eo en ec)
theorem SrR.below {w w' : World} {g : Nat} {qs : List Int} (h : SrR w g qs) (hb : Below w.heap.size w w') : SrR w' g qs := fun j y hj => by
  obtain ⟨t, so, eo, sn, sc, en, ec, h1, h2, h3, h4⟩ := h j y hj
  exact ⟨t, so, eo, sn, sc, en, ec, keepc hb h1, keepc hb h2, keepc hb h3, keepc hb h4⟩
theorem BsV.sr {W : World} {base g n c : Nat} {L : List Bv} {P : List PB} (h : BsV W base (.slice (some ⟨g, 0, none⟩) n c) L P) : SrR W g (P.map PB.a) := fun j y hj => by
  rw [List.getElem?_map] at hj
  cases hp : P[j]? with
  | none => rw [hp] at hj; cases hj
  | some p =>
    rw [hp] at hj
    injection hj with hj
    obtain ⟨x, hx, ho⟩ := h.get hp
    obtain ⟨a1, a2, a3, a4⟩ := rowB8_get L j x hx
    obtain ⟨so, sc, e1⟩ := own_form ho.2.2.1
    obtain ⟨eo, ec, e2⟩ := own_form ho.2.2.2
    have o1 := h.o
    have hn : n = L.length := by obtain ⟨ao, c', e⟩ := own_form h.o; injection e
    subst hn
    refine ⟨x.t, so, eo, p.m.length, sc, p.es.length, ec, ?_, (own_at18 o1 a2).1, ?_, ?_⟩
    · rw [(own_at18 o1 a1).1, ho.1]; rw [← hj]
    · rw [(own_at18 o1 a3).1, e1]
    · rw [(own_at18 o1 a4).1, e2]
def SrQ (qs : List Int) (x : Int) (e : Ending) : Prop := ∃ (i : Nat) (b : Bool), e = .returned (.tuple #[.int .i64 (i : Int), .bool b]) ∧ (b = true → fnB qs x = (i : Int) ∧ i < qs.length) ∧ (b = false → fnB qs x = -1)
set_option maxRecDepth 20000 in
set_option maxHeartbeats 8000000 in
theorem search18 (g c : Nat) (qs : List Int) (x : Int) (w : World) (hc : SrR w g qs) (hs : qs.Pairwise (· < ·)) (hl : qs.length ≤ 1000000000) :
    Calls Tryd.prog 68 #[.slice (some ⟨g, 0, none⟩) qs.length c, .int .i64 x, .func (.func 69) #[] #[]] w fun e w' => SrQ qs x e ∧ Below w.heap.size w w' := by
  have HC := hid13 hc
  have HS := hid13 hs
  have HL : Hid (qs.length ≤ 1000000000) := hl
  clear hc hs hl
  go_enter Tryd.func68, Tryd.ntmps68
  go_wp2_with fail
  go_loopg [9, 10] qs.length (fun gk lv hv wr => ∃ lo hi : Nat, lv = .int .i64 (lo : Int) ∧ hv = .int .i64 (hi : Int) ∧ Hid (lo ≤ hi ∧ hi ≤ qs.length ∧ hi - lo ≤ gk ∧ (∀ j y, j < lo → qs[j]? = some y → y < x) ∧ (∀ j y, hi ≤ j → qs[j]? = some y → x ≤ y)) ∧ Hid (Below w.heap.size w wr))
  case atStart => exact ⟨0, qs.length, rfl, rfl, hid13 ⟨Nat.zero_le _, Nat.le_refl _, by omega, fun j y h => by omega, fun j y h1 h2 => by have := (List.getElem?_eq_some_iff.mp h2).1; omega⟩, hid13 (Below.refl _ _)⟩
  case round =>
    obtain ⟨lo, hi, rfl, rfl, HI, HB⟩ := hrel
    by_cases hlt : (lo : Int) < (hi : Int)
    · obtain ⟨mm, hmm⟩ : ∃ mm, mm = (lo + hi) / 2 := ⟨_, rfl⟩
      have hml : mm < qs.length := by have := HI.out; omega
      obtain ⟨y, hy⟩ : ∃ y, qs[mm]? = some y := ⟨_, List.getElem?_eq_getElem hml⟩
      obtain ⟨t, so, eo, sn, sc, en, ec, c0, c1, c2, c3⟩ := (HC.out.below HB.out) mm y hy
      have hmi : (mm : Int) < (qs.length : Int) := by omega
      have hw1 : IntKind.i64.wrap ((lo : Int) + (hi : Int)) = (lo : Int) + (hi : Int) := by rw [IntKind.wrap_i64]; have := HI.out; have := HL.out; omega
      have hw2 : IntKind.u64.wrap ((lo : Int) + (hi : Int)) = (lo : Int) + (hi : Int) := by rw [IntKind.wrap_u64]; have := HI.out; have := HL.out; omega
      have hqi : ((lo : Int) + (hi : Int)) / 2 = (mm : Int) := by omega
      have m3 : IntKind.i64.wrap (mm : Int) = (mm : Int) := by rw [IntKind.wrap_i64]; have := HL.out; omega
      have m5 : wrap64 (mm : Int) = (mm : Int) := w64_n18 mm (by have := HL.out; omega)
      have m4 : IntKind.i64.wrap ((mm : Int) + 1) = ((mm + 1 : Nat) : Int) := by rw [IntKind.wrap_i64]; have := HL.out; push_cast; omega
      have HM : Hid (lo ≤ mm ∧ mm < hi ∧ qs[mm]? = some y) := ⟨by omega, by omega, hy⟩
      have HP := hid13 (fun j z (h1 : qs[j]? = some z) => ((fun h => by
        obtain ⟨a1, a2⟩ := List.getElem?_eq_some_iff.mp h1
        obtain ⟨b1, b2⟩ := List.getElem?_eq_some_iff.mp hy
        have := List.pairwise_iff_getElem.mp HS.out j mm a1 b1 h
        rw [a2, b2] at this
        exact this) : j < mm → z < y))
      have HQ := hid13 (fun j z (h1 : qs[j]? = some z) => ((fun h => by
        obtain ⟨a1, a2⟩ := List.getElem?_eq_some_iff.mp h1
        obtain ⟨b1, b2⟩ := List.getElem?_eq_some_iff.mp hy
        have := List.pairwise_iff_getElem.mp HS.out mm j b1 a1 h
        rw [a2, b2] at this
        exact this) : mm < j → y < z))
      have KC := bat1_18 y t x so eo sn sc en ec wr
      obtain ⟨cz, hcz⟩ : ∃ cz, cz = cmp18 y x := ⟨_, rfl⟩
      rw [← hcz] at KC
      clear hy hmm hml
      go_wp2_with fail
      refine KC.mono ?_
      rintro e w1 ⟨rfl, hb1⟩
      have HB1 := hid13 (keepb hb1 HB.out)
      clear KC hb1 HB c0 c1 c2 c3
      by_cases hyx : y < x
      · have HN : Hid (mm + 1 ≤ hi ∧ hi ≤ qs.length ∧ hi - (mm + 1) ≤ gk - 1 ∧ (∀ j z, j < mm + 1 → qs[j]? = some z → z < x) ∧ (∀ j z, hi ≤ j → qs[j]? = some z → x ≤ z)) := by
          refine ⟨by have := HM.out; omega, HI.out.2.1, by have := HM.out; have := HI.out; omega, fun j z hj hz => ?_, HI.out.2.2.2.2⟩
          by_cases e : j = mm
          · subst e
            rw [HM.out.2.2] at hz
            injection hz with hz
            omega
          · have := HP.out j z hz (by omega)
            omega
        have HG : Hid (gk - 1 < gk) := by have := HM.out; have := HI.out; show _ < _; omega
        have hcn : cz < 0 := by rw [hcz]; unfold cmp18; rw [if_pos hyx]; decide
        clear HI HM HP HQ hcz hyx
        go_wp2
        go_roundg (gk - 1)
        case measure => exact HG.out
        case rel => exact ⟨mm + 1, hi, rfl, rfl, HN, HB1⟩
      · have HN : Hid (lo ≤ mm ∧ mm ≤ qs.length ∧ mm - lo ≤ gk - 1 ∧ (∀ j z, j < lo → qs[j]? = some z → z < x) ∧ (∀ j z, mm ≤ j → qs[j]? = some z → x ≤ z)) := by
          refine ⟨HM.out.1, by have := HM.out; have := HI.out; omega, by have := HM.out; have := HI.out; omega, HI.out.2.2.2.1, fun j z hj hz => ?_⟩
          by_cases e : j = mm
          · subst e
            rw [HM.out.2.2] at hz
            injection hz with hz
            omega
          · have := HQ.out j z hz (by omega)
            omega
        have HG : Hid (gk - 1 < gk) := by have := HM.out; have := HI.out; show _ < _; omega
        have hcn : ¬ cz < 0 := by rw [hcz]; unfold cmp18; rw [if_neg hyx]; split <;> decide
        clear HI HM HP HQ hcz hyx
        go_wp2
        go_roundg (gk - 1)
        case measure => exact HG.out
        case rel => exact ⟨lo, mm, rfl, rfl, HN, HB1⟩
    · have hle : lo = hi := by have := HI.out.1; omega
      subst hle
      by_cases hin : lo < qs.length
      · obtain ⟨y, hy⟩ : ∃ y, qs[lo]? = some y := ⟨_, List.getElem?_eq_getElem hin⟩
        obtain ⟨t, so, eo, sn, sc, en, ec, c0, c1, c2, c3⟩ := (HC.out.below HB.out) lo y hy
        have hin' : (lo : Int) < (qs.length : Int) := by omega
        have KC := bat1_18 y t x so eo sn sc en ec wr
        have HF : Hid (∀ b, b = (cmp18 y x == 0) → (b = true → fnB qs x = (lo : Int) ∧ lo < qs.length) ∧ (b = false → fnB qs x = -1)) := hid13 (fun b hb => by
          have h1 := HI.out.2.2.2.2 lo y (Nat.le_refl _) hy
          subst hb
          unfold cmp18
          constructor
          · intro q
            have e : y = x := by
              split at q
              · cases q
              · split at q
                · cases q
                · omega
            subst e
            exact ⟨fnB_at HS.out hy, hin⟩
          · intro q
            have e : x < y := by
              split at q
              · omega
              · split at q
                · omega
                · simp at q
            refine fnB_no (fun i z hz => ?_)
            by_cases hi : i < lo
            · have := HI.out.2.2.2.1 i z hi hz
              omega
            · by_cases hi2 : i = lo
              · subst hi2
                rw [hy] at hz
                injection hz with hz
                omega
              · obtain ⟨a1, a2⟩ := List.getElem?_eq_some_iff.mp hz
                obtain ⟨b1, b2⟩ := List.getElem?_eq_some_iff.mp hy
                have := List.pairwise_iff_getElem.mp HS.out lo i b1 a1 (by omega)
                rw [a2, b2] at this
                omega)
        generalize cmp18 y x = cz at *
        clear hlt hin hy
        go_wp2_with fail
        refine KC.mono ?_
        rintro e w1 ⟨rfl, hb1⟩
        have HB1 := hid13 (keepb hb1 HB.out)
        clear KC hb1 HB c0 c1 c2 c3
        go_wp2
        exact bodyPost_ret (v := .tuple #[.int .i64 (lo : Int), .bool (cz == 0)]) (by simp [results, Tryd.results68, go_sem]) rfl ⟨⟨lo, (cz == 0), rfl, HF.out _ rfl⟩, HB1.out⟩
      · have hin' : ¬ (lo : Int) < (qs.length : Int) := by omega
        have HF : Hid (fnB qs x = -1) := hid13 (fnB_no (fun i z hz => by
          have := (List.getElem?_eq_some_iff.mp hz).1
          have := HI.out.2.2.2.1 i z (by omega) hz
          omega))
        clear hlt hin
        go_wp2
        exact bodyPost_ret (v := .tuple #[.int .i64 (lo : Int), .bool false]) (by simp [results, Tryd.results68, go_sem]) rfl ⟨⟨lo, false, rfl, fun q => (by cases q), fun _ => HF.out⟩, HB.out⟩
set_option maxHeartbeats 4000000 in
theorem blockAt18 (PB' g c : Nat) (qs : List Int) (x : Int) (w : World) (h0 : w.cell? ⟨PB', 0, none⟩ = some (.slice (some ⟨g, 0, none⟩) qs.length c)) (hc : SrR w g qs) (hs : qs.Pairwise (· < ·)) (hl : qs.length ≤ 1000000000) :
    Calls Tryd.prog 56 #[.pointer (some ⟨PB', 0, none⟩), .int .i64 x] w fun e w' => SrQ qs x e ∧ Below w.heap.size w w' := by
  have KS := search18 g c qs x w hc hs hl
  clear hc hs hl
  go_enter Tryd.func56, Tryd.ntmps56
  go_wp2_with fail
  refine KS.mono ?_
  rintro e w1 ⟨⟨i, b, rfl, h1, h2⟩, hb⟩
  have HF := hid13 (And.intro h1 (And.intro h2 hb))
  clear h1 h2 hb KS
  go_wp2
  exact bodyPost_ret (v := .tuple #[.int .i64 (i : Int), .bool b]) (by simp [results, Tryd.results56, go_sem]) rfl ⟨⟨i, b, rfl, HF.out.1, HF.out.2.1⟩, HF.out.2.2⟩
end Go.Proofs.YtjgpbahglkaijaaDoor
namespace Go.Proofs.YtjgpbahglkaijaaDoor
open Go.RowKit Go.Shelf
set_option linter.unusedSimpArgs false
set_option linter.unusedVariables false
attribute [local go_sem] Oper.semAt_some

def wdB (o k : Nat) (m : List (BitVec 32)) : List Nat := (fstW o k :: m).flatMap fun x => by4 x.toNat
theorem fm_len : ∀ (m : List (BitVec 32)), (m.flatMap fun x => by4 x.toNat).length = 4 * m.length
  | [] => rfl
  | x :: m => by rw [List.flatMap_cons, List.length_append, fm_len m, List.length_cons]; show 4 + _ = _; omega
theorem wdB_len (o k : Nat) (m : List (BitVec 32)) : (wdB o k m).length = 4 * (1 + m.length) := by
  unfold wdB; rw [fm_len, List.length_cons]; omega
theorem chk_zero {o n : Int} {m : List (BitVec 32)} (h : chkE o n m = 0) : (1 ≤ o ∧ o ≤ 4) ∧ (0 ≤ n ∧ n ≤ 16777215) ∧ m.length ≤ 524288 := by
  unfold chkE at h
  by_cases h1 : isOp o = true
  · rw [if_pos h1] at h
    by_cases h2 : (decide (kLo o ≤ n) && decide (n ≤ kHi o)) = true
    · rw [if_pos h2] at h
      simp only [Bool.and_eq_true, decide_eq_true_eq] at h2
      have ho : 1 ≤ o ∧ o ≤ 4 := by unfold isOp at h1; simpa using h1
      have hn0 : 0 ≤ n := by have := h2.1; unfold kLo at this; split at this <;> omega
      have hn1 : n ≤ 16777215 := by have := h2.2; unfold kHi at this; split at this; omega; split at this <;> omega
      refine ⟨ho, ⟨hn0, hn1⟩, ?_⟩
      by_cases h3 : o = 2
      · rw [if_pos h3] at h
        have hk : n ≤ 24 := by have := h2.2; rw [h3] at this; exact this
        by_cases h4 : isMapB m n.toNat = true
        · unfold isMapB at h4
          simp only [Bool.and_eq_true, decide_eq_true_eq] at h4
          rw [h4.1]
          exact mwN_hi _ (by omega)
        · rw [if_neg h4] at h; omega
      · rw [if_neg h3] at h
        by_cases h4 : m = []
        · rw [h4]; simp
        · rw [if_neg h4] at h; omega
    · rw [if_neg h2] at h; omega
  · rw [if_neg h1] at h; omega
theorem AtI.grown {W W' : World} {B : Nat} {o n : Int} {v : Value} {row : Option Nat} (h : AtI W B o n v) (hg : W.grownBy W' row) (hne : some B ≠ row) : AtI W' B o n v := ⟨hg.cell h.1 hne, hg.cell h.2.1 hne, hg.cell h.2.2 hne⟩
end Go.Proofs.YtjgpbahglkaijaaDoor
namespace Go.Proofs.YtjgpbahglkaijaaDoor
set_option linter.unusedSimpArgs false
set_option linter.unusedVariables false

theorem numN_by4 (x : BitVec 32) : numN13 (by4 x.toNat) = x.toNat := num4 _ x.isLt
theorem wdV_zero (x : BitVec 32) (z : List Nat) : wdV (by4 x.toNat ++ z) 0 = x := by
  unfold wdV
  have e : (((by4 x.toNat ++ z).drop (4 * 0)).take 4) = by4 x.toNat := by
    rw [Nat.mul_zero, List.drop_zero]
    exact List.take_left' rfl
  rw [e, numN_by4]
  simp
theorem wdV_app (l X : List Nat) (a j : Nat) (h : l.length = 4 * a) : wdV (l ++ X) (a + j) = wdV X j := by
  unfold wdV
  rw [Nat.mul_add, ← h, ← List.drop_drop, List.drop_left]
theorem wdV_succ (x : BitVec 32) (z : List Nat) (j : Nat) : wdV (by4 x.toNat ++ z) (j + 1) = wdV z j := by
  rw [Nat.add_comm j 1]
  exact wdV_app (by4 x.toNat) z 1 j rfl
theorem wdV_fm : ∀ (ws : List (BitVec 32)) (z : List Nat) (j : Nat) (x : BitVec 32), ws[j]? = some x → wdV ((ws.flatMap fun x => by4 x.toNat) ++ z) j = x
  | [], z, j, x, h => by simp at h
  | y :: ws, z, 0, x, h => by
    simp at h
    subst h
    rw [List.flatMap_cons, List.append_assoc]
    exact wdV_zero y _
  | y :: ws, z, j + 1, x, h => by
    rw [List.flatMap_cons, List.append_assoc, wdV_succ]
    exact wdV_fm ws z j x (by simpa using h)
theorem kHi_Rm (o : Int) : kHi o ≤ kRm o := by
  unfold kHi kRm
  split
  · omega
  · split <;> omega
theorem dec_enc (l z : List Nat) (a : Nat) (o n : Int) (m : List (BitVec 32)) (hl : l.length = 4 * a) (h : chkE o n m = 0) :
    dcE (l ++ wdB o.toNat n.toNat m ++ z) (a : Int) = 0 ∧ dcI (l ++ wdB o.toNat n.toNat m ++ z) (a : Int) = ⟨o, n, m⟩ ∧ dcZ (l ++ wdB o.toNat n.toNat m ++ z) (a : Int) = 1 + (m.length : Int) := by
  obtain ⟨ho, hn, hm⟩ := chk_zero h
  obtain ⟨O, rfl⟩ : ∃ O : Nat, o = (O : Int) := ⟨o.toNat, by omega⟩
  obtain ⟨N, rfl⟩ : ∃ N : Nat, n = (N : Int) := ⟨n.toNat, by omega⟩
  rw [Int.toNat_natCast, Int.toNat_natCast]
  obtain ⟨L, hL⟩ : ∃ L, L = l ++ wdB O N m ++ z := ⟨_, rfl⟩
  rw [← hL]
  have hlen : L.length = 4 * a + 4 * (1 + m.length) + z.length := by rw [hL, List.length_append, List.length_append, hl, wdB_len]
  have hw : ∀ j x, (fstW O N :: m)[j]? = some x → wdV L (a + j) = x := by
    intro j x hj
    rw [hL, List.append_assoc, wdV_app l _ a j hl]
    exact wdV_fm _ z j x hj
  have h0 : wdV L a = fstW O N := hw 0 _ rfl
  have hu : uI (wdV L a) = ((O * 16777216 + N : Nat) : Int) := by rw [h0]; exact fst_uI O N (by omega) (by omega)
  have hO : insO L a = (O : Int) := by unfold insO; rw [hu]; omega
  have hN : insN L a = (N : Int) := by unfold insN; rw [hu]; omega
  have hs : stB L.length (a : Int) 1 = true := by unfold stB; simp; omega
  have hop : isOp (O : Int) = true := by unfold isOp; simp; omega
  have htk : tkB (O : Int) (N : Int) = true := by
    unfold tkB
    unfold chkE at h
    rw [if_pos hop] at h
    by_cases c : (decide (kLo (O : Int) ≤ (N : Int)) && decide ((N : Int) ≤ kHi (O : Int))) = true
    · exact c
    · rw [if_neg c] at h; omega
  have hrm : (N : Int) ≤ kRm (O : Int) := by
    unfold tkB at htk
    simp only [Bool.and_eq_true, decide_eq_true_eq] at htk
    exact Int.le_trans htk.2 (kHi_Rm _)
  have hr : rdP L a = (m, 0) := by
    unfold rdP
    rw [hO, hN, if_pos hop, if_pos hrm, if_pos htk, Int.toNat_natCast]
    unfold chkE at h
    have htk' := htk
    unfold tkB at htk'
    rw [if_pos hop, if_pos htk'] at h
    by_cases c : (O : Int) = 2
    · rw [if_pos c] at h ⊢
      rw [Int.toNat_natCast] at h
      have hmp : isMapB m N = true := by
        by_cases c2 : isMapB m N = true
        · exact c2
        · rw [if_neg c2] at h; omega
      have hml : m.length = mwN N := by
        unfold isMapB at hmp
        simp only [Bool.and_eq_true, decide_eq_true_eq] at hmp
        exact hmp.1
      have hmL : mpL L (a + 1) (mwN N) = m := by
        apply List.ext_getElem?
        intro j
        by_cases hj : j < m.length
        · unfold mpL
          rw [List.getElem?_map, List.getElem?_range (by omega), List.getElem?_eq_getElem hj]
          simp only [Option.map_some, Option.some.injEq]
          rw [Nat.add_assoc, Nat.add_comm 1 j]
          exact hw (j + 1) _ (by simp [hj])
        · rw [List.getElem?_eq_none (by rw [mpL_len]; omega), List.getElem?_eq_none (by omega)]
      unfold rmP
      rw [if_pos (by omega), hmL, if_pos hmp]
    · rw [if_neg c] at h ⊢
      by_cases c2 : m = []
      · rw [c2]
      · rw [if_neg c2] at h; omega
  have hE : dcE L (a : Int) = 0 := by unfold dcE; rw [if_pos hs, Int.toNat_natCast, hr]
  have hI : dcI L (a : Int) = ⟨(O : Int), (N : Int), m⟩ := by unfold dcI; rw [if_pos hE, Int.toNat_natCast, hO, hN, hr]
  exact ⟨hE, hI, by unfold dcZ; rw [if_pos hE, hI]⟩
theorem by4_num (a b c d : Nat) (ha : a < 256) (hb : b < 256) (hc : c < 256) (hd : d < 256) : by4 (numN13 [a, b, c, d]) = [a, b, c, d] := by
  have e : numN13 [a, b, c, d] = ((((0 * 256 + a) * 256 + b) * 256 + c) * 256 + d) := rfl
  rw [e]
  unfold by4
  congr 1
  · omega
  · congr 1
    · omega
    · congr 1
      · omega
      · congr 1; omega
theorem list4 (l : List Nat) (h : l.length = 4) : ∃ a b c d, l = [a, b, c, d] := by
  match l, h with
  | [a, b, c, d], _ => exact ⟨a, b, c, d, rfl⟩
theorem by4_wd (l : List Nat) (k : Nat) (hx : ∀ b ∈ l, b < 256) (hk : k < l.length / 4) : by4 (wdV l k).toNat = (l.drop (4 * k)).take 4 := by
  have h1 : (wdV l k).toNat = numN13 ((l.drop (4 * k)).take 4) := by
    unfold wdV
    rw [BitVec.toNat_ofNat]
    exact Nat.mod_eq_of_lt (wd_lt l k hx)
  rw [h1]
  obtain ⟨a, b, c, d, e⟩ := list4 ((l.drop (4 * k)).take 4) (by rw [List.length_take, List.length_drop]; omega)
  have hb : ∀ y ∈ (l.drop (4 * k)).take 4, y < 256 := fun y hy => hx y (List.mem_of_mem_drop (List.mem_of_mem_take hy))
  rw [e] at hb ⊢
  exact by4_num a b c d (hb a (by simp)) (hb b (by simp)) (hb c (by simp)) (hb d (by simp))
theorem fm_mp (l : List Nat) (hx : ∀ b ∈ l, b < 256) : ∀ (c k : Nat), k + c ≤ l.length / 4 → ((mpL l k c).flatMap fun x => by4 x.toNat) = (l.drop (4 * k)).take (4 * c)
  | 0, k, h => by simp [mpL]
  | c + 1, k, h => by
    rw [mpL_succ, List.flatMap_append, fm_mp l hx c k (by omega)]
    show _ ++ (by4 (wdV l (k + c)).toNat ++ []) = _
    rw [List.append_nil, by4_wd l (k + c) hx (by omega), Nat.mul_succ, List.take_add, List.drop_drop, Nat.mul_add]
theorem mpL_cons (l : List Nat) (k c : Nat) : wdV l k :: mpL l (k + 1) c = mpL l k (c + 1) := by
  unfold mpL
  rw [List.range_succ_eq_map]
  simp only [List.map_cons, List.map_map, Nat.add_zero, List.cons.injEq, true_and]
  apply List.map_congr_left
  intro j _
  simp only [Function.comp]
  congr 1
  omega
theorem dcE_stand {l : List Nat} {a : Int} (h : dcE l a = 0) : 0 ≤ a ∧ a.toNat < l.length / 4 ∧ (rdP l a.toNat).2 = 0 := by
  unfold dcE at h
  by_cases c : stB l.length a 1 = true
  · rw [if_pos c] at h
    unfold stB at c
    simp at c
    exact ⟨c.1, by omega, h⟩
  · rw [if_neg c] at h; omega
theorem enc_dec (l : List Nat) (a : Int) (hx : ∀ b ∈ l, b < 256) (h : dcE l a = 0) :
    chkE (dcI l a).op (dcI l a).n (dcI l a).m = 0 ∧ wdB (dcI l a).op.toNat (dcI l a).n.toNat (dcI l a).m = (l.drop (4 * a.toNat)).take (4 * (1 + (dcI l a).m.length)) ∧ a.toNat + 1 + (dcI l a).m.length ≤ l.length / 4 := by
  obtain ⟨ha, hk, hr⟩ := dcE_stand h
  have hI : dcI l a = ⟨insO l a.toNat, insN l a.toNat, (rdP l a.toNat).1⟩ := by unfold dcI; rw [if_pos h]
  rw [hI]
  simp only
  obtain ⟨k, hkd⟩ : ∃ k, k = a.toNat := ⟨_, rfl⟩
  rw [← hkd] at hk hr ⊢
  have hX0 := uI_lo (wdV l k)
  have hX1 := uI_up (wdV l k)
  obtain ⟨O, hO⟩ : ∃ O : Nat, (O : Int) = insO l k := ⟨(insO l k).toNat, by unfold insO; omega⟩
  obtain ⟨N, hN⟩ : ∃ N : Nat, (N : Int) = insN l k := ⟨(insN l k).toNat, by unfold insN; omega⟩
  have hf : fstW O N = wdV l k := by
    apply uI_inj
    have e : ((O * 16777216 + N : Nat) : Int) = uI (wdV l k) := by
      have h1 : (O : Int) = uI (wdV l k) / 16777216 := hO
      have h2 : (N : Int) = uI (wdV l k) % 16777216 := hN
      omega
    rw [← e]
    exact uI_of _ (by omega)
  have key : ∀ m, m = (rdP l k).1 → chkE (O : Int) (N : Int) m = 0 ∧ m = mpL l (k + 1) m.length ∧ k + 1 + m.length ≤ l.length / 4 := by
    intro m hm
    unfold rdP at hr hm
    rw [← hO, ← hN] at hr hm
    by_cases c1 : isOp (O : Int) = true
    · rw [if_pos c1] at hr hm
      by_cases c2 : (N : Int) ≤ kRm (O : Int)
      · rw [if_pos c2] at hr hm
        by_cases c3 : tkB (O : Int) (N : Int) = true
        · rw [if_pos c3] at hr hm
          have c3' := c3
          unfold tkB at c3'
          unfold chkE
          rw [if_pos c1, if_pos c3']
          by_cases c4 : (O : Int) = 2
          · rw [if_pos c4] at hr hm ⊢
            unfold rmP at hr hm
            rw [Int.toNat_natCast] at hr hm ⊢
            by_cases c5 : k + 1 + mwN N ≤ l.length / 4
            · rw [if_pos c5] at hr hm
              by_cases c6 : isMapB (mpL l (k + 1) (mwN N)) N = true
              · rw [if_pos c6] at hr hm
                simp only at hm
                have hml : m.length = mwN N := by rw [hm, mpL_len]
                refine ⟨by rw [hm, if_pos c6], by rw [hml]; exact hm, by omega⟩
              · rw [if_neg c6] at hr; simp at hr
            · rw [if_neg c5] at hr; simp at hr
          · rw [if_neg c4] at hr hm ⊢
            simp only at hm
            subst hm
            exact ⟨by rw [if_pos rfl], by simp [mpL], by simp; omega⟩
        · rw [if_neg c3] at hr; simp at hr
      · rw [if_neg c2] at hr; simp at hr
    · rw [if_neg c1] at hr; simp at hr
  obtain ⟨k1, k2, k3⟩ := key _ rfl
  rw [← hO, ← hN, Int.toNat_natCast, Int.toNat_natCast]
  refine ⟨k1, ?_, k3⟩
  unfold wdB
  obtain ⟨c, hc⟩ : ∃ c, c = (rdP l k).1.length := ⟨_, rfl⟩
  rw [← hc] at k2 k3 ⊢
  rw [k2, hf, mpL_cons, fm_mp l hx (c + 1) k (by omega), Nat.add_comm c 1]
end Go.Proofs.YtjgpbahglkaijaaDoor
namespace Go.Proofs.YtjgpbahglkaijaaDoor
open Go.RowKit
set_option linter.unusedSimpArgs false
set_option linter.unusedVariables false

theorem top_ones18 (m : List (BitVec 32)) (P : Nat) (h : topB (m.headD 0#32) P = true) (hl : 1 ≤ m.length) : 1 ≤ sumW m m.length := by
  rw [← cnt_words]
  refine Nat.le_trans ?_ (cnt_mono m 1 (32 * m.length) (by omega))
  unfold topB at h
  simp only [Bool.and_eq_true] at h
  have h1 : plc m 0 = true := by
    unfold plc bt
    cases m with
    | nil => simp at hl
    | cons x t => exact h.1
  show 1 ≤ cnt m (0 + 1)
  unfold cnt
  rw [h1]
  simp
structure DcF (l : List Nat) (a : Int) : Prop where
  a0 : 0 ≤ a
  a1 : a < ((l.length / 4 : Nat) : Int)
  op : (dcI l a).op = 1 ∨ (dcI l a).op = 2 ∨ (dcI l a).op = 3 ∨ (dcI l a).op = 4
  n0 : 0 ≤ (dcI l a).n
  n1 : (dcI l a).n ≤ 16777215
  m0 : (dcI l a).op ≠ 2 → (dcI l a).m = []
  m2 : (dcI l a).op = 2 → a + 1 + ((dcI l a).m.length : Int) ≤ ((l.length / 4 : Nat) : Int) ∧ 1 ≤ (dcI l a).m.length ∧ 1 ≤ sumW (dcI l a).m (dcI l a).m.length
  nx : (dcI l a).op ≠ 3 → (dcI l a).op ≠ 4 → 1 ≤ (dcI l a).n ∧ (dcI l a).n ≤ 24
theorem dcF {l : List Nat} {a : Int} (h : dcE l a = 0) : DcF l a := by
  obtain ⟨h1, h2, h3⟩ := dcE_stand h
  obtain ⟨k, rfl⟩ : ∃ k : Nat, a = (k : Int) := ⟨a.toNat, by omega⟩
  rw [Int.toNat_natCast] at h2 h3
  have hI : dcI l (k : Int) = ⟨insO l k, insN l k, (rdP l k).1⟩ := by unfold dcI; rw [if_pos h, Int.toNat_natCast]
  rw [show rdP l k = rdP l k from rfl] at h3
  unfold rdP at h3
  split at h3
  case isFalse => cases h3
  rename_i hop
  split at h3
  case isFalse => cases h3
  rename_i hrm
  split at h3
  case isFalse => cases h3
  rename_i htk
  have hr : rdP l k = if insO l k = 2 then rmP l (k + 1) (insN l k).toNat else ([], 0) := by
    unfold rdP; rw [if_pos hop, if_pos hrm, if_pos htk]
  have hc := isOp_cases hop
  have htk' := htk
  unfold tkB at htk'
  simp only [Bool.and_eq_true, decide_eq_true_eq] at htk'
  have hb : 0 ≤ insN l k ∧ insN l k ≤ 16777215 := by
    have e1 := htk'.1
    have e2 := htk'.2
    unfold kLo at e1
    unfold kHi at e2
    constructor
    · split at e1 <;> omega
    · split at e2
      · omega
      · split at e2 <;> omega
  refine ⟨by omega, by omega, by rw [hI]; exact hc, by rw [hI]; exact hb.1, by rw [hI]; exact hb.2, fun q => ?_, fun q => ?_, fun q1 q2 => ?_⟩
  · rw [hI] at q ⊢
    dsimp only at q ⊢
    rw [hr, if_neg q]
  · rw [hI] at q ⊢
    dsimp only at q ⊢
    rw [if_pos q] at h3 hr
    rw [hr]
    unfold rmP at h3 ⊢
    split at h3
    case isFalse => cases h3
    rename_i hs
    split at h3
    case isFalse => cases h3
    rename_i ht
    rw [if_pos hs, if_pos ht]
    dsimp only
    rw [mpL_len]
    have hl := mwN_lo (insN l k).toNat
    refine ⟨?_, hl, ?_⟩
    · push_cast
      omega
    · have e := ht
      unfold isMapB at e
      simp only [Bool.and_eq_true] at e
      have := top_ones18 _ _ e.2 (by rw [mpL_len]; exact hl)
      rwa [mpL_len] at this
  · rw [hI] at q1 q2 ⊢
    dsimp only at q1 q2 ⊢
    have e1 := htk'.1
    have e2 := htk'.2
    unfold kLo at e1
    unfold kHi at e2
    rw [if_neg q2] at e1
    rw [if_neg q1, if_neg q2] at e2
    exact ⟨e1, e2⟩
abbrev Out18 := List PB × Int × Int
def wds (l : List Nat) : Int := ((l.length / 4 : Nat) : Int)
noncomputable def bsF (l : List Nat) (rec : Int → List PB → Out18) (P : List PB) (a t : Int) (m : List (BitVec 32)) (en : Int) (r : List (Int × Int) × Int × Int) : Out18 :=
  if r.2.1 ≠ 0 then ([], r.2.2, r.2.1) else if en + (sumW m m.length : Nat) < wds l then rec (en + (sumW m m.length : Nat)) (P ++ [⟨a, t, m, prE en r.1⟩]) else (P ++ [⟨a, t, m, prE en r.1⟩], 0, 0)
noncomputable def bsG (l : List Nat) : Nat → Int → List PB → Out18
  | 0, a, P => ([], 0, 0)
  | f + 1, a, P => if dcE l a ≠ 0 then ([], a, dcE l a) else if (dcI l a).op ≠ 1 then ([], a, 24) else
    if dcE l (a + 1) ≠ 0 then ([], a + 1, dcE l (a + 1)) else if (dcI l (a + 1)).op ≠ 2 then ([], a + 1, 24) else
    if (dcI l (a + 1)).n ≠ (dcI l a).n then ([], a + 1, 25) else
    bsF l (bsG l f) P a (dcI l a).n (dcI l (a + 1)).m (a + 1 + dcZ l (a + 1)) (enG l (a + 1 + dcZ l (a + 1)) (sumW (dcI l (a + 1)).m (dcI l (a + 1)).m.length) 0 [])
theorem bsG_succ (l : List Nat) (f : Nat) (a : Int) (P : List PB) : bsG l (f + 1) a P = if dcE l a ≠ 0 then ([], a, dcE l a) else if (dcI l a).op ≠ 1 then ([], a, 24) else
    if dcE l (a + 1) ≠ 0 then ([], a + 1, dcE l (a + 1)) else if (dcI l (a + 1)).op ≠ 2 then ([], a + 1, 24) else
    if (dcI l (a + 1)).n ≠ (dcI l a).n then ([], a + 1, 25) else
    bsF l (bsG l f) P a (dcI l a).n (dcI l (a + 1)).m (a + 1 + dcZ l (a + 1)) (enG l (a + 1 + dcZ l (a + 1)) (sumW (dcI l (a + 1)).m (dcI l (a + 1)).m.length) 0 []) := rfl
end Go.Proofs.YtjgpbahglkaijaaDoor
namespace Go.Proofs.YtjgpbahglkaijaaDoor
open Go.RowKit
set_option linter.unusedSimpArgs false
set_option linter.unusedVariables false

def lkX (qs : List Int) (e : Bool × Int) : Bool × Int := if e.1 then (true, fnB qs e.2) else e
def lkI (qs : List Int) : Int → List (Bool × Int) → Option Int
  | _, [] => none
  | p, e :: t => if e.1 = true ∧ fnB qs e.2 = -1 then some p else lkI qs (p + 1) t
def lkB (qs : List Int) (b : PB) : PB := { b with es := b.es.map (lkX qs) }
def lkA (qs : List Int) : List PB → Option Int
  | [] => none
  | b :: t => match lkI qs (b.a + 2 + (b.m.length : Int)) b.es with
    | some p => some p
    | none => lkA qs t
def lkR (qs : List Int) (P : List PB) : Int × Int := match lkA qs P with
  | some p => (p, 26)
  | none => (0, 0)
def mkX (s : List Bool) (e : Bool × Int) : List Bool := if e.1 then s.set e.2.toNat true else s
def mkB (s : List Bool) (b : PB) : List Bool := b.es.foldl mkX s
def mk0 (n : Nat) : List Bool := (List.replicate n false).set 0 true
def mkA (P : List PB) : List Bool := P.foldl mkB (mk0 P.length)
def ixB (s : List Bool) : Int := match s.findIdx? (· == false) with
  | some k => (k : Int)
  | none => -1
def usR (P : List PB) : Int × Int := if 0 ≤ ixB (mkA P) then ((P.getD (ixB (mkA P)).toNat ⟨0, 0, [], []⟩).a, 31) else (0, 0)
def upX (B M : Int) (A : List (Int × Int)) (e : Bool × Int) : List (Int × Int) := if e.1 then A.set e.2.toNat (max (A.getD e.2.toNat (0, 0)).1 B, max (A.getD e.2.toNat (0, 0)).2 M) else A
def msG (F : Int) : List PB → Nat → List (Int × Int) → Int → Int × Int × Int
  | [], _, _, dp => (dp, 0, 0)
  | b :: t, k, A, dp =>
    if F < (A.getD k (0, 0)).2 + b.t then (0, b.a, 27) else msG F t (k + 1) (b.es.foldl (upX ((A.getD k (0, 0)).1 + 1) ((A.getD k (0, 0)).2 + b.t)) A) (max dp ((A.getD k (0, 0)).1 + 1))
def msR (F : Int) (P : List PB) : Int × Int × Int := msG F P 0 (List.replicate P.length (0, 0)) 0
theorem mkX_len (s : List Bool) (e : Bool × Int) : (mkX s e).length = s.length := by unfold mkX; split <;> simp
theorem mkF_len18 : ∀ (es : List (Bool × Int)) (s : List Bool), (es.foldl mkX s).length = s.length
  | [], s => rfl
  | e :: t, s => by rw [List.foldl_cons, mkF_len18 t, mkX_len]
theorem mkA_len : ∀ (P : List PB) (s : List Bool), (P.foldl mkB s).length = s.length
  | [], s => rfl
  | b :: t, s => by rw [List.foldl_cons, mkA_len t]; exact mkF_len18 _ _
theorem upX_len (B M : Int) (A : List (Int × Int)) (e : Bool × Int) : (upX B M A e).length = A.length := by unfold upX; split <;> simp
theorem upF_len (B M : Int) : ∀ (es : List (Bool × Int)) (A : List (Int × Int)), (es.foldl (upX B M) A).length = A.length
  | [], A => rfl
  | e :: t, A => by rw [List.foldl_cons, upF_len B M t, upX_len]
end Go.Proofs.YtjgpbahglkaijaaDoor
