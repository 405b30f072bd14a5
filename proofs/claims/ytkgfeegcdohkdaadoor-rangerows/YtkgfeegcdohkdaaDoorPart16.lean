/-
  Part 16 of the proof: 8 texts, one behind the other.
-/
import Derived.Test.YtkgfeegcdohkdaaDoorPart13
import Derived.Test.YtkgfeegcdohkdaaDoorPart5
import Derived.Test.YtkgfeegcdohkdaaDoorPart2
import Derived.Test.YtkgfeegcdohkdaaDoorPart6
import Derived.Test.YtkgfeegcdohkdaaDoorPart8
import Derived.Test.YtkgfeegcdohkdaaDoorPart7
import Derived.Laws.AppendOwnNone
import Derived.Test.YtkgfeegcdohkdaaDoorPart15
/-
  What the call of package ranges' Merge does.
-/
namespace Go.Proofs.YtkgfeegcdohkdaaDoor
open Go.RowKit
set_option linter.unusedSimpArgs false
set_option linter.unusedVariables false

theorem own_rw {W : World} {base : Nat} {v : Value} {l : List (BitVec 128 × Int)} (h : W.ownsRow base 26 3 v l.length (rowP l)) : Rw W v l := by
  rcases h.2 with ⟨e0, e1⟩ | ⟨g, cap, cur, e0, hb, hg, hnc, hm, hs, ht⟩
  · have : l = [] := List.eq_nil_of_length_eq_zero e1
    subst this
    exact ⟨none, 0, e0, .inl ⟨rfl, rfl⟩⟩
  · refine ⟨some ⟨g, 0, none⟩, cap, e0, .inr ⟨g, 0, rfl, ?_⟩⟩
    intro j u hj
    have e : ∀ k, (⟨g, 0, none⟩ : Addr).add k = ⟨g, k, none⟩ := fun k => by unfold Addr.add; split <;> simp_all
    have f := h.cells (g := g) (by rw [e0]; rfl) j u hj
    rw [e] at f
    rw [Nat.zero_add]
    exact f
theorem chk_bd {F : Int} {l : List (BitVec 128 × Int)} (h : chkE F l = 0) : fam F = true ∧ ∀ p ∈ l, checkE F p.1 p.2 = 0 := by
  unfold chkE at h
  split at h
  · refine ⟨by assumption, ?_⟩
    induction l with
    | nil => intro p hp; cases hp
    | cons a l ih =>
      simp only [chkG] at h
      split at h
      · intro p hp
        rcases List.mem_cons.mp hp with rfl | hp
        · assumption
        · exact ih h p hp
      · contradiction
  · cases h
theorem check_in {F : Int} {x : BitVec 128} {n : Int} (h : checkE F x n = 0) : 0 ≤ n ∧ n ≤ F := by
  unfold checkE at h
  split at h
  · split at h
    · cases h
    · split at h
      · cases h
      · omega
  · cases h
theorem fam_le {F : Int} (h : fam F = true) : F ≤ 128 := by
  simp [fam] at h
  omega
theorem sortL_mem {l : List (BitVec 128 × Int)} {p : BitVec 128 × Int} : p ∈ sortL l ↔ p ∈ l := List.mem_mergeSort
set_option maxHeartbeats 2000000 in
theorem merge_any (F : Int) (v : Value) (l : List (BitVec 128 × Int)) (w : World) (hv : Rw w v l) (hl : l.length ≤ 1000000000) (hf : chkE F l = 0) :
    Calls Tryd.prog 22 #[.int .i64 F, v] w fun e w' => (∃ v', e = .returned (.tuple #[v', .int .i64 0]) ∧ w'.ownsRow w.heap.size 26 3 v' (ptAll [] (sortL l)).length (rowP (ptAll [] (sortL l)).reverse)) ∧ Below w.heap.size w w' := by
  have KC := fun w hw => checkList_any F v l w hw hl
  rw [hf] at KC
  have hbd : ∀ p ∈ sortL l, Bd p := fun p hp => by
    obtain ⟨a, b⟩ := chk_bd hf
    have c := check_in (b p (sortL_mem.mp hp))
    have d := fam_le a
    exact ⟨c.1, by omega⟩
  have KI := fun w hw => inOrder_any v l w hw hl
  have KP := fun v' w hw => putT_any v' (sortL l) w hw (by rw [sortL_len]; exact hl) hbd
  have HV : Hid (Rw w v l) := hv
  clear hbd hv hf
  go_enter Tryd.func22, Tryd.ntmps22
  go_wp2_with fail
  refine (KC _ HV.out).mono ?_
  rintro e w1 ⟨rfl, hb⟩
  have kB1 := hb
  have HV1 : Hid (Rw w1 v l) := HV.out.below hb
  clear hb KC
  go_wp2_with fail
  refine (KI _ HV1.out).mono ?_
  rintro e w2 ⟨⟨v2, rfl, hrow⟩, hb⟩
  have kB2 := keepb hb kB1
  have HR : Hid (Rw w2 v2 (sortL l)) := own_rw (by rw [sortL_len]; exact hrow)
  clear hb KI hrow
  go_wp2_with fail
  refine (KP _ _ HR.out).mono ?_
  rintro e w3 ⟨⟨v3, rfl, hrow⟩, hb⟩
  have kB3 := keepb hb kB2
  have HR3 : Hid (w3.ownsRow w.heap.size 26 3 v3 (ptAll [] (sortL l)).length (rowP (ptAll [] (sortL l)).reverse)) := own_base hrow kB2.size
  clear hb KP hrow HR HV1
  go_wp2
  go_ret2
  exact ⟨⟨_, rfl, HR3.out⟩, kB3⟩
set_option maxHeartbeats 2000000 in
theorem merge_err (F : Int) (v : Value) (l : List (BitVec 128 × Int)) (w : World) (hv : Rw w v l) (hl : l.length ≤ 1000000000) (hf : ¬ chkE F l = 0) :
    Calls Tryd.prog 22 #[.int .i64 F, v] w fun e w' => e = .returned (.tuple #[.slice none 0 0, .int .i64 (chkE F l)]) ∧ Below w.heap.size w w' := by
  have KC := fun w hw => checkList_any F v l w hw hl
  revert KC hf
  generalize chkE F l = ce
  intro hf KC
  have hn : (ce != 0) = true := by simp [hf]
  have HV : Hid (Rw w v l) := hv
  clear hv
  go_enter Tryd.func22, Tryd.ntmps22
  go_wp2_with fail
  refine (KC _ HV.out).mono ?_
  rintro e w1 ⟨rfl, hb⟩
  clear KC
  go_wp2
  go_ret2
  exact ⟨rfl, hb⟩
end Go.Proofs.YtkgfeegcdohkdaaDoor
/-
  What a call of the reference's Kids does.
-/
namespace Go.Proofs.YtkgfeegcdohkdaaDoor
open Go.RowKit
set_option linter.unusedSimpArgs false
set_option linter.unusedVariables false

theorem eval_of {a : Act} {s : Nat} {v : Value} (h : a.tmps[s]? = some v) : a.eval (.tmp s) = v := by
  show a.tmps.getD s undef = v
  rw [Array.getD_eq_getD_getElem?, h]; rfl
/-- The prefix and both answers in memory; the first one as it stands. -/
def RK (w : World) (x : BitVec 128) (n : Int) (y : BitVec 128) (m : Int) (W : World) : Prop := AtP W w.heap.size x n ∧ AtP W (w.heap.size + 1) y m ∧ AtP W (w.heap.size + 1 + 1) 0#128 0 ∧ Below w.heap.size w W
theorem RK.below {w W W' : World} {x y : BitVec 128} {n m : Int} (h : RK w x n y m W) (hb : Below W.heap.size W W') : RK w x n y m W' := ⟨h.1.below hb, h.2.1.below hb, h.2.2.1.below hb, keepb hb h.2.2.2⟩
end Go.Proofs.YtkgfeegcdohkdaaDoor
/-
  What the calls of the reference's chapter 3 do: Sibling, Kids.
-/
namespace Go.Proofs.YtkgfeegcdohkdaaDoor
open Go.RowKit
set_option linter.unusedSimpArgs false
set_option linter.unusedVariables false

def rsibV (x : BitVec 128) (n : Int) : BitVec 128 := if n ≤ 0 then 0#128 else putW x (n - 1) (1 - bitZ x (n - 1))
set_option maxHeartbeats 2000000 in
set_option maxRecDepth 20000 in
theorem rsib_any (x : BitVec 128) (n : Int) (w : World) (h0 : 0 ≤ n) (h1 : n ≤ 128) :
    Calls Tryd.prog 35 #[.agg #[.int .u64 (hI x), .int .u64 (lI x), .int .i64 n]] w fun e w' => e = .returned (.tuple #[.agg #[.int .u64 (hI (rsibV x n)), .int .u64 (lI (rsibV x n)), .int .i64 (sibN n)], .bool (decide (0 < n))]) ∧ Below w.heap.size w w' := by
  unfold rsibV sibN
  by_cases h : n ≤ 0
  · have hz : n = 0 := by omega
    subst hz
    rw [if_pos h, if_pos h, hI_zero, lI_zero]
    go_enter Tryd.func35, Tryd.ntmps35
    go_wp2
    exact bodyPost_ret (v := .tuple #[.agg #[.int .u64 0, .int .u64 0, .int .i64 0], .bool false]) (by simp [results, Tryd.results35, go_sem, *]) rfl ⟨rfl, bl2 _ _ _⟩
  · have h' : 0 < n := by omega
    have hz : (n == 0) = false := by simp; omega
    have hu : IntKind.i64.wrap (n - 1) = n - 1 := by rw [IntKind.wrap_i64]; omega
    have hbl := fun o p => (bl2 w o p).drew
    rw [if_neg h, if_neg h]
    simp only [h', decide_true]
    have KB := fun w => rbit_any x (n - 1) w
    have hb01 := bitZ_01 x (n - 1)
    have KP := fun w => put_any x (n - 1) (1 - bitZ x (n - 1)) w (by omega) (by omega) (by omega)
    have hu2 : IntKind.i64.wrap (1 - bitZ x (n - 1)) = 1 - bitZ x (n - 1) := by rw [IntKind.wrap_i64]; omega
    generalize putW x (n - 1) (1 - bitZ x (n - 1)) = c at *
    generalize bitZ x (n - 1) = t at *
    clear hb01
    go_enter Tryd.func35, Tryd.ntmps35
    go_wp2
    go_region_held3 (fun w' => w'.cell? ⟨w.heap.size, 0, none⟩ = some (.int .u64 (hI x)) ∧ w'.cell? ⟨w.heap.size, 1, none⟩ = some (.int .u64 (lI x)) ∧ w'.cell? ⟨w.heap.size, 2, none⟩ = some (.int .i64 n) ∧ w'.cell? ⟨w.heap.size + 1, 0, none⟩ = some (cv w' (w.heap.size + 1) 0) ∧ w'.cell? ⟨w.heap.size + 1, 1, none⟩ = some (cv w' (w.heap.size + 1) 1) ∧ w'.cell? ⟨w.heap.size + 1, 2, none⟩ = some (cv w' (w.heap.size + 1) 2) ∧ w'.frozen? ⟨w.heap.size + 1, 0, none⟩ = false ∧ w'.frozen? ⟨w.heap.size + 1, 1, none⟩ = false ∧ w'.frozen? ⟨w.heap.size + 1, 2, none⟩ = false ∧ Below w.heap.size w w')
      (first
        | (obtain ⟨k1, k2, k0, k3, k4, k5, k6, k7, k8, k9⟩ := ‹_ ∧ _›; exact ⟨keepc hb2 k1, keepc hb2 k2, keepc hb2 k0, cv_of (keepc hb2 k3), cv_of (keepc hb2 k4), cv_of (keepc hb2 k5), keepf hb2 k3 k6, keepf hb2 k4 k7, keepf hb2 k5 k8, keepb hb2 k9⟩)
        | (obtain ⟨k1, k2, k0, k3, k4, k5, k6, k7, k8, k9⟩ := ‹_ ∧ _›; exact ⟨keepc hb1 k1, keepc hb1 k2, keepc hb1 k0, cv_of (keepc hb1 k3), cv_of (keepc hb1 k4), cv_of (keepc hb1 k5), keepf hb1 k3 k6, keepf hb1 k4 k7, keepf hb1 k5 k8, keepb hb1 k9⟩)
        | (refine ⟨?_, ?_, ?_, cv_new ?_, cv_new ?_, cv_new ?_, ?_, ?_, ?_, ?_⟩ <;> first | (simp [go_sem, *]; done) | exact bset3 (by simp [*]) (by simp) _ _ _))
      (first | (go_at_call 70; refine (KB _).mono ?_; rintro e w1 ⟨rfl, hb1⟩) | (go_at_call 19; refine (KP _).mono ?_; rintro e w2 ⟨rfl, hb2⟩))
    obtain ⟨-, -, -, -, -, -, -, -, -, kB⟩ := ‹_ ∧ _›
    have e0 : w2.cell? ⟨w.heap.size + 1, 0, none⟩ = some (.int .u64 0) := keepc hb2 (keepc hb1 (by simp [go_sem]))
    have e1 : w2.cell? ⟨w.heap.size + 1, 1, none⟩ = some (.int .u64 0) := keepc hb2 (keepc hb1 (by simp [go_sem]))
    have e2 : w2.cell? ⟨w.heap.size + 1, 2, none⟩ = some (.int .i64 0) := keepc hb2 (keepc hb1 (by simp [go_sem]))
    go_wp2
    exact bodyPost_ret (v := .tuple #[.agg #[.int .u64 (hI c), .int .u64 (lI c), .int .i64 n], .bool true]) (by simp [results, Tryd.results35, go_sem, e0, e1, e2]) rfl ⟨rfl, kB⟩
end Go.Proofs.YtkgfeegcdohkdaaDoor
/-
  Plain facts: kids and siblings, told by the program and by the reference, are the same.
-/
namespace Go.Proofs.YtkgfeegcdohkdaaDoor
open Go.RowKit
set_option linter.unusedSimpArgs false
set_option linter.unusedVariables false

theorem bit1_bit (i : Int) (h0 : 0 ≤ i) (j : Nat) (hj : j < 128) : (bit1 i).getLsbD j = decide ((j : Int) = 127 - i) := by
  unfold bit1
  rw [BitVec.getLsbD_ushiftRight]
  by_cases c : i.toNat + j < 128
  · rw [maskW_bit 1 _ c]
    congr 1
    apply propext
    constructor
    · intro h
      have : 128 - (1 : Int).toNat = 127 := by decide
      omega
    · intro h
      have : 128 - (1 : Int).toNat = 127 := by decide
      omega
  · rw [BitVec.getLsbD_of_ge _ _ (by omega)]
    symm
    simp
    omega
/-- Behind its length a right prefix has no bits. -/
theorem rt_bit (F : Int) (x : BitVec 128) (n : Int) (h : Rt F x n) (j : Nat) (hj : j < 128) (hn : (j : Int) < 128 - n) : x.getLsbD j = false := by
  have hx := congrArg (fun z => z.getLsbD j) h.2.2
  simp only [cut_bit x n j hj] at hx
  have h0 := h.1
  have c : ¬ 128 - n.toNat ≤ j := by omega
  simp [c] at hx
  exact hx.symm ▸ rfl
theorem kid_put (F : Int) (x : BitVec 128) (n : Int) (h : Rt F x n) (h1 : F ≤ 128) (hn : n < F) : putW x n 1 = x ||| bit1 n := by
  apply BitVec.eq_of_getLsbD_eq
  intro j hj
  have h0 := h.1
  rw [putW_bit x n 1 (by omega) h0 (by omega) j hj, BitVec.getLsbD_or, bit1_bit n h0 j hj]
  by_cases c : j = (127 - n).toNat
  · have d : (j : Int) = 127 - n := by omega
    simp [c, d]
    omega
  · have d : ¬ (j : Int) = 127 - n := by omega
    simp [c, d]
theorem kidH_eq (F : Int) (x : BitVec 128) (n : Int) (h : Rt F x n) (h1 : F ≤ 128) : (if F ≤ n then 0#128 else putW x n 1) = kidH F x n := by
  unfold kidH
  by_cases c : F ≤ n
  · rw [if_pos c, if_pos c]
  · rw [if_neg c, if_neg c, kid_put F x n h h1 (by omega)]
theorem sib_eq (F : Int) (x : BitVec 128) (n : Int) (h : Rt F x n) (h1 : F ≤ 128) : rsibV x n = sibV x n := by
  have h0 := h.1
  have h2 := h.2.1
  unfold rsibV sibV
  by_cases c : n ≤ 0
  · rw [if_pos c, if_pos c]
  · rw [if_neg c, if_neg c]
    have hz : bitZ x (n - 1) = if x.getLsbD (127 - (n - 1).toNat) = true then 1 else 0 := by
      unfold bitZ bitB
      have e : decide (0 ≤ n - 1) = true := by simp; omega
      rw [e, Bool.true_and, BitVec.getMsbD_eq_getLsbD]
      have : decide ((n - 1).toNat < 128) = true := by simp; omega
      rw [this, Bool.true_and]
    apply BitVec.eq_of_getLsbD_eq
    intro j hj
    rw [putW_bit x (n - 1) _ (by rw [hz]; split <;> omega) (by omega) (by omega) j hj, BitVec.getLsbD_xor, bit1_bit (n - 1) (by omega) j hj]
    by_cases d : j = (127 - (n - 1)).toNat
    · have e : (j : Int) = 127 - (n - 1) := by omega
      rw [if_pos d, hz, show 127 - (n - 1).toNat = j by omega]
      cases x.getLsbD j <;> simp [e]
    · have e : ¬ (j : Int) = 127 - (n - 1) := by omega
      rw [if_neg d]
      simp [e]
end Go.Proofs.YtkgfeegcdohkdaaDoor
/-
  Merge hangs only on which prefixes are in the list: plain facts.
-/
namespace Go.Proofs.YtkgfeegcdohkdaaDoor
set_option linter.unusedSimpArgs false
set_option linter.unusedVariables false

def Wi (p q : BitVec 128 × Int) : Prop := q.2 ≤ p.2 ∧ cutW p.1 q.2 = q.1
def Rp (F : Int) (p : BitVec 128 × Int) : Prop := Rt F p.1 p.2
theorem wi_iff (p q : BitVec 128 × Int) : withinB p.1 p.2 q.1 q.2 = true ↔ Wi p q := by
  unfold withinB Wi
  simp
theorem wi_refl {F : Int} {p : BitVec 128 × Int} (h : Rp F p) : Wi p p := ⟨Int.le_refl _, h.2.2⟩
theorem wi_trans {F : Int} {p q r : BitVec 128 × Int} (hr : Rp F r) (a : Wi p q) (b : Wi q r) : Wi p r :=
  ⟨Int.le_trans b.1 a.1, by rw [← cut_cut p.1 r.2 q.2 hr.1 b.1, a.2, b.2]⟩
/-- No one unites with the one ahead of it. -/
def Stab : List (BitVec 128 × Int) → Prop
  | a :: b :: st => uniV b a = none ∧ Stab (b :: st)
  | _ => True
theorem stab_tail {a : BitVec 128 × Int} {st : List (BitVec 128 × Int)} (h : Stab (a :: st)) : Stab st := by
  cases st with
  | nil => trivial
  | cons b st => exact h.2
theorem ptIn_stab : ∀ (st : List (BitVec 128 × Int)) (p : BitVec 128 × Int), Stab st → Stab (ptIn st p) := by
  intro st
  induction st with
  | nil => intro p _; trivial
  | cons a st ih =>
    intro p h
    cases e : uniV a p with
    | none => rw [ptIn_none e]; exact ⟨e, h⟩
    | some r => rw [ptIn_some e]; exact ih r (stab_tail h)
theorem uni_rp {F : Int} {a p r : BitVec 128 × Int} (hF : F ≤ 128) (ha : Rp F a) (hp : Rp F p) (e : uniV a p = some r) : Rp F r ∧ Wi p r ∧ Wi a r := by
  unfold uniV at e
  split at e
  · rename_i h
    cases e
    exact ⟨ha, (wi_iff _ _).mp h, wi_refl ha⟩
  · split at e
    · rename_i c
      cases e
      obtain ⟨c0, c1, c2⟩ := c
      have n1 : parentN a.2 = a.2 - 1 := by unfold parentN; rw [if_neg (by omega)]
      have n2 : parentV a.1 a.2 = cutW a.1 (a.2 - 1) := by unfold parentV; rw [if_neg (by omega)]
      have n3 : sibN a.2 = a.2 := by unfold sibN; rw [if_neg (by omega)]
      rw [n3] at c2
      rw [n1, n2]
      have h1 := ha.1
      have h2 := ha.2.1
      refine ⟨⟨by show 0 ≤ a.2 - 1; omega, by show a.2 - 1 ≤ F; omega, cut_cut a.1 (a.2 - 1) (a.2 - 1) (by omega) (Int.le_refl _)⟩, ⟨by show a.2 - 1 ≤ p.2; omega, ?_⟩, ⟨by show a.2 - 1 ≤ a.2; omega, rfl⟩⟩
      show cutW p.1 (a.2 - 1) = cutW a.1 (a.2 - 1)
      rw [← c1]
      unfold sibV
      rw [if_neg (by omega)]
      apply BitVec.eq_of_getLsbD_eq
      intro j hj
      rw [cut_bit _ _ _ hj, cut_bit _ _ _ hj, BitVec.getLsbD_xor]
      rw [bit1_bit (a.2 - 1) (by omega) j hj]
      by_cases c : 128 - (a.2 - 1).toNat ≤ j
      · have : decide ((j : Int) = 127 - (a.2 - 1)) = false := by simp; omega
        rw [this]; simp
      · rw [decide_eq_false c]; simp
    · cases e
theorem ptIn_top {F : Int} (hF : F ≤ 128) : ∀ (st : List (BitVec 128 × Int)) (p : BitVec 128 × Int), (∀ a ∈ st, Rp F a) → Rp F p → ∃ r t, ptIn st p = r :: t ∧ Wi p r ∧ Rp F r ∧ ∀ a ∈ t, Rp F a := by
  intro st
  induction st with
  | nil => intro p _ hp; exact ⟨p, [], rfl, wi_refl hp, hp, fun a h => by cases h⟩
  | cons a st ih =>
    intro p hs hp
    cases e : uniV a p with
    | none => rw [ptIn_none e]; exact ⟨p, a :: st, rfl, wi_refl hp, hp, hs⟩
    | some r =>
      obtain ⟨u1, u2, u3⟩ := uni_rp hF (hs a (List.mem_cons_self ..)) hp e
      rw [ptIn_some e]
      obtain ⟨r', t, e', w, hr, ht⟩ := ih r (fun c hc => hs c (List.mem_cons_of_mem _ hc)) u1
      exact ⟨r', t, e', wi_trans hr u2 w, hr, ht⟩
/-- One that stands there twice changes nothing. -/
theorem ptIn_twice {F : Int} (hF : F ≤ 128) (st : List (BitVec 128 × Int)) (p : BitVec 128 × Int) (hs : ∀ a ∈ st, Rp F a) (hp : Rp F p) (h : Stab st) : ptIn (ptIn st p) p = ptIn st p := by
  have s := ptIn_stab st p h
  obtain ⟨r, t, e, w, hr, ht⟩ := ptIn_top hF st p hs hp
  rw [e] at s ⊢
  have u : uniV r p = some r := by unfold uniV; rw [if_pos ((wi_iff _ _).mpr w)]
  rw [ptIn_some u]
  cases t with
  | nil => rfl
  | cons b t => rw [ptIn_none s.1]
theorem ptAll_twice {F : Int} (hF : F ≤ 128) (st : List (BitVec 128 × Int)) (p : BitVec 128 × Int) (l : List (BitVec 128 × Int)) (hs : ∀ a ∈ st, Rp F a) (hp : Rp F p) (h : Stab st) : ptAll st (p :: p :: l) = ptAll st (p :: l) := by
  show ptAll (ptIn (ptIn st p) p) l = ptAll (ptIn st p) l
  rw [ptIn_twice hF st p hs hp h]
theorem ptIn_rp {F : Int} (hF : F ≤ 128) (st : List (BitVec 128 × Int)) (p : BitVec 128 × Int) (hs : ∀ a ∈ st, Rp F a) (hp : Rp F p) : ∀ a ∈ ptIn st p, Rp F a := by
  obtain ⟨r, t, e, w, hr, ht⟩ := ptIn_top hF st p hs hp
  intro a ha
  rw [e] at ha
  rcases List.mem_cons.mp ha with rfl | h
  · exact hr
  · exact ht a h
/-- Two lists in order with the same members come to the same. -/
theorem ptAll_same {F : Int} (hF : F ≤ 128) (R : BitVec 128 × Int → BitVec 128 × Int → Prop) (anti : ∀ x y, R x y → R y x → x = y) (refl : ∀ x, R x x) : ∀ (n : Nat) (L M st : List (BitVec 128 × Int)), L.length + M.length ≤ n → L.Pairwise R → M.Pairwise R → (∀ x, x ∈ L ↔ x ∈ M) → (∀ x ∈ L, Rp F x) → (∀ a ∈ st, Rp F a) → Stab st → ptAll st L = ptAll st M := by
  intro n
  induction n with
  | zero =>
    intro L M st h _ _ _ _ _ _
    rw [List.eq_nil_of_length_eq_zero (l := L) (by omega), List.eq_nil_of_length_eq_zero (l := M) (by omega)]
  | succ n ih =>
    intro L M st h hL hM hm hR hs hst
    cases L with
    | nil =>
      cases M with
      | nil => rfl
      | cons q M => exact absurd ((hm q).mpr (List.mem_cons_self ..)) (by simp)
    | cons p L =>
      cases M with
      | nil => exact absurd ((hm p).mp (List.mem_cons_self ..)) (by simp)
      | cons q M =>
        have hL' := List.pairwise_cons.mp hL
        have hM' := List.pairwise_cons.mp hM
        have e : p = q := by
          have a : R q p := by
            rcases List.mem_cons.mp ((hm p).mp (List.mem_cons_self ..)) with e | e
            · rw [e]; exact refl q
            · exact hM'.1 p e
          have b : R p q := by
            rcases List.mem_cons.mp ((hm q).mpr (List.mem_cons_self ..)) with e | e
            · rw [e]; exact refl p
            · exact hL'.1 q e
          exact anti p q b a
        subst e
        have hp := hR p (List.mem_cons_self ..)
        simp only [List.length_cons] at h
        by_cases hpL : p ∈ L
        · cases L with
          | nil => cases hpL
          | cons p' L =>
            have e : p' = p := by
              rcases List.mem_cons.mp hpL with e | e
              · exact e.symm
              · exact anti p' p ((List.pairwise_cons.mp hL'.2).1 p e) (hL'.1 p' (List.mem_cons_self ..))
            subst e
            rw [ptAll_twice hF st p' L hs hp hst]
            refine ih (p' :: L) (p' :: M) st (by simp only [List.length_cons] at h ⊢; omega) hL'.2 hM ?_ (fun x hx => hR x (List.mem_cons_of_mem _ hx)) hs hst
            intro x
            rw [← hm x]
            simp
        · by_cases hpM : p ∈ M
          · cases M with
            | nil => cases hpM
            | cons p' M =>
              have e : p' = p := by
                rcases List.mem_cons.mp hpM with e | e
                · exact e.symm
                · exact anti p' p ((List.pairwise_cons.mp hM'.2).1 p e) (hM'.1 p' (List.mem_cons_self ..))
              subst e
              rw [ptAll_twice hF st p' M hs hp hst]
              refine ih (p' :: L) (p' :: M) st (by simp only [List.length_cons] at h ⊢; omega) hL hM'.2 ?_ hR hs hst
              intro x
              rw [hm x]
              simp
          · show ptAll (ptIn st p) L = ptAll (ptIn st p) M
            refine ih L M (ptIn st p) (by omega) hL'.2 hM'.2 ?_ (fun x hx => hR x (List.mem_cons_of_mem _ hx)) (ptIn_rp hF st p hs hp) (ptIn_stab st p hst)
            intro x
            have := hm x
            simp only [List.mem_cons] at this
            constructor
            · intro hx
              rcases this.mp (.inr hx) with e | e
              · subst e; exact absurd hx hpL
              · exact e
            · intro hx
              rcases this.mpr (.inr hx) with e | e
              · subst e; exact absurd hx hpM
              · exact e
theorem sortL_pair (l : List (BitVec 128 × Int)) : (sortL l).Pairwise fun x y => ltOf cfP y x = false := by
  have h := List.pairwise_mergeSort (le := fun x y => !ltOf cfP y x) (fun a b c h1 h2 => by
    simp only [Bool.not_eq_true'] at *
    exact swoP.ntrans c b a h2 h1) (fun a b => by
    cases e : ltOf cfP b a
    · simp
    · have : ltOf cfP a b = false := by
        cases e2 : ltOf cfP a b
        · rfl
        · have := swoP.trans _ _ _ e e2
          rw [swoP.irrefl] at this
          cases this
      simp [this]) l
  unfold sortL
  refine h.imp ?_
  intro a b hab
  simpa using hab
/-- Merge hangs only on which prefixes are in the list. -/
theorem merge_same {F : Int} (hF : F ≤ 128) (l m : List (BitVec 128 × Int)) (h : ∀ x, x ∈ l ↔ x ∈ m) (hR : ∀ x ∈ l, Rp F x) : ptAll [] (sortL l) = ptAll [] (sortL m) :=
  ptAll_same hF (fun x y => ltOf cfP y x = false) (fun x y a b => ltP_eq x y b a) (fun x => swoP.irrefl x) _ (sortL l) (sortL m) [] (Nat.le_refl _) (sortL_pair l) (sortL_pair m) (fun x => by rw [sortL_mem, sortL_mem]; exact h x) (fun x hx => hR x (sortL_mem.mp hx)) (fun a ha => by cases ha) trivial
end Go.Proofs.YtkgfeegcdohkdaaDoor
/-
  Rows in memory, whosever they are: cut, and laid behind a row of one's own.
-/
namespace Go.Proofs.YtkgfeegcdohkdaaDoor
open Go.RowKit
set_option linter.unusedSimpArgs false
set_option linter.unusedVariables false

/-- A row in memory, whosever it is: n elements of so many cells. -/
def Row (w : World) (size : Nat) (v : Value) (n : Nat) (xs : List Value) : Prop :=
  xs.length = n * size ∧ ∃ ao c, v = .slice ao n c ∧ n ≤ c ∧ ((ao = none ∧ c = 0 ∧ n = 0) ∨ ∃ b off, ao = some ⟨b, off, none⟩ ∧ ∀ j u, xs[j]? = some u → w.cell? ⟨b, off + j, none⟩ = some u)
theorem addA (g o j : Nat) : (⟨g, o, none⟩ : Addr).add j = ⟨g, o + j, none⟩ := by unfold Addr.add; split <;> simp_all
theorem Row.form {w : World} {size n : Nat} {v : Value} {xs : List Value} (h : Row w size v n xs) : ∃ ao c, v = .slice ao n c ∧ n ≤ c := by
  obtain ⟨-, ao, c, e, hc, -⟩ := h
  exact ⟨ao, c, e, hc⟩
theorem own_row {w : World} {base e size n : Nat} {v : Value} {xs : List Value} (h : w.ownsRow base e size v n xs) : Row w size v n xs := by
  refine ⟨h.1, ?_⟩
  rcases h.2 with ⟨e0, e1⟩ | ⟨g, cap, cur, e0, hb, hg, hnc, hm, hs, ht⟩
  · subst e1
    exact ⟨none, 0, e0, Nat.le_refl _, .inl ⟨rfl, rfl, rfl⟩⟩
  · refine ⟨some ⟨g, 0, none⟩, cap, e0, hnc, .inr ⟨g, 0, rfl, ?_⟩⟩
    intro j u hj
    have f := h.cells (g := g) (by rw [e0]; rfl) j u hj
    rw [addA, Nat.zero_add] at f
    rw [Nat.zero_add]
    exact f
theorem run_slice_from {P : Program} {w : World} {t e : TypeId} {i : TypeInfo} {size : Nat} (ht : P.underlying t = some (.slice e)) (hi : P.info? e = some i) (hsize : i.size = size) (ao : Option Addr) (n c k : Nat) (hk : k ≤ n) :
    Sem.run P (Instr.sliceAt t (.slice ao n c) (some (.int .i64 k)) none none) w = .ok (.slice (if c = k then ao else ao.map (·.add (k * size))) (n - k) (c - k)) w := by
  subst hsize
  simp [Instr.sliceAt, Instr.slice, Instr.sliceBounds, Instr.sliceBound, run_underlying ht, sizeOf, typeInfo, hi, hk, go_sem]
theorem run_slice_to {P : Program} {w : World} {t e : TypeId} {i : TypeInfo} (ht : P.underlying t = some (.slice e)) (hi : P.info? e = some i) (ao : Option Addr) (n c k : Nat) (hk : k ≤ c) :
    Sem.run P (Instr.sliceAt t (.slice ao n c) none (some (.int .i64 k)) none) w = .ok (.slice ao k c) w := by
  simp [Instr.sliceAt, Instr.slice, Instr.sliceBounds, Instr.sliceBound, run_underlying ht, sizeOf, typeInfo, hi, hk, go_sem]
theorem wpList_slice_from {P : Program} {w : World} {ops : Array Oper} {rest : List Oper} {o : Oper} {a : Act} {Q : Exit → Act → World → Prop} (hgd : o.guard = none) (t : TypeId) (x lo : Operand)
    (ho : o.op = .slice t x (some lo) none none) (e : TypeId) (i : TypeInfo) (size : Nat) (ht : P.underlying t = some (.slice e)) (hi : P.info? e = some i) (hsize : i.size = size)
    (v : Value) (n : Nat) (xs : List Value) (hs : a.eval x = v) (hr : Row w size v n xs) (k : Nat) (hk : a.eval lo = .int .i64 k) (hkn : k ≤ n)
    (h : ∀ v', Row w size v' (n - k) (xs.drop (k * size)) → wpList P ops Q rest (a.put o.dst v') w) : wpList P ops Q (o :: rest) a w := by
  obtain ⟨hl, ao, c, rfl, hc, hr⟩ := hr
  have := h (.slice (if c = k then ao else ao.map (·.add (k * size))) (n - k) (c - k)) ⟨by rw [List.length_drop, hl, Nat.sub_mul], _, _, rfl, by omega, by
    rcases hr with ⟨rfl, rfl, rfl⟩ | ⟨b, off, rfl, hr⟩
    · refine .inl ⟨by split <;> rfl, by omega, by omega⟩
    · by_cases hck : c = k
      · rw [if_pos hck]
        refine .inr ⟨b, off, rfl, ?_⟩
        intro j u hj
        rw [List.drop_eq_nil_of_le (by rw [hl]; exact Nat.mul_le_mul_right _ (by omega))] at hj
        simp at hj
      · rw [if_neg hck]
        refine .inr ⟨b, off + k * size, by simp [addA], ?_⟩
        intro j u hj
        rw [List.getElem?_drop] at hj
        rw [Nat.add_assoc]
        exact hr _ _ hj⟩
  refine wpList_plain hgd fun K hK => ?_
  unfold Oper.wp
  have hrun := run_slice_from (P := P) (w := w) ht hi hsize ao n c k hkn
  simp [execOp, ho, hs, hk, hrun, Result.andThen]
  exact hK _ _ this
theorem wpList_slice_to {P : Program} {w : World} {ops : Array Oper} {rest : List Oper} {o : Oper} {a : Act} {Q : Exit → Act → World → Prop} (hgd : o.guard = none) (t : TypeId) (x hi' : Operand)
    (ho : o.op = .slice t x none (some hi') none) (e : TypeId) (i : TypeInfo) (size : Nat) (ht : P.underlying t = some (.slice e)) (hi : P.info? e = some i) (hsize : i.size = size)
    (v : Value) (n : Nat) (xs : List Value) (hs : a.eval x = v) (hr : Row w size v n xs) (k : Nat) (hk : a.eval hi' = .int .i64 k) (hkn : k ≤ n)
    (h : ∀ v', Row w size v' k (xs.take (k * size)) → wpList P ops Q rest (a.put o.dst v') w) : wpList P ops Q (o :: rest) a w := by
  obtain ⟨hl, ao, c, rfl, hc, hr⟩ := hr
  have := h (.slice ao k c) ⟨by rw [List.length_take, hl, Nat.min_eq_left (Nat.mul_le_mul_right _ hkn)], _, _, rfl, by omega, by
    rcases hr with ⟨rfl, rfl, rfl⟩ | ⟨b, off, rfl, hr⟩
    · exact .inl ⟨rfl, rfl, by omega⟩
    · refine .inr ⟨b, off, rfl, ?_⟩
      intro j u hj
      refine hr _ _ ?_
      rw [List.getElem?_take] at hj
      split at hj
      · exact hj
      · cases hj⟩
  refine wpList_plain hgd fun K hK => ?_
  unfold Oper.wp
  have hrun := run_slice_to (P := P) (w := w) ht hi ao n c k (by omega)
  simp [execOp, ho, hs, hk, hrun, Result.andThen]
  exact hK _ _ this
theorem own_form {w : World} {base e size n : Nat} {v : Value} {xs : List Value} (h : w.ownsRow base e size v n xs) : ∃ ao c, v = .slice ao n c := by
  rcases h.2 with ⟨e, h⟩ | ⟨g, cap, cur, e, _⟩
  · exact ⟨none, 0, by rw [h]; exact e⟩
  · exact ⟨_, _, e⟩
/-- append(a, b...) where a is the call's own and b is any row. -/
theorem wpList_append_row {P : Program} {w : World} {ops : Array Oper} {rest : List Oper} {o : Oper} {a : Act} {Q : Exit → Act → World → Prop} (hgd : o.guard = none) (s x : Operand) (t : TypeId)
    (ho : o.op = .call { callee := .builtin .append, args := #[s, x], argTypes := #[t, t] })
    (base : Nat) (e : TypeId) (i : TypeInfo) (z : Value) (size bytes : Nat) (ht : P.underlying t = some (.slice e)) (hi : P.info? e = some i) (hz : i.zero = some z)
    (hsize : i.size = size) (hby : i.bytes = bytes) (hzs : z.cells.size = size) (hsz : 0 < size)
    (v : Value) (n : Nat) (xs : List Value) (hs : a.eval s = v) (hown : w.ownsRow base e size v n xs)
    (vx : Value) (m : Nat) (news : List Value) (hx : a.eval x = vx) (hsrc : Row w size vx m news) (h1 : ∀ y ∈ news, y.oneCell' = true)
    (h63 : n + m ≤ maxLen) (hbytes : (n + m) * bytes ≤ 140737488355328) (hbase : base ≤ w.heap.size)
    (h : ∀ ao cap w', w'.ownsRow base e size (.slice ao (n + m) cap) (n + m) (xs ++ news) → w.grownBy w' v.ownBlock → wpList P ops Q rest (a.put o.dst (.slice ao (n + m) cap)) w') : wpList P ops Q (o :: rest) a w := by
  obtain ⟨hl, xo, c, rfl, hcc, hsrc⟩ := hsrc
  rcases hsrc with ⟨rfl, rfl, rfl⟩ | ⟨b, off, rfl, hc⟩
  · have : news = [] := List.eq_nil_of_length_eq_zero (by omega)
    subst this
    refine wpList_append_own_none hgd s x t ho base e i size ht hi v n xs hs hown hx ?_
    obtain ⟨ao, cp, hv⟩ := own_form hown
    have := h ao cp w (by rw [List.append_nil, Nat.add_zero, ← hv]; exact hown) ⟨rfl, rfl, rfl, Nat.le_refl _, fun _ _ _ => rfl⟩
    rw [Nat.add_zero, ← hv] at this
    exact this
  · refine wpList_append_own w hgd s x t ho base e i z size bytes ht hi hz hsize hby hzs hsz v n xs hs hown ⟨b, off, none⟩ m c news hx hl (fun j u hj => by rw [addA]; exact hc j u hj) h1 h63 hbytes hbase ?_
    intro v' w' h2 h3 _
    obtain ⟨ao, cp, hv⟩ := own_form h2
    rw [hv]
    rw [hv] at h2
    exact h ao cp w' h2 h3
theorem Row.below {w w' : World} {size n : Nat} {v : Value} {xs : List Value} (h : Row w size v n xs) (hb : Below w.heap.size w w') : Row w' size v n xs := by
  obtain ⟨hl, ao, c, e, hc, h⟩ := h
  refine ⟨hl, ao, c, e, hc, ?_⟩
  rcases h with h | ⟨b, off, e, h⟩
  · exact .inl h
  · exact .inr ⟨b, off, e, fun j u hj => keepc hb (h j u hj)⟩
end Go.Proofs.YtkgfeegcdohkdaaDoor
/-
  What RangeTurned wants besides: right lists pass the check, what comes of Merge is right; rows cut in two.
-/
namespace Go.Proofs.YtkgfeegcdohkdaaDoor
open Go.RowKit
set_option linter.unusedSimpArgs false
set_option linter.unusedVariables false

theorem check_rp (F : Int) (p : BitVec 128 × Int) (hf : fam F = true) (h : Rp F p) : checkE F p.1 p.2 = 0 := by
  unfold checkE
  rw [if_pos hf, if_neg (by have := h.1; omega), if_neg (by have := h.2.1; omega), if_pos (by simp [h.2.2])]
theorem chk_rp (F : Int) (l : List (BitVec 128 × Int)) (hf : fam F = true) (h : ∀ p ∈ l, Rp F p) : chkE F l = 0 := by
  unfold chkE
  rw [if_pos hf]
  induction l with
  | nil => rfl
  | cons a l ih =>
    simp only [chkG]
    rw [if_pos (check_rp F a hf (h a (List.mem_cons_self ..)))]
    exact ih fun p hp => h p (List.mem_cons_of_mem _ hp)
theorem ptAll_rp {F : Int} (hF : F ≤ 128) (l : List (BitVec 128 × Int)) : ∀ st : List (BitVec 128 × Int), (∀ a ∈ st, Rp F a) → (∀ a ∈ l, Rp F a) → ∀ a ∈ ptAll st l, Rp F a := by
  induction l with
  | nil => intro st hs _; exact hs
  | cons p l ih =>
    intro st hs hl
    exact ih (ptIn st p) (ptIn_rp hF st p hs (hl p (List.mem_cons_self ..))) fun a ha => hl a (List.mem_cons_of_mem _ ha)
theorem ptIn_le (st : List (BitVec 128 × Int)) : ∀ p, (ptIn st p).length ≤ st.length + 1 := by
  induction st with
  | nil => intro p; exact Nat.le_refl _
  | cons a st ih =>
    intro p
    cases e : uniV a p with
    | none => rw [ptIn_none e]; simp
    | some r => rw [ptIn_some e]; have := ih r; simp only [List.length_cons]; omega
theorem ptAll_le (l : List (BitVec 128 × Int)) : ∀ st, (ptAll st l).length ≤ st.length + l.length := by
  induction l with
  | nil => intro st; exact Nat.le_refl _
  | cons p l ih =>
    intro st
    have := ih (ptIn st p)
    have := ptIn_le st p
    show (ptAll (ptIn st p) l).length ≤ _
    simp only [List.length_cons]
    omega
theorem rowP_dropL (L : List (BitVec 128 × Int)) (k : Nat) : rowP (L.drop k) = (rowP L).drop (k * 3) := by
  induction k generalizing L with
  | zero => simp
  | succ k ih =>
    cases L with
    | nil => simp [rowP]
    | cons p L => rw [List.drop_succ_cons, ih L, Nat.succ_mul]; simp [rowP]
theorem rowP_takeL (L : List (BitVec 128 × Int)) (k : Nat) : rowP (L.take k) = (rowP L).take (k * 3) := by
  induction k generalizing L with
  | zero => simp [rowP]
  | succ k ih =>
    cases L with
    | nil => simp [rowP]
    | cons p L => rw [List.take_succ_cons, Nat.succ_mul]; simp [rowP, ih L]
theorem Row.rw {W : World} {v : Value} {l : List (BitVec 128 × Int)} (h : Row W 3 v l.length (rowP l)) : Rw W v l := by
  obtain ⟨-, ao, c, e, hc, h⟩ := h
  refine ⟨ao, c, e, ?_⟩
  rcases h with ⟨a, -, b⟩ | h
  · exact .inl ⟨a, List.eq_nil_of_length_eq_zero b⟩
  · exact .inr h
end Go.Proofs.YtkgfeegcdohkdaaDoor
/-
  What the call of package ranges' Rows does.
-/
namespace Go.Proofs.YtkgfeegcdohkdaaDoor
open Go.RowKit
set_option linter.unusedSimpArgs false
set_option linter.unusedVariables false

set_option maxHeartbeats 1000000 in
theorem beside_any (F : Int) (w : World) :
    Calls Tryd.prog 63 #[.int .i64 F] w fun e w' => e = .returned (.func (.func 96) #[] #[.pointer (some ⟨w.heap.size, 0, none⟩)]) ∧ w' = w.alloc (.cells #[.int .i64 F] 3) := by
  go_enter Tryd.func63, Tryd.ntmps63
  go_wp2
  go_ret
  exact ⟨rfl, rfl⟩
/-- The segments of prefixes. -/
def segL (F : Int) (m : List (BitVec 128 × Int)) : List (BitVec 128 × BitVec 128) := m.map fun p => (p.1, lastW F p.1 p.2)
theorem seg_take (F : Int) (l : List (BitVec 128 × Int)) (k : Nat) (hk : k < l.length) : segL F (l.take (k + 1)) = segL F (l.take k) ++ [(l[k].1, lastW F l[k].1 l[k].2)] := by
  unfold segL
  rw [List.take_succ_eq_append_getElem hk, List.map_append]
  rfl
theorem own_belowS {W W' : World} {base n : Nat} {v : Value} {xs : List Value} (hb : Below W.heap.size W W') (h : Hid (W.ownsRow base 64 5 v n xs)) : Hid (W'.ownsRow base 64 5 v n xs) := own_below hb h.out
theorem stopHereR {P : Program} {w : World} {ops : Array Oper} {rest : List Oper} {a : Act} {Q : Exit → Act → World → Prop} {o : Oper} (h : Hid (wpList P ops Q (o :: rest) a w)) : wpList P ops Q (o :: rest) a w := h.out
set_option maxRecDepth 20000 in
set_option maxHeartbeats 4000000 in
theorem rows_any (F : Int) (v : Value) (l m : List (BitVec 128 × Int)) (w : World) (hl : m.length ≤ 1000000000)
    (KM : ∀ w, Rw w v l → Calls Tryd.prog 22 #[.int .i64 F, v] w fun e w' => (∃ v', e = .returned (.tuple #[v', .int .i64 0]) ∧ Rw w' v' m) ∧ Below w.heap.size w w') (hv : Rw w v l) :
    Calls Tryd.prog 26 #[.int .i64 F, v] w fun e w' => (∃ v', e = .returned (.tuple #[v', .int .i64 0]) ∧ w'.ownsRow w.heap.size 64 5 v' (psAll F [] (segL F m)).length (rowS (psAll F [] (segL F m)).reverse)) ∧ Below w.heap.size w w' := by
  obtain ⟨i0, hi, hz0, hz1, hz2⟩ := info_parts Tryd.infoS
  have HV : Hid (Rw w v l) := hv
  clear hv
  go_enter Tryd.func26, Tryd.ntmps26
  go_wp2_with fail
  refine (KM _ HV.out).mono ?_
  rintro e w1 ⟨⟨v1, rfl, hR⟩, kB1⟩
  obtain ⟨ao, c, rfl, hv⟩ := hR
  have HV : Hid ((ao = none ∧ m = []) ∨ ∃ b off, ao = some ⟨b, off, none⟩ ∧ ∀ j u, (rowP m)[j]? = some u → w1.cell? ⟨b, off + j, none⟩ = some u) := hv
  clear hv KM
  have hby : i0.bytes * m.length ≤ 281474976710656 := by rw [hz2]; omega
  go_wp2_with (at_make; apply stopHereR)
  refine (show wpList _ _ _ _ _ _ from ?_)
  refine wpList_make_own _ rfl _ _ 52 rfl w1.heap.size 64 i0 (.agg #[.int .u64 0, .int .u64 0, .int .u64 0, .int .u64 0, .int .i64 0]) 5 Tryd.underlying52 hi hz0 hz1 .i64 .i64 _ m.length rfl rfl rfl hby (by unfold maxLen; omega) (Nat.le_refl _) ?_
  intro w2 hown2 hgrow
  have kB2 : Below w1.heap.size w1 w2 := (Below.refl _ _).grown hgrow (Nat.le_refl _) (fun z hz => by cases hz)
  have HO2 : Hid (w2.ownsRow w1.heap.size 64 5 (.slice (some ⟨w1.heap.size, 0, none⟩) 0 m.length) 0 []) := hown2
  clear hown2 hgrow hby
  go_wp2_with fail
  go_loopw [8, 25] (fun dv i wr => ∃ k : Nat, k ≤ m.length ∧ i = .int .i64 k ∧ wr.ownsRow w1.heap.size 64 5 dv k (rowS (segL F (m.take k))) ∧ Below w1.heap.size w1 wr) (fun _ i _ => m.length - (intOf i).toNat)
  case atStart => exact ⟨0, by omega, rfl, by simpa [rowS, segL] using HO2.out, kB2⟩
  case round =>
    obtain ⟨k, hk, rfl, hown, kB⟩ := hrel
    clear HO2 kB2
    by_cases hlt : (k : Int) < (m.length : Int)
    · have hks : k < m.length := by omega
      rcases HV.out with ⟨-, h⟩ | ⟨b, off, rfl, hc⟩
      · rw [h] at hks; simp at hks
      · obtain ⟨x0, x1, x2⟩ := rw_cells hc k hks
        have x0 := keepc kB x0
        have x1 := keepc kB x1
        have x2 := keepc kB x2
        have KF := fun w => pfirst_any m[k].1 m[k].2 w
        have KL := fun w => plast_any F m[k].1 m[k].2 w
        have HT := Hid.mk' (seg_take F m k hks)
        clear HV hc
        revert KF KL HT
        generalize lastW F m[k].1 m[k].2 = lx
        intro KF KL HT
        generalize m[k].1 = px at *
        generalize m[k].2 = pn at *
        have hneB : some wr.heap.size ≠ u8.ownBlock := fun e => by have := (hown.lt _ e.symm).2; omega
        have HA : Hid (∀ W, AtP W wr.heap.size px pn → Below w1.heap.size w1 W → W.cell? ⟨wr.heap.size, 0, none⟩ = some (.int .u64 (hI px)) ∧ W.cell? ⟨wr.heap.size, 1, none⟩ = some (.int .u64 (lI px)) ∧ W.cell? ⟨wr.heap.size, 2, none⟩ = some (.int .i64 pn) ∧ Hid (AtP W wr.heap.size px pn ∧ Below w1.heap.size w1 W)) := fun W a b => ⟨a.1, a.2.1, a.2.2.1, ⟨a, b⟩⟩
        have hown : Hid ((wr.alloc (.cells #[.int .u64 (hI px), .int .u64 (lI px), .int .i64 pn] 26)).drew.ownsRow w1.heap.size 64 5 u8 k (rowS (segL F (m.take k)))) := (hown.alloc _).drew
        have HN : Hid (some wr.heap.size ≠ u8.ownBlock) := hneB
        have h47 : (k + 1) * 40 ≤ 140737488355328 := by omega
        have h63 : k + 1 ≤ maxLen := by unfold maxLen; omega
        have hP0 : Hid (AtP (wr.alloc (.cells #[.int .u64 (hI px), .int .u64 (lI px), .int .i64 pn] 26)).drew wr.heap.size px pn) := atp_new wr wr.heap.size px pn 26 rfl
        have hb0' : Hid (Below w1.heap.size w1 (wr.alloc (.cells #[.int .u64 (hI px), .int .u64 (lI px), .int .i64 pn] 26)).drew) := (kB.alloc kB.size _).drew
        clear hneB kB
        go_wp2_with fail
        clear x0 x1 x2
        go_region_held3 (fun W => W.cell? ⟨wr.heap.size, 0, none⟩ = some (.int .u64 (hI px)) ∧ W.cell? ⟨wr.heap.size, 1, none⟩ = some (.int .u64 (lI px)) ∧ W.cell? ⟨wr.heap.size, 2, none⟩ = some (.int .i64 pn) ∧ Hid (AtP W wr.heap.size px pn ∧ Below w1.heap.size w1 W))
          (first
            | exact HA.out _ hP0.out hb0'.out
            | (obtain ⟨-, -, -, k9⟩ := ‹_ ∧ _ ∧ _ ∧ Hid (AtP _ _ _ _ ∧ _)›; exact HA.out _ (k9.out.1.app hgrow HN.out) (k9.out.2.grown hgrow k9.out.2.size (fun z hz => (hown.out.lt z hz).1)))
            | (obtain ⟨-, -, -, k9⟩ := ‹_ ∧ _ ∧ _ ∧ Hid (AtP _ _ _ _ ∧ _)›; exact HA.out _ (k9.out.1.al _) (k9.out.2.alloc k9.out.2.size _))
            | (obtain ⟨-, -, -, k9⟩ := ‹_ ∧ _ ∧ _ ∧ Hid (AtP _ _ _ _ ∧ _)›; exact HA.out _ k9.out.1 k9.out.2)
            | (obtain ⟨-, -, -, k9⟩ := ‹_ ∧ _ ∧ _ ∧ Hid (AtP _ _ _ _ ∧ _)›; exact HA.out _ (k9.out.1.below hb0) (keepb hb0 k9.out.2)))
          (first
            | (go_at_call 15; refine (KF _).mono ?_; rintro e w0 ⟨rfl, hb0⟩; have hown := own_belowS hb0 hown)
            | (go_at_call 18; refine (KL _).mono ?_; rintro e w0 ⟨rfl, hb0⟩; have hown := own_belowS hb0 hown)
            | (refine step_append_lies _ rfl (.tmp 29) (.tmp 36) 52 rfl w1.heap.size 64 i0 (.agg #[.int .u64 0, .int .u64 0, .int .u64 0, .int .u64 0, .int .i64 0]) 5 40 Tryd.underlying52 hi hz0 hz1 hz2 rfl (by decide) _ _ _ rfl (hown.out.alloc _) _ 1 1 [.int .u64 (hI px), .int .u64 (lI px), .int .u64 (hI lx), .int .u64 (lI lx), .int .i64 1] rfl rfl (newsS _ _ _ _ _ _ _) (fiveS _ _ _ _ _) (by decide) h63 h47 (by have h8 := ‹_ ∧ _ ∧ _ ∧ Hid (AtP _ wr.heap.size px pn ∧ Below w1.heap.size w1 _)›; have := h8.2.2.2.out.2.size; simp at this; simp; omega) _ rfl ?_; intro g cap w4 hown4 hgrow hat hlt4))
        obtain ⟨-, -, -, k9⟩ := ‹_ ∧ _ ∧ _ ∧ Hid (AtP w4 wr.heap.size px pn ∧ Below w1.heap.size w1 w4)›
        have HO : Hid (w4.ownsRow w1.heap.size 64 5 (.slice (some ⟨g, 0, none⟩) (k + 1) cap) (k + 1) (rowS (segL F (m.take (k + 1))))) := by
          show World.ownsRow _ _ _ _ _ _ _
          rw [HT.out, rowS_one]
          exact hown4
        have kB4 : Hid (Below w1.heap.size w1 w4) := k9.out.2
        clear hown4 hgrow hat hlt4 hown HT HA hb0 hb0' KF KL hP0 HN k9
        have mk : IntKind.i64.wrap ((k : Int) + 1) = (k : Int) + 1 := by rw [IntKind.wrap_i64]; omega
        go_wp2
        go_roundw
        case rel => exact ⟨k + 1, by omega, by go_num, HO.out, kB4.out⟩
        case measure => simp [intOf]; omega
    · have hd : decide ((k : Int) < (m.length : Int)) = false := by simpa using hlt
      have HE : Hid (m.take k = m) := List.take_of_length_le (by omega)
      have hkm : k = m.length := by omega
      subst hkm
      rw [HE.out] at hown
      have HO : Hid (wr.ownsRow w1.heap.size 64 5 u8 (segL F m).length (rowS (segL F m))) := by
        show World.ownsRow _ _ _ _ _ _ _
        rw [show (segL F m).length = m.length by unfold segL; simp]
        exact hown
      have KB := fun w => beside_any F w
      have kB3 : Below w.heap.size w wr := kB1.trans (kB.mono kB1.size)
      clear hown HV HE kB kB1 hlt
      go_wp2_with fail
      refine (KB _).mono ?_
      rintro e w4 ⟨rfl, rfl⟩
      have hb := bl1 wr (.cells #[.int .i64 F] 3)
      have kB4 := keepb hb kB3
      have hlen : (segL F m).length ≤ 1000000000 := by unfold segL; simpa using hl
      have KP := putS_any F wr.heap.size u8 (segL F m) _ ((own_rws HO.out).below hb) hlen (by simp [go_sem])
      clear KB hb kB3 HO hlen
      go_wp2_with fail
      refine KP.mono ?_
      rintro e w5 ⟨⟨v5, rfl, hrow⟩, hb5⟩
      have HR : Hid (w5.ownsRow w.heap.size 64 5 v5 (psAll F [] (segL F m)).length (rowS (psAll F [] (segL F m)).reverse)) := own_base hrow kB4.size
      have kB5 := keepb hb5 kB4
      clear hrow hb5 KP kB4
      go_wp2
      go_ret2
      exact ⟨⟨_, rfl, HR.out⟩, kB5⟩
end Go.Proofs.YtkgfeegcdohkdaaDoor
