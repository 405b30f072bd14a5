/-
  Part 24 of the proof: 6 texts, one behind the other.
-/
import Derived.Test.YtkgfeegcdohkdaaDoorPart23
import Derived.Test.YtkgfeegcdohkdaaDoorPart6
import Derived.Test.YtkgfeegcdohkdaaDoorPart12
/-
  What the call of turnpikeref4's Size does.
-/
namespace Go.Proofs.YtkgfeegcdohkdaaDoor
open Go.RowKit
set_option linter.unusedSimpArgs false
set_option linter.unusedVariables false

theorem cost_word (n : BitVec 128) : costV n.toNat = .agg #[.int .u64 0, .int .u64 (hI n), .int .u64 (lI n)] := by
  have := n.isLt
  unfold costV cost0 cost1 cost2
  rw [hIN, lIN]
  have e1 : n.toNat / 340282366920938463463374607431768211456 = 0 := Nat.div_eq_of_lt (by omega)
  have e2 : n.toNat / 18446744073709551616 % 18446744073709551616 = n.toNat / 18446744073709551616 := Nat.mod_eq_of_lt (by omega)
  rw [e1, e2]
  simp
theorem cost_one : costV 1 = .agg #[.int .u64 0, .int .u64 0, .int .u64 1] := by
  have a : cost0 1 = 0 := by decide +kernel
  have b : cost1 1 = 0 := by decide +kernel
  have c : cost2 1 = 1 := by decide +kernel
  unfold costV
  rw [a, b, c]
/-- How many addresses a segment has. -/
def szS (F : Int) (s : BitVec 128 × BitVec 128) : Nat := ((s.2 - s.1) >>> (128 - F).toNat).toNat + 1
set_option maxRecDepth 20000 in
set_option maxHeartbeats 4000000 in
theorem rsize_any (F : Int) (x y : BitVec 128) (w : World) (h0 : 0 ≤ F) (h1 : F ≤ 128) :
    Calls Tryd.prog 69 #[.int .i64 F, .agg #[.int .u64 (hI x), .int .u64 (lI x), .int .u64 (hI y), .int .u64 (lI y), .int .i64 1]] w fun e w' => e = .returned (costV (szS F (x, y))) ∧ Below w.heap.size w w' := by
  have KS := fun w => rsub_any y x w
  have KR := fun w => rshr_any (y - x) (128 - F) w
  have hz : ((y - x) >>> (128 - F).toNat).toNat + 1 < 6277101735386680763835789423207666416102355444464034512896 := by
    have := ((y - x) >>> (128 - F).toNat).isLt
    omega
  have KA := fun w => radd9_any ((y - x) >>> (128 - F).toNat).toNat 1 w hz
  rw [cost_word, cost_one] at KA
  unfold szS
  simp only
  obtain ⟨cv, hcv⟩ : ∃ cv, cv = ((y - x) >>> (128 - F).toNat).toNat + 1 := ⟨_, rfl⟩
  rw [← hcv] at KA ⊢
  clear hcv hz
  unfold costV at KA ⊢
  generalize cost0 cv = r0 at *
  generalize cost1 cv = r1 at *
  generalize cost2 cv = r2 at *
  generalize (y - x) >>> (128 - F).toNat = z at *
  generalize y - x = dd at *
  have mw : IntKind.i64.wrap (128 - F) = 128 - F := by rw [IntKind.wrap_i64]; omega
  generalize underB y x = ub at *
  have a1 := ats_new w w.heap.size x y 1 64 rfl
  have b1 := bl1 w (.cells #[.int .u64 (hI x), .int .u64 (lI x), .int .u64 (hI y), .int .u64 (lI y), .int .i64 1] 64)
  have a2 := atc_new (w.alloc (.cells #[.int .u64 (hI x), .int .u64 (lI x), .int .u64 (hI y), .int .u64 (lI y), .int .i64 1] 64)) (w.heap.size + 1) 0 0 0 56 (by simp)
  have b2 := bl1 (w.alloc (.cells #[.int .u64 (hI x), .int .u64 (lI x), .int .u64 (hI y), .int .u64 (lI y), .int .i64 1] 64)) (.cells #[.int .u64 0, .int .u64 0, .int .u64 0] 56)
  have HA2 := Hid.mk' a2
  have HB2 := Hid.mk' (keepb b2 b1)
  obtain ⟨p0, p1, p2, p3, -⟩ := id (a1.below b2)
  clear a1 a2 b1 b2
  go_enter Tryd.func69, Tryd.ntmps69
  go_wp2_with fail
  refine (KS _).mono ?_
  rintro e w3 ⟨rfl, hb⟩
  have HA3 := Hid.mk' (HA2.out.below hb)
  have HB3 := Hid.mk' (keepb hb HB2.out)
  have b3 := bl1 w3 (.cells #[.int .u64 (hI dd), .int .u64 (lI dd)] 24)
  have y3 := at_new w3 w3.heap.size dd 24 rfl
  have HA4 := Hid.mk' (HA3.out.below b3)
  have HB4 := Hid.mk' (keepb b3 HB3.out)
  have HY4 := Hid.mk' y3
  have hlt : w.heap.size + 1 < w3.heap.size := cell_in HA3.out.1
  obtain ⟨q0, q1, -, -⟩ := id y3
  clear hb b3 y3 KS HA2 HB2 HA3 HB3 p0 p1 p2 p3
  go_wp2_with fail
  refine (KR _).mono ?_
  rintro e w5 ⟨rfl, hb⟩
  have HY5 := Hid.mk' ((HY4.out.below hb).set z)
  have hA5 := HA4.out.below hb
  have hn : ¬ w.heap.size + 1 = w3.heap.size := by omega
  have hA6 : AtC ((w5.setCell ⟨w3.heap.size, 0, none⟩ (.int .u64 (hI z))).setCell ⟨w3.heap.size, 1, none⟩ (.int .u64 (lI z))) (w.heap.size + 1) 0 0 0 := (hA5.oth0 hn _).oth1 hn _
  have HA6 := Hid.mk' hA6
  have HB6 := Hid.mk' (((keepb hb HB4.out).setCell (p := ⟨w3.heap.size, 0, none⟩) (show w.heap.size ≤ w3.heap.size by omega) (.int .u64 (hI z))).setCell (p := ⟨w3.heap.size, 1, none⟩) (show w.heap.size ≤ w3.heap.size by omega) (.int .u64 (lI z)))
  obtain ⟨q0', q1', q2', q3', -⟩ := id (HY4.out.below hb)
  obtain ⟨u0, u1, -, -⟩ := id HY5.out
  clear hb KR HA4 HB4 HY4 q0 q1 hA5 hA6
  go_wp2_with fail
  refine (KA _).mono ?_
  rintro e w7 ⟨rfl, hb⟩
  have HA7 := Hid.mk' (HA6.out.below hb)
  have HB7 := Hid.mk' (keepb hb HB6.out)
  have b7 := bl1 w7 (.cells #[.int .u64 r0, .int .u64 r1, .int .u64 r2] 56)
  obtain ⟨v0, v1, v2, -, -, -⟩ := atc_new w7 w7.heap.size r0 r1 r2 56 rfl
  have hA8 := HA7.out.below b7
  have hB8 := keepb b7 HB7.out
  obtain ⟨o0, o1, o2, o3, o4, o5⟩ := id hA8
  have Hv := Hid.mk' (hA8.set r0 r1 r2)
  have Hk := Hid.mk' (bset3 hB8 (show w.heap.size ≤ w.heap.size + 1 by omega) (.int .u64 r0) (.int .u64 r1) (.int .u64 r2))
  clear hb b7 KA HA6 HB6 HA7 HB7 hA8 hB8 u0 u1 q0' q1' q2' q3' HY5
  go_wp2
  obtain ⟨f0, f1, f2, -, -, -⟩ := Hv.out
  exact bodyPost_ret (v := .agg #[.int .u64 r0, .int .u64 r1, .int .u64 r2]) (by simp [results, Tryd.results69, go_sem, f0, f1, f2]) rfl ⟨rfl, Hk.out⟩
end Go.Proofs.YtkgfeegcdohkdaaDoor
/-
  How many addresses rows have: plain facts.
-/
namespace Go.Proofs.YtkgfeegcdohkdaaDoor
open Go.RowKit
set_option linter.unusedSimpArgs false
set_option linter.unusedVariables false

theorem siz_p {F : Int} (hF : F ≤ 128) {p : BitVec 128 × Int} (h : Rp F p) : 2 ^ (F - p.2).toNat * 2 ^ (128 - F.toNat) + p.1.toNat = (lastW F p.1 p.2).toNat + 2 ^ (128 - F.toNat) := by
  have l := last_nat F p.1 p.2 h hF
  have h0 : 0 ≤ p.2 := h.1
  have h1 : p.2 ≤ F := h.2.1
  have q := pow_parts p.2 F h0 h1 hF
  have e : (F - p.2).toNat = F.toNat - p.2.toNat := by omega
  rw [e, ← q, l]
  omega
theorem run_siz {F : Int} (hF : F ≤ 128) : ∀ (r : List (BitVec 128 × Int)) (a b : BitVec 128), Run F r a b → (∀ p ∈ r, Rp F p) → sizN F r * 2 ^ (128 - F.toNat) + a.toNat = b.toNat + 2 ^ (128 - F.toNat) := by
  intro r
  induction r with
  | nil => intro a b h; exact h.elim
  | cons p r ih =>
    intro a b h hr
    have sp := siz_p hF (hr p (List.mem_cons_self ..))
    have e := run_head h
    subst e
    cases r with
    | nil =>
      have e2 := h.2
      subst e2
      simpa [sizN] using sp
    | cons q r =>
      obtain ⟨_, g1, g2, g3⟩ := h
      have i := ih q.1 b g3 (fun x hx => hr x (List.mem_cons_of_mem _ hx))
      have n1 := (next_nat F _ g1).1
      rw [g2] at n1
      show (2 ^ (F - p.2).toNat + sizN F (q :: r)) * 2 ^ (128 - F.toNat) + p.1.toNat = _
      rw [Nat.add_mul]
      omega
theorem szS_run {F : Int} (hf : fam F = true) (r : List (BitVec 128 × Int)) (s : BitVec 128 × BitVec 128) (h : Run F r s.1 s.2) (hr : ∀ p ∈ r, Rp F p) : szS F s = sizN F r := by
  have hF := (fam_bd F hf).2
  have h0 := (fam_bd F hf).1
  have q := run_siz hF r s.1 s.2 h hr
  have le := (run_rng hf r s.1 s.2 h hr).2.2
  unfold szS
  rw [BitVec.toNat_ushiftRight, Nat.shiftRight_eq_div_pow, BitVec.toNat_sub_of_le (by rw [BitVec.le_def]; exact le)]
  have e : (128 - F).toNat = 128 - F.toNat := by omega
  rw [e]
  have pos := Nat.two_pow_pos (128 - F.toNat)
  generalize 2 ^ (128 - F.toNat) = u at *
  cases hz : sizN F r with
  | zero => rw [hz] at q; omega
  | succ m =>
    rw [hz, Nat.add_mul, Nat.one_mul] at q
    have : s.2.toNat - s.1.toNat = m * u := by omega
    rw [this, Nat.mul_div_cancel _ pos]
def szT (F : Int) : List (BitVec 128 × BitVec 128) → Nat
  | [] => 0
  | s :: l => szS F s + szT F l
theorem szT_app (F : Int) (l m : List (BitVec 128 × BitVec 128)) : szT F (l ++ m) = szT F l + szT F m := by
  induction l with
  | nil => simp [szT]
  | cons s l ih => simp only [List.cons_append, szT, ih]; omega
theorem szT_take (F : Int) (l : List (BitVec 128 × BitVec 128)) (k : Nat) (hk : k < l.length) : szT F (l.take (k + 1)) = szT F (l.take k) + szS F l[k] := by
  rw [List.take_succ_eq_append_getElem hk, szT_app]
  simp [szT]
theorem runs_siz {F : Int} (hf : fam F = true) : ∀ (st : List (BitVec 128 × BitVec 128)) (l : List (BitVec 128 × Int)), Runs F st l → (∀ p ∈ l, Rp F p) → szT F st.reverse = sizN F l := by
  intro st
  induction st with
  | nil => intro l h _; rw [show l = [] from h]; rfl
  | cons s st ih =>
    intro l h hr
    obtain ⟨l1, r, rfl, h1, h2⟩ := h
    rw [List.reverse_cons, szT_app, ih l1 h1 (fun p hp => hr p (List.mem_append_left _ hp)), sizN_app]
    simp only [szT, Nat.add_zero]
    rw [szS_run hf r s h2 (fun p hp => hr p (List.mem_append_right _ hp))]
theorem whole_siz {F : Int} (hf : fam F = true) (m : List (BitVec 128 × Int)) (hm : ∀ p ∈ m, Rp F p) : szT F (psAll F [] (segL F m)).reverse = sizN F m := by
  have h := psAll_runs (F := F) m [] [] rfl
  rw [List.nil_append] at h
  exact runs_siz hf _ m h hm
theorem szT_le (F : Int) (l : List (BitVec 128 × BitVec 128)) : szT F l ≤ l.length * 340282366920938463463374607431768211456 := by
  induction l with
  | nil => simp [szT]
  | cons s l ih =>
    have := ((s.2 - s.1) >>> (128 - F).toNat).isLt
    simp only [szT, szS, List.length_cons, Nat.add_mul, Nat.one_mul]
    omega
end Go.Proofs.YtkgfeegcdohkdaaDoor
/-
  The law RangeMerges.
-/
namespace Go.Proofs.YtkgfeegcdohkdaaDoor
open Go.RowKit
set_option linter.unusedSimpArgs false
set_option linter.unusedVariables false

theorem lent_rw {W : World} {base g : Nat} {l : List (BitVec 128 × Int)} (h : W.ownsRow base 26 3 (.slice (some ⟨g, 0, none⟩) (l.length + 3) (l.length + 3)) (l.length + 3) (rowP (l ++ mkL l.length 3))) : Rw W (.slice (some ⟨g, 0, none⟩) l.length (l.length + 3)) l := by
  refine ⟨some ⟨g, 0, none⟩, l.length + 3, rfl, .inr ⟨g, 0, rfl, ?_⟩⟩
  intro j u hj
  have hl : j < (rowP l).length := (List.getElem?_eq_some_iff.1 hj).1
  have := h.cells (g := g) rfl j u (by rw [rowP_app, List.getElem?_append_left hl]; exact hj)
  rw [addA, Nat.zero_add] at this
  rw [Nat.zero_add]
  exact this
/-- What Merge answers: a list, or an error. -/
def mgL (F : Int) (l : List (BitVec 128 × Int)) : List (BitVec 128 × Int) := if chkE F l = 0 then (ptAll [] (sortL l)).reverse else []
theorem merge_all (F : Int) (v : Value) (l : List (BitVec 128 × Int)) (w : World) (hv : Rw w v l) (hl : l.length ≤ 1000000000) :
    Calls Tryd.prog 22 #[.int .i64 F, v] w fun e w' => (∃ v', e = .returned (.tuple #[v', .int .i64 (chkE F l)]) ∧ w'.ownsRow w.heap.size 26 3 v' (mgL F l).length (rowP (mgL F l))) ∧ Below w.heap.size w w' := by
  unfold mgL
  by_cases h : chkE F l = 0
  · rw [if_pos h, h]
    refine (merge_any F v l w hv hl h).mono ?_
    rintro e w' ⟨⟨v', rfl, h⟩, hb⟩
    exact ⟨⟨v', rfl, by rw [List.length_reverse]; exact h⟩, hb⟩
  · rw [if_neg h]
    refine (merge_err F v l w hv hl h).mono ?_
    rintro e w' ⟨rfl, hb⟩
    exact ⟨⟨_, rfl, World.ownsRow_nil _ _ _ _⟩, hb⟩
theorem rmerge_all (F : Int) (v : Value) (l : List (BitVec 128 × Int)) (w : World) (hv : Rv w v l) (hl : l.length ≤ 1000000000) :
    Calls Tryd.prog 24 #[.int .i64 F, v] w fun e w' => (∃ v', e = .returned (.tuple #[v', .int .i64 (chkE F l)]) ∧ w'.ownsRow w.heap.size 26 3 v' (mgL F l).length (rowP (mgL F l))) ∧ Below w.heap.size w w' := by
  unfold mgL
  by_cases h : chkE F l = 0
  · rw [if_pos h, h]
    exact rmerge_any F v l w hv hl h
  · rw [if_neg h]
    refine (rmerge_err F v l w hv hl h).mono ?_
    rintro e w' ⟨rfl, hb⟩
    exact ⟨⟨_, rfl, World.ownsRow_nil _ _ _ _⟩, hb⟩
theorem mgL_le (F : Int) (l : List (BitVec 128 × Int)) : (mgL F l).length ≤ l.length := by
  unfold mgL
  split
  · have := ptAll_le (sortL l) []
    rw [sortL_len] at this
    rw [List.length_reverse]
    simp at this
    omega
  · simp
theorem rangeMerges_many (F : Int) (v : Value) (l : List (BitVec 128 × Int)) (w : World) (hT : Tab w) (hv : Rv w v l) (hl : 2000 < l.length) :
    Calls Tryd.prog 5 #[.int .i64 F, v] w fun e w' => e = .returned (.bool true) ∧ Below w.heap.size w w' := by
  have KN := known4_any w hT
  obtain ⟨ao, c, rfl, -⟩ := hv
  have h1 : (2000 : Int) < (l.length : Int) := by omega
  go_enter Tryd.func5, Tryd.ntmps5
  go_wp2_with fail
  refine KN.mono ?_
  rintro e w1 ⟨rfl, kB⟩
  clear KN
  go_wp2
  go_ret
  exact ⟨rfl, kB⟩
set_option maxRecDepth 20000 in
set_option maxHeartbeats 4000000 in
theorem rangeMerges_any (F : Int) (v : Value) (l : List (BitVec 128 × Int)) (w : World) (hT : Tab w) (hv : Rv w v l) :
    Calls Tryd.prog 5 #[.int .i64 F, v] w fun e w' => e = .returned (.bool true) ∧ Below w.heap.size w w' := by
  by_cases hl : 2000 < l.length
  · exact rangeMerges_many F v l w hT hv hl
  · have KN := known4_any w hT
    have HV := Hid.mk' hv
    have KL := fun w hv => lend_any v l w hv (by omega)
    have KM := fun v w hv => merge_all F v l w hv (by omega)
    have KG := fun w hv => rmerge_all F v l w hv (by omega)
    have hml := mgL_le F l
    obtain ⟨ao, c, rfl, -⟩ := hv
    have h1 : ¬ (2000 : Int) < (l.length : Int) := by omega
    generalize mgL F l = M at *
    generalize chkE F l = ce at *
    go_enter Tryd.func5, Tryd.ntmps5
    go_wp2_with fail
    refine KN.mono ?_
    rintro e w1 ⟨rfl, kB⟩
    have HV1 := Hid.mk' (HV.out.below kB)
    have HB1 := Hid.mk' kB
    clear KN kB HV
    go_wp2_with fail
    refine (KL _ HV1.out).mono ?_
    rintro e w2 ⟨⟨g, rfl, ho⟩, hb⟩
    have HO2 := Hid.mk' ho
    have HB2 := Hid.mk' hb
    clear ho hb KL
    go_wp2_with fail
    refine (KM _ _ (lent_rw HO2.out)).mono ?_
    rintro e w3 ⟨⟨va, rfl, ha⟩, hb⟩
    have hne : va.ownBlock ≠ some g := fun e => by
      have a1 := (ha.lt g e).1
      have a2 := (HO2.out.lt g (by simp [Value.ownBlock])).2
      omega
    have KK := kept_any (.slice ao l.length c) l w1 w3 HV1.out (keepb hb HB2.out) g (own_below hb HO2.out) (by omega)
    have HA := Hid.mk' ha
    have HNE := Hid.mk' hne
    clear ha hb hne KM HO2 HB2
    go_wp2_with fail
    refine KK.mono ?_
    rintro e w4 ⟨rfl, hb4, hst⟩
    have HA4 := Hid.mk' (hst _ _ _ _ _ _ HA.out HNE.out)
    have HB4 := Hid.mk' hb4
    clear hst hb4 KK HA HNE
    go_wp2_with fail
    refine (KG _ (HV1.out.below HB4.out)).mono ?_
    rintro e w5 ⟨⟨vb, rfl, hbq⟩, hb⟩
    have KE := same_any va vb M w5 ⟨_, own_below hb HA4.out⟩ ⟨_, hbq⟩ (by omega)
    have kB5 := keepb (keepb hb HB4.out) HB1.out
    clear hbq hb KG HA4 HB4 HV1 HB1
    go_wp2_with fail
    refine KE.mono ?_
    rintro e w6 ⟨rfl, hb⟩
    have kB6 := keepb hb kB5
    clear hb KE kB5
    go_wp2
    go_ret
    exact ⟨rfl, kB6⟩
end Go.Proofs.YtkgfeegcdohkdaaDoor
/-
  A drawn region that reads a variable, calls, and writes the variable before its last operations.
-/
namespace Go.Proofs.YtkgfeegcdohkdaaDoor
open Go.RowKit
set_option linter.unusedSimpArgs false
set_option linter.unusedVariables false
section
variable {P : Program}
/-- One walk of the text's order: the region reads a variable (operation j) and writes it (operation k, which waits for j). -/
theorem ld_region {id : Nat} {l : List Oper} (m j k : Nat) {oj ok' : Oper} (ok : AlOk l m j oj) (ok2 : AlOk l m k ok') (hjk : j ≠ k) (hwt : ok'.after.any (fun e => Region.binds .any e && e.on == j) = true) (hd2 : ok'.dst = none)
    {D C2 : World → Prop} {Q : Exit → Act → World → Prop} {a : Act} {w : World} (ds : List (Option Tmp)) (vals : List Value) (v0 : Value) (d : Nat) (rd1 rd : List Nat) (hm : P.follows .mixedOrders = true)
    (hlex : Region.lexB .any (rep (rep (l.take m) k undef) j v0).toArray = true)
    (hd : oj.dst = some d) (hAd : (putAll a ds vals).tmps[d]? = some v0)
    (hrd1 : readB l m oj rd1 = true) (hrd : readB l m ok' rd = true)
    (hld : ∀ w (a' : Act), D w → (∀ s ∈ rd1, a'.tmps[s]? = (putAll a ds vals).tmps[s]?) → ∀ (K : Act → World → Prop) Q', K (a'.put oj.dst v0) w → oj.wp P a' w K Q')
    (hst : ∀ w (a' : Act), D w → (∀ s ∈ rd, a'.tmps[s]? = (putAll a ds vals).tmps[s]?) → ∀ (K : Act → World → Prop) Q', (∀ w', C2 w' → K a' w') → ok'.wp P a' w K Q')
    (hD : D w.drew)
    (hwalk : ∀ (X : World → Prop), (X = D ∨ X = C2) → wpQuiet P (rep (rep (l.take m) k undef) j v0).toArray X (fun a' => a' = putAll a ds vals) (rep (rep (l.take m) k undef) j v0) a)
    (hpost : ∀ w, C2 w → wpList P l.toArray Q (l.drop m) (putAll a ds vals) w) : (Code.region id l.toArray true).wp P Q a w := by
  refine wp_region_any hm ?_
  have hml := ok.ml
  have any : ∀ X, (X = D ∨ X = C2) → wpAnyQ P .any (rep (rep (l.take m) k undef) j v0).toArray X (fun a' => a' = putAll a ds vals) m (Array.replicate m false) a := by
    intro X hX
    have hB := hlex
    simp only [Region.lexB, Bool.and_eq_true] at hB
    have hlen : (rep (rep (l.take m) k undef) j v0).length = m := by rw [rep_len, rep_len, List.length_take]; omega
    have := wpAnyQ_lex (C := X) (md := .any) hB.1 (rep (rep (l.take m) k undef) j v0) 0 (Array.replicate m false) a (by simp) (by have := hB.2; simpa [hlen] using this) (hwalk X hX)
    rwa [hlen] at this
  have hu : unl (Array.replicate m false) = m := by unfold unl; simp
  obtain ⟨ew, hew1, hew2⟩ := Array.any_eq_true'.mp hwt
  simp only [Bool.and_eq_true, beq_iff_eq] at hew2
  have main := gpend (P := P) (Q := Q) ok (b := fun _ => rep (rep (l.take m) k undef) j v0) (E := fun i => i == j || i == k) (fun _ => sim_two l m j k hml _ _) (D := D) (C1 := fun _ => D) (Cs := fun _ X => X = D ∨ X = C2) (A := fun _ => putAll a ds vals) (val := fun _ => v0) (rd := rd1)
    (fun lp => lp.getD k true = false) (fun lp i h hi => by
      have : i ≠ k := by
        intro e
        rcases hi with q | q
        · simp [e] at q
        · exact hjk (by rw [← q, e])
      rw [getD_set_ne true this]; exact h)
    (by simp) (fun i o s N _ _ _ _ => rfl) (fun s N hs _ => by
      rw [hd] at hs
      cases hs
      exact hAd) (read_of hrd1) (fun w' a' hw hr K Q' hK => hld w' a' hw hr K Q' (hK 0 w' hw))
    (fun N fuel lp a1 w1 hs hu' hj hI hz hC hX =>
      gpend (P := P) (Q := Q) ok2 (b := fun _ => rep (rep (l.take m) k undef) j v0) (E := fun i => i == j || i == k) (fun _ => sim_two l m j k hml _ _) (D := D) (C1 := fun _ => C2) (Cs := fun _ X => X = C2) (A := fun _ => putAll a ds vals) (val := fun _ => undef) (rd := rd)
        (fun lp => lp.getD j false = true) (fun lp i h _ => getD_set_true h) (by simp) (fun i o s N' _ _ _ _ => rfl) (fun s N' hs => by rw [hd2] at hs; cases hs) (read_of hrd)
        (fun w' a' hw hr K Q' hK => hst w' a' hw hr K Q' (fun w2 h2 => by
          have := hK 0 w2 h2
          rw [hd2] at this
          exact this))
        (fun N' fuel lp a2 w2 hs hu hk hI hz hC hX => gdone ok.toQpOk (sim_two l m j k hml _ _) (fun w3 h3 => hpost w3 h3) fuel lp a2 w2 hs hu (fun i hi => by
          simp only [Bool.or_eq_true, beq_iff_eq] at hi
          rcases hi with e | e
          · rw [e]; exact hI
          · rw [e]; exact hk) hC (hX _ rfl))
        fuel lp a1 w1 hs hu' hI hj (fun i hi hne => .inl (by
          have : i = j := by simpa [hne] using hi
          rw [this]; exact hj)) hC (fun _ X hX' => hX X (.inr hX')) (fun _ => hX _ (.inl rfl)) (fun _ => hz))
    m (Array.replicate m false) a w.drew (by simp) hu (by
      rw [Array.getD_eq_getD_getElem?]
      have := ok.jm
      simp [this]) (by
      rw [Array.getD_eq_getD_getElem?]
      have := ok2.jm
      simp [this]) (fun i hi hne => .inr ⟨ok', by
        have : i = k := by simpa [hne] using hi
        rw [this]; exact ok2.here, ew, hew1, hew2.1, hew2.2⟩) hD (fun _ X hX => any X hX) (fun _ => any D (.inl rfl)) (fun _ => putAll_size _ _ _)
  have e1 : m + (l.length - m) = l.toArray.size := by simp; omega
  have e2 : Array.replicate m false ++ Array.replicate (l.length - m) false = Array.replicate l.toArray.size false := by
    rw [Array.replicate_append_replicate]; congr 1
  rw [e1, e2] at main
  exact main
end
end Go.Proofs.YtkgfeegcdohkdaaDoor
/-
  What the call of turnpikeref4's Count does.
-/
namespace Go.Proofs.YtkgfeegcdohkdaaDoor
open Go.RowKit
set_option linter.unusedSimpArgs false
set_option linter.unusedVariables false

def DC (w1 : World) (B : Nat) (s0 s1 s2 : Int) (W : World) : Prop := AtC W B s0 s1 s2 ∧ Below w1.heap.size w1 W
theorem DC.below {w1 W W' : World} {B : Nat} {s0 s1 s2 : Int} (h : DC w1 B s0 s1 s2 W) (hb : Below W.heap.size W W') : DC w1 B s0 s1 s2 W' := ⟨h.1.below hb, keepb hb h.2⟩
theorem DC.drew {w1 W : World} {B : Nat} {s0 s1 s2 : Int} (h : DC w1 B s0 s1 s2 W) : DC w1 B s0 s1 s2 W.drew := ⟨h.1, h.2.drew⟩
set_option maxHeartbeats 4000000 in
theorem rcount_err (F : Int) (v : Value) (l : List (BitVec 128 × Int)) (w : World) (hv : Rv w v l) (hl : l.length ≤ 1000000000) (hf : ¬ chkE F l = 0) :
    Calls Tryd.prog 29 #[.int .i64 F, v] w fun e w' => e = .returned (.tuple #[.agg #[.int .u64 0, .int .u64 0, .int .u64 0], .int .i64 (chkE F l)]) ∧ Below w.heap.size w w' := by
  have b0 := bl1 w (.cells #[.int .u64 0, .int .u64 0, .int .u64 0] 56)
  have KC := rrows_err F v l _ (hv.below b0) hl hf
  have HA := Hid.mk' (atc_new w w.heap.size 0 0 0 56 rfl)
  have HB := Hid.mk' b0
  revert KC hf
  generalize chkE F l = ce
  intro hf KC
  have hn : (ce != 0) = true := by simp [hf]
  clear hv b0
  go_enter Tryd.func29, Tryd.ntmps29
  go_wp2_with fail
  refine KC.mono ?_
  rintro e w1 ⟨rfl, hb⟩
  have hA := HA.out.below hb
  have Hk := Hid.mk' (bset3 (keepb hb HB.out) (Nat.le_refl _) (.int .u64 0) (.int .u64 0) (.int .u64 0))
  have Hv := Hid.mk' (hA.set 0 0 0)
  obtain ⟨a0, a1, a2, a3, a4, a5⟩ := id hA
  clear KC hb HA HB hA
  go_wp2
  obtain ⟨f0, f1, f2, -, -, -⟩ := Hv.out
  exact bodyPost_ret (v := .tuple #[.agg #[.int .u64 0, .int .u64 0, .int .u64 0], .int .i64 ce]) (by simp [results, Tryd.results29, go_sem, f0, f1, f2]) rfl ⟨rfl, Hk.out⟩
set_option maxRecDepth 20000 in
set_option maxHeartbeats 8000000 in
theorem rcount_any (F : Int) (v : Value) (l : List (BitVec 128 × Int)) (w : World) (hv : Rv w v l) (hl : l.length ≤ 1000000000) (hf : chkE F l = 0) :
    Calls Tryd.prog 29 #[.int .i64 F, v] w fun e w' => e = .returned (.tuple #[costV (sizN F (ptAll [] (sortL l)).reverse), .int .i64 0]) ∧ Below w.heap.size w w' := by
  obtain ⟨ff, hR⟩ := chk_fam hf
  have hF := fam_le ff
  have hF0 := (fam_bd F ff).1
  have b0 := bl1 w (.cells #[.int .u64 0, .int .u64 0, .int .u64 0] 56)
  have KR := rrows_any F v l _ (hv.below b0) hl hf
  have eL : (rrAll F [] (segL F (sortL l))).length = (rrAll F [] (segL F (sortL l))).reverse.length := by rw [List.length_reverse]
  rw [eL, rows_same ff l hR] at KR
  have hGr : ∀ p ∈ (ptAll [] (sortL l)).reverse, Rp F p := fun p hp => ptAll_rp hF (sortL l) [] (fun a ha => by cases ha) (fun a ha => hR a (sortL_mem.mp ha)) p (by simpa using hp)
  have HW := Hid.mk' (whole_siz ff _ hGr)
  have hRl : (psAll F [] (segL F (ptAll [] (sortL l)).reverse)).reverse.length ≤ l.length := by
    have := psAll_le F (segL F (ptAll [] (sortL l)).reverse) []
    have h2 := ptAll_le (sortL l) []
    rw [sortL_len] at h2
    rw [List.length_reverse]
    unfold segL at this ⊢
    simp only [List.length_map, List.length_nil, List.length_reverse] at this h2
    omega
  rw [← HW.out]
  clear HW hGr eL
  generalize (psAll F [] (segL F (ptAll [] (sortL l)).reverse)).reverse = R at *
  have HA := Hid.mk' (atc_new w w.heap.size 0 0 0 56 rfl)
  have HB := Hid.mk' b0
  clear hf hR hv b0
  go_enter Tryd.func29, Tryd.ntmps29
  go_wp2_with fail
  refine KR.mono ?_
  rintro e w1 ⟨⟨vr, rfl, ha⟩, hb⟩
  have HD := Hid.mk' ha
  obtain ⟨ao2, c2, rfl⟩ := own_form ha
  have HR1 := Hid.mk' (HA.out.below hb)
  have HB1 := Hid.mk' (keepb hb HB.out)
  clear ha hb KR HA HB
  go_wp2_with fail
  go_loopw [9] (fun i wr => ∃ k : Nat, k ≤ R.length ∧ i = .int .i64 k ∧ Hid (AtC wr w1.heap.size (cost0 (szT F (R.take k))) (cost1 (szT F (R.take k))) (cost2 (szT F (R.take k)))) ∧ Hid (Below w1.heap.size w1 wr)) (fun i _ => R.length - (intOf i).toNat)
  case atStart => exact ⟨0, by omega, rfl, Hid.mk' (by simpa [szT, cost0, cost1, cost2] using atc_new w1 w1.heap.size 0 0 0 56 rfl), Hid.mk' (bl1 _ _)⟩
  case round =>
    obtain ⟨k, hk, rfl, HS, HBr⟩ := hrel
    by_cases hlt : (k : Int) < (R.length : Int)
    · have hks : k < R.length := by omega
      have hd := HD.out
      rcases hd.2 with ⟨e, h⟩ | ⟨g, cap, cur, e, -⟩
      · omega
      · injection e with e1 e2 e3
        subst e1
        clear e2 e3
        obtain ⟨x0, x1, x2, x3, x4⟩ := rows_cells hd rfl k hks
        have Ksize := fun w => rsize_any F R[k].1 R[k].2 w (by omega) hF
        have HT := szT_take F R k hks
        have hup : szT F (R.take (k + 1)) < 6277101735386680763835789423207666416102355444464034512896 := by
          have := szT_le F (R.take (k + 1))
          have h3 : (R.take (k + 1)).length ≤ 1000000000 := by simp; omega
          omega
        have Kadd := fun w => radd9_any (szT F (R.take k)) (szS F R[k]) w (by rw [← HT]; exact hup)
        rw [← HT] at Kadd
        have HDC := Hid.mk' (DC.drew ⟨HS.out, HBr.out⟩ : DC w1 w1.heap.size (cost0 (szT F (R.take k))) (cost1 (szT F (R.take k))) (cost2 (szT F (R.take k))) wr.drew)
        have HX := Hid.mk' (And.intro x0 (And.intro x1 (And.intro x2 (And.intro x3 x4))))
        clear HT hup hd x0 x1 x2 x3 x4 HS HBr
        have mk : IntKind.i64.wrap ((k : Int) + 1) = (k : Int) + 1 := by rw [IntKind.wrap_i64]; omega
        unfold costV at Ksize Kadd
        revert Ksize Kadd HDC HX
        generalize cost0 (szS F R[k]) = z0
        generalize cost1 (szS F R[k]) = z1
        generalize cost2 (szS F R[k]) = z2
        generalize R[k].1 = px
        generalize R[k].2 = py
        generalize cost0 (szT F (R.take k)) = s0 at *
        generalize cost1 (szT F (R.take k)) = s1 at *
        generalize cost2 (szT F (R.take k)) = s2 at *
        obtain ⟨t0, ht0⟩ : ∃ t, t = cost0 (szT F (R.take (k + 1))) := ⟨_, rfl⟩
        obtain ⟨t1, ht1⟩ : ∃ t, t = cost1 (szT F (R.take (k + 1))) := ⟨_, rfl⟩
        obtain ⟨t2, ht2⟩ : ∃ t, t = cost2 (szT F (R.take (k + 1))) := ⟨_, rfl⟩
        rw [← ht0, ← ht1, ← ht2]
        intro Ksize Kadd HDC HX
        have HTT := Hid.mk' (And.intro ht0 (And.intro ht1 ht2))
        clear ht0 ht1 ht2
        go_wp2_with fail
        refine ld_region 12 0 11 (alOk (qpOk 12 0 (by decide) (fun N => by kernel_rfl) (by kernel_rfl) (by kernel_rfl) (by kernel_rfl) (by kernel_rfl)) (by decide) rfl rfl (by kernel_rfl)) (alOk (qpOk 12 11 (by decide) (fun N => by kernel_rfl) (by kernel_rfl) (by kernel_rfl) (by kernel_rfl) (by kernel_rfl)) (by decide) rfl rfl (by kernel_rfl)) (by decide) (by kernel_rfl) rfl (D := DC w1 w1.heap.size s0 s1 s2) (C2 := DC w1 w1.heap.size t0 t1 t2) [some 27, some 28, some 29, some 30, some 31, some 32, some 33, some 34, some 26, some 35, some 36, none] [.agg #[.int .u64 s0, .int .u64 s1, .int .u64 s2], .int .i64 F, .slice (some ⟨g, 0, none⟩) R.length c2, .int .i64 (k : Int), .pointer (some ⟨g, k * 5, none⟩), .agg #[.int .u64 (hI px), .int .u64 (lI px), .int .u64 (hI py), .int .u64 (lI py), .int .i64 1], .agg #[.int .u64 z0, .int .u64 z1, .int .u64 z2], .tuple #[.agg #[.int .u64 t0, .int .u64 t1, .int .u64 t2], .int .i64 0], .tuple #[.agg #[.int .u64 t0, .int .u64 t1, .int .u64 t2], .int .i64 0], .agg #[.int .u64 t0, .int .u64 t1, .int .u64 t2], .int .i64 0, undef] (.agg #[.int .u64 s0, .int .u64 s1, .int .u64 s2]) 27 [8] [8, 35] (by kernel_rfl) (by kernel_rfl) rfl (by simp only [putAll, Act.put, List.setIfInBounds_toArray, List.set_cons_zero, List.set_cons_succ]; rfl) (by kernel_rfl) (by kernel_rfl) ?ld ?st HDC.out ?walk ?fin
        case ld =>
          intro W a hD hr K Q' hK
          have e8 : a.tmps[8]? = some (.pointer (some ⟨w1.heap.size, 0, none⟩)) := (hr 8 (by simp)).trans (by simp only [putAll, Act.put, List.setIfInBounds_toArray, List.set_cons_zero, List.set_cons_succ]; rfl)
          obtain ⟨⟨y0, y1, y2, -, -, -⟩, -⟩ := hD
          unfold Oper.wp
          simp [execOp, e8, go_sem, y0, y1, y2, Oper.upon]
          exact hK
        case st =>
          intro W a hD hr K Q' hK
          have e8 : a.tmps[8]? = some (.pointer (some ⟨w1.heap.size, 0, none⟩)) := (hr 8 (by simp)).trans (by simp only [putAll, Act.put, List.setIfInBounds_toArray, List.set_cons_zero, List.set_cons_succ]; rfl)
          have e35 : a.tmps[35]? = some (.agg #[.int .u64 t0, .int .u64 t1, .int .u64 t2]) := (hr 35 (by simp)).trans (by simp only [putAll, Act.put, List.setIfInBounds_toArray, List.set_cons_zero, List.set_cons_succ]; rfl)
          have hK' := hK _ (⟨hD.1.set t0 t1 t2, bset3 hD.2 (Nat.le_refl _) (.int .u64 t0) (.int .u64 t1) (.int .u64 t2)⟩ : DC w1 w1.heap.size t0 t1 t2 _)
          obtain ⟨⟨y0, y1, y2, y3, y4, y5⟩, -⟩ := hD
          unfold Oper.wp
          simp [execOp, e8, e35, go_sem, y0, y1, y2, y3, y4, y5, Oper.upon]
          exact hK'
        case walk =>
          intro X hX
          have hXD : ∀ W, X W → W.cell? ⟨g, k * 5, none⟩ = some (.int .u64 (hI px)) ∧ W.cell? ⟨g, k * 5 + 1, none⟩ = some (.int .u64 (lI px)) ∧ W.cell? ⟨g, k * 5 + 2, none⟩ = some (.int .u64 (hI py)) ∧ W.cell? ⟨g, k * 5 + 3, none⟩ = some (.int .u64 (lI py)) ∧ W.cell? ⟨g, k * 5 + 4, none⟩ = some (.int .i64 1) := by
            obtain ⟨x0, x1, x2, x3, x4⟩ := HX.out
            rcases hX with rfl | rfl
            · exact fun W h => ⟨keepc h.2 x0, keepc h.2 x1, keepc h.2 x2, keepc h.2 x3, keepc h.2 x4⟩
            · exact fun W h => ⟨keepc h.2 x0, keepc h.2 x1, keepc h.2 x2, keepc h.2 x3, keepc h.2 x4⟩
          have hXb : ∀ W W', X W → Below W.heap.size W W' → X W' := by
            rcases hX with rfl | rfl
            · exact fun W W' h hb => h.below hb
            · exact fun W W' h hb => h.below hb
          clear hX HX HDC
          dsimp only [rep, List.take, List.modify, List.modifyTailIdx, List.modifyTailIdx.go, List.modifyHead]
          refine q_run (v := .agg #[.int .u64 s0, .int .u64 s1, .int .u64 s2]) (by rfl) ?_ ?_
          · (intro w1 hC; obtain ⟨x0, x1, x2, x3, x4⟩ := hXD w1 hC; clear hC; go_simp; first | done | (simp; done) | (simp [*]; done) | omega | (simp; omega) | (rw [IntKind.wrap_i64]; omega) | (intro hx; omega) | rfl)
          simp only [Act.put, List.setIfInBounds_toArray, List.set_cons_zero, List.set_cons_succ]
          refine q_run (v := .int .i64 F) (by rfl) ?_ ?_
          · (intro w1 hC; obtain ⟨x0, x1, x2, x3, x4⟩ := hXD w1 hC; clear hC; go_simp; first | done | (simp; done) | (simp [*]; done) | omega | (simp; omega) | (rw [IntKind.wrap_i64]; omega) | (intro hx; omega) | rfl)
          simp only [Act.put, List.setIfInBounds_toArray, List.set_cons_zero, List.set_cons_succ]
          refine q_run (v := .slice (some ⟨g, 0, none⟩) R.length c2) (by rfl) ?_ ?_
          · (intro w1 hC; obtain ⟨x0, x1, x2, x3, x4⟩ := hXD w1 hC; clear hC; go_simp; first | done | (simp; done) | (simp [*]; done) | omega | (simp; omega) | (rw [IntKind.wrap_i64]; omega) | (intro hx; omega) | rfl)
          simp only [Act.put, List.setIfInBounds_toArray, List.set_cons_zero, List.set_cons_succ]
          refine q_run (v := .int .i64 (k : Int)) (by rfl) ?_ ?_
          · (intro w1 hC; obtain ⟨x0, x1, x2, x3, x4⟩ := hXD w1 hC; clear hC; go_simp; first | done | (simp; done) | (simp [*]; done) | omega | (simp; omega) | (rw [IntKind.wrap_i64]; omega) | (intro hx; omega) | rfl)
          simp only [Act.put, List.setIfInBounds_toArray, List.set_cons_zero, List.set_cons_succ]
          refine q_run (v := .pointer (some ⟨g, k * 5, none⟩)) (by rfl) ?_ ?_
          · (intro w1 hC; obtain ⟨x0, x1, x2, x3, x4⟩ := hXD w1 hC; clear hC; go_simp; first | done | (simp; done) | (simp [*]; done) | omega | (simp; omega) | (rw [IntKind.wrap_i64]; omega) | (intro hx; omega) | rfl)
          simp only [Act.put, List.setIfInBounds_toArray, List.set_cons_zero, List.set_cons_succ]
          refine q_run (v := .agg #[.int .u64 (hI px), .int .u64 (lI px), .int .u64 (hI py), .int .u64 (lI py), .int .i64 1]) (by rfl) ?_ ?_
          · (intro w1 hC; obtain ⟨x0, x1, x2, x3, x4⟩ := hXD w1 hC; clear hC; go_simp; first | done | (simp; done) | (simp [*]; done) | omega | (simp; omega) | (rw [IntKind.wrap_i64]; omega) | (intro hx; omega) | rfl)
          simp only [Act.put, List.setIfInBounds_toArray, List.set_cons_zero, List.set_cons_succ]
          refine q_call (v := .agg #[.int .u64 z0, .int .u64 z1, .int .u64 z2]) (f := 69) (args := #[.int .i64 F, .agg #[.int .u64 (hI px), .int .u64 (lI px), .int .u64 (hI py), .int .u64 (lI py), .int .i64 1]]) (by rfl) ?_ ?_ ?_
          · (intro w1 hC; clear hC; go_simp)
          · exact fun w1 hC => (Ksize w1).mono fun e w' ⟨he, hb⟩ => ⟨he, hXb w1 _ hC hb⟩
          simp only [Act.put, List.setIfInBounds_toArray, List.set_cons_zero, List.set_cons_succ]
          refine q_call (v := .tuple #[.agg #[.int .u64 t0, .int .u64 t1, .int .u64 t2], .int .i64 0]) (f := 68) (args := #[.agg #[.int .u64 s0, .int .u64 s1, .int .u64 s2], .agg #[.int .u64 z0, .int .u64 z1, .int .u64 z2]]) (by rfl) ?_ ?_ ?_
          · (intro w1 hC; clear hC; go_simp)
          · exact fun w1 hC => (Kadd w1).mono fun e w' ⟨he, hb⟩ => ⟨he, hXb w1 _ hC hb⟩
          simp only [Act.put, List.setIfInBounds_toArray, List.set_cons_zero, List.set_cons_succ]
          refine q_run (v := .tuple #[.agg #[.int .u64 t0, .int .u64 t1, .int .u64 t2], .int .i64 0]) (by rfl) ?_ ?_
          · (intro w1 hC; obtain ⟨x0, x1, x2, x3, x4⟩ := hXD w1 hC; clear hC; go_simp; first | done | (simp; done) | (simp [*]; done) | omega | (simp; omega) | (rw [IntKind.wrap_i64]; omega) | (intro hx; omega) | rfl)
          simp only [Act.put, List.setIfInBounds_toArray, List.set_cons_zero, List.set_cons_succ]
          refine q_run (v := .agg #[.int .u64 t0, .int .u64 t1, .int .u64 t2]) (by rfl) ?_ ?_
          · (intro w1 hC; obtain ⟨x0, x1, x2, x3, x4⟩ := hXD w1 hC; clear hC; go_simp; first | done | (simp; done) | (simp [*]; done) | omega | (simp; omega) | (rw [IntKind.wrap_i64]; omega) | (intro hx; omega) | rfl)
          simp only [Act.put, List.setIfInBounds_toArray, List.set_cons_zero, List.set_cons_succ]
          refine q_run (v := .int .i64 0) (by rfl) ?_ ?_
          · (intro w1 hC; obtain ⟨x0, x1, x2, x3, x4⟩ := hXD w1 hC; clear hC; go_simp; first | done | (simp; done) | (simp [*]; done) | omega | (simp; omega) | (rw [IntKind.wrap_i64]; omega) | (intro hx; omega) | rfl)
          simp only [Act.put, List.setIfInBounds_toArray, List.set_cons_zero, List.set_cons_succ]
          refine q_run (v := undef) (by rfl) ?_ ?_
          · (intro w1 hC; obtain ⟨x0, x1, x2, x3, x4⟩ := hXD w1 hC; clear hC; go_simp; first | done | (simp; done) | (simp [*]; done) | omega | (simp; omega) | (rw [IntKind.wrap_i64]; omega) | (intro hx; omega) | rfl)
          simp only [Act.put, List.setIfInBounds_toArray, List.set_cons_zero, List.set_cons_succ]
          refine wpQuiet_nil ?_
          simp only [putAll, Act.put, List.setIfInBounds_toArray, List.set_cons_zero, List.set_cons_succ]
        case fin =>
          intro W hC
          simp only [putAll, Act.put, List.setIfInBounds_toArray, List.set_cons_zero, List.set_cons_succ]
          dsimp only [List.drop]
          have HE2 := Hid.mk' hC.1
          have HkE := Hid.mk' hC.2
          clear HDC Ksize Kadd hC HX
          go_wp2
          go_roundw
          case rel =>
            obtain ⟨e0, e1, e2⟩ := HTT.out
            exact ⟨k + 1, by omega, by go_num, by rw [← e0, ← e1, ← e2]; exact HE2, HkE⟩
          case measure => simp [intOf]; omega
    · have hd : ¬ k < R.length := by omega
      have HEq : Hid (R.take k = R) := List.take_of_length_le (by omega)
      rw [HEq.out] at HS
      have hR := HR1.out.below HBr.out
      have hS := HS.out
      clear HS
      have HC : Hid (costV (szT F R) = .agg #[.int .u64 (cost0 (szT F R)), .int .u64 (cost1 (szT F R)), .int .u64 (cost2 (szT F R))]) := rfl
      have hne : ¬ w1.heap.size = w.heap.size := by have := HR1.out.lt; omega
      have hne' : ¬ w.heap.size = w1.heap.size := by omega
      revert hS HC
      generalize cost0 (szT F R) = s0
      generalize cost1 (szT F R) = s1
      generalize cost2 (szT F R) = s2
      intro hS HC
      obtain ⟨r0, r1, r2, r3, r4, r5⟩ := id hR
      obtain ⟨q0, q1, q2, q3, q4, q5⟩ := id hS
      have Hk := Hid.mk' (bset3 (keepb HBr.out HB1.out) (Nat.le_refl _) (.int .u64 s0) (.int .u64 s1) (.int .u64 s2))
      have Hv := Hid.mk' (hR.set s0 s1 s2)
      clear hR hS HBr HR1 HB1
      go_wp2
      obtain ⟨v0, v1, v2, -, -, -⟩ := Hv.out
      exact bodyPost_ret (v := .tuple #[.agg #[.int .u64 s0, .int .u64 s1, .int .u64 s2], .int .i64 0]) (by simp [results, Tryd.results29, go_sem, v0, v1, v2]) rfl ⟨by rw [HC.out], Hk.out⟩
end Go.Proofs.YtkgfeegcdohkdaaDoor
/-
  What Rows and Count answer, with their errors, in the program and in the document.
-/
namespace Go.Proofs.YtkgfeegcdohkdaaDoor
open Go.RowKit
set_option linter.unusedSimpArgs false
set_option linter.unusedVariables false

theorem rows_err (F : Int) (v : Value) (l : List (BitVec 128 × Int)) (w : World) (hv : Rw w v l) (hl : l.length ≤ 1000000000) (hf : ¬ chkE F l = 0) :
    Calls Tryd.prog 26 #[.int .i64 F, v] w fun e w' => e = .returned (.tuple #[.slice none 0 0, .int .i64 (chkE F l)]) ∧ Below w.heap.size w w' := by
  have KC := fun w hw => merge_err F v l w hw hl hf
  revert KC hf
  generalize chkE F l = ce
  intro hf KC
  have hn : (ce != 0) = true := by simp [hf]
  have HV : Hid (Rw w v l) := hv
  clear hv
  go_enter Tryd.func26, Tryd.ntmps26
  go_wp2_with fail
  refine (KC _ HV.out).mono ?_
  rintro e w1 ⟨rfl, hb⟩
  clear KC
  go_wp2
  go_ret2
  exact ⟨rfl, hb⟩
set_option maxHeartbeats 4000000 in
theorem count_err (F : Int) (v : Value) (l : List (BitVec 128 × Int)) (w : World) (hv : Rw w v l) (hl : l.length ≤ 1000000000) (hf : ¬ chkE F l = 0) :
    Calls Tryd.prog 27 #[.int .i64 F, v] w fun e w' => e = .returned (.tuple #[.agg #[.int .u64 0, .int .u64 0, .int .u64 0], .int .i64 (chkE F l)]) ∧ Below w.heap.size w w' := by
  have b0 := bl1 w (.cells #[.int .u64 0, .int .u64 0, .int .u64 0] 56)
  have KC := merge_err F v l _ (hv.below b0) hl hf
  have HA := Hid.mk' (atc_new w w.heap.size 0 0 0 56 rfl)
  have HB := Hid.mk' b0
  revert KC hf
  generalize chkE F l = ce
  intro hf KC
  have hn : (ce != 0) = true := by simp [hf]
  clear hv b0
  go_enter Tryd.func27, Tryd.ntmps27
  go_wp2_with fail
  refine KC.mono ?_
  rintro e w1 ⟨rfl, hb⟩
  have hA := HA.out.below hb
  have Hk := Hid.mk' (bset3 (keepb hb HB.out) (Nat.le_refl _) (.int .u64 0) (.int .u64 0) (.int .u64 0))
  have Hv := Hid.mk' (hA.set 0 0 0)
  obtain ⟨a0, a1, a2, a3, a4, a5⟩ := id hA
  clear KC hb HA HB hA
  go_wp2
  obtain ⟨f0, f1, f2, -, -, -⟩ := Hv.out
  exact bodyPost_ret (v := .tuple #[.agg #[.int .u64 0, .int .u64 0, .int .u64 0], .int .i64 ce]) (by simp [results, Tryd.results27, go_sem, f0, f1, f2]) rfl ⟨rfl, Hk.out⟩
/-- What Rows answers: a list, or none. -/
def rwL (F : Int) (l : List (BitVec 128 × Int)) : List (BitVec 128 × BitVec 128) := if chkE F l = 0 then (psAll F [] (segL F (ptAll [] (sortL l)).reverse)).reverse else []
def ctN (F : Int) (l : List (BitVec 128 × Int)) : Nat := if chkE F l = 0 then sizN F (ptAll [] (sortL l)).reverse else 0
theorem rwL_le (F : Int) (l : List (BitVec 128 × Int)) : (rwL F l).length ≤ l.length := by
  unfold rwL
  split
  · have := psAll_le F (segL F (ptAll [] (sortL l)).reverse) []
    have h2 := ptAll_le (sortL l) []
    rw [sortL_len] at h2
    rw [List.length_reverse]
    unfold segL at this ⊢
    simp only [List.length_map, List.length_nil, List.length_reverse] at this h2
    omega
  · simp
theorem costV_zero : costV 0 = .agg #[.int .u64 0, .int .u64 0, .int .u64 0] := by simp [costV, cost0, cost1, cost2]
theorem rows_all (F : Int) (v : Value) (l : List (BitVec 128 × Int)) (w : World) (hv : Rw w v l) (hl : l.length ≤ 1000000000) :
    Calls Tryd.prog 26 #[.int .i64 F, v] w fun e w' => (∃ v', e = .returned (.tuple #[v', .int .i64 (chkE F l)]) ∧ w'.ownsRow w.heap.size 64 5 v' (rwL F l).length (rowS (rwL F l))) ∧ Below w.heap.size w w' := by
  unfold rwL
  by_cases h : chkE F l = 0
  · obtain ⟨ff, hR⟩ := chk_fam h
    rw [if_pos h, h]
    exact rows_rp F v l w hv hl ff hR
  · rw [if_neg h]
    refine (rows_err F v l w hv hl h).mono ?_
    rintro e w' ⟨rfl, hb⟩
    exact ⟨⟨_, rfl, World.ownsRow_nil _ _ _ _⟩, hb⟩
theorem count_all (F : Int) (v : Value) (l : List (BitVec 128 × Int)) (w : World) (hv : Rw w v l) (hl : l.length ≤ 1000000000) :
    Calls Tryd.prog 27 #[.int .i64 F, v] w fun e w' => e = .returned (.tuple #[costV (ctN F l), .int .i64 (chkE F l)]) ∧ Below w.heap.size w w' := by
  unfold ctN
  by_cases h : chkE F l = 0
  · obtain ⟨ff, hR⟩ := chk_fam h
    have hle := ptAll_le (sortL l) []
    rw [sortL_len] at hle
    rw [if_pos h, h]
    refine count_any F v l (ptAll [] (sortL l)).reverse w (fam_le ff) (by rw [List.length_reverse]; simp at hle; omega) (fun p hp => ?_) (fun w hv => ?_) hv
    · have := ptAll_rp (fam_le ff) (sortL l) [] (fun a ha => by cases ha) (fun a ha => hR a (sortL_mem.mp ha)) p (by simpa using hp)
      exact ⟨this.1, this.2.1⟩
    · refine (merge_o F v l w hv hl ff hR).mono ?_
      rintro e w' ⟨⟨v', rfl, h⟩, hb⟩
      exact ⟨⟨v', rfl, own_rw h⟩, hb⟩
  · rw [if_neg h, costV_zero]
    exact count_err F v l w hv hl h
theorem rrows_all (F : Int) (v : Value) (l : List (BitVec 128 × Int)) (w : World) (hv : Rv w v l) (hl : l.length ≤ 1000000000) :
    Calls Tryd.prog 28 #[.int .i64 F, v] w fun e w' => (∃ v', e = .returned (.tuple #[v', .int .i64 (chkE F l)]) ∧ w'.ownsRow w.heap.size 64 5 v' (rwL F l).length (rowS (rwL F l))) ∧ Below w.heap.size w w' := by
  unfold rwL
  by_cases h : chkE F l = 0
  · obtain ⟨ff, hR⟩ := chk_fam h
    have KR := rrows_any F v l w hv hl h
    have eL : (rrAll F [] (segL F (sortL l))).length = (rrAll F [] (segL F (sortL l))).reverse.length := by rw [List.length_reverse]
    rw [eL, rows_same ff l hR] at KR
    rw [if_pos h, h]
    exact KR
  · rw [if_neg h]
    refine (rrows_err F v l w hv hl h).mono ?_
    rintro e w' ⟨rfl, hb⟩
    exact ⟨⟨_, rfl, World.ownsRow_nil _ _ _ _⟩, hb⟩
theorem rcount_all (F : Int) (v : Value) (l : List (BitVec 128 × Int)) (w : World) (hv : Rv w v l) (hl : l.length ≤ 1000000000) :
    Calls Tryd.prog 29 #[.int .i64 F, v] w fun e w' => e = .returned (.tuple #[costV (ctN F l), .int .i64 (chkE F l)]) ∧ Below w.heap.size w w' := by
  unfold ctN
  by_cases h : chkE F l = 0
  · rw [if_pos h, h]
    exact rcount_any F v l w hv hl h
  · rw [if_neg h, costV_zero]
    exact rcount_err F v l w hv hl h
end Go.Proofs.YtkgfeegcdohkdaaDoor
