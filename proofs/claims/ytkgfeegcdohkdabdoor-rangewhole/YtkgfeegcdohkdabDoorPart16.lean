/-
  Part 16 of the proof: 5 texts, one behind the other.
-/
import Derived.Test.YtkgfeegcdohkdabDoorPart15
import Derived.Test.YtkgfeegcdohkdabDoorPart14
import Derived.Test.YtkgfeegcdohkdabDoorPart4
import Derived.Laws.StructEq
import Derived.Test.YtkgfeegcdohkdabDoorRows
import Derived.ProofKit
import Derived.Lib.SmallJoins
import Derived.Test.YtkgfeegcdohkdabDoorPart13
import Derived.Deep.Slices
import Derived.Carry
/-
  How many addresses a merged list has: no more than there are, and all of them only as one prefix: plain facts.
-/
namespace Go.Proofs.YtkgfeegcdohkdabDoor
open Go.RowKit
set_option linter.unusedSimpArgs false
set_option linter.unusedVariables false

theorem siz_one {p : BitVec 128 × Int} (h : Rp 128 p) : 2 ^ ((128 : Int) - p.2).toNat = 2 ^ (128 - p.2.toNat) := by
  have h1 := h.1
  have h2 := h.2.1
  congr 1
  omega
theorem siz_up : ∀ (s : List (BitVec 128 × Int)) (p : BitVec 128 × Int), (p :: s).Pairwise Bf → (∀ x ∈ p :: s, Rp 128 x) → p.1.toNat + sizN 128 (p :: s) ≤ 2 ^ 128 := by
  intro s
  induction s with
  | nil =>
    intro p _ hr
    have hp := hr p (List.mem_cons_self ..)
    have := rt_room 128 p.1 p.2 hp (by omega)
    simp only [sizN, siz_one hp]
    omega
  | cons q s ih =>
    intro p hb hr
    have hp := hr p (List.mem_cons_self ..)
    have hb' := List.pairwise_cons.mp hb
    have := ih q hb'.2 (fun x hx => hr x (List.mem_cons_of_mem _ hx))
    have h1 : p.1.toNat + 2 ^ (128 - p.2.toNat) ≤ q.1.toNat := hb'.1 q (List.mem_cons_self ..)
    show p.1.toNat + (2 ^ ((128 : Int) - p.2).toNat + sizN 128 (q :: s)) ≤ 2 ^ 128
    rw [siz_one hp]
    omega
theorem last128 {p : BitVec 128 × Int} (h : Rp 128 p) : (lastW 128 p.1 p.2).toNat + 1 = p.1.toNat + 2 ^ (128 - p.2.toNat) := by
  have := last_nat 128 p.1 p.2 h (by omega)
  simpa using this
theorem siz_full : ∀ (s : List (BitVec 128 × Int)) (p : BitVec 128 × Int), (p :: s).Pairwise Bf → (∀ x ∈ p :: s, Rp 128 x) → 2 ^ 128 ≤ p.1.toNat + sizN 128 (p :: s) → ∃ b : BitVec 128, Run 128 (p :: s) p.1 b ∧ b.toNat + 1 = 2 ^ 128 := by
  intro s
  induction s with
  | nil =>
    intro p _ hr hf
    have hp := hr p (List.mem_cons_self ..)
    have := rt_room 128 p.1 p.2 hp (by omega)
    simp only [sizN, siz_one hp] at hf
    exact ⟨_, ⟨rfl, rfl⟩, by rw [last128 hp]; omega⟩
  | cons q s ih =>
    intro p hb hr hf
    have hp := hr p (List.mem_cons_self ..)
    have hb' := List.pairwise_cons.mp hb
    have hr' := fun x hx => hr x (List.mem_cons_of_mem p hx)
    have h1 : p.1.toNat + 2 ^ (128 - p.2.toNat) ≤ q.1.toNat := hb'.1 q (List.mem_cons_self ..)
    have hf' : 2 ^ 128 ≤ p.1.toNat + (2 ^ ((128 : Int) - p.2).toNat + sizN 128 (q :: s)) := hf
    rw [siz_one hp] at hf'
    have up := siz_up s q hb'.2 hr'
    obtain ⟨b, i1, i2⟩ := ih q hb'.2 hr' (by omega)
    have l1 := last128 hp
    have hq := q.1.isLt
    have eq1 : p.1.toNat + 2 ^ (128 - p.2.toNat) = q.1.toNat := by omega
    have rl := right_of 128 _ (by decide) (last_fam 128 p.1 p.2 hp)
    have nb : nextB 128 (lastW 128 p.1 p.2) = true := by
      cases e : nextB 128 (lastW 128 p.1 p.2) with
      | true => rfl
      | false =>
        have := next_none 128 _ rl e
        rw [this] at l1
        have hm : (maskW 128).toNat = 2 ^ 128 - 1 := by decide +kernel
        omega
    have nn := (next_nat 128 _ nb).1
    refine ⟨b, ⟨rfl, nb, ?_, i1⟩, i2⟩
    apply BitVec.eq_of_toNat_eq
    rw [nn]
    have : 2 ^ (128 - (128 : Int).toNat) = 1 := by decide
    rw [this]
    omega
theorem sizN_32 (l : List (BitVec 128 × Int)) (h : ∀ p ∈ l, Rp 32 p) : sizN 32 l ≤ l.length * 2 ^ 32 := by
  induction l with
  | nil => simp [sizN]
  | cons p l ih =>
    have := ih (fun x hx => h x (List.mem_cons_of_mem _ hx))
    have hp := h p (List.mem_cons_self ..)
    have h1 := hp.1
    have : 2 ^ ((32 : Int) - p.2).toNat ≤ 2 ^ 32 := Nat.pow_le_pow_right (by decide) (by omega)
    simp only [sizN, List.length_cons, Nat.add_mul, Nat.one_mul]
    omega
/-- Where one of them is not all there is, they are together fewer than 2 to the 128. -/
theorem siz_lt {F : Int} (hf : fam F = true) (m : List (BitVec 128 × Int)) (hb : m.Pairwise Bf) (hns : NS m) (hr : ∀ p ∈ m, Rp F p) (hl : m.length ≤ 1000) (k : Nat) (hk : k < m.length) (hn : F - m[k].2 < 128) : sizN F (m.take (k + 1)) < 2 ^ 128 := by
  have hF : F = 32 ∨ F = 128 := by simpa [fam] using hf
  rcases hF with rfl | rfl
  · have := sizN_32 (m.take (k + 1)) (fun p hp => hr p (List.mem_of_mem_take hp))
    have h2 : (m.take (k + 1)).length ≤ 1000 := by simp; omega
    have : (m.take (k + 1)).length * 2 ^ 32 ≤ 1000 * 2 ^ 32 := Nat.mul_le_mul_right _ h2
    omega
  · rcases Nat.lt_or_ge (sizN 128 (m.take (k + 1))) (2 ^ 128) with c | c
    · exact c
    · exfalso
      cases m with
      | nil => simp at hk
      | cons p m =>
        rw [List.take_succ_cons] at c
        have hsub : (p :: m.take k).Sublist (p :: m) := List.Sublist.cons_cons p (List.take_sublist k m)
        have hb' := hb.sublist hsub
        have hr' : ∀ x ∈ p :: m.take k, Rp 128 x := fun x hx => hr x (hsub.subset hx)
        have hns' : NS (p :: m.take k) := by
          have e : p :: m = (p :: m.take k) ++ m.drop k := by rw [List.cons_append, List.take_append_drop]
          rw [e] at hns
          exact ns_left _ _ hns
        obtain ⟨b, h1, h2⟩ := siz_full (m.take k) p hb' hr' (by omega)
        have up := siz_up (m.take k) p hb' hr'
        have hp0 : p.1.toNat = 0 := by omega
        have hp := hr' p (List.mem_cons_self ..)
        have pz : p.1 = 0#128 := BitVec.eq_of_toNat_eq (by rw [hp0]; rfl)
        have w := run_wide (F := 128) (by decide) _ 0 (p :: m.take k) p.1 b rfl (by omega) (by omega) h1 hns' hr' (by rw [pz]; decide +kernel) (by have := (lastW 128 p.1 0).isLt; omega) p _ rfl
        have p2 : p.2 = 0 := by have := hp.1; omega
        cases k with
        | zero =>
          simp only [List.getElem_cons_zero] at hn
          omega
        | succ k =>
          cases m with
          | nil => simp at hk
          | cons q m =>
            rw [List.take_succ_cons] at up
            have pos := Nat.two_pow_pos ((128 : Int) - q.2).toNat
            have up' : p.1.toNat + (2 ^ ((128 : Int) - p.2).toNat + (2 ^ ((128 : Int) - q.2).toNat + sizN 128 (m.take k))) ≤ 2 ^ 128 := up
            rw [p2] at up'
            have : ((128 : Int) - 0).toNat = 128 := by decide
            rw [this] at up'
            omega
theorem cost_hi (T : Nat) : cost0 (T + 2 ^ 128) = cost0 T + 1 ∧ cost1 (T + 2 ^ 128) = cost1 T ∧ cost2 (T + 2 ^ 128) = cost2 T := by
  unfold cost0 cost1 cost2
  refine ⟨?_, ?_, ?_⟩ <;> omega
theorem cost_mid (T m : Nat) (h : m < 64) (hT : T + 2 ^ (m + 64) < 2 ^ 128) : cost0 (T + 2 ^ (m + 64)) = cost0 T ∧ cost1 (T + 2 ^ (m + 64)) = cost1 T + ((2 ^ m : Nat) : Int) ∧ cost2 (T + 2 ^ (m + 64)) = cost2 T := by
  have e : 2 ^ (m + 64) = 2 ^ m * 18446744073709551616 := by rw [Nat.pow_add]
  rw [e] at hT ⊢
  generalize 2 ^ m = u at *
  unfold cost0 cost1 cost2
  refine ⟨?_, ?_, ?_⟩ <;> omega
theorem cost_low (T m : Nat) (h : m < 64) (hT : T + 2 ^ m < 2 ^ 128) : cost0 (T + 2 ^ m) = cost0 T ∧ IntKind.u64.wrap (cost2 T + ((2 ^ m : Nat) : Int)) = cost2 (T + 2 ^ m) ∧ (cost2 (T + 2 ^ m) < ((2 ^ m : Nat) : Int) → cost1 (T + 2 ^ m) = cost1 T + 1) ∧ (¬ cost2 (T + 2 ^ m) < ((2 ^ m : Nat) : Int) → cost1 (T + 2 ^ m) = cost1 T) := by
  have := pow_lt64 m h
  rw [IntKind.wrap_u64]
  generalize 2 ^ m = u at *
  unfold cost0 cost1 cost2
  refine ⟨?_, ?_, ?_, ?_⟩ <;> omega
end Go.Proofs.YtkgfeegcdohkdabDoor
/-
  Whole numbers of addresses, compared with themselves.
-/
namespace Go.Proofs.YtkgfeegcdohkdabDoor
open Go.RowKit
set_option linter.unusedSimpArgs false
set_option linter.unusedVariables false

theorem infoU : (Tryd.prog.info? 33).map (fun i => i.size) = some 1 := by kernel_rfl
theorem eqC_run (a b c : Int) (w : World) :
    (Op.equalIn 10000 42 (.agg #[.int .u64 a, .int .u64 b, .int .u64 c]) (.agg #[.int .u64 a, .int .u64 b, .int .u64 c])).run Tryd.prog w = .ok true w := by
  have hU : Tryd.prog.underlying 42 = some (.array 3 33) := by kernel_rfl
  have hE : Tryd.prog.underlying 33 = some (.int .u64) := by kernel_rfl
  obtain ⟨i, hi, hs⟩ : ∃ i, Tryd.prog.info? 33 = some i ∧ i.size = 1 := by
    have := infoU
    cases h : Tryd.prog.info? 33 with
    | none => rw [h] at this; cases this
    | some i => rw [h] at this; simp at this; exact ⟨i, rfl, this⟩
  have hq := fun (x : Int) (w : World) => run_equalIn_int (P := Tryd.prog) w 9998 33 .u64 .u64 x x hE
  simp only [Nat.reduceAdd] at hq
  rw [show (10000 : Nat) = 9999 + 1 from rfl, Op.equalIn]
  simp [run_underlying hU, run_underlying hE, sizeOf, typeInfo, hi, hs, isAgg, List.range'_succ, List.forIn_cons, hq, go_sem]
end Go.Proofs.YtkgfeegcdohkdabDoor
/-
  The law RangeWhole.
-/
namespace Go.Proofs.YtkgfeegcdohkdabDoor
open Go.RowKit
set_option linter.unusedSimpArgs false
set_option linter.unusedVariables false

/-- What the call of Count does with a list of right prefixes. -/
theorem count_o (F : Int) (v : Value) (l : List (BitVec 128 × Int)) (w : World) (hv : Rw w v l) (hl : l.length ≤ 1000000000) (ff : fam F = true) (hR : ∀ x ∈ l, Rp F x) :
    Calls Tryd.prog 12 #[.int .i64 F, v] w fun e w' => e = .returned (.tuple #[costV (sizN F (ptAll [] (sortL l)).reverse), .int .i64 0]) ∧ Below w.heap.size w w' := by
  have hF := fam_le ff
  have hm := ptAll_rp hF (sortL l) [] (fun a ha => by cases ha) (fun a ha => hR a (sortL_mem.mp ha))
  have hle := ptAll_le (sortL l) []
  rw [sortL_len] at hle
  refine count_any F v l _ w hF (by rw [List.length_reverse]; simp at hle; omega) (fun p hp => ?_) (fun w hv => ?_) hv
  · have := hm p (by simpa using hp)
    exact ⟨this.1, this.2.1⟩
  · refine (merge_o F v l w hv hl ff hR).mono ?_
    rintro e w' ⟨⟨v', rfl, h⟩, hb⟩
    exact ⟨⟨v', rfl, own_rw h⟩, hb⟩
theorem flat_take (F : Int) (R : List (BitVec 128 × BitVec 128)) (k : Nat) (hk : k < R.length) : ((R.take (k + 1)).flatMap fun s => covT F s.1 s.2) = ((R.take k).flatMap fun s => covT F s.1 s.2) ++ covT F R[k].1 R[k].2 := by
  rw [List.take_succ_eq_append_getElem hk, List.flatMap_append]
  simp
theorem flat_le (F : Int) (R : List (BitVec 128 × BitVec 128)) (k : Nat) : ((R.take k).flatMap fun s => covT F s.1 s.2).length ≤ (R.flatMap fun s => covT F s.1 s.2).length := by
  conv => rhs; rw [← List.take_append_drop k R, List.flatMap_append, List.length_append]
  omega
theorem stopHereW {P : Program} {w : World} {ops : Array Oper} {rest : List Oper} {a : Act} {Q : Exit → Act → World → Prop} {o : Oper} (h : Hid (wpList P ops Q (o :: rest) a w)) : wpList P ops Q (o :: rest) a w := h.out
set_option maxRecDepth 20000 in
set_option maxHeartbeats 8000000 in
theorem rangeWhole_any (six : Bool) (v : Value) (l : List (BitVec 128 × Int)) (w : World) (hT : Tab w) (hv : Rv w v l) :
    Calls Tryd.prog 3 #[.bool six, v] w fun e w' => e = .returned (.bool true) ∧ Below w.heap.size w w' := by
  obtain ⟨i0, hi, hz0, hz1, hz2⟩ := info_parts Tryd.infoP
  have KF := fun w => family3_any six w
  obtain ⟨f0, f1⟩ := famZ_bd six
  have ff := famZ_fam six
  generalize famZ six = F at *
  have KN := known4_any w hT
  have KS := fun w hv => lsome_any F v l w hv (by omega) f1
  have HV : Hid (Rv w v l) := hv
  clear hv
  go_enter Tryd.func3, Tryd.ntmps3
  go_wp2_with fail
  refine KN.mono ?_
  rintro e w1 ⟨rfl, kB⟩
  clear KN
  go_wp2_with fail
  refine (KF _).mono ?_
  rintro e w2 ⟨rfl, rfl⟩
  clear KF
  go_wp2_with fail
  refine (KS _ (HV.out.below kB)).mono ?_
  rintro e w2 ⟨⟨vm, rfl, hrow⟩, hb⟩
  have kB2 := keepb hb kB
  have hL : (someL F l).length ≤ 200 := by unfold someL; simp; omega
  have HR : Hid (∀ x ∈ someL F l, Rp F x) := by
    intro x hx
    unfold someL at hx
    obtain ⟨y, -, rfl⟩ := List.mem_map.mp hx
    exact some_rt F y.1 y.2 (by omega)
  have hown := own_base hrow kB.size
  clear hb KS hrow kB HV
  generalize someL F l = L at *
  have Im : Hid (In vm w.heap.size w2.heap.size) := own_in hown
  have HM : Hid (w2.ownsRow w.heap.size 40 3 vm L.length (rowP L)) := hown
  obtain ⟨ao, c, rfl⟩ := own_form hown
  clear hown
  have hG : (ptAll [] (sortL L)).reverse.length ≤ 200 := by
    have := ptAll_le (sortL L) []
    rw [sortL_len] at this
    rw [List.length_reverse]
    simp at this
    omega
  have hRl : (psAll F [] (segL F (ptAll [] (sortL L)).reverse)).reverse.length ≤ 200 := by
    have := psAll_le F (segL F (ptAll [] (sortL L)).reverse) []
    rw [List.length_reverse]
    unfold segL at this ⊢
    simp only [List.length_map, List.length_nil] at this
    omega
  have KM := fun w hv => merge_o F (.slice ao L.length c) L w hv (by omega) ff HR.out
  have KR := fun w hv => rows_rp F (.slice ao L.length c) L w hv (by omega) ff HR.out
  have KC := fun w hv => count_o F (.slice ao L.length c) L w hv (by omega) ff HR.out
  have HGr : Hid (∀ p ∈ (ptAll [] (sortL L)).reverse, Rp F p) := fun p hp => ptAll_rp f1 (sortL L) [] (fun a ha => by cases ha) (fun a ha => HR.out a (sortL_mem.mp ha)) p (by simpa using hp)
  have HGo : Hid ((ptAll [] (sortL L)).reverse.Pairwise Bf ∧ NS (ptAll [] (sortL L)).reverse) := ⟨merge_ord f1 L HR.out, merge_ns L⟩
  have HWc := Hid.mk' (whole_covers ff _ HGo.out.2 HGr.out)
  generalize (psAll F [] (segL F (ptAll [] (sortL L)).reverse)).reverse = R at *
  generalize (ptAll [] (sortL L)).reverse = G at *
  go_wp2_with fail
  refine (KM _ (own_rw HM.out)).mono ?_
  rintro e w3 ⟨⟨va, rfl, ha⟩, hb⟩
  have HM : Hid (w3.ownsRow w.heap.size 40 3 (.slice ao L.length c) L.length (rowP L)) := own_below hb HM.out
  have kB3 := keepb hb kB2
  have HA : Hid (w3.ownsRow w.heap.size 40 3 va G.length (rowP G)) := own_base ha kB2.size
  obtain ⟨ao1, c1, rfl⟩ := own_form ha
  clear ha hb kB2 KM
  go_wp2_with fail
  refine (KR _ (own_rw HM.out)).mono ?_
  rintro e w4 ⟨⟨vr, rfl, ha⟩, hb⟩
  have HM : Hid (w4.ownsRow w.heap.size 40 3 (.slice ao L.length c) L.length (rowP L)) := own_below hb HM.out
  have HA : Hid (w4.ownsRow w.heap.size 40 3 (.slice ao1 G.length c1) G.length (rowP G)) := own_below hb HA.out
  have kB4 := keepb hb kB3
  have HD : Hid (w4.ownsRow w.heap.size 37 5 vr R.length (rowS R)) := own_base ha kB3.size
  obtain ⟨ao2, c2, rfl⟩ := own_form ha
  clear ha hb kB3 KR
  have HT4 := Hid.mk' (hT.keep kB4)
  have kB4 := Hid.mk' kB4
  clear Im
  go_wp2_with fail
  go_loopw [10, 11] (fun av i wr => ∃ k : Nat, k ≤ R.length ∧ i = .int .i64 k ∧ Hid (wr.ownsRow w4.heap.size 40 3 av ((R.take k).flatMap fun s => covT F s.1 s.2).length (rowP ((R.take k).flatMap fun s => covT F s.1 s.2))) ∧ Hid (Below w4.heap.size w4 wr)) (fun _ i _ => R.length - (intOf i).toNat)
  case atStart => exact ⟨0, by omega, rfl, World.ownsRow_nil _ _ _ _, Below.refl _ _⟩
  case round =>
    obtain ⟨k, hk, rfl, HO, HB⟩ := hrel
    by_cases hlt : (k : Int) < (R.length : Int)
    · have hks : k < R.length := by omega
      have hd := HD.out
      rcases hd.2 with ⟨e, h⟩ | ⟨g, cap, cur, e, -⟩
      · omega
      · injection e with e1 e2 e3
        subst e1
        clear e2 e3
        obtain ⟨x0, x1, x2, x3, x4⟩ := rows_cells hd rfl k hks
        have KV := fun W (hb : Below w4.heap.size w4 W) => cover_any F R[k].1 R[k].2 W (HT4.out.keep hb)
        rw [HWc.out.2 R[k] (List.getElem_mem hks)] at KV
        have HF := Hid.mk' (flat_take F R k hks)
        have hle2 := flat_le F R (k + 1)
        rw [HF.out, List.length_append, HWc.out.1] at hle2
        have HAl : Hid (∀ W, Below w4.heap.size w4 W → W.cell? ⟨g, k * 5, none⟩ = some (.int .u64 (hI R[k].1)) ∧ W.cell? ⟨g, k * 5 + 1, none⟩ = some (.int .u64 (lI R[k].1)) ∧ W.cell? ⟨g, k * 5 + 2, none⟩ = some (.int .u64 (hI R[k].2)) ∧ W.cell? ⟨g, k * 5 + 3, none⟩ = some (.int .u64 (lI R[k].2)) ∧ W.cell? ⟨g, k * 5 + 4, none⟩ = some (.int .i64 1) ∧ Below w4.heap.size w4 W) := fun W hb => ⟨keepc hb x0, keepc hb x1, keepc hb x2, keepc hb x3, keepc hb x4, hb⟩
        clear hd x0 x1 x2 x3 x4
        revert KV HF HAl hle2
        generalize covT F R[k].1 R[k].2 = CT
        generalize R[k].1 = px
        generalize R[k].2 = py
        intro KV HF hle2 HAl
        generalize ((R.take k).flatMap fun s => covT F s.1 s.2) = T0 at *
        have mk : IntKind.i64.wrap ((k : Int) + 1) = (k : Int) + 1 := by rw [IntKind.wrap_i64]; omega
        obtain ⟨y0, y1, y2, y3, y4, hbl⟩ := HAl.out wr HB.out
        go_wp2_with fail
        have hbl := hbl.drew
        go_region_held3 (fun W => W.cell? ⟨g, k * 5, none⟩ = some (.int .u64 (hI px)) ∧ W.cell? ⟨g, k * 5 + 1, none⟩ = some (.int .u64 (lI px)) ∧ W.cell? ⟨g, k * 5 + 2, none⟩ = some (.int .u64 (hI py)) ∧ W.cell? ⟨g, k * 5 + 3, none⟩ = some (.int .u64 (lI py)) ∧ W.cell? ⟨g, k * 5 + 4, none⟩ = some (.int .i64 1) ∧ Below w4.heap.size w4 W)
          (first
            | exact HAl.out _ hbl
            | (obtain ⟨-, -, -, -, -, k9⟩ := ‹_ ∧ _ ∧ _ ∧ _ ∧ _ ∧ Below _ _ _›; exact HAl.out _ k9)
            | (obtain ⟨-, -, -, -, -, k9⟩ := ‹_ ∧ _ ∧ _ ∧ _ ∧ _ ∧ Below _ _ _›; exact HAl.out _ (keepb hb0 k9)))
          (first | (go_at_call 10; refine (KV _ (‹_ ∧ _ ∧ _ ∧ _ ∧ _ ∧ Below w4.heap.size w4 _›).2.2.2.2.2).mono ?_; rintro e w0 ⟨⟨cv, rfl, hrow⟩, hb0⟩))
        obtain ⟨-, -, -, -, t4, k9⟩ := ‹_ ∧ _ ∧ _ ∧ _ ∧ _ ∧ Below w4.heap.size w4 w0›
        have HO0 : Hid (w0.ownsRow w4.heap.size 40 3 u10 T0.length (rowP T0)) := own_below hb0 HO.out.drew
        have HV0 : Hid (Row w0 3 cv CT.length (rowP CT)) := own_row hrow
        have k9 := Hid.mk' k9
        clear hrow hb0 hbl y0 y1 y2 y3 y4 KV HAl HO HB
        go_wp2_with (at_builtin; apply stopHereW)
        refine (show wpList _ _ _ _ _ _ from ?_)
        refine wpList_append_row rfl _ _ 22 rfl w4.heap.size 40 i0 (.agg #[.int .u64 0, .int .u64 0, .int .i64 0]) 3 24 Tryd.underlying22 hi hz0 hz1 hz2 rfl (by decide) u10 T0.length (rowP T0) rfl HO0.out cv CT.length (rowP CT) rfl HV0.out (rowP_cell _) (by unfold maxLen; omega) (by omega) k9.out.size ?_
        intro ao5 c5 w5 hr5 hgrow
        have HO5 : Hid (w5.ownsRow w4.heap.size 40 3 (.slice ao5 (T0.length + CT.length) c5) ((R.take (k + 1)).flatMap fun s => covT F s.1 s.2).length (rowP ((R.take (k + 1)).flatMap fun s => covT F s.1 s.2))) := by
          show World.ownsRow _ _ _ _ _ _ _
          rw [HF.out, List.length_append, rowP_app]
          exact hr5
        have HB5 : Hid (Below w4.heap.size w4 w5) := k9.out.grown hgrow k9.out.size (fun z hz => (HO0.out.lt z hz).1)
        clear hr5 hgrow HO0 HV0 k9 t4
        go_wp2
        go_roundw
        case rel => exact ⟨k + 1, by omega, by go_num, HO5, HB5⟩
        case measure => simp [intOf]; omega
    · have hd1 : ¬ k < R.length := by omega
      have HE : Hid (((R.take k).flatMap fun s => covT F s.1 s.2) = G) := by
        show _ = _
        rw [List.take_of_length_le (by omega), HWc.out.1]
      rw [HE.out] at HO
      have HA : Hid (wr.ownsRow w.heap.size 40 3 (.slice ao1 G.length c1) G.length (rowP G)) := own_below HB.out HA.out
      have HM : Hid (wr.ownsRow w.heap.size 40 3 (.slice ao L.length c) L.length (rowP L)) := own_below HB.out HM.out
      have kBr : Hid (Below w.heap.size w wr) := kB4.out.trans (HB.out.mono kB4.out.size)
      have KE := same_any u10 (.slice ao1 G.length c1) G wr ⟨_, HO.out⟩ ⟨_, HA.out⟩ (by omega)
      clear HO HE HB HD HT4 kB4
      go_wp2_with fail
      refine KE.mono ?_
      rintro e w6 ⟨rfl, hb⟩
      have HA : Hid (w6.ownsRow w.heap.size 40 3 (.slice ao1 G.length c1) G.length (rowP G)) := own_below hb HA.out
      have HM : Hid (w6.ownsRow w.heap.size 40 3 (.slice ao L.length c) L.length (rowP L)) := own_below hb HM.out
      have kB6 := Hid.mk' (keepb hb kBr.out)
      clear hb KE kBr
      go_wp2_with fail
      go_loopw [14, 15, 16, 17] (fun xh xm xl i wr => ∃ k : Nat, k ≤ G.length ∧ i = .int .i64 k ∧ xh = .int .u64 (cost0 (sizN F (G.take k))) ∧ xm = .int .u64 (cost1 (sizN F (G.take k))) ∧ xl = .int .u64 (cost2 (sizN F (G.take k))) ∧ wr = w6) (fun _ _ _ i _ => G.length - (intOf i).toNat)
      case atStart => exact ⟨0, by omega, rfl, by simp [sizN, cost0], by simp [sizN, cost1], by simp [sizN, cost2], rfl⟩
      case round =>
        obtain ⟨k2, hk2, rfl, rfl, rfl, rfl, rfl⟩ := hrel
        by_cases hlt : (k2 : Int) < (G.length : Int)
        · have hks : k2 < G.length := by omega
          have hd := HA.out
          rcases hd.2 with ⟨e, h⟩ | ⟨g, cap, cur, e, -⟩
          · omega
          · injection e with e1 e2 e3
            subst e1
            clear e2 e3
            obtain ⟨-, -, x2⟩ := row_cells hd rfl k2 hks
            have hrp := HGr.out G[k2] (List.getElem_mem hks)
            have h0 : 0 ≤ G[k2].2 := hrp.1
            have h1 : G[k2].2 ≤ F := hrp.2.1
            have hst := siz_take F G k2 hks
            have hlt2 := siz_lt ff G HGo.out.1 HGo.out.2 HGr.out (by omega) k2 hks
            have mk : IntKind.i64.wrap ((k2 : Int) + 1) = (k2 : Int) + 1 := by rw [IntKind.wrap_i64]; omega
            have hup : sizN F (G.take (k2 + 1)) < 6277101735386680763835789423207666416102355444464034512896 := by
              have := sizN_le F f1 (G.take (k2 + 1)) (fun p hp => (HGr.out p (List.mem_of_mem_take hp)).1)
              have : (G.take (k2 + 1)).length ≤ 1000 := by simp; omega
              omega
            clear hd hrp
            generalize G[k2].2 = pn at *
            obtain ⟨m, hm⟩ : ∃ j : Nat, F - pn = (j : Int) := ⟨(F - pn).toNat, by omega⟩
            have mw : IntKind.i64.wrap (F - pn) = (m : Int) := by rw [IntKind.wrap_i64]; omega
            rw [hm, Int.toNat_natCast] at hst
            rw [hm] at hlt2
            rw [hst] at hlt2 hup
            have HT := Hid.mk' hst
            clear hst
            generalize sizN F (G.take k2) = T0 at *
            have lo := cost_lo T0
            by_cases cA : 128 ≤ m
            · obtain rfl : m = 128 := by omega
              have cb := cost_hi T0
              have u0 := cost_up (T0 + 2 ^ 128) hup
              rw [← HT.out] at cb u0
              have HC := Hid.mk' cb
              have w1 : IntKind.u64.wrap (cost0 T0 + 1) = cost0 T0 + 1 := by rw [IntKind.wrap_u64]; omega
              clear cb u0 lo hlt2 hup hm
              generalize cost0 T0 = a0 at *
              generalize cost1 T0 = a1 at *
              generalize cost2 T0 = a2 at *
              go_wp2
              go_roundw
              case rel => exact ⟨k2 + 1, by omega, by go_num, by rw [HC.out.1], by rw [HC.out.2.1], by rw [HC.out.2.2], trivial⟩
              case measure => simp [intOf]; omega
            · have hl2 := hlt2 (by omega)
              by_cases cB : 64 ≤ m
              · obtain ⟨j, rfl⟩ : ∃ j, m = j + 64 := ⟨m - 64, by omega⟩
                have cb := cost_mid T0 j (by omega) hl2
                have hi1 := cost_lo (T0 + 2 ^ (j + 64))
                rw [← HT.out] at cb hi1
                have HC := Hid.mk' cb
                have wj : IntKind.i64.wrap (((j + 64 : Nat) : Int) - 64) = (j : Int) := by rw [IntKind.wrap_i64]; omega
                have wp := wrap_pow j (by omega)
                have hmin : min j 64 = j := Nat.min_eq_left (by omega)
                have w1 : IntKind.u64.wrap (cost1 T0 + ((2 ^ j : Nat) : Int)) = cost1 T0 + ((2 ^ j : Nat) : Int) := by
                  rw [← cb.2.1, IntKind.wrap_u64]
                  omega
                have cA' : ¬ (128 : Int) ≤ ((j + 64 : Nat) : Int) := by omega
                have cB' : (64 : Int) ≤ ((j + 64 : Nat) : Int) := by omega
                clear cb lo hlt2 hup hi1 hl2 hm cA cB
                generalize ((j + 64 : Nat) : Int) = mm at *
                generalize cost0 T0 = a0 at *
                generalize cost1 T0 = a1 at *
                generalize cost2 T0 = a2 at *
                generalize ((2 ^ j : Nat) : Int) = pj at *
                go_wp2
                go_roundw
                case rel => exact ⟨k2 + 1, by omega, by go_num, by rw [HC.out.1], by rw [HC.out.2.1], by rw [HC.out.2.2], trivial⟩
                case measure => simp [intOf]; omega
              · have cb := cost_low T0 m (by omega) hl2
                have hi1 := cost_lo (T0 + 2 ^ m)
                rw [← HT.out] at cb hi1
                have wp := wrap_pow m (by omega)
                have HC := Hid.mk' cb
                have w1 := cb.2.1
                have cA' : ¬ (128 : Int) ≤ (m : Int) := by omega
                have cB' : ¬ (64 : Int) ≤ (m : Int) := by omega
                clear lo hlt2 hup hl2 hm
                by_cases cC : cost2 (sizN F (G.take (k2 + 1))) < ((2 ^ m : Nat) : Int)
                · have c1' := cb.2.2.1 cC
                  have w2 : IntKind.u64.wrap (cost1 T0 + 1) = cost1 T0 + 1 := by
                    rw [← c1', IntKind.wrap_u64]
                    omega
                  have H1 := Hid.mk' c1'
                  clear cb hi1 c1'
                  obtain ⟨b2, hb2⟩ : ∃ z, z = cost2 (sizN F (G.take (k2 + 1))) := ⟨_, rfl⟩
                  have HB2 := Hid.mk' hb2
                  rw [← hb2] at w1 cC
                  clear hb2
                  generalize cost0 T0 = a0 at *
                  generalize cost1 T0 = a1 at *
                  generalize cost2 T0 = a2 at *
                  generalize ((2 ^ m : Nat) : Int) = pj at *
                  go_wp2
                  go_roundw
                  case rel => exact ⟨k2 + 1, by omega, by go_num, by rw [HC.out.1], by rw [H1.out], by rw [HB2.out], trivial⟩
                  case measure => simp [intOf]; omega
                · have H1 := Hid.mk' (cb.2.2.2 cC)
                  clear cb hi1
                  obtain ⟨b2, hb2⟩ : ∃ z, z = cost2 (sizN F (G.take (k2 + 1))) := ⟨_, rfl⟩
                  have HB2 := Hid.mk' hb2
                  rw [← hb2] at w1 cC
                  clear hb2
                  generalize cost0 T0 = a0 at *
                  generalize cost1 T0 = a1 at *
                  generalize cost2 T0 = a2 at *
                  generalize ((2 ^ m : Nat) : Int) = pj at *
                  go_wp2
                  go_roundw
                  case rel => exact ⟨k2 + 1, by omega, by go_num, by rw [HC.out.1], by rw [H1.out], by rw [HB2.out], trivial⟩
                  case measure => simp [intOf]; omega
        · have hd2 : ¬ k2 < G.length := by omega
          have HE : Hid (G.take k2 = G) := List.take_of_length_le (by omega)
          rw [HE.out]
          have KT := KC _ (own_rw HM.out)
          unfold costV at KT
          generalize cost0 (sizN F G) = a0 at *
          generalize cost1 (sizN F G) = a1 at *
          generalize cost2 (sizN F G) = a2 at *
          clear KC HM HA
          go_wp2_with fail
          refine KT.mono ?_
          rintro e w7 ⟨rfl, hb⟩
          have kB7 := keepb hb kB6.out
          obtain ⟨q0, q1, q2, -, -, -⟩ := atc_new w7 w7.heap.size a0 a1 a2 42 rfl
          have kB8 := keepb (bl1 w7 (.cells #[.int .u64 a0, .int .u64 a1, .int .u64 a2] 42)) kB7
          have he := fun w => eqC_run a0 a1 a2 w
          clear hb KT kB6 kB7
          go_wp2
          go_ret
          exact ⟨rfl, kB8⟩
end Go.Proofs.YtkgfeegcdohkdabDoor
/-
  How a prefix that is handed in reads as data.
-/
namespace Go.Proofs.YtkgfeegcdohkdabDoor
open Go.ChangeShapes Go.WideShapes Go.ChangeAt Go.RowKit Go.Joins
set_option linter.unusedSimpArgs false
set_option linter.unusedVariables false

theorem Tryd.cellsW : Tryd.prog.cellsOf 35 = 2 := by kernel_rfl
theorem Tryd.cellsP : Tryd.prog.cellsOf 40 = 3 := by kernel_rfl
theorem Tryd.cellsI : Tryd.prog.cellsOf 3 = 1 := by kernel_rfl
theorem Tryd.cellsU : Tryd.prog.cellsOf 33 = 1 := by kernel_rfl
section
variable {H : Type} {enc : TypeId × Value → H} {w : World} {base : Nat} {spare : Nat → Bool} {held : Bool}
set_option maxRecDepth 100000 in
theorem open_pfx {r : Reach} {b0 : Nat} {v : Value} {d : DataW H} {p : List MemPlace} (hv : Value.okWide Tryd.prog w r b0 40 v) (h : DataW.Trod enc Tryd.prog w base spare held 40 v d p) :
    ∃ a b n : Int, v = .agg #[.int .u64 a, .int .u64 b, .int .i64 n] ∧ d = .agg [.agg [.lit (.int .u64 a), .lit (.int .u64 b)], .lit (.int .i64 n)] ∧ p = [] ∧ (Lit.int .u64 a).wf = true ∧ (Lit.int .u64 b).wf = true ∧ (Lit.int .i64 n).wf = true := by
  obtain ⟨cs, rfl, hsz⟩ := okWide_struct Tryd.underlying40 hv
  obtain ⟨c0, c1, c2, rfl⟩ := array3 (hsz.trans Tryd.cellsP)
  obtain ⟨fuel, hf⟩ := h
  obtain ⟨y0, y1, n, hx, _, h0, h1⟩ := trod_struct2 Tryd.underlying40 hf
  have h0' : DataW.trod enc Tryd.prog w base spare held n 35 [c0, c1] = some y0 := by simpa [Value.cells, Tryd.cellsW] using h0
  have h1' : DataW.trod enc Tryd.prog w base spare held n 3 [c2] = some y1 := by simpa [Value.cells, Tryd.cellsI] using h1
  obtain ⟨u0, u1, m, hu, _, g0, g1⟩ := trod_struct2 Tryd.underlying35 h0'
  have g0' : DataW.trod enc Tryd.prog w base spare held m 33 [c0] = some u0 := by simpa [Value.cells, Tryd.cellsU] using g0
  have g1' : DataW.trod enc Tryd.prog w base spare held m 33 [c1] = some u1 := by simpa [Value.cells, Tryd.cellsU] using g1
  obtain ⟨a, ea, rfl, wa⟩ := DataW.trod_int Tryd.underlying33 g0'
  obtain ⟨b, eb, rfl, wb⟩ := DataW.trod_int Tryd.underlying33 g1'
  obtain ⟨k, ek, rfl, wk⟩ := DataW.trod_int Tryd.underlying3 h1'
  simp at ea eb ek
  subst ea eb ek hu
  simp only [Prod.mk.injEq] at hx
  exact ⟨a, b, k, rfl, hx.1, by simpa using hx.2, wa, wb, wk⟩
set_option maxRecDepth 100000 in
theorem shut_pfx {a b n : Int} (wa : (Lit.int .u64 a).wf = true) (wb : (Lit.int .u64 b).wf = true) (wn : (Lit.int .i64 n).wf = true) :
    DataW.Trod enc Tryd.prog w base spare held 40 (.agg #[.int .u64 a, .int .u64 b, .int .i64 n]) (.agg [.agg [.lit (.int .u64 a), .lit (.int .u64 b)], .lit (.int .i64 n)]) [] := by
  have f : ∀ {z : Int}, (Lit.int .u64 z).wf = true → DataW.trod enc Tryd.prog w base spare held 1 33 [.int .u64 z] = some (.lit (.int .u64 z), []) := fun hz => by simp [DataW.trod, Tryd.underlying33, hz]
  have g : DataW.trod enc Tryd.prog w base spare held 2 3 [.int .i64 n] = some (.lit (.int .i64 n), []) := by simp [DataW.trod, Tryd.underlying3, wn]
  have s : DataW.trod enc Tryd.prog w base spare held 2 35 [.int .u64 a, .int .u64 b] = some (.agg [.lit (.int .u64 a), .lit (.int .u64 b)], []) := by
    have := trod_struct2_mk (enc := enc) (w := w) (base := base) (spare := spare) (held := held) (n := 1) (cs := [.int .u64 a, .int .u64 b]) Tryd.underlying35 (by simp [Tryd.cellsW]) (by simpa [Tryd.cellsU] using f wa) (by simpa [Tryd.cellsU] using f wb)
    simpa using this
  have := trod_struct2_mk (enc := enc) (w := w) (base := base) (spare := spare) (held := held) (n := 2) (cs := [.int .u64 a, .int .u64 b, .int .i64 n]) Tryd.underlying40 (by simp [Tryd.cellsP]) (by simpa [Tryd.cellsW] using s) (by simpa [Tryd.cellsI] using g)
  exact ⟨3, by simpa [Value.cells] using this⟩
end
end Go.Proofs.YtkgfeegcdohkdabDoor
/-
  How a list of prefixes that is handed in reads as data.
-/
namespace Go.Proofs.YtkgfeegcdohkdabDoor
open Go.ChangeShapes Go.WideShapes Go.ChangeAt Go.RowKit Go.Joins
set_option linter.unusedSimpArgs false
set_option linter.unusedVariables false

theorem Tryd.laidOut : laidOutB Tryd.prog = true := by kernel_rfl
theorem rowP_all {W : World} {b off : Nat} (l : List (BitVec 128 × Int)) (h : ∀ i (hi : i < l.length), W.cell? ⟨b, off + i * 3, none⟩ = some (.int .u64 (hI l[i].1)) ∧ W.cell? ⟨b, off + (i * 3 + 1), none⟩ = some (.int .u64 (lI l[i].1)) ∧ W.cell? ⟨b, off + (i * 3 + 2), none⟩ = some (.int .i64 l[i].2)) :
    ∀ j u, (rowP l)[j]? = some u → W.cell? ⟨b, off + j, none⟩ = some u := by
  intro j u hj
  have hlt : j < (rowP l).length := (List.getElem?_eq_some_iff.1 hj).1
  rw [rowP_len] at hlt
  have hi : j / 3 < l.length := by omega
  obtain ⟨a0, a1, a2⟩ := h (j / 3) hi
  obtain ⟨b0, b1, b2⟩ := rowP_get l (j / 3) hi
  have hm : j % 3 = 0 ∨ j % 3 = 1 ∨ j % 3 = 2 := by omega
  rcases hm with hm | hm | hm
  · have e : j = j / 3 * 3 := by omega
    rw [e, b0] at hj
    rw [e, ← hj]; exact a0
  · have e : j = j / 3 * 3 + 1 := by omega
    rw [e, b1] at hj
    rw [e, ← hj]; exact a1
  · have e : j = j / 3 * 3 + 2 := by omega
    rw [e, b2] at hj
    rw [e, ← hj]; exact a2
section
variable {H : Type} {enc : TypeId × Value → H} {w : World} {spare : Nat → Bool} {held : Bool}
set_option maxRecDepth 100000 in
theorem trod_pfx {n : Nat} {c0 c1 c2 : Value} {x : DataW H × List MemPlace} (h : DataW.trod enc Tryd.prog w 0 spare held n 40 [c0, c1, c2] = some x) :
    ∃ a b n : Int, c0 = .int .u64 a ∧ c1 = .int .u64 b ∧ c2 = .int .i64 n ∧ (Lit.int .u64 a).wf = true ∧ (Lit.int .u64 b).wf = true := by
  obtain ⟨y0, y1, n, hx, _, h0, h1⟩ := trod_struct2 Tryd.underlying40 h
  have h0' : DataW.trod enc Tryd.prog w 0 spare held n 35 [c0, c1] = some y0 := by simpa [Value.cells, Tryd.cellsW] using h0
  have h1' : DataW.trod enc Tryd.prog w 0 spare held n 3 [c2] = some y1 := by simpa [Value.cells, Tryd.cellsI] using h1
  obtain ⟨u0, u1, m, hu, _, g0, g1⟩ := trod_struct2 Tryd.underlying35 h0'
  have g0' : DataW.trod enc Tryd.prog w 0 spare held m 33 [c0] = some u0 := by simpa [Value.cells, Tryd.cellsU] using g0
  have g1' : DataW.trod enc Tryd.prog w 0 spare held m 33 [c1] = some u1 := by simpa [Value.cells, Tryd.cellsU] using g1
  obtain ⟨a, ea, rfl, wa⟩ := DataW.trod_int Tryd.underlying33 g0'
  obtain ⟨b, eb, rfl, wb⟩ := DataW.trod_int Tryd.underlying33 g1'
  obtain ⟨k, ek, rfl, wk⟩ := DataW.trod_int Tryd.underlying3 h1'
  simp at ea eb ek
  exact ⟨a, b, k, ea, eb, ek, wa, wb⟩
theorem spot_none {W : World} {a : Addr} {u : Value} (h : W.cell? a = some u) : a = ⟨a.block, a.off, none⟩ := by
  obtain ⟨b, o, s⟩ := a
  cases s with
  | none => rfl
  | some z =>
    unfold World.cell? at h
    split at h
    · simp at h
    · cases h
set_option maxRecDepth 100000 in
theorem open_pfxs {r : Reach} {b0 : Nat} {v : Value} {d : DataW H} {p : List MemPlace} (hv : Value.okWide Tryd.prog w r b0 22 v) (h : DataW.Trod enc Tryd.prog w 0 (fun _ => true) held 22 v d p) :
    ∃ l : List (BitVec 128 × Int), Rv w v l := by
  obtain ⟨a0, len, cap, rfl⟩ := okWide_slice Tryd.underlying22 hv
  obtain ⟨fuel, hf⟩ := h
  rcases Deep.open_slice Tryd.underlying22 hf with ⟨hcs, hx⟩ | ⟨a, len', cap', m, n, D, Pl, hcs, _, hl, hm, hmm, hx, hel⟩
  · simp [Value.cells] at hcs
    obtain ⟨rfl, rfl, rfl⟩ := hcs
    exact ⟨[], none, 0, rfl, .inl rfl⟩
  · simp [Value.cells] at hcs
    obtain ⟨rfl, rfl, rfl⟩ := hcs
    simp at hmm
    subst hmm
    rw [Tryd.cellsP] at hel
    obtain ⟨f, hf⟩ := Deep.choose_lt (α := BitVec 128 × Int) (n := len) (p := fun i x => w.cell? (a.add (i * 3)) = some (.int .u64 (hI x.1)) ∧ w.cell? ((a.add (i * 3)).add 1) = some (.int .u64 (lI x.1)) ∧ w.cell? ((a.add (i * 3)).add 2) = some (.int .i64 x.2)) (fun i hi => by
      obtain ⟨cs', h1, h2⟩ := hel i (by omega)
      obtain ⟨_, hlen, hc⟩ := World.cells?_some h1
      match cs', hlen with
      | [c0, c1, c2], _ =>
        obtain ⟨x, y, k, rfl, rfl, rfl, wx, wy⟩ := trod_pfx h2
        have bx : 0 ≤ x ∧ x < 18446744073709551616 := by simp [Lit.wf, IntKind.min, IntKind.max, IntKind.signed, IntKind.bits] at wx; omega
        have bY : 0 ≤ y ∧ y < 18446744073709551616 := by simp [Lit.wf, IntKind.min, IntKind.max, IntKind.signed, IntKind.bits] at wy; omega
        refine ⟨(mkW x y, k), ?_, ?_, ?_⟩
        · have := hc 0 (by omega)
          rw [hI_mk x y bx.1 bx.2]
          simpa [Addr.add] using this
        · rw [lI_mk x y bY.1 bY.2]
          simpa using hc 1 (by omega)
        · simpa using hc 2 (by omega))
    refine ⟨(List.range len).map f, some a, _, by simp; rfl, ?_⟩
    by_cases hz : len = 0
    · subst hz
      exact .inl (by simp)
    · have h00 := (hf 0 (by omega)).1
      have ea : a = ⟨a.block, a.off, none⟩ := by
        have : a.add (0 * 3) = a := by simp [Addr.add]
        rw [this] at h00
        exact spot_none h00
      refine .inr ⟨a.block, a.off, by rw [← ea], ?_⟩
      refine rowP_all _ ?_
      intro i hi
      have hi' : i < len := by simpa using hi
      have := hf i hi'
      rw [ea] at this
      simp only [addA] at this
      simpa [Nat.add_assoc] using this
end
end Go.Proofs.YtkgfeegcdohkdabDoor
