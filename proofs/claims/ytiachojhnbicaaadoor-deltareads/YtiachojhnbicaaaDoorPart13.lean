/-
  Part 13 of the proof: 5 texts, one behind the other.
-/
import Derived.Test.YtiachojhnbicaaaDoorPart4
import Derived.Test.YtiachojhnbicaaaDoorPart2
import Derived.Lib.SmallJoins
import Derived.Test.YtiachojhnbicaaaDoorPart12
import Derived.Test.YtiachojhnbicaaaDoorPart1
import Derived.Deep.Slices
import Derived.Carry
import Derived.SizedLaws
import Derived.ProofKit
import Derived.Deep.Strs
namespace Go.Proofs.YtiachojhnbicaaaDoor
open Go.RowKit
set_option linter.unusedSimpArgs false
set_option linter.unusedVariables false

theorem kn21_ne : ¬ ([97, 98, 99, 100, 101] : List Nat) = [97, 98, 88, 101] := by decide
theorem kn21_P : dfP [97, 98, 99, 100, 101] [97, 98, 88, 101] = ⟨2, 2, [88]⟩ := by rfl
set_option maxRecDepth 100000 in
set_option maxHeartbeats 8000000 in
theorem known21 (w : World) :
    Calls Tryd.prog 7 #[] w fun e w' => e = .returned (.bool true) ∧ Below w.heap.size w w' := by
  have kc1 := Go.Joins.run_convert_bytes_const_at (P := Tryd.prog) w 22 5 #[.int .u8 97, .int .u8 98, .int .u8 99, .int .u8 100, .int .u8 101] 5 5 w.heap.size rfl Tryd.underlying22 Tryd.underlying5
  have q1 := bl1 w (.cells #[.int .u8 97, .int .u8 98, .int .u8 99, .int .u8 100, .int .u8 101] 5 (5, 6))
  have o1 := lit_rwx (f := cB) w #[.int .u8 97, .int .u8 98, .int .u8 99, .int .u8 100, .int .u8 101] 5 (5, 6) [97, 98, 99, 100, 101] rfl
  obtain ⟨w1, hw1⟩ : ∃ w1, w1 = w.alloc (.cells #[.int .u8 97, .int .u8 98, .int .u8 99, .int .u8 100, .int .u8 101] 5 (5, 6)) := ⟨_, rfl⟩
  have kc2 := Go.Joins.run_convert_bytes_const_at (P := Tryd.prog) w1 22 5 #[.int .u8 97, .int .u8 98, .int .u8 88, .int .u8 101] 4 4 (w.heap.size + 1) (by rw [hw1]; simp) Tryd.underlying22 Tryd.underlying5
  rw [hw1] at kc2
  rw [← hw1] at q1 o1
  have q2 := bl1 w1 (.cells #[.int .u8 97, .int .u8 98, .int .u8 88, .int .u8 101] 5 (4, 5))
  have o2 := lit_rwx (f := cB) w1 #[.int .u8 97, .int .u8 98, .int .u8 88, .int .u8 101] 5 (4, 5) [97, 98, 88, 101] rfl
  obtain ⟨w2, hw2⟩ : ∃ w2, w2 = w1.alloc (.cells #[.int .u8 97, .int .u8 98, .int .u8 88, .int .u8 101] 5 (4, 5)) := ⟨_, rfl⟩
  rw [← hw2] at q2 o2
  have o1' := o1.below q2
  have K1 := diff21 _ _ [97, 98, 99, 100, 101] [97, 98, 88, 101] w2 o1' o2 (o1'.row (fun h => by cases h)) (o2.row (fun h => by cases h)) (by decide) (by decide) (by decide) (by decide)
  have HQ : Hid (Below w.heap.size w w2) := keepb q2 q1
  have HW : Hid (w2 = (w.alloc (.cells #[.int .u8 97, .int .u8 98, .int .u8 99, .int .u8 100, .int .u8 101] 5 (5, 6))).alloc (.cells #[.int .u8 97, .int .u8 98, .int .u8 88, .int .u8 101] 5 (4, 5))) := by rw [hw2, hw1]; rfl
  have hsz : w1.heap.size = w.heap.size + 1 := by rw [hw1]; simp
  rw [hsz] at K1
  clear q1 q2 o1 o2 o1' hw1 hw2 hsz
  go_enter Tryd.func7, Tryd.ntmps7
  go_wp2_with fail
  rw [← HW.out]
  refine K1.mono ?_
  rintro e w3 ⟨v3, rfl, hd, hb3⟩
  have HB3 : Hid (Below w.heap.size w w3) := keepb hb3 HQ.out
  unfold DfO at hd
  rw [if_neg kn21_ne, kn21_P] at hd
  obtain ⟨z, vx, rfl, h1, h2, -⟩ := hd
  have c0 : w3.cell? ⟨z, 0, none⟩ = some (.int .i64 2) := (h1.cellAt 0 (by decide)).trans rfl
  have c1 : w3.cell? ⟨z, 1, none⟩ = some (.int .i64 2) := (h1.cellAt 1 (by decide)).trans rfl
  have c2 : w3.cell? ⟨z, 2, none⟩ = some vx := (h1.cellAt 2 (by decide)).trans rfl
  have cv := conv13 (own_rwx h2) (by decide)
  obtain ⟨xo, xc, hvx⟩ := own_form h2
  subst hvx
  dsimp only at cv c2
  rw [show ([88] : List Nat).length = 1 from rfl] at cv c2
  have hbq : ((bsA [88]).toList == [88]) = true := by rw [bsA_list]; decide
  generalize bsA [88] = st at *
  clear h1 h2 hb3 HQ K1 HW kc1 kc2
  go_wp2
  go_ret
  exact ⟨by first | rfl | decide, HB3.out⟩
end Go.Proofs.YtiachojhnbicaaaDoor
namespace Go.Proofs.YtiachojhnbicaaaDoor
open Go.RowKit Go.Shelf
set_option linter.unusedSimpArgs false
set_option linter.unusedVariables false
attribute [local go_sem] Oper.semAt_some

theorem pcP_lt21 {l r : List Nat} {p : Pt} (h : pcP l = some (p, r)) (hx : ∀ z ∈ l, z < 256) : (∀ z ∈ p.x, z < 256) ∧ ∀ z ∈ r, z < 256 := by
  unfold pcP at h
  split at h
  · cases h
  · split at h
    · cases h
    · injection h with h
      injection h with h1 h2
      refine ⟨fun z hz => ?_, fun z hz => ?_⟩
      · rw [← h1] at hz
        exact hx z (List.mem_of_mem_drop (List.mem_of_mem_take hz))
      · rw [← h2] at hz
        exact hx z (List.mem_of_mem_drop (List.mem_of_mem_drop hz))
theorem lsP_lt21 : ∀ (n : Nat) (l : List Nat) (L : List Pt) (r : List Nat), lsP n l = some (L, r) → (∀ z ∈ l, z < 256) → ∀ p ∈ L, ∀ z ∈ p.x, z < 256
  | 0, l, L, r, h, _ => by
    simp only [lsP, Option.some.injEq, Prod.mk.injEq] at h
    obtain ⟨rfl, rfl⟩ := h
    intro p hp; cases hp
  | n + 1, l, L, r, h, hx => by
    unfold lsP at h
    cases hp : pcP l with
    | none => rw [hp] at h; cases h
    | some q =>
      obtain ⟨p, r1⟩ := q
      rw [hp] at h
      simp only at h
      cases hq : lsP n r1 with
      | none => rw [hq] at h; cases h
      | some q2 =>
        obtain ⟨L2, r2⟩ := q2
        rw [hq] at h
        simp only [Option.some.injEq, Prod.mk.injEq] at h
        obtain ⟨rfl, rfl⟩ := h
        have h1 := pcP_lt21 hp hx
        have h2 := lsP_lt21 n r1 L2 r2 hq h1.2
        intro t ht
        rcases List.mem_cons.1 ht with rfl | ht
        · exact h1.1
        · exact h2 t ht
theorem psR_ok21 (a b : List Nat) (hx : ∀ z ∈ b, z < 256) : (∀ p ∈ (psR a b).2, ∀ z ∈ p.x, z < 256) ∧ (psR a b).2.length ≤ b.length := by
  unfold psR
  split
  · exact ⟨fun p hp => (by cases hp), by simp⟩
  split
  · exact ⟨fun p hp => (by cases hp), by simp⟩
  split
  · exact ⟨fun p hp => (by cases hp), by simp⟩
  split
  · exact ⟨fun p hp => (by cases hp), by simp⟩
  split
  · exact ⟨fun p hp => (by cases hp), by simp⟩
  · rename_i L r hls
    split
    · exact ⟨fun p hp => (by cases hp), by simp⟩
    split
    · refine ⟨lsP_lt21 _ _ _ _ hls (fun z hz => hx z (List.mem_of_mem_drop (List.mem_of_mem_take (List.mem_of_mem_drop (List.mem_of_mem_drop hz))))), ?_⟩
      have := lsP_len21 _ _ _ _ hls
      rw [List.length_drop, List.length_drop, List.length_take, List.length_drop] at this
      show L.length ≤ _
      omega
    · exact ⟨fun p hp => (by cases hp), by simp⟩
set_option maxRecDepth 100000 in
set_option maxHeartbeats 32000000 in
theorem deltaReads_any (v : Value) (a : List Nat) (u : Value) (b : List Nat) (w : World) (hA : RowA w 1 v a.length (a.map cB)) (hv : RwX cB w v a) (hal : a.length * 1 ≤ 140737488351232) (hx : ∀ z ∈ a, z < 256) (hB : RowA w 1 u b.length (b.map cB)) (hu : RwX cB w u b) (hbl : b.length * 1 ≤ 140737488351232) (hy : ∀ z ∈ b, z < 256) (hT : Hf w) :
    Calls Tryd.prog 4 #[v, u] w fun e w' => e = .returned (.bool true) ∧ Below w.heap.size w w' := by
  obtain ⟨i0, hi, hz0, hz1, hz2⟩ := info13 Tryd.infoB13
  obtain ⟨ao, c, hvf, hc, -⟩ := id hv
  obtain ⟨bo, d, huf, hd, -⟩ := id hu
  have HV : Hid (RowA w 1 v a.length (a.map cB) ∧ RwX cB w v a ∧ RowA w 1 u b.length (b.map cB) ∧ RwX cB w u b ∧ (∀ z ∈ a, z < 256) ∧ (∀ z ∈ b, z < 256) ∧ Hf w) := ⟨hA, hv, hB, hu, hx, hy, hT⟩
  subst hvf huf
  clear hA hv hB hu hx hy hc hd hal hbl hT
  go_enter Tryd.func4, Tryd.ntmps4
  go_wp2_with fail
  refine (known21 w).mono ?_
  rintro e w1 ⟨rfl, hb⟩
  have HB1 := hid13 hb
  clear hb
  by_cases h1 : (32768 : Int) < (a.length : Int)
  · have d1 : decide ((32768 : Int) < (a.length : Int)) = true := decide_eq_true h1
    go_wp2
    go_ret
    exact ⟨rfl, HB1.out⟩
  have d1 : decide ((32768 : Int) < (a.length : Int)) = false := decide_eq_false h1
  by_cases h2 : (32768 : Int) < (b.length : Int)
  · have d2 : decide ((32768 : Int) < (b.length : Int)) = true := decide_eq_true h2
    go_wp2
    go_ret
    exact ⟨rfl, HB1.out⟩
  have d2 : decide ((32768 : Int) < (b.length : Int)) = false := decide_eq_false h2
  have HL : Hid (a.length ≤ 32768 ∧ b.length ≤ 32768) := ⟨by omega, by omega⟩
  go_wp2_with (at_builtin; apply stopHere9)
  have q1 := bl1 w1 (.cells #[] 5)
  have o1 : (w1.alloc (.cells #[] 5)).ownsRow w.heap.size 5 1 (.slice (some ⟨w1.heap.size, 0, none⟩) 0 0) 0 [] := World.ownsRow_made w1 #[] 0 HB1.out.size (by unfold maxLen; omega) (by simp)
  have r1 := HV.out.1.below (keepb q1 HB1.out)
  refine (show wpList _ _ _ _ _ _ from ?_)
  refine wpList_append_rowA rfl _ _ 22 rfl w.heap.size 5 i0 (.int .u8 0) 1 1 Tryd.underlying22 hi hz0 hz1 hz2 rfl (by decide) _ 0 [] rfl o1 _ a.length (a.map cB) rfl r1 (cB_one a) (by have := HL.out; unfold maxLen; omega) (by have := HL.out; omega) (keepb q1 HB1.out).size ?_
  intro x1o x1c w2 hO hg
  rw [Nat.zero_add, List.nil_append] at hO
  rw [Nat.zero_add]
  have HB2 : Hid (Below w.heap.size w w2) := hid13 ((keepb q1 HB1.out).grown hg (keepb q1 HB1.out).size (fun z hz => (o1.lt z hz).1))
  have HX := hid13 hO
  clear hO hg o1 r1 q1 HB1
  go_wp2_with (at_builtin; apply stopHere9)
  have q2 := bl1 w2 (.cells #[] 5)
  have o2 : (w2.alloc (.cells #[] 5)).ownsRow w.heap.size 5 1 (.slice (some ⟨w2.heap.size, 0, none⟩) 0 0) 0 [] := World.ownsRow_made w2 #[] 0 HB2.out.size (by unfold maxLen; omega) (by simp)
  have r2 := HV.out.2.2.1.below (keepb q2 HB2.out)
  refine (show wpList _ _ _ _ _ _ from ?_)
  refine wpList_append_rowA rfl _ _ 22 rfl w.heap.size 5 i0 (.int .u8 0) 1 1 Tryd.underlying22 hi hz0 hz1 hz2 rfl (by decide) _ 0 [] rfl o2 _ b.length (b.map cB) rfl r2 (cB_one b) (by have := HL.out; unfold maxLen; omega) (by have := HL.out; omega) (keepb q2 HB2.out).size ?_
  intro x2o x2c w3 hO hg
  rw [Nat.zero_add, List.nil_append] at hO
  rw [Nat.zero_add]
  have HB3 : Hid (Below w.heap.size w w3) := hid13 ((keepb q2 HB2.out).grown hg (keepb q2 HB2.out).size (fun z hz => (o2.lt z hz).1))
  have hbn2 : Below w2.heap.size w2 w3 := q2.grown hg q2.size (fun z hz => by injection hz with hz; subst hz; exact Nat.le_refl _)
  have HX2 := hid13 (own_b13 hbn2 HX.out)
  have HY := hid13 hO
  clear hO hg o2 r2 q2 hbn2 HB2 HX d1 d2
  go_wp2_with fail
  refine (parse21 _ a _ b w3 (own_rwx HX2.out) HV.out.2.2.2.2.1 (by have := HL.out; omega) (own_rwx HY.out) (own_rowA HY.out) HV.out.2.2.2.2.2.1 (by have := HL.out; omega) (HV.out.2.2.2.2.2.2.below HB3.out)).mono ?_
  rintro e w4 ⟨v4, rfl, hp4, hb⟩
  have HB4 : Hid (Below w.heap.size w w4) := keepb hb HB3.out
  have HP4 := hid13 hp4
  have HOk := hid13 (psR_ok21 a b HV.out.2.2.2.2.2.1)
  obtain ⟨o4, c4, hv4⟩ : ∃ o c, v4 = .slice o (psR a b).2.length c := by obtain ⟨o, c, h, -⟩ := hp4; exact ⟨o, c, h⟩
  subst hv4
  clear hb hp4 HB3 HX2 HY
  go_wp2_with fail
  refine (rparse21 _ a _ b w4 (HV.out.2.1.below HB4.out) HV.out.2.2.2.2.1 (by have := HL.out; omega) (HV.out.2.2.2.1.below HB4.out) (HV.out.2.2.1.below HB4.out) HV.out.2.2.2.2.2.1 (by have := HL.out; omega)).mono ?_
  rintro e w5 ⟨v5, rfl, hp5, hb⟩
  have HB5 : Hid (Below w.heap.size w w5) := keepb hb HB4.out
  have HP5 := hid13 (And.intro (HP4.out.below hb) hp5)
  obtain ⟨o5, c5, hv5⟩ : ∃ o c, v5 = .slice o (psR a b).2.length c := by obtain ⟨o, c, h, -⟩ := hp5; exact ⟨o, c, h⟩
  subst hv5
  clear hb hp5 HB4 HP4
  have KS := same21 _ _ (psR a b).2 (psR a b).2 w5 HP5.out.1 HP5.out.2 HOk.out.1 HOk.out.1 (by have := HOk.out; have := HL.out; omega)
  rw [smL_self] at KS
  generalize (psR a b).2.length = pl at *
  generalize (psR a b).1 = pe at *
  go_wp2_with fail
  refine KS.mono ?_
  rintro e w6 ⟨rfl, hb⟩
  have HB6 : Hid (Below w.heap.size w w6) := keepb hb HB5.out
  clear hb KS
  go_wp2
  go_ret
  exact ⟨by first | rfl | simp, HB6.out⟩
end Go.Proofs.YtiachojhnbicaaaDoor
namespace Go.Proofs.YtiachojhnbicaaaDoor
open Go.ChangeShapes Go.WideShapes Go.ChangeAt Go.RowKit Go.Joins
set_option linter.unusedSimpArgs false
set_option linter.unusedVariables false

theorem Tryd.laidOut : laidOutB Tryd.prog = true := by kernel_rfl
theorem reach13 : reachBytes ≤ 140737488351232 := by decide
section
variable {H : Type} {enc : TypeId × Value → H} {w : World} {spare : Nat → Bool} {held : Bool}
theorem RwX.map13 {α β : Type} {f : α → Value} {g : β → Value} (h : α → β) {v : Value} {l : List α} (hr : RwX f w v l) (he : ∀ x ∈ l, f x = g (h x)) : RwX g w v (l.map h) := by
  obtain ⟨ao, c, e, hc, hr⟩ := hr
  refine ⟨ao, c, by rw [List.length_map]; exact e, by rw [List.length_map]; exact hc, ?_⟩
  rcases hr with hr | ⟨b, off, e, hr⟩
  · exact .inl (by rw [hr]; rfl)
  · refine .inr ⟨b, off, e, fun j x hj => ?_⟩
    rw [List.getElem?_map] at hj
    cases hx : l[j]? with
    | none => rw [hx] at hj; cases hj
    | some y =>
      rw [hx] at hj
      simp only [Option.map_some, Option.some.injEq] at hj
      rw [hr j y hx, he y (List.mem_of_getElem? hx), hj]
set_option maxRecDepth 100000 in
theorem open_ints13 {t e : TypeId} {k : IntKind} (ht : Tryd.prog.underlying t = some (.slice e)) (he : Tryd.prog.underlying e = some (.int k)) (hce : Tryd.prog.cellsOf e = 1) {r : Reach} {b0 : Nat} {v : Value} {d : DataW H} {p : List MemPlace} (hv : Value.okWide Tryd.prog w r b0 t v) (h : DataW.Trod enc Tryd.prog w 0 (fun _ => true) held t v d p) :
    ∃ l : List Int, RowA w 1 v l.length (l.map fun a => .int k a) ∧ RwX (fun a => Value.int k a) w v l ∧ (∀ a ∈ l, (Lit.int k a).wf = true) ∧ (l = [] ∨ ∃ el sp, d = .slice el sp ∧ el.length = l.length) := by
  obtain ⟨a0, len, cap, rfl⟩ := okWide_slice ht hv
  obtain ⟨fuel, hf⟩ := h
  rcases Deep.open_slice ht hf with ⟨hcs, hx⟩ | ⟨a, len', cap', m, n, D, Pl, hcs, _, hl, hm, hmm, hx, hel⟩
  · simp [Value.cells] at hcs
    obtain ⟨rfl, rfl, rfl⟩ := hcs
    exact ⟨[], ⟨rfl, none, 0, rfl, Nat.le_refl _, .inl ⟨rfl, rfl, rfl⟩⟩, ⟨none, 0, rfl, Nat.le_refl _, .inl rfl⟩, (fun _ h => by cases h), .inl rfl⟩
  · simp [Value.cells] at hcs
    obtain ⟨rfl, rfl, rfl⟩ := hcs
    simp at hmm
    subst hmm
    rw [hce] at hel
    obtain ⟨f, hf⟩ := Deep.choose_lt (α := Int) (n := len) (p := fun i x => w.cell? (a.add i) = some (.int k x) ∧ (Lit.int k x).wf = true) (fun i hi => by
      obtain ⟨cs', h1, h2⟩ := hel i (by omega)
      obtain ⟨_, hlen, hc⟩ := World.cells?_some h1
      match cs', hlen with
      | [c0], _ =>
        obtain ⟨x, ex, -, wx⟩ := DataW.trod_int he h2
        simp at ex
        subst ex
        refine ⟨x, ?_, wx⟩
        have := hc 0 (by omega)
        simpa [Addr.add] using this)
    have hlen : ((List.range len).map f).length = len := by simp
    have hcells : ∀ j x, ((List.range len).map f)[j]? = some x → w.cell? (a.add j) = some (.int k x) := by
      intro j x hj
      have hlt : j < len := by have := (List.getElem?_eq_some_iff.1 hj).1; simpa using this
      rw [List.getElem?_map, List.getElem?_range hlt] at hj
      simp only [Option.map_some, Option.some.injEq] at hj
      rw [← hj]; exact (hf j hlt).1
    refine ⟨(List.range len).map f, ⟨by simp, some a, m, by rw [hlen], by rw [hlen]; exact hl, .inr ⟨a, rfl, fun j u hj => ?_⟩⟩, ⟨some a, m, by rw [hlen], by rw [hlen]; exact hl, ?_⟩, ?_, ?_⟩
    · rw [List.getElem?_map] at hj
      cases hx : ((List.range len).map f)[j]? with
      | none => rw [hx] at hj; cases hj
      | some y =>
        rw [hx] at hj
        simp only [Option.map_some, Option.some.injEq] at hj
        rw [← hj]; exact hcells j y hx
    · by_cases hz : len = 0
      · subst hz
        exact .inl (by simp)
      · have h00 := (hf 0 (by omega)).1
        have ea : a = ⟨a.block, a.off, none⟩ := by
          have : a.add 0 = a := by simp [Addr.add]
          rw [this] at h00
          exact spot9 h00
        refine .inr ⟨a.block, a.off, by rw [← ea], fun j u hj => ?_⟩
        have := hcells j u hj
        rw [ea, addA] at this
        exact this
    · intro x hx
      simp only [List.mem_map, List.mem_range] at hx
      obtain ⟨i, hi, rfl⟩ := hx
      exact (hf i hi).2
    · simp only [Prod.mk.injEq] at hx
      exact .inr ⟨_, _, hx.1, by simp⟩
end
end Go.Proofs.YtiachojhnbicaaaDoor
namespace Go.Proofs.YtiachojhnbicaaaDoor
open Go.ChangeShapes Go.WideShapes Go.ChangeAt Go.RowKit Go.Joins
set_option linter.unusedSimpArgs false
set_option linter.unusedVariables false

section
variable {H : Type} {enc : TypeId × Value → H} {w : World} {spare : Nat → Bool} {held : Bool}
end
end Go.Proofs.YtiachojhnbicaaaDoor
namespace Go.Proofs.YtiachojhnbicaaaDoor
open Go.ChangeShapes Go.WideShapes Go.ChangeAt Go.RowKit Go.Joins
set_option linter.unusedSimpArgs false
set_option linter.unusedVariables false

section
variable {H : Type} {enc : TypeId × Value → H} {w : World} {spare : Nat → Bool} {held : Bool}
end
end Go.Proofs.YtiachojhnbicaaaDoor
