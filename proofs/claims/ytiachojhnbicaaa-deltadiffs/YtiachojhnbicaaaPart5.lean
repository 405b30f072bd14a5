/-
  Part 5 of the proof: 4 texts, one behind the other.
-/
import Derived.Test.YtiachojhnbicaaaPart3
import Derived.Test.YtiachojhnbicaaaPart1
import Derived.Lib.SmallJoins
import Derived.Test.YtiachojhnbicaaaPart4
import Derived.Deep.Slices
import Derived.Carry
import Derived.SizedLaws
import Derived.ProofKit
import Derived.Deep.Strs
namespace Go.Proofs.Ytiachojhnbicaaa
open Go.RowKit
set_option linter.unusedSimpArgs false
set_option linter.unusedVariables false

theorem kn21_ne : ¬ ([97, 98, 99, 100, 101] : List Nat) = [97, 98, 88, 101] := by decide
theorem kn21_P : dfP [97, 98, 99, 100, 101] [97, 98, 88, 101] = ⟨2, 2, [88]⟩ := by rfl
set_option maxRecDepth 100000 in
set_option maxHeartbeats 8000000 in
theorem known21 (w : World) :
    Calls Try.prog 5 #[] w fun e w' => e = .returned (.bool true) ∧ Below w.heap.size w w' := by
  have kc1 := Go.Joins.run_convert_bytes_const_at (P := Try.prog) w 22 5 #[.int .u8 97, .int .u8 98, .int .u8 99, .int .u8 100, .int .u8 101] 5 5 w.heap.size rfl Try.underlying22 Try.underlying5
  have q1 := bl1 w (.cells #[.int .u8 97, .int .u8 98, .int .u8 99, .int .u8 100, .int .u8 101] 5 (5, 6))
  have o1 := lit_rwx (f := cB) w #[.int .u8 97, .int .u8 98, .int .u8 99, .int .u8 100, .int .u8 101] 5 (5, 6) [97, 98, 99, 100, 101] rfl
  obtain ⟨w1, hw1⟩ : ∃ w1, w1 = w.alloc (.cells #[.int .u8 97, .int .u8 98, .int .u8 99, .int .u8 100, .int .u8 101] 5 (5, 6)) := ⟨_, rfl⟩
  have kc2 := Go.Joins.run_convert_bytes_const_at (P := Try.prog) w1 22 5 #[.int .u8 97, .int .u8 98, .int .u8 88, .int .u8 101] 4 4 (w.heap.size + 1) (by rw [hw1]; simp) Try.underlying22 Try.underlying5
  rw [hw1] at kc2
  rw [← hw1] at q1 o1
  have q2 := bl1 w1 (.cells #[.int .u8 97, .int .u8 98, .int .u8 88, .int .u8 101] 5 (4, 5))
  have o2 := lit_rwx (f := cB) w1 #[.int .u8 97, .int .u8 98, .int .u8 88, .int .u8 101] 5 (4, 5) [97, 98, 88, 101] rfl
  obtain ⟨w2, hw2⟩ : ∃ w2, w2 = w1.alloc (.cells #[.int .u8 97, .int .u8 98, .int .u8 88, .int .u8 101] 5 (4, 5)) := ⟨_, rfl⟩
  rw [← hw2] at q2 o2
  have o1' := o1.below q2
  have K1 := diff21 _ _ [97, 98, 99, 100, 101] [97, 98, 88, 101] w2 o1' o2 (o1'.row (fun h => by cases h)) (o2.row (fun h => by cases h)) (by decide) (by decide) (by decide) (by decide)
  have HQ : Hid (Below w.heap.size w w2) := keepb q2 q1
  have HW : Hid (w2 = (w.alloc (.cells #[.int .u8 97, .int .u8 98, .int .u8 99, .int .u8 100, .int .u8 101] 5 (5, 6))).alloc (.cells #[.int .u8 97, .int .u8 98, .int .u8 88, .int .u8 101] 5 (4, 5))) := by rw [hw2, hw1]; rfl
  have hsz : w1.heap.size = w.heap.size + 1 := by rw [hw1]; simp
  rw [hsz] at K1
  clear q1 q2 o1 o2 o1' hw1 hw2 hsz
  go_enter Try.func5, Try.ntmps5
  go_wp2_with fail
  rw [← HW.out]
  refine K1.mono ?_
  rintro e w3 ⟨v3, rfl, hd, hb3⟩
  have HB3 : Hid (Below w.heap.size w w3) := keepb hb3 HQ.out
  unfold DfO at hd
  rw [if_neg kn21_ne, kn21_P] at hd
  obtain ⟨z, vx, rfl, h1, h2, -⟩ := hd
  have c0 : w3.cell? ⟨z, 0, none⟩ = some (.int .i64 2) := (h1.cellAt 0 (by decide)).trans rfl
  have c1 : w3.cell? ⟨z, 1, none⟩ = some (.int .i64 2) := (h1.cellAt 1 (by decide)).trans rfl
  have c2 : w3.cell? ⟨z, 2, none⟩ = some vx := (h1.cellAt 2 (by decide)).trans rfl
  have cv := conv13 (own_rwx h2) (by decide)
  obtain ⟨xo, xc, hvx⟩ := own_form h2
  subst hvx
  dsimp only at cv c2
  rw [show ([88] : List Nat).length = 1 from rfl] at cv c2
  have hbq : ((bsA [88]).toList == [88]) = true := by rw [bsA_list]; decide
  generalize bsA [88] = st at *
  clear h1 h2 hb3 HQ K1 HW kc1 kc2
  go_wp2
  go_ret
  exact ⟨by first | rfl | decide, HB3.out⟩
end Go.Proofs.Ytiachojhnbicaaa
namespace Go.Proofs.Ytiachojhnbicaaa
open Go.RowKit Go.Shelf
set_option linter.unusedSimpArgs false
set_option linter.unusedVariables false
attribute [local go_sem] Oper.semAt_some

set_option maxRecDepth 100000 in
set_option maxHeartbeats 16000000 in
theorem deltaDiffs_any (v : Value) (a : List Nat) (u : Value) (b : List Nat) (w : World) (hA : RowA w 1 v a.length (a.map cB)) (hv : RwX cB w v a) (hx : ∀ z ∈ a, z < 256) (hB : RowA w 1 u b.length (b.map cB)) (hu : RwX cB w u b) (hy : ∀ z ∈ b, z < 256) :
    Calls Try.prog 3 #[v, u] w fun e w' => e = .returned (.bool true) ∧ Below w.heap.size w w' := by
  obtain ⟨i0, hi, hz0, hz1, hz2⟩ := info13 Try.infoB13
  obtain ⟨ao, c, hvf, hc, -⟩ := id hv
  obtain ⟨bo, d, huf, hd, -⟩ := id hu
  have HV : Hid (RowA w 1 v a.length (a.map cB) ∧ RwX cB w v a ∧ RowA w 1 u b.length (b.map cB) ∧ RwX cB w u b ∧ (∀ z ∈ a, z < 256) ∧ (∀ z ∈ b, z < 256)) := ⟨hA, hv, hB, hu, hx, hy⟩
  subst hvf huf
  clear hA hv hB hu hx hy hc hd
  go_enter Try.func3, Try.ntmps3
  go_wp2_with fail
  refine (known21 w).mono ?_
  rintro e w1 ⟨rfl, hb⟩
  have HB1 := hid13 hb
  clear hb
  by_cases h1 : (32768 : Int) < (a.length : Int)
  · have d1 : decide ((32768 : Int) < (a.length : Int)) = true := decide_eq_true h1
    go_wp2
    go_ret
    exact ⟨rfl, HB1.out⟩
  have d1 : decide ((32768 : Int) < (a.length : Int)) = false := decide_eq_false h1
  by_cases h2 : (32768 : Int) < (b.length : Int)
  · have d2 : decide ((32768 : Int) < (b.length : Int)) = true := decide_eq_true h2
    go_wp2
    go_ret
    exact ⟨rfl, HB1.out⟩
  have d2 : decide ((32768 : Int) < (b.length : Int)) = false := decide_eq_false h2
  have HL : Hid (a.length ≤ 32768 ∧ b.length ≤ 32768) := ⟨by omega, by omega⟩
  go_wp2_with (at_builtin; apply stopHere9)
  have q1 := bl1 w1 (.cells #[] 5)
  have o1 : (w1.alloc (.cells #[] 5)).ownsRow w.heap.size 5 1 (.slice (some ⟨w1.heap.size, 0, none⟩) 0 0) 0 [] := World.ownsRow_made w1 #[] 0 HB1.out.size (by unfold maxLen; omega) (by simp)
  have r1 := HV.out.1.below (keepb q1 HB1.out)
  refine (show wpList _ _ _ _ _ _ from ?_)
  refine wpList_append_rowA rfl _ _ 22 rfl w.heap.size 5 i0 (.int .u8 0) 1 1 Try.underlying22 hi hz0 hz1 hz2 rfl (by decide) _ 0 [] rfl o1 _ a.length (a.map cB) rfl r1 (cB_one a) (by have := HL.out; unfold maxLen; omega) (by have := HL.out; omega) (keepb q1 HB1.out).size ?_
  intro x1o x1c w2 hO hg
  rw [Nat.zero_add, List.nil_append] at hO
  rw [Nat.zero_add]
  have HB2 : Hid (Below w.heap.size w w2) := hid13 ((keepb q1 HB1.out).grown hg (keepb q1 HB1.out).size (fun z hz => (o1.lt z hz).1))
  have hbn1 : Below w1.heap.size w1 w2 := q1.grown hg q1.size (fun z hz => by injection hz with hz; subst hz; exact Nat.le_refl _)
  have HX := hid13 hO
  clear hO hg o1 r1 q1 hbn1 HB1
  go_wp2_with (at_builtin; apply stopHere9)
  have q2 := bl1 w2 (.cells #[] 5)
  have o2 : (w2.alloc (.cells #[] 5)).ownsRow w.heap.size 5 1 (.slice (some ⟨w2.heap.size, 0, none⟩) 0 0) 0 [] := World.ownsRow_made w2 #[] 0 HB2.out.size (by unfold maxLen; omega) (by simp)
  have r2 := HV.out.2.2.1.below (keepb q2 HB2.out)
  refine (show wpList _ _ _ _ _ _ from ?_)
  refine wpList_append_rowA rfl _ _ 22 rfl w.heap.size 5 i0 (.int .u8 0) 1 1 Try.underlying22 hi hz0 hz1 hz2 rfl (by decide) _ 0 [] rfl o2 _ b.length (b.map cB) rfl r2 (cB_one b) (by have := HL.out; unfold maxLen; omega) (by have := HL.out; omega) (keepb q2 HB2.out).size ?_
  intro x2o x2c w3 hO hg
  rw [Nat.zero_add, List.nil_append] at hO
  rw [Nat.zero_add]
  have HB3 : Hid (Below w.heap.size w w3) := hid13 ((keepb q2 HB2.out).grown hg (keepb q2 HB2.out).size (fun z hz => (o2.lt z hz).1))
  have hbn2 : Below w2.heap.size w2 w3 := q2.grown hg q2.size (fun z hz => by injection hz with hz; subst hz; exact Nat.le_refl _)
  have HX2 := hid13 (own_b13 hbn2 HX.out)
  have HY := hid13 hO
  clear hO hg o2 r2 q2 hbn2 HB2 HX d1 d2
  go_wp2_with fail
  refine (diff21 _ _ a b w3 (own_rwx HX2.out) (own_rwx HY.out) (own_rowA HX2.out) (own_rowA HY.out) HV.out.2.2.2.2.1 HV.out.2.2.2.2.2 (by have := HL.out; omega) (by have := HL.out; omega)).mono ?_
  rintro e w4 ⟨v4, rfl, hd4, hb4⟩
  have HB4 : Hid (Below w.heap.size w w4) := keepb hb4 HB3.out
  have HX4 := hid13 (own_b13 hb4 HX2.out)
  have HY4 := hid13 (own_b13 hb4 HY.out)
  have HD4 := hid13 (dfo_ptr hd4)
  clear hd4 hb4 HX2 HY HB3
  obtain ⟨d4o, d4c, hv4⟩ : ∃ o c, v4 = .slice o (dfL a b).length c := by obtain ⟨o, c, h, -⟩ := HD4.out; exact ⟨o, c, h⟩
  subst hv4
  go_wp2_with fail
  refine (rdiff21 _ _ a b w4 (HV.out.2.1.below HB4.out) (HV.out.2.2.2.1.below HB4.out) (HV.out.2.2.1.below HB4.out) HV.out.2.2.2.2.1 HV.out.2.2.2.2.2 (by have := HL.out; omega) (by have := HL.out; omega)).mono ?_
  rintro e w5 ⟨v5, rfl, hd5, hb5⟩
  have HB5 : Hid (Below w.heap.size w w5) := keepb hb5 HB4.out
  have HX5 := hid13 (own_b13 hb5 HX4.out)
  have HY5 := hid13 (own_b13 hb5 HY4.out)
  have HD5 := hid13 (And.intro (HD4.out.below hb5) hd5)
  clear hd5 hb5 HX4 HY4 HB4 HD4
  obtain ⟨d5o, d5c, hv5⟩ : ∃ o c, v5 = .slice o (dfL a b).length c := by obtain ⟨o, c, h, -⟩ := HD5.out.2; exact ⟨o, c, h⟩
  subst hv5
  go_wp2_with fail
  refine (same21 _ _ (dfL a b) (dfL a b) w5 HD5.out.1 HD5.out.2 (dfL_lt HV.out.2.2.2.2.2) (dfL_lt HV.out.2.2.2.2.2) (by unfold dfL; split <;> simp)).mono ?_
  rintro e w6 ⟨rfl, hb6⟩
  rw [smL_self]
  have HB6 : Hid (Below w.heap.size w w6) := keepb hb6 HB5.out
  have c1 := conv13 (own_rwx (own_b13 hb6 HX5.out)) HV.out.2.2.2.2.1
  have c2 := conv13 (HV.out.2.1.below HB6.out) HV.out.2.2.2.2.1
  have c3 := conv13 (own_rwx (own_b13 hb6 HY5.out)) HV.out.2.2.2.2.2
  have c4 := conv13 (HV.out.2.2.2.1.below HB6.out) HV.out.2.2.2.2.2
  clear hb6 HX5 HY5 HB5 HD5
  have e1 : ((bsA a).toList == (bsA a).toList) = true := by simp
  have e2 : ((bsA b).toList == (bsA b).toList) = true := by simp
  generalize bsA a = s at *
  generalize bsA b = t at *
  go_wp2
  go_ret
  exact ⟨by first | rfl | simp, HB6.out⟩
end Go.Proofs.Ytiachojhnbicaaa
namespace Go.Proofs.Ytiachojhnbicaaa
open Go.ChangeShapes Go.WideShapes Go.ChangeAt Go.RowKit Go.Joins
set_option linter.unusedSimpArgs false
set_option linter.unusedVariables false

theorem Try.laidOut : laidOutB Try.prog = true := by kernel_rfl
section
variable {H : Type} {enc : TypeId × Value → H} {w : World} {spare : Nat → Bool} {held : Bool}
theorem RwX.map13 {α β : Type} {f : α → Value} {g : β → Value} (h : α → β) {v : Value} {l : List α} (hr : RwX f w v l) (he : ∀ x ∈ l, f x = g (h x)) : RwX g w v (l.map h) := by
  obtain ⟨ao, c, e, hc, hr⟩ := hr
  refine ⟨ao, c, by rw [List.length_map]; exact e, by rw [List.length_map]; exact hc, ?_⟩
  rcases hr with hr | ⟨b, off, e, hr⟩
  · exact .inl (by rw [hr]; rfl)
  · refine .inr ⟨b, off, e, fun j x hj => ?_⟩
    rw [List.getElem?_map] at hj
    cases hx : l[j]? with
    | none => rw [hx] at hj; cases hj
    | some y =>
      rw [hx] at hj
      simp only [Option.map_some, Option.some.injEq] at hj
      rw [hr j y hx, he y (List.mem_of_getElem? hx), hj]
set_option maxRecDepth 100000 in
theorem open_ints13 {t e : TypeId} {k : IntKind} (ht : Try.prog.underlying t = some (.slice e)) (he : Try.prog.underlying e = some (.int k)) (hce : Try.prog.cellsOf e = 1) {r : Reach} {b0 : Nat} {v : Value} {d : DataW H} {p : List MemPlace} (hv : Value.okWide Try.prog w r b0 t v) (h : DataW.Trod enc Try.prog w 0 (fun _ => true) held t v d p) :
    ∃ l : List Int, RowA w 1 v l.length (l.map fun a => .int k a) ∧ RwX (fun a => Value.int k a) w v l ∧ (∀ a ∈ l, (Lit.int k a).wf = true) ∧ (l = [] ∨ ∃ el sp, d = .slice el sp ∧ el.length = l.length) := by
  obtain ⟨a0, len, cap, rfl⟩ := okWide_slice ht hv
  obtain ⟨fuel, hf⟩ := h
  rcases Deep.open_slice ht hf with ⟨hcs, hx⟩ | ⟨a, len', cap', m, n, D, Pl, hcs, _, hl, hm, hmm, hx, hel⟩
  · simp [Value.cells] at hcs
    obtain ⟨rfl, rfl, rfl⟩ := hcs
    exact ⟨[], ⟨rfl, none, 0, rfl, Nat.le_refl _, .inl ⟨rfl, rfl, rfl⟩⟩, ⟨none, 0, rfl, Nat.le_refl _, .inl rfl⟩, (fun _ h => by cases h), .inl rfl⟩
  · simp [Value.cells] at hcs
    obtain ⟨rfl, rfl, rfl⟩ := hcs
    simp at hmm
    subst hmm
    rw [hce] at hel
    obtain ⟨f, hf⟩ := Deep.choose_lt (α := Int) (n := len) (p := fun i x => w.cell? (a.add i) = some (.int k x) ∧ (Lit.int k x).wf = true) (fun i hi => by
      obtain ⟨cs', h1, h2⟩ := hel i (by omega)
      obtain ⟨_, hlen, hc⟩ := World.cells?_some h1
      match cs', hlen with
      | [c0], _ =>
        obtain ⟨x, ex, -, wx⟩ := DataW.trod_int he h2
        simp at ex
        subst ex
        refine ⟨x, ?_, wx⟩
        have := hc 0 (by omega)
        simpa [Addr.add] using this)
    have hlen : ((List.range len).map f).length = len := by simp
    have hcells : ∀ j x, ((List.range len).map f)[j]? = some x → w.cell? (a.add j) = some (.int k x) := by
      intro j x hj
      have hlt : j < len := by have := (List.getElem?_eq_some_iff.1 hj).1; simpa using this
      rw [List.getElem?_map, List.getElem?_range hlt] at hj
      simp only [Option.map_some, Option.some.injEq] at hj
      rw [← hj]; exact (hf j hlt).1
    refine ⟨(List.range len).map f, ⟨by simp, some a, m, by rw [hlen], by rw [hlen]; exact hl, .inr ⟨a, rfl, fun j u hj => ?_⟩⟩, ⟨some a, m, by rw [hlen], by rw [hlen]; exact hl, ?_⟩, ?_, ?_⟩
    · rw [List.getElem?_map] at hj
      cases hx : ((List.range len).map f)[j]? with
      | none => rw [hx] at hj; cases hj
      | some y =>
        rw [hx] at hj
        simp only [Option.map_some, Option.some.injEq] at hj
        rw [← hj]; exact hcells j y hx
    · by_cases hz : len = 0
      · subst hz
        exact .inl (by simp)
      · have h00 := (hf 0 (by omega)).1
        have ea : a = ⟨a.block, a.off, none⟩ := by
          have : a.add 0 = a := by simp [Addr.add]
          rw [this] at h00
          exact spot9 h00
        refine .inr ⟨a.block, a.off, by rw [← ea], fun j u hj => ?_⟩
        have := hcells j u hj
        rw [ea, addA] at this
        exact this
    · intro x hx
      simp only [List.mem_map, List.mem_range] at hx
      obtain ⟨i, hi, rfl⟩ := hx
      exact (hf i hi).2
    · simp only [Prod.mk.injEq] at hx
      exact .inr ⟨_, _, hx.1, by simp⟩
end
end Go.Proofs.Ytiachojhnbicaaa
namespace Go.Proofs.Ytiachojhnbicaaa
open Go.ChangeShapes Go.WideShapes Go.ChangeAt Go.RowKit Go.Joins
set_option linter.unusedSimpArgs false
set_option linter.unusedVariables false

section
variable {H : Type} {enc : TypeId × Value → H} {w : World} {spare : Nat → Bool} {held : Bool}
end
end Go.Proofs.Ytiachojhnbicaaa
