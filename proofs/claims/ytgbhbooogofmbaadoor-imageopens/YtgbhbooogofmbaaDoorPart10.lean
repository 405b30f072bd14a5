/-
  Part 10 of the proof: 3 texts, one behind the other.
-/
import Derived.Test.YtgbhbooogofmbaaDoorPart9
import Derived.Test.YtgbhbooogofmbaaDoorPart2
import Derived.Deep.Slices
import Derived.Carry
import Derived.SizedLaws
import Derived.ProofKit
import Derived.Lib.SmallJoins
namespace Go.Proofs.YtgbhbooogofmbaaDoor
open Go.RowKit
set_option linter.unusedSimpArgs false
set_option linter.unusedVariables false

theorem opV_form (l : List Nat) (a : Int) : ∃ x0 x1 x2 x3 : Int, opV l a = .agg #[.int .i64 x0, .int .i64 x1, .int .i64 x2, .int .i64 x3] := by
  unfold opV; split
  · exact ⟨_, _, _, _, rfl⟩
  · exact ⟨_, _, _, _, rfl⟩
theorem opC_lt {l : List Nat} {a : Int} (h : ∀ b ∈ l, b < 256) : ∀ b ∈ opC l a, b < 256 := by
  intro b hb
  unfold opC at hb
  split at hb
  · exact h b (List.mem_of_mem_drop (List.mem_of_mem_drop (List.mem_of_mem_take hb)))
  · cases hb
set_option maxRecDepth 100000 in
set_option maxHeartbeats 16000000 in
theorem imageOpens_any (v : Value) (l : List Nat) (a : Int) (w : World) (hA : RowA w 1 v l.length (l.map cB)) (hv : RwX cB w v l) (hl : l.length * 1 ≤ 140737488351232) (hx : ∀ b ∈ l, b < 256) (ha0 : -9223372036854775808 ≤ a) (ha1 : a ≤ 9223372036854775807) (hT : Hf w) :
    Calls Tryd.prog 4 #[v, .int .i64 a] w fun e w' => e = .returned (.bool true) ∧ Below w.heap.size w w' := by
  obtain ⟨i0, hi, hz0, hz1, hz2⟩ := info13 Tryd.infoB13
  obtain ⟨ao, cc, hvf, hcc, -⟩ := id hv
  have HT := hid13 hT
  have HV := hid13 hv
  have HA := hid13 hA
  have HX := hid13 hx
  have K1 := known17 _ hT
  subst hvf
  clear hA hv hx hT hcc hl ha0 ha1
  go_enter Tryd.func4, Tryd.ntmps4
  go_wp2_with fail
  refine K1.mono ?_
  rintro e w1 ⟨rfl, hb1⟩
  have HB1 := hid13 hb1
  clear hb1 K1
  by_cases hl : (65536 : Int) < (l.length : Int)
  · go_wp2
    go_ret
    exact ⟨rfl, HB1.out⟩
  have HL : Hid (l.length ≤ 65536) := by show _ ≤ _; omega
  have q3 := bl1 w1 (.cells #[] 5)
  have HR3 := hid13 ((HA.out.below HB1.out).below q3)
  have HO3 : Hid ((w1.alloc (.cells #[] 5)).ownsRow w1.heap.size 5 1 (.slice (some ⟨w1.heap.size, 0, none⟩) 0 0) 0 []) := World.ownsRow_made w1 #[] 0 (Nat.le_refl _) (by unfold maxLen; omega) (by simp)
  have HQ3 := hid13 q3
  clear q3
  go_wp2_with (at_builtin; apply stopHere9)
  go_wp2_with (at_builtin; apply stopHere9)
  refine (show wpList _ _ _ _ _ _ from ?_)
  refine wpList_append_rowA rfl _ _ 24 rfl w1.heap.size 5 i0 (.int .u8 0) 1 1 Tryd.underlying24 hi hz0 hz1 hz2 rfl (by decide) _ 0 [] rfl HO3.out _ l.length (l.map cB) rfl HR3.out (cB_one l) (by have := HL.out; unfold maxLen; omega) (by have := HL.out; omega) HQ3.out.size ?_
  intro ao4 c4 w4 hO4 hg4
  rw [Nat.zero_add, List.nil_append] at hO4
  rw [Nat.zero_add]
  have hB4 : Below w1.heap.size w1 w4 := HQ3.out.grown hg4 HQ3.out.size (fun z hz => (HO3.out.lt z hz).1)
  have HB4 := hid13 (keepb hB4 HB1.out)
  have HO4 := hid13 hO4
  have K5 := open_any (.slice ao4 l.length c4) l a w4 (own_rwx hO4) (by have := HL.out; omega) HX.out (HT.out.below HB4.out)
  have K6 := fun w5 (hb : Below w4.heap.size w4 w5) => ropen17 (.slice ao l.length cc) l a w5 ((HV.out.below HB4.out).below hb) ((HA.out.below HB4.out).below hb) (by have := HL.out; omega) HX.out
  have HCx := hid13 (opC_lt (a := a) HX.out)
  obtain ⟨x0, x1, x2, x3, hov⟩ := opV_form l a
  rw [hov] at K5 K6
  generalize opE l a = E at *
  generalize opC l a = C at *
  clear hO4 hg4 hB4 HO3 HQ3 HR3 hov HB1
  go_wp2_with fail
  refine K5.mono ?_
  rintro e w5 ⟨v5, rfl, hO5, hb5⟩
  obtain ⟨a5, c5, hv5⟩ := own_form hO5
  subst hv5
  have q6 := bl1 w5 (.cells #[.int .i64 x0, .int .i64 x1, .int .i64 x2, .int .i64 x3] 23)
  have HX6 := hid13 (bx_new (t := 23) (keepb hb5 HB4.out) #[.int .i64 x0, .int .i64 x1, .int .i64 x2, .int .i64 x3])
  have HM6 := hid13 (own_b13 (keepb q6 hb5) HO4.out)
  have HO6 := hid13 (own_b13 q6 hO5)
  have K7 := K6 _ (keepb q6 hb5)
  clear K5 K6 hO5 hb5 HB4 HO4 q6
  go_wp2_with fail
  refine K7.mono ?_
  rintro e w7 ⟨v7, rfl, hR7, hb7⟩
  obtain ⟨a7, c7, hv7, -⟩ := id hR7
  subst hv7
  have q8 := bl1 w7 (.cells #[.int .i64 x0, .int .i64 x1, .int .i64 x2, .int .i64 x3] 23)
  have HX7 := hid13 (HX6.out.keep (keepb q8 hb7))
  have y0 := HX7.out.2 0 _ rfl
  have y1 := HX7.out.2 1 _ rfl
  have y2 := HX7.out.2 2 _ rfl
  have y3 := HX7.out.2 3 _ rfl
  have HB8 := hid13 HX7.out.1
  have s1 := conv13 (own_rwx (own_b13 (keepb q8 hb7) HM6.out)) HX.out
  have s2 := conv13 (HV.out.below HB8.out) HX.out
  have s3 := conv13 (own_rwx (own_b13 (keepb q8 hb7) HO6.out)) HCx.out
  have s4 := conv13 (hR7.below q8) HCx.out
  have hq := eqH_run x0 x1 x2 x3 x0 x1 x2 x3
  simp only [beq_self_eq_true, Bool.and_self] at hq
  generalize bsA l = st1 at *
  generalize bsA C = st2 at *
  clear K7 hR7 hb7 HX6 HM6 HO6 q8 HX7
  go_wp2
  exact bodyPost_ret (v := .bool true) (by simp [results, Tryd.results4, go_sem]) rfl ⟨rfl, HB8.out⟩
end Go.Proofs.YtgbhbooogofmbaaDoor
namespace Go.Proofs.YtgbhbooogofmbaaDoor
open Go.ChangeShapes Go.WideShapes Go.ChangeAt Go.RowKit Go.Joins
set_option linter.unusedSimpArgs false
set_option linter.unusedVariables false

theorem Tryd.laidOut : laidOutB Tryd.prog = true := by kernel_rfl
theorem reach13 : reachBytes ≤ 140737488351232 := by decide
section
variable {H : Type} {enc : TypeId × Value → H} {w : World} {spare : Nat → Bool} {held : Bool}
theorem RwX.map13 {α β : Type} {f : α → Value} {g : β → Value} (h : α → β) {v : Value} {l : List α} (hr : RwX f w v l) (he : ∀ x ∈ l, f x = g (h x)) : RwX g w v (l.map h) := by
  obtain ⟨ao, c, e, hc, hr⟩ := hr
  refine ⟨ao, c, by rw [List.length_map]; exact e, by rw [List.length_map]; exact hc, ?_⟩
  rcases hr with hr | ⟨b, off, e, hr⟩
  · exact .inl (by rw [hr]; rfl)
  · refine .inr ⟨b, off, e, fun j x hj => ?_⟩
    rw [List.getElem?_map] at hj
    cases hx : l[j]? with
    | none => rw [hx] at hj; cases hj
    | some y =>
      rw [hx] at hj
      simp only [Option.map_some, Option.some.injEq] at hj
      rw [hr j y hx, he y (List.mem_of_getElem? hx), hj]
set_option maxRecDepth 100000 in
theorem open_ints13 {t e : TypeId} {k : IntKind} (ht : Tryd.prog.underlying t = some (.slice e)) (he : Tryd.prog.underlying e = some (.int k)) (hce : Tryd.prog.cellsOf e = 1) {r : Reach} {b0 : Nat} {v : Value} {d : DataW H} {p : List MemPlace} (hv : Value.okWide Tryd.prog w r b0 t v) (h : DataW.Trod enc Tryd.prog w 0 (fun _ => true) held t v d p) :
    ∃ l : List Int, RowA w 1 v l.length (l.map fun a => .int k a) ∧ RwX (fun a => Value.int k a) w v l ∧ (∀ a ∈ l, (Lit.int k a).wf = true) ∧ (l = [] ∨ ∃ el sp, d = .slice el sp ∧ el.length = l.length) := by
  obtain ⟨a0, len, cap, rfl⟩ := okWide_slice ht hv
  obtain ⟨fuel, hf⟩ := h
  rcases Deep.open_slice ht hf with ⟨hcs, hx⟩ | ⟨a, len', cap', m, n, D, Pl, hcs, _, hl, hm, hmm, hx, hel⟩
  · simp [Value.cells] at hcs
    obtain ⟨rfl, rfl, rfl⟩ := hcs
    exact ⟨[], ⟨rfl, none, 0, rfl, Nat.le_refl _, .inl ⟨rfl, rfl, rfl⟩⟩, ⟨none, 0, rfl, Nat.le_refl _, .inl rfl⟩, (fun _ h => by cases h), .inl rfl⟩
  · simp [Value.cells] at hcs
    obtain ⟨rfl, rfl, rfl⟩ := hcs
    simp at hmm
    subst hmm
    rw [hce] at hel
    obtain ⟨f, hf⟩ := Deep.choose_lt (α := Int) (n := len) (p := fun i x => w.cell? (a.add i) = some (.int k x) ∧ (Lit.int k x).wf = true) (fun i hi => by
      obtain ⟨cs', h1, h2⟩ := hel i (by omega)
      obtain ⟨_, hlen, hc⟩ := World.cells?_some h1
      match cs', hlen with
      | [c0], _ =>
        obtain ⟨x, ex, -, wx⟩ := DataW.trod_int he h2
        simp at ex
        subst ex
        refine ⟨x, ?_, wx⟩
        have := hc 0 (by omega)
        simpa [Addr.add] using this)
    have hlen : ((List.range len).map f).length = len := by simp
    have hcells : ∀ j x, ((List.range len).map f)[j]? = some x → w.cell? (a.add j) = some (.int k x) := by
      intro j x hj
      have hlt : j < len := by have := (List.getElem?_eq_some_iff.1 hj).1; simpa using this
      rw [List.getElem?_map, List.getElem?_range hlt] at hj
      simp only [Option.map_some, Option.some.injEq] at hj
      rw [← hj]; exact (hf j hlt).1
    refine ⟨(List.range len).map f, ⟨by simp, some a, m, by rw [hlen], by rw [hlen]; exact hl, .inr ⟨a, rfl, fun j u hj => ?_⟩⟩, ⟨some a, m, by rw [hlen], by rw [hlen]; exact hl, ?_⟩, ?_, ?_⟩
    · rw [List.getElem?_map] at hj
      cases hx : ((List.range len).map f)[j]? with
      | none => rw [hx] at hj; cases hj
      | some y =>
        rw [hx] at hj
        simp only [Option.map_some, Option.some.injEq] at hj
        rw [← hj]; exact hcells j y hx
    · by_cases hz : len = 0
      · subst hz
        exact .inl (by simp)
      · have h00 := (hf 0 (by omega)).1
        have ea : a = ⟨a.block, a.off, none⟩ := by
          have : a.add 0 = a := by simp [Addr.add]
          rw [this] at h00
          exact spot9 h00
        refine .inr ⟨a.block, a.off, by rw [← ea], fun j u hj => ?_⟩
        have := hcells j u hj
        rw [ea, addA] at this
        exact this
    · intro x hx
      simp only [List.mem_map, List.mem_range] at hx
      obtain ⟨i, hi, rfl⟩ := hx
      exact (hf i hi).2
    · simp only [Prod.mk.injEq] at hx
      exact .inr ⟨_, _, hx.1, by simp⟩
end
end Go.Proofs.YtgbhbooogofmbaaDoor
namespace Go.Proofs.YtgbhbooogofmbaaDoor
open Go.ChangeShapes Go.WideShapes Go.ChangeAt Go.RowKit Go.Joins
set_option linter.unusedSimpArgs false
set_option linter.unusedVariables false

section
variable {P : Program} {H : Type} {enc : TypeId × Value → H} {w : World} {base : Nat} {spare : Nat → Bool} {held : Bool}
end
end Go.Proofs.YtgbhbooogofmbaaDoor
