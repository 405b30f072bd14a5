/-
  Part 15 of the proof: 4 texts, one behind the other.
-/
import Derived.Test.YtiachojhnbicaaaDoorPart8
import Derived.Test.YtiachojhnbicaaaDoorPart14
import Derived.Test.YtiachojhnbicaaaDoorPart2
import Derived.Deep.Slices
import Derived.Carry
import Derived.SizedLaws
import Derived.ProofKit
import Derived.Lib.SmallJoins
import Derived.Test.YtiachojhnbicaaaDoorPart5
import Derived.Deep.Strs
namespace Go.Proofs.YtiachojhnbicaaaDoor
open Go.RowKit Go.Shelf
set_option linter.unusedSimpArgs false
set_option linter.unusedVariables false
attribute [local go_sem] Oper.semAt_some

set_option maxRecDepth 100000 in
set_option maxHeartbeats 32000000 in
theorem deltaBack_any (v : Value) (a : List Nat) (u : Value) (b : List Nat) (w : World) (hA : RowA w 1 v a.length (a.map cB)) (hv : RwX cB w v a) (hal : a.length * 1 ≤ 140737488351232) (hx : ∀ z ∈ a, z < 256) (hB : RowA w 1 u b.length (b.map cB)) (hu : RwX cB w u b) (hbl : b.length * 1 ≤ 140737488351232) (hy : ∀ z ∈ b, z < 256) (hT : Hf w) :
    Calls Tryd.prog 5 #[v, u] w fun e w' => e = .returned (.bool true) ∧ Below w.heap.size w w' := by
  obtain ⟨ao, c, hvf, hc, -⟩ := id hv
  obtain ⟨bo, d, huf, hd, -⟩ := id hu
  have HV : Hid (RowA w 1 v a.length (a.map cB) ∧ RwX cB w v a ∧ RowA w 1 u b.length (b.map cB) ∧ RwX cB w u b ∧ (∀ z ∈ a, z < 256) ∧ (∀ z ∈ b, z < 256) ∧ Hf w) := ⟨hA, hv, hB, hu, hx, hy, hT⟩
  subst hvf huf
  clear hA hv hB hu hx hy hc hd hal hbl hT
  go_enter Tryd.func5, Tryd.ntmps5
  go_wp2_with fail
  refine (known21 w).mono ?_
  rintro e w1 ⟨rfl, hb⟩
  have HB1 := hid13 hb
  clear hb
  by_cases h1 : (32768 : Int) < (a.length : Int)
  · have d1 : decide ((32768 : Int) < (a.length : Int)) = true := decide_eq_true h1
    go_wp2
    go_ret
    exact ⟨rfl, HB1.out⟩
  have d1 : decide ((32768 : Int) < (a.length : Int)) = false := decide_eq_false h1
  by_cases h2 : (32768 : Int) < (b.length : Int)
  · have d2 : decide ((32768 : Int) < (b.length : Int)) = true := decide_eq_true h2
    go_wp2
    go_ret
    exact ⟨rfl, HB1.out⟩
  have d2 : decide ((32768 : Int) < (b.length : Int)) = false := decide_eq_false h2
  have HL : Hid (a.length ≤ 32768 ∧ b.length ≤ 32768) := ⟨by omega, by omega⟩
  go_wp2_with fail
  refine (diff21 _ _ a b w1 (HV.out.2.1.below HB1.out) (HV.out.2.2.2.1.below HB1.out) (HV.out.1.below HB1.out) (HV.out.2.2.1.below HB1.out) HV.out.2.2.2.2.1 HV.out.2.2.2.2.2.1 (by have := HL.out; omega) (by have := HL.out; omega)).mono ?_
  rintro e w2 ⟨v2, rfl, hd2, hb⟩
  have HB2 : Hid (Below w.heap.size w w2) := keepb hb HB1.out
  have hwt := wt_df a b
  have hfit := fit_df a b
  have hap := ap_df a b
  have hps := ps_bytes a (dfL a b) hfit (by omega) (by rw [dfL_len]; split <;> decide) (by omega)
  have hE1 : apE a (dfL a b) = 0 := by unfold apE; rw [if_pos hfit]
  have hE2 : byE a (dfL a b) = 0 := by unfold byE; rw [if_pos hfit]
  have hlen := dfL_len a b
  have hbl := byB_lt a (dfL a b) (dfL_lt HV.out.2.2.2.2.2.1) (by omega) (by rw [dfL_len]; split <;> decide) (by omega)
  have hbn : (byB a (dfL a b)).length ≤ 200000 := by
    unfold byB
    rw [if_pos hfit]
    unfold bySum
    rw [ld21_len, byS_len, hlen]
    show _ + 4 * 1 ≤ _
    split <;> omega
  have HD2 := hid13 (dfo_ptr hd2)
  have HF : Hid (wt21 (dfL a b) ≤ b.length ∧ apL a (dfL a b) = b ∧ psR a (byB a (dfL a b)) = (0, dfL a b) ∧ apE a (dfL a b) = 0 ∧ byE a (dfL a b) = 0 ∧ (∀ z ∈ byB a (dfL a b), z < 256) ∧ (byB a (dfL a b)).length ≤ 200000 ∧ (dfL a b).length ≤ 1 ∧ (a = b ↔ (dfL a b).length = 0) ∧ ∀ p ∈ dfL a b, ∀ z ∈ p.x, z < 256) := by
    refine ⟨hwt, hap, hps, hE1, hE2, hbl, hbn, by rw [hlen]; split <;> decide, ?_, dfL_lt HV.out.2.2.2.2.2.1⟩
    rw [hlen]
    by_cases hab : a = b
    · rw [if_pos hab]; exact ⟨fun _ => rfl, fun _ => hab⟩
    · rw [if_neg hab]; exact ⟨fun h => absurd h hab, fun h => by cases h⟩
  obtain ⟨o2, c2, hv2⟩ : ∃ o c, v2 = .slice o (dfL a b).length c := by obtain ⟨o, c, h, -⟩ := HD2.out; exact ⟨o, c, h⟩
  subst hv2
  clear hd2 hb hwt hfit hap hps hE1 hE2 hlen hbl hbn HB1 d1 d2 h1 h2
  generalize dfL a b = L at *
  go_wp2_with fail
  refine (apply21 _ a _ L w2 (HV.out.1.below HB2.out) HD2.out (by have := HF.out; omega) (by have := HF.out; have := HL.out; omega)).mono ?_
  rintro e w3 ⟨v3, rfl, ho3, hb⟩
  rw [HF.out.2.2.2.1]
  have HB3 : Hid (Below w.heap.size w w3) := keepb hb HB2.out
  have HD3 := hid13 (HD2.out.below hb)
  rw [HF.out.2.1] at ho3
  have HO3 := hid13 (own_base16 ho3 HB2.out.size)
  clear hb ho3 HD2 HB2
  go_wp2_with fail
  refine (bytes21 _ a _ L w3 (HV.out.2.1.below HB3.out) HV.out.2.2.2.2.1 HD3.out HF.out.2.2.2.2.2.2.2.2.2 (by have := HL.out; omega) (by have := HF.out; omega) (by have := HF.out; have := HL.out; omega) (HV.out.2.2.2.2.2.2.below HB3.out)).mono ?_
  rintro e w4 ⟨v4, rfl, ho4, hb⟩
  rw [HF.out.2.2.2.2.1]
  have HB4 : Hid (Below w.heap.size w w4) := keepb hb HB3.out
  have HD4 := hid13 (HD3.out.below hb)
  have HO4 := hid13 (own_b13 hb HO3.out)
  have HQ4 := hid13 (own_base16 ho4 HB3.out.size)
  obtain ⟨q1, q2, hq4⟩ := own_form HQ4.out
  subst hq4
  clear hb ho4 HD3 HB3 HO3
  go_wp2_with fail
  refine (parse21 _ a _ (byB a L) w4 (HV.out.2.1.below HB4.out) HV.out.2.2.2.2.1 (by have := HL.out; omega) (own_rwx HQ4.out) (own_rowA HQ4.out) HF.out.2.2.2.2.2.1 (by have := HF.out; omega) (HV.out.2.2.2.2.2.2.below HB4.out)).mono ?_
  rintro e w5 ⟨v5, rfl, hp5, hb⟩
  rw [HF.out.2.2.1] at hp5 ⊢
  simp only at hp5 ⊢
  have HB5 : Hid (Below w.heap.size w w5) := keepb hb HB4.out
  have HD5 := hid13 (And.intro (HD4.out.below hb) hp5)
  have HO5 := hid13 (own_b13 hb HO4.out)
  obtain ⟨o5, c5, hv5⟩ : ∃ o c, v5 = .slice o L.length c := by obtain ⟨o, c, h, -⟩ := hp5; exact ⟨o, c, h⟩
  subst hv5
  obtain ⟨p1, p2, hp3⟩ := own_form HO5.out
  subst hp3
  clear hb hp5 HD4 HB4 HO4 HQ4
  have cA := conv13 (HV.out.2.1.below HB5.out) HV.out.2.2.2.2.1
  have cBb := conv13 (HV.out.2.2.2.1.below HB5.out) HV.out.2.2.2.2.2.1
  have cO := conv13 (own_rwx HO5.out) HV.out.2.2.2.2.2.1
  have hbq := bsA_eq HV.out.2.2.2.2.1 HV.out.2.2.2.2.2.1
  have hbb : ((bsA b).toList == (bsA b).toList) = true := by simp
  have hLe : decide ((L.length : Int) ≤ 1) = true := decide_eq_true (by have := HF.out; omega)
  have hL0 : ((L.length : Int) == 0) = decide (a = b) := by
    have := HF.out.2.2.2.2.2.2.2.2.1
    rw [Bool.eq_iff_iff]
    simp only [beq_iff_eq, decide_eq_true_eq]
    rw [this]
    omega
  generalize bsA a = sa at *
  generalize bsA b = sb at *
  obtain ⟨q, hq⟩ : ∃ q, q = decide (a = b) := ⟨_, rfl⟩
  rw [← hq] at hbq hL0
  clear hq
  have hle2 : decide (((wt21 L : Nat) : Int) ≤ (b.length : Int)) = true := decide_eq_true (by have := HF.out; omega)
  obtain ⟨wl, hwl⟩ : ∃ wl, wl = wt21 L := ⟨_, rfl⟩
  have hle3 : decide (wt21 L ≤ b.length) = true := decide_eq_true HF.out.1
  have HWL := hid13 hwl
  rw [← hwl] at hle2 hle3
  have hle4 : (wl : Int) ≤ (b.length : Int) := by have := HF.out.1; omega
  clear hwl
  have KS := same21 _ _ L L w5 HD5.out.1 HD5.out.2 HF.out.2.2.2.2.2.2.2.2.2 HF.out.2.2.2.2.2.2.2.2.2 (by have := HF.out; omega)
  rw [smL_self] at KS
  cases q with
  | true =>
    go_wp2_with fail
    refine KS.mono ?_
    rintro e w6 ⟨rfl, hb⟩
    have HB6 : Hid (Below w.heap.size w w6) := keepb hb HB5.out
    have KW := weight21 _ L w6 (HD5.out.1.below hb) (by have := HF.out; omega) (by have := HF.out; have := HL.out; omega)
    rw [← HWL.out] at KW
    clear hb
    go_wp2_with fail
    refine KW.mono ?_
    rintro e w7 ⟨rfl, hb⟩
    have HB7 : Hid (Below w.heap.size w w7) := keepb hb HB6.out
    clear hb KW KS
    go_wp2
    go_ret
    exact ⟨rfl, HB7.out⟩
  | false =>
    go_wp2_with fail
    refine KS.mono ?_
    rintro e w6 ⟨rfl, hb⟩
    have HB6 : Hid (Below w.heap.size w w6) := keepb hb HB5.out
    have KW := weight21 _ L w6 (HD5.out.1.below hb) (by have := HF.out; omega) (by have := HF.out; have := HL.out; omega)
    rw [← HWL.out] at KW
    clear hb
    go_wp2_with fail
    refine KW.mono ?_
    rintro e w7 ⟨rfl, hb⟩
    have HB7 : Hid (Below w.heap.size w w7) := keepb hb HB6.out
    clear hb KW KS
    go_wp2
    go_ret
    exact ⟨rfl, HB7.out⟩
end Go.Proofs.YtiachojhnbicaaaDoor
namespace Go.Proofs.YtiachojhnbicaaaDoor
open Go.ChangeShapes Go.WideShapes Go.ChangeAt Go.RowKit Go.Joins
set_option linter.unusedSimpArgs false
set_option linter.unusedVariables false

theorem Tryd.laidOut : laidOutB Tryd.prog = true := by kernel_rfl
theorem reach13 : reachBytes ≤ 140737488351232 := by decide
section
variable {H : Type} {enc : TypeId × Value → H} {w : World} {spare : Nat → Bool} {held : Bool}
theorem RwX.map13 {α β : Type} {f : α → Value} {g : β → Value} (h : α → β) {v : Value} {l : List α} (hr : RwX f w v l) (he : ∀ x ∈ l, f x = g (h x)) : RwX g w v (l.map h) := by
  obtain ⟨ao, c, e, hc, hr⟩ := hr
  refine ⟨ao, c, by rw [List.length_map]; exact e, by rw [List.length_map]; exact hc, ?_⟩
  rcases hr with hr | ⟨b, off, e, hr⟩
  · exact .inl (by rw [hr]; rfl)
  · refine .inr ⟨b, off, e, fun j x hj => ?_⟩
    rw [List.getElem?_map] at hj
    cases hx : l[j]? with
    | none => rw [hx] at hj; cases hj
    | some y =>
      rw [hx] at hj
      simp only [Option.map_some, Option.some.injEq] at hj
      rw [hr j y hx, he y (List.mem_of_getElem? hx), hj]
set_option maxRecDepth 100000 in
theorem open_ints13 {t e : TypeId} {k : IntKind} (ht : Tryd.prog.underlying t = some (.slice e)) (he : Tryd.prog.underlying e = some (.int k)) (hce : Tryd.prog.cellsOf e = 1) {r : Reach} {b0 : Nat} {v : Value} {d : DataW H} {p : List MemPlace} (hv : Value.okWide Tryd.prog w r b0 t v) (h : DataW.Trod enc Tryd.prog w 0 (fun _ => true) held t v d p) :
    ∃ l : List Int, RowA w 1 v l.length (l.map fun a => .int k a) ∧ RwX (fun a => Value.int k a) w v l ∧ (∀ a ∈ l, (Lit.int k a).wf = true) ∧ (l = [] ∨ ∃ el sp, d = .slice el sp ∧ el.length = l.length) := by
  obtain ⟨a0, len, cap, rfl⟩ := okWide_slice ht hv
  obtain ⟨fuel, hf⟩ := h
  rcases Deep.open_slice ht hf with ⟨hcs, hx⟩ | ⟨a, len', cap', m, n, D, Pl, hcs, _, hl, hm, hmm, hx, hel⟩
  · simp [Value.cells] at hcs
    obtain ⟨rfl, rfl, rfl⟩ := hcs
    exact ⟨[], ⟨rfl, none, 0, rfl, Nat.le_refl _, .inl ⟨rfl, rfl, rfl⟩⟩, ⟨none, 0, rfl, Nat.le_refl _, .inl rfl⟩, (fun _ h => by cases h), .inl rfl⟩
  · simp [Value.cells] at hcs
    obtain ⟨rfl, rfl, rfl⟩ := hcs
    simp at hmm
    subst hmm
    rw [hce] at hel
    obtain ⟨f, hf⟩ := Deep.choose_lt (α := Int) (n := len) (p := fun i x => w.cell? (a.add i) = some (.int k x) ∧ (Lit.int k x).wf = true) (fun i hi => by
      obtain ⟨cs', h1, h2⟩ := hel i (by omega)
      obtain ⟨_, hlen, hc⟩ := World.cells?_some h1
      match cs', hlen with
      | [c0], _ =>
        obtain ⟨x, ex, -, wx⟩ := DataW.trod_int he h2
        simp at ex
        subst ex
        refine ⟨x, ?_, wx⟩
        have := hc 0 (by omega)
        simpa [Addr.add] using this)
    have hlen : ((List.range len).map f).length = len := by simp
    have hcells : ∀ j x, ((List.range len).map f)[j]? = some x → w.cell? (a.add j) = some (.int k x) := by
      intro j x hj
      have hlt : j < len := by have := (List.getElem?_eq_some_iff.1 hj).1; simpa using this
      rw [List.getElem?_map, List.getElem?_range hlt] at hj
      simp only [Option.map_some, Option.some.injEq] at hj
      rw [← hj]; exact (hf j hlt).1
    refine ⟨(List.range len).map f, ⟨by simp, some a, m, by rw [hlen], by rw [hlen]; exact hl, .inr ⟨a, rfl, fun j u hj => ?_⟩⟩, ⟨some a, m, by rw [hlen], by rw [hlen]; exact hl, ?_⟩, ?_, ?_⟩
    · rw [List.getElem?_map] at hj
      cases hx : ((List.range len).map f)[j]? with
      | none => rw [hx] at hj; cases hj
      | some y =>
        rw [hx] at hj
        simp only [Option.map_some, Option.some.injEq] at hj
        rw [← hj]; exact hcells j y hx
    · by_cases hz : len = 0
      · subst hz
        exact .inl (by simp)
      · have h00 := (hf 0 (by omega)).1
        have ea : a = ⟨a.block, a.off, none⟩ := by
          have : a.add 0 = a := by simp [Addr.add]
          rw [this] at h00
          exact spot9 h00
        refine .inr ⟨a.block, a.off, by rw [← ea], fun j u hj => ?_⟩
        have := hcells j u hj
        rw [ea, addA] at this
        exact this
    · intro x hx
      simp only [List.mem_map, List.mem_range] at hx
      obtain ⟨i, hi, rfl⟩ := hx
      exact (hf i hi).2
    · simp only [Prod.mk.injEq] at hx
      exact .inr ⟨_, _, hx.1, by simp⟩
end
end Go.Proofs.YtiachojhnbicaaaDoor
namespace Go.Proofs.YtiachojhnbicaaaDoor
open Go.ChangeShapes Go.WideShapes Go.ChangeAt Go.RowKit Go.Joins
set_option linter.unusedSimpArgs false
set_option linter.unusedVariables false

section
variable {H : Type} {enc : TypeId × Value → H} {w : World} {spare : Nat → Bool} {held : Bool}
end
end Go.Proofs.YtiachojhnbicaaaDoor
namespace Go.Proofs.YtiachojhnbicaaaDoor
open Go.ChangeShapes Go.WideShapes Go.ChangeAt Go.RowKit Go.Joins
set_option linter.unusedSimpArgs false
set_option linter.unusedVariables false

section
variable {H : Type} {enc : TypeId × Value → H} {w : World} {spare : Nat → Bool} {held : Bool}
end
end Go.Proofs.YtiachojhnbicaaaDoor
