/-
  Part 15 of the proof: 4 texts, one behind the other.
-/
import Derived.Test.YtiachojhnbicaaaDoorPart8
import Derived.Test.YtiachojhnbicaaaDoorPart14
import Derived.Test.YtiachojhnbicaaaDoorPart11
import Derived.Test.YtiachojhnbicaaaDoorPart2
import Derived.Deep.Slices
import Derived.Carry
import Derived.SizedLaws
import Derived.ProofKit
import Derived.Lib.SmallJoins
import Derived.Test.YtiachojhnbicaaaDoorPart5
import Derived.Deep.Strs
namespace Go.Proofs.YtiachojhnbicaaaDoor
open Go.RowKit Go.Shelf
set_option linter.unusedSimpArgs false
set_option linter.unusedVariables false
attribute [local go_sem] Oper.semAt_some

theorem few_wt21W {L : List Pt} (h : fewB21 L = true) : L.length < 500 ∧ wt21 L < 32768 := by
  unfold fewB21 at h
  rw [Bool.and_eq_true, decide_eq_true_eq, decide_eq_true_eq] at h
  refine ⟨h.1, ?_⟩
  have := h.2
  rw [List.take_of_length_le (by omega)] at this
  exact this
set_option maxRecDepth 100000 in
set_option maxHeartbeats 32000000 in
theorem deltaWeight_any (u : Value) (a : List Nat) (v : Value) (L : List Pt) (w : World) (hA : RowA w 1 u a.length (a.map cB)) (hu : RwX cB w u a) (hal : a.length * 1 ≤ 140737488351232) (hx : ∀ z ∈ a, z < 256) (hv : PtR21 w v L) (hp : ∀ p ∈ L, (∀ z ∈ p.x, z < 256) ∧ (-9223372036854775808 ≤ p.k ∧ p.k ≤ 9223372036854775807) ∧ (-9223372036854775808 ≤ p.d ∧ p.d ≤ 9223372036854775807)) (hl : L.length ≤ 140737488355328 ∧ ∀ d' ∈ L, d'.x.length ≤ 140737488355328) (hT : Hf w) :
    Calls Tryd.prog 6 #[u, v] w fun e w' => e = .returned (.bool true) ∧ Below w.heap.size w w' := by
  obtain ⟨ao, c, hvf, hc, -⟩ := id hu
  obtain ⟨bo, d, huf, hd, -⟩ := id hv
  have HV : Hid (RowA w 1 u a.length (a.map cB) ∧ RwX cB w u a ∧ PtR21 w v L ∧ (∀ z ∈ a, z < 256) ∧ (∀ p ∈ L, ∀ z ∈ p.x, z < 256) ∧ Hf w) := ⟨hA, hu, hv, hx, fun p h => (hp p h).1, hT⟩
  have HS := hid13 hl
  subst hvf huf
  clear hA hv hu hx hp hl hT hc hd hal
  go_enter Tryd.func6, Tryd.ntmps6
  go_wp2_with fail
  refine (known21 w).mono ?_
  rintro e w1 ⟨rfl, hb⟩
  have HB1 := hid13 hb
  clear hb
  by_cases h1 : (32768 : Int) < (a.length : Int)
  · have d1 : decide ((32768 : Int) < (a.length : Int)) = true := decide_eq_true h1
    go_wp2
    go_ret
    exact ⟨rfl, HB1.out⟩
  have d1 : decide ((32768 : Int) < (a.length : Int)) = false := decide_eq_false h1
  have KF := few21 _ L w1 (HV.out.2.2.1.below HB1.out) HS.out.1 HS.out.2
  cases hfw : fewB21 L with
  | false =>
    rw [hfw] at KF
    clear hfw
    go_wp2_with fail
    refine KF.mono ?_
    rintro e w2 ⟨rfl, hb⟩
    have HB2 : Hid (Below w.heap.size w w2) := keepb hb HB1.out
    clear hb KF
    go_wp2
    go_ret
    exact ⟨rfl, HB2.out⟩
  | true =>
    rw [hfw] at KF
    have hfs := few_wt21W hfw
    have HL : Hid (a.length ≤ 32768 ∧ L.length < 500 ∧ wt21 L < 32768) := ⟨by omega, hfs.1, hfs.2⟩
    clear hfw hfs
    go_wp2_with fail
    refine KF.mono ?_
    rintro e w2 ⟨rfl, hb⟩
    have HB2 : Hid (Below w.heap.size w w2) := keepb hb HB1.out
    clear hb KF HB1 d1 h1
    go_wp2_with fail
    refine (apply21 _ a _ L w2 (HV.out.1.below HB2.out) (HV.out.2.2.1.below HB2.out) (by have := HL.out; omega) (by have := HL.out; omega)).mono ?_
    rintro e w3 ⟨v3, rfl, ho3, hb⟩
    have HB3 : Hid (Below w.heap.size w w3) := keepb hb HB2.out
    have HO3 := hid13 (own_base16 ho3 HB2.out.size)
    clear hb ho3 HB2
    have KR := rfit21 (a.length : Int) _ L w3 (by omega) (by have := HL.out; omega) (HV.out.2.2.1.below HB3.out) (by have := HL.out; omega)
    cases hfb : fitB (a.length : Int) L with
    | false =>
      have hE : apE a L = 33 := by unfold apE; rw [hfb]; rfl
      have hEl : apL a L = [] := by unfold apL; rw [hfb]; rfl
      rw [hE]
      have HO3' := HO3.out
      rw [hEl] at HO3'
      obtain ⟨p1, p2, hp3⟩ := own_form HO3'
      rw [hfb] at KR
      subst hp3
      clear HO3' HO3 hE hEl hfb
      go_wp2_with fail
      refine KR.mono ?_
      rintro e w4 ⟨rfl, hb⟩
      have HB4 : Hid (Below w.heap.size w w4) := keepb hb HB3.out
      clear hb KR
      go_wp2
      go_ret
      exact ⟨rfl, HB4.out⟩
    | true =>
      have HF : Hid (fitB (a.length : Int) L = true) := hfb
      have hE : apE a L = 0 := by unfold apE; rw [hfb]; rfl
      rw [hE]
      rw [hfb] at KR
      have hln := ap_len21 a L hfb
      have hps := ps_bytes a L hfb (by have := HL.out; omega) (by have := HL.out; omega) (by have := HL.out; omega)
      have hE2 : byE a L = 0 := by unfold byE; rw [if_pos hfb]
      have hbl := byB_lt a L HV.out.2.2.2.2.1 (by have := HL.out; omega) (by have := HL.out; omega) (by have := HL.out; omega)
      have hbn : (byB a L).length ≤ 200000 := by
        unfold byB
        rw [if_pos hfb]
        unfold bySum
        rw [ld21_len, byS_len]
        show _ + 4 * 1 ≤ _
        have := HL.out
        omega
      have HP : Hid ((((apL a L).length : Nat) : Int) + dr21 L = (a.length : Int) + (wt21 L : Nat) ∧ (∀ k, 0 ≤ dr21 (L.take k) ∧ dr21 (L.take k) ≤ a.length) ∧ psR a (byB a L) = (0, L) ∧ byE a L = 0 ∧ (∀ z ∈ byB a L, z < 256) ∧ (byB a L).length ≤ 200000) := ⟨hln.1, hln.2, hps, hE2, hbl, hbn⟩
      obtain ⟨p1, p2, hp3⟩ := own_form HO3.out
      subst hp3
      clear hE hfb hln hps hE2 hbl hbn HO3
      obtain ⟨AL, hAL⟩ : ∃ n, n = (apL a L).length := ⟨_, rfl⟩
      have HAL := hid13 hAL
      rw [← hAL]
      clear hAL
      go_wp2_with fail
      refine KR.mono ?_
      rintro e w4 ⟨rfl, hb⟩
      have HB4 : Hid (Below w.heap.size w w4) := keepb hb HB3.out
      have KW := weight21 _ L w4 (HV.out.2.2.1.below HB4.out) (by have := HL.out; omega) (by have := HL.out; omega)
      clear hb KR HB3
      obtain ⟨WT, hWT⟩ : ∃ n, n = wt21 L := ⟨_, rfl⟩
      have HWT := hid13 hWT
      rw [← hWT] at KW
      have ww : IntKind.i64.wrap ((a.length : Int) + (WT : Int)) = (a.length : Int) + (WT : Int) := by rw [IntKind.wrap_i64]; have := HL.out; omega
      clear hWT
      go_wp2_with fail
      refine KW.mono ?_
      rintro e w5 ⟨rfl, hb⟩
      have HB5 : Hid (Below w.heap.size w w5) := keepb hb HB4.out
      clear hb KW HB4
      go_wp2
      go_loopg [7, 8] L.length (fun g s x wr => ∃ (k : Nat) (S : Int), k + g = L.length ∧ s = .int .i64 S ∧ x = .int .i64 (k : Int) ∧ Hid (S = (a.length : Int) + (WT : Int) - dr21 (L.take k)) ∧ Hid (wr = w5))
      case atStart => exact ⟨0, _, by omega, rfl, rfl, by show _ = _; simp [dr21], rfl⟩
      case round =>
        obtain ⟨k, S, hk, rfl, rfl, HSm, HWr⟩ := hrel
        have hwr := HWr.out
        subst hwr
        by_cases hlt : k < L.length
        · have l1 : (k : Int) < (L.length : Int) := by omega
          obtain ⟨p, hp⟩ : ∃ p, L[k]? = some p := ⟨L[k], by simp [hlt]⟩
          obtain ⟨b1, f1, xo, xc, hao, r0, r1, r2, -, -⟩ := ptr_at (HV.out.2.2.1.below HB5.out) hp
          subst hao
          have hd1 := dr21_take hp
          have hb0 := HP.out.2.1 k
          have hb1 := HP.out.2.1 (k + 1)
          have wk : IntKind.i64.wrap ((k : Int) + 1) = (k : Int) + 1 := by rw [IntKind.wrap_i64]; have := HL.out; omega
          have ws : IntKind.i64.wrap (S - p.d) = S - p.d := by rw [IntKind.wrap_i64]; have := HL.out; have := HSm.out; have := HWT.out; omega
          have HK : Hid (k < L.length ∧ k + gk = L.length ∧ S - p.d = (a.length : Int) + (WT : Int) - dr21 (L.take (k + 1))) := ⟨hlt, hk, by rw [hd1, HSm.out]; omega⟩
          clear hp hlt hk hd1 hb0 hb1 r0 r2
          go_wp2
          go_roundg (gk - 1)
          case measure => have := HK.out; omega
          case rel => exact ⟨k + 1, S - p.d, by have := HK.out; omega, rfl, rfl, HK.out.2.2, rfl⟩
        · have l1 : ¬ (k : Int) < (L.length : Int) := by omega
          have HE : Hid (S = (AL : Int)) := by
            show _ = _
            rw [HSm.out, List.take_of_length_le (by omega), HAL.out]
            have := HP.out.1
            rw [← HWT.out] at this
            omega
          rw [HE.out]
          clear hlt hk
          go_wp2_with fail
          refine (bytes21 _ a _ L _ (HV.out.2.1.below HB5.out) HV.out.2.2.2.1 (HV.out.2.2.1.below HB5.out) HV.out.2.2.2.2.1 (by have := HL.out; omega) (by have := HL.out; omega) (by have := HL.out; omega) (HV.out.2.2.2.2.2.below HB5.out)).mono ?_
          rintro e w6 ⟨v6, rfl, ho6, hb⟩
          rw [HP.out.2.2.2.1]
          have HB6 : Hid (Below w.heap.size w w6) := keepb hb HB5.out
          have HQ6 := hid13 (own_base16 ho6 HB5.out.size)
          obtain ⟨q1, q2, hq6⟩ := own_form HQ6.out
          subst hq6
          clear hb ho6
          go_wp2_with fail
          refine (parse21 _ a _ (byB a L) w6 (HV.out.2.1.below HB6.out) HV.out.2.2.2.1 (by have := HL.out; omega) (own_rwx HQ6.out) (own_rowA HQ6.out) HP.out.2.2.2.2.1 (by have := HP.out; omega) (HV.out.2.2.2.2.2.below HB6.out)).mono ?_
          rintro e w7 ⟨v7, rfl, hp7, hb⟩
          rw [HP.out.2.2.1] at hp7 ⊢
          simp only at hp7 ⊢
          have HB7 : Hid (Below w.heap.size w w7) := keepb hb HB6.out
          have HP7 := hid13 hp7
          obtain ⟨o7, c7, hv7⟩ : ∃ o c, v7 = .slice o L.length c := by obtain ⟨o, c, h, -⟩ := hp7; exact ⟨o, c, h⟩
          subst hv7
          clear hb hp7 HQ6
          have KS := same21 _ _ L L w7 HP7.out (HV.out.2.2.1.below HB7.out) HV.out.2.2.2.2.1 HV.out.2.2.2.2.1 (by have := HL.out; omega)
          rw [smL_self] at KS
          go_wp2_with fail
          refine KS.mono ?_
          rintro e w8 ⟨rfl, hb⟩
          have HB8 : Hid (Below w.heap.size w w8) := keepb hb HB7.out
          clear hb KS
          go_wp2
          go_ret
          exact ⟨rfl, HB8.out⟩
end Go.Proofs.YtiachojhnbicaaaDoor
namespace Go.Proofs.YtiachojhnbicaaaDoor
open Go.ChangeShapes Go.WideShapes Go.ChangeAt Go.RowKit Go.Joins
set_option linter.unusedSimpArgs false
set_option linter.unusedVariables false

theorem Tryd.laidOut : laidOutB Tryd.prog = true := by kernel_rfl
theorem reach13 : reachBytes ≤ 140737488351232 := by decide
section
variable {H : Type} {enc : TypeId × Value → H} {w : World} {spare : Nat → Bool} {held : Bool}
theorem RwX.map13 {α β : Type} {f : α → Value} {g : β → Value} (h : α → β) {v : Value} {l : List α} (hr : RwX f w v l) (he : ∀ x ∈ l, f x = g (h x)) : RwX g w v (l.map h) := by
  obtain ⟨ao, c, e, hc, hr⟩ := hr
  refine ⟨ao, c, by rw [List.length_map]; exact e, by rw [List.length_map]; exact hc, ?_⟩
  rcases hr with hr | ⟨b, off, e, hr⟩
  · exact .inl (by rw [hr]; rfl)
  · refine .inr ⟨b, off, e, fun j x hj => ?_⟩
    rw [List.getElem?_map] at hj
    cases hx : l[j]? with
    | none => rw [hx] at hj; cases hj
    | some y =>
      rw [hx] at hj
      simp only [Option.map_some, Option.some.injEq] at hj
      rw [hr j y hx, he y (List.mem_of_getElem? hx), hj]
set_option maxRecDepth 100000 in
theorem open_ints13 {t e : TypeId} {k : IntKind} (ht : Tryd.prog.underlying t = some (.slice e)) (he : Tryd.prog.underlying e = some (.int k)) (hce : Tryd.prog.cellsOf e = 1) {r : Reach} {b0 : Nat} {v : Value} {d : DataW H} {p : List MemPlace} (hv : Value.okWide Tryd.prog w r b0 t v) (h : DataW.Trod enc Tryd.prog w 0 (fun _ => true) held t v d p) :
    ∃ l : List Int, RowA w 1 v l.length (l.map fun a => .int k a) ∧ RwX (fun a => Value.int k a) w v l ∧ (∀ a ∈ l, (Lit.int k a).wf = true) ∧ (l = [] ∨ ∃ el sp, d = .slice el sp ∧ el.length = l.length) := by
  obtain ⟨a0, len, cap, rfl⟩ := okWide_slice ht hv
  obtain ⟨fuel, hf⟩ := h
  rcases Deep.open_slice ht hf with ⟨hcs, hx⟩ | ⟨a, len', cap', m, n, D, Pl, hcs, _, hl, hm, hmm, hx, hel⟩
  · simp [Value.cells] at hcs
    obtain ⟨rfl, rfl, rfl⟩ := hcs
    exact ⟨[], ⟨rfl, none, 0, rfl, Nat.le_refl _, .inl ⟨rfl, rfl, rfl⟩⟩, ⟨none, 0, rfl, Nat.le_refl _, .inl rfl⟩, (fun _ h => by cases h), .inl rfl⟩
  · simp [Value.cells] at hcs
    obtain ⟨rfl, rfl, rfl⟩ := hcs
    simp at hmm
    subst hmm
    rw [hce] at hel
    obtain ⟨f, hf⟩ := Deep.choose_lt (α := Int) (n := len) (p := fun i x => w.cell? (a.add i) = some (.int k x) ∧ (Lit.int k x).wf = true) (fun i hi => by
      obtain ⟨cs', h1, h2⟩ := hel i (by omega)
      obtain ⟨_, hlen, hc⟩ := World.cells?_some h1
      match cs', hlen with
      | [c0], _ =>
        obtain ⟨x, ex, -, wx⟩ := DataW.trod_int he h2
        simp at ex
        subst ex
        refine ⟨x, ?_, wx⟩
        have := hc 0 (by omega)
        simpa [Addr.add] using this)
    have hlen : ((List.range len).map f).length = len := by simp
    have hcells : ∀ j x, ((List.range len).map f)[j]? = some x → w.cell? (a.add j) = some (.int k x) := by
      intro j x hj
      have hlt : j < len := by have := (List.getElem?_eq_some_iff.1 hj).1; simpa using this
      rw [List.getElem?_map, List.getElem?_range hlt] at hj
      simp only [Option.map_some, Option.some.injEq] at hj
      rw [← hj]; exact (hf j hlt).1
    refine ⟨(List.range len).map f, ⟨by simp, some a, m, by rw [hlen], by rw [hlen]; exact hl, .inr ⟨a, rfl, fun j u hj => ?_⟩⟩, ⟨some a, m, by rw [hlen], by rw [hlen]; exact hl, ?_⟩, ?_, ?_⟩
    · rw [List.getElem?_map] at hj
      cases hx : ((List.range len).map f)[j]? with
      | none => rw [hx] at hj; cases hj
      | some y =>
        rw [hx] at hj
        simp only [Option.map_some, Option.some.injEq] at hj
        rw [← hj]; exact hcells j y hx
    · by_cases hz : len = 0
      · subst hz
        exact .inl (by simp)
      · have h00 := (hf 0 (by omega)).1
        have ea : a = ⟨a.block, a.off, none⟩ := by
          have : a.add 0 = a := by simp [Addr.add]
          rw [this] at h00
          exact spot9 h00
        refine .inr ⟨a.block, a.off, by rw [← ea], fun j u hj => ?_⟩
        have := hcells j u hj
        rw [ea, addA] at this
        exact this
    · intro x hx
      simp only [List.mem_map, List.mem_range] at hx
      obtain ⟨i, hi, rfl⟩ := hx
      exact (hf i hi).2
    · simp only [Prod.mk.injEq] at hx
      exact .inr ⟨_, _, hx.1, by simp⟩
end
end Go.Proofs.YtiachojhnbicaaaDoor
namespace Go.Proofs.YtiachojhnbicaaaDoor
open Go.ChangeShapes Go.WideShapes Go.ChangeAt Go.RowKit Go.Joins
set_option linter.unusedSimpArgs false
set_option linter.unusedVariables false

section
variable {H : Type} {enc : TypeId × Value → H} {w : World} {spare : Nat → Bool} {held : Bool}
set_option maxRecDepth 100000 in
theorem open_in13 {t e : TypeId} {k : IntKind} (ht : Tryd.prog.underlying t = some (.slice e)) (he : Tryd.prog.underlying e = some (.int k)) (hce : Tryd.prog.cellsOf e = 1) {fuel : Nat} {v : Value} {x : DataW H × List MemPlace} (h : DataW.trod enc Tryd.prog w 0 (fun _ => true) held fuel t [v] = some x) :
    ∃ l : List Int, RowA w 1 v l.length (l.map fun a => .int k a) ∧ RwX (fun a => Value.int k a) w v l ∧ (∀ a ∈ l, (Lit.int k a).wf = true) ∧ (l = [] ∨ ∃ el sp, x.1 = .slice el sp ∧ el.length = l.length) := by
  rcases Deep.open_slice1 ht hce h with ⟨hcs, hx⟩ | ⟨a, len, cap, m, n, V, D, Pl, hcs, _, hl, hm, hmm, hx, hel⟩
  · injection hcs with hcs
    subst hcs
    exact ⟨[], ⟨rfl, none, 0, rfl, Nat.le_refl _, .inl ⟨rfl, rfl, rfl⟩⟩, ⟨none, 0, rfl, Nat.le_refl _, .inl rfl⟩, (fun _ h => by cases h), .inl rfl⟩
  · injection hcs with hcs
    subst hcs
    simp at hmm
    subst hmm
    obtain ⟨f, hf⟩ := Deep.choose_lt (α := Int) (n := len) (p := fun i x => w.cell? (a.add i) = some (.int k x) ∧ (Lit.int k x).wf = true) (fun i hi => by
      obtain ⟨h1, h2⟩ := hel i (by omega)
      obtain ⟨x, ex, -, wx⟩ := DataW.trod_int he h2
      simp at ex
      rw [ex] at h1
      exact ⟨x, h1, wx⟩)
    have hlen : ((List.range len).map f).length = len := by simp
    have hcells : ∀ j x, ((List.range len).map f)[j]? = some x → w.cell? (a.add j) = some (.int k x) := by
      intro j x hj
      have hlt : j < len := by have := (List.getElem?_eq_some_iff.1 hj).1; simpa using this
      rw [List.getElem?_map, List.getElem?_range hlt] at hj
      simp only [Option.map_some, Option.some.injEq] at hj
      rw [← hj]; exact (hf j hlt).1
    refine ⟨(List.range len).map f, ⟨by simp, some a, m, by rw [hlen], by rw [hlen]; exact hl, .inr ⟨a, rfl, fun j u hj => ?_⟩⟩, ⟨some a, m, by rw [hlen], by rw [hlen]; exact hl, ?_⟩, ?_, ?_⟩
    · rw [List.getElem?_map] at hj
      cases hx : ((List.range len).map f)[j]? with
      | none => rw [hx] at hj; cases hj
      | some y =>
        rw [hx] at hj
        simp only [Option.map_some, Option.some.injEq] at hj
        rw [← hj]; exact hcells j y hx
    · by_cases hz : len = 0
      · subst hz
        exact .inl (by simp)
      · have h00 := (hf 0 (by omega)).1
        have ea : a = ⟨a.block, a.off, none⟩ := by
          have : a.add 0 = a := by simp [Addr.add]
          rw [this] at h00
          exact spot9 h00
        refine .inr ⟨a.block, a.off, by rw [← ea], fun j u hj => ?_⟩
        have := hcells j u hj
        rw [ea, addA] at this
        exact this
    · intro x hx
      simp only [List.mem_map, List.mem_range] at hx
      obtain ⟨i, hi, rfl⟩ := hx
      exact (hf i hi).2
    · rw [hx]
      exact .inr ⟨_, _, rfl, by simp⟩
theorem weightsAll_mem {P : Program} {e : TypeId} {n : Nat} {d : DataW H} : ∀ {el : List (DataW H)}, d ∈ el → n ∈ d.weights P e → n ∈ DataW.weightsAll P e el
  | x :: el, hd, hn => by
    rcases List.mem_cons.1 hd with rfl | hd
    · simp [DataW.weightsAll, hn]
    · simp [DataW.weightsAll, weightsAll_mem hd hn]
end
end Go.Proofs.YtiachojhnbicaaaDoor
namespace Go.Proofs.YtiachojhnbicaaaDoor
open Go.ChangeShapes Go.WideShapes Go.ChangeAt Go.RowKit Go.Joins
set_option linter.unusedSimpArgs false
set_option linter.unusedVariables false

theorem Tryd.cells21a : Tryd.prog.cellsOf 3 = 1 := by kernel_rfl
theorem Tryd.cells21b : Tryd.prog.cellsOf 22 = 1 := by kernel_rfl
theorem Tryd.cells21c : Tryd.prog.cellsOf 34 = 3 := by kernel_rfl
theorem i64_bd21 {a : Int} (h : (Lit.int .i64 a).wf = true) : -9223372036854775808 ≤ a ∧ a ≤ 9223372036854775807 := by
  simp [Lit.wf, IntKind.min, IntKind.max, IntKind.signed, IntKind.bits] at h; omega
theorem u8_bd21 {a : Int} (h : (Lit.int .u8 a).wf = true) : 0 ≤ a ∧ a < 256 := by
  simp [Lit.wf, IntKind.min, IntKind.max, IntKind.signed, IntKind.bits] at h; omega
structure PtIn21 (w : World) (v : Value) (p : Pt) : Prop where
  r : RwX cB w v p.x
  a : RowA w 1 v p.x.length (p.x.map cB)
  b : ∀ z ∈ p.x, z < 256
  k : -9223372036854775808 ≤ p.k ∧ p.k ≤ 9223372036854775807
  d : -9223372036854775808 ≤ p.d ∧ p.d ≤ 9223372036854775807
section
variable {H : Type} {enc : TypeId × Value → H} {w : World} {spare : Nat → Bool} {held : Bool}
def rlD21 (d : DataW H) (n : Nat) : Prop := n = 0 ∨ ∃ el sp, d = .slice el sp ∧ el.length = n
set_option maxRecDepth 100000 in
theorem trod_patch21 {n : Nat} {c0 c1 c2 : Value} {x : DataW H × List MemPlace} (h : DataW.trod enc Tryd.prog w 0 (fun _ => true) held n 34 [c0, c1, c2] = some x) :
    ∃ p : Pt, c0 = .int .i64 p.k ∧ c1 = .int .i64 p.d ∧ PtIn21 w c2 p ∧ ∃ y0 y1 y2, x.1 = .agg [y0, y1, y2] ∧ rlD21 y2 p.x.length := by
  obtain ⟨y0, y1, y2, m, hx, _, h0, h1, h2⟩ := Deep.trod_struct3 Tryd.underlying34 h
  have h0' : DataW.trod enc Tryd.prog w 0 (fun _ => true) held m 3 [c0] = some y0 := by simpa [Value.cells, Tryd.cells21a, Tryd.cells21b] using h0
  have h1' : DataW.trod enc Tryd.prog w 0 (fun _ => true) held m 3 [c1] = some y1 := by simpa [Value.cells, Tryd.cells21a, Tryd.cells21b] using h1
  have h2' : DataW.trod enc Tryd.prog w 0 (fun _ => true) held m 22 [c2] = some y2 := by simpa [Value.cells, Tryd.cells21a, Tryd.cells21b] using h2
  obtain ⟨k, ek, -, wk⟩ := DataW.trod_int Tryd.underlying3 h0'
  obtain ⟨d, ed, -, wd⟩ := DataW.trod_int Tryd.underlying3 h1'
  simp at ek ed
  subst ek ed
  obtain ⟨l, l1, l2, l3, l4⟩ := open_in13 (k := .u8) Tryd.underlying22 Tryd.underlying5 (by kernel_rfl) h2'
  have hq : ∀ x ∈ l, Value.int .u8 x = cB x.toNat := fun x hx => by have := u8_bd21 (l3 x hx); unfold cB; congr 1; omega
  refine ⟨⟨k, d, l.map Int.toNat⟩, rfl, rfl, ⟨l2.map13 Int.toNat hq, ?_, ?_, i64_bd21 wk, i64_bd21 wd⟩, _, _, _, by rw [hx], ?_⟩
  · show RowA w 1 c2 (l.map Int.toNat).length ((l.map Int.toNat).map cB)
    rw [List.length_map, List.map_map]
    have e : l.map (cB ∘ Int.toNat) = l.map (fun a => Value.int .u8 a) := List.map_congr_left fun x hx => (hq x hx).symm
    rw [e]; exact l1
  · intro z hz
    obtain ⟨y, hy, rfl⟩ := List.mem_map.1 hz
    have := u8_bd21 (l3 y hy)
    omega
  · rcases l4 with l4 | ⟨el, sp, e1, e2⟩
    · left; rw [l4]; rfl
    · right; exact ⟨el, sp, e1, by rw [e2]; simp⟩
set_option maxRecDepth 100000 in
theorem open_patches21 {r : Reach} {b0 : Nat} {v : Value} {d : DataW H} {p : List MemPlace} (hv : Value.okWide Tryd.prog w r b0 23 v) (h : DataW.Trod enc Tryd.prog w 0 (fun _ => true) held 23 v d p) :
    ∃ (L : List Pt), PtR21 w v L ∧ (∀ p ∈ L, (∀ z ∈ p.x, z < 256) ∧ (-9223372036854775808 ≤ p.k ∧ p.k ≤ 9223372036854775807) ∧ (-9223372036854775808 ≤ p.d ∧ p.d ≤ 9223372036854775807)) ∧ rlD21 d L.length ∧ (∀ el sp, d = .slice el sp → ∀ (j : Nat) (d' : Pt), L[j]? = some d' → ∃ y0 y1 y2, DataW.agg [y0, y1, y2] ∈ el ∧ rlD21 y2 d'.x.length) := by
  obtain ⟨a0, len, cap, rfl⟩ := okWide_slice Tryd.underlying23 hv
  obtain ⟨fuel, hf⟩ := h
  rcases Deep.open_slice Tryd.underlying23 hf with ⟨hcs, hx⟩ | ⟨a, len', cap', m, n, D, Pl, hcs, _, hl, hm, hmm, hx, hel⟩
  · simp [Value.cells] at hcs
    obtain ⟨rfl, rfl, rfl⟩ := hcs
    exact ⟨[], ⟨none, 0, rfl, Nat.le_refl _, .inl rfl⟩, (fun _ h => by cases h), .inl rfl, fun el sp _ j d' h => (by simp at h)⟩
  · simp [Value.cells] at hcs
    obtain ⟨rfl, rfl, rfl⟩ := hcs
    simp at hmm
    subst hmm
    rw [Tryd.cells21c] at hel
    simp only [Prod.mk.injEq] at hx
    obtain ⟨hx1, -⟩ := hx
    haveI : Inhabited (Value × Pt) := ⟨(undef, ⟨0, 0, []⟩)⟩
    obtain ⟨f, hf⟩ := Deep.choose_lt (α := Value × Pt) (n := len) (p := fun i x => (w.cell? (a.add (i * 3)) = some (.int .i64 x.2.k) ∧ w.cell? (a.add (i * 3 + 1)) = some (.int .i64 x.2.d) ∧ w.cell? (a.add (i * 3 + 2)) = some x.1) ∧ PtIn21 w x.1 x.2 ∧ ∃ y0 y1 y2, D i = .agg [y0, y1, y2] ∧ rlD21 y2 x.2.x.length) (fun i hi => by
      obtain ⟨cs', h1, h2⟩ := hel i (by omega)
      obtain ⟨_, hlen, hc⟩ := World.cells?_some h1
      match cs', hlen with
      | [c0, c1, c2], _ =>
        obtain ⟨p, e0, e1, hn, hd⟩ := trod_patch21 h2
        subst e0 e1
        refine ⟨(c2, p), ⟨?_, ?_, ?_⟩, hn, hd⟩
        · have := hc 0 (by simp); simpa [Deep.add_add] using this
        · have := hc 1 (by simp); simpa [Deep.add_add] using this
        · have := hc 2 (by simp); simpa [Deep.add_add] using this)
    have hget : ∀ (j : Nat) (y : Pt), ((List.range len).map fun i => (f i).2)[j]? = some y → j < len ∧ y = (f j).2 := by
      intro j y hj
      have hlt : j < len := by have := (List.getElem?_eq_some_iff.1 hj).1; simpa using this
      rw [List.getElem?_map, List.getElem?_range hlt] at hj
      simp only [Option.map_some, Option.some.injEq] at hj
      exact ⟨hlt, hj.symm⟩
    have hspot : 0 < len → a = ⟨a.block, a.off, none⟩ := fun hz => by
      have h00 := (hf 0 hz).1.1
      have : a.add (0 * 3) = a := by simp [Addr.add]
      rw [this] at h00
      exact spot9 h00
    refine ⟨(List.range len).map (fun i => (f i).2), ⟨some a, m, by simp, by simpa using hl, ?_⟩, ?_, ?_, ?_⟩
    · by_cases hz : len = 0
      · subst hz
        exact .inl (by simp)
      · have ea := hspot (by omega)
        refine .inr ⟨a.block, a.off, by rw [← ea], fun j d hj => ?_⟩
        obtain ⟨hlt, rfl⟩ := hget j d hj
        obtain ⟨⟨g0, g1, g2⟩, g3, -⟩ := hf j hlt
        rw [ea, addA] at g0 g1 g2
        exact ⟨_, g0, g1, g2, g3.r, g3.a⟩
    · intro p hp
      obtain ⟨j, hj⟩ := List.getElem?_of_mem hp
      obtain ⟨hlt, rfl⟩ := hget j p hj
      have := (hf j hlt).2.1
      exact ⟨this.b, this.k, this.d⟩
    · exact .inr ⟨_, _, hx1, by simp⟩
    · intro el sp he j d' hd
      obtain ⟨hlt, rfl⟩ := hget j d' hd
      obtain ⟨y0, y1, y2, e1, e2⟩ := (hf j hlt).2.2
      rw [hx1] at he
      injection he with he
      refine ⟨y0, y1, y2, ?_, e2⟩
      rw [← he, ← e1]
      exact List.mem_map.2 ⟨j, List.mem_range.2 hlt, rfl⟩
theorem Tryd.bytes21a : Tryd.prog.bytesOf 5 = 1 := by kernel_rfl
theorem Tryd.bytes21b : Tryd.prog.bytesOf 34 = 40 := by kernel_rfl
theorem patches_sized21 {ts : List TypeId} {ds : List (DataW H)} (h : (DataW.weightsEach Tryd.prog ts ds).all (· ≤ reachBytes) = true) {j : Nat} {d : DataW H} {L : List Pt} (ht : ts[j]? = some 23) (hd : ds[j]? = some d) (hl : rlD21 d L.length) (hel : ∀ el sp, d = .slice el sp → ∀ (j : Nat) (d' : Pt), L[j]? = some d' → ∃ y0 y1 y2, DataW.agg [y0, y1, y2] ∈ el ∧ rlD21 y2 d'.x.length) :
    L.length ≤ 140737488355328 ∧ ∀ d' ∈ L, d'.x.length ≤ 140737488355328 := by
  have hrb : reachBytes ≤ 140737488355328 := by
    have := reachBytes_lt
    have : (2 : Nat) ^ 47 = 140737488355328 := by decide
    omega
  rcases hl with hl | ⟨el, sp, rfl, hl⟩
  · have : L = [] := List.eq_nil_of_length_eq_zero hl
    subst this
    exact ⟨by simp, fun d' h => by cases h⟩
  · have hw : ∀ n ∈ DataW.weights Tryd.prog 23 (.slice el sp), n ≤ reachBytes := fun n hn => by
      have := List.all_eq_true.1 h _ (DataW.weights_mem_each ht hd n hn)
      simpa using this
    have hu : DataW.weights Tryd.prog 23 (.slice el sp) = (el.length + sp.length) * Tryd.prog.bytesOf 34 :: (DataW.weightsAll Tryd.prog 34 el ++ DataW.weightsAll Tryd.prog 34 sp) := by simp [DataW.weights, Tryd.underlying23]
    rw [hu, Tryd.bytes21b] at hw
    refine ⟨?_, fun d' hd' => ?_⟩
    · have := hw _ (List.mem_cons_self ..)
      have : el.length * 40 ≤ (el.length + sp.length) * 40 := Nat.mul_le_mul_right _ (by omega)
      omega
    · obtain ⟨i, hi⟩ := List.getElem?_of_mem hd'
      obtain ⟨y0, y1, y2, hm, hr⟩ := hel el sp rfl i d' hi
      rcases hr with hr | ⟨el2, sp2, rfl, hr⟩
      · omega
      · have hn : (el2.length + sp2.length) * Tryd.prog.bytesOf 5 ∈ DataW.weights Tryd.prog 34 (.agg [y0, y1, .slice el2 sp2]) := by
          simp [DataW.weights, DataW.weightsEach, Tryd.underlying34, Tryd.underlying22]
        have := hw _ (List.mem_cons_of_mem _ (List.mem_append_left _ (weightsAll_mem hm hn)))
        rw [Tryd.bytes21a] at this
        have : el2.length * 1 ≤ (el2.length + sp2.length) * 1 := Nat.mul_le_mul_right _ (by omega)
        omega
end
end Go.Proofs.YtiachojhnbicaaaDoor
