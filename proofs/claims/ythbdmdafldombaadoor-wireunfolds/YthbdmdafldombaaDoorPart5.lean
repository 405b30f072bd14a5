/-
  Part 5 of the proof: 2 texts, one behind the other.
-/
import Derived.Test.YthbdmdafldombaaDoorPart4
import Derived.Deep.Slices
import Derived.Carry
import Derived.SizedLaws
import Derived.ProofKit
import Derived.Lib.SmallJoins
namespace Go.Proofs.YthbdmdafldombaaDoor
open Go.RowKit
set_option linter.unusedSimpArgs false
set_option linter.unusedVariables false

theorem cI_one13 (l : List Int) : ∀ y ∈ l.map cI, y.oneCell' = true := by
  intro y hy
  obtain ⟨x, -, rfl⟩ := List.mem_map.1 hy
  rfl
theorem cU_one13 (l : List (BitVec 32)) : ∀ y ∈ l.map cU, y.oneCell' = true := by
  intro y hy
  obtain ⟨x, -, rfl⟩ := List.mem_map.1 hy
  rfl
theorem rwx_none13 (W : World) : RwX cI W (.slice none 0 0) [] := ⟨none, 0, rfl, Nat.le_refl _, .inl rfl⟩
def UnRow (W : World) (U : List (BitVec 32)) (n : Int) (L : List Int) (a : Value) (E : Int) : Prop :=
  ∃ R : List Int, RwX cI W a R ∧ R.length ≤ 9223372036854775806 ∧ ((UnQ U n L ∧ R = unR U L n.toNat ∧ E = 0) ∨ (¬ UnQ U n L ∧ R = [] ∧ E = if n < 0 then 1 else 25))
theorem unRow_of {w W : World} {U : List (BitVec 32)} {n : Int} {L : List Int} {e : Ending} (h : UnEI w W U n L e) (hu : U.length ≤ 3000) : ∃ a E, e = .returned (.tuple #[a, .int .i64 E]) ∧ UnRow W U n L a E := by
  rcases h with ⟨hq, v, rfl, ho⟩ | ⟨hq, rfl⟩
  · refine ⟨v, 0, rfl, unR U L n.toNat, ?_, ?_, .inl ⟨hq, rfl, rfl⟩⟩
    · have hl := unR_len hq n.toNat (Nat.le_refl _)
      have ho' : W.ownsRow w.heap.size 3 1 v (unR U L n.toNat).length ((unR U L n.toNat).map cI) := by rw [hl]; exact ho
      exact own_rwx ho'
    · rw [unR_len hq n.toNat (Nat.le_refl _)]; have := hq.2.1.1; omega
  · exact ⟨_, _, rfl, [], rwx_none13 W, by simp, .inr ⟨hq, rfl, rfl⟩⟩
theorem UnRow.below {w W : World} {U : List (BitVec 32)} {n : Int} {L : List Int} {a : Value} {E : Int} (h : UnRow w U n L a E) (hb : Below w.heap.size w W) : UnRow W U n L a E := by
  obtain ⟨R, h1, h2⟩ := h
  exact ⟨R, h1.below hb, h2⟩
theorem UnRow.both {W : World} {U : List (BitVec 32)} {n : Int} {L : List Int} {a b : Value} {E F : Int} (h : UnRow W U n L a E) (h' : UnRow W U n L b F) : E = F ∧ ∃ R, RwX cI W a R ∧ RwX cI W b R ∧ R.length ≤ 9223372036854775806 := by
  obtain ⟨R, h1, h2, h3⟩ := h
  obtain ⟨R', g1, g2, g3⟩ := h'
  rcases h3 with ⟨q, rfl, rfl⟩ | ⟨q, rfl, rfl⟩ <;> rcases g3 with ⟨q', rfl, rfl⟩ | ⟨q', rfl, rfl⟩
  · exact ⟨rfl, _, h1, g1, h2⟩
  · exact absurd q q'
  · exact absurd q' q
  · exact ⟨rfl, _, h1, g1, h2⟩
set_option maxRecDepth 100000 in
set_option maxHeartbeats 8000000 in
theorem wireUnfolds_any (v : Value) (U : List (BitVec 32)) (n : Int) (lv : Value) (L : List Int) (w : World) (hA : RowA w 1 v U.length (U.map cU)) (hv : RwX cU w v U) (hl : U.length * 4 ≤ 140737488351232) (hn0 : -9223372036854775808 ≤ n) (hn1 : n ≤ 9223372036854775807) (hB : RowA w 1 lv L.length (L.map cI)) (hw : RwX cI w lv L) (hll : L.length * 8 ≤ 140737488351232) (hx : ∀ x ∈ L, -9223372036854775808 ≤ x ∧ x ≤ 9223372036854775807) (hT : Hf w) :
    Calls Tryd.prog 8 #[v, .int .i64 n, lv] w fun e w' => e = .returned (.bool true) ∧ Below w.heap.size w w' := by
  obtain ⟨i0, hi, hz0, hz1, hz2⟩ := info13 Tryd.infoU13
  obtain ⟨j0, ji, jz0, jz1, jz2⟩ := info13 Tryd.infoI13
  have HT := hid13 hT
  have HA := hid13 hA
  have HV := hid13 hv
  have HA' := hid13 hB
  have HW := hid13 hw
  have HI := hid13 (And.intro hn0 hn1)
  obtain ⟨vo, vc, hvf, -⟩ := id hv
  have hlU : (U.length : Int) ≤ 35184372087808 := by omega
  have HLL : Hid (L.length * 8 ≤ 140737488351232 ∧ L.length ≤ 17592186044416) := ⟨hll, by omega⟩
  clear hT hA hv hl hn0 hn1 hB hw hll hx
  subst hvf
  go_enter Tryd.func8, Tryd.ntmps8
  go_wp2_with fail
  refine (known13 _ HT.out).mono ?_
  rintro e w1 ⟨rfl, hb1⟩
  have HB1 := hid13 hb1
  clear hb1 HT
  by_cases hbig : 3000 < U.length
  · have hbi : 3000 < (U.length : Int) := by omega
    go_wp2_with fail
    go_ret
    exact ⟨rfl, HB1.out⟩
  have hbi : ¬ 3000 < (U.length : Int) := by omega
  have HL : Hid (U.length ≤ 3000) := by show _ ≤ _; omega
  have HA1 := hid13 (HA.out.below HB1.out)
  have q2 := bl1 w1 (.cells #[] 23)
  have HO2 := hid13 (World.ownsRow_lit (base := w1.heap.size) (e := 23) (size := 1) w1 #[] 0 (Nat.le_refl _) (by unfold maxLen; omega) rfl)
  have HA2 := hid13 (HA1.out.below q2)
  have HB2 := hid13 (keepb q2 HB1.out)
  have HZ2 := hid13 q2.size
  have HB0 := hid13 HB1.out.size
  have h63 : 0 + U.length ≤ maxLen := by unfold maxLen; omega
  have h47 : (0 + U.length) * 4 ≤ 140737488355328 := by omega
  clear HA HA1 HB1 q2 hbig
  go_wp2_with (at_builtin; apply stopHere9)
  refine (show wpList _ _ _ _ _ _ from ?_)
  refine wpList_append_rowA rfl _ _ 47 rfl w1.heap.size 23 i0 (.int .u32 0) 1 4 Tryd.underlying47 hi hz0 hz1 hz2 rfl (by decide) _ 0 [] rfl HO2.out _ U.length (U.map cU) rfl HA2.out (cU_one13 U) h63 h47 HZ2.out ?_
  intro ao3 cap3 w3 hown3 hgrow
  rw [Nat.zero_add] at hown3 ⊢
  have HM3 := hid13 (own_rwx hown3)
  have HB3 := hid13 (HB2.out.grown hgrow HB2.out.size (fun z e => Nat.le_trans HB0.out (HO2.out.lt z e).1))
  clear hgrow hown3 HO2 HA2 HB2 HZ2 HB0 h63 h47 hbi
  have HA3 := hid13 (HA'.out.below HB3.out)
  have q4 := bl1 w3 (.cells #[] 3)
  have HO4 := hid13 (World.ownsRow_lit (base := w3.heap.size) (e := 3) (size := 1) w3 #[] 0 (Nat.le_refl _) (by unfold maxLen; omega) rfl)
  have HA4 := hid13 (HA3.out.below q4)
  have HM4 := hid13 (HM3.out.below q4)
  have HB4 := hid13 (keepb q4 HB3.out)
  have HZ4 := hid13 q4.size
  have HB0 := hid13 HB3.out.size
  have h63 : 0 + L.length ≤ maxLen := by have := HLL.out; unfold maxLen; omega
  have h47 : (0 + L.length) * 8 ≤ 140737488355328 := by have := HLL.out; omega
  clear HA' HA3 HB3 q4
  go_wp2_with (at_builtin; apply stopHere9)
  refine (show wpList _ _ _ _ _ _ from ?_)
  refine wpList_append_rowA rfl _ _ 55 rfl w3.heap.size 3 j0 (.int .i64 0) 1 8 Tryd.underlying55 ji jz0 jz1 jz2 rfl (by decide) _ 0 [] rfl HO4.out lv L.length (L.map cI) rfl HA4.out (cI_one13 L) h63 h47 HZ4.out ?_
  intro ao5 cap5 w5 hown5 hgrow
  rw [Nat.zero_add] at hown5 ⊢
  have HN5 := hid13 (own_rwx hown5)
  have hb5 : Below w3.heap.size w3 w5 := (bl1 w3 (.cells #[] 3)).grown hgrow HZ4.out (fun z e => (HO4.out.lt z e).1)
  have HB5 := hid13 (HB4.out.grown hgrow HB4.out.size (fun z e => Nat.le_trans HB0.out (HO4.out.lt z e).1))
  have HM5 := hid13 (HM3.out.below hb5)
  clear hgrow hown5 HO4 HA4 HB4 HZ4 HB0 h63 h47 HM4 hb5
  go_wp2_with fail
  refine (unfoldI_any _ _ U n L w5 HM5.out HN5.out HL.out HI.out.1 HI.out.2 (by have := HLL.out; omega)).mono ?_
  rintro e w6 ⟨hU6, hb6⟩
  obtain ⟨A6, E6, rfl, hR6⟩ := unRow_of hU6 HL.out
  have HR6 := hid13 hR6
  have HB6 := hid13 (keepb hb6 HB5.out)
  clear hU6 hR6 hb6 HB5 HM5 HN5
  go_wp2_with fail
  refine (runfold13 _ _ U n L w6 (HV.out.below HB6.out) (HW.out.below HB6.out) HL.out HI.out.1 HI.out.2 HLL.out.2).mono ?_
  rintro e w7 ⟨hU7, hb7⟩
  obtain ⟨A7, E7, rfl, hR7⟩ := unRow_of hU7 HL.out
  obtain ⟨rfl, R, h1, h2, h3⟩ := (HR6.out.below hb7).both hR7
  have HS := hid13 (And.intro h1 (And.intro h2 h3))
  have HB7 := hid13 (keepb hb7 HB6.out)
  clear hU7 hR7 hb7 HB6 HR6 h1 h2 h3
  go_wp2_with fail
  refine (sameInts_any _ _ R _ HS.out.1 HS.out.2.1 HS.out.2.2).mono ?_
  rintro e w8 ⟨rfl, hb8⟩
  have HB8 := hid13 (keepb hb8 HB7.out)
  clear hb8
  go_wp2
  go_ret
  exact ⟨rfl, HB8.out⟩
end Go.Proofs.YthbdmdafldombaaDoor
namespace Go.Proofs.YthbdmdafldombaaDoor
open Go.ChangeShapes Go.WideShapes Go.ChangeAt Go.RowKit Go.Joins
set_option linter.unusedSimpArgs false
set_option linter.unusedVariables false

theorem Tryd.laidOut : laidOutB Tryd.prog = true := by kernel_rfl
theorem reach13 : reachBytes ≤ 140737488351232 := by decide
section
variable {H : Type} {enc : TypeId × Value → H} {w : World} {spare : Nat → Bool} {held : Bool}
theorem RwX.map13 {α β : Type} {f : α → Value} {g : β → Value} (h : α → β) {v : Value} {l : List α} (hr : RwX f w v l) (he : ∀ x ∈ l, f x = g (h x)) : RwX g w v (l.map h) := by
  obtain ⟨ao, c, e, hc, hr⟩ := hr
  refine ⟨ao, c, by rw [List.length_map]; exact e, by rw [List.length_map]; exact hc, ?_⟩
  rcases hr with hr | ⟨b, off, e, hr⟩
  · exact .inl (by rw [hr]; rfl)
  · refine .inr ⟨b, off, e, fun j x hj => ?_⟩
    rw [List.getElem?_map] at hj
    cases hx : l[j]? with
    | none => rw [hx] at hj; cases hj
    | some y =>
      rw [hx] at hj
      simp only [Option.map_some, Option.some.injEq] at hj
      rw [hr j y hx, he y (List.mem_of_getElem? hx), hj]
set_option maxRecDepth 100000 in
theorem open_ints13 {t e : TypeId} {k : IntKind} (ht : Tryd.prog.underlying t = some (.slice e)) (he : Tryd.prog.underlying e = some (.int k)) (hce : Tryd.prog.cellsOf e = 1) {r : Reach} {b0 : Nat} {v : Value} {d : DataW H} {p : List MemPlace} (hv : Value.okWide Tryd.prog w r b0 t v) (h : DataW.Trod enc Tryd.prog w 0 (fun _ => true) held t v d p) :
    ∃ l : List Int, RowA w 1 v l.length (l.map fun a => .int k a) ∧ RwX (fun a => Value.int k a) w v l ∧ (∀ a ∈ l, (Lit.int k a).wf = true) ∧ (l = [] ∨ ∃ el sp, d = .slice el sp ∧ el.length = l.length) := by
  obtain ⟨a0, len, cap, rfl⟩ := okWide_slice ht hv
  obtain ⟨fuel, hf⟩ := h
  rcases Deep.open_slice ht hf with ⟨hcs, hx⟩ | ⟨a, len', cap', m, n, D, Pl, hcs, _, hl, hm, hmm, hx, hel⟩
  · simp [Value.cells] at hcs
    obtain ⟨rfl, rfl, rfl⟩ := hcs
    exact ⟨[], ⟨rfl, none, 0, rfl, Nat.le_refl _, .inl ⟨rfl, rfl, rfl⟩⟩, ⟨none, 0, rfl, Nat.le_refl _, .inl rfl⟩, (fun _ h => by cases h), .inl rfl⟩
  · simp [Value.cells] at hcs
    obtain ⟨rfl, rfl, rfl⟩ := hcs
    simp at hmm
    subst hmm
    rw [hce] at hel
    obtain ⟨f, hf⟩ := Deep.choose_lt (α := Int) (n := len) (p := fun i x => w.cell? (a.add i) = some (.int k x) ∧ (Lit.int k x).wf = true) (fun i hi => by
      obtain ⟨cs', h1, h2⟩ := hel i (by omega)
      obtain ⟨_, hlen, hc⟩ := World.cells?_some h1
      match cs', hlen with
      | [c0], _ =>
        obtain ⟨x, ex, -, wx⟩ := DataW.trod_int he h2
        simp at ex
        subst ex
        refine ⟨x, ?_, wx⟩
        have := hc 0 (by omega)
        simpa [Addr.add] using this)
    have hlen : ((List.range len).map f).length = len := by simp
    have hcells : ∀ j x, ((List.range len).map f)[j]? = some x → w.cell? (a.add j) = some (.int k x) := by
      intro j x hj
      have hlt : j < len := by have := (List.getElem?_eq_some_iff.1 hj).1; simpa using this
      rw [List.getElem?_map, List.getElem?_range hlt] at hj
      simp only [Option.map_some, Option.some.injEq] at hj
      rw [← hj]; exact (hf j hlt).1
    refine ⟨(List.range len).map f, ⟨by simp, some a, m, by rw [hlen], by rw [hlen]; exact hl, .inr ⟨a, rfl, fun j u hj => ?_⟩⟩, ⟨some a, m, by rw [hlen], by rw [hlen]; exact hl, ?_⟩, ?_, ?_⟩
    · rw [List.getElem?_map] at hj
      cases hx : ((List.range len).map f)[j]? with
      | none => rw [hx] at hj; cases hj
      | some y =>
        rw [hx] at hj
        simp only [Option.map_some, Option.some.injEq] at hj
        rw [← hj]; exact hcells j y hx
    · by_cases hz : len = 0
      · subst hz
        exact .inl (by simp)
      · have h00 := (hf 0 (by omega)).1
        have ea : a = ⟨a.block, a.off, none⟩ := by
          have : a.add 0 = a := by simp [Addr.add]
          rw [this] at h00
          exact spot9 h00
        refine .inr ⟨a.block, a.off, by rw [← ea], fun j u hj => ?_⟩
        have := hcells j u hj
        rw [ea, addA] at this
        exact this
    · intro x hx
      simp only [List.mem_map, List.mem_range] at hx
      obtain ⟨i, hi, rfl⟩ := hx
      exact (hf i hi).2
    · simp only [Prod.mk.injEq] at hx
      exact .inr ⟨_, _, hx.1, by simp⟩
end
end Go.Proofs.YthbdmdafldombaaDoor
