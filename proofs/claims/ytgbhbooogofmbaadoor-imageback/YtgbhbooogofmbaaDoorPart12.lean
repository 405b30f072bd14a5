/-
  Part 12 of the proof: 3 texts, one behind the other.
-/
import Derived.Test.YtgbhbooogofmbaaDoorPart9
import Derived.Test.YtgbhbooogofmbaaDoorPart11
import Derived.Test.YtgbhbooogofmbaaDoorPart2
import Derived.Deep.Slices
import Derived.Carry
import Derived.SizedLaws
import Derived.ProofKit
import Derived.Lib.SmallJoins
namespace Go.Proofs.YtgbhbooogofmbaaDoor
open Go.RowKit
set_option linter.unusedSimpArgs false
set_option linter.unusedVariables false

set_option maxRecDepth 100000 in
set_option maxHeartbeats 16000000 in
theorem imageBack_any (six : Bool) (depth : Int) (v : Value) (l : List Nat) (vP : Value) (P : List Nat) (vR : Value) (R : List Nat) (w : World) (hp0 : -9223372036854775808 ≤ depth) (hp1 : depth ≤ 9223372036854775807) (hA : RowA w 1 v l.length (l.map cB)) (hv : RwX cB w v l) (hl : l.length * 1 ≤ 140737488351232) (hx : ∀ b ∈ l, b < 256) (hAP : RowA w 1 vP P.length (P.map cB)) (hvP : RwX cB w vP P) (hlP : P.length * 1 ≤ 140737488351232) (hxP : ∀ b ∈ P, b < 256) (hAR : RowA w 1 vR R.length (R.map cB)) (hvR : RwX cB w vR R) (hlR : R.length * 1 ≤ 140737488351232) (hxR : ∀ b ∈ R, b < 256) (hT : Hf w) :
    Calls Tryd.prog 6 #[.bool six, .int .i64 depth, v, vP, vR] w fun e w' => e = .returned (.bool true) ∧ Below w.heap.size w w' := by
  obtain ⟨i0, hi, hz0, hz1, hz2⟩ := info13 Tryd.infoB13
  obtain ⟨ao, cc, hvf, hcc, -⟩ := id hv
  have HT := hid13 hT
  have HV := hid13 hv
  have HA := hid13 hA
  have HX0 := hid13 hx
  have HC := hid13 hcc
  have K1 := known17 _ hT
  subst hvf
  obtain ⟨po, pc, hpf, -⟩ := id hvP
  obtain ⟨ro, rc, hrf, -⟩ := id hvR
  have HVP := hid13 hvP
  have HAP := hid13 hAP
  have HXP := hid13 hxP
  have HVR := hid13 hvR
  have HAR := hid13 hAR
  have HXR := hid13 hxR
  subst hpf hrf
  clear hA hv hx hT hcc hl hp0 hp1 hAP hvP hlP hxP hAR hvR hlR hxR
  go_enter Tryd.func6, Tryd.ntmps6
  go_wp2_with fail
  refine K1.mono ?_
  rintro e w1 ⟨rfl, hb1⟩
  have HB1 := hid13 hb1
  clear hb1 K1
  by_cases hl : (65536 : Int) < (l.length : Int)
  · go_wp2
    go_ret
    exact ⟨rfl, HB1.out⟩
  by_cases hlp : (2000 : Int) < (P.length : Int)
  · go_wp2
    go_ret
    exact ⟨rfl, HB1.out⟩
  by_cases hlr : (65536 : Int) < (R.length : Int)
  · go_wp2
    go_ret
    exact ⟨rfl, HB1.out⟩
  have HL : Hid (l.length ≤ 65536) := by show _ ≤ _; omega
  have HLp : Hid (P.length ≤ 2000 ∧ R.length ≤ 65536) := ⟨by omega, by omega⟩
  obtain ⟨m, hm⟩ : ∃ m, m = l.length / 4 * 4 := ⟨_, rfl⟩
  have HM : Hid (m = l.length / 4 * 4) := hm
  have hs := fun X => run_slice_to (P := Tryd.prog) (w := X) Tryd.underlying24 hi ao l.length cc m (by have := HC.out; omega)
  have m1 : (l.length : Int) / 4 * 4 = (m : Int) := by omega
  have m2 : (m : Int) ≤ (l.length : Int) := by omega
  have m3 : (m : Int) / 4 = ((m / 4 : Nat) : Int) := by omega
  have KH := header17 six depth ((m / 4 : Nat) : Int) w1
  have hLl : (l.take m).length = m := by rw [List.length_take]; omega
  have HpkE := h_pk six depth (l.take m) (by rw [hLl]; omega) (by rw [hLl]; omega)
  rw [hLl] at HpkE
  have HPK := hid13 HpkE
  have hB0 : pkB (hW six) (hD six depth) (hS six depth) ((m / 4 : Nat) : Int) (l.take m) = imB (hW six) (hD six depth) (hS six depth) (m / 4) (l.take m) := by
    unfold pkB; rw [if_pos HpkE, Int.toNat_natCast, Int.toNat_natCast, Int.toNat_natCast, Int.toNat_natCast]
  have HRA := hid13 (rowA_take17 (m := m) HA.out rfl (by omega))
  have HRV : Hid (RwX cB w (.slice ao m cc) (l.take m)) := by
    have h : RwX cB w (.slice ao l.length cc) (l.take m ++ l.drop m) := by rw [List.take_append_drop]; exact HV.out
    have := rwx_take h
    rw [hLl] at this
    exact this
  have HX : Hid (∀ b ∈ l.take m, b < 256) := hid13 (fun b hb => HX0.out b (List.mem_of_mem_take hb))
  have KP := fun w3 (hb : Below w.heap.size w w3) => pack_any (hW six) (hD six depth) (hS six depth) ((m / 4 : Nat) : Int) (.slice ao m cc) (l.take m) w3 (HRA.out.below hb) (HRV.out.below hb) (by rw [hLl]; omega) HX.out (HT.out.below hb)
  rw [HpkE, hB0] at KP
  have HBx := hid13 (pkB_lt (W := (hW six : Int)) (D := (hD six depth : Int)) (S := (hS six depth : Int)) (n := ((m / 4 : Nat) : Int)) HX.out)
  rw [hB0] at HBx
  have HBl : Hid ((imB (hW six) (hD six depth) (hS six depth) (m / 4) (l.take m)).length = 16 + m) := by show _ = _; rw [imB_len, hLl]
  have HIm := hid13 (fun z => @im_of (hW six) (hD six depth) (hS six depth) (m / 4) (l.take m) HpkE z)
  have HIr : Hid (∀ z, rW (imB (hW six) (hD six depth) (hS six depth) (m / 4) (l.take m) ++ z) = hW six ∧ rD (imB (hW six) (hD six depth) (hS six depth) (m / 4) (l.take m) ++ z) = hD six depth ∧ rS (imB (hW six) (hD six depth) (hS six depth) (m / 4) (l.take m) ++ z) = hS six depth ∧ rN (imB (hW six) (hD six depth) (hS six depth) (m / 4) (l.take m) ++ z) = m / 4 ∧ rC (imB (hW six) (hD six depth) (hS six depth) (m / 4) (l.take m) ++ z) = l.take m) := hid13 (fun z => by
    obtain ⟨f1, f2, f3, -, -, -⟩ := pk_facts HpkE
    obtain ⟨-, a2, a3, a4, a5, a6, -, -⟩ := im_read (W := hW six) (D := hD six depth) (S := hS six depth) f1 f2 f3 z
    exact ⟨a2, a3, a4, a5, a6⟩)
  have HXn : Hid (((hW six : Nat) : Int) = (hW six : Int)) := hid13 rfl
  generalize hBg : imB (hW six) (hD six depth) (hS six depth) (m / 4) (l.take m) = B at *
  generalize hx0 : hW six = W0 at *
  generalize hx1 : hD six depth = D0 at *
  generalize hx2 : hS six depth = S0 at *
  generalize hx3 : m / 4 = n0 at *
  generalize l.take m = L at *
  obtain ⟨x0, e0⟩ : ∃ x : Int, x = (W0 : Int) := ⟨_, rfl⟩
  obtain ⟨x1, e1⟩ : ∃ x : Int, x = (D0 : Int) := ⟨_, rfl⟩
  obtain ⟨x2, e2⟩ : ∃ x : Int, x = (S0 : Int) := ⟨_, rfl⟩
  obtain ⟨x3, e3⟩ : ∃ x : Int, x = (n0 : Int) := ⟨_, rfl⟩
  have HEs : Hid (x0 = (W0 : Int) ∧ x1 = (D0 : Int) ∧ x2 = (S0 : Int) ∧ x3 = (n0 : Int)) := ⟨e0, e1, e2, e3⟩
  rw [← e0, ← e1, ← e2, ← e3] at KP KH
  rw [← e3] at m3
  clear hBg hx0 hx1 hx2 hx3 HpkE hB0 hm hLl e0 e1 e2 e3 HRA HA HXn HPK HX0
  go_wp2_with fail
  refine KH.mono ?_
  rintro e w2 ⟨rfl, hb2⟩
  have HX3 := hid13 (bx_new (t := 23) (keepb hb2 HB1.out) #[.int .i64 x0, .int .i64 x1, .int .i64 x2, .int .i64 x3])
  have K4 := KP _ HX3.out.1
  clear KH KP hb2 HB1 hs
  go_wp2_with fail
  refine K4.mono ?_
  rintro e w4 ⟨v4, rfl, hO4, hb4⟩
  obtain ⟨a4, c4, hv4⟩ := own_form hO4
  subst hv4
  have HX4 := hid13 (HX3.out.keep hb4)
  have HO4 := hid13 hO4
  have hbl2 : ((B.length : Int) != wrap64 (16 + (m : Int))) = false := by
    have h1 : wrap64 (16 + (m : Int)) = 16 + (m : Int) := by unfold wrap64; have := HM.out; have := HL.out; omega
    rw [h1]
    have := HBl.out
    simp
    omega
  clear K4 hO4 hb4 HX3 m1 m2 m3
  go_wp2_with (at_builtin; apply stopHere9)
  try go_wp2_with (at_builtin; apply stopHere9)
  refine (show wpList _ _ _ _ _ _ from ?_)
  refine wpList_append_rowA rfl _ _ 24 rfl w4.heap.size 5 i0 (.int .u8 0) 1 1 Tryd.underlying24 hi hz0 hz1 hz2 rfl (by decide) (.slice none 0 0) 0 [] rfl (World.ownsRow_nil _ _ _ _) _ P.length (P.map cB) rfl (HAP.out.below HX4.out.1) (cB_one P) (by have := HBl.out; have := HM.out; have := HL.out; have := HLp.out; unfold maxLen; omega) (by have := HBl.out; have := HM.out; have := HL.out; have := HLp.out; omega) (Nat.le_refl _) ?_
  intro ao5 c5 w5 hO5 hg5
  rw [Nat.zero_add, List.nil_append] at hO5
  rw [Nat.zero_add]
  have hB5 : Below w4.heap.size w4 w5 := (Below.refl _ _).grown hg5 (Nat.le_refl _) (fun z hz => by cases hz)
  have HO5 := hid13 hO5
  have HB5 := hid13 hB5
  clear hO5 hg5 hB5
  go_wp2_with (at_builtin; apply stopHere9)
  try go_wp2_with (at_builtin; apply stopHere9)
  refine (show wpList _ _ _ _ _ _ from ?_)
  refine wpList_append_rowA rfl _ _ 24 rfl w4.heap.size 5 i0 (.int .u8 0) 1 1 Tryd.underlying24 hi hz0 hz1 hz2 rfl (by decide) _ (P.length) (P.map cB) rfl HO5.out _ B.length (B.map cB) rfl ((own_rowA HO4.out).below HB5.out) (cB_one B) (by have := HBl.out; have := HM.out; have := HL.out; have := HLp.out; unfold maxLen; omega) (by have := HBl.out; have := HM.out; have := HL.out; have := HLp.out; omega) HB5.out.size ?_
  intro ao6 c6 w6 hO6 hg6
  have hB6 : Below w4.heap.size w4 w6 := HB5.out.grown hg6 HB5.out.size (fun z hz => (HO5.out.lt z hz).1)
  have HO6 := hid13 hO6
  have HB6 := hid13 hB6
  clear hO6 hg6 hB6 HO5 HB5
  go_wp2_with (at_builtin; apply stopHere9)
  try go_wp2_with (at_builtin; apply stopHere9)
  refine (show wpList _ _ _ _ _ _ from ?_)
  refine wpList_append_rowA rfl _ _ 24 rfl w4.heap.size 5 i0 (.int .u8 0) 1 1 Tryd.underlying24 hi hz0 hz1 hz2 rfl (by decide) _ (P.length + B.length) (P.map cB ++ B.map cB) rfl HO6.out _ R.length (R.map cB) rfl ((HAR.out.below HX4.out.1).below HB6.out) (cB_one R) (by have := HBl.out; have := HM.out; have := HL.out; have := HLp.out; unfold maxLen; omega) (by have := HBl.out; have := HM.out; have := HL.out; have := HLp.out; omega) HB6.out.size ?_
  intro ao7 c7 w7 hO7 hg7
  have hB7 : Below w4.heap.size w4 w7 := HB6.out.grown hg7 HB6.out.size (fun z hz => (HO6.out.lt z hz).1)
  obtain ⟨Z, hZ⟩ : ∃ Z, Z = P ++ (B ++ R) := ⟨_, rfl⟩
  have hZl : P.length + B.length + R.length = Z.length := by rw [hZ, List.length_append, List.length_append]; omega
  have hO7' : w7.ownsRow w4.heap.size 5 1 (.slice ao7 Z.length c7) Z.length (Z.map cB) := by
    rw [← hZl, hZ, List.map_append, List.map_append, ← List.append_assoc]; exact hO7
  rw [hZl]
  have HX7 := hid13 (HX4.out.keep hB7)
  have hZx : ∀ b ∈ Z, b < 256 := by
    intro b hb
    rw [hZ] at hb
    simp only [List.mem_append] at hb
    rcases hb with hb | hb | hb
    · exact HXP.out b hb
    · exact HBx.out b hb
    · exact HXR.out b hb
  have hZd : Z.drop P.length = B ++ R := by rw [hZ]; exact List.drop_left
  have hZb : Z.length ≤ 200000 := by have := HBl.out; have := HM.out; have := HL.out; have := HLp.out; omega
  have K8 := open_any (.slice ao7 Z.length c7) Z (P.length : Int) w7 (own_rwx hO7') (by omega) hZx (HT.out.below HX7.out.1)
  have hop : opE Z (P.length : Int) = 0 := by
    unfold opE
    rw [if_neg (by omega), Int.toNat_natCast, hZd]
    exact HIm.out R
  have hir := HIr.out R
  have hov : opV Z (P.length : Int) = .agg #[.int .i64 x0, .int .i64 x1, .int .i64 x2, .int .i64 x3] := by
    unfold opV
    rw [if_pos hop, Int.toNat_natCast, hZd, hir.1, hir.2.1, hir.2.2.1, hir.2.2.2.1, ← HEs.out.1, ← HEs.out.2.1, ← HEs.out.2.2.1, ← HEs.out.2.2.2]
  have hoc : opC Z (P.length : Int) = L := by unfold opC; rw [if_pos hop, Int.toNat_natCast, hZd, hir.2.2.2.2]
  rw [hop, hov, hoc] at K8
  have K9 := fun w8 (hb : Below w7.heap.size w7 w8) => find_any17 (.slice ao7 Z.length c7) Z w8 ((own_rwx hO7').below hb) (by omega) hZx ((HT.out.below HX7.out.1).below hb)
  have HFs : Hid (∀ n t, FdS Z n t → t = true ∧ n ≤ P.length) := hid13 (fun n t h => by
    have h0 : ofE (Z.drop P.length) = 0 := by rw [hZd]; exact HIm.out R
    have hlt : P.length < Z.length := by have := HBl.out; omega
    rcases h with ⟨rfl, h1, h2, h3⟩ | ⟨rfl, rfl, h3⟩
    · refine ⟨rfl, ?_⟩
      apply Classical.byContradiction
      intro q
      exact h3 P.length (by omega) h0
    · exact absurd h0 (h3 P.length hlt))
  clear hO7 hg7 hB7 hO7' HO6 HB6 hZ hZd hop hov hoc hir HIm HIr HX4 hZl hZx hZb HO4
  go_wp2_with fail
  refine K8.mono ?_
  rintro e w8 ⟨v8, rfl, hO8, hb8⟩
  obtain ⟨a8, c8, hv8⟩ := own_form hO8
  subst hv8
  have q9 := bl1 w8 (.cells #[.int .i64 x0, .int .i64 x1, .int .i64 x2, .int .i64 x3] 23)
  have HX9 := hid13 ((HX7.out.keep hb8).keep q9)
  have HO9 := hid13 (own_rwx (own_b13 q9 hO8))
  have HY9 := hid13 (bx_new (t := 23) (Below.refl w8.heap.size w8) #[.int .i64 x0, .int .i64 x1, .int .i64 x2, .int .i64 x3])
  have KF := K9 _ (keepb q9 hb8)
  clear K8 K9 hO8 hb8 q9 HX7
  go_wp2_with fail
  refine KF.mono ?_
  rintro e w10 ⟨n, t, rfl, hf, hb10⟩
  obtain ⟨rfl, hnp⟩ := HFs.out n t hf
  have HX10 := hid13 (HX9.out.keep hb10)
  have HY10 := hid13 (HY9.out.keep hb10)
  have s1 := conv13 (HO9.out.below hb10) HX.out
  have s2 := conv13 (HRV.out.below HX10.out.1) HX.out
  have hnp' : (n : Int) ≤ (P.length : Int) := by omega
  have y0 := HX10.out.2 0 _ rfl
  have y1 := HX10.out.2 1 _ rfl
  have y2 := HX10.out.2 2 _ rfl
  have y3 := HX10.out.2 3 _ rfl
  have z0 := HY10.out.2 0 _ rfl
  have z1 := HY10.out.2 1 _ rfl
  have z2 := HY10.out.2 2 _ rfl
  have z3 := HY10.out.2 3 _ rfl
  have HB10 := hid13 HX10.out.1
  have hq := eqH_run x0 x1 x2 x3 x0 x1 x2 x3
  simp only [beq_self_eq_true, Bool.and_self] at hq
  generalize bsA L = st at *
  clear KF hf hb10 HX9 HY9 HO9 hnp HFs
  go_wp2
  exact bodyPost_ret (v := .bool true) (by simp [results, Tryd.results6, go_sem]) rfl ⟨rfl, HB10.out⟩
end Go.Proofs.YtgbhbooogofmbaaDoor
namespace Go.Proofs.YtgbhbooogofmbaaDoor
open Go.ChangeShapes Go.WideShapes Go.ChangeAt Go.RowKit Go.Joins
set_option linter.unusedSimpArgs false
set_option linter.unusedVariables false

theorem Tryd.laidOut : laidOutB Tryd.prog = true := by kernel_rfl
theorem reach13 : reachBytes ≤ 140737488351232 := by decide
section
variable {H : Type} {enc : TypeId × Value → H} {w : World} {spare : Nat → Bool} {held : Bool}
theorem RwX.map13 {α β : Type} {f : α → Value} {g : β → Value} (h : α → β) {v : Value} {l : List α} (hr : RwX f w v l) (he : ∀ x ∈ l, f x = g (h x)) : RwX g w v (l.map h) := by
  obtain ⟨ao, c, e, hc, hr⟩ := hr
  refine ⟨ao, c, by rw [List.length_map]; exact e, by rw [List.length_map]; exact hc, ?_⟩
  rcases hr with hr | ⟨b, off, e, hr⟩
  · exact .inl (by rw [hr]; rfl)
  · refine .inr ⟨b, off, e, fun j x hj => ?_⟩
    rw [List.getElem?_map] at hj
    cases hx : l[j]? with
    | none => rw [hx] at hj; cases hj
    | some y =>
      rw [hx] at hj
      simp only [Option.map_some, Option.some.injEq] at hj
      rw [hr j y hx, he y (List.mem_of_getElem? hx), hj]
set_option maxRecDepth 100000 in
theorem open_ints13 {t e : TypeId} {k : IntKind} (ht : Tryd.prog.underlying t = some (.slice e)) (he : Tryd.prog.underlying e = some (.int k)) (hce : Tryd.prog.cellsOf e = 1) {r : Reach} {b0 : Nat} {v : Value} {d : DataW H} {p : List MemPlace} (hv : Value.okWide Tryd.prog w r b0 t v) (h : DataW.Trod enc Tryd.prog w 0 (fun _ => true) held t v d p) :
    ∃ l : List Int, RowA w 1 v l.length (l.map fun a => .int k a) ∧ RwX (fun a => Value.int k a) w v l ∧ (∀ a ∈ l, (Lit.int k a).wf = true) ∧ (l = [] ∨ ∃ el sp, d = .slice el sp ∧ el.length = l.length) := by
  obtain ⟨a0, len, cap, rfl⟩ := okWide_slice ht hv
  obtain ⟨fuel, hf⟩ := h
  rcases Deep.open_slice ht hf with ⟨hcs, hx⟩ | ⟨a, len', cap', m, n, D, Pl, hcs, _, hl, hm, hmm, hx, hel⟩
  · simp [Value.cells] at hcs
    obtain ⟨rfl, rfl, rfl⟩ := hcs
    exact ⟨[], ⟨rfl, none, 0, rfl, Nat.le_refl _, .inl ⟨rfl, rfl, rfl⟩⟩, ⟨none, 0, rfl, Nat.le_refl _, .inl rfl⟩, (fun _ h => by cases h), .inl rfl⟩
  · simp [Value.cells] at hcs
    obtain ⟨rfl, rfl, rfl⟩ := hcs
    simp at hmm
    subst hmm
    rw [hce] at hel
    obtain ⟨f, hf⟩ := Deep.choose_lt (α := Int) (n := len) (p := fun i x => w.cell? (a.add i) = some (.int k x) ∧ (Lit.int k x).wf = true) (fun i hi => by
      obtain ⟨cs', h1, h2⟩ := hel i (by omega)
      obtain ⟨_, hlen, hc⟩ := World.cells?_some h1
      match cs', hlen with
      | [c0], _ =>
        obtain ⟨x, ex, -, wx⟩ := DataW.trod_int he h2
        simp at ex
        subst ex
        refine ⟨x, ?_, wx⟩
        have := hc 0 (by omega)
        simpa [Addr.add] using this)
    have hlen : ((List.range len).map f).length = len := by simp
    have hcells : ∀ j x, ((List.range len).map f)[j]? = some x → w.cell? (a.add j) = some (.int k x) := by
      intro j x hj
      have hlt : j < len := by have := (List.getElem?_eq_some_iff.1 hj).1; simpa using this
      rw [List.getElem?_map, List.getElem?_range hlt] at hj
      simp only [Option.map_some, Option.some.injEq] at hj
      rw [← hj]; exact (hf j hlt).1
    refine ⟨(List.range len).map f, ⟨by simp, some a, m, by rw [hlen], by rw [hlen]; exact hl, .inr ⟨a, rfl, fun j u hj => ?_⟩⟩, ⟨some a, m, by rw [hlen], by rw [hlen]; exact hl, ?_⟩, ?_, ?_⟩
    · rw [List.getElem?_map] at hj
      cases hx : ((List.range len).map f)[j]? with
      | none => rw [hx] at hj; cases hj
      | some y =>
        rw [hx] at hj
        simp only [Option.map_some, Option.some.injEq] at hj
        rw [← hj]; exact hcells j y hx
    · by_cases hz : len = 0
      · subst hz
        exact .inl (by simp)
      · have h00 := (hf 0 (by omega)).1
        have ea : a = ⟨a.block, a.off, none⟩ := by
          have : a.add 0 = a := by simp [Addr.add]
          rw [this] at h00
          exact spot9 h00
        refine .inr ⟨a.block, a.off, by rw [← ea], fun j u hj => ?_⟩
        have := hcells j u hj
        rw [ea, addA] at this
        exact this
    · intro x hx
      simp only [List.mem_map, List.mem_range] at hx
      obtain ⟨i, hi, rfl⟩ := hx
      exact (hf i hi).2
    · simp only [Prod.mk.injEq] at hx
      exact .inr ⟨_, _, hx.1, by simp⟩
end
end Go.Proofs.YtgbhbooogofmbaaDoor
namespace Go.Proofs.YtgbhbooogofmbaaDoor
open Go.ChangeShapes Go.WideShapes Go.ChangeAt Go.RowKit Go.Joins
set_option linter.unusedSimpArgs false
set_option linter.unusedVariables false

section
variable {P : Program} {H : Type} {enc : TypeId × Value → H} {w : World} {base : Nat} {spare : Nat → Bool} {held : Bool}
theorem tr5 {t0 t1 t2 t3 t4 : TypeId} {args : Array Value} {ds : List (DataW H)} {ps : List MemPlace} (h : DataW.TrodAll enc P w base spare held [t0, t1, t2, t3, t4] args.toList ds ps) :
    ∃ v0 v1 v2 v3 v4 d0 d1 d2 d3 d4 p0 p1 p2 p3 p4, args = #[v0, v1, v2, v3, v4] ∧ ds = [d0, d1, d2, d3, d4] ∧ ps = p0 ++ p1 ++ p2 ++ p3 ++ p4 ∧ DataW.Trod enc P w base spare held t0 v0 d0 p0 ∧ DataW.Trod enc P w base spare held t1 v1 d1 p1 ∧ DataW.Trod enc P w base spare held t2 v2 d2 p2 ∧ DataW.Trod enc P w base spare held t3 v3 d3 p3 ∧ DataW.Trod enc P w base spare held t4 v4 d4 p4 := by
  obtain ⟨v0, vs0, d0, ds0, p0, q0, hargs, rfl, rfl, hd0, hr0⟩ := trodAll_cons h
  obtain ⟨v1, vs1, d1, ds1, p1, q1, rfl, rfl, rfl, hd1, hr1⟩ := trodAll_cons hr0
  obtain ⟨v2, vs2, d2, ds2, p2, q2, rfl, rfl, rfl, hd2, hr2⟩ := trodAll_cons hr1
  obtain ⟨v3, vs3, d3, ds3, p3, q3, rfl, rfl, rfl, hd3, hr3⟩ := trodAll_cons hr2
  obtain ⟨v4, vs4, d4, ds4, p4, q4, rfl, rfl, rfl, hd4, hr4⟩ := trodAll_cons hr3
  obtain ⟨rfl, rfl, rfl⟩ := trodAll_nil hr4
  exact ⟨v0, v1, v2, v3, v4, d0, d1, d2, d3, d4, p0, p1, p2, p3, p4, by cases args; simp_all, rfl, by simp, hd0, hd1, hd2, hd3, hd4⟩
theorem mk5 {t0 t1 t2 t3 t4 : TypeId} {v0 v1 v2 v3 v4 : Value} {d0 d1 d2 d3 d4 : DataW H} {p0 p1 p2 p3 p4 : List MemPlace} (h0 : DataW.Trod enc P w base spare held t0 v0 d0 p0) (h1 : DataW.Trod enc P w base spare held t1 v1 d1 p1) (h2 : DataW.Trod enc P w base spare held t2 v2 d2 p2) (h3 : DataW.Trod enc P w base spare held t3 v3 d3 p3) (h4 : DataW.Trod enc P w base spare held t4 v4 d4 p4) : DataW.TrodAll enc P w base spare held [t0, t1, t2, t3, t4] [v0, v1, v2, v3, v4] [d0, d1, d2, d3, d4] (p0 ++ (p1 ++ (p2 ++ (p3 ++ (p4))))) :=
  ⟨_, _, h0, trodAll_mk4 h1 h2 h3 h4, rfl⟩
end
end Go.Proofs.YtgbhbooogofmbaaDoor
