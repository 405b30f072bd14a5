/-
  Part 28 of the proof: 2 texts, one behind the other.
-/
import Derived.Test.YtjgpbahglkaijaaDoorPart27
namespace Go.Proofs.YtjgpbahglkaijaaDoor
open Go.RowKit
set_option linter.unusedSimpArgs false
set_option linter.unusedVariables false

structure Ro (w : World) (N : Nat) (cs : List Value) (X : World) : Prop where
  b : Below w.heap.size w X
  h : ∀ j u, cs[j]? = some u → X.cell? ⟨N, j, none⟩ = some u
  z : ∀ j, j < 4 → X.cell? ⟨w.heap.size, j, none⟩ = some (.int .i64 0) ∧ X.frozen? ⟨w.heap.size, j, none⟩ = false
theorem Ro.keep {w X X' : World} {N : Nat} {cs : List Value} (h : Ro w N cs X) (hb : Below X.heap.size X X') : Ro w N cs X' :=
  ⟨keepb hb h.b, fun j u hj => keepc hb (h.h j u hj), fun j hj => ⟨keepc hb (h.z j hj).1, keepf hb (h.z j hj).1 (h.z j hj).2⟩⟩
set_option maxRecDepth 20000 in
set_option maxHeartbeats 8000000 in
theorem ropen17 (v : Value) (l : List Nat) (a : Int) (w : World) (hv : RwX cB w v l) (hA : RowA w 1 v l.length (l.map cB)) (hl : l.length ≤ 140737480000000) (hx : ∀ b ∈ l, b < 256) :
    Calls Tryd.prog 9 #[v, .int .i64 a] w fun e w' => ∃ v', e = .returned (.tuple #[opV l a, v', .int .i64 (opE l a)]) ∧ RwX cB w' v' (opC l a) ∧ Below w.heap.size w w' := by
  obtain ⟨i0, hi, hz0, hz1, hz2⟩ := info13 Tryd.infoB13
  have q1 := bl1 w (.cells #[.int .i64 0, .int .i64 0, .int .i64 0, .int .i64 0] 25)
  have HQ := hid13 q1
  have hnil : ∀ X : World, RwX cB X (.slice none 0 0) [] := fun X => ⟨none, 0, rfl, Nat.le_refl _, .inl rfl⟩
  have HNil := hid13 hnil
  obtain ⟨ao, cc, hvf, hcc, -⟩ := id hv
  by_cases hat : a < 0 ∨ (l.length : Int) < a
  · have hE : opE l a = 30 := by unfold opE; rw [if_pos hat]
    have hV := opV_no (l := l) (a := a) (by rw [hE]; decide)
    rw [hE, hV.1, hV.2]
    subst hvf
    clear hE hV q1 hl hx hi hz0 hz1 hz2 hv hcc hA hnil
    go_enter Tryd.func9, Tryd.ntmps9
    rcases hat with hat | hat
    · go_wp2
      exact bodyPost_ret (v := .tuple #[.agg #[.int .i64 0, .int .i64 0, .int .i64 0, .int .i64 0], .slice none 0 0, .int .i64 30]) (by simp [results, Tryd.results9, go_sem, *]) rfl ⟨_, rfl, HNil.out _, by first | exact HQ.out | exact bset4 HQ.out _ _ _ _⟩
    · have hn0 : ¬ a < 0 := by omega
      go_wp2
      exact bodyPost_ret (v := .tuple #[.agg #[.int .i64 0, .int .i64 0, .int .i64 0, .int .i64 0], .slice none 0 0, .int .i64 30]) (by simp [results, Tryd.results9, go_sem, *]) rfl ⟨_, rfl, HNil.out _, by first | exact HQ.out | exact bset4 HQ.out _ _ _ _⟩
  obtain ⟨k, rfl⟩ : ∃ k : Nat, a = (k : Int) := ⟨a.toNat, by omega⟩
  have hk : k ≤ l.length := by omega
  have hE0 : opE l (k : Int) = ofE17 (l.drop k) := by unfold opE; rw [if_neg hat, Int.toNat_natCast]
  have hV0 : opV l (k : Int) = if ofE17 (l.drop k) = 0 then .agg #[.int .i64 ((rW (l.drop k) : Nat) : Int), .int .i64 ((rD (l.drop k) : Nat) : Int), .int .i64 ((rS (l.drop k) : Nat) : Int), .int .i64 ((rN (l.drop k) : Nat) : Int)] else .agg #[.int .i64 0, .int .i64 0, .int .i64 0, .int .i64 0] := by unfold opV; rw [hE0, Int.toNat_natCast]
  have hC0 : opC l (k : Int) = if ofE17 (l.drop k) = 0 then rC (l.drop k) else [] := by unfold opC; rw [hE0, Int.toNat_natCast]
  rw [hE0, hV0, hC0]
  have hrl : (l.drop k).length = l.length - k := List.length_drop ..
  have hxr : ∀ b ∈ l.drop k, b < 256 := fun b hb => hx b (List.mem_of_mem_drop hb)
  subst hvf
  have hvr := rwx_from hv hk
  rw [← hrl] at hvr
  have HSl : Hid (∀ X, Sem.run Tryd.prog (Instr.sliceAt 22 (.slice ao l.length cc) (some (.int .i64 k)) none none) X = .ok (.slice (if cc = k then ao else ao.map (·.add (k * 1))) (l.drop k).length (cc - k)) X) := hid13 (fun X => by
    rw [hrl]; exact run_slice_from (P := Tryd.prog) (w := X) Tryd.underlying22 hi hz1 ao l.length cc k hk)
  have hlr : (l.drop k).length ≤ 140737480000000 := by omega
  have hlk : (k : Int) ≤ (l.length : Int) := by omega
  have hlk' : ¬ (l.length : Int) < (k : Int) := by omega
  generalize l.drop k = r at *
  generalize (if cc = k then ao else ao.map (·.add (k * 1))) = so at *
  generalize cc - k = sc at *
  have hs1 := HSl.out (w.alloc (.cells #[.int .i64 0, .int .i64 0, .int .i64 0, .int .i64 0] 25))
  have hofE : Hid (ofE17 r = if rdE r ≠ 0 then rdE r else if rOk r then 0 else 23) := hid13 rfl
  have HV := hid13 hvr
  have HX := hid13 hxr
  have HL := hid13 hlr
  clear hE0 hV0 hC0 hrl hv hl hx hA hat hk hcc hnil
  by_cases h16 : r.length < 16
  · have hE : ofE17 r = 22 := by
      have h1 : rdE r = 22 := by unfold rdE; rw [if_pos h16]
      rw [hofE.out, h1]; rfl
    rw [hE, if_neg (by decide), if_neg (by decide)]
    have h16' : (r.length : Int) < 16 := by omega
    clear hE hofE hvr hxr hlr q1 h16
    go_enter Tryd.func9, Tryd.ntmps9
    go_wp2
    exact bodyPost_ret (v := .tuple #[.agg #[.int .i64 0, .int .i64 0, .int .i64 0, .int .i64 0], .slice none 0 0, .int .i64 22]) (by simp [results, Tryd.results9, go_sem, *]) rfl ⟨_, rfl, HNil.out _, by first | exact HQ.out | exact bset4 HQ.out _ _ _ _⟩
  obtain ⟨b, off, c, hvf, hcc, hcell⟩ := rwx_at hvr (by omega)
  injection hvf with hv1 hv2 hv3
  subst hv1 hv3
  have h16' : ¬ (r.length : Int) < 16 := by omega
  have hs4 : Sem.run Tryd.prog (Instr.sliceAt 22 (.slice (some ⟨b, off, none⟩) r.length sc) none (some (.int .i64 4)) none) (w.alloc (.cells #[.int .i64 0, .int .i64 0, .int .i64 0, .int .i64 0] 25)) = .ok (.slice (some ⟨b, off, none⟩) 4 sc) (w.alloc (.cells #[.int .i64 0, .int .i64 0, .int .i64 0, .int .i64 0] 25)) := run_slice_to (P := Tryd.prog) (w := w.alloc (.cells #[.int .i64 0, .int .i64 0, .int .i64 0, .int .i64 0] 25)) Tryd.underlying22 hi (some ⟨b, off, none⟩) r.length sc 4 (by omega)
  have h4c : (4 : Int) ≤ (sc : Int) := by omega
  have h4 : (r.take 4).length = 4 := by rw [List.length_take]; omega
  have r4 : RwX cB (w.alloc (.cells #[.int .i64 0, .int .i64 0, .int .i64 0, .int .i64 0] 25)) (.slice (some ⟨b, off, none⟩) 4 sc) (r.take 4) := by
    have h : RwX cB (w.alloc (.cells #[.int .i64 0, .int .i64 0, .int .i64 0, .int .i64 0] 25)) (.slice (some ⟨b, off, none⟩) r.length sc) (r.take 4 ++ r.drop 4) := by rw [List.take_append_drop]; exact hvr.below q1
    have h2 := rwx_take h
    rw [h4] at h2
    exact h2
  have hcv := conv13 r4 (fun b hb => hxr b (List.mem_of_mem_take hb))
  have hbq := bsA_eq (x := r.take 4) (y := [84, 80, 75, 49]) (fun b hb => hxr b (List.mem_of_mem_take hb)) (by decide)
  rw [show (bsA [84, 80, 75, 49]).toList = [84, 80, 75, 49] from bsA_list _] at hbq
  by_cases hm : r.take 4 = [84, 80, 75, 49]
  rotate_left 1
  · have hE : ofE17 r = 21 := by
      have h1 : rdE r = 21 := by unfold rdE; rw [if_neg h16, if_pos hm]
      rw [hofE.out, h1]; rfl
    rw [hE, if_neg (by decide), if_neg (by decide)]
    rw [decide_eq_false hm] at hbq
    generalize bsA (r.take 4) = st at *
    clear hE hofE hvr hxr hlr q1 h16 hcell hs4 r4 h4 hm hi hz0 hz1 hz2
    go_enter Tryd.func9, Tryd.ntmps9
    go_wp2
    exact bodyPost_ret (v := .tuple #[.agg #[.int .i64 0, .int .i64 0, .int .i64 0, .int .i64 0], .slice none 0 0, .int .i64 21]) (by simp [results, Tryd.results9, go_sem, *]) rfl ⟨_, rfl, HNil.out _, by first | exact HQ.out | exact bset4 HQ.out _ _ _ _⟩
  have hst : (bsA (r.take 4)).toList = [84, 80, 75, 49] := by rw [bsA_list, hm]; rfl
  obtain ⟨pt1, pt2, pt3, pt4, pt5, pt6, pt7⟩ := rd_parts (by omega) hm hxr
  have gS : gtN r 6 2 = rS r := gt_take (k := 6) (m := 2) (by omega)
  have gN : gtN r 8 4 = rN r := gt_take (k := 8) (m := 4) (by omega)
  have gU : gtN r 12 4 = numN13 ((r.drop 12).take 4) := gt_take (k := 12) (m := 4) (by omega)
  have KS := rget13 (.slice (some ⟨b, off, none⟩) r.length sc) r 6 2 2 rfl (by decide) (by decide) (w.alloc (.cells #[.int .i64 0, .int .i64 0, .int .i64 0, .int .i64 0] 25)) (hvr.below q1) (by omega) hxr (by decide) (by decide)
  have KN := rget13 (.slice (some ⟨b, off, none⟩) r.length sc) r 8 4 4 rfl (by decide) (by decide) (w.alloc (.cells #[.int .i64 0, .int .i64 0, .int .i64 0, .int .i64 0] 25)) (hvr.below q1) (by omega) hxr (by decide) (by decide)
  have KU := rget13 (.slice (some ⟨b, off, none⟩) r.length sc) r 12 4 4 rfl (by decide) (by decide) (w.alloc (.cells #[.int .i64 0, .int .i64 0, .int .i64 0, .int .i64 0] 25)) (hvr.below q1) (by omega) hxr (by decide) (by decide)
  rw [gS] at KS
  rw [gN] at KN
  rw [gU] at KU
  have hrd : Hid (rdE r = if chkH (rW r) (rD r) (rS r) ≠ 0 then chkH (rW r) (rD r) (rS r) else if 1048572 < rN r then 18 else if r.length < 16 + 4 * rN r then 22 else 0) := by
    show _ = _
    unfold rdE; rw [if_neg h16, if_neg (fun q => q hm)]
  have h5 : ∀ j : Nat, j < 16 → w.cell? ⟨b, off + j, none⟩ = some (.int .u8 ((r.getD j 0 : Nat) : Int)) := fun j hj => hcell j _ (by rw [List.getD_eq_getElem?_getD, List.getElem?_eq_getElem (by omega)]; rfl)
  have c4 := keepc q1 (h5 4 (by decide))
  have c5 := keepc q1 (h5 5 (by decide))
  have HOk : Hid (rOk r = (((numN13 ((r.drop 12).take 4) : Nat) : Int) == uI (crS (r.take 12 ++ rC r)))) := by
    show _ = _
    unfold rOk
    rw [uI_eq, Bool.eq_iff_iff]
    simp
    omega
  obtain ⟨x0, hx0⟩ : ∃ x : Int, x = (rW r : Int) := ⟨_, rfl⟩
  obtain ⟨x1, hx1⟩ : ∃ x : Int, x = (rD r : Int) := ⟨_, rfl⟩
  obtain ⟨x2, hx2⟩ : ∃ x : Int, x = (rS r : Int) := ⟨_, rfl⟩
  obtain ⟨x3, hx3⟩ : ∃ x : Int, x = (rN r : Int) := ⟨_, rfl⟩
  obtain ⟨x4, hx4⟩ : ∃ x : Int, x = ((numN13 ((r.drop 12).take 4) : Nat) : Int) := ⟨_, rfl⟩
  have HXs : Hid (x0 = (rW r : Int) ∧ x1 = (rD r : Int) ∧ x2 = (rS r : Int) ∧ x3 = (rN r : Int)) := ⟨hx0, hx1, hx2, hx3⟩
  rw [show r.getD 4 0 = rW r from rfl, ← hx0] at c4
  rw [show r.getD 5 0 = rD r from rfl, ← hx1] at c5
  rw [← hx2] at KS
  rw [← hx3] at KN
  rw [← hx4] at KU HOk
  rw [← hx0, ← hx1, ← hx2, ← hx3]
  rw [← hx0, ← hx1, ← hx2] at hrd
  have n0 : 0 ≤ x0 := by omega
  have n0' : x0 < 256 := by omega
  have n1 : 0 ≤ x1 := by omega
  have n1' : x1 < 256 := by omega
  have n2 : 0 ≤ x2 := by omega
  have n2' : x2 < 65536 := by omega
  have n3 : 0 ≤ x3 := by omega
  have n3' : x3 < 4294967296 := by omega
  have hl5 : (5 : Int) < (r.length : Int) := by omega
  have HC : Hid (r.length ≤ sc ∧ 16 ≤ r.length) := ⟨hcc, by omega⟩
  generalize bsA (r.take 4) = st at *
  obtain ⟨E, hEd⟩ : ∃ E, E = ofE17 r := ⟨_, rfl⟩
  rw [← hEd] at hofE ⊢
  obtain ⟨OV, hOV⟩ : ∃ V : Value, V = if E = 0 then .agg #[.int .i64 x0, .int .i64 x1, .int .i64 x2, .int .i64 x3] else .agg #[.int .i64 0, .int .i64 0, .int .i64 0, .int .i64 0] := ⟨_, rfl⟩
  obtain ⟨OC, hOC⟩ : ∃ C : List Nat, C = if E = 0 then rC r else [] := ⟨_, rfl⟩
  rw [← hOV, ← hOC]
  have HOut : Hid ((OV = if E = 0 then .agg #[.int .i64 x0, .int .i64 x1, .int .i64 x2, .int .i64 x3] else .agg #[.int .i64 0, .int .i64 0, .int .i64 0, .int .i64 0]) ∧ (OC = if E = 0 then rC r else [])) := ⟨hOV, hOC⟩
  have HErr : Hid (E ≠ 0 → OV = .agg #[.int .i64 0, .int .i64 0, .int .i64 0, .int .i64 0] ∧ OC = []) := hid13 (fun h => by rw [hOV, hOC, if_neg h, if_neg h]; exact ⟨rfl, rfl⟩)
  clear hEd hOV hOC
  clear hx0 hx1 hx2 hx3 hx4 pt1 pt2 pt3 pt4 pt5 pt6 pt7 gS gN gU h5 hcell hcc h16 hm r4 h4 hbq hs4 hvr hxr hlr hv2 q1
  go_enter Tryd.func9, Tryd.ntmps9
  go_wp2_with fail
  refine KS.mono ?_
  rintro e2 w2 ⟨rfl, rfl⟩
  clear KS
  go_wp2_with fail
  refine KN.mono ?_
  rintro e3 w3 ⟨rfl, rfl⟩
  clear KN
  go_wp2_with fail
  refine KU.mono ?_
  rintro e4 w4 ⟨rfl, hw4⟩
  have HR4 : Hid (Ro w 0 [] w4) := ⟨by rw [hw4]; exact HQ.out, fun j u hj => (by cases hj), fun j hj => by
    rw [hw4]
    match j, hj with
    | 0, _ => exact ⟨by simp [go_sem], by simp [go_sem]⟩
    | 1, _ => exact ⟨by simp [go_sem], by simp [go_sem]⟩
    | 2, _ => exact ⟨by simp [go_sem], by simp [go_sem]⟩
    | 3, _ => exact ⟨by simp [go_sem], by simp [go_sem]⟩⟩
  rw [← hw4] at c4 c5
  have q5 := bl1 w4 (.cells #[.int .i64 0, .int .i64 0, .int .i64 0, .int .i64 0] 25)
  have d4 := keepc q5 c4
  have d5 := keepc q5 c5
  clear KU hw4 q5 hs1 hcv
  go_wp2_with fail
  go_region
  have q6 := bl1 w4 (.cells #[.int .i64 x0, .int .i64 x1, .int .i64 x2, .int .i64 x3] 25)
  have HR5 : Hid (Ro w w4.heap.size [.int .i64 x0, .int .i64 x1, .int .i64 x2, .int .i64 x3] ((w4.alloc (.cells #[.int .i64 x0, .int .i64 x1, .int .i64 x2, .int .i64 x3] 25)).drew)) := ⟨(HR4.out.b.alloc HR4.out.b.size _).drew, (bx_new (t := 25) HR4.out.b #[.int .i64 x0, .int .i64 x1, .int .i64 x2, .int .i64 x3]).2, fun j hj => (HR4.out.keep q6).z j hj⟩
  have HN4 : Hid (w.heap.size < w4.heap.size) := cell_in (HR4.out.z 0 (by decide)).1
  have KF := isFam17 x0 ((w4.alloc (.cells #[.int .i64 x0, .int .i64 x1, .int .i64 x2, .int .i64 x3] 25)).drew)
  have HCk : Hid (chkH x0 x1 x2 = if x0 ≠ 32 ∧ x0 ≠ 128 then 11 else if x1 < 0 ∨ x0 < x1 ∨ x2 ≠ max 1 (3 * x1) then 28 else 0) := hid13 rfl
  have KC := fun X => counted17 x0 x1 x2 x3 (by omega) X
  generalize chkH x0 x1 x2 = ck at *
  clear q6 HR4 c4 c5 d4 d5 hst
  by_cases hW : x0 = 32 ∨ x0 = 128
  rotate_left 1
  · rw [decide_eq_false hW] at KF
    have HE9 : Hid (E = 11 ∧ OV = .agg #[.int .i64 0, .int .i64 0, .int .i64 0, .int .i64 0] ∧ OC = []) := by
      have h1 : ck = 11 := by rw [HCk.out, if_pos (by omega)]
      have h2 : rdE r = 11 := by rw [hrd.out, h1]; rfl
      have h9 : E = 11 := by rw [hofE.out, h2]; rfl
      exact ⟨h9, HErr.out (by rw [h9]; decide)⟩
    clear hrd hofE HCk hW KC
    go_wp2_with fail
    refine KF.mono ?_
    rintro e6 w6 ⟨rfl, hw6⟩
    rw [← hw6] at HR5
    clear KF hw6
    have z0 := (HR5.out.z 0 (by decide)).1
    have fz0 := (HR5.out.z 0 (by decide)).2
    have z1 := (HR5.out.z 1 (by decide)).1
    have fz1 := (HR5.out.z 1 (by decide)).2
    have z2 := (HR5.out.z 2 (by decide)).1
    have fz2 := (HR5.out.z 2 (by decide)).2
    have z3 := (HR5.out.z 3 (by decide)).1
    have fz3 := (HR5.out.z 3 (by decide)).2
    have HB9 := hid13 HR5.out.b
    go_wp2
    exact bodyPost_ret (v := .tuple #[.agg #[.int .i64 0, .int .i64 0, .int .i64 0, .int .i64 0], .slice none 0 0, .int .i64 11]) (by simp [results, Tryd.results9, go_sem, *]) rfl ⟨_, by rw [HE9.out.1, HE9.out.2.1], by rw [HE9.out.2.2]; exact HNil.out _, by first | exact HB9.out | exact bset4 HB9.out _ _ _ _⟩
  rw [decide_eq_true hW] at KF
  go_wp2_with fail
  refine KF.mono ?_
  rintro e6 w6 ⟨rfl, hw6⟩
  rw [← hw6] at HR5
  have KC6 := KC w6
  have y0 := HR5.out.h 0 _ rfl
  have y1 := HR5.out.h 1 _ rfl
  have y2 := HR5.out.h 2 _ rfl
  have y3 := HR5.out.h 3 _ rfl
  clear KF hw6 KC
  by_cases hD : 0 ≤ x1 ∧ x1 ≤ x0 ∧ x2 = max 1 (3 * x1)
  rotate_left 1
  · rw [decide_eq_false hD] at KC6
    have HE9 : Hid (E = 28 ∧ OV = .agg #[.int .i64 0, .int .i64 0, .int .i64 0, .int .i64 0] ∧ OC = []) := by
      have h1 : ck = 28 := by rw [HCk.out, if_neg (by omega), if_pos (by omega)]
      have h2 : rdE r = 28 := by rw [hrd.out, h1]; rfl
      have h9 : E = 28 := by rw [hofE.out, h2]; rfl
      exact ⟨h9, HErr.out (by rw [h9]; decide)⟩
    clear hrd hofE HCk hW hD
    go_wp2_with fail
    refine KC6.mono ?_
    rintro e7 w7 ⟨rfl, hb7⟩
    have HR7 := hid13 (HR5.out.keep hb7)
    clear KC6 hb7 HR5 y0 y1 y2 y3
    have z0 := (HR7.out.z 0 (by decide)).1
    have fz0 := (HR7.out.z 0 (by decide)).2
    have z1 := (HR7.out.z 1 (by decide)).1
    have fz1 := (HR7.out.z 1 (by decide)).2
    have z2 := (HR7.out.z 2 (by decide)).1
    have fz2 := (HR7.out.z 2 (by decide)).2
    have z3 := (HR7.out.z 3 (by decide)).1
    have fz3 := (HR7.out.z 3 (by decide)).2
    have HB9 := hid13 HR7.out.b
    go_wp2
    exact bodyPost_ret (v := .tuple #[.agg #[.int .i64 0, .int .i64 0, .int .i64 0, .int .i64 0], .slice none 0 0, .int .i64 28]) (by simp [results, Tryd.results9, go_sem, *]) rfl ⟨_, by rw [HE9.out.1, HE9.out.2.1], by rw [HE9.out.2.2]; exact HNil.out _, by first | exact HB9.out | exact bset4 HB9.out _ _ _ _⟩
  rw [decide_eq_true hD] at KC6
  have hrd2 : Hid (rdE r = if 1048572 < rN r then 18 else if r.length < 16 + 4 * rN r then 22 else 0) := by
    have h1 : ck = 0 := by rw [HCk.out, if_neg (by omega), if_neg (by omega)]
    show _ = _
    rw [hrd.out, if_neg (fun q => q h1)]
  clear hrd HCk hW hD
  go_wp2_with fail
  refine KC6.mono ?_
  rintro e7 w7 ⟨rfl, hb7⟩
  have HR7 := hid13 (HR5.out.keep hb7)
  clear KC6 hb7 HR5 y0 y1 y2 y3
  have y0 := HR7.out.h 0 _ rfl
  have y1 := HR7.out.h 1 _ rfl
  have y2 := HR7.out.h 2 _ rfl
  have y3 := HR7.out.h 3 _ rfl
  by_cases h18 : (1048572 : Int) < x3
  · have HE9 : Hid (E = 18 ∧ OV = .agg #[.int .i64 0, .int .i64 0, .int .i64 0, .int .i64 0] ∧ OC = []) := by
      have h2 : rdE r = 18 := by rw [hrd2.out, if_pos (by have := HXs.out; omega)]
      have h9 : E = 18 := by rw [hofE.out, h2]; rfl
      exact ⟨h9, HErr.out (by rw [h9]; decide)⟩
    clear hrd2 hofE
    have z0 := (HR7.out.z 0 (by decide)).1
    have fz0 := (HR7.out.z 0 (by decide)).2
    have z1 := (HR7.out.z 1 (by decide)).1
    have fz1 := (HR7.out.z 1 (by decide)).2
    have z2 := (HR7.out.z 2 (by decide)).1
    have fz2 := (HR7.out.z 2 (by decide)).2
    have z3 := (HR7.out.z 3 (by decide)).1
    have fz3 := (HR7.out.z 3 (by decide)).2
    have HB9 := hid13 HR7.out.b
    go_wp2
    exact bodyPost_ret (v := .tuple #[.agg #[.int .i64 0, .int .i64 0, .int .i64 0, .int .i64 0], .slice none 0 0, .int .i64 18]) (by simp [results, Tryd.results9, go_sem, *]) rfl ⟨_, by rw [HE9.out.1, HE9.out.2.1], by rw [HE9.out.2.2]; exact HNil.out _, by first | exact HB9.out | exact bset4 HB9.out _ _ _ _⟩
  by_cases h22 : (r.length : Int) < 16 + 4 * x3
  · have HE9 : Hid (E = 22 ∧ OV = .agg #[.int .i64 0, .int .i64 0, .int .i64 0, .int .i64 0] ∧ OC = []) := by
      have h2 : rdE r = 22 := by rw [hrd2.out, if_neg (by have := HXs.out; omega), if_pos (by have := HXs.out; omega)]
      have h9 : E = 22 := by rw [hofE.out, h2]; rfl
      exact ⟨h9, HErr.out (by rw [h9]; decide)⟩
    clear hrd2 hofE
    have z0 := (HR7.out.z 0 (by decide)).1
    have fz0 := (HR7.out.z 0 (by decide)).2
    have z1 := (HR7.out.z 1 (by decide)).1
    have fz1 := (HR7.out.z 1 (by decide)).2
    have z2 := (HR7.out.z 2 (by decide)).1
    have fz2 := (HR7.out.z 2 (by decide)).2
    have z3 := (HR7.out.z 3 (by decide)).1
    have fz3 := (HR7.out.z 3 (by decide)).2
    have HB9 := hid13 HR7.out.b
    go_wp2
    exact bodyPost_ret (v := .tuple #[.agg #[.int .i64 0, .int .i64 0, .int .i64 0, .int .i64 0], .slice none 0 0, .int .i64 22]) (by simp [results, Tryd.results9, go_sem, *]) rfl ⟨_, by rw [HE9.out.1, HE9.out.2.1], by rw [HE9.out.2.2]; exact HNil.out _, by first | exact HB9.out | exact bset4 HB9.out _ _ _ _⟩
  have h0 : rdE r = 0 := by rw [hrd2.out, if_neg (by have := HXs.out; omega), if_neg (by have := HXs.out; omega)]
  have HE1 : Hid (E = if rOk r then 0 else 23) := by show _ = _; rw [hofE.out, if_neg (fun q => q h0)]
  obtain ⟨n, hn⟩ : ∃ n, n = rN r := ⟨_, rfl⟩
  have HNn : Hid (x3 = (n : Int) ∧ 16 + 4 * n ≤ r.length ∧ n ≤ 1048572) := ⟨by rw [hn]; exact HXs.out.2.2.2, by have := HXs.out; omega, by have := HXs.out; omega⟩
  have hCr : rC r = (r.drop 16).take (4 * n) := by unfold rC; rw [hn]
  have HCe := hid13 hCr
  have h12c : (12 : Int) ≤ (sc : Int) := by have := HC.out; omega
  have hsm : ∀ X, Sem.run Tryd.prog (Instr.sliceAt 22 (.slice (some ⟨b, off, none⟩) r.length sc) (some (.int .i64 16)) (some (.int .i64 (16 + 4 * x3))) none) X = .ok (cdV b off sc (4 * n)) X := fun X => by
    have := slice_mid17 (P := Tryd.prog) (w := X) Tryd.underlying22 hi hz1 (some ⟨b, off, none⟩) r.length sc 16 (16 + 4 * n) (by omega) (by have := HC.out; have := HNn.out; omega)
    rw [show ((16 + 4 * n : Nat) : Int) = 16 + 4 * x3 by rw [HNn.out.1]; push_cast; rfl, show 16 + 4 * n - 16 = 4 * n by omega] at this
    exact this
  have HRows : Hid (∀ X, Below w.heap.size w X → RowA X 1 (cdV b off sc (4 * n)) (4 * n) (((r.drop 16).take (4 * n)).map cB) ∧ RowA X 1 (.slice (some ⟨b, off, none⟩) 12 sc) 12 ((r.take 12).map cB)) := hid13 (fun X hB => by
    obtain ⟨b', off', c', hvf, hcc, hcell⟩ := rwx_at (HV.out.below hB) HC.out.2
    injection hvf with e1 e2 e3
    injection e1 with e1
    injection e1 with e4 e5
    subst e3 e4 e5
    have h1 := (cd_rowA hcell hcc HNn.out.2.1).1
    have hl4 : ((r.drop 16).take (4 * n)).length = 4 * n := by rw [List.length_take, List.length_drop]; have := HNn.out; omega
    rw [hl4] at h1
    refine ⟨h1, by rw [List.length_map, List.length_take]; have := HC.out; omega, _, _, rfl, by have := HC.out; omega, .inr ⟨_, rfl, fun j u hj => ?_⟩⟩
    rw [List.getElem?_map, List.getElem?_take] at hj
    split at hj
    · cases hx : r[j]? with
      | none => rw [hx] at hj; cases hj
      | some y => rw [hx] at hj; cases hj; rw [addA]; exact hcell j y hx
    · cases hj)
  obtain ⟨ca, cn, cd, hcd⟩ : ∃ ca cn cd, cdV b off sc (4 * n) = .slice ca cn cd := ⟨_, _, _, rfl⟩
  rw [hcd] at HRows
  rw [hcd] at hsm
  clear hrd2 hofE hCr hcd hn h0
  have hs12 := fun X => run_slice_to (P := Tryd.prog) (w := X) Tryd.underlying22 hi (some ⟨b, off, none⟩) r.length sc 12 (by omega)
  go_wp2_with (at_builtin; apply stopHere9)
  try go_wp2_with (at_builtin; apply stopHere9)
  refine (show wpList _ _ _ _ _ _ from ?_)
  refine wpList_append_rowA rfl _ _ 22 rfl w7.heap.size 5 i0 (.int .u8 0) 1 1 Tryd.underlying22 hi hz0 hz1 hz2 rfl (by decide) (.slice none 0 0) 0 [] rfl (World.ownsRow_nil _ _ _ _) _ 12 ((r.take 12).map cB) rfl (HRows.out w7 HR7.out.b).2 (cB_one _) (by unfold maxLen; decide) (by decide) (Nat.le_refl _) ?_
  intro ao8 c8 w8 hO8 hg8
  rw [Nat.zero_add, List.nil_append] at hO8
  rw [Nat.zero_add]
  have hB8 : Below w7.heap.size w7 w8 := (Below.refl _ _).grown hg8 (Nat.le_refl _) (fun z hz => by cases hz)
  have HO8 := hid13 hO8
  have HB8 := hid13 hB8
  have HR8 := hid13 (HR7.out.keep hB8)
  clear hO8 hg8 hB8 y0 y1 y2 y3 hs12
  have y0 := HR8.out.h 0 _ rfl
  have y1 := HR8.out.h 1 _ rfl
  have y2 := HR8.out.h 2 _ rfl
  have y3 := HR8.out.h 3 _ rfl
  go_wp2_with (at_builtin; apply stopHere9)
  try go_wp2_with (at_builtin; apply stopHere9)
  refine (show wpList _ _ _ _ _ _ from ?_)
  refine wpList_append_rowA rfl _ _ 22 rfl w7.heap.size 5 i0 (.int .u8 0) 1 1 Tryd.underlying22 hi hz0 hz1 hz2 rfl (by decide) _ 12 ((r.take 12).map cB) rfl HO8.out _ (4 * n) (((r.drop 16).take (4 * n)).map cB) rfl (HRows.out w8 HR8.out.b).1 (cB_one _) (by unfold maxLen; have := HNn.out; omega) (by have := HNn.out; omega) HB8.out.size ?_
  intro ao9 c9 w9 hO9 hg9
  have hB9 : Below w7.heap.size w7 w9 := HB8.out.grown hg9 HB8.out.size (fun z hz => (HO8.out.lt z hz).1)
  have hl12 : (r.take 12 ++ rC r).length = 12 + 4 * n := by rw [HCe.out, List.length_append, List.length_take, List.length_take, List.length_drop]; have := HC.out; have := HNn.out; omega
  have hO9' : w9.ownsRow w7.heap.size 5 1 (.slice ao9 (12 + 4 * n) c9) (r.take 12 ++ rC r).length ((r.take 12 ++ rC r).map cB) := by rw [hl12, List.map_append, HCe.out]; exact hO9
  have HR9 := hid13 (HR7.out.keep hB9)
  have hrw := own_rwx hO9'
  have HO9 := hid13 hO9'
  have HD9 : Hid (∀ X : World, X.ownsRow w7.heap.size 5 1 (.slice ao9 (12 + 4 * n) c9) (r.take 12 ++ rC r).length ((r.take 12 ++ rC r).map cB) → RwX cB X (.slice (if c9 = 12 then ao9 else ao9.map (·.add (12 * 1))) (4 * n) (c9 - 12)) (rC r)) := hid13 fun X hO => by
    have h1 := rwx_from (own_rwx hO) (k := 12) (by omega)
    rw [hl12, show 12 + 4 * n - 12 = 4 * n by omega] at h1
    have h2 : (r.take 12 ++ rC r).drop 12 = rC r := List.drop_left' (by rw [List.length_take]; have := HC.out; omega)
    rw [h2] at h1
    exact h1
  have hsl : ∀ X, Sem.run Tryd.prog (Instr.sliceAt 22 (.slice ao9 (12 + 4 * n) c9) (some (.int .i64 12)) none none) X = .ok (.slice (if c9 = 12 then ao9 else ao9.map (·.add (12 * 1))) (4 * n) (c9 - 12)) X := fun X => by
    have := run_slice_from (P := Tryd.prog) (w := X) Tryd.underlying22 hi hz1 ao9 (12 + 4 * n) c9 12 (by omega)
    rw [show 12 + 4 * n - 12 = 4 * n by omega] at this
    exact this
  have K10 := rsum13 (.slice ao9 (12 + 4 * n) c9) (r.take 12 ++ rC r) w9 hrw (by rw [hl12]; have := HNn.out; omega) (fun b hb => by rcases List.mem_append.1 hb with h | h; exact HX.out b (List.mem_of_mem_take h); exact HX.out b (List.mem_of_mem_drop (List.mem_of_mem_take h)))
  have h12n : (12 : Int) ≤ ((12 + 4 * n : Nat) : Int) := by omega
  generalize uI (crS (r.take 12 ++ rC r)) = sm at *
  generalize (if c9 = 12 then ao9 else ao9.map (·.add (12 * 1))) = dv at *
  generalize c9 - 12 = dc at *
  obtain ⟨nn, hnn⟩ : ∃ nn, nn = 12 + 4 * n := ⟨_, rfl⟩
  rw [← hnn] at K10 hsl h12n HO9 HD9 ⊢
  obtain ⟨n4, hn4⟩ : ∃ n4, n4 = 4 * n := ⟨_, rfl⟩
  rw [← hn4] at hsl HD9
  clear hO9 hg9 hB9 hO9' hrw hl12 HO8 HB8 HR8 y0 y1 y2 y3 HRows hsm hnn hn4
  have y0 := HR9.out.h 0 _ rfl
  have y1 := HR9.out.h 1 _ rfl
  have y2 := HR9.out.h 2 _ rfl
  have y3 := HR9.out.h 3 _ rfl
  have z0 := (HR9.out.z 0 (by decide)).1
  have fz0 := (HR9.out.z 0 (by decide)).2
  have z1 := (HR9.out.z 1 (by decide)).1
  have fz1 := (HR9.out.z 1 (by decide)).2
  have z2 := (HR9.out.z 2 (by decide)).1
  have fz2 := (HR9.out.z 2 (by decide)).2
  have z3 := (HR9.out.z 3 (by decide)).1
  have fz3 := (HR9.out.z 3 (by decide)).2
  by_cases hsum : sm = x4
  rotate_left 1
  · have HE9 : Hid (E = 23 ∧ OV = .agg #[.int .i64 0, .int .i64 0, .int .i64 0, .int .i64 0] ∧ OC = []) := by
      have h1 : rOk r = false := by rw [HOk.out]; simp; omega
      have h9 : E = 23 := by rw [HE1.out, h1]; rfl
      exact ⟨h9, HErr.out (by rw [h9]; decide)⟩
    have hq : (sm != x4) = true := by simpa using hsum
    have HB9 := hid13 HR9.out.b
    clear HE1 HOk hsum y0 y1 y2 y3
    go_wp2_with fail
    refine K10.mono ?_
    rintro e10 w10 ⟨rfl, rfl⟩
    clear K10
    go_wp2
    exact bodyPost_ret (v := .tuple #[.agg #[.int .i64 0, .int .i64 0, .int .i64 0, .int .i64 0], .slice none 0 0, .int .i64 23]) (by simp [results, Tryd.results9, go_sem, *]) rfl ⟨_, by rw [HE9.out.1, HE9.out.2.1], by rw [HE9.out.2.2]; exact HNil.out _, by first | exact HB9.out | exact bset4 HB9.out _ _ _ _⟩
  have HE9 : Hid (E = 0 ∧ OV = .agg #[.int .i64 x0, .int .i64 x1, .int .i64 x2, .int .i64 x3] ∧ OC = rC r) := by
    have h1 : rOk r = true := by rw [HOk.out, hsum]; exact beq_self_eq_true _
    have h9 : E = 0 := by rw [HE1.out, h1]; rfl
    exact ⟨h9, by rw [HOut.out.1, if_pos h9], by rw [HOut.out.2, if_pos h9]⟩
  subst hsum
  have HB9 := hid13 HR9.out.b
  have HNe : w4.heap.size ≠ w.heap.size := by have := HN4.out; omega
  clear HE1 HOk
  go_wp2_with fail
  refine K10.mono ?_
  rintro e10 w10 ⟨rfl, rfl⟩
  clear K10
  go_wp2_with fail
  go_region
  go_wp2
  have HN7 : w.heap.size < w7.heap.size := cell_in (HR7.out.z 0 (by decide)).1
  have hO10 := ownsRow_setCell_below (a := ⟨w.heap.size, 3, none⟩) (ownsRow_setCell_below (a := ⟨w.heap.size, 2, none⟩) (ownsRow_setCell_below (a := ⟨w.heap.size, 1, none⟩) (ownsRow_setCell_below (a := ⟨w.heap.size, 0, none⟩) HO9.out HN7 (.int .i64 x0)) HN7 (.int .i64 x1)) HN7 (.int .i64 x2)) HN7 (.int .i64 x3)
  refine bodyPost_ret (v := .tuple #[.agg #[.int .i64 x0, .int .i64 x1, .int .i64 x2, .int .i64 x3], .slice dv n4 dc, .int .i64 0]) (by simp [results, Tryd.results9, go_sem, *]) rfl ⟨_, by rw [HE9.out.1, HE9.out.2.1], ?_, (bset4 HB9.out _ _ _ _).drew⟩
  rw [HE9.out.2.2]
  exact HD9.out _ (own_b13 (below_drewN (Below.refl _ _) 1) hO10)
end Go.Proofs.YtjgpbahglkaijaaDoor
namespace Go.Proofs.YtjgpbahglkaijaaDoor
open Go.RowKit
set_option linter.unusedSimpArgs false
set_option linter.unusedVariables false

theorem opV_form (l : List Nat) (a : Int) : ∃ x0 x1 x2 x3 : Int, opV l a = .agg #[.int .i64 x0, .int .i64 x1, .int .i64 x2, .int .i64 x3] := by
  unfold opV; split
  · exact ⟨_, _, _, _, rfl⟩
  · exact ⟨_, _, _, _, rfl⟩
theorem opC_lt {l : List Nat} {a : Int} (h : ∀ b ∈ l, b < 256) : ∀ b ∈ opC l a, b < 256 := by
  intro b hb
  unfold opC at hb
  split at hb
  · exact h b (List.mem_of_mem_drop (List.mem_of_mem_drop (List.mem_of_mem_take hb)))
  · cases hb
end Go.Proofs.YtjgpbahglkaijaaDoor
