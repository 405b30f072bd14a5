/-
  Part 8 of the proof: 1 texts, one behind the other.
-/
import Derived.Test.YtiachojhnbicaabDoorPart7
import Derived.Test.YtiachojhnbicaabDoorPart3
namespace Go.Proofs.YtiachojhnbicaabDoor
open Go.RowKit Go.Shelf
set_option linter.unusedSimpArgs false
set_option linter.unusedVariables false
attribute [local go_sem] Oper.semAt_some

set_option maxRecDepth 100000 in
set_option maxHeartbeats 4000000 in
theorem sizeS21 (w0 : World) (B : Nat) (va vl : Value) (l : List Nat) (vp : Value) (w : World) (h : RS21 w0 B va vl l vp w) :
    Calls Tryd.prog 30 #[.pointer (some ⟨B, 0, none⟩)] w fun e w' => e = (if 20 ≤ l.length then .returned (.tuple #[]) else .panicked (pan21 22)) ∧ w' = w := by
  obtain ⟨lo, lc, hvl, hlc, -⟩ := id h.r
  subst hvl
  have z1 := at_16 h.c 1 _ rfl
  by_cases c : 20 ≤ l.length
  · have l1 : decide (20 ≤ (l.length : Int)) = true := decide_eq_true (by omega)
    rw [if_pos c]
    clear h c hlc
    go_enter Tryd.func30, Tryd.ntmps30
    go_wp2_with fail
    refine (askY21 22 w).mono ?_
    rintro e w1 ⟨rfl, hw1⟩
    replace hw1 := hw1.symm
    subst hw1
    go_wp2
    exact bodyPost_end (v := .tuple #[]) (by simp [results, Tryd.results30, go_sem]) rfl ⟨rfl, rfl⟩
  · have l1 : decide (20 ≤ (l.length : Int)) = false := decide_eq_false (by omega)
    rw [if_neg c]
    clear h c hlc
    go_enter Tryd.func30, Tryd.ntmps30
    go_wp2_with fail
    refine (askN21 22 w).mono ?_
    rintro e w1 ⟨rfl, hw1⟩
    replace hw1 := hw1.symm
    subst hw1
    exact ⟨rfl, rfl, rfl⟩
set_option maxRecDepth 100000 in
set_option maxHeartbeats 4000000 in
theorem magicS21 (w0 : World) (B : Nat) (va vl : Value) (l : List Nat) (vp : Value) (w : World) (h : RS21 w0 B va vl l vp w) (h4 : 4 ≤ l.length) :
    Calls Tryd.prog 31 #[.pointer (some ⟨B, 0, none⟩)] w fun e w' => e = (if l.take 4 = [84, 80, 68, 49] then .returned (.tuple #[]) else .panicked (pan21 21)) ∧ w' = w := by
  obtain ⟨i0, ji, jz0, jz1, jz2⟩ := info13 Tryd.infoB13
  obtain ⟨lo, lc, hvl, hlc, -⟩ := id h.r
  subst hvl
  have z1 := at_16 h.c 1 _ rfl
  have hs1 : ∀ X, Sem.run Tryd.prog (Instr.sliceAt 22 (.slice lo l.length lc) none (some (.int .i64 4)) none) X = .ok (.slice lo 4 lc) X := fun X => run_slice_to (P := Tryd.prog) (w := X) Tryd.underlying22 ji lo l.length lc 4 (by omega)
  have c1 := conv13 ((rwx_take21 h.r h4).below h.b) (fun b hb => h.x b (List.mem_of_mem_take hb))
  have hbq := bsA_eq (x := l.take 4) (y := [84, 80, 68, 49]) (fun b hb => h.x b (List.mem_of_mem_take hb)) (by decide)
  rw [show (bsA [84, 80, 68, 49]).toList = [84, 80, 68, 49] from bsA_list _] at hbq
  by_cases c : l.take 4 = [84, 80, 68, 49]
  · rw [if_pos c]
    rw [decide_eq_true c] at hbq
    clear c
    generalize bsA (l.take 4) = st at *
    clear h h4 hlc
    go_enter Tryd.func31, Tryd.ntmps31
    go_wp2_with fail
    refine (askY21 21 w).mono ?_
    rintro e w1 ⟨rfl, hw1⟩
    replace hw1 := hw1.symm
    subst hw1
    go_wp2
    exact bodyPost_end (v := .tuple #[]) (by simp [results, Tryd.results31, go_sem]) rfl ⟨rfl, rfl⟩
  · rw [if_neg c]
    rw [decide_eq_false c] at hbq
    clear c
    generalize bsA (l.take 4) = st at *
    clear h h4 hlc
    go_enter Tryd.func31, Tryd.ntmps31
    go_wp2_with fail
    refine (askN21 21 w).mono ?_
    rintro e w1 ⟨rfl, hw1⟩
    replace hw1 := hw1.symm
    subst hw1
    exact ⟨rfl, rfl, rfl⟩
structure RQ21 (w0 : World) (w : World) (LB : Nat) (vt : Value) (lt : List Nat) (vs : Value) (ok : Prop) (f0 f7 f10 : Bool) (g : Nat) (X : World) : Prop where
  k : Below w.heap.size w X
  t : f0 = false → RS21 w0 LB (.slice none 0 0) vt lt (.slice none 0 0) X
  c : ∃ u1 u2 u3, X.heap[LB]? = some (.cells #[u1, u2, u3] 60)
  d7 : f7 = true → X.heap[g]? = some (.cells #[vs] 22)
  z : f10 = true → ok
def SmQ21 (w0 : World) (B : Nat) (va vp : Value) (l : List Nat) (w : World) (e : Ending) (w' : World) : Prop :=
  if numN13 ((l.drop (l.length - 4)).take 4) = (crS (l.take (l.length - 4))).toNat then e = .returned (.tuple #[]) ∧ (∃ vl', RS21 w0 B va vl' ((l.drop 4).take (l.length - 8)) vp w') ∧ KR21 B w w'
  else e = .panicked (pan21 23) ∧ KR21 B w w'
set_option maxRecDepth 100000 in
set_option maxHeartbeats 16000000 in
theorem sumS21 (w0 : World) (B : Nat) (va vl : Value) (l : List Nat) (vp : Value) (w : World) (h : RS21 w0 B va vl l vp w) (h20 : 20 ≤ l.length) (hT : Hf w) :
    Calls Tryd.prog 32 #[.pointer (some ⟨B, 0, none⟩)] w fun e w' => SmQ21 w0 B va vp l w e w' := by
  obtain ⟨i0, ji, jz0, jz1, jz2⟩ := info13 Tryd.infoB13
  obtain ⟨lo, lc, hvl, hlc, -⟩ := id h.r
  subst hvl
  obtain ⟨E, hE⟩ : ∃ E, E = l.length - 4 := ⟨_, rfl⟩
  have w1' : IntKind.i64.wrap ((l.length : Int) - 4) = (E : Int) := by rw [IntKind.wrap_i64]; have := h.n; omega
  have hs1 : ∀ X, Sem.run Tryd.prog (Instr.sliceAt 22 (.slice lo l.length lc) (some (.int .i64 (E : Int))) none none) X = .ok (.slice (if lc = E then lo else lo.map (·.add (E * 1))) (l.length - E) (lc - E)) X := fun X => run_slice_from (P := Tryd.prog) (w := X) Tryd.underlying22 ji jz1 lo l.length lc E (by omega)
  have HS2 : Hid (∀ X, Sem.run Tryd.prog (Instr.sliceAt 22 (.slice lo l.length lc) none (some (.int .i64 (E : Int))) none) X = .ok (.slice lo E lc) X) := fun X => run_slice_to (P := Tryd.prog) (w := X) Tryd.underlying22 ji lo l.length lc E (by omega)
  have hs3 : ∀ X, Sem.run Tryd.prog (Instr.sliceAt 22 (.slice lo l.length lc) (some (.int .i64 4)) (some (.int .i64 (E : Int))) none) X = .ok (.slice (if lc = 4 then lo else lo.map (·.add (4 * 1))) (E - 4) (lc - 4)) X := fun X => slice_mid17 (P := Tryd.prog) (w := X) Tryd.underlying22 ji jz1 lo l.length lc 4 E (by omega) (by omega)
  have HT : Hid (RwX cB w0 (.slice (if lc = E then lo else lo.map (·.add (E * 1))) (l.length - E) (lc - E)) (l.drop E) ∧ RowA w0 1 (.slice (if lc = E then lo else lo.map (·.add (E * 1))) (l.length - E) (lc - E)) (l.drop E).length ((l.drop E).map cB)) := ⟨rwx_from h.r (by omega), by rw [List.length_drop]; exact rowA_from21 h.a (by omega)⟩
  have HM : Hid (RwX cB w0 (.slice (if lc = 4 then lo else lo.map (·.add (4 * 1))) (E - 4) (lc - 4)) ((l.drop 4).take (l.length - 8)) ∧ RowA w0 1 (.slice (if lc = 4 then lo else lo.map (·.add (4 * 1))) (E - 4) (lc - 4)) ((l.drop 4).take (l.length - 8)).length (((l.drop 4).take (l.length - 8)).map cB) ∧ ((l.drop 4).take (l.length - 8)).length = l.length - 8) := by
    have e8 : l.length - 8 = E - 4 := by omega
    have hl8 : ((l.drop 4).take (l.length - 8)).length = l.length - 8 := by rw [List.length_take, List.length_drop]; omega
    refine ⟨by rw [e8]; exact rwx_mid21 h.r (by omega), ?_, hl8⟩
    rw [hl8, e8]; exact rowA_mid21 h.a (by omega)
  have HR1 : Hid (RwX cB w0 (.slice lo E lc) (l.take E)) := rwx_take21 h.r (by omega)
  generalize (if lc = E then lo else lo.map (·.add (E * 1))) = to21 at *
  generalize (if lc = 4 then lo else lo.map (·.add (4 * 1))) = mo at *
  have HL : Hid (E = l.length - 4 ∧ 20 ≤ l.length ∧ l.length ≤ 140737480000000 ∧ (l.drop E).length = l.length - E) := ⟨hE, h20, h.n, by rw [List.length_drop]⟩
  have HX := hid13 h.x
  have HTb := hid13 hT
  have z1 := at_16 h.c 1 _ rfl
  have HS := hid13 h
  obtain ⟨sm, hsm⟩ : ∃ s, s = numN13 ((l.drop E).take 4) := ⟨_, rfl⟩
  obtain ⟨cs, hcs⟩ : ∃ s, s = (crS (l.take E)).toNat := ⟨_, rfl⟩
  have hcu : uI (crS (l.take E)) = (cs : Int) := by rw [uI_eq, hcs]
  have HSC : Hid (sm = numN13 ((l.drop E).take 4) ∧ uI (crS (l.take E)) = (cs : Int)) := ⟨hsm, hcu⟩
  have q1 := bl1 w (.cells #[.slice none 0 0, .slice to21 (l.length - E) (lc - E), .slice none 0 0] 60)
  obtain ⟨w1, hw1⟩ : ∃ w1, w1 = w.alloc (.cells #[.slice none 0 0, .slice to21 (l.length - E) (lc - E), .slice none 0 0] 60) := ⟨_, rfl⟩
  have hcb : w1.heap[w.heap.size]? = some (.cells #[.slice none 0 0, .slice to21 (l.length - E) (lc - E), .slice none 0 0] 60) := by rw [hw1]; exact new_16 _ _
  rw [← hw1] at q1
  have HW1 : Hid (w1 = w.alloc (.cells #[.slice none 0 0, .slice to21 (l.length - E) (lc - E), .slice none 0 0] 60)) := hw1
  have HR0 : Hid (RQ21 w0 w w.heap.size (.slice to21 (l.length - E) (lc - E)) (l.drop E) (.slice lo E lc) (sm = cs) false false false 0 w1.drew) := by
    refine ⟨q1.drew, fun _ => ⟨(keepb q1 h.b).drew, h.b.size, hcb, HT.out.1, HT.out.2, fun z hz => h.x z (List.mem_of_mem_drop hz), by rw [List.length_drop]; have := h.n; omega⟩, ⟨_, _, _, hcb⟩, (fun q => by cases q), (fun q => by cases q)⟩
  have HQ : Hid (∀ e w', (if sm = cs then e = .returned (.tuple #[]) ∧ (∃ vl', RS21 w0 B va vl' ((l.drop 4).take (l.length - 8)) vp w') ∧ KR21 B w w' else e = .panicked (pan21 23) ∧ KR21 B w w') → SmQ21 w0 B va vp l w e w') := by
    intro e w' hh
    unfold SmQ21
    rw [← hE, ← hsm, ← hcs]
    exact hh
  clear hE hsm hcs hcu hw1 h h20 hT hcb hlc q1
  by_cases hsc : sm = cs
  · have hsq : ((sm : Int) == (cs : Int)) = true := by rw [hsc]; simp
    have HSQ : Hid (sm = cs) := hsc
    clear hsc
    go_enter Tryd.func32, Tryd.ntmps32
    go_wp2_with fail
    rw [← HW1.out]
    refine gh_regionP21 (γ := Nat) (fun _ _ => False) (qpOk 11 11 (by decide) (fun N => by kernel_rfl) (by kernel_rfl) (by kernel_rfl) (by kernel_rfl) (by kernel_rfl)) (by kernel_rfl) (by kernel_rfl) [some 17, some 18, some 19, some 20, some 21, some 22, some 23, some 24, some 25, some 26, some 27] (fun g => [.int .u32 (sm : Int), .pointer (some ⟨B, 0, none⟩), .pointer (some ⟨B, 0, none⟩), .pointer (some ⟨B, 1, none⟩), .slice lo l.length lc, .int .i64 (E : Int), .slice lo E lc, .slice (some ⟨g, 0, none⟩) 1 1, .int .u32 (cs : Int), .bool true, .tuple #[]]) (by kernel_rfl) (by simp) (fun lp g X => RQ21 w0 w w.heap.size (.slice to21 (l.length - E) (lc - E)) (l.drop E) (.slice lo E lc) (sm = cs) (lp.getD 0 false) (lp.getD 7 false) (lp.getD 10 false) g X) 0 HR0.out ?step2 (fun _ _ _ _ h => h.elim) ?fin2
    case step2 =>
      intro q o lp g w' a' ho hsz hun hdep hR hS K Q' hPn hK
      have hfl : ∀ j, j ≠ q → (lp.setIfInBounds q true).getD j false = lp.getD j false := fun j hj => by rw [Array.getD_eq_getD_getElem?, Array.getD_eq_getD_getElem?, Array.getElem?_setIfInBounds_ne (by omega)]
      have hq : q < 11 := (List.getElem?_eq_some_iff.mp ho).1
      match q, ho, hun, hdep, hK, hfl, hq with
      | 0, ho, hun, hdep, hK, hfl, _ =>
        obtain rfl := Option.some.inj ho
        have o3 : a'.tmps[3]? = some (.pointer (some ⟨w.heap.size, 0, none⟩)) := (hS.old14 3 (by simp)).trans rfl
        have KC := numY21 w0 w.heap.size _ _ (l.drop E) _ w' (hR.t hun) (by have := HL.out; omega)
        rw [← HSC.out.1] at KC
        clear hdep
        unfold Oper.wp
        simp only [execOp, Act.eval, Array.getD_eq_getD_getElem?]
        simp [go_sem, o3, Oper.upon]
        refine KC.mono ?_
        rintro e W2 ⟨vl2, rfl, hs2, hk2⟩
        exact hK g W2 (fun _ _ _ _ _ _ => rfl) (by rw [hfl 7 (by decide), hfl 10 (by decide), getD_set_same (by rw [hsz]; decide)]; exact ⟨hR.k.trans (hk2.lo.mono (Nat.le_refl _)), fun h => (by cases h), ⟨_, _, _, hs2.c⟩, fun h => (hk2.ot.2 g (lt_16 (hR.d7 h)) (by intro e; subst e; obtain ⟨u1, u2, u3, hc⟩ := hR.c; have h2 := hR.d7 h; rw [hc] at h2; cases h2)).trans (hR.d7 h), hR.z⟩) _ (by simp only [valO, Option.bind_some]; simp only [putAll, Act.put, List.setIfInBounds_toArray, List.set_cons_zero, List.set_cons_succ]; rfl)
      | 1, ho, hun, hdep, hK, hfl, _ =>
        obtain rfl := Option.some.inj ho
        have o0 : a'.tmps[0]? = some (.pointer (some ⟨B, 0, none⟩)) := (hS.old14 0 (by simp)).trans rfl
        have hK' := hK g w' (fun _ _ _ _ _ _ => rfl) (by rw [hfl 0 (by decide), hfl 7 (by decide), hfl 10 (by decide)]; exact hR) (.pointer (some ⟨B, 0, none⟩)) (by simp only [valO, Option.bind_some]; (try simp only [putAll, Act.put, List.setIfInBounds_toArray, List.set_cons_zero, List.set_cons_succ]); (try rfl))
        clear hS hdep hR
        refine gh_quiet14 (v := .pointer (some ⟨B, 0, none⟩)) ?_ ?_
        · (simp only [execOp, Act.eval, o0]; go_simp; first | done | (simp; done) | (simp [*]; done) | omega | (rw [IntKind.wrap_i64]; omega))
        · exact hK'
      | 2, ho, hun, hdep, hK, hfl, _ =>
        obtain rfl := Option.some.inj ho
        have d1 : lp.getD 1 false = true := hdep { on := 1, ground := .data } (by simp) rfl
        have e18 : a'.tmps[18]? = some (.pointer (some ⟨B, 0, none⟩)) := (hS.don 1 _ 18 rfl d1 rfl).trans (by simp only [putAll, Act.put, List.setIfInBounds_toArray, List.set_cons_zero, List.set_cons_succ]; rfl)
        have hK' := hK g w' (fun _ _ _ _ _ _ => rfl) (by rw [hfl 0 (by decide), hfl 7 (by decide), hfl 10 (by decide)]; exact hR) (.pointer (some ⟨B, 0, none⟩)) (by simp only [valO, Option.bind_some]; (try simp only [putAll, Act.put, List.setIfInBounds_toArray, List.set_cons_zero, List.set_cons_succ]); (try rfl))
        clear hS hdep hR
        refine gh_quiet14 (v := .pointer (some ⟨B, 0, none⟩)) ?_ ?_
        · (simp only [execOp, Act.eval, e18]; go_simp; first | done | (simp; done) | (simp [*]; done) | omega | (rw [IntKind.wrap_i64]; omega))
        · exact hK'
      | 3, ho, hun, hdep, hK, hfl, _ =>
        obtain rfl := Option.some.inj ho
        have d2 : lp.getD 2 false = true := hdep { on := 2, ground := .data } (by simp) rfl
        have e19 : a'.tmps[19]? = some (.pointer (some ⟨B, 0, none⟩)) := (hS.don 2 _ 19 rfl d2 rfl).trans (by simp only [putAll, Act.put, List.setIfInBounds_toArray, List.set_cons_zero, List.set_cons_succ]; rfl)
        have hK' := hK g w' (fun _ _ _ _ _ _ => rfl) (by rw [hfl 0 (by decide), hfl 7 (by decide), hfl 10 (by decide)]; exact hR) (.pointer (some ⟨B, 1, none⟩)) (by simp only [valO, Option.bind_some]; (try simp only [putAll, Act.put, List.setIfInBounds_toArray, List.set_cons_zero, List.set_cons_succ]); (try rfl))
        clear hS hdep hR
        refine gh_quiet14 (v := .pointer (some ⟨B, 1, none⟩)) ?_ ?_
        · (simp only [execOp, Act.eval, e19]; go_simp; first | done | (simp; done) | (simp [*]; done) | omega | (rw [IntKind.wrap_i64]; omega))
        · exact hK'
      | 4, ho, hun, hdep, hK, hfl, _ =>
        obtain rfl := Option.some.inj ho
        have d3 : lp.getD 3 false = true := hdep { on := 3, ground := .data } (by simp) rfl
        have e20 : a'.tmps[20]? = some (.pointer (some ⟨B, 1, none⟩)) := (hS.don 3 _ 20 rfl d3 rfl).trans (by simp only [putAll, Act.put, List.setIfInBounds_toArray, List.set_cons_zero, List.set_cons_succ]; rfl)
        have z1 := at_16 (hR.k.block _ HS.out.lt |>.trans HS.out.c) 1 _ rfl
        have hK' := hK g w' (fun _ _ _ _ _ _ => rfl) (by rw [hfl 0 (by decide), hfl 7 (by decide), hfl 10 (by decide)]; exact hR) (.slice lo l.length lc) (by simp only [valO, Option.bind_some]; (try simp only [putAll, Act.put, List.setIfInBounds_toArray, List.set_cons_zero, List.set_cons_succ]); (try rfl))
        clear hS hdep hR
        refine gh_quiet14 (v := .slice lo l.length lc) ?_ ?_
        · (simp only [execOp, Act.eval, e20]; go_simp; first | done | (simp; done) | (simp [*]; done) | omega | (rw [IntKind.wrap_i64]; omega))
        · exact hK'
      | 5, ho, hun, hdep, hK, hfl, _ =>
        obtain rfl := Option.some.inj ho
        have o2 : a'.tmps[2]? = some (.int .i64 (E : Int)) := (hS.old14 2 (by simp)).trans rfl
        have hK' := hK g w' (fun _ _ _ _ _ _ => rfl) (by rw [hfl 0 (by decide), hfl 7 (by decide), hfl 10 (by decide)]; exact hR) (.int .i64 (E : Int)) (by simp only [valO, Option.bind_some]; (try simp only [putAll, Act.put, List.setIfInBounds_toArray, List.set_cons_zero, List.set_cons_succ]); (try rfl))
        clear hS hdep hR
        refine gh_quiet14 (v := .int .i64 (E : Int)) ?_ ?_
        · (simp only [execOp, Act.eval, o2]; go_simp; first | done | (simp; done) | (simp [*]; done) | omega | (rw [IntKind.wrap_i64]; omega))
        · exact hK'
      | 6, ho, hun, hdep, hK, hfl, _ =>
        obtain rfl := Option.some.inj ho
        have d4 : lp.getD 4 false = true := hdep { on := 4, ground := .data } (by simp) rfl
        have e21 : a'.tmps[21]? = some (.slice lo l.length lc) := (hS.don 4 _ 21 rfl d4 rfl).trans (by simp only [putAll, Act.put, List.setIfInBounds_toArray, List.set_cons_zero, List.set_cons_succ]; rfl)
        have d5 : lp.getD 5 false = true := hdep { on := 5, ground := .data } (by simp) rfl
        have e22 : a'.tmps[22]? = some (.int .i64 (E : Int)) := (hS.don 5 _ 22 rfl d5 rfl).trans (by simp only [putAll, Act.put, List.setIfInBounds_toArray, List.set_cons_zero, List.set_cons_succ]; rfl)
        have hK' := hK g w' (fun _ _ _ _ _ _ => rfl) (by rw [hfl 0 (by decide), hfl 7 (by decide), hfl 10 (by decide)]; exact hR) (.slice lo E lc) (by simp only [valO, Option.bind_some]; simp only [putAll, Act.put, List.setIfInBounds_toArray, List.set_cons_zero, List.set_cons_succ]; rfl)
        clear hS hdep hR
        refine gh_quiet14 (v := .slice lo E lc) ?_ ?_
        · (simp only [execOp, Act.eval, Option.map_some, Option.map_none, Array.getD_eq_getD_getElem?, e21, e22, Option.getD_some]; exact ex17 (HS2.out w'))
        · exact hK'
      | 7, ho, hun, hdep, hK, hfl, _ =>
        obtain rfl := Option.some.inj ho
        have d6 : lp.getD 6 false = true := hdep { on := 6, ground := .data } (by simp) rfl
        have e23 : a'.tmps[23]? = some (.slice lo E lc) := (hS.don 6 _ 23 rfl d6 rfl).trans (by simp only [putAll, Act.put, List.setIfInBounds_toArray, List.set_cons_zero, List.set_cons_succ]; rfl)
        have q := bl1 w' (.cells #[.slice lo E lc] 22)
        have hK' := hK w'.heap.size (w'.alloc (.cells #[.slice lo E lc] 22)) (fun k' ok s hk hl hd => gh_same14 (d := 24) (s := s) (by simp only [putAll, Act.put, List.setIfInBounds_toArray, List.set_cons_zero, List.set_cons_succ]; rfl) (by rintro rfl; have := dstG_of (by kernel_rfl) k' 7 ok _ 24 hk rfl hd rfl; subst this; rw [hun] at hl; cases hl)) (by rw [hfl 0 (by decide), hfl 10 (by decide), getD_set_same (by rw [hsz]; decide)]; exact ⟨hR.k.trans (q.mono hR.k.size), fun h => (hR.t h).below q, (by obtain ⟨u1, u2, u3, hc⟩ := hR.c; exact ⟨u1, u2, u3, (q.block _ (lt_16 hc)).trans hc⟩), fun _ => new_16 _ _, hR.z⟩) (.slice (some ⟨w'.heap.size, 0, none⟩) 1 1) (by simp only [valO, Option.bind_some]; simp only [putAll, Act.put, List.setIfInBounds_toArray, List.set_cons_zero, List.set_cons_succ]; rfl)
        clear hS hdep hR hK q
        unfold Oper.wp
        simp only [execOp, Act.eval, Array.getD_eq_getD_getElem?]
        simp [go_sem, e23, Oper.upon]
        exact hK'
      | 8, ho, hun, hdep, hK, hfl, _ =>
        obtain rfl := Option.some.inj ho
        have d7 : lp.getD 7 false = true := hdep { on := 7, ground := .data } (by simp) rfl
        have e24 : a'.tmps[24]? = some (.slice (some ⟨g, 0, none⟩) 1 1) := (hS.don 7 _ 24 rfl d7 rfl).trans (by simp only [putAll, Act.put, List.setIfInBounds_toArray, List.set_cons_zero, List.set_cons_succ]; rfl)
        have KC := sum_one (at_16 (hR.d7 d7) 0 _ rfl) (HR1.out.below (HS.out.b.trans (hR.k.mono HS.out.b.size))) (by rw [List.length_take]; have := HL.out; omega) (fun b hb => HX.out b (List.mem_of_mem_take hb)) (HTb.out.below hR.k)
        rw [HSC.out.2] at KC
        clear hdep
        unfold Oper.wp
        simp only [execOp, Act.eval, Array.getD_eq_getD_getElem?]
        simp [go_sem, e24, Oper.upon]
        refine KC.mono ?_
        rintro e W2 ⟨rfl, hw2⟩
        replace hw2 := hw2.symm
        subst hw2
        exact hK g w' (fun _ _ _ _ _ _ => rfl) (by rw [hfl 0 (by decide), hfl 7 (by decide), hfl 10 (by decide)]; exact hR) _ (by simp only [valO, Option.bind_some]; simp only [putAll, Act.put, List.setIfInBounds_toArray, List.set_cons_zero, List.set_cons_succ]; rfl)
      | 9, ho, hun, hdep, hK, hfl, _ =>
        obtain rfl := Option.some.inj ho
        have d0 : lp.getD 0 false = true := hdep { on := 0, ground := .data } (by simp) rfl
        have e17 : a'.tmps[17]? = some (.int .u32 (sm : Int)) := (hS.don 0 _ 17 rfl d0 rfl).trans (by simp only [putAll, Act.put, List.setIfInBounds_toArray, List.set_cons_zero, List.set_cons_succ]; rfl)
        have d8 : lp.getD 8 false = true := hdep { on := 8, ground := .data } (by simp) rfl
        have e25 : a'.tmps[25]? = some (.int .u32 (cs : Int)) := (hS.don 8 _ 25 rfl d8 rfl).trans (by simp only [putAll, Act.put, List.setIfInBounds_toArray, List.set_cons_zero, List.set_cons_succ]; rfl)
        have hK' := hK g w' (fun _ _ _ _ _ _ => rfl) (by rw [hfl 0 (by decide), hfl 7 (by decide), hfl 10 (by decide)]; exact hR) (.bool true) (by simp only [valO, Option.bind_some]; (try simp only [putAll, Act.put, List.setIfInBounds_toArray, List.set_cons_zero, List.set_cons_succ]); (try rfl))
        clear hS hdep hR
        refine gh_quiet14 (v := .bool true) ?_ ?_
        · (simp only [execOp, Act.eval, e17, e25]; go_simp; first | done | (simp; done) | (simp [*]; done) | omega | (rw [IntKind.wrap_i64]; omega))
        · exact hK'
      | 10, ho, hun, hdep, hK, hfl, _ =>
        obtain rfl := Option.some.inj ho
        have d9 : lp.getD 9 false = true := hdep { on := 9, ground := .data } (by simp) rfl
        have e26 : a'.tmps[26]? = some (.bool true) := (hS.don 9 _ 26 rfl d9 rfl).trans (by simp only [putAll, Act.put, List.setIfInBounds_toArray, List.set_cons_zero, List.set_cons_succ]; rfl)
        have KC := askY21 23 w'
        clear hdep
        unfold Oper.wp
        simp only [execOp, Act.eval, Array.getD_eq_getD_getElem?]
        simp [go_sem, e26, Oper.upon]
        refine KC.mono ?_
        rintro e W2 ⟨rfl, hw2⟩
        replace hw2 := hw2.symm
        subst hw2
        exact hK g w' (fun _ _ _ _ _ _ => rfl) (by rw [hfl 0 (by decide), hfl 7 (by decide), getD_set_same (by rw [hsz]; decide)]; exact ⟨hR.k, hR.t, hR.c, hR.d7, fun _ => HSQ.out⟩) _ (by simp only [valO, Option.bind_some]; simp only [putAll, Act.put, List.setIfInBounds_toArray, List.set_cons_zero, List.set_cons_succ]; rfl)
      | n + 11, ho, hun, hdep, hK, hfl, hq => exact absurd hq (by omega)
    case fin2 =>
      intro g X hX
      have HK := hid13 hX.k
      simp only [putAll, Act.put, List.setIfInBounds_toArray, List.set_cons_zero, List.set_cons_succ]
      have zX : X.heap[B]? = some (.cells #[va, .slice lo l.length lc, vp] 60) := (HK.out.block _ HS.out.lt).trans HS.out.c
      have y1 := at_16 zX 1 _ rfl
      have f1 := fr_16 (j := 1) zX
      have HZ := hid13 zX
      clear hX HR0 z1 zX hs1
      go_wp2
      refine bodyPost_end (v := .tuple #[]) (by simp [results, Tryd.results32, go_sem]) rfl (HQ.out _ _ ?_)
      rw [if_pos HSQ.out]
      refine ⟨rfl, ⟨_, (HS.out.below HK.out).left HM.out.1 HM.out.2.1 (fun z hz => HX.out z (List.mem_of_mem_drop (List.mem_of_mem_take hz))) (by rw [HM.out.2.2]; have := HL.out; omega)⟩, ((KR21.refl B w).below HS.out.lt HK.out).set _⟩
  · have hsq : ((sm : Int) == (cs : Int)) = false := by simp; omega
    have HSN : Hid (¬ sm = cs) := hsc
    clear hsc
    go_enter Tryd.func32, Tryd.ntmps32
    go_wp2_with fail
    rw [← HW1.out]
    refine gh_regionP21 (γ := Nat) (fun ch X => ch = pan21 23 ∧ Below w.heap.size w X) (qpOk 11 11 (by decide) (fun N => by kernel_rfl) (by kernel_rfl) (by kernel_rfl) (by kernel_rfl) (by kernel_rfl)) (by kernel_rfl) (by kernel_rfl) [some 17, some 18, some 19, some 20, some 21, some 22, some 23, some 24, some 25, some 26, some 27] (fun g => [.int .u32 (sm : Int), .pointer (some ⟨B, 0, none⟩), .pointer (some ⟨B, 0, none⟩), .pointer (some ⟨B, 1, none⟩), .slice lo l.length lc, .int .i64 (E : Int), .slice lo E lc, .slice (some ⟨g, 0, none⟩) 1 1, .int .u32 (cs : Int), .bool false, .tuple #[]]) (by kernel_rfl) (by simp) (fun lp g X => RQ21 w0 w w.heap.size (.slice to21 (l.length - E) (lc - E)) (l.drop E) (.slice lo E lc) (sm = cs) (lp.getD 0 false) (lp.getD 7 false) (lp.getD 10 false) g X) 0 HR0.out ?step2 (fun ch a'' X hd hh => ⟨hd.trans rfl, HQ.out _ _ (by rw [if_neg HSN.out]; exact ⟨by rw [hh.1], (KR21.refl B w).below HS.out.lt hh.2⟩)⟩) ?fin2
    case step2 =>
      intro q o lp g w' a' ho hsz hun hdep hR hS K Q' hPn hK
      have hfl : ∀ j, j ≠ q → (lp.setIfInBounds q true).getD j false = lp.getD j false := fun j hj => by rw [Array.getD_eq_getD_getElem?, Array.getD_eq_getD_getElem?, Array.getElem?_setIfInBounds_ne (by omega)]
      have hq : q < 11 := (List.getElem?_eq_some_iff.mp ho).1
      match q, ho, hun, hdep, hK, hfl, hq with
      | 0, ho, hun, hdep, hK, hfl, _ =>
        obtain rfl := Option.some.inj ho
        have o3 : a'.tmps[3]? = some (.pointer (some ⟨w.heap.size, 0, none⟩)) := (hS.old14 3 (by simp)).trans rfl
        have KC := numY21 w0 w.heap.size _ _ (l.drop E) _ w' (hR.t hun) (by have := HL.out; omega)
        rw [← HSC.out.1] at KC
        clear hdep
        unfold Oper.wp
        simp only [execOp, Act.eval, Array.getD_eq_getD_getElem?]
        simp [go_sem, o3, Oper.upon]
        refine KC.mono ?_
        rintro e W2 ⟨vl2, rfl, hs2, hk2⟩
        exact hK g W2 (fun _ _ _ _ _ _ => rfl) (by rw [hfl 7 (by decide), hfl 10 (by decide), getD_set_same (by rw [hsz]; decide)]; exact ⟨hR.k.trans (hk2.lo.mono (Nat.le_refl _)), fun h => (by cases h), ⟨_, _, _, hs2.c⟩, fun h => (hk2.ot.2 g (lt_16 (hR.d7 h)) (by intro e; subst e; obtain ⟨u1, u2, u3, hc⟩ := hR.c; have h2 := hR.d7 h; rw [hc] at h2; cases h2)).trans (hR.d7 h), hR.z⟩) _ (by simp only [valO, Option.bind_some]; simp only [putAll, Act.put, List.setIfInBounds_toArray, List.set_cons_zero, List.set_cons_succ]; rfl)
      | 1, ho, hun, hdep, hK, hfl, _ =>
        obtain rfl := Option.some.inj ho
        have o0 : a'.tmps[0]? = some (.pointer (some ⟨B, 0, none⟩)) := (hS.old14 0 (by simp)).trans rfl
        have hK' := hK g w' (fun _ _ _ _ _ _ => rfl) (by rw [hfl 0 (by decide), hfl 7 (by decide), hfl 10 (by decide)]; exact hR) (.pointer (some ⟨B, 0, none⟩)) (by simp only [valO, Option.bind_some]; (try simp only [putAll, Act.put, List.setIfInBounds_toArray, List.set_cons_zero, List.set_cons_succ]); (try rfl))
        clear hS hdep hR
        refine gh_quiet14 (v := .pointer (some ⟨B, 0, none⟩)) ?_ ?_
        · (simp only [execOp, Act.eval, o0]; go_simp; first | done | (simp; done) | (simp [*]; done) | omega | (rw [IntKind.wrap_i64]; omega))
        · exact hK'
      | 2, ho, hun, hdep, hK, hfl, _ =>
        obtain rfl := Option.some.inj ho
        have d1 : lp.getD 1 false = true := hdep { on := 1, ground := .data } (by simp) rfl
        have e18 : a'.tmps[18]? = some (.pointer (some ⟨B, 0, none⟩)) := (hS.don 1 _ 18 rfl d1 rfl).trans (by simp only [putAll, Act.put, List.setIfInBounds_toArray, List.set_cons_zero, List.set_cons_succ]; rfl)
        have hK' := hK g w' (fun _ _ _ _ _ _ => rfl) (by rw [hfl 0 (by decide), hfl 7 (by decide), hfl 10 (by decide)]; exact hR) (.pointer (some ⟨B, 0, none⟩)) (by simp only [valO, Option.bind_some]; (try simp only [putAll, Act.put, List.setIfInBounds_toArray, List.set_cons_zero, List.set_cons_succ]); (try rfl))
        clear hS hdep hR
        refine gh_quiet14 (v := .pointer (some ⟨B, 0, none⟩)) ?_ ?_
        · (simp only [execOp, Act.eval, e18]; go_simp; first | done | (simp; done) | (simp [*]; done) | omega | (rw [IntKind.wrap_i64]; omega))
        · exact hK'
      | 3, ho, hun, hdep, hK, hfl, _ =>
        obtain rfl := Option.some.inj ho
        have d2 : lp.getD 2 false = true := hdep { on := 2, ground := .data } (by simp) rfl
        have e19 : a'.tmps[19]? = some (.pointer (some ⟨B, 0, none⟩)) := (hS.don 2 _ 19 rfl d2 rfl).trans (by simp only [putAll, Act.put, List.setIfInBounds_toArray, List.set_cons_zero, List.set_cons_succ]; rfl)
        have hK' := hK g w' (fun _ _ _ _ _ _ => rfl) (by rw [hfl 0 (by decide), hfl 7 (by decide), hfl 10 (by decide)]; exact hR) (.pointer (some ⟨B, 1, none⟩)) (by simp only [valO, Option.bind_some]; (try simp only [putAll, Act.put, List.setIfInBounds_toArray, List.set_cons_zero, List.set_cons_succ]); (try rfl))
        clear hS hdep hR
        refine gh_quiet14 (v := .pointer (some ⟨B, 1, none⟩)) ?_ ?_
        · (simp only [execOp, Act.eval, e19]; go_simp; first | done | (simp; done) | (simp [*]; done) | omega | (rw [IntKind.wrap_i64]; omega))
        · exact hK'
      | 4, ho, hun, hdep, hK, hfl, _ =>
        obtain rfl := Option.some.inj ho
        have d3 : lp.getD 3 false = true := hdep { on := 3, ground := .data } (by simp) rfl
        have e20 : a'.tmps[20]? = some (.pointer (some ⟨B, 1, none⟩)) := (hS.don 3 _ 20 rfl d3 rfl).trans (by simp only [putAll, Act.put, List.setIfInBounds_toArray, List.set_cons_zero, List.set_cons_succ]; rfl)
        have z1 := at_16 (hR.k.block _ HS.out.lt |>.trans HS.out.c) 1 _ rfl
        have hK' := hK g w' (fun _ _ _ _ _ _ => rfl) (by rw [hfl 0 (by decide), hfl 7 (by decide), hfl 10 (by decide)]; exact hR) (.slice lo l.length lc) (by simp only [valO, Option.bind_some]; (try simp only [putAll, Act.put, List.setIfInBounds_toArray, List.set_cons_zero, List.set_cons_succ]); (try rfl))
        clear hS hdep hR
        refine gh_quiet14 (v := .slice lo l.length lc) ?_ ?_
        · (simp only [execOp, Act.eval, e20]; go_simp; first | done | (simp; done) | (simp [*]; done) | omega | (rw [IntKind.wrap_i64]; omega))
        · exact hK'
      | 5, ho, hun, hdep, hK, hfl, _ =>
        obtain rfl := Option.some.inj ho
        have o2 : a'.tmps[2]? = some (.int .i64 (E : Int)) := (hS.old14 2 (by simp)).trans rfl
        have hK' := hK g w' (fun _ _ _ _ _ _ => rfl) (by rw [hfl 0 (by decide), hfl 7 (by decide), hfl 10 (by decide)]; exact hR) (.int .i64 (E : Int)) (by simp only [valO, Option.bind_some]; (try simp only [putAll, Act.put, List.setIfInBounds_toArray, List.set_cons_zero, List.set_cons_succ]); (try rfl))
        clear hS hdep hR
        refine gh_quiet14 (v := .int .i64 (E : Int)) ?_ ?_
        · (simp only [execOp, Act.eval, o2]; go_simp; first | done | (simp; done) | (simp [*]; done) | omega | (rw [IntKind.wrap_i64]; omega))
        · exact hK'
      | 6, ho, hun, hdep, hK, hfl, _ =>
        obtain rfl := Option.some.inj ho
        have d4 : lp.getD 4 false = true := hdep { on := 4, ground := .data } (by simp) rfl
        have e21 : a'.tmps[21]? = some (.slice lo l.length lc) := (hS.don 4 _ 21 rfl d4 rfl).trans (by simp only [putAll, Act.put, List.setIfInBounds_toArray, List.set_cons_zero, List.set_cons_succ]; rfl)
        have d5 : lp.getD 5 false = true := hdep { on := 5, ground := .data } (by simp) rfl
        have e22 : a'.tmps[22]? = some (.int .i64 (E : Int)) := (hS.don 5 _ 22 rfl d5 rfl).trans (by simp only [putAll, Act.put, List.setIfInBounds_toArray, List.set_cons_zero, List.set_cons_succ]; rfl)
        have hK' := hK g w' (fun _ _ _ _ _ _ => rfl) (by rw [hfl 0 (by decide), hfl 7 (by decide), hfl 10 (by decide)]; exact hR) (.slice lo E lc) (by simp only [valO, Option.bind_some]; simp only [putAll, Act.put, List.setIfInBounds_toArray, List.set_cons_zero, List.set_cons_succ]; rfl)
        clear hS hdep hR
        refine gh_quiet14 (v := .slice lo E lc) ?_ ?_
        · (simp only [execOp, Act.eval, Option.map_some, Option.map_none, Array.getD_eq_getD_getElem?, e21, e22, Option.getD_some]; exact ex17 (HS2.out w'))
        · exact hK'
      | 7, ho, hun, hdep, hK, hfl, _ =>
        obtain rfl := Option.some.inj ho
        have d6 : lp.getD 6 false = true := hdep { on := 6, ground := .data } (by simp) rfl
        have e23 : a'.tmps[23]? = some (.slice lo E lc) := (hS.don 6 _ 23 rfl d6 rfl).trans (by simp only [putAll, Act.put, List.setIfInBounds_toArray, List.set_cons_zero, List.set_cons_succ]; rfl)
        have q := bl1 w' (.cells #[.slice lo E lc] 22)
        have hK' := hK w'.heap.size (w'.alloc (.cells #[.slice lo E lc] 22)) (fun k' ok s hk hl hd => gh_same14 (d := 24) (s := s) (by simp only [putAll, Act.put, List.setIfInBounds_toArray, List.set_cons_zero, List.set_cons_succ]; rfl) (by rintro rfl; have := dstG_of (by kernel_rfl) k' 7 ok _ 24 hk rfl hd rfl; subst this; rw [hun] at hl; cases hl)) (by rw [hfl 0 (by decide), hfl 10 (by decide), getD_set_same (by rw [hsz]; decide)]; exact ⟨hR.k.trans (q.mono hR.k.size), fun h => (hR.t h).below q, (by obtain ⟨u1, u2, u3, hc⟩ := hR.c; exact ⟨u1, u2, u3, (q.block _ (lt_16 hc)).trans hc⟩), fun _ => new_16 _ _, hR.z⟩) (.slice (some ⟨w'.heap.size, 0, none⟩) 1 1) (by simp only [valO, Option.bind_some]; simp only [putAll, Act.put, List.setIfInBounds_toArray, List.set_cons_zero, List.set_cons_succ]; rfl)
        clear hS hdep hR hK q
        unfold Oper.wp
        simp only [execOp, Act.eval, Array.getD_eq_getD_getElem?]
        simp [go_sem, e23, Oper.upon]
        exact hK'
      | 8, ho, hun, hdep, hK, hfl, _ =>
        obtain rfl := Option.some.inj ho
        have d7 : lp.getD 7 false = true := hdep { on := 7, ground := .data } (by simp) rfl
        have e24 : a'.tmps[24]? = some (.slice (some ⟨g, 0, none⟩) 1 1) := (hS.don 7 _ 24 rfl d7 rfl).trans (by simp only [putAll, Act.put, List.setIfInBounds_toArray, List.set_cons_zero, List.set_cons_succ]; rfl)
        have KC := sum_one (at_16 (hR.d7 d7) 0 _ rfl) (HR1.out.below (HS.out.b.trans (hR.k.mono HS.out.b.size))) (by rw [List.length_take]; have := HL.out; omega) (fun b hb => HX.out b (List.mem_of_mem_take hb)) (HTb.out.below hR.k)
        rw [HSC.out.2] at KC
        clear hdep
        unfold Oper.wp
        simp only [execOp, Act.eval, Array.getD_eq_getD_getElem?]
        simp [go_sem, e24, Oper.upon]
        refine KC.mono ?_
        rintro e W2 ⟨rfl, hw2⟩
        replace hw2 := hw2.symm
        subst hw2
        exact hK g w' (fun _ _ _ _ _ _ => rfl) (by rw [hfl 0 (by decide), hfl 7 (by decide), hfl 10 (by decide)]; exact hR) _ (by simp only [valO, Option.bind_some]; simp only [putAll, Act.put, List.setIfInBounds_toArray, List.set_cons_zero, List.set_cons_succ]; rfl)
      | 9, ho, hun, hdep, hK, hfl, _ =>
        obtain rfl := Option.some.inj ho
        have d0 : lp.getD 0 false = true := hdep { on := 0, ground := .data } (by simp) rfl
        have e17 : a'.tmps[17]? = some (.int .u32 (sm : Int)) := (hS.don 0 _ 17 rfl d0 rfl).trans (by simp only [putAll, Act.put, List.setIfInBounds_toArray, List.set_cons_zero, List.set_cons_succ]; rfl)
        have d8 : lp.getD 8 false = true := hdep { on := 8, ground := .data } (by simp) rfl
        have e25 : a'.tmps[25]? = some (.int .u32 (cs : Int)) := (hS.don 8 _ 25 rfl d8 rfl).trans (by simp only [putAll, Act.put, List.setIfInBounds_toArray, List.set_cons_zero, List.set_cons_succ]; rfl)
        have hK' := hK g w' (fun _ _ _ _ _ _ => rfl) (by rw [hfl 0 (by decide), hfl 7 (by decide), hfl 10 (by decide)]; exact hR) (.bool false) (by simp only [valO, Option.bind_some]; (try simp only [putAll, Act.put, List.setIfInBounds_toArray, List.set_cons_zero, List.set_cons_succ]); (try rfl))
        clear hS hdep hR
        refine gh_quiet14 (v := .bool false) ?_ ?_
        · (simp only [execOp, Act.eval, e17, e25]; go_simp; first | done | (simp; done) | (simp [*]; done) | omega | (rw [IntKind.wrap_i64]; omega))
        · exact hK'
      | 10, ho, hun, hdep, hK, hfl, _ =>
        obtain rfl := Option.some.inj ho
        have d9 : lp.getD 9 false = true := hdep { on := 9, ground := .data } (by simp) rfl
        have e26 : a'.tmps[26]? = some (.bool false) := (hS.don 9 _ 26 rfl d9 rfl).trans (by simp only [putAll, Act.put, List.setIfInBounds_toArray, List.set_cons_zero, List.set_cons_succ]; rfl)
        have KC := askN21 23 w'
        have hdf := hS.dfr
        clear hdep
        unfold Oper.wp
        simp only [execOp, Act.eval, Array.getD_eq_getD_getElem?]
        simp [go_sem, e26, Oper.upon]
        refine KC.mono ?_
        rintro e W2 ⟨rfl, hw2⟩
        replace hw2 := hw2.symm
        subst hw2
        exact hPn _ _ _ hdf ⟨rfl, hR.k⟩
      | n + 11, ho, hun, hdep, hK, hfl, hq => exact absurd hq (by omega)
    case fin2 =>
      intro g X hX
      exact absurd (hX.z rfl) HSN.out

end Go.Proofs.YtiachojhnbicaabDoor
