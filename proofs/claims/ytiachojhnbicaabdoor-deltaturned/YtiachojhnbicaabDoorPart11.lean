/-
  Part 11 of the proof: 1 texts, one behind the other.
-/
import Derived.Test.YtiachojhnbicaabDoorPart6
import Derived.Test.YtiachojhnbicaabDoorPart5
namespace Go.Proofs.YtiachojhnbicaabDoor
open Go.RowKit Go.Shelf
set_option linter.unusedSimpArgs false
set_option linter.unusedVariables false
attribute [local go_sem] Oper.semAt_some

structure RF21 (w : World) (ok : Prop) (f10 : Bool) (g : Nat) (X : World) : Prop where
  k : Below w.heap.size w X
  z : f10 = true → ok
set_option maxRecDepth 100000 in
set_option maxHeartbeats 16000000 in
theorem fitS21 (w0 : World) (B : Nat) (va : Value) (a : List Nat) (vl : Value) (l : List Nat) (vp : Value) (L : List Pt) (w : World) (h : RS21 w0 B va vl l vp w) (hva : RwX cB w0 va a) (han : a.length ≤ 140737480000000) (hp : PtR21 w vp L) (hl : L.length ≤ 140737488355328) :
    Calls Tryd.prog 36 #[.pointer (some ⟨B, 0, none⟩)] w fun e w' => e = (if fitB a.length L = true then .returned (.tuple #[]) else .panicked (pan21 33)) ∧ Below w.heap.size w w' := by
  obtain ⟨ao, ac, hva', hac, -⟩ := id hva
  subst hva'
  obtain ⟨po, pc, hvp, hpc, -⟩ := id hp
  subst hvp
  have KF := fun X (hX : Below w.heap.size w X) => fit21 (a.length : Int) (.slice po L.length pc) L X (by omega) (by omega) (hp.below hX) hl
  have HS := hid13 h.c
  have HB := hid13 h.lt
  have HR0 : Hid (RF21 w (fitB a.length L = true) false 0 w.drew) := ⟨(Below.refl _ _).drew, fun q => by cases q⟩
  clear h hva han hp hl hac hpc
  cases hfb : fitB (a.length : Int) L with
  | true =>
    rw [hfb] at KF
    have KFH := hid13 KF
    have HFB : Hid (fitB (a.length : Int) L = true) := hfb
    simp only [if_true]
    clear KF hfb
    go_enter Tryd.func36, Tryd.ntmps36
    go_wp2_with fail
    refine gh_regionP21 (γ := Nat) (fun _ _ => False) (qpOk 11 11 (by decide) (fun N => by kernel_rfl) (by kernel_rfl) (by kernel_rfl) (by kernel_rfl) (by kernel_rfl)) (by kernel_rfl) (by kernel_rfl) [some 2, some 3, some 4, some 5, some 6, some 7, some 8, some 9, some 10, some 11, some 12] (fun g => [.pointer (some ⟨B, 0, none⟩), .pointer (some ⟨B, 0, none⟩), .pointer (some ⟨B, 0, none⟩), .slice ao a.length ac, .int .i64 (a.length : Int), .pointer (some ⟨B, 0, none⟩), .pointer (some ⟨B, 0, none⟩), .pointer (some ⟨B, 2, none⟩), .slice po L.length pc, .bool true, .tuple #[]]) (by kernel_rfl) (by simp) (fun lp g X => RF21 w (fitB a.length L = true) (lp.getD 10 false) g X) 0 HR0.out ?step0 (fun _ _ _ _ h => h.elim) ?fin0
    case step0 =>
      intro q o lp g w' a' ho hsz hun hdep hR hS K Q' hPn hK
      have hfl : ∀ j, j ≠ q → (lp.setIfInBounds q true).getD j false = lp.getD j false := fun j hj => by rw [Array.getD_eq_getD_getElem?, Array.getD_eq_getD_getElem?, Array.getElem?_setIfInBounds_ne (by omega)]
      have hq : q < 11 := (List.getElem?_eq_some_iff.mp ho).1
      match q, ho, hun, hdep, hK, hfl, hq with
      | 0, ho, hun, hdep, hK, hfl, _ =>
        obtain rfl := Option.some.inj ho
        have o0 : a'.tmps[0]? = some (.pointer (some ⟨B, 0, none⟩)) := (hS.old14 0 (by simp)).trans rfl
        have hK' := hK g w' (fun _ _ _ _ _ _ => rfl) (by rw [hfl 10 (by decide)]; exact hR) (.pointer (some ⟨B, 0, none⟩)) (by simp only [valO, Option.bind_some]; (try simp only [putAll, Act.put, List.setIfInBounds_toArray, List.set_cons_zero, List.set_cons_succ]); (try rfl))
        clear hS hdep hR
        refine gh_quiet14 (v := .pointer (some ⟨B, 0, none⟩)) ?_ ?_
        · (simp only [execOp, Act.eval, o0]; go_simp; first | done | (simp; done) | (simp [*]; done) | omega | (rw [IntKind.wrap_i64]; omega))
        · exact hK'
      | 1, ho, hun, hdep, hK, hfl, _ =>
        obtain rfl := Option.some.inj ho
        have d0 : lp.getD 0 false = true := hdep { on := 0, ground := .data } (by simp) rfl
        have e2 : a'.tmps[2]? = some (.pointer (some ⟨B, 0, none⟩)) := (hS.don 0 _ 2 rfl d0 rfl).trans (by simp only [putAll, Act.put, List.setIfInBounds_toArray, List.set_cons_zero, List.set_cons_succ]; rfl)
        have hK' := hK g w' (fun _ _ _ _ _ _ => rfl) (by rw [hfl 10 (by decide)]; exact hR) (.pointer (some ⟨B, 0, none⟩)) (by simp only [valO, Option.bind_some]; (try simp only [putAll, Act.put, List.setIfInBounds_toArray, List.set_cons_zero, List.set_cons_succ]); (try rfl))
        clear hS hdep hR
        refine gh_quiet14 (v := .pointer (some ⟨B, 0, none⟩)) ?_ ?_
        · (simp only [execOp, Act.eval, e2]; go_simp; first | done | (simp; done) | (simp [*]; done) | omega | (rw [IntKind.wrap_i64]; omega))
        · exact hK'
      | 2, ho, hun, hdep, hK, hfl, _ =>
        obtain rfl := Option.some.inj ho
        have d1 : lp.getD 1 false = true := hdep { on := 1, ground := .data } (by simp) rfl
        have e3 : a'.tmps[3]? = some (.pointer (some ⟨B, 0, none⟩)) := (hS.don 1 _ 3 rfl d1 rfl).trans (by simp only [putAll, Act.put, List.setIfInBounds_toArray, List.set_cons_zero, List.set_cons_succ]; rfl)
        have hK' := hK g w' (fun _ _ _ _ _ _ => rfl) (by rw [hfl 10 (by decide)]; exact hR) (.pointer (some ⟨B, 0, none⟩)) (by simp only [valO, Option.bind_some]; (try simp only [putAll, Act.put, List.setIfInBounds_toArray, List.set_cons_zero, List.set_cons_succ]); (try rfl))
        clear hS hdep hR
        refine gh_quiet14 (v := .pointer (some ⟨B, 0, none⟩)) ?_ ?_
        · (simp only [execOp, Act.eval, e3]; go_simp; first | done | (simp; done) | (simp [*]; done) | omega | (rw [IntKind.wrap_i64]; omega))
        · exact hK'
      | 3, ho, hun, hdep, hK, hfl, _ =>
        obtain rfl := Option.some.inj ho
        have d2 : lp.getD 2 false = true := hdep { on := 2, ground := .data } (by simp) rfl
        have e4 : a'.tmps[4]? = some (.pointer (some ⟨B, 0, none⟩)) := (hS.don 2 _ 4 rfl d2 rfl).trans (by simp only [putAll, Act.put, List.setIfInBounds_toArray, List.set_cons_zero, List.set_cons_succ]; rfl)
        have hcx := (hR.k.block _ HB.out).trans HS.out
        have z0 := at_16 hcx 0 _ rfl
        have z2 := at_16 hcx 2 _ rfl
        have hK' := hK g w' (fun _ _ _ _ _ _ => rfl) (by rw [hfl 10 (by decide)]; exact hR) (.slice ao a.length ac) (by simp only [valO, Option.bind_some]; (try simp only [putAll, Act.put, List.setIfInBounds_toArray, List.set_cons_zero, List.set_cons_succ]); (try rfl))
        clear hS hdep hR
        refine gh_quiet14 (v := .slice ao a.length ac) ?_ ?_
        · (simp only [execOp, Act.eval, e4]; go_simp; first | done | (simp; done) | (simp [*]; done) | omega | (rw [IntKind.wrap_i64]; omega))
        · exact hK'
      | 4, ho, hun, hdep, hK, hfl, _ =>
        obtain rfl := Option.some.inj ho
        have d3 : lp.getD 3 false = true := hdep { on := 3, ground := .data } (by simp) rfl
        have e5 : a'.tmps[5]? = some (.slice ao a.length ac) := (hS.don 3 _ 5 rfl d3 rfl).trans (by simp only [putAll, Act.put, List.setIfInBounds_toArray, List.set_cons_zero, List.set_cons_succ]; rfl)
        have hK' := hK g w' (fun _ _ _ _ _ _ => rfl) (by rw [hfl 10 (by decide)]; exact hR) (.int .i64 (a.length : Int)) (by simp only [valO, Option.bind_some]; (try simp only [putAll, Act.put, List.setIfInBounds_toArray, List.set_cons_zero, List.set_cons_succ]); (try rfl))
        clear hS hdep hR
        refine gh_quiet14 (v := .int .i64 (a.length : Int)) ?_ ?_
        · (simp only [execOp, Act.eval, e5]; go_simp; first | done | (simp; done) | (simp [*]; done) | omega | (rw [IntKind.wrap_i64]; omega))
        · exact hK'
      | 5, ho, hun, hdep, hK, hfl, _ =>
        obtain rfl := Option.some.inj ho
        have o0 : a'.tmps[0]? = some (.pointer (some ⟨B, 0, none⟩)) := (hS.old14 0 (by simp)).trans rfl
        have hK' := hK g w' (fun _ _ _ _ _ _ => rfl) (by rw [hfl 10 (by decide)]; exact hR) (.pointer (some ⟨B, 0, none⟩)) (by simp only [valO, Option.bind_some]; (try simp only [putAll, Act.put, List.setIfInBounds_toArray, List.set_cons_zero, List.set_cons_succ]); (try rfl))
        clear hS hdep hR
        refine gh_quiet14 (v := .pointer (some ⟨B, 0, none⟩)) ?_ ?_
        · (simp only [execOp, Act.eval, o0]; go_simp; first | done | (simp; done) | (simp [*]; done) | omega | (rw [IntKind.wrap_i64]; omega))
        · exact hK'
      | 6, ho, hun, hdep, hK, hfl, _ =>
        obtain rfl := Option.some.inj ho
        have d5 : lp.getD 5 false = true := hdep { on := 5, ground := .data } (by simp) rfl
        have e7 : a'.tmps[7]? = some (.pointer (some ⟨B, 0, none⟩)) := (hS.don 5 _ 7 rfl d5 rfl).trans (by simp only [putAll, Act.put, List.setIfInBounds_toArray, List.set_cons_zero, List.set_cons_succ]; rfl)
        have hK' := hK g w' (fun _ _ _ _ _ _ => rfl) (by rw [hfl 10 (by decide)]; exact hR) (.pointer (some ⟨B, 0, none⟩)) (by simp only [valO, Option.bind_some]; (try simp only [putAll, Act.put, List.setIfInBounds_toArray, List.set_cons_zero, List.set_cons_succ]); (try rfl))
        clear hS hdep hR
        refine gh_quiet14 (v := .pointer (some ⟨B, 0, none⟩)) ?_ ?_
        · (simp only [execOp, Act.eval, e7]; go_simp; first | done | (simp; done) | (simp [*]; done) | omega | (rw [IntKind.wrap_i64]; omega))
        · exact hK'
      | 7, ho, hun, hdep, hK, hfl, _ =>
        obtain rfl := Option.some.inj ho
        have d6 : lp.getD 6 false = true := hdep { on := 6, ground := .data } (by simp) rfl
        have e8 : a'.tmps[8]? = some (.pointer (some ⟨B, 0, none⟩)) := (hS.don 6 _ 8 rfl d6 rfl).trans (by simp only [putAll, Act.put, List.setIfInBounds_toArray, List.set_cons_zero, List.set_cons_succ]; rfl)
        have hK' := hK g w' (fun _ _ _ _ _ _ => rfl) (by rw [hfl 10 (by decide)]; exact hR) (.pointer (some ⟨B, 2, none⟩)) (by simp only [valO, Option.bind_some]; (try simp only [putAll, Act.put, List.setIfInBounds_toArray, List.set_cons_zero, List.set_cons_succ]); (try rfl))
        clear hS hdep hR
        refine gh_quiet14 (v := .pointer (some ⟨B, 2, none⟩)) ?_ ?_
        · (simp only [execOp, Act.eval, e8]; go_simp; first | done | (simp; done) | (simp [*]; done) | omega | (rw [IntKind.wrap_i64]; omega))
        · exact hK'
      | 8, ho, hun, hdep, hK, hfl, _ =>
        obtain rfl := Option.some.inj ho
        have d7 : lp.getD 7 false = true := hdep { on := 7, ground := .data } (by simp) rfl
        have e9 : a'.tmps[9]? = some (.pointer (some ⟨B, 2, none⟩)) := (hS.don 7 _ 9 rfl d7 rfl).trans (by simp only [putAll, Act.put, List.setIfInBounds_toArray, List.set_cons_zero, List.set_cons_succ]; rfl)
        have hcx := (hR.k.block _ HB.out).trans HS.out
        have z0 := at_16 hcx 0 _ rfl
        have z2 := at_16 hcx 2 _ rfl
        have hK' := hK g w' (fun _ _ _ _ _ _ => rfl) (by rw [hfl 10 (by decide)]; exact hR) (.slice po L.length pc) (by simp only [valO, Option.bind_some]; (try simp only [putAll, Act.put, List.setIfInBounds_toArray, List.set_cons_zero, List.set_cons_succ]); (try rfl))
        clear hS hdep hR
        refine gh_quiet14 (v := .slice po L.length pc) ?_ ?_
        · (simp only [execOp, Act.eval, e9]; go_simp; first | done | (simp; done) | (simp [*]; done) | omega | (rw [IntKind.wrap_i64]; omega))
        · exact hK'
      | 9, ho, hun, hdep, hK, hfl, _ =>
        obtain rfl := Option.some.inj ho
        have d4 : lp.getD 4 false = true := hdep { on := 4, ground := .data } (by simp) rfl
        have e6 : a'.tmps[6]? = some (.int .i64 (a.length : Int)) := (hS.don 4 _ 6 rfl d4 rfl).trans (by simp only [putAll, Act.put, List.setIfInBounds_toArray, List.set_cons_zero, List.set_cons_succ]; rfl)
        have d8 : lp.getD 8 false = true := hdep { on := 8, ground := .data } (by simp) rfl
        have e10 : a'.tmps[10]? = some (.slice po L.length pc) := (hS.don 8 _ 10 rfl d8 rfl).trans (by simp only [putAll, Act.put, List.setIfInBounds_toArray, List.set_cons_zero, List.set_cons_succ]; rfl)
        have KC := KFH.out w' hR.k
        clear hdep
        unfold Oper.wp
        simp only [execOp, Act.eval, Array.getD_eq_getD_getElem?]
        simp [go_sem, e6, e10, Oper.upon]
        refine KC.mono ?_
        rintro e W2 ⟨rfl, hb2⟩
        exact hK g W2 (fun _ _ _ _ _ _ => rfl) (by rw [hfl 10 (by decide)]; exact ⟨hR.k.trans (hb2.mono hR.k.size), hR.z⟩) _ (by simp only [valO, Option.bind_some]; simp only [putAll, Act.put, List.setIfInBounds_toArray, List.set_cons_zero, List.set_cons_succ]; rfl)
      | 10, ho, hun, hdep, hK, hfl, _ =>
        obtain rfl := Option.some.inj ho
        have d9 : lp.getD 9 false = true := hdep { on := 9, ground := .data } (by simp) rfl
        have e11 : a'.tmps[11]? = some (.bool true) := (hS.don 9 _ 11 rfl d9 rfl).trans (by simp only [putAll, Act.put, List.setIfInBounds_toArray, List.set_cons_zero, List.set_cons_succ]; rfl)
        have KC := askY21 33 w'
        clear hdep
        unfold Oper.wp
        simp only [execOp, Act.eval, Array.getD_eq_getD_getElem?]
        simp [go_sem, e11, Oper.upon]
        refine KC.mono ?_
        rintro e W2 ⟨rfl, hw2⟩
        replace hw2 := hw2.symm
        subst hw2
        exact hK g w' (fun _ _ _ _ _ _ => rfl) (by rw [getD_set_same (by rw [hsz]; decide)]; exact ⟨hR.k, fun _ => HFB.out⟩) _ (by simp only [valO, Option.bind_some]; simp only [putAll, Act.put, List.setIfInBounds_toArray, List.set_cons_zero, List.set_cons_succ]; rfl)
      | n + 11, ho, hun, hdep, hK, hfl, hq => exact absurd hq (by omega)
    case fin0 =>
      intro g X hX
      have HK := hid13 hX.k
      simp only [putAll, Act.put, List.setIfInBounds_toArray, List.set_cons_zero, List.set_cons_succ]
      clear hX HR0
      go_wp2
      exact bodyPost_end (v := .tuple #[]) (by simp [results, Tryd.results36, go_sem]) rfl ⟨rfl, HK.out⟩
  | false =>
    rw [hfb] at KF
    have KFH := hid13 KF
    have HFB : Hid (fitB (a.length : Int) L = false) := hfb
    simp only [Bool.false_eq_true, if_false]
    clear KF hfb
    go_enter Tryd.func36, Tryd.ntmps36
    go_wp2_with fail
    refine gh_regionP21 (γ := Nat) (fun ch X => ch = pan21 33 ∧ Below w.heap.size w X) (qpOk 11 11 (by decide) (fun N => by kernel_rfl) (by kernel_rfl) (by kernel_rfl) (by kernel_rfl) (by kernel_rfl)) (by kernel_rfl) (by kernel_rfl) [some 2, some 3, some 4, some 5, some 6, some 7, some 8, some 9, some 10, some 11, some 12] (fun g => [.pointer (some ⟨B, 0, none⟩), .pointer (some ⟨B, 0, none⟩), .pointer (some ⟨B, 0, none⟩), .slice ao a.length ac, .int .i64 (a.length : Int), .pointer (some ⟨B, 0, none⟩), .pointer (some ⟨B, 0, none⟩), .pointer (some ⟨B, 2, none⟩), .slice po L.length pc, .bool false, .tuple #[]]) (by kernel_rfl) (by simp) (fun lp g X => RF21 w (fitB a.length L = true) (lp.getD 10 false) g X) 0 HR0.out ?step0 (fun ch a'' X hd hh => ⟨hd.trans rfl, by rw [hh.1], hh.2⟩) ?fin0
    case step0 =>
      intro q o lp g w' a' ho hsz hun hdep hR hS K Q' hPn hK
      have hfl : ∀ j, j ≠ q → (lp.setIfInBounds q true).getD j false = lp.getD j false := fun j hj => by rw [Array.getD_eq_getD_getElem?, Array.getD_eq_getD_getElem?, Array.getElem?_setIfInBounds_ne (by omega)]
      have hq : q < 11 := (List.getElem?_eq_some_iff.mp ho).1
      match q, ho, hun, hdep, hK, hfl, hq with
      | 0, ho, hun, hdep, hK, hfl, _ =>
        obtain rfl := Option.some.inj ho
        have o0 : a'.tmps[0]? = some (.pointer (some ⟨B, 0, none⟩)) := (hS.old14 0 (by simp)).trans rfl
        have hK' := hK g w' (fun _ _ _ _ _ _ => rfl) (by rw [hfl 10 (by decide)]; exact hR) (.pointer (some ⟨B, 0, none⟩)) (by simp only [valO, Option.bind_some]; (try simp only [putAll, Act.put, List.setIfInBounds_toArray, List.set_cons_zero, List.set_cons_succ]); (try rfl))
        clear hS hdep hR
        refine gh_quiet14 (v := .pointer (some ⟨B, 0, none⟩)) ?_ ?_
        · (simp only [execOp, Act.eval, o0]; go_simp; first | done | (simp; done) | (simp [*]; done) | omega | (rw [IntKind.wrap_i64]; omega))
        · exact hK'
      | 1, ho, hun, hdep, hK, hfl, _ =>
        obtain rfl := Option.some.inj ho
        have d0 : lp.getD 0 false = true := hdep { on := 0, ground := .data } (by simp) rfl
        have e2 : a'.tmps[2]? = some (.pointer (some ⟨B, 0, none⟩)) := (hS.don 0 _ 2 rfl d0 rfl).trans (by simp only [putAll, Act.put, List.setIfInBounds_toArray, List.set_cons_zero, List.set_cons_succ]; rfl)
        have hK' := hK g w' (fun _ _ _ _ _ _ => rfl) (by rw [hfl 10 (by decide)]; exact hR) (.pointer (some ⟨B, 0, none⟩)) (by simp only [valO, Option.bind_some]; (try simp only [putAll, Act.put, List.setIfInBounds_toArray, List.set_cons_zero, List.set_cons_succ]); (try rfl))
        clear hS hdep hR
        refine gh_quiet14 (v := .pointer (some ⟨B, 0, none⟩)) ?_ ?_
        · (simp only [execOp, Act.eval, e2]; go_simp; first | done | (simp; done) | (simp [*]; done) | omega | (rw [IntKind.wrap_i64]; omega))
        · exact hK'
      | 2, ho, hun, hdep, hK, hfl, _ =>
        obtain rfl := Option.some.inj ho
        have d1 : lp.getD 1 false = true := hdep { on := 1, ground := .data } (by simp) rfl
        have e3 : a'.tmps[3]? = some (.pointer (some ⟨B, 0, none⟩)) := (hS.don 1 _ 3 rfl d1 rfl).trans (by simp only [putAll, Act.put, List.setIfInBounds_toArray, List.set_cons_zero, List.set_cons_succ]; rfl)
        have hK' := hK g w' (fun _ _ _ _ _ _ => rfl) (by rw [hfl 10 (by decide)]; exact hR) (.pointer (some ⟨B, 0, none⟩)) (by simp only [valO, Option.bind_some]; (try simp only [putAll, Act.put, List.setIfInBounds_toArray, List.set_cons_zero, List.set_cons_succ]); (try rfl))
        clear hS hdep hR
        refine gh_quiet14 (v := .pointer (some ⟨B, 0, none⟩)) ?_ ?_
        · (simp only [execOp, Act.eval, e3]; go_simp; first | done | (simp; done) | (simp [*]; done) | omega | (rw [IntKind.wrap_i64]; omega))
        · exact hK'
      | 3, ho, hun, hdep, hK, hfl, _ =>
        obtain rfl := Option.some.inj ho
        have d2 : lp.getD 2 false = true := hdep { on := 2, ground := .data } (by simp) rfl
        have e4 : a'.tmps[4]? = some (.pointer (some ⟨B, 0, none⟩)) := (hS.don 2 _ 4 rfl d2 rfl).trans (by simp only [putAll, Act.put, List.setIfInBounds_toArray, List.set_cons_zero, List.set_cons_succ]; rfl)
        have hcx := (hR.k.block _ HB.out).trans HS.out
        have z0 := at_16 hcx 0 _ rfl
        have z2 := at_16 hcx 2 _ rfl
        have hK' := hK g w' (fun _ _ _ _ _ _ => rfl) (by rw [hfl 10 (by decide)]; exact hR) (.slice ao a.length ac) (by simp only [valO, Option.bind_some]; (try simp only [putAll, Act.put, List.setIfInBounds_toArray, List.set_cons_zero, List.set_cons_succ]); (try rfl))
        clear hS hdep hR
        refine gh_quiet14 (v := .slice ao a.length ac) ?_ ?_
        · (simp only [execOp, Act.eval, e4]; go_simp; first | done | (simp; done) | (simp [*]; done) | omega | (rw [IntKind.wrap_i64]; omega))
        · exact hK'
      | 4, ho, hun, hdep, hK, hfl, _ =>
        obtain rfl := Option.some.inj ho
        have d3 : lp.getD 3 false = true := hdep { on := 3, ground := .data } (by simp) rfl
        have e5 : a'.tmps[5]? = some (.slice ao a.length ac) := (hS.don 3 _ 5 rfl d3 rfl).trans (by simp only [putAll, Act.put, List.setIfInBounds_toArray, List.set_cons_zero, List.set_cons_succ]; rfl)
        have hK' := hK g w' (fun _ _ _ _ _ _ => rfl) (by rw [hfl 10 (by decide)]; exact hR) (.int .i64 (a.length : Int)) (by simp only [valO, Option.bind_some]; (try simp only [putAll, Act.put, List.setIfInBounds_toArray, List.set_cons_zero, List.set_cons_succ]); (try rfl))
        clear hS hdep hR
        refine gh_quiet14 (v := .int .i64 (a.length : Int)) ?_ ?_
        · (simp only [execOp, Act.eval, e5]; go_simp; first | done | (simp; done) | (simp [*]; done) | omega | (rw [IntKind.wrap_i64]; omega))
        · exact hK'
      | 5, ho, hun, hdep, hK, hfl, _ =>
        obtain rfl := Option.some.inj ho
        have o0 : a'.tmps[0]? = some (.pointer (some ⟨B, 0, none⟩)) := (hS.old14 0 (by simp)).trans rfl
        have hK' := hK g w' (fun _ _ _ _ _ _ => rfl) (by rw [hfl 10 (by decide)]; exact hR) (.pointer (some ⟨B, 0, none⟩)) (by simp only [valO, Option.bind_some]; (try simp only [putAll, Act.put, List.setIfInBounds_toArray, List.set_cons_zero, List.set_cons_succ]); (try rfl))
        clear hS hdep hR
        refine gh_quiet14 (v := .pointer (some ⟨B, 0, none⟩)) ?_ ?_
        · (simp only [execOp, Act.eval, o0]; go_simp; first | done | (simp; done) | (simp [*]; done) | omega | (rw [IntKind.wrap_i64]; omega))
        · exact hK'
      | 6, ho, hun, hdep, hK, hfl, _ =>
        obtain rfl := Option.some.inj ho
        have d5 : lp.getD 5 false = true := hdep { on := 5, ground := .data } (by simp) rfl
        have e7 : a'.tmps[7]? = some (.pointer (some ⟨B, 0, none⟩)) := (hS.don 5 _ 7 rfl d5 rfl).trans (by simp only [putAll, Act.put, List.setIfInBounds_toArray, List.set_cons_zero, List.set_cons_succ]; rfl)
        have hK' := hK g w' (fun _ _ _ _ _ _ => rfl) (by rw [hfl 10 (by decide)]; exact hR) (.pointer (some ⟨B, 0, none⟩)) (by simp only [valO, Option.bind_some]; (try simp only [putAll, Act.put, List.setIfInBounds_toArray, List.set_cons_zero, List.set_cons_succ]); (try rfl))
        clear hS hdep hR
        refine gh_quiet14 (v := .pointer (some ⟨B, 0, none⟩)) ?_ ?_
        · (simp only [execOp, Act.eval, e7]; go_simp; first | done | (simp; done) | (simp [*]; done) | omega | (rw [IntKind.wrap_i64]; omega))
        · exact hK'
      | 7, ho, hun, hdep, hK, hfl, _ =>
        obtain rfl := Option.some.inj ho
        have d6 : lp.getD 6 false = true := hdep { on := 6, ground := .data } (by simp) rfl
        have e8 : a'.tmps[8]? = some (.pointer (some ⟨B, 0, none⟩)) := (hS.don 6 _ 8 rfl d6 rfl).trans (by simp only [putAll, Act.put, List.setIfInBounds_toArray, List.set_cons_zero, List.set_cons_succ]; rfl)
        have hK' := hK g w' (fun _ _ _ _ _ _ => rfl) (by rw [hfl 10 (by decide)]; exact hR) (.pointer (some ⟨B, 2, none⟩)) (by simp only [valO, Option.bind_some]; (try simp only [putAll, Act.put, List.setIfInBounds_toArray, List.set_cons_zero, List.set_cons_succ]); (try rfl))
        clear hS hdep hR
        refine gh_quiet14 (v := .pointer (some ⟨B, 2, none⟩)) ?_ ?_
        · (simp only [execOp, Act.eval, e8]; go_simp; first | done | (simp; done) | (simp [*]; done) | omega | (rw [IntKind.wrap_i64]; omega))
        · exact hK'
      | 8, ho, hun, hdep, hK, hfl, _ =>
        obtain rfl := Option.some.inj ho
        have d7 : lp.getD 7 false = true := hdep { on := 7, ground := .data } (by simp) rfl
        have e9 : a'.tmps[9]? = some (.pointer (some ⟨B, 2, none⟩)) := (hS.don 7 _ 9 rfl d7 rfl).trans (by simp only [putAll, Act.put, List.setIfInBounds_toArray, List.set_cons_zero, List.set_cons_succ]; rfl)
        have hcx := (hR.k.block _ HB.out).trans HS.out
        have z0 := at_16 hcx 0 _ rfl
        have z2 := at_16 hcx 2 _ rfl
        have hK' := hK g w' (fun _ _ _ _ _ _ => rfl) (by rw [hfl 10 (by decide)]; exact hR) (.slice po L.length pc) (by simp only [valO, Option.bind_some]; (try simp only [putAll, Act.put, List.setIfInBounds_toArray, List.set_cons_zero, List.set_cons_succ]); (try rfl))
        clear hS hdep hR
        refine gh_quiet14 (v := .slice po L.length pc) ?_ ?_
        · (simp only [execOp, Act.eval, e9]; go_simp; first | done | (simp; done) | (simp [*]; done) | omega | (rw [IntKind.wrap_i64]; omega))
        · exact hK'
      | 9, ho, hun, hdep, hK, hfl, _ =>
        obtain rfl := Option.some.inj ho
        have d4 : lp.getD 4 false = true := hdep { on := 4, ground := .data } (by simp) rfl
        have e6 : a'.tmps[6]? = some (.int .i64 (a.length : Int)) := (hS.don 4 _ 6 rfl d4 rfl).trans (by simp only [putAll, Act.put, List.setIfInBounds_toArray, List.set_cons_zero, List.set_cons_succ]; rfl)
        have d8 : lp.getD 8 false = true := hdep { on := 8, ground := .data } (by simp) rfl
        have e10 : a'.tmps[10]? = some (.slice po L.length pc) := (hS.don 8 _ 10 rfl d8 rfl).trans (by simp only [putAll, Act.put, List.setIfInBounds_toArray, List.set_cons_zero, List.set_cons_succ]; rfl)
        have KC := KFH.out w' hR.k
        clear hdep
        unfold Oper.wp
        simp only [execOp, Act.eval, Array.getD_eq_getD_getElem?]
        simp [go_sem, e6, e10, Oper.upon]
        refine KC.mono ?_
        rintro e W2 ⟨rfl, hb2⟩
        exact hK g W2 (fun _ _ _ _ _ _ => rfl) (by rw [hfl 10 (by decide)]; exact ⟨hR.k.trans (hb2.mono hR.k.size), hR.z⟩) _ (by simp only [valO, Option.bind_some]; simp only [putAll, Act.put, List.setIfInBounds_toArray, List.set_cons_zero, List.set_cons_succ]; rfl)
      | 10, ho, hun, hdep, hK, hfl, _ =>
        obtain rfl := Option.some.inj ho
        have d9 : lp.getD 9 false = true := hdep { on := 9, ground := .data } (by simp) rfl
        have e11 : a'.tmps[11]? = some (.bool false) := (hS.don 9 _ 11 rfl d9 rfl).trans (by simp only [putAll, Act.put, List.setIfInBounds_toArray, List.set_cons_zero, List.set_cons_succ]; rfl)
        have KC := askN21 33 w'
        have hdf := hS.dfr
        clear hdep
        unfold Oper.wp
        simp only [execOp, Act.eval, Array.getD_eq_getD_getElem?]
        simp [go_sem, e11, Oper.upon]
        refine KC.mono ?_
        rintro e W2 ⟨rfl, hw2⟩
        replace hw2 := hw2.symm
        subst hw2
        exact hPn _ _ _ hdf ⟨rfl, hR.k⟩
      | n + 11, ho, hun, hdep, hK, hfl, hq => exact absurd hq (by omega)
    case fin0 =>
      intro g X hX
      have := hX.z rfl
      have h2 := HFB.out
      rw [h2] at this
      cases this
end Go.Proofs.YtiachojhnbicaabDoor
