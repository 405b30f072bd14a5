/-
  Part 10 of the proof: 1 texts, one behind the other.
-/
import Derived.Test.YtiachojhnbicaabDoorPart9
import Derived.Test.YtiachojhnbicaabDoorPart3
namespace Go.Proofs.YtiachojhnbicaabDoor
open Go.RowKit Go.Shelf
set_option linter.unusedSimpArgs false
set_option linter.unusedVariables false
attribute [local go_sem] Oper.semAt_some

structure RO21 (w0 : World) (B : Nat) (va vl : Value) (l : List Nat) (vp : Value) (w : World) (ok : Prop) (f1 f10 : Bool) (g : Value) (X : World) : Prop where
  k : KR21 B w X
  s0 : f1 = false → RS21 w0 B va vl l vp X
  s1 : f1 = true → RS21 w0 B va g (l.drop 4) vp X
  c : ∃ u, X.heap[B]? = some (.cells #[va, u, vp] 60)
  z : f10 = true → ok
structure RN21 (w0 : World) (B : Nat) (va vl : Value) (l : List Nat) (vp : Value) (w : World) (ok : Prop) (f1 f6 f9 : Bool) (g : Value × Nat) (X : World) : Prop where
  k : KR21 B w X
  s0 : f1 = false → RS21 w0 B va vl l vp X
  s1 : f1 = true → RS21 w0 B va g.1 (l.drop 4) vp X
  c : ∃ u, X.heap[B]? = some (.cells #[va, u, vp] 60)
  d6 : f6 = true → X.heap[g.2]? = some (.cells #[va] 22)
  z : f9 = true → ok
def OwQ21 (w0 : World) (B : Nat) (va vp : Value) (a l : List Nat) (w : World) (e : Ending) (w' : World) : Prop :=
  if numN13 (l.take 4) = a.length ∧ numN13 ((l.drop 4).take 4) = (crS a).toNat then e = .returned (.tuple #[]) ∧ (∃ vl', RS21 w0 B va vl' (l.drop 8) vp w') ∧ KR21 B w w'
  else e = .panicked (pan21 33) ∧ KR21 B w w'
set_option maxRecDepth 100000 in
set_option maxHeartbeats 16000000 in
theorem ownerS21 (w0 : World) (B : Nat) (va : Value) (a : List Nat) (vl : Value) (l : List Nat) (vp : Value) (w : World) (h : RS21 w0 B va vl l vp w) (h8 : 8 ≤ l.length) (hva : RwX cB w0 va a) (hax : ∀ z ∈ a, z < 256) (han : a.length ≤ 140737480000000) (hT : Hf w) (hTB : ∀ X, KR21 B w X → Hf X) :
    Calls Tryd.prog 33 #[.pointer (some ⟨B, 0, none⟩)] w fun e w' => OwQ21 w0 B va vp a l w e w' := by
  obtain ⟨ao, ac, hva', hac, -⟩ := id hva
  subst hva'
  obtain ⟨n0, hn0⟩ : ∃ s, s = numN13 (l.take 4) := ⟨_, rfl⟩
  obtain ⟨n1, hn1⟩ : ∃ s, s = numN13 ((l.drop 4).take 4) := ⟨_, rfl⟩
  obtain ⟨cs, hcs⟩ : ∃ s, s = (crS a).toNat := ⟨_, rfl⟩
  have hcu : uI (crS a) = (cs : Int) := by rw [uI_eq, hcs]
  have b0 : n0 < 4294967296 := by rw [hn0]; exact numN4_lt l h.x
  have c1 : IntKind.u64.wrap (n0 : Int) = (n0 : Int) := by rw [IntKind.wrap_u64]; omega
  have c2 : IntKind.u64.wrap (a.length : Int) = (a.length : Int) := by rw [IntKind.wrap_u64]; omega
  have HSC : Hid (n0 = numN13 (l.take 4) ∧ n1 = numN13 ((l.drop 4).take 4) ∧ uI (crS a) = (cs : Int)) := ⟨hn0, hn1, hcu⟩
  have HQ : Hid (∀ e w', (if n0 = a.length ∧ n1 = cs then e = .returned (.tuple #[]) ∧ (∃ vl', RS21 w0 B (.slice ao a.length ac) vl' (l.drop 8) vp w') ∧ KR21 B w w' else e = .panicked (pan21 33) ∧ KR21 B w w') → OwQ21 w0 B (.slice ao a.length ac) vp a l w e w') := by
    intro e w' hh
    unfold OwQ21
    rw [← hn0, ← hn1, ← hcs]
    exact hh
  have HS := hid13 h
  have HL : Hid (8 ≤ l.length) := h8
  have HA : Hid (RwX cB w0 (.slice ao a.length ac) a ∧ (∀ z ∈ a, z < 256) ∧ a.length ≤ 140737480000000) := ⟨hva, hax, han⟩
  have HTb := hid13 hTB
  clear hn0 hn1 hcs hcu h h8 hva hax han hT hTB hac b0
  have HR0 : Hid (RO21 w0 B (.slice ao a.length ac) vl l vp w (n0 = a.length) false false undef w.drew) := by
    have q := (Below.refl w.heap.size w).drew
    exact ⟨(KR21.refl B w).below HS.out.lt q, fun _ => HS.out.below q, fun q => (by cases q), ⟨_, HS.out.c⟩, fun q => (by cases q)⟩
  by_cases hq0 : n0 = a.length
  · have hbq0 : ((n0 : Int) == (a.length : Int)) = true := by rw [hq0]; simp
    have HSQ : Hid (n0 = a.length) := hq0
    clear hq0
    go_enter Tryd.func33, Tryd.ntmps33
    go_wp2_with fail
    refine gh_regionP21 (γ := Value) (fun _ _ => False) (qpOk 11 11 (by decide) (fun N => by kernel_rfl) (by kernel_rfl) (by kernel_rfl) (by kernel_rfl) (by kernel_rfl)) (by kernel_rfl) (by kernel_rfl) [some 2, some 3, some 4, some 5, some 6, some 7, some 8, some 9, some 10, some 11, some 12] (fun g => [.pointer (some ⟨B, 0, none⟩), .int .u32 (n0 : Int), .int .u64 (n0 : Int), .pointer (some ⟨B, 0, none⟩), .pointer (some ⟨B, 0, none⟩), .pointer (some ⟨B, 0, none⟩), .slice ao a.length ac, .int .i64 (a.length : Int), .int .u64 (a.length : Int), .bool true, .tuple #[]]) (by kernel_rfl) (by simp) (fun lp g X => RO21 w0 B (.slice ao a.length ac) vl l vp w (n0 = a.length) (lp.getD 1 false) (lp.getD 10 false) g X) undef HR0.out ?step0 (fun _ _ _ _ h => h.elim) ?fin0
    case step0 =>
      intro q o lp g w' a' ho hsz hun hdep hR hS K Q' hPn hK
      have hfl : ∀ j, j ≠ q → (lp.setIfInBounds q true).getD j false = lp.getD j false := fun j hj => by rw [Array.getD_eq_getD_getElem?, Array.getD_eq_getD_getElem?, Array.getElem?_setIfInBounds_ne (by omega)]
      have hq : q < 11 := (List.getElem?_eq_some_iff.mp ho).1
      match q, ho, hun, hdep, hK, hfl, hq with
      | 0, ho, hun, hdep, hK, hfl, _ =>
        obtain rfl := Option.some.inj ho
        have o0 : a'.tmps[0]? = some (.pointer (some ⟨B, 0, none⟩)) := (hS.old14 0 (by simp)).trans rfl
        have hK' := hK g w' (fun _ _ _ _ _ _ => rfl) (by rw [hfl 1 (by decide), hfl 10 (by decide)]; exact hR) (.pointer (some ⟨B, 0, none⟩)) (by simp only [valO, Option.bind_some]; (try simp only [putAll, Act.put, List.setIfInBounds_toArray, List.set_cons_zero, List.set_cons_succ]); (try rfl))
        clear hS hdep hR
        refine gh_quiet14 (v := .pointer (some ⟨B, 0, none⟩)) ?_ ?_
        · (simp only [execOp, Act.eval, o0]; go_simp; first | done | (simp; done) | (simp [*]; done) | omega | (rw [IntKind.wrap_i64]; omega))
        · exact hK'
      | 1, ho, hun, hdep, hK, hfl, _ =>
        obtain rfl := Option.some.inj ho
        have d0 : lp.getD 0 false = true := hdep { on := 0, ground := .data } (by simp) rfl
        have e2 : a'.tmps[2]? = some (.pointer (some ⟨B, 0, none⟩)) := (hS.don 0 _ 2 rfl d0 rfl).trans (by simp only [putAll, Act.put, List.setIfInBounds_toArray, List.set_cons_zero, List.set_cons_succ]; rfl)
        have KC := numY21 w0 B _ _ l _ w' (hR.s0 hun) (by have := HL.out; omega)
        rw [← HSC.out.1] at KC
        clear hdep
        unfold Oper.wp
        simp only [execOp, Act.eval, Array.getD_eq_getD_getElem?]
        simp [go_sem, e2, Oper.upon]
        refine KC.mono ?_
        rintro e W2 ⟨vl2, rfl, hs2, hk2⟩
        exact hK vl2 W2 (fun _ _ _ _ _ _ => rfl) (by rw [hfl 10 (by decide), getD_set_same (by rw [hsz]; decide)]; exact ⟨hR.k.trans hk2, fun h => (by cases h), fun _ => hs2, ⟨_, hs2.c⟩, hR.z⟩) _ (by simp only [valO, Option.bind_some]; simp only [putAll, Act.put, List.setIfInBounds_toArray, List.set_cons_zero, List.set_cons_succ]; rfl)
      | 2, ho, hun, hdep, hK, hfl, _ =>
        obtain rfl := Option.some.inj ho
        have d1 : lp.getD 1 false = true := hdep { on := 1, ground := .data } (by simp) rfl
        have e3 : a'.tmps[3]? = some (.int .u32 (n0 : Int)) := (hS.don 1 _ 3 rfl d1 rfl).trans (by simp only [putAll, Act.put, List.setIfInBounds_toArray, List.set_cons_zero, List.set_cons_succ]; rfl)
        have hK' := hK g w' (fun _ _ _ _ _ _ => rfl) (by rw [hfl 1 (by decide), hfl 10 (by decide)]; exact hR) (.int .u64 (n0 : Int)) (by simp only [valO, Option.bind_some]; (try simp only [putAll, Act.put, List.setIfInBounds_toArray, List.set_cons_zero, List.set_cons_succ]); (try rfl))
        clear hS hdep hR
        refine gh_quiet14 (v := .int .u64 (n0 : Int)) ?_ ?_
        · (simp only [execOp, Act.eval, e3]; go_simp; first | done | (simp; done) | (simp [*]; done) | omega | (rw [IntKind.wrap_i64]; omega))
        · exact hK'
      | 3, ho, hun, hdep, hK, hfl, _ =>
        obtain rfl := Option.some.inj ho
        have o0 : a'.tmps[0]? = some (.pointer (some ⟨B, 0, none⟩)) := (hS.old14 0 (by simp)).trans rfl
        have hK' := hK g w' (fun _ _ _ _ _ _ => rfl) (by rw [hfl 1 (by decide), hfl 10 (by decide)]; exact hR) (.pointer (some ⟨B, 0, none⟩)) (by simp only [valO, Option.bind_some]; (try simp only [putAll, Act.put, List.setIfInBounds_toArray, List.set_cons_zero, List.set_cons_succ]); (try rfl))
        clear hS hdep hR
        refine gh_quiet14 (v := .pointer (some ⟨B, 0, none⟩)) ?_ ?_
        · (simp only [execOp, Act.eval, o0]; go_simp; first | done | (simp; done) | (simp [*]; done) | omega | (rw [IntKind.wrap_i64]; omega))
        · exact hK'
      | 4, ho, hun, hdep, hK, hfl, _ =>
        obtain rfl := Option.some.inj ho
        have d3 : lp.getD 3 false = true := hdep { on := 3, ground := .data } (by simp) rfl
        have e5 : a'.tmps[5]? = some (.pointer (some ⟨B, 0, none⟩)) := (hS.don 3 _ 5 rfl d3 rfl).trans (by simp only [putAll, Act.put, List.setIfInBounds_toArray, List.set_cons_zero, List.set_cons_succ]; rfl)
        have hK' := hK g w' (fun _ _ _ _ _ _ => rfl) (by rw [hfl 1 (by decide), hfl 10 (by decide)]; exact hR) (.pointer (some ⟨B, 0, none⟩)) (by simp only [valO, Option.bind_some]; (try simp only [putAll, Act.put, List.setIfInBounds_toArray, List.set_cons_zero, List.set_cons_succ]); (try rfl))
        clear hS hdep hR
        refine gh_quiet14 (v := .pointer (some ⟨B, 0, none⟩)) ?_ ?_
        · (simp only [execOp, Act.eval, e5]; go_simp; first | done | (simp; done) | (simp [*]; done) | omega | (rw [IntKind.wrap_i64]; omega))
        · exact hK'
      | 5, ho, hun, hdep, hK, hfl, _ =>
        obtain rfl := Option.some.inj ho
        have d4 : lp.getD 4 false = true := hdep { on := 4, ground := .data } (by simp) rfl
        have e6 : a'.tmps[6]? = some (.pointer (some ⟨B, 0, none⟩)) := (hS.don 4 _ 6 rfl d4 rfl).trans (by simp only [putAll, Act.put, List.setIfInBounds_toArray, List.set_cons_zero, List.set_cons_succ]; rfl)
        have hK' := hK g w' (fun _ _ _ _ _ _ => rfl) (by rw [hfl 1 (by decide), hfl 10 (by decide)]; exact hR) (.pointer (some ⟨B, 0, none⟩)) (by simp only [valO, Option.bind_some]; (try simp only [putAll, Act.put, List.setIfInBounds_toArray, List.set_cons_zero, List.set_cons_succ]); (try rfl))
        clear hS hdep hR
        refine gh_quiet14 (v := .pointer (some ⟨B, 0, none⟩)) ?_ ?_
        · (simp only [execOp, Act.eval, e6]; go_simp; first | done | (simp; done) | (simp [*]; done) | omega | (rw [IntKind.wrap_i64]; omega))
        · exact hK'
      | 6, ho, hun, hdep, hK, hfl, _ =>
        obtain rfl := Option.some.inj ho
        have d5 : lp.getD 5 false = true := hdep { on := 5, ground := .data } (by simp) rfl
        have e7 : a'.tmps[7]? = some (.pointer (some ⟨B, 0, none⟩)) := (hS.don 5 _ 7 rfl d5 rfl).trans (by simp only [putAll, Act.put, List.setIfInBounds_toArray, List.set_cons_zero, List.set_cons_succ]; rfl)
        obtain ⟨u, hcx⟩ := hR.c
        have z0 := at_16 hcx 0 _ rfl
        have hK' := hK g w' (fun _ _ _ _ _ _ => rfl) (by rw [hfl 1 (by decide), hfl 10 (by decide)]; exact hR) (.slice ao a.length ac) (by simp only [valO, Option.bind_some]; (try simp only [putAll, Act.put, List.setIfInBounds_toArray, List.set_cons_zero, List.set_cons_succ]); (try rfl))
        clear hS hdep hR
        refine gh_quiet14 (v := .slice ao a.length ac) ?_ ?_
        · (simp only [execOp, Act.eval, e7]; go_simp; first | done | (simp; done) | (simp [*]; done) | omega | (rw [IntKind.wrap_i64]; omega))
        · exact hK'
      | 7, ho, hun, hdep, hK, hfl, _ =>
        obtain rfl := Option.some.inj ho
        have d6 : lp.getD 6 false = true := hdep { on := 6, ground := .data } (by simp) rfl
        have e8 : a'.tmps[8]? = some (.slice ao a.length ac) := (hS.don 6 _ 8 rfl d6 rfl).trans (by simp only [putAll, Act.put, List.setIfInBounds_toArray, List.set_cons_zero, List.set_cons_succ]; rfl)
        have hK' := hK g w' (fun _ _ _ _ _ _ => rfl) (by rw [hfl 1 (by decide), hfl 10 (by decide)]; exact hR) (.int .i64 (a.length : Int)) (by simp only [valO, Option.bind_some]; (try simp only [putAll, Act.put, List.setIfInBounds_toArray, List.set_cons_zero, List.set_cons_succ]); (try rfl))
        clear hS hdep hR
        refine gh_quiet14 (v := .int .i64 (a.length : Int)) ?_ ?_
        · (simp only [execOp, Act.eval, e8]; go_simp; first | done | (simp; done) | (simp [*]; done) | omega | (rw [IntKind.wrap_i64]; omega))
        · exact hK'
      | 8, ho, hun, hdep, hK, hfl, _ =>
        obtain rfl := Option.some.inj ho
        have d7 : lp.getD 7 false = true := hdep { on := 7, ground := .data } (by simp) rfl
        have e9 : a'.tmps[9]? = some (.int .i64 (a.length : Int)) := (hS.don 7 _ 9 rfl d7 rfl).trans (by simp only [putAll, Act.put, List.setIfInBounds_toArray, List.set_cons_zero, List.set_cons_succ]; rfl)
        have hK' := hK g w' (fun _ _ _ _ _ _ => rfl) (by rw [hfl 1 (by decide), hfl 10 (by decide)]; exact hR) (.int .u64 (a.length : Int)) (by simp only [valO, Option.bind_some]; (try simp only [putAll, Act.put, List.setIfInBounds_toArray, List.set_cons_zero, List.set_cons_succ]); (try rfl))
        clear hS hdep hR
        refine gh_quiet14 (v := .int .u64 (a.length : Int)) ?_ ?_
        · (simp only [execOp, Act.eval, e9]; go_simp; first | done | (simp; done) | (simp [*]; done) | omega | (rw [IntKind.wrap_i64]; omega))
        · exact hK'
      | 9, ho, hun, hdep, hK, hfl, _ =>
        obtain rfl := Option.some.inj ho
        have d2 : lp.getD 2 false = true := hdep { on := 2, ground := .data } (by simp) rfl
        have e4 : a'.tmps[4]? = some (.int .u64 (n0 : Int)) := (hS.don 2 _ 4 rfl d2 rfl).trans (by simp only [putAll, Act.put, List.setIfInBounds_toArray, List.set_cons_zero, List.set_cons_succ]; rfl)
        have d8 : lp.getD 8 false = true := hdep { on := 8, ground := .data } (by simp) rfl
        have e10 : a'.tmps[10]? = some (.int .u64 (a.length : Int)) := (hS.don 8 _ 10 rfl d8 rfl).trans (by simp only [putAll, Act.put, List.setIfInBounds_toArray, List.set_cons_zero, List.set_cons_succ]; rfl)
        have hK' := hK g w' (fun _ _ _ _ _ _ => rfl) (by rw [hfl 1 (by decide), hfl 10 (by decide)]; exact hR) (.bool true) (by simp only [valO, Option.bind_some]; (try simp only [putAll, Act.put, List.setIfInBounds_toArray, List.set_cons_zero, List.set_cons_succ]); (try rfl))
        clear hS hdep hR
        refine gh_quiet14 (v := .bool true) ?_ ?_
        · (simp only [execOp, Act.eval, e4, e10]; go_simp; first | done | (simp; done) | (simp [*]; done) | omega | (rw [IntKind.wrap_i64]; omega))
        · exact hK'
      | 10, ho, hun, hdep, hK, hfl, _ =>
        obtain rfl := Option.some.inj ho
        have d9 : lp.getD 9 false = true := hdep { on := 9, ground := .data } (by simp) rfl
        have e11 : a'.tmps[11]? = some (.bool true) := (hS.don 9 _ 11 rfl d9 rfl).trans (by simp only [putAll, Act.put, List.setIfInBounds_toArray, List.set_cons_zero, List.set_cons_succ]; rfl)
        have KC := askY21 33 w'
        clear hdep
        unfold Oper.wp
        simp only [execOp, Act.eval, Array.getD_eq_getD_getElem?]
        simp [go_sem, e11, Oper.upon]
        refine KC.mono ?_
        rintro e W2 ⟨rfl, hw2⟩
        replace hw2 := hw2.symm
        subst hw2
        exact hK g w' (fun _ _ _ _ _ _ => rfl) (by rw [hfl 1 (by decide), getD_set_same (by rw [hsz]; decide)]; exact ⟨hR.k, hR.s0, hR.s1, hR.c, fun _ => HSQ.out⟩) _ (by simp only [valO, Option.bind_some]; simp only [putAll, Act.put, List.setIfInBounds_toArray, List.set_cons_zero, List.set_cons_succ]; rfl)
      | n + 11, ho, hun, hdep, hK, hfl, hq => exact absurd hq (by omega)
    case fin0 =>
      intro g X hX
      have hs1 := hX.s1 rfl
      have hk1 := hX.k
      simp only [putAll, Act.put, List.setIfInBounds_toArray, List.set_cons_zero, List.set_cons_succ]
      obtain ⟨vl1, hvl1⟩ : ∃ v, v = g := ⟨_, rfl⟩
      rw [← hvl1] at hs1
      obtain ⟨w1, hw1⟩ : ∃ w1, w1 = X := ⟨_, rfl⟩
      rw [← hw1] at hs1 hk1 ⊢
      have HK1 := hid13 hk1
      have HS1 := hid13 hs1
      have HB : Hid (B < w1.heap.size) := hs1.lt
      have HBX : Hid (∀ Y, KR21 B w1 Y → Below w0.heap.size w0 Y) := fun Y hY => HS1.out.b.trans (hY.lo.mono HS.out.s)
      have HR1 : Hid (RN21 w0 B (.slice ao a.length ac) vl1 (l.drop 4) vp w1 (n1 = cs) false false false (undef, 0) w1.drew) := by
        have q := (Below.refl w1.heap.size w1).drew
        exact ⟨(KR21.refl B w1).below HS1.out.lt q, fun _ => HS1.out.below q, fun q => (by cases q), ⟨_, HS1.out.c⟩, fun q => (by cases q), fun q => (by cases q)⟩
      have HL : Hid (4 ≤ (l.drop 4).length) := by show 4 ≤ _; rw [List.length_drop]; have := HL.out; omega
      clear hX hs1 hk1 hvl1 hw1 HR0 hbq0 c1 c2
      go_wp2_with fail
      by_cases hq1 : n1 = cs
      · have hbq1 : ((n1 : Int) == (cs : Int)) = true := by rw [hq1]; simp
        have HSQ1 : Hid (n1 = cs) := hq1
        clear hq1
        refine gh_regionP21 (γ := Value × Nat) (fun _ _ => False) (qpOk 10 10 (by decide) (fun N => by kernel_rfl) (by kernel_rfl) (by kernel_rfl) (by kernel_rfl) (by kernel_rfl)) (by kernel_rfl) (by kernel_rfl) [some 13, some 14, some 15, some 16, some 17, some 18, some 19, some 20, some 21, some 22] (fun g => [.pointer (some ⟨B, 0, none⟩), .int .u32 (n1 : Int), .pointer (some ⟨B, 0, none⟩), .pointer (some ⟨B, 0, none⟩), .pointer (some ⟨B, 0, none⟩), .slice ao a.length ac, .slice (some ⟨g.2, 0, none⟩) 1 1, .int .u32 (cs : Int), .bool true, .tuple #[]]) (by kernel_rfl) (by simp) (fun lp g X => RN21 w0 B (.slice ao a.length ac) vl1 (l.drop 4) vp w1 (n1 = cs) (lp.getD 1 false) (lp.getD 6 false) (lp.getD 9 false) g X) (undef, 0) HR1.out ?step1 (fun _ _ _ _ h => h.elim) ?fin1
        case step1 =>
          intro q o lp g w' a' ho hsz hun hdep hR hS K Q' hPn hK
          have hfl : ∀ j, j ≠ q → (lp.setIfInBounds q true).getD j false = lp.getD j false := fun j hj => by rw [Array.getD_eq_getD_getElem?, Array.getD_eq_getD_getElem?, Array.getElem?_setIfInBounds_ne (by omega)]
          have hq : q < 10 := (List.getElem?_eq_some_iff.mp ho).1
          match q, ho, hun, hdep, hK, hfl, hq with
          | 0, ho, hun, hdep, hK, hfl, _ =>
            obtain rfl := Option.some.inj ho
            have o0 : a'.tmps[0]? = some (.pointer (some ⟨B, 0, none⟩)) := (hS.old14 0 (by simp)).trans rfl
            have hK' := hK g w' (fun _ _ _ _ _ _ => rfl) (by rw [hfl 1 (by decide), hfl 6 (by decide), hfl 9 (by decide)]; exact hR) (.pointer (some ⟨B, 0, none⟩)) (by simp only [valO, Option.bind_some]; (try simp only [putAll, Act.put, List.setIfInBounds_toArray, List.set_cons_zero, List.set_cons_succ]); (try rfl))
            clear hS hdep hR
            refine gh_quiet14 (v := .pointer (some ⟨B, 0, none⟩)) ?_ ?_
            · (simp only [execOp, Act.eval, o0]; go_simp; first | done | (simp; done) | (simp [*]; done) | omega | (rw [IntKind.wrap_i64]; omega))
            · exact hK'
          | 1, ho, hun, hdep, hK, hfl, _ =>
            obtain rfl := Option.some.inj ho
            have d0 : lp.getD 0 false = true := hdep { on := 0, ground := .data } (by simp) rfl
            have e13 : a'.tmps[13]? = some (.pointer (some ⟨B, 0, none⟩)) := (hS.don 0 _ 13 rfl d0 rfl).trans (by simp only [putAll, Act.put, List.setIfInBounds_toArray, List.set_cons_zero, List.set_cons_succ]; rfl)
            have KC := numY21 w0 B _ _ (l.drop 4) _ w' (hR.s0 hun) (by have := HL.out; omega)
            rw [← HSC.out.2.1] at KC
            clear hdep
            unfold Oper.wp
            simp only [execOp, Act.eval, Array.getD_eq_getD_getElem?]
            simp [go_sem, e13, Oper.upon]
            refine KC.mono ?_
            rintro e W2 ⟨vl2, rfl, hs2, hk2⟩
            exact hK (vl2, g.2) W2 (fun _ _ _ _ _ _ => rfl) (by rw [hfl 6 (by decide), hfl 9 (by decide), getD_set_same (by rw [hsz]; decide)]; exact ⟨hR.k.trans hk2, fun h => (by cases h), fun _ => hs2, ⟨_, hs2.c⟩, fun h => (hk2.ot.2 g.2 (lt_16 (hR.d6 h)) (by intro e; obtain ⟨u, hc⟩ := hR.c; have h2 := hR.d6 h; rw [e, hc] at h2; cases h2)).trans (hR.d6 h), hR.z⟩) _ (by simp only [valO, Option.bind_some]; simp only [putAll, Act.put, List.setIfInBounds_toArray, List.set_cons_zero, List.set_cons_succ]; rfl)
          | 2, ho, hun, hdep, hK, hfl, _ =>
            obtain rfl := Option.some.inj ho
            have o0 : a'.tmps[0]? = some (.pointer (some ⟨B, 0, none⟩)) := (hS.old14 0 (by simp)).trans rfl
            have hK' := hK g w' (fun _ _ _ _ _ _ => rfl) (by rw [hfl 1 (by decide), hfl 6 (by decide), hfl 9 (by decide)]; exact hR) (.pointer (some ⟨B, 0, none⟩)) (by simp only [valO, Option.bind_some]; (try simp only [putAll, Act.put, List.setIfInBounds_toArray, List.set_cons_zero, List.set_cons_succ]); (try rfl))
            clear hS hdep hR
            refine gh_quiet14 (v := .pointer (some ⟨B, 0, none⟩)) ?_ ?_
            · (simp only [execOp, Act.eval, o0]; go_simp; first | done | (simp; done) | (simp [*]; done) | omega | (rw [IntKind.wrap_i64]; omega))
            · exact hK'
          | 3, ho, hun, hdep, hK, hfl, _ =>
            obtain rfl := Option.some.inj ho
            have d2 : lp.getD 2 false = true := hdep { on := 2, ground := .data } (by simp) rfl
            have e15 : a'.tmps[15]? = some (.pointer (some ⟨B, 0, none⟩)) := (hS.don 2 _ 15 rfl d2 rfl).trans (by simp only [putAll, Act.put, List.setIfInBounds_toArray, List.set_cons_zero, List.set_cons_succ]; rfl)
            have hK' := hK g w' (fun _ _ _ _ _ _ => rfl) (by rw [hfl 1 (by decide), hfl 6 (by decide), hfl 9 (by decide)]; exact hR) (.pointer (some ⟨B, 0, none⟩)) (by simp only [valO, Option.bind_some]; (try simp only [putAll, Act.put, List.setIfInBounds_toArray, List.set_cons_zero, List.set_cons_succ]); (try rfl))
            clear hS hdep hR
            refine gh_quiet14 (v := .pointer (some ⟨B, 0, none⟩)) ?_ ?_
            · (simp only [execOp, Act.eval, e15]; go_simp; first | done | (simp; done) | (simp [*]; done) | omega | (rw [IntKind.wrap_i64]; omega))
            · exact hK'
          | 4, ho, hun, hdep, hK, hfl, _ =>
            obtain rfl := Option.some.inj ho
            have d3 : lp.getD 3 false = true := hdep { on := 3, ground := .data } (by simp) rfl
            have e16 : a'.tmps[16]? = some (.pointer (some ⟨B, 0, none⟩)) := (hS.don 3 _ 16 rfl d3 rfl).trans (by simp only [putAll, Act.put, List.setIfInBounds_toArray, List.set_cons_zero, List.set_cons_succ]; rfl)
            have hK' := hK g w' (fun _ _ _ _ _ _ => rfl) (by rw [hfl 1 (by decide), hfl 6 (by decide), hfl 9 (by decide)]; exact hR) (.pointer (some ⟨B, 0, none⟩)) (by simp only [valO, Option.bind_some]; (try simp only [putAll, Act.put, List.setIfInBounds_toArray, List.set_cons_zero, List.set_cons_succ]); (try rfl))
            clear hS hdep hR
            refine gh_quiet14 (v := .pointer (some ⟨B, 0, none⟩)) ?_ ?_
            · (simp only [execOp, Act.eval, e16]; go_simp; first | done | (simp; done) | (simp [*]; done) | omega | (rw [IntKind.wrap_i64]; omega))
            · exact hK'
          | 5, ho, hun, hdep, hK, hfl, _ =>
            obtain rfl := Option.some.inj ho
            have d4 : lp.getD 4 false = true := hdep { on := 4, ground := .data } (by simp) rfl
            have e17 : a'.tmps[17]? = some (.pointer (some ⟨B, 0, none⟩)) := (hS.don 4 _ 17 rfl d4 rfl).trans (by simp only [putAll, Act.put, List.setIfInBounds_toArray, List.set_cons_zero, List.set_cons_succ]; rfl)
            obtain ⟨u, hcx⟩ := hR.c
            have z0 := at_16 hcx 0 _ rfl
            have hK' := hK g w' (fun _ _ _ _ _ _ => rfl) (by rw [hfl 1 (by decide), hfl 6 (by decide), hfl 9 (by decide)]; exact hR) (.slice ao a.length ac) (by simp only [valO, Option.bind_some]; (try simp only [putAll, Act.put, List.setIfInBounds_toArray, List.set_cons_zero, List.set_cons_succ]); (try rfl))
            clear hS hdep hR
            refine gh_quiet14 (v := .slice ao a.length ac) ?_ ?_
            · (simp only [execOp, Act.eval, e17]; go_simp; first | done | (simp; done) | (simp [*]; done) | omega | (rw [IntKind.wrap_i64]; omega))
            · exact hK'
          | 6, ho, hun, hdep, hK, hfl, _ =>
            obtain rfl := Option.some.inj ho
            have d5 : lp.getD 5 false = true := hdep { on := 5, ground := .data } (by simp) rfl
            have e18 : a'.tmps[18]? = some (.slice ao a.length ac) := (hS.don 5 _ 18 rfl d5 rfl).trans (by simp only [putAll, Act.put, List.setIfInBounds_toArray, List.set_cons_zero, List.set_cons_succ]; rfl)
            have q := bl1 w' (.cells #[.slice ao a.length ac] 22)
            have hK' := hK (g.1, w'.heap.size) (w'.alloc (.cells #[.slice ao a.length ac] 22)) (fun k' ok s hk hl hd => gh_same14 (d := 19) (s := s) (by simp only [putAll, Act.put, List.setIfInBounds_toArray, List.set_cons_zero, List.set_cons_succ]; rfl) (by rintro rfl; have := dstG_of (by kernel_rfl) k' 6 ok _ 19 hk rfl hd rfl; subst this; rw [hun] at hl; cases hl)) (by rw [hfl 1 (by decide), hfl 9 (by decide), getD_set_same (by rw [hsz]; decide)]; exact ⟨hR.k.below HB.out q, fun h => (hR.s0 h).below q, fun h => (hR.s1 h).below q, (by obtain ⟨u, hc⟩ := hR.c; exact ⟨u, (q.block _ (lt_16 hc)).trans hc⟩), fun _ => new_16 _ _, hR.z⟩) (.slice (some ⟨w'.heap.size, 0, none⟩) 1 1) (by simp only [valO, Option.bind_some]; simp only [putAll, Act.put, List.setIfInBounds_toArray, List.set_cons_zero, List.set_cons_succ]; rfl)
            clear hS hdep hR hK q
            unfold Oper.wp
            simp only [execOp, Act.eval, Array.getD_eq_getD_getElem?]
            simp [go_sem, e18, Oper.upon]
            exact hK'
          | 7, ho, hun, hdep, hK, hfl, _ =>
            obtain rfl := Option.some.inj ho
            have d6 : lp.getD 6 false = true := hdep { on := 6, ground := .data } (by simp) rfl
            have e19 : a'.tmps[19]? = some (.slice (some ⟨g.2, 0, none⟩) 1 1) := (hS.don 6 _ 19 rfl d6 rfl).trans (by simp only [putAll, Act.put, List.setIfInBounds_toArray, List.set_cons_zero, List.set_cons_succ]; rfl)
            have KC := sum_one (at_16 (hR.d6 d6) 0 _ rfl) (HA.out.1.below (HBX.out _ hR.k)) (by have := HA.out.2.2; omega) HA.out.2.1 (HTb.out _ (HK1.out.trans hR.k))
            rw [HSC.out.2.2] at KC
            clear hdep
            unfold Oper.wp
            simp only [execOp, Act.eval, Array.getD_eq_getD_getElem?]
            simp [go_sem, e19, Oper.upon]
            refine KC.mono ?_
            rintro e W2 ⟨rfl, hw2⟩
            replace hw2 := hw2.symm
            subst hw2
            exact hK g w' (fun _ _ _ _ _ _ => rfl) (by rw [hfl 1 (by decide), hfl 6 (by decide), hfl 9 (by decide)]; exact hR) _ (by simp only [valO, Option.bind_some]; simp only [putAll, Act.put, List.setIfInBounds_toArray, List.set_cons_zero, List.set_cons_succ]; rfl)
          | 8, ho, hun, hdep, hK, hfl, _ =>
            obtain rfl := Option.some.inj ho
            have d1 : lp.getD 1 false = true := hdep { on := 1, ground := .data } (by simp) rfl
            have e14 : a'.tmps[14]? = some (.int .u32 (n1 : Int)) := (hS.don 1 _ 14 rfl d1 rfl).trans (by simp only [putAll, Act.put, List.setIfInBounds_toArray, List.set_cons_zero, List.set_cons_succ]; rfl)
            have d7 : lp.getD 7 false = true := hdep { on := 7, ground := .data } (by simp) rfl
            have e20 : a'.tmps[20]? = some (.int .u32 (cs : Int)) := (hS.don 7 _ 20 rfl d7 rfl).trans (by simp only [putAll, Act.put, List.setIfInBounds_toArray, List.set_cons_zero, List.set_cons_succ]; rfl)
            have hK' := hK g w' (fun _ _ _ _ _ _ => rfl) (by rw [hfl 1 (by decide), hfl 6 (by decide), hfl 9 (by decide)]; exact hR) (.bool true) (by simp only [valO, Option.bind_some]; (try simp only [putAll, Act.put, List.setIfInBounds_toArray, List.set_cons_zero, List.set_cons_succ]); (try rfl))
            clear hS hdep hR
            refine gh_quiet14 (v := .bool true) ?_ ?_
            · (simp only [execOp, Act.eval, e14, e20]; go_simp; first | done | (simp; done) | (simp [*]; done) | omega | (rw [IntKind.wrap_i64]; omega))
            · exact hK'
          | 9, ho, hun, hdep, hK, hfl, _ =>
            obtain rfl := Option.some.inj ho
            have d8 : lp.getD 8 false = true := hdep { on := 8, ground := .data } (by simp) rfl
            have e21 : a'.tmps[21]? = some (.bool true) := (hS.don 8 _ 21 rfl d8 rfl).trans (by simp only [putAll, Act.put, List.setIfInBounds_toArray, List.set_cons_zero, List.set_cons_succ]; rfl)
            have KC := askY21 33 w'
            clear hdep
            unfold Oper.wp
            simp only [execOp, Act.eval, Array.getD_eq_getD_getElem?]
            simp [go_sem, e21, Oper.upon]
            refine KC.mono ?_
            rintro e W2 ⟨rfl, hw2⟩
            replace hw2 := hw2.symm
            subst hw2
            exact hK g w' (fun _ _ _ _ _ _ => rfl) (by rw [hfl 1 (by decide), hfl 6 (by decide), getD_set_same (by rw [hsz]; decide)]; exact ⟨hR.k, hR.s0, hR.s1, hR.c, hR.d6, fun _ => HSQ1.out⟩) _ (by simp only [valO, Option.bind_some]; simp only [putAll, Act.put, List.setIfInBounds_toArray, List.set_cons_zero, List.set_cons_succ]; rfl)
          | n + 10, ho, hun, hdep, hK, hfl, hq => exact absurd hq (by omega)
        case fin1 =>
          intro g X hX
          have HXs := hid13 (hX.s1 rfl)
          have HXk := hid13 hX.k
          simp only [putAll, Act.put, List.setIfInBounds_toArray, List.set_cons_zero, List.set_cons_succ]
          clear hX HR1
          go_wp2
          refine bodyPost_end (v := .tuple #[]) (by simp [results, Tryd.results33, go_sem]) rfl (HQ.out _ _ ?_)
          rw [if_pos ⟨HSQ.out, HSQ1.out⟩]
          have hxs := HXs.out
          rw [List.drop_drop] at hxs
          exact ⟨rfl, ⟨_, hxs⟩, HK1.out.trans HXk.out⟩
      
      · have hbq1 : ((n1 : Int) == (cs : Int)) = false := by simp; omega
        have HSN1 : Hid (¬ n1 = cs) := hq1
        refine gh_regionP21 (γ := Value × Nat) (fun ch X => ch = pan21 33 ∧ KR21 B w1 X) (qpOk 10 10 (by decide) (fun N => by kernel_rfl) (by kernel_rfl) (by kernel_rfl) (by kernel_rfl) (by kernel_rfl)) (by kernel_rfl) (by kernel_rfl) [some 13, some 14, some 15, some 16, some 17, some 18, some 19, some 20, some 21, some 22] (fun g => [.pointer (some ⟨B, 0, none⟩), .int .u32 (n1 : Int), .pointer (some ⟨B, 0, none⟩), .pointer (some ⟨B, 0, none⟩), .pointer (some ⟨B, 0, none⟩), .slice ao a.length ac, .slice (some ⟨g.2, 0, none⟩) 1 1, .int .u32 (cs : Int), .bool false, .tuple #[]]) (by kernel_rfl) (by simp) (fun lp g X => RN21 w0 B (.slice ao a.length ac) vl1 (l.drop 4) vp w1 (n1 = cs) (lp.getD 1 false) (lp.getD 6 false) (lp.getD 9 false) g X) (undef, 0) HR1.out ?step1 (fun ch a'' X hd hh => ⟨hd.trans rfl, HQ.out _ _ (by rw [if_neg (fun q => HSN1.out q.2)]; exact ⟨by rw [hh.1], HK1.out.trans hh.2⟩)⟩) ?fin1
        case step1 =>
          intro q o lp g w' a' ho hsz hun hdep hR hS K Q' hPn hK
          have hfl : ∀ j, j ≠ q → (lp.setIfInBounds q true).getD j false = lp.getD j false := fun j hj => by rw [Array.getD_eq_getD_getElem?, Array.getD_eq_getD_getElem?, Array.getElem?_setIfInBounds_ne (by omega)]
          have hq : q < 10 := (List.getElem?_eq_some_iff.mp ho).1
          match q, ho, hun, hdep, hK, hfl, hq with
          | 0, ho, hun, hdep, hK, hfl, _ =>
            obtain rfl := Option.some.inj ho
            have o0 : a'.tmps[0]? = some (.pointer (some ⟨B, 0, none⟩)) := (hS.old14 0 (by simp)).trans rfl
            have hK' := hK g w' (fun _ _ _ _ _ _ => rfl) (by rw [hfl 1 (by decide), hfl 6 (by decide), hfl 9 (by decide)]; exact hR) (.pointer (some ⟨B, 0, none⟩)) (by simp only [valO, Option.bind_some]; (try simp only [putAll, Act.put, List.setIfInBounds_toArray, List.set_cons_zero, List.set_cons_succ]); (try rfl))
            clear hS hdep hR
            refine gh_quiet14 (v := .pointer (some ⟨B, 0, none⟩)) ?_ ?_
            · (simp only [execOp, Act.eval, o0]; go_simp; first | done | (simp; done) | (simp [*]; done) | omega | (rw [IntKind.wrap_i64]; omega))
            · exact hK'
          | 1, ho, hun, hdep, hK, hfl, _ =>
            obtain rfl := Option.some.inj ho
            have d0 : lp.getD 0 false = true := hdep { on := 0, ground := .data } (by simp) rfl
            have e13 : a'.tmps[13]? = some (.pointer (some ⟨B, 0, none⟩)) := (hS.don 0 _ 13 rfl d0 rfl).trans (by simp only [putAll, Act.put, List.setIfInBounds_toArray, List.set_cons_zero, List.set_cons_succ]; rfl)
            have KC := numY21 w0 B _ _ (l.drop 4) _ w' (hR.s0 hun) (by have := HL.out; omega)
            rw [← HSC.out.2.1] at KC
            clear hdep
            unfold Oper.wp
            simp only [execOp, Act.eval, Array.getD_eq_getD_getElem?]
            simp [go_sem, e13, Oper.upon]
            refine KC.mono ?_
            rintro e W2 ⟨vl2, rfl, hs2, hk2⟩
            exact hK (vl2, g.2) W2 (fun _ _ _ _ _ _ => rfl) (by rw [hfl 6 (by decide), hfl 9 (by decide), getD_set_same (by rw [hsz]; decide)]; exact ⟨hR.k.trans hk2, fun h => (by cases h), fun _ => hs2, ⟨_, hs2.c⟩, fun h => (hk2.ot.2 g.2 (lt_16 (hR.d6 h)) (by intro e; obtain ⟨u, hc⟩ := hR.c; have h2 := hR.d6 h; rw [e, hc] at h2; cases h2)).trans (hR.d6 h), hR.z⟩) _ (by simp only [valO, Option.bind_some]; simp only [putAll, Act.put, List.setIfInBounds_toArray, List.set_cons_zero, List.set_cons_succ]; rfl)
          | 2, ho, hun, hdep, hK, hfl, _ =>
            obtain rfl := Option.some.inj ho
            have o0 : a'.tmps[0]? = some (.pointer (some ⟨B, 0, none⟩)) := (hS.old14 0 (by simp)).trans rfl
            have hK' := hK g w' (fun _ _ _ _ _ _ => rfl) (by rw [hfl 1 (by decide), hfl 6 (by decide), hfl 9 (by decide)]; exact hR) (.pointer (some ⟨B, 0, none⟩)) (by simp only [valO, Option.bind_some]; (try simp only [putAll, Act.put, List.setIfInBounds_toArray, List.set_cons_zero, List.set_cons_succ]); (try rfl))
            clear hS hdep hR
            refine gh_quiet14 (v := .pointer (some ⟨B, 0, none⟩)) ?_ ?_
            · (simp only [execOp, Act.eval, o0]; go_simp; first | done | (simp; done) | (simp [*]; done) | omega | (rw [IntKind.wrap_i64]; omega))
            · exact hK'
          | 3, ho, hun, hdep, hK, hfl, _ =>
            obtain rfl := Option.some.inj ho
            have d2 : lp.getD 2 false = true := hdep { on := 2, ground := .data } (by simp) rfl
            have e15 : a'.tmps[15]? = some (.pointer (some ⟨B, 0, none⟩)) := (hS.don 2 _ 15 rfl d2 rfl).trans (by simp only [putAll, Act.put, List.setIfInBounds_toArray, List.set_cons_zero, List.set_cons_succ]; rfl)
            have hK' := hK g w' (fun _ _ _ _ _ _ => rfl) (by rw [hfl 1 (by decide), hfl 6 (by decide), hfl 9 (by decide)]; exact hR) (.pointer (some ⟨B, 0, none⟩)) (by simp only [valO, Option.bind_some]; (try simp only [putAll, Act.put, List.setIfInBounds_toArray, List.set_cons_zero, List.set_cons_succ]); (try rfl))
            clear hS hdep hR
            refine gh_quiet14 (v := .pointer (some ⟨B, 0, none⟩)) ?_ ?_
            · (simp only [execOp, Act.eval, e15]; go_simp; first | done | (simp; done) | (simp [*]; done) | omega | (rw [IntKind.wrap_i64]; omega))
            · exact hK'
          | 4, ho, hun, hdep, hK, hfl, _ =>
            obtain rfl := Option.some.inj ho
            have d3 : lp.getD 3 false = true := hdep { on := 3, ground := .data } (by simp) rfl
            have e16 : a'.tmps[16]? = some (.pointer (some ⟨B, 0, none⟩)) := (hS.don 3 _ 16 rfl d3 rfl).trans (by simp only [putAll, Act.put, List.setIfInBounds_toArray, List.set_cons_zero, List.set_cons_succ]; rfl)
            have hK' := hK g w' (fun _ _ _ _ _ _ => rfl) (by rw [hfl 1 (by decide), hfl 6 (by decide), hfl 9 (by decide)]; exact hR) (.pointer (some ⟨B, 0, none⟩)) (by simp only [valO, Option.bind_some]; (try simp only [putAll, Act.put, List.setIfInBounds_toArray, List.set_cons_zero, List.set_cons_succ]); (try rfl))
            clear hS hdep hR
            refine gh_quiet14 (v := .pointer (some ⟨B, 0, none⟩)) ?_ ?_
            · (simp only [execOp, Act.eval, e16]; go_simp; first | done | (simp; done) | (simp [*]; done) | omega | (rw [IntKind.wrap_i64]; omega))
            · exact hK'
          | 5, ho, hun, hdep, hK, hfl, _ =>
            obtain rfl := Option.some.inj ho
            have d4 : lp.getD 4 false = true := hdep { on := 4, ground := .data } (by simp) rfl
            have e17 : a'.tmps[17]? = some (.pointer (some ⟨B, 0, none⟩)) := (hS.don 4 _ 17 rfl d4 rfl).trans (by simp only [putAll, Act.put, List.setIfInBounds_toArray, List.set_cons_zero, List.set_cons_succ]; rfl)
            obtain ⟨u, hcx⟩ := hR.c
            have z0 := at_16 hcx 0 _ rfl
            have hK' := hK g w' (fun _ _ _ _ _ _ => rfl) (by rw [hfl 1 (by decide), hfl 6 (by decide), hfl 9 (by decide)]; exact hR) (.slice ao a.length ac) (by simp only [valO, Option.bind_some]; (try simp only [putAll, Act.put, List.setIfInBounds_toArray, List.set_cons_zero, List.set_cons_succ]); (try rfl))
            clear hS hdep hR
            refine gh_quiet14 (v := .slice ao a.length ac) ?_ ?_
            · (simp only [execOp, Act.eval, e17]; go_simp; first | done | (simp; done) | (simp [*]; done) | omega | (rw [IntKind.wrap_i64]; omega))
            · exact hK'
          | 6, ho, hun, hdep, hK, hfl, _ =>
            obtain rfl := Option.some.inj ho
            have d5 : lp.getD 5 false = true := hdep { on := 5, ground := .data } (by simp) rfl
            have e18 : a'.tmps[18]? = some (.slice ao a.length ac) := (hS.don 5 _ 18 rfl d5 rfl).trans (by simp only [putAll, Act.put, List.setIfInBounds_toArray, List.set_cons_zero, List.set_cons_succ]; rfl)
            have q := bl1 w' (.cells #[.slice ao a.length ac] 22)
            have hK' := hK (g.1, w'.heap.size) (w'.alloc (.cells #[.slice ao a.length ac] 22)) (fun k' ok s hk hl hd => gh_same14 (d := 19) (s := s) (by simp only [putAll, Act.put, List.setIfInBounds_toArray, List.set_cons_zero, List.set_cons_succ]; rfl) (by rintro rfl; have := dstG_of (by kernel_rfl) k' 6 ok _ 19 hk rfl hd rfl; subst this; rw [hun] at hl; cases hl)) (by rw [hfl 1 (by decide), hfl 9 (by decide), getD_set_same (by rw [hsz]; decide)]; exact ⟨hR.k.below HB.out q, fun h => (hR.s0 h).below q, fun h => (hR.s1 h).below q, (by obtain ⟨u, hc⟩ := hR.c; exact ⟨u, (q.block _ (lt_16 hc)).trans hc⟩), fun _ => new_16 _ _, hR.z⟩) (.slice (some ⟨w'.heap.size, 0, none⟩) 1 1) (by simp only [valO, Option.bind_some]; simp only [putAll, Act.put, List.setIfInBounds_toArray, List.set_cons_zero, List.set_cons_succ]; rfl)
            clear hS hdep hR hK q
            unfold Oper.wp
            simp only [execOp, Act.eval, Array.getD_eq_getD_getElem?]
            simp [go_sem, e18, Oper.upon]
            exact hK'
          | 7, ho, hun, hdep, hK, hfl, _ =>
            obtain rfl := Option.some.inj ho
            have d6 : lp.getD 6 false = true := hdep { on := 6, ground := .data } (by simp) rfl
            have e19 : a'.tmps[19]? = some (.slice (some ⟨g.2, 0, none⟩) 1 1) := (hS.don 6 _ 19 rfl d6 rfl).trans (by simp only [putAll, Act.put, List.setIfInBounds_toArray, List.set_cons_zero, List.set_cons_succ]; rfl)
            have KC := sum_one (at_16 (hR.d6 d6) 0 _ rfl) (HA.out.1.below (HBX.out _ hR.k)) (by have := HA.out.2.2; omega) HA.out.2.1 (HTb.out _ (HK1.out.trans hR.k))
            rw [HSC.out.2.2] at KC
            clear hdep
            unfold Oper.wp
            simp only [execOp, Act.eval, Array.getD_eq_getD_getElem?]
            simp [go_sem, e19, Oper.upon]
            refine KC.mono ?_
            rintro e W2 ⟨rfl, hw2⟩
            replace hw2 := hw2.symm
            subst hw2
            exact hK g w' (fun _ _ _ _ _ _ => rfl) (by rw [hfl 1 (by decide), hfl 6 (by decide), hfl 9 (by decide)]; exact hR) _ (by simp only [valO, Option.bind_some]; simp only [putAll, Act.put, List.setIfInBounds_toArray, List.set_cons_zero, List.set_cons_succ]; rfl)
          | 8, ho, hun, hdep, hK, hfl, _ =>
            obtain rfl := Option.some.inj ho
            have d1 : lp.getD 1 false = true := hdep { on := 1, ground := .data } (by simp) rfl
            have e14 : a'.tmps[14]? = some (.int .u32 (n1 : Int)) := (hS.don 1 _ 14 rfl d1 rfl).trans (by simp only [putAll, Act.put, List.setIfInBounds_toArray, List.set_cons_zero, List.set_cons_succ]; rfl)
            have d7 : lp.getD 7 false = true := hdep { on := 7, ground := .data } (by simp) rfl
            have e20 : a'.tmps[20]? = some (.int .u32 (cs : Int)) := (hS.don 7 _ 20 rfl d7 rfl).trans (by simp only [putAll, Act.put, List.setIfInBounds_toArray, List.set_cons_zero, List.set_cons_succ]; rfl)
            have hK' := hK g w' (fun _ _ _ _ _ _ => rfl) (by rw [hfl 1 (by decide), hfl 6 (by decide), hfl 9 (by decide)]; exact hR) (.bool false) (by simp only [valO, Option.bind_some]; (try simp only [putAll, Act.put, List.setIfInBounds_toArray, List.set_cons_zero, List.set_cons_succ]); (try rfl))
            clear hS hdep hR
            refine gh_quiet14 (v := .bool false) ?_ ?_
            · (simp only [execOp, Act.eval, e14, e20]; go_simp; first | done | (simp; done) | (simp [*]; done) | omega | (rw [IntKind.wrap_i64]; omega))
            · exact hK'
          | 9, ho, hun, hdep, hK, hfl, _ =>
            obtain rfl := Option.some.inj ho
            have d8 : lp.getD 8 false = true := hdep { on := 8, ground := .data } (by simp) rfl
            have e21 : a'.tmps[21]? = some (.bool false) := (hS.don 8 _ 21 rfl d8 rfl).trans (by simp only [putAll, Act.put, List.setIfInBounds_toArray, List.set_cons_zero, List.set_cons_succ]; rfl)
            have KC := askN21 33 w'
            have hdf := hS.dfr
            clear hdep
            unfold Oper.wp
            simp only [execOp, Act.eval, Array.getD_eq_getD_getElem?]
            simp [go_sem, e21, Oper.upon]
            refine KC.mono ?_
            rintro e W2 ⟨rfl, hw2⟩
            replace hw2 := hw2.symm
            subst hw2
            exact hPn _ _ _ hdf ⟨rfl, hR.k⟩
          | n + 10, ho, hun, hdep, hK, hfl, hq => exact absurd hq (by omega)
        case fin1 =>
          intro g X hX
          exact absurd (hX.z rfl) HSN1.out
  · have hbq0 : ((n0 : Int) == (a.length : Int)) = false := by simp; omega
    have HSN : Hid (¬ n0 = a.length) := hq0
    go_enter Tryd.func33, Tryd.ntmps33
    go_wp2_with fail
    refine gh_regionP21 (γ := Value) (fun ch X => ch = pan21 33 ∧ KR21 B w X) (qpOk 11 11 (by decide) (fun N => by kernel_rfl) (by kernel_rfl) (by kernel_rfl) (by kernel_rfl) (by kernel_rfl)) (by kernel_rfl) (by kernel_rfl) [some 2, some 3, some 4, some 5, some 6, some 7, some 8, some 9, some 10, some 11, some 12] (fun g => [.pointer (some ⟨B, 0, none⟩), .int .u32 (n0 : Int), .int .u64 (n0 : Int), .pointer (some ⟨B, 0, none⟩), .pointer (some ⟨B, 0, none⟩), .pointer (some ⟨B, 0, none⟩), .slice ao a.length ac, .int .i64 (a.length : Int), .int .u64 (a.length : Int), .bool false, .tuple #[]]) (by kernel_rfl) (by simp) (fun lp g X => RO21 w0 B (.slice ao a.length ac) vl l vp w (n0 = a.length) (lp.getD 1 false) (lp.getD 10 false) g X) undef HR0.out ?step0 (fun ch a'' X hd hh => ⟨hd.trans rfl, HQ.out _ _ (by rw [if_neg (fun q => HSN.out q.1)]; exact ⟨by rw [hh.1], hh.2⟩)⟩) ?fin0
    case step0 =>
      intro q o lp g w' a' ho hsz hun hdep hR hS K Q' hPn hK
      have hfl : ∀ j, j ≠ q → (lp.setIfInBounds q true).getD j false = lp.getD j false := fun j hj => by rw [Array.getD_eq_getD_getElem?, Array.getD_eq_getD_getElem?, Array.getElem?_setIfInBounds_ne (by omega)]
      have hq : q < 11 := (List.getElem?_eq_some_iff.mp ho).1
      match q, ho, hun, hdep, hK, hfl, hq with
      | 0, ho, hun, hdep, hK, hfl, _ =>
        obtain rfl := Option.some.inj ho
        have o0 : a'.tmps[0]? = some (.pointer (some ⟨B, 0, none⟩)) := (hS.old14 0 (by simp)).trans rfl
        have hK' := hK g w' (fun _ _ _ _ _ _ => rfl) (by rw [hfl 1 (by decide), hfl 10 (by decide)]; exact hR) (.pointer (some ⟨B, 0, none⟩)) (by simp only [valO, Option.bind_some]; (try simp only [putAll, Act.put, List.setIfInBounds_toArray, List.set_cons_zero, List.set_cons_succ]); (try rfl))
        clear hS hdep hR
        refine gh_quiet14 (v := .pointer (some ⟨B, 0, none⟩)) ?_ ?_
        · (simp only [execOp, Act.eval, o0]; go_simp; first | done | (simp; done) | (simp [*]; done) | omega | (rw [IntKind.wrap_i64]; omega))
        · exact hK'
      | 1, ho, hun, hdep, hK, hfl, _ =>
        obtain rfl := Option.some.inj ho
        have d0 : lp.getD 0 false = true := hdep { on := 0, ground := .data } (by simp) rfl
        have e2 : a'.tmps[2]? = some (.pointer (some ⟨B, 0, none⟩)) := (hS.don 0 _ 2 rfl d0 rfl).trans (by simp only [putAll, Act.put, List.setIfInBounds_toArray, List.set_cons_zero, List.set_cons_succ]; rfl)
        have KC := numY21 w0 B _ _ l _ w' (hR.s0 hun) (by have := HL.out; omega)
        rw [← HSC.out.1] at KC
        clear hdep
        unfold Oper.wp
        simp only [execOp, Act.eval, Array.getD_eq_getD_getElem?]
        simp [go_sem, e2, Oper.upon]
        refine KC.mono ?_
        rintro e W2 ⟨vl2, rfl, hs2, hk2⟩
        exact hK vl2 W2 (fun _ _ _ _ _ _ => rfl) (by rw [hfl 10 (by decide), getD_set_same (by rw [hsz]; decide)]; exact ⟨hR.k.trans hk2, fun h => (by cases h), fun _ => hs2, ⟨_, hs2.c⟩, hR.z⟩) _ (by simp only [valO, Option.bind_some]; simp only [putAll, Act.put, List.setIfInBounds_toArray, List.set_cons_zero, List.set_cons_succ]; rfl)
      | 2, ho, hun, hdep, hK, hfl, _ =>
        obtain rfl := Option.some.inj ho
        have d1 : lp.getD 1 false = true := hdep { on := 1, ground := .data } (by simp) rfl
        have e3 : a'.tmps[3]? = some (.int .u32 (n0 : Int)) := (hS.don 1 _ 3 rfl d1 rfl).trans (by simp only [putAll, Act.put, List.setIfInBounds_toArray, List.set_cons_zero, List.set_cons_succ]; rfl)
        have hK' := hK g w' (fun _ _ _ _ _ _ => rfl) (by rw [hfl 1 (by decide), hfl 10 (by decide)]; exact hR) (.int .u64 (n0 : Int)) (by simp only [valO, Option.bind_some]; (try simp only [putAll, Act.put, List.setIfInBounds_toArray, List.set_cons_zero, List.set_cons_succ]); (try rfl))
        clear hS hdep hR
        refine gh_quiet14 (v := .int .u64 (n0 : Int)) ?_ ?_
        · (simp only [execOp, Act.eval, e3]; go_simp; first | done | (simp; done) | (simp [*]; done) | omega | (rw [IntKind.wrap_i64]; omega))
        · exact hK'
      | 3, ho, hun, hdep, hK, hfl, _ =>
        obtain rfl := Option.some.inj ho
        have o0 : a'.tmps[0]? = some (.pointer (some ⟨B, 0, none⟩)) := (hS.old14 0 (by simp)).trans rfl
        have hK' := hK g w' (fun _ _ _ _ _ _ => rfl) (by rw [hfl 1 (by decide), hfl 10 (by decide)]; exact hR) (.pointer (some ⟨B, 0, none⟩)) (by simp only [valO, Option.bind_some]; (try simp only [putAll, Act.put, List.setIfInBounds_toArray, List.set_cons_zero, List.set_cons_succ]); (try rfl))
        clear hS hdep hR
        refine gh_quiet14 (v := .pointer (some ⟨B, 0, none⟩)) ?_ ?_
        · (simp only [execOp, Act.eval, o0]; go_simp; first | done | (simp; done) | (simp [*]; done) | omega | (rw [IntKind.wrap_i64]; omega))
        · exact hK'
      | 4, ho, hun, hdep, hK, hfl, _ =>
        obtain rfl := Option.some.inj ho
        have d3 : lp.getD 3 false = true := hdep { on := 3, ground := .data } (by simp) rfl
        have e5 : a'.tmps[5]? = some (.pointer (some ⟨B, 0, none⟩)) := (hS.don 3 _ 5 rfl d3 rfl).trans (by simp only [putAll, Act.put, List.setIfInBounds_toArray, List.set_cons_zero, List.set_cons_succ]; rfl)
        have hK' := hK g w' (fun _ _ _ _ _ _ => rfl) (by rw [hfl 1 (by decide), hfl 10 (by decide)]; exact hR) (.pointer (some ⟨B, 0, none⟩)) (by simp only [valO, Option.bind_some]; (try simp only [putAll, Act.put, List.setIfInBounds_toArray, List.set_cons_zero, List.set_cons_succ]); (try rfl))
        clear hS hdep hR
        refine gh_quiet14 (v := .pointer (some ⟨B, 0, none⟩)) ?_ ?_
        · (simp only [execOp, Act.eval, e5]; go_simp; first | done | (simp; done) | (simp [*]; done) | omega | (rw [IntKind.wrap_i64]; omega))
        · exact hK'
      | 5, ho, hun, hdep, hK, hfl, _ =>
        obtain rfl := Option.some.inj ho
        have d4 : lp.getD 4 false = true := hdep { on := 4, ground := .data } (by simp) rfl
        have e6 : a'.tmps[6]? = some (.pointer (some ⟨B, 0, none⟩)) := (hS.don 4 _ 6 rfl d4 rfl).trans (by simp only [putAll, Act.put, List.setIfInBounds_toArray, List.set_cons_zero, List.set_cons_succ]; rfl)
        have hK' := hK g w' (fun _ _ _ _ _ _ => rfl) (by rw [hfl 1 (by decide), hfl 10 (by decide)]; exact hR) (.pointer (some ⟨B, 0, none⟩)) (by simp only [valO, Option.bind_some]; (try simp only [putAll, Act.put, List.setIfInBounds_toArray, List.set_cons_zero, List.set_cons_succ]); (try rfl))
        clear hS hdep hR
        refine gh_quiet14 (v := .pointer (some ⟨B, 0, none⟩)) ?_ ?_
        · (simp only [execOp, Act.eval, e6]; go_simp; first | done | (simp; done) | (simp [*]; done) | omega | (rw [IntKind.wrap_i64]; omega))
        · exact hK'
      | 6, ho, hun, hdep, hK, hfl, _ =>
        obtain rfl := Option.some.inj ho
        have d5 : lp.getD 5 false = true := hdep { on := 5, ground := .data } (by simp) rfl
        have e7 : a'.tmps[7]? = some (.pointer (some ⟨B, 0, none⟩)) := (hS.don 5 _ 7 rfl d5 rfl).trans (by simp only [putAll, Act.put, List.setIfInBounds_toArray, List.set_cons_zero, List.set_cons_succ]; rfl)
        obtain ⟨u, hcx⟩ := hR.c
        have z0 := at_16 hcx 0 _ rfl
        have hK' := hK g w' (fun _ _ _ _ _ _ => rfl) (by rw [hfl 1 (by decide), hfl 10 (by decide)]; exact hR) (.slice ao a.length ac) (by simp only [valO, Option.bind_some]; (try simp only [putAll, Act.put, List.setIfInBounds_toArray, List.set_cons_zero, List.set_cons_succ]); (try rfl))
        clear hS hdep hR
        refine gh_quiet14 (v := .slice ao a.length ac) ?_ ?_
        · (simp only [execOp, Act.eval, e7]; go_simp; first | done | (simp; done) | (simp [*]; done) | omega | (rw [IntKind.wrap_i64]; omega))
        · exact hK'
      | 7, ho, hun, hdep, hK, hfl, _ =>
        obtain rfl := Option.some.inj ho
        have d6 : lp.getD 6 false = true := hdep { on := 6, ground := .data } (by simp) rfl
        have e8 : a'.tmps[8]? = some (.slice ao a.length ac) := (hS.don 6 _ 8 rfl d6 rfl).trans (by simp only [putAll, Act.put, List.setIfInBounds_toArray, List.set_cons_zero, List.set_cons_succ]; rfl)
        have hK' := hK g w' (fun _ _ _ _ _ _ => rfl) (by rw [hfl 1 (by decide), hfl 10 (by decide)]; exact hR) (.int .i64 (a.length : Int)) (by simp only [valO, Option.bind_some]; (try simp only [putAll, Act.put, List.setIfInBounds_toArray, List.set_cons_zero, List.set_cons_succ]); (try rfl))
        clear hS hdep hR
        refine gh_quiet14 (v := .int .i64 (a.length : Int)) ?_ ?_
        · (simp only [execOp, Act.eval, e8]; go_simp; first | done | (simp; done) | (simp [*]; done) | omega | (rw [IntKind.wrap_i64]; omega))
        · exact hK'
      | 8, ho, hun, hdep, hK, hfl, _ =>
        obtain rfl := Option.some.inj ho
        have d7 : lp.getD 7 false = true := hdep { on := 7, ground := .data } (by simp) rfl
        have e9 : a'.tmps[9]? = some (.int .i64 (a.length : Int)) := (hS.don 7 _ 9 rfl d7 rfl).trans (by simp only [putAll, Act.put, List.setIfInBounds_toArray, List.set_cons_zero, List.set_cons_succ]; rfl)
        have hK' := hK g w' (fun _ _ _ _ _ _ => rfl) (by rw [hfl 1 (by decide), hfl 10 (by decide)]; exact hR) (.int .u64 (a.length : Int)) (by simp only [valO, Option.bind_some]; (try simp only [putAll, Act.put, List.setIfInBounds_toArray, List.set_cons_zero, List.set_cons_succ]); (try rfl))
        clear hS hdep hR
        refine gh_quiet14 (v := .int .u64 (a.length : Int)) ?_ ?_
        · (simp only [execOp, Act.eval, e9]; go_simp; first | done | (simp; done) | (simp [*]; done) | omega | (rw [IntKind.wrap_i64]; omega))
        · exact hK'
      | 9, ho, hun, hdep, hK, hfl, _ =>
        obtain rfl := Option.some.inj ho
        have d2 : lp.getD 2 false = true := hdep { on := 2, ground := .data } (by simp) rfl
        have e4 : a'.tmps[4]? = some (.int .u64 (n0 : Int)) := (hS.don 2 _ 4 rfl d2 rfl).trans (by simp only [putAll, Act.put, List.setIfInBounds_toArray, List.set_cons_zero, List.set_cons_succ]; rfl)
        have d8 : lp.getD 8 false = true := hdep { on := 8, ground := .data } (by simp) rfl
        have e10 : a'.tmps[10]? = some (.int .u64 (a.length : Int)) := (hS.don 8 _ 10 rfl d8 rfl).trans (by simp only [putAll, Act.put, List.setIfInBounds_toArray, List.set_cons_zero, List.set_cons_succ]; rfl)
        have hK' := hK g w' (fun _ _ _ _ _ _ => rfl) (by rw [hfl 1 (by decide), hfl 10 (by decide)]; exact hR) (.bool false) (by simp only [valO, Option.bind_some]; (try simp only [putAll, Act.put, List.setIfInBounds_toArray, List.set_cons_zero, List.set_cons_succ]); (try rfl))
        clear hS hdep hR
        refine gh_quiet14 (v := .bool false) ?_ ?_
        · (simp only [execOp, Act.eval, e4, e10]; go_simp; first | done | (simp; done) | (simp [*]; done) | omega | (rw [IntKind.wrap_i64]; omega))
        · exact hK'
      | 10, ho, hun, hdep, hK, hfl, _ =>
        obtain rfl := Option.some.inj ho
        have d9 : lp.getD 9 false = true := hdep { on := 9, ground := .data } (by simp) rfl
        have e11 : a'.tmps[11]? = some (.bool false) := (hS.don 9 _ 11 rfl d9 rfl).trans (by simp only [putAll, Act.put, List.setIfInBounds_toArray, List.set_cons_zero, List.set_cons_succ]; rfl)
        have KC := askN21 33 w'
        have hdf := hS.dfr
        clear hdep
        unfold Oper.wp
        simp only [execOp, Act.eval, Array.getD_eq_getD_getElem?]
        simp [go_sem, e11, Oper.upon]
        refine KC.mono ?_
        rintro e W2 ⟨rfl, hw2⟩
        replace hw2 := hw2.symm
        subst hw2
        exact hPn _ _ _ hdf ⟨rfl, hR.k⟩
      | n + 11, ho, hun, hdep, hK, hfl, hq => exact absurd hq (by omega)
    case fin0 =>
      intro g X hX
      exact absurd (hX.z rfl) HSN.out
set_option maxRecDepth 100000 in
set_option maxHeartbeats 4000000 in
theorem endS21 (w0 : World) (B : Nat) (va vl : Value) (l : List Nat) (vp : Value) (w : World) (h : RS21 w0 B va vl l vp w) :
    Calls Tryd.prog 35 #[.pointer (some ⟨B, 0, none⟩)] w fun e w' => e = (if l = [] then .returned (.tuple #[]) else .panicked (pan21 22)) ∧ w' = w := by
  obtain ⟨lo, lc, hvl, hlc, -⟩ := id h.r
  subst hvl
  have z1 := at_16 h.c 1 _ rfl
  by_cases c : l = []
  · have l1 : ((l.length : Int) == 0) = true := by rw [c]; rfl
    rw [if_pos c]
    clear h c hlc
    go_enter Tryd.func35, Tryd.ntmps35
    go_wp2_with fail
    refine (askY21 22 w).mono ?_
    rintro e w1 ⟨rfl, hw1⟩
    replace hw1 := hw1.symm
    subst hw1
    go_wp2
    exact bodyPost_end (v := .tuple #[]) (by simp [results, Tryd.results35, go_sem]) rfl ⟨rfl, rfl⟩
  · have l1 : ((l.length : Int) == 0) = false := by
      have := List.length_pos_iff.mpr c
      simp; omega
    rw [if_neg c]
    have l2 : (l == []) = false := by cases l with | nil => exact absurd rfl c | cons => rfl
    clear h hlc
    go_enter Tryd.func35, Tryd.ntmps35
    go_wp2_with fail
    refine (askN21 22 w).mono ?_
    rintro e w1 ⟨rfl, hw1⟩
    replace hw1 := hw1.symm
    subst hw1
    exact ⟨rfl, rfl, rfl⟩
def LiQ21 (w0 : World) (B : Nat) (va : Value) (l : List Nat) (w : World) (e : Ending) (w' : World) : Prop :=
  (∃ L r vl' v', lsP (numN13 (l.take 4)) (l.drop 4) = some (L, r) ∧ e = .returned (.tuple #[]) ∧ PtN21 w.heap.size w' v' L ∧ RS21 w0 B va vl' r v' w' ∧ KR21 B w w') ∨ (lsP (numN13 (l.take 4)) (l.drop 4) = none ∧ e = .panicked (pan21 22) ∧ KR21 B w w')
set_option maxRecDepth 100000 in
set_option maxHeartbeats 4000000 in
theorem listS21 (w0 : World) (B : Nat) (va vl : Value) (l : List Nat) (vp : Value) (w : World) (h : RS21 w0 B va vl l vp w) (h4 : 4 ≤ l.length) :
    Calls Tryd.prog 34 #[.pointer (some ⟨B, 0, none⟩)] w fun e w' => LiQ21 w0 B va l w e w' := by
  have hmf : ∀ (fn : Fn) (first cap : Array Value) (w : World), (Instr.makeFunc fn first cap).run Tryd.prog w = .ok (.func fn first cap) w := fun _ _ _ _ => rfl
  obtain ⟨n, hn⟩ : ∃ n, n = numN13 (l.take 4) := ⟨_, rfl⟩
  have HN := hid13 hn
  have hlt : n < 4294967296 := by rw [hn]; exact numN4_lt l h.x
  have K1 := numY21 w0 B va vl l vp w h h4
  rw [← hn] at K1
  have HS := hid13 h
  have HL := hid13 hlt
  clear h h4 hn hlt
  go_enter Tryd.func34, Tryd.ntmps34
  go_wp2_with fail
  refine K1.mono ?_
  rintro e w1 ⟨vl1, rfl, hs1, hk1⟩
  have H1 := hid13 (And.intro hs1 hk1)
  have K2 := times21 w0 B va vl1 (l.drop 4) vp n w1 hs1 HL.out
  clear K1 hs1 hk1
  go_wp2_with fail
  refine K2.mono ?_
  rintro e w2 (⟨L, r, v', vl', he, rfl, hp2, hs2, hk2⟩ | ⟨he, rfl, hk2⟩)
  · have hz := hs2.c
    have z2 := at_16 hz 2 _ rfl
    have f2 := fr_16 (j := 2) hz
    have hpt : PtR21 w2 v' L := hp2 w2 (fun _ _ _ => rfl)
    obtain ⟨po, pc, hv'⟩ : ∃ o c, v' = .slice o L.length c := by obtain ⟨o, c, hh, -⟩ := hpt; exact ⟨o, c, hh⟩
    subst hv'
    have HF : Hid (LiQ21 w0 B va l w (.returned (.tuple #[])) (w2.setCell ⟨B, 2, none⟩ (.slice po L.length pc))) := by
      refine .inl ⟨L, r, vl', .slice po L.length pc, by rw [← HN.out]; exact he, rfl, ?_, ?_, (H1.out.2.trans hk2).set _⟩
      · intro W hW
        have hB : B < w.heap.size := HS.out.lt
        have hsz : w.heap.size ≤ w1.heap.size := H1.out.2.ot.1
        refine hp2 W (fun z h1 h2 => (hW z (by omega) (by simpa using h2)).trans (far_16 (by omega)))
      · exact ⟨hs2.b.setCell (p := ⟨B, 2, none⟩) hs2.s _, hs2.s, by have := set_16 (o := 2) hs2.c (.slice po L.length pc); simpa using this, hs2.r, hs2.a, hs2.x, hs2.n⟩
    clear K2 he hp2 hs2 hk2 hz hpt
    go_wp2
    exact bodyPost_end (v := .tuple #[]) (by simp [results, Tryd.results34, go_sem]) rfl HF.out
  · exact ⟨rfl, .inr ⟨by rw [← HN.out]; exact he, rfl, H1.out.2.trans hk2⟩⟩
end Go.Proofs.YtiachojhnbicaabDoor
