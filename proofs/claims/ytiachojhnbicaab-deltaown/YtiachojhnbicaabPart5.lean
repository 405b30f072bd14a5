/-
  Part 5 of the proof: 2 texts, one behind the other.
-/
import Derived.Test.YtiachojhnbicaabPart4
import Derived.Test.YtiachojhnbicaabPart2
import Derived.Test.YtiachojhnbicaabPart1
namespace Go.Proofs.Ytiachojhnbicaab
open Go.RowKit Go.Shelf
set_option linter.unusedSimpArgs false
set_option linter.unusedVariables false

theorem rowA_take21 {W : World} {ao : Option Addr} {n c z : Nat} {l : List Nat} (h : RowA W 1 (.slice ao n c) n (l.map cB)) (hz : z ≤ n) : RowA W 1 (.slice ao z c) z ((l.take z).map cB) := by
  have := rowA_mid21 (k := 0) (z := z) h (by omega)
  rw [List.drop_zero, Nat.zero_mul] at this
  have e : (if c = 0 then ao else ao.map (·.add 0)) = ao := by
    split
    · rfl
    · cases ao with
      | none => rfl
      | some p => simp [Addr.add]
  rw [e] at this
  exact this
theorem rowA_from21 {W : World} {ao : Option Addr} {n c k : Nat} {l : List Nat} (h : RowA W 1 (.slice ao n c) n (l.map cB)) (hk : k ≤ n) : RowA W 1 (.slice (if c = k then ao else ao.map (·.add (k * 1))) (n - k) (c - k)) (n - k) ((l.drop k).map cB) := by
  have hl : l.length = n := by have := h.1; rw [List.length_map, Nat.mul_one] at this; exact this
  have := rowA_mid21 (k := k) (z := n - k) h (by omega)
  rw [List.take_of_length_le (by rw [List.length_drop]; omega)] at this
  exact this
structure RP21 (base : Nat) (w0 : World) (PB : Nat) (cs : Array Value) (O x y : List Nat) (vo : Value) (f0 f5 f8 f9 : Bool) (g : Value × (Value × Value)) (X : World) : Prop where
  b : Below base w0 X
  s : base ≤ X.heap.size
  c : X.heap[PB]? = some (.cells cs 28)
  d0 : f5 = false → X.ownsRow base 5 1 vo O.length (O.map cB)
  d5 : f5 = true → f8 = false → X.ownsRow base 5 1 g.1 (O.length + x.length) ((O ++ x).map cB)
  d8 : f8 = true → X.ownsRow base 5 1 g.2.1 (O.length + x.length + y.length) ((O ++ x ++ y).map cB)
  d9 : f9 = true → X.ownsRow base 5 1 g.2.2 (O.length + x.length + y.length) ((O ++ x ++ y).map cB)
  p1 : f9 = true → f8 = true
  p2 : f8 = true → f5 = true
  p3 : f5 = true → f0 = true
set_option maxRecDepth 100000 in
set_option maxHeartbeats 16000000 in
theorem apply21 (u : Value) (a : List Nat) (v : Value) (L : List Pt) (w : World) (hA : RowA w 1 u a.length (a.map cB)) (hv : PtR21 w v L) (hl : L.length ≤ 140737488355328) (hw : a.length + wt21 L ≤ 140737480000000) :
    Calls Try.prog 8 #[u, v] w fun e w' => ∃ v', e = .returned (.tuple #[v', .int .i64 (apE a L)]) ∧ w'.ownsRow w.heap.size 5 1 v' (apL a L).length ((apL a L).map cB) ∧ Below w.heap.size w w' := by
  obtain ⟨i0, ji, jz0, jz1, jz2⟩ := info13 Try.infoB13
  obtain ⟨-, uo, uc, huf, huc, -⟩ := id hA
  obtain ⟨ao, c, hvf, -⟩ := id hv
  subst huf hvf
  have K1 := fit21 (a.length : Int) (.slice ao L.length c) L w (by omega) (by omega) hv hl
  have HA := hid13 hA
  have HT := hid13 hv
  have HL : Hid (L.length ≤ 140737488355328 ∧ a.length + wt21 L ≤ 140737480000000) := ⟨hl, hw⟩
  have HC : Hid (a.length ≤ uc) := huc
  clear hA hv hl hw huc
  cases hfb : fitB (a.length : Int) L with
  | false =>
    have HE : Hid (apE a L = 33 ∧ apL a L = []) := ⟨by unfold apE; rw [hfb]; rfl, by unfold apL; rw [hfb]; rfl⟩
    rw [hfb] at K1
    rw [HE.out.1, HE.out.2]
    clear hfb
    go_enter Try.func8, Try.ntmps8
    go_wp2_with fail
    refine K1.mono ?_
    rintro e w1 ⟨rfl, hb⟩
    have HB1 := hid13 hb
    clear hb K1
    go_wp2
    exact bodyPost_ret (v := .tuple #[.slice none 0 0, .int .i64 33]) (by simp [results, Try.results8, go_sem, *]) rfl ⟨_, rfl, World.ownsRow_nil _ _ _ _, HB1.out⟩
  | true =>
    have HF : Hid (fitB (a.length : Int) L = true) := hfb
    have HE : Hid (apE a L = 0 ∧ apL a L = (apS a L).1 ++ (apS a L).2) := ⟨by unfold apE; rw [hfb]; rfl, by unfold apL; rw [hfb]; rfl⟩
    rw [hfb] at K1
    rw [HE.out.1]
    clear hfb
    go_enter Try.func8, Try.ntmps8
    go_wp2_with fail
    refine K1.mono ?_
    rintro e w1 ⟨rfl, hb⟩
    have HB1 := hid13 hb
    clear hb K1
    go_wp2
    go_loopg [0, 6, 16] L.length (fun g va vo x wr => ∃ (k : Nat) (m : Nat) (O R : List Nat) (ro : Option Addr) (rc : Nat) (oo : Option Addr) (oc : Nat), k + g = L.length ∧ va = .slice ro R.length rc ∧ vo = .slice oo O.length oc ∧ x = .int .i64 (k : Int) ∧ Hid (R.length ≤ rc) ∧ Hid (apS a (L.take k) = (O, R) ∧ ftS (a.length : Int) (L.take k) = some (m : Int) ∧ R.length = m) ∧ Hid (RowA w 1 (.slice ro R.length rc) R.length (R.map cB)) ∧ Hid (wr.ownsRow w.heap.size 5 1 (.slice oo O.length oc) O.length (O.map cB)) ∧ Hid (Below w.heap.size w wr))
    case atStart => exact ⟨0, a.length, [], a, uo, uc, none, 0, by omega, rfl, rfl, rfl, HC.out, ⟨rfl, rfl, rfl⟩, HA.out, World.ownsRow_nil _ _ _ _, HB1.out⟩
    case round =>
      clear HB1
      obtain ⟨k, m, O, R, ro, rc, oo, oc, hk, rfl, rfl, rfl, HRc, HS, HR, HO, HB⟩ := hrel
      have hbd : ((O.length : Nat) : Int) + (R.length : Int) ≤ (a.length : Int) + (wt21 L : Nat) := by
        have h1 := apS_out a k L m HS.out.2.1
        have h2 := wt21_le (L := L) k
        rw [HS.out.1] at h1
        have h3 := HS.out.2.2
        show ((O.length : Nat) : Int) + _ ≤ _
        unfold wt21 at h2 ⊢
        simp only at h1
        omega
      by_cases hlt : k < L.length
      rotate_left 1
      · have l1 : ¬ (k : Int) < (L.length : Int) := by omega
        have HEa : Hid (apL a L = O ++ R) := by
          show _ = _
          rw [HE.out.2]
          have := HS.out.1
          rw [List.take_of_length_le (by omega)] at this
          rw [this]
        have HL2 : Hid (O.length + R.length ≤ 140737480000000) := by have := HL.out; show _ ≤ _; omega
        clear hlt hk hbd
        go_wp2_with (at_builtin; apply stopHere9)
        refine (show wpList _ _ _ _ _ _ from ?_)
        refine wpList_append_rowA rfl _ _ 22 rfl w.heap.size 5 i0 (.int .u8 0) 1 1 Try.underlying22 ji jz0 jz1 jz2 rfl (by decide) _ O.length (O.map cB) rfl HO.out _ R.length (R.map cB) rfl (HR.out.below HB.out) (cB_one R) (by have := HL2.out; unfold maxLen; omega) (by have := HL2.out; omega) HB.out.size ?_
        intro ao4 c4 w4 hO4 hg4
        have HB4 : Hid (Below w.heap.size w w4) := hid13 (HB.out.grown hg4 HB.out.size (fun z hz => (HO.out.lt z hz).1))
        have HO4 : Hid (w4.ownsRow w.heap.size 5 1 (.slice ao4 (O.length + R.length) c4) (O ++ R).length ((O ++ R).map cB)) := by
          rw [List.length_append, List.map_append]; exact hO4
        clear hO4 hg4 HO HR HB HS HRc
        go_wp2
        exact bodyPost_ret (v := .tuple #[.slice ao4 (O.length + R.length) c4, .int .i64 0]) (by simp [results, Try.results8, go_sem, *]) rfl ⟨_, rfl, by rw [HEa.out]; exact HO4.out, HB4.out⟩
      have l1 : (k : Int) < (L.length : Int) := by omega
      obtain ⟨p, hp⟩ : ∃ p, L[k]? = some p := ⟨L[k], by simp [hlt]⟩
      obtain ⟨b1, f1, xo, xc, hao, r0, r1, r2, -, hpx⟩ := ptr_at (HT.out.below HB.out) hp
      subst hao
      obtain ⟨hok, hnx⟩ := ftS_ok HF.out hp HS.out.2.1
      have hpx0 : RowA w 1 (.slice xo p.x.length xc) p.x.length (p.x.map cB) := by
        obtain ⟨b2, f2, yo, yc, e1, -, -, q2, -, q3⟩ := ptr_at HT.out hp
        have q4 := keepc HB.out q2
        injection e1 with e1
        injection e1 with e1 e2
        subst e1 e2
        rw [r2] at q4
        injection q4 with q4
        injection q4 with q5 q6 q7
        subst q5 q7
        exact q3
      obtain ⟨kp, hkp⟩ : ∃ z : Nat, p.k = (z : Int) := ⟨p.k.toNat, by have := hok.1; omega⟩
      obtain ⟨dp, hdp⟩ : ∃ z : Nat, p.d = (z : Int) := ⟨p.d.toNat, by have := hok.2.2.1; omega⟩
      have hkm : kp + dp ≤ R.length := by have h1 := hok.2.1; have h2 := hok.2.2.2; have := HS.out.2.2; omega
      have hap : apS a (L.take (k + 1)) = (O ++ R.take kp ++ p.x, R.drop (kp + dp)) := by
        rw [apS_take hp, HS.out.1]
        unfold apF
        dsimp only
        rw [show (p.k + p.d).toNat = kp + dp by omega, show p.k.toNat = kp by omega]
      have hwx : wt21 (L.take (k + 1)) = wt21 (L.take k) + p.x.length := wt21_take hp
      have hbd2 : O.length + kp + p.x.length ≤ 140737480000000 := by
        have h1 := apS_out a (k + 1) L _ hnx
        have h2 := wt21_le (L := L) (k + 1)
        rw [hap] at h1
        unfold wt21 at h2
        simp only [List.length_append, List.length_take] at h1
        have h4 := HL.out.2
        unfold wt21 at h4
        have h5 : min kp R.length = kp := by omega
        rw [h5] at h1
        have h6 : 0 ≤ (m : Int) - p.k - p.d := by have := hok.2.2.2; omega
        omega
      rw [hkp] at r0
      rw [hdp] at r1
      have wk : IntKind.i64.wrap ((k : Int) + 1) = (k : Int) + 1 := by rw [IntKind.wrap_i64]; have := HL.out; omega
      have wd : IntKind.i64.wrap ((kp : Int) + (dp : Int)) = ((kp + dp : Nat) : Int) := by rw [IntKind.wrap_i64]; have := HL.out; omega
      have hrl : R.length ≤ rc := HRc.out
      have HS1 : Hid (∀ X, Sem.run Try.prog (Instr.sliceAt 22 (.slice ro R.length rc) none (some (.int .i64 (kp : Int))) none) X = .ok (.slice ro kp rc) X) := fun X => run_slice_to (P := Try.prog) (w := X) Try.underlying22 ji ro R.length rc kp (by omega)
      have hs2 : ∀ X, Sem.run Try.prog (Instr.sliceAt 22 (.slice ro R.length rc) (some (.int .i64 ((kp + dp : Nat) : Int))) none none) X = .ok (.slice (if rc = kp + dp then ro else ro.map (·.add ((kp + dp) * 1))) (R.length - (kp + dp)) (rc - (kp + dp))) X := fun X => run_slice_from (P := Try.prog) (w := X) Try.underlying22 ji jz1 ro R.length rc (kp + dp) (by omega)
      obtain ⟨q, hq⟩ : ∃ q : Nat, q = kp + dp := ⟨_, rfl⟩
      rw [← hq] at hs2 wd hap hkm
      obtain ⟨x, hx⟩ : ∃ x, x = R.take kp := ⟨_, rfl⟩
      have hxl : x.length = kp := by rw [hx, List.length_take]; omega
      have HX1 : Hid (RowA w 1 (.slice ro kp rc) x.length (x.map cB)) := by rw [hxl, hx]; exact rowA_take21 HR.out (by omega)
      have HX2 : Hid (RowA w 1 (.slice xo p.x.length xc) p.x.length (p.x.map cB)) := hpx0
      have HR2 : Hid (RowA w 1 (.slice (if rc = q then ro else ro.map (·.add (q * 1))) (R.length - q) (rc - q)) (R.length - q) ((R.drop q).map cB)) := rowA_from21 HR.out (by omega)
      have HN : Hid (apS a (L.take (k + 1)) = (O ++ x ++ p.x, R.drop q) ∧ ftS (a.length : Int) (L.take (k + 1)) = some ((m - kp - dp : Nat) : Int) ∧ (R.drop q).length = m - kp - dp ∧ R.length - q = (R.drop q).length ∧ k < L.length ∧ k + gk = L.length ∧ q ≤ rc ∧ (R.drop q).length ≤ rc - q) := by
        have h3 := HS.out.2.2
        refine ⟨by rw [hx]; exact hap, by rw [hnx, hkp, hdp]; congr 1; omega, by rw [List.length_drop]; omega, by rw [List.length_drop], hlt, hk, by omega, by rw [List.length_drop]; omega⟩
      have HLx : Hid (O.length + x.length + p.x.length ≤ 140737480000000) := by show _ ≤ _; omega
      have q1 := bl1 wr (.cells #[.int .i64 (kp : Int), .int .i64 (dp : Int), .slice xo p.x.length xc] 28)
      obtain ⟨W1, hW1⟩ : ∃ W1, W1 = wr.alloc (.cells #[.int .i64 (kp : Int), .int .i64 (dp : Int), .slice xo p.x.length xc] 28) := ⟨_, rfl⟩
      have hcb : W1.heap[wr.heap.size]? = some (.cells #[.int .i64 (kp : Int), .int .i64 (dp : Int), .slice xo p.x.length xc] 28) := by rw [hW1]; exact new_16 _ _
      rw [← hW1] at q1
      have HR0 : Hid (RP21 w.heap.size w wr.heap.size #[.int .i64 (kp : Int), .int .i64 (dp : Int), .slice xo p.x.length xc] O x p.x (.slice oo O.length oc) false false false false (undef, (undef, undef)) W1.drew) := by
        have q2 := (keepb q1 HB.out)
        exact ⟨q2.drew, q2.drew.size, hcb, fun _ => own_b13 (q1.trans (Below.refl _ _).drew) HO.out, fun q => (by cases q), fun q => (by cases q), fun q => (by cases q), fun q => (by cases q), fun q => (by cases q), fun q => (by cases q)⟩
      generalize hzo : (if rc = q then ro else ro.map (·.add (q * 1))) = zro at *
      clear hp hlt hk HS HR HO hok hnx hpx hpx0 hkp hdp hkm hap hwx hbd hbd2 hx hxl hq q1 hcb hzo HRc hrl HF
      go_wp2_with fail
      rw [← hW1]
      clear hW1 HB
      refine gh_region (γ := Value × (Value × Value)) (qpOk 10 10 (by decide) (fun N => by kernel_rfl) (by kernel_rfl) (by kernel_rfl) (by kernel_rfl) (by kernel_rfl)) (by kernel_rfl) (by kernel_rfl) [some 20, some 21, some 22, some 23, some 24, some 25, some 26, some 27, some 28, some 6] (fun g => [.slice oo O.length oc, .slice ro R.length rc, .pointer (some ⟨wr.heap.size, 0, none⟩), .int .i64 (kp : Int), .slice ro kp rc, g.1, .pointer (some ⟨wr.heap.size, 2, none⟩), .slice xo p.x.length xc, g.2.1, g.2.2]) (by kernel_rfl) (by simp) (fun lp g X => RP21 w.heap.size w wr.heap.size #[.int .i64 (kp : Int), .int .i64 (dp : Int), .slice xo p.x.length xc] O x p.x (.slice oo O.length oc) (lp.getD 0 false) (lp.getD 5 false) (lp.getD 8 false) (lp.getD 9 false) g X) (undef, (undef, undef)) HR0.out ?step7 ?fin7
      case step7 =>
        intro q o lp g w' a' ho hsz hun hdep hR hS K Q' hK
        have hfl : ∀ j, j ≠ q → (lp.setIfInBounds q true).getD j false = lp.getD j false := fun j hj => by rw [Array.getD_eq_getD_getElem?, Array.getD_eq_getD_getElem?, Array.getElem?_setIfInBounds_ne (by omega)]
        have hq : q < 10 := (List.getElem?_eq_some_iff.mp ho).1
        match q, ho, hun, hdep, hK, hfl, hq with
        | 0, ho, hun, hdep, hK, hfl, _ =>
          obtain rfl := Option.some.inj ho
          have n9 : lp.getD 9 false = false := by
            cases h : lp.getD 9 false with
            | false => rfl
            | true => have := hR.p3 (hR.p2 (hR.p1 h)); rw [hun] at this; cases this
          have o6 : a'.tmps[6]? = some (.slice oo O.length oc) := (hS.oth 6 (fun k' ok hk hl e => by have := dstG_of (by kernel_rfl) k' 9 ok _ 6 hk rfl e rfl; subst this; rw [n9] at hl; cases hl)).trans rfl
          have hK' := hK g w' (fun _ _ _ _ _ _ => rfl) (by rw [hfl 5 (by decide), hfl 8 (by decide), hfl 9 (by decide), getD_set_same (by rw [hsz]; decide)]; exact ⟨hR.b, hR.s, hR.c, hR.d0, hR.d5, hR.d8, hR.d9, hR.p1, hR.p2, fun _ => rfl⟩) (.slice oo O.length oc) (by simp only [valO, Option.bind_some]; simp only [putAll, Act.put, List.setIfInBounds_toArray, List.set_cons_zero, List.set_cons_succ]; rfl)
          clear hS hdep hR
          refine gh_quiet14 (v := .slice oo O.length oc) ?_ ?_
          · (simp only [execOp, Act.eval, o6]; go_simp; first | done | (simp; done))
          · exact hK'
        | 1, ho, hun, hdep, hK, hfl, _ =>
          obtain rfl := Option.some.inj ho
          have o0 : a'.tmps[0]? = some (.slice ro R.length rc) := (hS.old14 0 (by simp)).trans rfl
          have hK' := hK g w' (fun _ _ _ _ _ _ => rfl) (by rw [hfl 0 (by decide), hfl 5 (by decide), hfl 8 (by decide), hfl 9 (by decide)]; exact hR) (.slice ro R.length rc) (by simp only [valO, Option.bind_some]; (try simp only [putAll, Act.put, List.setIfInBounds_toArray, List.set_cons_zero, List.set_cons_succ]); (try rfl))
          clear hS hdep hR
          refine gh_quiet14 (v := .slice ro R.length rc) ?_ ?_
          · (simp only [execOp, Act.eval, o0]; go_simp; first | done | (simp; done) | (simp [*]; done) | omega | (rw [IntKind.wrap_i64]; omega))
          · exact hK'
        | 2, ho, hun, hdep, hK, hfl, _ =>
          obtain rfl := Option.some.inj ho
          have o8 : a'.tmps[8]? = some (.pointer (some ⟨wr.heap.size, 0, none⟩)) := (hS.old14 8 (by simp)).trans rfl
          have hK' := hK g w' (fun _ _ _ _ _ _ => rfl) (by rw [hfl 0 (by decide), hfl 5 (by decide), hfl 8 (by decide), hfl 9 (by decide)]; exact hR) (.pointer (some ⟨wr.heap.size, 0, none⟩)) (by simp only [valO, Option.bind_some]; (try simp only [putAll, Act.put, List.setIfInBounds_toArray, List.set_cons_zero, List.set_cons_succ]); (try rfl))
          clear hS hdep hR
          refine gh_quiet14 (v := .pointer (some ⟨wr.heap.size, 0, none⟩)) ?_ ?_
          · (simp only [execOp, Act.eval, o8]; go_simp; first | done | (simp; done) | (simp [*]; done) | omega | (rw [IntKind.wrap_i64]; omega))
          · exact hK'
        | 3, ho, hun, hdep, hK, hfl, _ =>
          obtain rfl := Option.some.inj ho
          have d2 : lp.getD 2 false = true := hdep { on := 2, ground := .data } (by simp) rfl
          have e22 : a'.tmps[22]? = some (.pointer (some ⟨wr.heap.size, 0, none⟩)) := (hS.don 2 _ 22 rfl d2 rfl).trans (by simp only [putAll, Act.put, List.setIfInBounds_toArray, List.set_cons_zero, List.set_cons_succ]; rfl)
          have z0 := at_16 hR.c 0 _ rfl
          have z1 := at_16 hR.c 1 _ rfl
          have z2 := at_16 hR.c 2 _ rfl
          have hK' := hK g w' (fun _ _ _ _ _ _ => rfl) (by rw [hfl 0 (by decide), hfl 5 (by decide), hfl 8 (by decide), hfl 9 (by decide)]; exact hR) (.int .i64 (kp : Int)) (by simp only [valO, Option.bind_some]; (try simp only [putAll, Act.put, List.setIfInBounds_toArray, List.set_cons_zero, List.set_cons_succ]); (try rfl))
          clear hS hdep hR
          refine gh_quiet14 (v := .int .i64 (kp : Int)) ?_ ?_
          · (simp only [execOp, Act.eval, e22]; go_simp; first | done | (simp; done) | (simp [*]; done) | omega | (rw [IntKind.wrap_i64]; omega))
          · exact hK'
        | 4, ho, hun, hdep, hK, hfl, _ =>
          obtain rfl := Option.some.inj ho
          have d1 : lp.getD 1 false = true := hdep { on := 1, ground := .data } (by simp) rfl
          have e21 : a'.tmps[21]? = some (.slice ro R.length rc) := (hS.don 1 _ 21 rfl d1 rfl).trans (by simp only [putAll, Act.put, List.setIfInBounds_toArray, List.set_cons_zero, List.set_cons_succ]; rfl)
          have d3 : lp.getD 3 false = true := hdep { on := 3, ground := .data } (by simp) rfl
          have e23 : a'.tmps[23]? = some (.int .i64 (kp : Int)) := (hS.don 3 _ 23 rfl d3 rfl).trans (by simp only [putAll, Act.put, List.setIfInBounds_toArray, List.set_cons_zero, List.set_cons_succ]; rfl)
          have hK' := hK g w' (fun _ _ _ _ _ _ => rfl) (by rw [hfl 0 (by decide), hfl 5 (by decide), hfl 8 (by decide), hfl 9 (by decide)]; exact hR) (.slice ro kp rc) (by simp only [valO, Option.bind_some]; simp only [putAll, Act.put, List.setIfInBounds_toArray, List.set_cons_zero, List.set_cons_succ]; rfl)
          clear hS hdep hR
          refine gh_quiet14 (v := .slice ro kp rc) ?_ ?_
          · (simp only [execOp, Act.eval, Option.map_some, Option.map_none, Array.getD_eq_getD_getElem?, e21, e23, Option.getD_some]; exact ex17 (HS1.out w'))
          · exact hK'
        | 5, ho, hun, hdep, hK, hfl, _ =>
          obtain rfl := Option.some.inj ho
          have d0 : lp.getD 0 false = true := hdep { on := 0, ground := .data } (by simp) rfl
          have e20 : a'.tmps[20]? = some (.slice oo O.length oc) := (hS.don 0 _ 20 rfl d0 rfl).trans (by simp only [putAll, Act.put, List.setIfInBounds_toArray, List.set_cons_zero, List.set_cons_succ]; rfl)
          have d4 : lp.getD 4 false = true := hdep { on := 4, ground := .data } (by simp) rfl
          have e24 : a'.tmps[24]? = some (.slice ro kp rc) := (hS.don 4 _ 24 rfl d4 rfl).trans (by simp only [putAll, Act.put, List.setIfInBounds_toArray, List.set_cons_zero, List.set_cons_succ]; rfl)
          have n8 : lp.getD 8 false = false := by
            cases h : lp.getD 8 false with
            | false => rfl
            | true => have := hR.p2 h; rw [hun] at this; cases this
          have n9 : lp.getD 9 false = false := by
            cases h : lp.getD 9 false with
            | false => rfl
            | true => have := hR.p2 (hR.p1 h); rw [hun] at this; cases this
          have hO := hR.d0 hun
          obtain ⟨zo, zc, hzv⟩ := own_form hO
          refine wp_append_rowA (.tmp 20) (.tmp 24) 22 rfl w.heap.size 5 i0 (.int .u8 0) 1 1 Try.underlying22 ji jz0 jz1 jz2 rfl (by decide) _ (O.length) (O.map cB) (by simp [Act.eval, e20]) hO _ x.length (x.map cB) (by simp [Act.eval, e24]) (HX1.out.below hR.b) (cB_one _) (by have := HLx.out; unfold maxLen; omega) (by have := HLx.out; omega) hR.s ?_
          intro aoN cN wN hON hgN
          have hbN : Below w.heap.size w wN := hR.b.grown hgN hR.s (fun z hz => (hO.lt z hz).1)
          have hsN : w.heap.size ≤ wN.heap.size := hbN.size
          have hcN : wN.heap[wr.heap.size]? = some (.cells #[.int .i64 (kp : Int), .int .i64 (dp : Int), .slice xo p.x.length xc] 28) := (hgN.block _ (lt_16 hR.c) (fun e => own_not18 hO hR.c (by decide) e.symm)).trans hR.c
          exact hK (.slice aoN (O.length + x.length) cN, g.2) wN (fun k' ok s hk hl hd => gh_same14 (d := 25) (s := s) (by simp only [putAll, Act.put, List.setIfInBounds_toArray, List.set_cons_zero, List.set_cons_succ]; rfl) (by rintro rfl; have := dstG_of (by kernel_rfl) k' 5 ok _ 25 hk rfl hd rfl; subst this; rw [hun] at hl; cases hl)) (by rw [hfl 0 (by decide), hfl 8 (by decide), hfl 9 (by decide), getD_set_same (by rw [hsz]; decide)]; exact ⟨hbN, hsN, hcN, fun h => (by cases h), fun _ _ => (by rw [List.map_append]; exact hON), fun h1 => (by rw [n8] at h1; cases h1), fun h1 => (by rw [n9] at h1; cases h1), hR.p1, fun _ => rfl, fun _ => d0⟩) _ (by simp only [valO, Option.bind_some]; simp only [putAll, Act.put, List.setIfInBounds_toArray, List.set_cons_zero, List.set_cons_succ]; rfl)
        | 6, ho, hun, hdep, hK, hfl, _ =>
          obtain rfl := Option.some.inj ho
          have o8 : a'.tmps[8]? = some (.pointer (some ⟨wr.heap.size, 0, none⟩)) := (hS.old14 8 (by simp)).trans rfl
          have hK' := hK g w' (fun _ _ _ _ _ _ => rfl) (by rw [hfl 0 (by decide), hfl 5 (by decide), hfl 8 (by decide), hfl 9 (by decide)]; exact hR) (.pointer (some ⟨wr.heap.size, 2, none⟩)) (by simp only [valO, Option.bind_some]; (try simp only [putAll, Act.put, List.setIfInBounds_toArray, List.set_cons_zero, List.set_cons_succ]); (try rfl))
          clear hS hdep hR
          refine gh_quiet14 (v := .pointer (some ⟨wr.heap.size, 2, none⟩)) ?_ ?_
          · (simp only [execOp, Act.eval, o8]; go_simp; first | done | (simp; done) | (simp [*]; done) | omega | (rw [IntKind.wrap_i64]; omega))
          · exact hK'
        | 7, ho, hun, hdep, hK, hfl, _ =>
          obtain rfl := Option.some.inj ho
          have d6 : lp.getD 6 false = true := hdep { on := 6, ground := .data } (by simp) rfl
          have e26 : a'.tmps[26]? = some (.pointer (some ⟨wr.heap.size, 2, none⟩)) := (hS.don 6 _ 26 rfl d6 rfl).trans (by simp only [putAll, Act.put, List.setIfInBounds_toArray, List.set_cons_zero, List.set_cons_succ]; rfl)
          have z0 := at_16 hR.c 0 _ rfl
          have z1 := at_16 hR.c 1 _ rfl
          have z2 := at_16 hR.c 2 _ rfl
          have hK' := hK g w' (fun _ _ _ _ _ _ => rfl) (by rw [hfl 0 (by decide), hfl 5 (by decide), hfl 8 (by decide), hfl 9 (by decide)]; exact hR) (.slice xo p.x.length xc) (by simp only [valO, Option.bind_some]; (try simp only [putAll, Act.put, List.setIfInBounds_toArray, List.set_cons_zero, List.set_cons_succ]); (try rfl))
          clear hS hdep hR
          refine gh_quiet14 (v := .slice xo p.x.length xc) ?_ ?_
          · (simp only [execOp, Act.eval, e26]; go_simp; first | done | (simp; done) | (simp [*]; done) | omega | (rw [IntKind.wrap_i64]; omega))
          · exact hK'
        | 8, ho, hun, hdep, hK, hfl, _ =>
          obtain rfl := Option.some.inj ho
          have d5 : lp.getD 5 false = true := hdep { on := 5, ground := .data } (by simp) rfl
          have e25 : a'.tmps[25]? = some (g.1) := (hS.don 5 _ 25 rfl d5 rfl).trans (by simp only [putAll, Act.put, List.setIfInBounds_toArray, List.set_cons_zero, List.set_cons_succ]; rfl)
          have d7 : lp.getD 7 false = true := hdep { on := 7, ground := .data } (by simp) rfl
          have e27 : a'.tmps[27]? = some (.slice xo p.x.length xc) := (hS.don 7 _ 27 rfl d7 rfl).trans (by simp only [putAll, Act.put, List.setIfInBounds_toArray, List.set_cons_zero, List.set_cons_succ]; rfl)
          have n9 : lp.getD 9 false = false := by
            cases h : lp.getD 9 false with
            | false => rfl
            | true => have := hR.p1 h; rw [hun] at this; cases this
          have hO := hR.d5 d5 hun
          obtain ⟨zo, zc, hzv⟩ := own_form hO
          refine wp_append_rowA (.tmp 25) (.tmp 27) 22 rfl w.heap.size 5 i0 (.int .u8 0) 1 1 Try.underlying22 ji jz0 jz1 jz2 rfl (by decide) _ (O.length + x.length) ((O ++ x).map cB) (by simp [Act.eval, e25]) hO _ p.x.length (p.x.map cB) (by simp [Act.eval, e27]) (HX2.out.below hR.b) (cB_one _) (by have := HLx.out; unfold maxLen; omega) (by have := HLx.out; omega) hR.s ?_
          intro aoN cN wN hON hgN
          have hbN : Below w.heap.size w wN := hR.b.grown hgN hR.s (fun z hz => (hO.lt z hz).1)
          have hsN : w.heap.size ≤ wN.heap.size := hbN.size
          have hcN : wN.heap[wr.heap.size]? = some (.cells #[.int .i64 (kp : Int), .int .i64 (dp : Int), .slice xo p.x.length xc] 28) := (hgN.block _ (lt_16 hR.c) (fun e => own_not18 hO hR.c (by decide) e.symm)).trans hR.c
          exact hK (g.1, (.slice aoN (O.length + x.length + p.x.length) cN, g.2.2)) wN (fun k' ok s hk hl hd => gh_same14 (d := 28) (s := s) (by simp only [putAll, Act.put, List.setIfInBounds_toArray, List.set_cons_zero, List.set_cons_succ]; rfl) (by rintro rfl; have := dstG_of (by kernel_rfl) k' 8 ok _ 28 hk rfl hd rfl; subst this; rw [hun] at hl; cases hl)) (by rw [hfl 0 (by decide), hfl 5 (by decide), hfl 9 (by decide), getD_set_same (by rw [hsz]; decide)]; exact ⟨hbN, hsN, hcN, fun h => (by rw [d5] at h; cases h), fun _ h => (by cases h), fun _ => (by rw [List.map_append]; exact hON), fun h1 => (by rw [n9] at h1; cases h1), fun _ => rfl, fun _ => d5, hR.p3⟩) _ (by simp only [valO, Option.bind_some]; simp only [putAll, Act.put, List.setIfInBounds_toArray, List.set_cons_zero, List.set_cons_succ]; rfl)
        | 9, ho, hun, hdep, hK, hfl, _ =>
          obtain rfl := Option.some.inj ho
          have d8 : lp.getD 8 false = true := hdep { on := 8, ground := .data } (by simp) rfl
          have e28 : a'.tmps[28]? = some (g.2.1) := (hS.don 8 _ 28 rfl d8 rfl).trans (by simp only [putAll, Act.put, List.setIfInBounds_toArray, List.set_cons_zero, List.set_cons_succ]; rfl)
          have hK' := hK (g.1, (g.2.1, g.2.1)) w' (fun k' ok s hk hl hd => gh_same14 (d := 6) (s := s) (by simp only [putAll, Act.put, List.setIfInBounds_toArray, List.set_cons_zero, List.set_cons_succ]; rfl) (by rintro rfl; have := dstG_of (by kernel_rfl) k' 9 ok _ 6 hk rfl hd rfl; subst this; rw [hun] at hl; cases hl)) (by rw [hfl 0 (by decide), hfl 5 (by decide), hfl 8 (by decide), getD_set_same (by rw [hsz]; decide)]; exact ⟨hR.b, hR.s, hR.c, hR.d0, hR.d5, hR.d8, fun _ => hR.d8 d8, fun _ => d8, hR.p2, hR.p3⟩) g.2.1 (by simp only [valO, Option.bind_some]; simp only [putAll, Act.put, List.setIfInBounds_toArray, List.set_cons_zero, List.set_cons_succ]; rfl)
          clear hS hdep hR hK
          refine gh_quiet14 (v := g.2.1) ?_ ?_
          · (simp only [execOp, Act.eval, e28]; go_simp; first | done | (simp; done) | (simp [*]; done))
          · exact hK'
        | n + 10, ho, hun, hdep, hK, hfl, hq => exact absurd hq (by omega)
      case fin7 =>
        intro g X hX
        have h9 := hX.d9 rfl
        have hcX := hX.c
        have HBX : Hid (Below w.heap.size w X) := hX.b
        simp only [putAll, Act.put, List.setIfInBounds_toArray, List.set_cons_zero, List.set_cons_succ]
        obtain ⟨vb, hvb⟩ : ∃ vb, vb = g.2.2 := ⟨_, rfl⟩
        rw [← hvb] at h9 ⊢
        clear hX hvb HR0 HS1 HX1 HX2
        obtain ⟨zo, zc, hzv⟩ := own_form h9
        subst hzv
        have hlen : O.length + x.length + p.x.length = (O ++ x ++ p.x).length := by rw [List.length_append, List.length_append]
        rw [hlen] at h9 ⊢
        have HO := hid13 h9
        obtain ⟨O2, hO2⟩ : ∃ O2, O2 = O ++ x ++ p.x := ⟨_, rfl⟩
        rw [← hO2] at HO ⊢
        have HN2 : Hid (apS a (L.take (k + 1)) = (O2, R.drop q)) := by rw [hO2]; exact HN.out.1
        clear hO2
        have z0 : X.cell? ⟨wr.heap.size, 0, none⟩ = some (.int .i64 (kp : Int)) := at_16 hcX 0 _ rfl
        have z1 : X.cell? ⟨wr.heap.size, 1, none⟩ = some (.int .i64 (dp : Int)) := at_16 hcX 1 _ rfl
        clear h9 hcX hlen
        rw [HN.out.2.2.2.1] at hs2
        rw [HN.out.2.2.2.1] at HR2
        go_wp2
        go_roundg (gk - 1)
        case measure => have := HN.out; omega
        case rel => exact ⟨k + 1, m - kp - dp, O2, R.drop q, zro, rc - q, zo, zc, by have := HN.out; omega, by rw [List.length_drop], rfl, rfl, HN.out.2.2.2.2.2.2.2, ⟨HN2.out, HN.out.2.1, HN.out.2.2.1⟩, HR2, HO, HBX⟩
end Go.Proofs.Ytiachojhnbicaab
namespace Go.Proofs.Ytiachojhnbicaab
set_option linter.unusedSimpArgs false
set_option linter.unusedVariables false

theorem df_bring (a b : List Nat) : ((dfL a b).map fun p => p.x.length).sum = if a = b then 0 else b.length - dfK a b - dfT a b := by
  unfold dfL
  split
  · rfl
  · simp only [List.map_cons, List.map_nil, List.sum_cons, List.sum_nil, Nat.add_zero]
    exact dfX_len a b
theorem dfL_len (a b : List Nat) : (dfL a b).length = if a = b then 0 else 1 := by
  unfold dfL
  split <;> rfl
end Go.Proofs.Ytiachojhnbicaab
