/-
  Part 10 of the proof: 1 texts, one behind the other.
-/
import Derived.Test.YtbgoclfifhdonaaPart9
import Derived.Test.YtbgoclfifhdonaaPart8
import Derived.Test.YtbgoclfifhdonaaPart4
namespace Go.Proofs.Ytbgoclfifhdonaa
open Go.RowKit
set_option linter.unusedSimpArgs false
set_option linter.unusedVariables false

structure Bx9 (w : World) (x u : BitVec 128) (W : World) : Prop where
  lo : Below w.heap.size w W
  a : W.heap[w.heap.size]? = some (.cells #[.int .u64 (hI x), .int .u64 (lI x)] 25)
  b : W.heap[w.heap.size + 1]? = some (.cells #[.int .u64 (hI u), .int .u64 (lI u)] 25)
section
variable {w W W' : World} {x u : BitVec 128}
theorem Bx9.below (h : Bx9 w x u W) (hb : Below W.heap.size W W') : Bx9 w x u W' := ⟨h.lo.trans (hb.mono h.lo.size), (hb.block _ (lt_16 h.a)).trans h.a, (hb.block _ (lt_16 h.b)).trans h.b⟩
theorem Bx9.setA (h : Bx9 w x u W) (y : BitVec 128) : Bx9 w y u ((W.setCell ⟨w.heap.size, 0, none⟩ (.int .u64 (hI y))).setCell ⟨w.heap.size, 1, none⟩ (.int .u64 (lI y))) :=
  ⟨(h.lo.setCell (p := ⟨w.heap.size, 0, none⟩) (Nat.le_refl _) _).setCell (p := ⟨w.heap.size, 1, none⟩) (Nat.le_refl _) _, by rw [set_16 (set_16 h.a _) _]; rfl, (far_16 (by omega)).trans ((far_16 (by omega)).trans h.b)⟩
theorem Bx9.setB (h : Bx9 w x u W) (y : BitVec 128) : Bx9 w x y ((W.setCell ⟨w.heap.size + 1, 0, none⟩ (.int .u64 (hI y))).setCell ⟨w.heap.size + 1, 1, none⟩ (.int .u64 (lI y))) :=
  ⟨(h.lo.setCell (p := ⟨w.heap.size + 1, 0, none⟩) (Nat.le_succ _) _).setCell (p := ⟨w.heap.size + 1, 1, none⟩) (Nat.le_succ _) _, (far_16 (by omega)).trans ((far_16 (by omega)).trans h.a), by rw [set_16 (set_16 h.b _) _]; rfl⟩
theorem Bx9.ca (h : Bx9 w x u W) : W.cell? ⟨w.heap.size, 0, none⟩ = some (.int .u64 (hI x)) ∧ W.cell? ⟨w.heap.size, 1, none⟩ = some (.int .u64 (lI x)) ∧ W.frozen? ⟨w.heap.size, 0, none⟩ = false ∧ W.frozen? ⟨w.heap.size, 1, none⟩ = false := ⟨at_16 h.a 0 _ rfl, at_16 h.a 1 _ rfl, fr_16 h.a, fr_16 h.a⟩
theorem Bx9.cb (h : Bx9 w x u W) : W.cell? ⟨w.heap.size + 1, 0, none⟩ = some (.int .u64 (hI u)) ∧ W.cell? ⟨w.heap.size + 1, 1, none⟩ = some (.int .u64 (lI u)) ∧ W.frozen? ⟨w.heap.size + 1, 0, none⟩ = false ∧ W.frozen? ⟨w.heap.size + 1, 1, none⟩ = false := ⟨at_16 h.b 0 _ rfl, at_16 h.b 1 _ rfl, fr_16 h.b, fr_16 h.b⟩
end
theorem all_h : hI (BitVec.allOnes 128) = 18446744073709551615 := by decide
theorem all_l : lI (BitVec.allOnes 128) = 18446744073709551615 := by decide
theorem an_h (x y : BitVec 128) : bits .andNot .u64 (hI x) (hI y) = hI (x &&& ~~~y) := by
  unfold hI
  refine bits64andNot _ _ _ ?_
  rw [hv_and, hv_not]
  first | rfl | (congr 1; done) | (congr 1; rw [BitVec.allOnes_xor])
theorem an_l (x y : BitVec 128) : bits .andNot .u64 (lI x) (lI y) = lI (x &&& ~~~y) := by
  unfold lI
  refine bits64andNot _ _ _ ?_
  rw [lv_and, lv_not]
  first | rfl | (congr 1; done) | (congr 1; rw [BitVec.allOnes_xor])
theorem field0_19 (a b : Int) (w : World) : (Instr.field 25 (.agg #[.int .u64 a, .int .u64 b]) 0).run Try.prog w = .ok (.int .u64 a) w := by first | kernel_rfl | rfl
theorem field1_19 (a b : Int) (w : World) : (Instr.field 25 (.agg #[.int .u64 a, .int .u64 b]) 1).run Try.prog w = .ok (.int .u64 b) w := by first | kernel_rfl | rfl
structure RX19 (w Wb : World) (x u : BitVec 128) (P Q : Nat) (m : Mc) (xx y : BitVec 128) (fa fs : Bool) (g : Nat) (X : World) : Prop where
  b : Bx9 w x u X
  lo : Below Wb.heap.size Wb X
  l : fa = true → fs = false → X.heap[g]? = some (.cells #[.int .u64 0, .int .u64 0] 25) ∧ Wb.heap.size ≤ g
  s : fs = true → X.heap[g]? = some (.cells #[.int .u64 (hI y), .int .u64 (lI y)] 25) ∧ Wb.heap.size ≤ g
  p : fs = true → fa = true
set_option maxRecDepth 20000 in
set_option maxHeartbeats 16000000 in
theorem vmBits_any (six : Bool) (v : Value) (l : List Nat) (x u : BitVec 128) (w : World) (hA : RowA w 1 v l.length (l.map cB)) (hR : RwX cB w v l) (hx : ∀ b ∈ l, b < 256) :
    Calls Try.prog 7 #[.bool six, v, .agg #[.int .u64 (hI x), .int .u64 (lI x)], .agg #[.int .u64 (hI u), .int .u64 (lI u)]] w fun e w' => e = .returned (.bool true) ∧ Below w.heap.size w w' := by
  obtain ⟨ao, cc, rfl, -⟩ := id hR
  obtain ⟨V, hV⟩ : ∃ V, V = (w.alloc (.cells #[.int .u64 (hI x), .int .u64 (lI x)] 25)).alloc (.cells #[.int .u64 (hI u), .int .u64 (lI u)] 25) := ⟨_, rfl⟩
  have HB : Hid (Bx9 w x u V) := by
    have q1 := bl1 w (.cells #[.int .u64 (hI x), .int .u64 (lI x)] 25)
    have hs : (w.alloc (.cells #[.int .u64 (hI x), .int .u64 (lI x)] 25)).heap.size = w.heap.size + 1 := by simp
    refine ⟨by rw [hV]; exact keepb (bl1 _ _) q1, by rw [hV]; exact old_16 _ (new_16 _ _), ?_⟩
    rw [hV, ← hs]; exact new_16 _ _
  have K0 := known19 V
  have HA := hid13 (And.intro hR hx)
  clear hA hR hx
  by_cases hl : l.length ≤ 32768
  · have n1 : ¬ ((l.length : Int) > 32768) := by omega
    have n1' : ¬ (32768 < (l.length : Int)) := by omega
    have HL := hid13 hl
    have K8 : ∀ F : Int, F = 32 ∨ F = 128 → ∀ W, Calls Try.prog 19 #[.agg #[.int .u64 (hI x), .int .u64 (lI x)], .int .i64 F] W fun e w' => e = .returned (.agg #[.int .u64 (hI (fsW x F)), .int .u64 (lI (fsW x F))]) ∧ Below W.heap.size W w' := fun F hF W => first19 x F W (by omega)
    clear hl
    cases six with
    | false =>
      go_enter Try.func7, Try.ntmps7
      go_wp2_with fail
      rw [← hV]
      clear hV
      refine K0.mono ?_
      rintro e W0 ⟨rfl, hb0⟩
      have HB0 := hid13 (HB.out.below hb0)
      obtain ⟨a0, a1, a2, a3⟩ := HB0.out.ca
      clear K0 hb0 HB
      go_wp2_with fail
      obtain ⟨F, hFd, hF⟩ : ∃ F : Int, F = 32 ∧ (F = 32 ∨ F = 128) := ⟨32, rfl, .inl rfl⟩
      rw [← hFd]
      clear hFd
      have K := K8 F hF
      have HF := hid13 hF
      have HRl : Hid (rightE F (fsW x F) = rightE F (fsW x F)) := rfl
      refine (K _).mono ?_
      rintro e W1 ⟨rfl, hb1⟩
      have HB1 := hid13 (HB0.out.below hb1)
      obtain ⟨a0, a1, a2, a3⟩ := HB1.out.ca
      have HB2 : Hid (Bx9 w (fsW x F) u ((W1.setCell ⟨w.heap.size, 0, none⟩ (.int .u64 (hI (fsW x F)))).setCell ⟨w.heap.size, 1, none⟩ (.int .u64 (lI (fsW x F))))) := HB1.out.setA _
      have HRn : Hid (∀ (z : BitVec 128) W, Bx9 w (fsW x F) u W ∨ Below w.heap.size w W → Calls Try.prog 10 #[.int .i64 F, .slice ao l.length cc, .agg #[.int .u64 (hI z), .int .u64 (lI z)], .int .i64 1048576] W fun r w' => r = .returned (rsV (ruM F z l (rightE F z) 1048576)) ∧ Below W.heap.size W w') := hid13 (fun z W hW => run19 F (.slice ao l.length cc) z 1048576 l W (HA.out.1.below (by rcases hW with h | h; exact h.lo; exact h)) (by have := HL.out; omega) HA.out.2 (by decide))
      obtain ⟨m, hm⟩ : ∃ m, m = ruM F (fsW x F) l (rightE F (fsW x F)) 1048576 := ⟨_, rfl⟩
      obtain ⟨xx, hxx⟩ : ∃ xx, xx = fsW (fsW x F) m.bt := ⟨_, rfl⟩
      obtain ⟨y, hy⟩ : ∃ y, y = fsW u F &&& ~~~ fsW (BitVec.allOnes 128) m.bt := ⟨_, rfl⟩
      have HFin : Hid (ruM F (xx ||| y) l (rightE F (xx ||| y)) 1048576 = m) := ru_bits hF _ rfl m hm xx y hxx hy
      have hm0 : 0 ≤ m.bt := by
        have h1 : (goM F (fsW x F) l 1048576 (mc0 (rightE F (fsW x F)))).bt = m.bt := by rw [hm]; unfold ruM; split <;> rfl
        rw [← h1]
        exact (goM_mok rfl 1048576 _ (mc0_ok (by omega) fam_right)).b0
      have KR1 := fun W hW => HRn.out (fsW x F) W hW
      rw [← hm] at KR1
      have KF2 := fun W => first19 (fsW x F) m.bt W (by omega)
      rw [← hxx] at KF2
      have KF3 := fun W => first19 u F W (by omega)
      have HF4 : Hid (∀ W, Calls Try.prog 19 #[.agg #[.int .u64 18446744073709551615, .int .u64 18446744073709551615], .int .i64 m.bt] W fun e w' => e = .returned (.agg #[.int .u64 (hI (fsW (BitVec.allOnes 128) m.bt)), .int .u64 (lI (fsW (BitVec.allOnes 128) m.bt))]) ∧ Below W.heap.size W w') := hid13 (fun W => by
        have := first19 (BitVec.allOnes 128) m.bt W (by omega)
        rw [all_h, all_l] at this
        exact this)
      have HAh := an_h (fsW u F) (fsW (BitVec.allOnes 128) m.bt)
      have HAl := an_l (fsW u F) (fsW (BitVec.allOnes 128) m.bt)
      rw [← hy] at HAh HAl
      generalize fsW x F = x1 at *
      generalize fsW u F = u1 at *
      generalize fsW (BitVec.allOnes 128) m.bt = ma at *
      have HHy := hid13 (And.intro HAh HAl)
      clear K K8 HB0 hb1 hm hxx hy HB1 HAh HAl HRl
      unfold rsV at KR1 HRn
      go_wp2_with fail
      refine (KR1 _ (.inl HB2.out)).mono ?_
      rintro e W2 ⟨rfl, hb2⟩
      have q3 := bl1 W2 (.cells #[.int .i64 m.hop, .int .i64 m.err, .int .i64 m.st, .int .i64 m.ex, .int .i64 m.ix, .int .i64 m.bt] 29)
      have HBc := hid13 ((HB2.out.below hb2).below q3)
      have HRc : Hid ((W2.alloc (.cells #[.int .i64 m.hop, .int .i64 m.err, .int .i64 m.st, .int .i64 m.ex, .int .i64 m.ix, .int .i64 m.bt] 29)).heap[W2.heap.size]? = some (.cells #[.int .i64 m.hop, .int .i64 m.err, .int .i64 m.st, .int .i64 m.ex, .int .i64 m.ix, .int .i64 m.bt] 29)) := new_16 _ _
      obtain ⟨a0, a1, a2, a3⟩ := HBc.out.ca
      clear KR1 hb2 q3 HB2
      go_wp2_with (fail)
      clear a0 a1 a2 a3
      generalize W2.alloc (.cells #[.int .i64 m.hop, .int .i64 m.err, .int .i64 m.st, .int .i64 m.ex, .int .i64 m.ix, .int .i64 m.bt] 29) = Wc at *
      refine (KF2 _).mono ?_
      rintro e W3 ⟨rfl, hb3⟩
      have HN3h : Hid (W3.heap.size ≠ w.heap.size + 1) := hid13 (fun q => (by have := Nat.lt_of_lt_of_le (lt_16 HBc.out.b) hb3.size; omega))
      have q4 := bl1 W3 (.cells #[.int .u64 (hI xx), .int .u64 (lI xx)] 25)
      have HBd := hid13 ((HBc.out.below hb3).below q4)
      have HRd : Hid ((W3.alloc (.cells #[.int .u64 (hI xx), .int .u64 (lI xx)] 25)).heap[W2.heap.size]? = some (.cells #[.int .i64 m.hop, .int .i64 m.err, .int .i64 m.st, .int .i64 m.ex, .int .i64 m.ix, .int .i64 m.bt] 29)) := (q4.block _ (Nat.lt_of_lt_of_le (lt_16 HRc.out) hb3.size)).trans ((hb3.block _ (lt_16 HRc.out)).trans HRc.out)
      have HXd : Hid ((W3.alloc (.cells #[.int .u64 (hI xx), .int .u64 (lI xx)] 25)).heap[W3.heap.size]? = some (.cells #[.int .u64 (hI xx), .int .u64 (lI xx)] 25)) := new_16 _ _
      obtain ⟨b0, b1, b2, b3⟩ := HBd.out.cb
      clear KF2 hb3 q4 HBc HRc
      go_wp2_with fail
      clear b0 b1 b2 b3
      generalize W3.alloc (.cells #[.int .u64 (hI xx), .int .u64 (lI xx)] 25) = Wd at *
      refine (KF3 _).mono ?_
      rintro e W4 ⟨rfl, hb4⟩
      have HBe := hid13 (HBd.out.below hb4)
      have HN3 : W3.heap.size ≠ w.heap.size + 1 := HN3h.out
      have HRe : Hid (W4.heap[W2.heap.size]? = some (.cells #[.int .i64 m.hop, .int .i64 m.err, .int .i64 m.st, .int .i64 m.ex, .int .i64 m.ix, .int .i64 m.bt] 29) ∧ W2.heap.size ≠ w.heap.size + 1) := ⟨(hb4.block _ (lt_16 HRd.out)).trans HRd.out, fun q => (by have h1 := HRd.out; have h2 := HBd.out.b; rw [q, h2] at h1; injection h1 with h1; injection h1 with h3 h4; exact absurd h4 (by decide))⟩
      have HXe : Hid (W4.heap[W3.heap.size]? = some (.cells #[.int .u64 (hI xx), .int .u64 (lI xx)] 25) ∧ W3.heap.size ≠ w.heap.size + 1) := ⟨(hb4.block _ (lt_16 HXd.out)).trans HXd.out, HN3⟩
      obtain ⟨b0, b1, b2, b3⟩ := HBe.out.cb
      clear KF3 hb4 HBd HRd HXd
      go_wp2_with fail
      have HVb : Hid (Bx9 w x1 u1 ((W4.setCell ⟨w.heap.size + 1, 0, none⟩ (.int .u64 (hI u1))).setCell ⟨w.heap.size + 1, 1, none⟩ (.int .u64 (lI u1)))) := HBe.out.setB u1
      have HVr : Hid (((W4.setCell ⟨w.heap.size + 1, 0, none⟩ (.int .u64 (hI u1))).setCell ⟨w.heap.size + 1, 1, none⟩ (.int .u64 (lI u1))).heap[W2.heap.size]? = some (.cells #[.int .i64 m.hop, .int .i64 m.err, .int .i64 m.st, .int .i64 m.ex, .int .i64 m.ix, .int .i64 m.bt] 29)) := (far_16 HRe.out.2).trans ((far_16 HRe.out.2).trans HRe.out.1)
      have HVx : Hid (((W4.setCell ⟨w.heap.size + 1, 0, none⟩ (.int .u64 (hI u1))).setCell ⟨w.heap.size + 1, 1, none⟩ (.int .u64 (lI u1))).heap[W3.heap.size]? = some (.cells #[.int .u64 (hI xx), .int .u64 (lI xx)] 25)) := (far_16 HXe.out.2).trans ((far_16 HXe.out.2).trans HXe.out.1)
      generalize (W4.setCell ⟨w.heap.size + 1, 0, none⟩ (.int .u64 (hI u1))).setCell ⟨w.heap.size + 1, 1, none⟩ (.int .u64 (lI u1)) = Wb at HVb HVr HVx ⊢
      have HR0 : Hid (RX19 w Wb x1 u1 W2.heap.size W3.heap.size m xx y false false 0 Wb.drew) := ⟨HVb.out.below (Below.refl _ _).drew, (Below.refl _ _).drew, fun q => (by cases q), fun q => (by cases q), fun q => (by cases q)⟩
      clear HBe HRe HXe b0 b1 b2 b3
      refine gh_region (γ := Nat) (qpOk 19 19 (by decide) (fun N => by kernel_rfl) (by kernel_rfl) (by kernel_rfl) (by kernel_rfl) (by kernel_rfl)) (by kernel_rfl) (by kernel_rfl) [some 33, some 34, some 35, some 36, some 37, some 38, some 39, some 40, some 41, some 42, some 43, some 44, some 45, some 46, some 47, some 48, some 49, some 12, none] (fun g => [.pointer (some ⟨w.heap.size + 1, 0, none⟩), .int .u64 (hI u1), .agg #[.int .u64 18446744073709551615, .int .u64 18446744073709551615], .pointer (some ⟨W2.heap.size, 5, none⟩), .int .i64 m.bt, .agg #[.int .u64 (hI ma), .int .u64 (lI ma)], .int .u64 (hI ma), .int .u64 (hI y), .pointer (some ⟨w.heap.size + 1, 1, none⟩), .int .u64 (lI u1), .agg #[.int .u64 18446744073709551615, .int .u64 18446744073709551615], .pointer (some ⟨W2.heap.size, 5, none⟩), .int .i64 m.bt, .agg #[.int .u64 (hI ma), .int .u64 (lI ma)], .int .u64 (lI ma), .int .u64 (lI y), .agg #[.int .u64 (hI y), .int .u64 (lI y)], .pointer (some ⟨g, 0, none⟩), undef]) (by kernel_rfl) (by simp) (fun lp g X => RX19 w Wb x1 u1 W2.heap.size W3.heap.size m xx y (lp.getD 17 false) (lp.getD 18 false) g X) 0 HR0.out ?step12 ?fin12
      case step12 =>
        intro q o lp g w' a' ho hsz hun hdep hR hS K Q' hK
        have hfl : ∀ j, j ≠ q → (lp.setIfInBounds q true).getD j false = lp.getD j false := fun j hj => by rw [Array.getD_eq_getD_getElem?, Array.getD_eq_getD_getElem?, Array.getElem?_setIfInBounds_ne (by omega)]
        have hq : q < 19 := (List.getElem?_eq_some_iff.mp ho).1
        match q, ho, hun, hdep, hK, hfl, hq with
        | 0, ho, hun, hdep, hK, hfl, _ =>
          obtain rfl := Option.some.inj ho
          have o7 : a'.tmps[7]? = some (.pointer (some ⟨w.heap.size + 1, 0, none⟩)) := (hS.old14 7 (by simp)).trans rfl
          have hK' := hK g w' (fun _ _ _ _ _ _ => rfl) (by rw [hfl 17 (by decide), hfl 18 (by decide)]; exact hR) (.pointer (some ⟨w.heap.size + 1, 0, none⟩)) (by simp only [valO, Option.bind_some]; (try simp only [putAll, Act.put, List.setIfInBounds_toArray, List.set_cons_zero, List.set_cons_succ]); (try rfl))
          clear hS hdep hR
          refine gh_quiet14 (v := .pointer (some ⟨w.heap.size + 1, 0, none⟩)) ?_ ?_
          · (simp only [execOp, Act.eval, o7]; go_simp; first | done | (simp; done) | (simp [*]; done) | omega | (rw [IntKind.wrap_i64]; omega))
          · exact hK'
        | 1, ho, hun, hdep, hK, hfl, _ =>
          obtain rfl := Option.some.inj ho
          have d0 : lp.getD 0 false = true := hdep { on := 0, ground := .data } (by simp) rfl
          have e33 : a'.tmps[33]? = some (.pointer (some ⟨w.heap.size + 1, 0, none⟩)) := (hS.don 0 _ 33 rfl d0 rfl).trans (by simp only [putAll, Act.put, List.setIfInBounds_toArray, List.set_cons_zero, List.set_cons_succ]; rfl)
          obtain ⟨z0, z1, z2, z3⟩ := hR.b.cb
          have hK' := hK g w' (fun _ _ _ _ _ _ => rfl) (by rw [hfl 17 (by decide), hfl 18 (by decide)]; exact hR) (.int .u64 (hI u1)) (by simp only [valO, Option.bind_some]; (try simp only [putAll, Act.put, List.setIfInBounds_toArray, List.set_cons_zero, List.set_cons_succ]); (try rfl))
          clear hS hdep hR
          refine gh_quiet14 (v := .int .u64 (hI u1)) ?_ ?_
          · (simp only [execOp, Act.eval, e33]; go_simp; first | done | (simp; done) | (simp [*]; done) | omega | (rw [IntKind.wrap_i64]; omega))
          · exact hK'
        | 2, ho, hun, hdep, hK, hfl, _ =>
          obtain rfl := Option.some.inj ho
          have hK' := hK g w' (fun _ _ _ _ _ _ => rfl) (by rw [hfl 17 (by decide), hfl 18 (by decide)]; exact hR) (.agg #[.int .u64 18446744073709551615, .int .u64 18446744073709551615]) (by simp only [valO, Option.bind_some]; (try simp only [putAll, Act.put, List.setIfInBounds_toArray, List.set_cons_zero, List.set_cons_succ]); (try rfl))
          clear hS hdep hR
          refine gh_quiet14 (v := .agg #[.int .u64 18446744073709551615, .int .u64 18446744073709551615]) ?_ ?_
          · (simp only [execOp, Act.eval]; go_simp; first | done | (simp; done) | (simp [*]; done) | omega | (rw [IntKind.wrap_i64]; omega))
          · exact hK'
        | 3, ho, hun, hdep, hK, hfl, _ =>
          obtain rfl := Option.some.inj ho
          have o10 : a'.tmps[10]? = some (.pointer (some ⟨W2.heap.size, 0, none⟩)) := (hS.old14 10 (by simp)).trans rfl
          have hK' := hK g w' (fun _ _ _ _ _ _ => rfl) (by rw [hfl 17 (by decide), hfl 18 (by decide)]; exact hR) (.pointer (some ⟨W2.heap.size, 5, none⟩)) (by simp only [valO, Option.bind_some]; (try simp only [putAll, Act.put, List.setIfInBounds_toArray, List.set_cons_zero, List.set_cons_succ]); (try rfl))
          clear hS hdep hR
          refine gh_quiet14 (v := .pointer (some ⟨W2.heap.size, 5, none⟩)) ?_ ?_
          · (simp only [execOp, Act.eval, o10]; go_simp; first | done | (simp; done) | (simp [*]; done) | omega | (rw [IntKind.wrap_i64]; omega))
          · exact hK'
        | 4, ho, hun, hdep, hK, hfl, _ =>
          obtain rfl := Option.some.inj ho
          have d3 : lp.getD 3 false = true := hdep { on := 3, ground := .data } (by simp) rfl
          have e36 : a'.tmps[36]? = some (.pointer (some ⟨W2.heap.size, 5, none⟩)) := (hS.don 3 _ 36 rfl d3 rfl).trans (by simp only [putAll, Act.put, List.setIfInBounds_toArray, List.set_cons_zero, List.set_cons_succ]; rfl)
          have hr := (hR.lo.block _ (lt_16 HVr.out)).trans HVr.out
          have r5 : w'.cell? ⟨W2.heap.size, 5, none⟩ = some (.int .i64 m.bt) := at_16 hr 5 _ rfl
          have hK' := hK g w' (fun _ _ _ _ _ _ => rfl) (by rw [hfl 17 (by decide), hfl 18 (by decide)]; exact hR) (.int .i64 m.bt) (by simp only [valO, Option.bind_some]; (try simp only [putAll, Act.put, List.setIfInBounds_toArray, List.set_cons_zero, List.set_cons_succ]); (try rfl))
          clear hS hdep hR
          refine gh_quiet14 (v := .int .i64 m.bt) ?_ ?_
          · (simp only [execOp, Act.eval, e36]; go_simp; first | done | (simp; done) | (simp [*]; done) | omega | (rw [IntKind.wrap_i64]; omega))
          · exact hK'
        | 5, ho, hun, hdep, hK, hfl, _ =>
          obtain rfl := Option.some.inj ho
          have d2 : lp.getD 2 false = true := hdep { on := 2, ground := .data } (by simp) rfl
          have e35 : a'.tmps[35]? = some (.agg #[.int .u64 18446744073709551615, .int .u64 18446744073709551615]) := (hS.don 2 _ 35 rfl d2 rfl).trans (by simp only [putAll, Act.put, List.setIfInBounds_toArray, List.set_cons_zero, List.set_cons_succ]; rfl)
          have d4 : lp.getD 4 false = true := hdep { on := 4, ground := .data } (by simp) rfl
          have e37 : a'.tmps[37]? = some (.int .i64 m.bt) := (hS.don 4 _ 37 rfl d4 rfl).trans (by simp only [putAll, Act.put, List.setIfInBounds_toArray, List.set_cons_zero, List.set_cons_succ]; rfl)
          have KC := HF4.out w'
          clear hdep
          unfold Oper.wp
          simp only [execOp, Act.eval, Array.getD_eq_getD_getElem?]
          simp [go_sem, e35, e37, Oper.upon]
          refine KC.mono ?_
          rintro e W2 ⟨rfl, hb⟩
          exact hK g W2 (fun _ _ _ _ _ _ => rfl) (by rw [hfl 17 (by decide), hfl 18 (by decide)]; exact ⟨hR.b.below hb, hR.lo.trans (hb.mono hR.lo.size), fun h1 h2 => ⟨(hb.block _ (lt_16 (hR.l h1 h2).1)).trans (hR.l h1 h2).1, (hR.l h1 h2).2⟩, fun h1 => ⟨(hb.block _ (lt_16 (hR.s h1).1)).trans (hR.s h1).1, (hR.s h1).2⟩, hR.p⟩) _ (by simp only [valO, Option.bind_some]; simp only [putAll, Act.put, List.setIfInBounds_toArray, List.set_cons_zero, List.set_cons_succ]; rfl)
        | 6, ho, hun, hdep, hK, hfl, _ =>
          obtain rfl := Option.some.inj ho
          have d5 : lp.getD 5 false = true := hdep { on := 5, ground := .data } (by simp) rfl
          have e38 : a'.tmps[38]? = some (.agg #[.int .u64 (hI ma), .int .u64 (lI ma)]) := (hS.don 5 _ 38 rfl d5 rfl).trans (by simp only [putAll, Act.put, List.setIfInBounds_toArray, List.set_cons_zero, List.set_cons_succ]; rfl)
          have hfd := field0_19 (hI ma) (lI ma) w'
          have hK' := hK g w' (fun _ _ _ _ _ _ => rfl) (by rw [hfl 17 (by decide), hfl 18 (by decide)]; exact hR) (.int .u64 (hI ma)) (by simp only [valO, Option.bind_some]; (try simp only [putAll, Act.put, List.setIfInBounds_toArray, List.set_cons_zero, List.set_cons_succ]); (try rfl))
          clear hS hdep hR
          refine gh_quiet14 (v := .int .u64 (hI ma)) ?_ ?_
          · (simp only [execOp, Act.eval, e38]; go_simp; first | done | (simp; done) | (simp [*]; done) | omega | (rw [IntKind.wrap_i64]; omega))
          · exact hK'
        | 7, ho, hun, hdep, hK, hfl, _ =>
          obtain rfl := Option.some.inj ho
          have d1 : lp.getD 1 false = true := hdep { on := 1, ground := .data } (by simp) rfl
          have e34 : a'.tmps[34]? = some (.int .u64 (hI u1)) := (hS.don 1 _ 34 rfl d1 rfl).trans (by simp only [putAll, Act.put, List.setIfInBounds_toArray, List.set_cons_zero, List.set_cons_succ]; rfl)
          have d6 : lp.getD 6 false = true := hdep { on := 6, ground := .data } (by simp) rfl
          have e39 : a'.tmps[39]? = some (.int .u64 (hI ma)) := (hS.don 6 _ 39 rfl d6 rfl).trans (by simp only [putAll, Act.put, List.setIfInBounds_toArray, List.set_cons_zero, List.set_cons_succ]; rfl)
          have hyy := HHy.out.1
          have hK' := hK g w' (fun _ _ _ _ _ _ => rfl) (by rw [hfl 17 (by decide), hfl 18 (by decide)]; exact hR) (.int .u64 (hI y)) (by simp only [valO, Option.bind_some]; (try simp only [putAll, Act.put, List.setIfInBounds_toArray, List.set_cons_zero, List.set_cons_succ]); (try rfl))
          clear hS hdep hR
          refine gh_quiet14 (v := .int .u64 (hI y)) ?_ ?_
          · (simp only [execOp, Act.eval, e34, e39]; go_simp; first | done | (simp; done) | (simp [*]; done) | omega | (rw [IntKind.wrap_i64]; omega))
          · exact hK'
        | 8, ho, hun, hdep, hK, hfl, _ =>
          obtain rfl := Option.some.inj ho
          have o7 : a'.tmps[7]? = some (.pointer (some ⟨w.heap.size + 1, 0, none⟩)) := (hS.old14 7 (by simp)).trans rfl
          have hK' := hK g w' (fun _ _ _ _ _ _ => rfl) (by rw [hfl 17 (by decide), hfl 18 (by decide)]; exact hR) (.pointer (some ⟨w.heap.size + 1, 1, none⟩)) (by simp only [valO, Option.bind_some]; (try simp only [putAll, Act.put, List.setIfInBounds_toArray, List.set_cons_zero, List.set_cons_succ]); (try rfl))
          clear hS hdep hR
          refine gh_quiet14 (v := .pointer (some ⟨w.heap.size + 1, 1, none⟩)) ?_ ?_
          · (simp only [execOp, Act.eval, o7]; go_simp; first | done | (simp; done) | (simp [*]; done) | omega | (rw [IntKind.wrap_i64]; omega))
          · exact hK'
        | 9, ho, hun, hdep, hK, hfl, _ =>
          obtain rfl := Option.some.inj ho
          have d8 : lp.getD 8 false = true := hdep { on := 8, ground := .data } (by simp) rfl
          have e41 : a'.tmps[41]? = some (.pointer (some ⟨w.heap.size + 1, 1, none⟩)) := (hS.don 8 _ 41 rfl d8 rfl).trans (by simp only [putAll, Act.put, List.setIfInBounds_toArray, List.set_cons_zero, List.set_cons_succ]; rfl)
          obtain ⟨z0, z1, z2, z3⟩ := hR.b.cb
          have hK' := hK g w' (fun _ _ _ _ _ _ => rfl) (by rw [hfl 17 (by decide), hfl 18 (by decide)]; exact hR) (.int .u64 (lI u1)) (by simp only [valO, Option.bind_some]; (try simp only [putAll, Act.put, List.setIfInBounds_toArray, List.set_cons_zero, List.set_cons_succ]); (try rfl))
          clear hS hdep hR
          refine gh_quiet14 (v := .int .u64 (lI u1)) ?_ ?_
          · (simp only [execOp, Act.eval, e41]; go_simp; first | done | (simp; done) | (simp [*]; done) | omega | (rw [IntKind.wrap_i64]; omega))
          · exact hK'
        | 10, ho, hun, hdep, hK, hfl, _ =>
          obtain rfl := Option.some.inj ho
          have hK' := hK g w' (fun _ _ _ _ _ _ => rfl) (by rw [hfl 17 (by decide), hfl 18 (by decide)]; exact hR) (.agg #[.int .u64 18446744073709551615, .int .u64 18446744073709551615]) (by simp only [valO, Option.bind_some]; (try simp only [putAll, Act.put, List.setIfInBounds_toArray, List.set_cons_zero, List.set_cons_succ]); (try rfl))
          clear hS hdep hR
          refine gh_quiet14 (v := .agg #[.int .u64 18446744073709551615, .int .u64 18446744073709551615]) ?_ ?_
          · (simp only [execOp, Act.eval]; go_simp; first | done | (simp; done) | (simp [*]; done) | omega | (rw [IntKind.wrap_i64]; omega))
          · exact hK'
        | 11, ho, hun, hdep, hK, hfl, _ =>
          obtain rfl := Option.some.inj ho
          have o10 : a'.tmps[10]? = some (.pointer (some ⟨W2.heap.size, 0, none⟩)) := (hS.old14 10 (by simp)).trans rfl
          have hK' := hK g w' (fun _ _ _ _ _ _ => rfl) (by rw [hfl 17 (by decide), hfl 18 (by decide)]; exact hR) (.pointer (some ⟨W2.heap.size, 5, none⟩)) (by simp only [valO, Option.bind_some]; (try simp only [putAll, Act.put, List.setIfInBounds_toArray, List.set_cons_zero, List.set_cons_succ]); (try rfl))
          clear hS hdep hR
          refine gh_quiet14 (v := .pointer (some ⟨W2.heap.size, 5, none⟩)) ?_ ?_
          · (simp only [execOp, Act.eval, o10]; go_simp; first | done | (simp; done) | (simp [*]; done) | omega | (rw [IntKind.wrap_i64]; omega))
          · exact hK'
        | 12, ho, hun, hdep, hK, hfl, _ =>
          obtain rfl := Option.some.inj ho
          have d11 : lp.getD 11 false = true := hdep { on := 11, ground := .data } (by simp) rfl
          have e44 : a'.tmps[44]? = some (.pointer (some ⟨W2.heap.size, 5, none⟩)) := (hS.don 11 _ 44 rfl d11 rfl).trans (by simp only [putAll, Act.put, List.setIfInBounds_toArray, List.set_cons_zero, List.set_cons_succ]; rfl)
          have hr := (hR.lo.block _ (lt_16 HVr.out)).trans HVr.out
          have r5 : w'.cell? ⟨W2.heap.size, 5, none⟩ = some (.int .i64 m.bt) := at_16 hr 5 _ rfl
          have hK' := hK g w' (fun _ _ _ _ _ _ => rfl) (by rw [hfl 17 (by decide), hfl 18 (by decide)]; exact hR) (.int .i64 m.bt) (by simp only [valO, Option.bind_some]; (try simp only [putAll, Act.put, List.setIfInBounds_toArray, List.set_cons_zero, List.set_cons_succ]); (try rfl))
          clear hS hdep hR
          refine gh_quiet14 (v := .int .i64 m.bt) ?_ ?_
          · (simp only [execOp, Act.eval, e44]; go_simp; first | done | (simp; done) | (simp [*]; done) | omega | (rw [IntKind.wrap_i64]; omega))
          · exact hK'
        | 13, ho, hun, hdep, hK, hfl, _ =>
          obtain rfl := Option.some.inj ho
          have d10 : lp.getD 10 false = true := hdep { on := 10, ground := .data } (by simp) rfl
          have e43 : a'.tmps[43]? = some (.agg #[.int .u64 18446744073709551615, .int .u64 18446744073709551615]) := (hS.don 10 _ 43 rfl d10 rfl).trans (by simp only [putAll, Act.put, List.setIfInBounds_toArray, List.set_cons_zero, List.set_cons_succ]; rfl)
          have d12 : lp.getD 12 false = true := hdep { on := 12, ground := .data } (by simp) rfl
          have e45 : a'.tmps[45]? = some (.int .i64 m.bt) := (hS.don 12 _ 45 rfl d12 rfl).trans (by simp only [putAll, Act.put, List.setIfInBounds_toArray, List.set_cons_zero, List.set_cons_succ]; rfl)
          have KC := HF4.out w'
          clear hdep
          unfold Oper.wp
          simp only [execOp, Act.eval, Array.getD_eq_getD_getElem?]
          simp [go_sem, e43, e45, Oper.upon]
          refine KC.mono ?_
          rintro e W2 ⟨rfl, hb⟩
          exact hK g W2 (fun _ _ _ _ _ _ => rfl) (by rw [hfl 17 (by decide), hfl 18 (by decide)]; exact ⟨hR.b.below hb, hR.lo.trans (hb.mono hR.lo.size), fun h1 h2 => ⟨(hb.block _ (lt_16 (hR.l h1 h2).1)).trans (hR.l h1 h2).1, (hR.l h1 h2).2⟩, fun h1 => ⟨(hb.block _ (lt_16 (hR.s h1).1)).trans (hR.s h1).1, (hR.s h1).2⟩, hR.p⟩) _ (by simp only [valO, Option.bind_some]; simp only [putAll, Act.put, List.setIfInBounds_toArray, List.set_cons_zero, List.set_cons_succ]; rfl)
        | 14, ho, hun, hdep, hK, hfl, _ =>
          obtain rfl := Option.some.inj ho
          have d13 : lp.getD 13 false = true := hdep { on := 13, ground := .data } (by simp) rfl
          have e46 : a'.tmps[46]? = some (.agg #[.int .u64 (hI ma), .int .u64 (lI ma)]) := (hS.don 13 _ 46 rfl d13 rfl).trans (by simp only [putAll, Act.put, List.setIfInBounds_toArray, List.set_cons_zero, List.set_cons_succ]; rfl)
          have hfd := field1_19 (hI ma) (lI ma) w'
          have hK' := hK g w' (fun _ _ _ _ _ _ => rfl) (by rw [hfl 17 (by decide), hfl 18 (by decide)]; exact hR) (.int .u64 (lI ma)) (by simp only [valO, Option.bind_some]; (try simp only [putAll, Act.put, List.setIfInBounds_toArray, List.set_cons_zero, List.set_cons_succ]); (try rfl))
          clear hS hdep hR
          refine gh_quiet14 (v := .int .u64 (lI ma)) ?_ ?_
          · (simp only [execOp, Act.eval, e46]; go_simp; first | done | (simp; done) | (simp [*]; done) | omega | (rw [IntKind.wrap_i64]; omega))
          · exact hK'
        | 15, ho, hun, hdep, hK, hfl, _ =>
          obtain rfl := Option.some.inj ho
          have d9 : lp.getD 9 false = true := hdep { on := 9, ground := .data } (by simp) rfl
          have e42 : a'.tmps[42]? = some (.int .u64 (lI u1)) := (hS.don 9 _ 42 rfl d9 rfl).trans (by simp only [putAll, Act.put, List.setIfInBounds_toArray, List.set_cons_zero, List.set_cons_succ]; rfl)
          have d14 : lp.getD 14 false = true := hdep { on := 14, ground := .data } (by simp) rfl
          have e47 : a'.tmps[47]? = some (.int .u64 (lI ma)) := (hS.don 14 _ 47 rfl d14 rfl).trans (by simp only [putAll, Act.put, List.setIfInBounds_toArray, List.set_cons_zero, List.set_cons_succ]; rfl)
          have hyy := HHy.out.2
          have hK' := hK g w' (fun _ _ _ _ _ _ => rfl) (by rw [hfl 17 (by decide), hfl 18 (by decide)]; exact hR) (.int .u64 (lI y)) (by simp only [valO, Option.bind_some]; (try simp only [putAll, Act.put, List.setIfInBounds_toArray, List.set_cons_zero, List.set_cons_succ]); (try rfl))
          clear hS hdep hR
          refine gh_quiet14 (v := .int .u64 (lI y)) ?_ ?_
          · (simp only [execOp, Act.eval, e42, e47]; go_simp; first | done | (simp; done) | (simp [*]; done) | omega | (rw [IntKind.wrap_i64]; omega))
          · exact hK'
        | 16, ho, hun, hdep, hK, hfl, _ =>
          obtain rfl := Option.some.inj ho
          have d7 : lp.getD 7 false = true := hdep { on := 7, ground := .data } (by simp) rfl
          have e40 : a'.tmps[40]? = some (.int .u64 (hI y)) := (hS.don 7 _ 40 rfl d7 rfl).trans (by simp only [putAll, Act.put, List.setIfInBounds_toArray, List.set_cons_zero, List.set_cons_succ]; rfl)
          have d15 : lp.getD 15 false = true := hdep { on := 15, ground := .data } (by simp) rfl
          have e48 : a'.tmps[48]? = some (.int .u64 (lI y)) := (hS.don 15 _ 48 rfl d15 rfl).trans (by simp only [putAll, Act.put, List.setIfInBounds_toArray, List.set_cons_zero, List.set_cons_succ]; rfl)
          have hK' := hK g w' (fun _ _ _ _ _ _ => rfl) (by rw [hfl 17 (by decide), hfl 18 (by decide)]; exact hR) (.agg #[.int .u64 (hI y), .int .u64 (lI y)]) (by simp only [valO, Option.bind_some]; (try simp only [putAll, Act.put, List.setIfInBounds_toArray, List.set_cons_zero, List.set_cons_succ]); (try rfl))
          clear hS hdep hR
          refine gh_quiet14 (v := .agg #[.int .u64 (hI y), .int .u64 (lI y)]) ?_ ?_
          · (simp only [execOp, Act.eval, e40, e48]; go_simp; first | done | (simp; done) | (simp [*]; done) | omega | (rw [IntKind.wrap_i64]; omega))
          · exact hK'
        | 17, ho, hun, hdep, hK, hfl, _ =>
          obtain rfl := Option.some.inj ho
          have n18 : lp.getD 18 false = false := by
            cases h : lp.getD 18 false with
            | false => rfl
            | true => have := hR.p h; rw [hun] at this; cases this
          have q := bl1 w' (.cells #[.int .u64 0, .int .u64 0] 25)
          have hK' := hK w'.heap.size (w'.alloc (.cells #[.int .u64 0, .int .u64 0] 25)) (fun k' ok s hk hl hd => gh_same14 (d := 12) (s := s) (by simp only [putAll, Act.put, List.setIfInBounds_toArray, List.set_cons_zero, List.set_cons_succ]; rfl) (by rintro rfl; have := dstG_of (by kernel_rfl) k' 17 ok _ 12 hk rfl hd rfl; subst this; rw [hun] at hl; cases hl)) (by rw [hfl 18 (by decide), getD_set_same (by rw [hsz]; decide)]; exact ⟨hR.b.below q, keepb q hR.lo, fun _ _ => ⟨new_16 _ _, hR.lo.size⟩, fun h1 => (by rw [n18] at h1; cases h1), fun _ => rfl⟩) (.pointer (some ⟨w'.heap.size, 0, none⟩)) (by simp only [valO, Option.bind_some]; simp only [putAll, Act.put, List.setIfInBounds_toArray, List.set_cons_zero, List.set_cons_succ]; rfl)
          clear hS hdep hR hK q
          unfold Oper.wp
          simp only [execOp, Act.eval, Array.getD_eq_getD_getElem?]
          simp [go_sem, Oper.upon]
          exact hK'
        | 18, ho, hun, hdep, hK, hfl, _ =>
          obtain rfl := Option.some.inj ho
          have d17 : lp.getD 17 false = true := hdep { on := 17, ground := .data } (by simp) rfl
          have e12 : a'.tmps[12]? = some (.pointer (some ⟨g, 0, none⟩)) := (hS.don 17 _ 12 rfl d17 rfl).trans (by simp only [putAll, Act.put, List.setIfInBounds_toArray, List.set_cons_zero, List.set_cons_succ]; rfl)
          have d16 : lp.getD 16 false = true := hdep { on := 16, ground := .data } (by simp) rfl
          have e49 : a'.tmps[49]? = some (.agg #[.int .u64 (hI y), .int .u64 (lI y)]) := (hS.don 16 _ 49 rfl d16 rfl).trans (by simp only [putAll, Act.put, List.setIfInBounds_toArray, List.set_cons_zero, List.set_cons_succ]; rfl)
          obtain ⟨l1, l2⟩ := hR.l d17 hun
          have k0 := at_16 l1 0 _ rfl
          have k1 := at_16 l1 1 _ rfl
          have f0 := fr_16 (j := 0) l1
          have f1 := fr_16 (j := 1) l1
          have g1 : w.heap.size + 1 < Wb.heap.size := lt_16 HVb.out.b
          have hK' := hK g ((w'.setCell ⟨g, 0, none⟩ (.int .u64 (hI y))).setCell ⟨g, 1, none⟩ (.int .u64 (lI y))) (fun _ _ _ _ _ _ => rfl) (by rw [hfl 17 (by decide), getD_set_same (by rw [hsz]; decide)]; exact ⟨⟨(hR.b.lo.setCell (p := ⟨g, 0, none⟩) (show w.heap.size ≤ g by omega) _).setCell (p := ⟨g, 1, none⟩) (show w.heap.size ≤ g by omega) _, (far_16 (by omega)).trans ((far_16 (by omega)).trans hR.b.a), (far_16 (by omega)).trans ((far_16 (by omega)).trans hR.b.b)⟩, (hR.lo.setCell (p := ⟨g, 0, none⟩) l2 _).setCell (p := ⟨g, 1, none⟩) l2 _, fun _ h => (by cases h), fun _ => ⟨by rw [set_16 (set_16 l1 _) _]; rfl, l2⟩, fun _ => d17⟩) undef rfl
          clear hS hdep hR hK l1
          unfold Oper.wp
          simp only [execOp, Act.eval, Array.getD_eq_getD_getElem?]
          simp [go_sem, e12, e49, k0, k1, f0, f1, Oper.upon]
          exact hK'
        | n + 19, ho, hun, hdep, hK, hfl, hq => exact absurd hq (by omega)
      case fin12 =>
        intro g X hX
        have h9 := hX.s rfl
        have HX : Hid (Below w.heap.size w X ∧ X.heap[W2.heap.size]? = some (.cells #[.int .i64 m.hop, .int .i64 m.err, .int .i64 m.st, .int .i64 m.ex, .int .i64 m.ix, .int .i64 m.bt] 29) ∧ X.heap[W3.heap.size]? = some (.cells #[.int .u64 (hI xx), .int .u64 (lI xx)] 25) ∧ X.heap[g]? = some (.cells #[.int .u64 (hI y), .int .u64 (lI y)] 25)) := ⟨hX.b.lo, (hX.lo.block _ (lt_16 HVr.out)).trans HVr.out, (hX.lo.block _ (lt_16 HVx.out)).trans HVx.out, h9.1⟩
        have KR9 := fun W hW => HRn.out (xx ||| y) W (.inr hW)
        rw [HFin.out] at KR9
        have hqB := fun W => eqR_run m.hop m.err m.st m.ex m.ix m.bt m.hop m.err m.st m.ex m.ix m.bt W
        simp only [beq_self_eq_true, Bool.and_true, Bool.and_self] at hqB
        clear hX h9 HVr HVx HVb HR0 HRn HFin HHy HF4
        simp only [putAll, Act.put, List.setIfInBounds_toArray, List.set_cons_zero, List.set_cons_succ]
        go_wp2_with fail
        refine qw_region (C := (fun X => Below w.heap.size w X ∧ X.heap[W2.heap.size]? = some (.cells #[.int .i64 m.hop, .int .i64 m.err, .int .i64 m.st, .int .i64 m.ex, .int .i64 m.ix, .int .i64 m.bt] 29) ∧ X.heap[W3.heap.size]? = some (.cells #[.int .u64 (hI xx), .int .u64 (lI xx)] 25) ∧ X.heap[g]? = some (.cells #[.int .u64 (hI y), .int .u64 (lI y)] 25))) (by kernel_rfl) (by kernel_rfl) ⟨HX.out.1.drew, HX.out.2.1, HX.out.2.2.1, HX.out.2.2.2⟩ ?_
        refine qw_run (v := .int .i64 F) (by rfl) ?_ ?_
        · (intro w9 hC; clear hC; go_simp; first | done | (simp; done) | (simp [*]; done) | omega | (simp; omega) | (rw [IntKind.wrap_i64]; omega) | (intro hx; omega) | rfl)
        simp only [Act.put, List.setIfInBounds_toArray, List.set_cons_zero, List.set_cons_succ]
        refine qw_run (v := .slice ao l.length cc) (by rfl) ?_ ?_
        · (intro w9 hC; clear hC; go_simp; first | done | (simp; done) | (simp [*]; done) | omega | (simp; omega) | (rw [IntKind.wrap_i64]; omega) | (intro hx; omega) | rfl)
        simp only [Act.put, List.setIfInBounds_toArray, List.set_cons_zero, List.set_cons_succ]
        refine qw_run (v := .pointer (some ⟨W3.heap.size, 0, none⟩)) (by rfl) ?_ ?_
        · (intro w9 hC; clear hC; go_simp; first | done | (simp; done) | (simp [*]; done) | omega | (simp; omega) | (rw [IntKind.wrap_i64]; omega) | (intro hx; omega) | rfl)
        simp only [Act.put, List.setIfInBounds_toArray, List.set_cons_zero, List.set_cons_succ]
        refine qw_run (v := .int .u64 (hI xx)) (by rfl) ?_ ?_
        · (intro w9 hC; have z0 := at_16 hC.2.2.1 0 _ rfl; have z1 := at_16 hC.2.2.1 1 _ rfl; clear hC; go_simp; first | done | (simp; done) | (simp [*]; done) | omega | (simp; omega) | (rw [IntKind.wrap_i64]; omega) | (intro hx; omega) | rfl)
        simp only [Act.put, List.setIfInBounds_toArray, List.set_cons_zero, List.set_cons_succ]
        refine qw_run (v := .pointer (some ⟨g, 0, none⟩)) (by rfl) ?_ ?_
        · (intro w9 hC; clear hC; go_simp; first | done | (simp; done) | (simp [*]; done) | omega | (simp; omega) | (rw [IntKind.wrap_i64]; omega) | (intro hx; omega) | rfl)
        simp only [Act.put, List.setIfInBounds_toArray, List.set_cons_zero, List.set_cons_succ]
        refine qw_run (v := .int .u64 (hI y)) (by rfl) ?_ ?_
        · (intro w9 hC; have z0 := at_16 hC.2.2.2 0 _ rfl; have z1 := at_16 hC.2.2.2 1 _ rfl; clear hC; go_simp; first | done | (simp; done) | (simp [*]; done) | omega | (simp; omega) | (rw [IntKind.wrap_i64]; omega) | (intro hx; omega) | rfl)
        simp only [Act.put, List.setIfInBounds_toArray, List.set_cons_zero, List.set_cons_succ]
        refine qw_run (v := .int .u64 (hI (xx ||| y))) (by rfl) ?_ ?_
        · (intro w9 hC; have ho := or_h xx y; clear hC; go_simp; first | done | (simp; done) | (simp [*]; done) | omega | (simp; omega) | (rw [IntKind.wrap_i64]; omega) | (intro hx; omega) | rfl)
        simp only [Act.put, List.setIfInBounds_toArray, List.set_cons_zero, List.set_cons_succ]
        refine qw_run (v := .pointer (some ⟨W3.heap.size, 1, none⟩)) (by rfl) ?_ ?_
        · (intro w9 hC; clear hC; go_simp; first | done | (simp; done) | (simp [*]; done) | omega | (simp; omega) | (rw [IntKind.wrap_i64]; omega) | (intro hx; omega) | rfl)
        simp only [Act.put, List.setIfInBounds_toArray, List.set_cons_zero, List.set_cons_succ]
        refine qw_run (v := .int .u64 (lI xx)) (by rfl) ?_ ?_
        · (intro w9 hC; have z0 := at_16 hC.2.2.1 0 _ rfl; have z1 := at_16 hC.2.2.1 1 _ rfl; clear hC; go_simp; first | done | (simp; done) | (simp [*]; done) | omega | (simp; omega) | (rw [IntKind.wrap_i64]; omega) | (intro hx; omega) | rfl)
        simp only [Act.put, List.setIfInBounds_toArray, List.set_cons_zero, List.set_cons_succ]
        refine qw_run (v := .pointer (some ⟨g, 1, none⟩)) (by rfl) ?_ ?_
        · (intro w9 hC; clear hC; go_simp; first | done | (simp; done) | (simp [*]; done) | omega | (simp; omega) | (rw [IntKind.wrap_i64]; omega) | (intro hx; omega) | rfl)
        simp only [Act.put, List.setIfInBounds_toArray, List.set_cons_zero, List.set_cons_succ]
        refine qw_run (v := .int .u64 (lI y)) (by rfl) ?_ ?_
        · (intro w9 hC; have z0 := at_16 hC.2.2.2 0 _ rfl; have z1 := at_16 hC.2.2.2 1 _ rfl; clear hC; go_simp; first | done | (simp; done) | (simp [*]; done) | omega | (simp; omega) | (rw [IntKind.wrap_i64]; omega) | (intro hx; omega) | rfl)
        simp only [Act.put, List.setIfInBounds_toArray, List.set_cons_zero, List.set_cons_succ]
        refine qw_run (v := .int .u64 (lI (xx ||| y))) (by rfl) ?_ ?_
        · (intro w9 hC; have ho := or_l xx y; clear hC; go_simp; first | done | (simp; done) | (simp [*]; done) | omega | (simp; omega) | (rw [IntKind.wrap_i64]; omega) | (intro hx; omega) | rfl)
        simp only [Act.put, List.setIfInBounds_toArray, List.set_cons_zero, List.set_cons_succ]
        refine qw_run (v := .agg #[.int .u64 (hI (xx ||| y)), .int .u64 (lI (xx ||| y))]) (by rfl) ?_ ?_
        · (intro w9 hC; clear hC; go_simp; first | done | (simp; done) | (simp [*]; done) | omega | (simp; omega) | (rw [IntKind.wrap_i64]; omega) | (intro hx; omega) | rfl)
        simp only [Act.put, List.setIfInBounds_toArray, List.set_cons_zero, List.set_cons_succ]
        refine qw_call (v := .agg #[.int .i64 m.hop, .int .i64 m.err, .int .i64 m.st, .int .i64 m.ex, .int .i64 m.ix, .int .i64 m.bt]) (f := 10) (args := #[.int .i64 F, .slice ao l.length cc, .agg #[.int .u64 (hI (xx ||| y)), .int .u64 (lI (xx ||| y))], .int .i64 1048576]) (by rfl) ?_ ?_ ?_
        · (intro w9 hC; clear hC; go_simp; first | done | (simp; done) | rfl)
        · exact fun w9 hC => (KR9 w9 hC.1).mono fun e w' ⟨he, hb⟩ => ⟨he, ⟨hC.1.trans (hb.mono hC.1.size), (hb.block _ (lt_16 hC.2.1)).trans hC.2.1, (hb.block _ (lt_16 hC.2.2.1)).trans hC.2.2.1, (hb.block _ (lt_16 hC.2.2.2)).trans hC.2.2.2⟩⟩
        simp only [Act.put, List.setIfInBounds_toArray, List.set_cons_zero, List.set_cons_succ]
        refine qw_run (v := .agg #[.int .i64 m.hop, .int .i64 m.err, .int .i64 m.st, .int .i64 m.ex, .int .i64 m.ix, .int .i64 m.bt]) (by rfl) ?_ ?_
        · (intro w9 hC; have z0 := at_16 hC.2.1 0 _ rfl; have z1 := at_16 hC.2.1 1 _ rfl; have z2 := at_16 hC.2.1 2 _ rfl; have z3 := at_16 hC.2.1 3 _ rfl; have z4 := at_16 hC.2.1 4 _ rfl; have z5 := at_16 hC.2.1 5 _ rfl; clear hC; go_simp; first | done | (simp; done) | (simp [*]; done) | omega | (simp; omega) | (rw [IntKind.wrap_i64]; omega) | (intro hx; omega) | rfl)
        simp only [Act.put, List.setIfInBounds_toArray, List.set_cons_zero, List.set_cons_succ]
        refine qw_run (v := .bool true) (by rfl) ?_ ?_
        · (intro w9 hC; have hq := hqB w9; clear hC; go_simp; first | done | (simp; done) | (simp [*]; done) | omega | (simp; omega) | (rw [IntKind.wrap_i64]; omega) | (intro hx; omega) | rfl)
        simp only [Act.put, List.setIfInBounds_toArray, List.set_cons_zero, List.set_cons_succ]
        refine qw_run (v := .bool true) (by rfl) ?_ ?_
        · (intro w9 hC; clear hC; go_simp; first | done | (simp; done) | (simp [*]; done) | omega | (simp; omega) | (rw [IntKind.wrap_i64]; omega) | (intro hx; omega) | rfl)
        simp only [Act.put, List.setIfInBounds_toArray, List.set_cons_zero, List.set_cons_succ]
        refine qw_nil ?_
        intro X9 hX9
        have HX9 : Hid (Below w.heap.size w X9) := hX9.1
        clear hX9
        go_wp2
        go_ret
        exact ⟨rfl, HX9.out⟩
    | true =>
      go_enter Try.func7, Try.ntmps7
      go_wp2_with fail
      rw [← hV]
      clear hV
      refine K0.mono ?_
      rintro e W0 ⟨rfl, hb0⟩
      have HB0 := hid13 (HB.out.below hb0)
      obtain ⟨a0, a1, a2, a3⟩ := HB0.out.ca
      clear K0 hb0 HB
      go_wp2_with fail
      obtain ⟨F, hFd, hF⟩ : ∃ F : Int, F = 128 ∧ (F = 32 ∨ F = 128) := ⟨128, rfl, .inr rfl⟩
      rw [← hFd]
      clear hFd
      have K := K8 F hF
      have HF := hid13 hF
      have HRl : Hid (rightE F (fsW x F) = rightE F (fsW x F)) := rfl
      refine (K _).mono ?_
      rintro e W1 ⟨rfl, hb1⟩
      have HB1 := hid13 (HB0.out.below hb1)
      obtain ⟨a0, a1, a2, a3⟩ := HB1.out.ca
      have HB2 : Hid (Bx9 w (fsW x F) u ((W1.setCell ⟨w.heap.size, 0, none⟩ (.int .u64 (hI (fsW x F)))).setCell ⟨w.heap.size, 1, none⟩ (.int .u64 (lI (fsW x F))))) := HB1.out.setA _
      have HRn : Hid (∀ (z : BitVec 128) W, Bx9 w (fsW x F) u W ∨ Below w.heap.size w W → Calls Try.prog 10 #[.int .i64 F, .slice ao l.length cc, .agg #[.int .u64 (hI z), .int .u64 (lI z)], .int .i64 1048576] W fun r w' => r = .returned (rsV (ruM F z l (rightE F z) 1048576)) ∧ Below W.heap.size W w') := hid13 (fun z W hW => run19 F (.slice ao l.length cc) z 1048576 l W (HA.out.1.below (by rcases hW with h | h; exact h.lo; exact h)) (by have := HL.out; omega) HA.out.2 (by decide))
      obtain ⟨m, hm⟩ : ∃ m, m = ruM F (fsW x F) l (rightE F (fsW x F)) 1048576 := ⟨_, rfl⟩
      obtain ⟨xx, hxx⟩ : ∃ xx, xx = fsW (fsW x F) m.bt := ⟨_, rfl⟩
      obtain ⟨y, hy⟩ : ∃ y, y = fsW u F &&& ~~~ fsW (BitVec.allOnes 128) m.bt := ⟨_, rfl⟩
      have HFin : Hid (ruM F (xx ||| y) l (rightE F (xx ||| y)) 1048576 = m) := ru_bits hF _ rfl m hm xx y hxx hy
      have hm0 : 0 ≤ m.bt := by
        have h1 : (goM F (fsW x F) l 1048576 (mc0 (rightE F (fsW x F)))).bt = m.bt := by rw [hm]; unfold ruM; split <;> rfl
        rw [← h1]
        exact (goM_mok rfl 1048576 _ (mc0_ok (by omega) fam_right)).b0
      have KR1 := fun W hW => HRn.out (fsW x F) W hW
      rw [← hm] at KR1
      have KF2 := fun W => first19 (fsW x F) m.bt W (by omega)
      rw [← hxx] at KF2
      have KF3 := fun W => first19 u F W (by omega)
      have HF4 : Hid (∀ W, Calls Try.prog 19 #[.agg #[.int .u64 18446744073709551615, .int .u64 18446744073709551615], .int .i64 m.bt] W fun e w' => e = .returned (.agg #[.int .u64 (hI (fsW (BitVec.allOnes 128) m.bt)), .int .u64 (lI (fsW (BitVec.allOnes 128) m.bt))]) ∧ Below W.heap.size W w') := hid13 (fun W => by
        have := first19 (BitVec.allOnes 128) m.bt W (by omega)
        rw [all_h, all_l] at this
        exact this)
      have HAh := an_h (fsW u F) (fsW (BitVec.allOnes 128) m.bt)
      have HAl := an_l (fsW u F) (fsW (BitVec.allOnes 128) m.bt)
      rw [← hy] at HAh HAl
      generalize fsW x F = x1 at *
      generalize fsW u F = u1 at *
      generalize fsW (BitVec.allOnes 128) m.bt = ma at *
      have HHy := hid13 (And.intro HAh HAl)
      clear K K8 HB0 hb1 hm hxx hy HB1 HAh HAl HRl
      unfold rsV at KR1 HRn
      go_wp2_with fail
      refine (KR1 _ (.inl HB2.out)).mono ?_
      rintro e W2 ⟨rfl, hb2⟩
      have q3 := bl1 W2 (.cells #[.int .i64 m.hop, .int .i64 m.err, .int .i64 m.st, .int .i64 m.ex, .int .i64 m.ix, .int .i64 m.bt] 29)
      have HBc := hid13 ((HB2.out.below hb2).below q3)
      have HRc : Hid ((W2.alloc (.cells #[.int .i64 m.hop, .int .i64 m.err, .int .i64 m.st, .int .i64 m.ex, .int .i64 m.ix, .int .i64 m.bt] 29)).heap[W2.heap.size]? = some (.cells #[.int .i64 m.hop, .int .i64 m.err, .int .i64 m.st, .int .i64 m.ex, .int .i64 m.ix, .int .i64 m.bt] 29)) := new_16 _ _
      obtain ⟨a0, a1, a2, a3⟩ := HBc.out.ca
      clear KR1 hb2 q3 HB2
      go_wp2_with (fail)
      clear a0 a1 a2 a3
      generalize W2.alloc (.cells #[.int .i64 m.hop, .int .i64 m.err, .int .i64 m.st, .int .i64 m.ex, .int .i64 m.ix, .int .i64 m.bt] 29) = Wc at *
      refine (KF2 _).mono ?_
      rintro e W3 ⟨rfl, hb3⟩
      have HN3h : Hid (W3.heap.size ≠ w.heap.size + 1) := hid13 (fun q => (by have := Nat.lt_of_lt_of_le (lt_16 HBc.out.b) hb3.size; omega))
      have q4 := bl1 W3 (.cells #[.int .u64 (hI xx), .int .u64 (lI xx)] 25)
      have HBd := hid13 ((HBc.out.below hb3).below q4)
      have HRd : Hid ((W3.alloc (.cells #[.int .u64 (hI xx), .int .u64 (lI xx)] 25)).heap[W2.heap.size]? = some (.cells #[.int .i64 m.hop, .int .i64 m.err, .int .i64 m.st, .int .i64 m.ex, .int .i64 m.ix, .int .i64 m.bt] 29)) := (q4.block _ (Nat.lt_of_lt_of_le (lt_16 HRc.out) hb3.size)).trans ((hb3.block _ (lt_16 HRc.out)).trans HRc.out)
      have HXd : Hid ((W3.alloc (.cells #[.int .u64 (hI xx), .int .u64 (lI xx)] 25)).heap[W3.heap.size]? = some (.cells #[.int .u64 (hI xx), .int .u64 (lI xx)] 25)) := new_16 _ _
      obtain ⟨b0, b1, b2, b3⟩ := HBd.out.cb
      clear KF2 hb3 q4 HBc HRc
      go_wp2_with fail
      clear b0 b1 b2 b3
      generalize W3.alloc (.cells #[.int .u64 (hI xx), .int .u64 (lI xx)] 25) = Wd at *
      refine (KF3 _).mono ?_
      rintro e W4 ⟨rfl, hb4⟩
      have HBe := hid13 (HBd.out.below hb4)
      have HN3 : W3.heap.size ≠ w.heap.size + 1 := HN3h.out
      have HRe : Hid (W4.heap[W2.heap.size]? = some (.cells #[.int .i64 m.hop, .int .i64 m.err, .int .i64 m.st, .int .i64 m.ex, .int .i64 m.ix, .int .i64 m.bt] 29) ∧ W2.heap.size ≠ w.heap.size + 1) := ⟨(hb4.block _ (lt_16 HRd.out)).trans HRd.out, fun q => (by have h1 := HRd.out; have h2 := HBd.out.b; rw [q, h2] at h1; injection h1 with h1; injection h1 with h3 h4; exact absurd h4 (by decide))⟩
      have HXe : Hid (W4.heap[W3.heap.size]? = some (.cells #[.int .u64 (hI xx), .int .u64 (lI xx)] 25) ∧ W3.heap.size ≠ w.heap.size + 1) := ⟨(hb4.block _ (lt_16 HXd.out)).trans HXd.out, HN3⟩
      obtain ⟨b0, b1, b2, b3⟩ := HBe.out.cb
      clear KF3 hb4 HBd HRd HXd
      go_wp2_with fail
      have HVb : Hid (Bx9 w x1 u1 ((W4.setCell ⟨w.heap.size + 1, 0, none⟩ (.int .u64 (hI u1))).setCell ⟨w.heap.size + 1, 1, none⟩ (.int .u64 (lI u1)))) := HBe.out.setB u1
      have HVr : Hid (((W4.setCell ⟨w.heap.size + 1, 0, none⟩ (.int .u64 (hI u1))).setCell ⟨w.heap.size + 1, 1, none⟩ (.int .u64 (lI u1))).heap[W2.heap.size]? = some (.cells #[.int .i64 m.hop, .int .i64 m.err, .int .i64 m.st, .int .i64 m.ex, .int .i64 m.ix, .int .i64 m.bt] 29)) := (far_16 HRe.out.2).trans ((far_16 HRe.out.2).trans HRe.out.1)
      have HVx : Hid (((W4.setCell ⟨w.heap.size + 1, 0, none⟩ (.int .u64 (hI u1))).setCell ⟨w.heap.size + 1, 1, none⟩ (.int .u64 (lI u1))).heap[W3.heap.size]? = some (.cells #[.int .u64 (hI xx), .int .u64 (lI xx)] 25)) := (far_16 HXe.out.2).trans ((far_16 HXe.out.2).trans HXe.out.1)
      generalize (W4.setCell ⟨w.heap.size + 1, 0, none⟩ (.int .u64 (hI u1))).setCell ⟨w.heap.size + 1, 1, none⟩ (.int .u64 (lI u1)) = Wb at HVb HVr HVx ⊢
      have HR0 : Hid (RX19 w Wb x1 u1 W2.heap.size W3.heap.size m xx y false false 0 Wb.drew) := ⟨HVb.out.below (Below.refl _ _).drew, (Below.refl _ _).drew, fun q => (by cases q), fun q => (by cases q), fun q => (by cases q)⟩
      clear HBe HRe HXe b0 b1 b2 b3
      refine gh_region (γ := Nat) (qpOk 19 19 (by decide) (fun N => by kernel_rfl) (by kernel_rfl) (by kernel_rfl) (by kernel_rfl) (by kernel_rfl)) (by kernel_rfl) (by kernel_rfl) [some 33, some 34, some 35, some 36, some 37, some 38, some 39, some 40, some 41, some 42, some 43, some 44, some 45, some 46, some 47, some 48, some 49, some 12, none] (fun g => [.pointer (some ⟨w.heap.size + 1, 0, none⟩), .int .u64 (hI u1), .agg #[.int .u64 18446744073709551615, .int .u64 18446744073709551615], .pointer (some ⟨W2.heap.size, 5, none⟩), .int .i64 m.bt, .agg #[.int .u64 (hI ma), .int .u64 (lI ma)], .int .u64 (hI ma), .int .u64 (hI y), .pointer (some ⟨w.heap.size + 1, 1, none⟩), .int .u64 (lI u1), .agg #[.int .u64 18446744073709551615, .int .u64 18446744073709551615], .pointer (some ⟨W2.heap.size, 5, none⟩), .int .i64 m.bt, .agg #[.int .u64 (hI ma), .int .u64 (lI ma)], .int .u64 (lI ma), .int .u64 (lI y), .agg #[.int .u64 (hI y), .int .u64 (lI y)], .pointer (some ⟨g, 0, none⟩), undef]) (by kernel_rfl) (by simp) (fun lp g X => RX19 w Wb x1 u1 W2.heap.size W3.heap.size m xx y (lp.getD 17 false) (lp.getD 18 false) g X) 0 HR0.out ?step12 ?fin12
      case step12 =>
        intro q o lp g w' a' ho hsz hun hdep hR hS K Q' hK
        have hfl : ∀ j, j ≠ q → (lp.setIfInBounds q true).getD j false = lp.getD j false := fun j hj => by rw [Array.getD_eq_getD_getElem?, Array.getD_eq_getD_getElem?, Array.getElem?_setIfInBounds_ne (by omega)]
        have hq : q < 19 := (List.getElem?_eq_some_iff.mp ho).1
        match q, ho, hun, hdep, hK, hfl, hq with
        | 0, ho, hun, hdep, hK, hfl, _ =>
          obtain rfl := Option.some.inj ho
          have o7 : a'.tmps[7]? = some (.pointer (some ⟨w.heap.size + 1, 0, none⟩)) := (hS.old14 7 (by simp)).trans rfl
          have hK' := hK g w' (fun _ _ _ _ _ _ => rfl) (by rw [hfl 17 (by decide), hfl 18 (by decide)]; exact hR) (.pointer (some ⟨w.heap.size + 1, 0, none⟩)) (by simp only [valO, Option.bind_some]; (try simp only [putAll, Act.put, List.setIfInBounds_toArray, List.set_cons_zero, List.set_cons_succ]); (try rfl))
          clear hS hdep hR
          refine gh_quiet14 (v := .pointer (some ⟨w.heap.size + 1, 0, none⟩)) ?_ ?_
          · (simp only [execOp, Act.eval, o7]; go_simp; first | done | (simp; done) | (simp [*]; done) | omega | (rw [IntKind.wrap_i64]; omega))
          · exact hK'
        | 1, ho, hun, hdep, hK, hfl, _ =>
          obtain rfl := Option.some.inj ho
          have d0 : lp.getD 0 false = true := hdep { on := 0, ground := .data } (by simp) rfl
          have e33 : a'.tmps[33]? = some (.pointer (some ⟨w.heap.size + 1, 0, none⟩)) := (hS.don 0 _ 33 rfl d0 rfl).trans (by simp only [putAll, Act.put, List.setIfInBounds_toArray, List.set_cons_zero, List.set_cons_succ]; rfl)
          obtain ⟨z0, z1, z2, z3⟩ := hR.b.cb
          have hK' := hK g w' (fun _ _ _ _ _ _ => rfl) (by rw [hfl 17 (by decide), hfl 18 (by decide)]; exact hR) (.int .u64 (hI u1)) (by simp only [valO, Option.bind_some]; (try simp only [putAll, Act.put, List.setIfInBounds_toArray, List.set_cons_zero, List.set_cons_succ]); (try rfl))
          clear hS hdep hR
          refine gh_quiet14 (v := .int .u64 (hI u1)) ?_ ?_
          · (simp only [execOp, Act.eval, e33]; go_simp; first | done | (simp; done) | (simp [*]; done) | omega | (rw [IntKind.wrap_i64]; omega))
          · exact hK'
        | 2, ho, hun, hdep, hK, hfl, _ =>
          obtain rfl := Option.some.inj ho
          have hK' := hK g w' (fun _ _ _ _ _ _ => rfl) (by rw [hfl 17 (by decide), hfl 18 (by decide)]; exact hR) (.agg #[.int .u64 18446744073709551615, .int .u64 18446744073709551615]) (by simp only [valO, Option.bind_some]; (try simp only [putAll, Act.put, List.setIfInBounds_toArray, List.set_cons_zero, List.set_cons_succ]); (try rfl))
          clear hS hdep hR
          refine gh_quiet14 (v := .agg #[.int .u64 18446744073709551615, .int .u64 18446744073709551615]) ?_ ?_
          · (simp only [execOp, Act.eval]; go_simp; first | done | (simp; done) | (simp [*]; done) | omega | (rw [IntKind.wrap_i64]; omega))
          · exact hK'
        | 3, ho, hun, hdep, hK, hfl, _ =>
          obtain rfl := Option.some.inj ho
          have o10 : a'.tmps[10]? = some (.pointer (some ⟨W2.heap.size, 0, none⟩)) := (hS.old14 10 (by simp)).trans rfl
          have hK' := hK g w' (fun _ _ _ _ _ _ => rfl) (by rw [hfl 17 (by decide), hfl 18 (by decide)]; exact hR) (.pointer (some ⟨W2.heap.size, 5, none⟩)) (by simp only [valO, Option.bind_some]; (try simp only [putAll, Act.put, List.setIfInBounds_toArray, List.set_cons_zero, List.set_cons_succ]); (try rfl))
          clear hS hdep hR
          refine gh_quiet14 (v := .pointer (some ⟨W2.heap.size, 5, none⟩)) ?_ ?_
          · (simp only [execOp, Act.eval, o10]; go_simp; first | done | (simp; done) | (simp [*]; done) | omega | (rw [IntKind.wrap_i64]; omega))
          · exact hK'
        | 4, ho, hun, hdep, hK, hfl, _ =>
          obtain rfl := Option.some.inj ho
          have d3 : lp.getD 3 false = true := hdep { on := 3, ground := .data } (by simp) rfl
          have e36 : a'.tmps[36]? = some (.pointer (some ⟨W2.heap.size, 5, none⟩)) := (hS.don 3 _ 36 rfl d3 rfl).trans (by simp only [putAll, Act.put, List.setIfInBounds_toArray, List.set_cons_zero, List.set_cons_succ]; rfl)
          have hr := (hR.lo.block _ (lt_16 HVr.out)).trans HVr.out
          have r5 : w'.cell? ⟨W2.heap.size, 5, none⟩ = some (.int .i64 m.bt) := at_16 hr 5 _ rfl
          have hK' := hK g w' (fun _ _ _ _ _ _ => rfl) (by rw [hfl 17 (by decide), hfl 18 (by decide)]; exact hR) (.int .i64 m.bt) (by simp only [valO, Option.bind_some]; (try simp only [putAll, Act.put, List.setIfInBounds_toArray, List.set_cons_zero, List.set_cons_succ]); (try rfl))
          clear hS hdep hR
          refine gh_quiet14 (v := .int .i64 m.bt) ?_ ?_
          · (simp only [execOp, Act.eval, e36]; go_simp; first | done | (simp; done) | (simp [*]; done) | omega | (rw [IntKind.wrap_i64]; omega))
          · exact hK'
        | 5, ho, hun, hdep, hK, hfl, _ =>
          obtain rfl := Option.some.inj ho
          have d2 : lp.getD 2 false = true := hdep { on := 2, ground := .data } (by simp) rfl
          have e35 : a'.tmps[35]? = some (.agg #[.int .u64 18446744073709551615, .int .u64 18446744073709551615]) := (hS.don 2 _ 35 rfl d2 rfl).trans (by simp only [putAll, Act.put, List.setIfInBounds_toArray, List.set_cons_zero, List.set_cons_succ]; rfl)
          have d4 : lp.getD 4 false = true := hdep { on := 4, ground := .data } (by simp) rfl
          have e37 : a'.tmps[37]? = some (.int .i64 m.bt) := (hS.don 4 _ 37 rfl d4 rfl).trans (by simp only [putAll, Act.put, List.setIfInBounds_toArray, List.set_cons_zero, List.set_cons_succ]; rfl)
          have KC := HF4.out w'
          clear hdep
          unfold Oper.wp
          simp only [execOp, Act.eval, Array.getD_eq_getD_getElem?]
          simp [go_sem, e35, e37, Oper.upon]
          refine KC.mono ?_
          rintro e W2 ⟨rfl, hb⟩
          exact hK g W2 (fun _ _ _ _ _ _ => rfl) (by rw [hfl 17 (by decide), hfl 18 (by decide)]; exact ⟨hR.b.below hb, hR.lo.trans (hb.mono hR.lo.size), fun h1 h2 => ⟨(hb.block _ (lt_16 (hR.l h1 h2).1)).trans (hR.l h1 h2).1, (hR.l h1 h2).2⟩, fun h1 => ⟨(hb.block _ (lt_16 (hR.s h1).1)).trans (hR.s h1).1, (hR.s h1).2⟩, hR.p⟩) _ (by simp only [valO, Option.bind_some]; simp only [putAll, Act.put, List.setIfInBounds_toArray, List.set_cons_zero, List.set_cons_succ]; rfl)
        | 6, ho, hun, hdep, hK, hfl, _ =>
          obtain rfl := Option.some.inj ho
          have d5 : lp.getD 5 false = true := hdep { on := 5, ground := .data } (by simp) rfl
          have e38 : a'.tmps[38]? = some (.agg #[.int .u64 (hI ma), .int .u64 (lI ma)]) := (hS.don 5 _ 38 rfl d5 rfl).trans (by simp only [putAll, Act.put, List.setIfInBounds_toArray, List.set_cons_zero, List.set_cons_succ]; rfl)
          have hfd := field0_19 (hI ma) (lI ma) w'
          have hK' := hK g w' (fun _ _ _ _ _ _ => rfl) (by rw [hfl 17 (by decide), hfl 18 (by decide)]; exact hR) (.int .u64 (hI ma)) (by simp only [valO, Option.bind_some]; (try simp only [putAll, Act.put, List.setIfInBounds_toArray, List.set_cons_zero, List.set_cons_succ]); (try rfl))
          clear hS hdep hR
          refine gh_quiet14 (v := .int .u64 (hI ma)) ?_ ?_
          · (simp only [execOp, Act.eval, e38]; go_simp; first | done | (simp; done) | (simp [*]; done) | omega | (rw [IntKind.wrap_i64]; omega))
          · exact hK'
        | 7, ho, hun, hdep, hK, hfl, _ =>
          obtain rfl := Option.some.inj ho
          have d1 : lp.getD 1 false = true := hdep { on := 1, ground := .data } (by simp) rfl
          have e34 : a'.tmps[34]? = some (.int .u64 (hI u1)) := (hS.don 1 _ 34 rfl d1 rfl).trans (by simp only [putAll, Act.put, List.setIfInBounds_toArray, List.set_cons_zero, List.set_cons_succ]; rfl)
          have d6 : lp.getD 6 false = true := hdep { on := 6, ground := .data } (by simp) rfl
          have e39 : a'.tmps[39]? = some (.int .u64 (hI ma)) := (hS.don 6 _ 39 rfl d6 rfl).trans (by simp only [putAll, Act.put, List.setIfInBounds_toArray, List.set_cons_zero, List.set_cons_succ]; rfl)
          have hyy := HHy.out.1
          have hK' := hK g w' (fun _ _ _ _ _ _ => rfl) (by rw [hfl 17 (by decide), hfl 18 (by decide)]; exact hR) (.int .u64 (hI y)) (by simp only [valO, Option.bind_some]; (try simp only [putAll, Act.put, List.setIfInBounds_toArray, List.set_cons_zero, List.set_cons_succ]); (try rfl))
          clear hS hdep hR
          refine gh_quiet14 (v := .int .u64 (hI y)) ?_ ?_
          · (simp only [execOp, Act.eval, e34, e39]; go_simp; first | done | (simp; done) | (simp [*]; done) | omega | (rw [IntKind.wrap_i64]; omega))
          · exact hK'
        | 8, ho, hun, hdep, hK, hfl, _ =>
          obtain rfl := Option.some.inj ho
          have o7 : a'.tmps[7]? = some (.pointer (some ⟨w.heap.size + 1, 0, none⟩)) := (hS.old14 7 (by simp)).trans rfl
          have hK' := hK g w' (fun _ _ _ _ _ _ => rfl) (by rw [hfl 17 (by decide), hfl 18 (by decide)]; exact hR) (.pointer (some ⟨w.heap.size + 1, 1, none⟩)) (by simp only [valO, Option.bind_some]; (try simp only [putAll, Act.put, List.setIfInBounds_toArray, List.set_cons_zero, List.set_cons_succ]); (try rfl))
          clear hS hdep hR
          refine gh_quiet14 (v := .pointer (some ⟨w.heap.size + 1, 1, none⟩)) ?_ ?_
          · (simp only [execOp, Act.eval, o7]; go_simp; first | done | (simp; done) | (simp [*]; done) | omega | (rw [IntKind.wrap_i64]; omega))
          · exact hK'
        | 9, ho, hun, hdep, hK, hfl, _ =>
          obtain rfl := Option.some.inj ho
          have d8 : lp.getD 8 false = true := hdep { on := 8, ground := .data } (by simp) rfl
          have e41 : a'.tmps[41]? = some (.pointer (some ⟨w.heap.size + 1, 1, none⟩)) := (hS.don 8 _ 41 rfl d8 rfl).trans (by simp only [putAll, Act.put, List.setIfInBounds_toArray, List.set_cons_zero, List.set_cons_succ]; rfl)
          obtain ⟨z0, z1, z2, z3⟩ := hR.b.cb
          have hK' := hK g w' (fun _ _ _ _ _ _ => rfl) (by rw [hfl 17 (by decide), hfl 18 (by decide)]; exact hR) (.int .u64 (lI u1)) (by simp only [valO, Option.bind_some]; (try simp only [putAll, Act.put, List.setIfInBounds_toArray, List.set_cons_zero, List.set_cons_succ]); (try rfl))
          clear hS hdep hR
          refine gh_quiet14 (v := .int .u64 (lI u1)) ?_ ?_
          · (simp only [execOp, Act.eval, e41]; go_simp; first | done | (simp; done) | (simp [*]; done) | omega | (rw [IntKind.wrap_i64]; omega))
          · exact hK'
        | 10, ho, hun, hdep, hK, hfl, _ =>
          obtain rfl := Option.some.inj ho
          have hK' := hK g w' (fun _ _ _ _ _ _ => rfl) (by rw [hfl 17 (by decide), hfl 18 (by decide)]; exact hR) (.agg #[.int .u64 18446744073709551615, .int .u64 18446744073709551615]) (by simp only [valO, Option.bind_some]; (try simp only [putAll, Act.put, List.setIfInBounds_toArray, List.set_cons_zero, List.set_cons_succ]); (try rfl))
          clear hS hdep hR
          refine gh_quiet14 (v := .agg #[.int .u64 18446744073709551615, .int .u64 18446744073709551615]) ?_ ?_
          · (simp only [execOp, Act.eval]; go_simp; first | done | (simp; done) | (simp [*]; done) | omega | (rw [IntKind.wrap_i64]; omega))
          · exact hK'
        | 11, ho, hun, hdep, hK, hfl, _ =>
          obtain rfl := Option.some.inj ho
          have o10 : a'.tmps[10]? = some (.pointer (some ⟨W2.heap.size, 0, none⟩)) := (hS.old14 10 (by simp)).trans rfl
          have hK' := hK g w' (fun _ _ _ _ _ _ => rfl) (by rw [hfl 17 (by decide), hfl 18 (by decide)]; exact hR) (.pointer (some ⟨W2.heap.size, 5, none⟩)) (by simp only [valO, Option.bind_some]; (try simp only [putAll, Act.put, List.setIfInBounds_toArray, List.set_cons_zero, List.set_cons_succ]); (try rfl))
          clear hS hdep hR
          refine gh_quiet14 (v := .pointer (some ⟨W2.heap.size, 5, none⟩)) ?_ ?_
          · (simp only [execOp, Act.eval, o10]; go_simp; first | done | (simp; done) | (simp [*]; done) | omega | (rw [IntKind.wrap_i64]; omega))
          · exact hK'
        | 12, ho, hun, hdep, hK, hfl, _ =>
          obtain rfl := Option.some.inj ho
          have d11 : lp.getD 11 false = true := hdep { on := 11, ground := .data } (by simp) rfl
          have e44 : a'.tmps[44]? = some (.pointer (some ⟨W2.heap.size, 5, none⟩)) := (hS.don 11 _ 44 rfl d11 rfl).trans (by simp only [putAll, Act.put, List.setIfInBounds_toArray, List.set_cons_zero, List.set_cons_succ]; rfl)
          have hr := (hR.lo.block _ (lt_16 HVr.out)).trans HVr.out
          have r5 : w'.cell? ⟨W2.heap.size, 5, none⟩ = some (.int .i64 m.bt) := at_16 hr 5 _ rfl
          have hK' := hK g w' (fun _ _ _ _ _ _ => rfl) (by rw [hfl 17 (by decide), hfl 18 (by decide)]; exact hR) (.int .i64 m.bt) (by simp only [valO, Option.bind_some]; (try simp only [putAll, Act.put, List.setIfInBounds_toArray, List.set_cons_zero, List.set_cons_succ]); (try rfl))
          clear hS hdep hR
          refine gh_quiet14 (v := .int .i64 m.bt) ?_ ?_
          · (simp only [execOp, Act.eval, e44]; go_simp; first | done | (simp; done) | (simp [*]; done) | omega | (rw [IntKind.wrap_i64]; omega))
          · exact hK'
        | 13, ho, hun, hdep, hK, hfl, _ =>
          obtain rfl := Option.some.inj ho
          have d10 : lp.getD 10 false = true := hdep { on := 10, ground := .data } (by simp) rfl
          have e43 : a'.tmps[43]? = some (.agg #[.int .u64 18446744073709551615, .int .u64 18446744073709551615]) := (hS.don 10 _ 43 rfl d10 rfl).trans (by simp only [putAll, Act.put, List.setIfInBounds_toArray, List.set_cons_zero, List.set_cons_succ]; rfl)
          have d12 : lp.getD 12 false = true := hdep { on := 12, ground := .data } (by simp) rfl
          have e45 : a'.tmps[45]? = some (.int .i64 m.bt) := (hS.don 12 _ 45 rfl d12 rfl).trans (by simp only [putAll, Act.put, List.setIfInBounds_toArray, List.set_cons_zero, List.set_cons_succ]; rfl)
          have KC := HF4.out w'
          clear hdep
          unfold Oper.wp
          simp only [execOp, Act.eval, Array.getD_eq_getD_getElem?]
          simp [go_sem, e43, e45, Oper.upon]
          refine KC.mono ?_
          rintro e W2 ⟨rfl, hb⟩
          exact hK g W2 (fun _ _ _ _ _ _ => rfl) (by rw [hfl 17 (by decide), hfl 18 (by decide)]; exact ⟨hR.b.below hb, hR.lo.trans (hb.mono hR.lo.size), fun h1 h2 => ⟨(hb.block _ (lt_16 (hR.l h1 h2).1)).trans (hR.l h1 h2).1, (hR.l h1 h2).2⟩, fun h1 => ⟨(hb.block _ (lt_16 (hR.s h1).1)).trans (hR.s h1).1, (hR.s h1).2⟩, hR.p⟩) _ (by simp only [valO, Option.bind_some]; simp only [putAll, Act.put, List.setIfInBounds_toArray, List.set_cons_zero, List.set_cons_succ]; rfl)
        | 14, ho, hun, hdep, hK, hfl, _ =>
          obtain rfl := Option.some.inj ho
          have d13 : lp.getD 13 false = true := hdep { on := 13, ground := .data } (by simp) rfl
          have e46 : a'.tmps[46]? = some (.agg #[.int .u64 (hI ma), .int .u64 (lI ma)]) := (hS.don 13 _ 46 rfl d13 rfl).trans (by simp only [putAll, Act.put, List.setIfInBounds_toArray, List.set_cons_zero, List.set_cons_succ]; rfl)
          have hfd := field1_19 (hI ma) (lI ma) w'
          have hK' := hK g w' (fun _ _ _ _ _ _ => rfl) (by rw [hfl 17 (by decide), hfl 18 (by decide)]; exact hR) (.int .u64 (lI ma)) (by simp only [valO, Option.bind_some]; (try simp only [putAll, Act.put, List.setIfInBounds_toArray, List.set_cons_zero, List.set_cons_succ]); (try rfl))
          clear hS hdep hR
          refine gh_quiet14 (v := .int .u64 (lI ma)) ?_ ?_
          · (simp only [execOp, Act.eval, e46]; go_simp; first | done | (simp; done) | (simp [*]; done) | omega | (rw [IntKind.wrap_i64]; omega))
          · exact hK'
        | 15, ho, hun, hdep, hK, hfl, _ =>
          obtain rfl := Option.some.inj ho
          have d9 : lp.getD 9 false = true := hdep { on := 9, ground := .data } (by simp) rfl
          have e42 : a'.tmps[42]? = some (.int .u64 (lI u1)) := (hS.don 9 _ 42 rfl d9 rfl).trans (by simp only [putAll, Act.put, List.setIfInBounds_toArray, List.set_cons_zero, List.set_cons_succ]; rfl)
          have d14 : lp.getD 14 false = true := hdep { on := 14, ground := .data } (by simp) rfl
          have e47 : a'.tmps[47]? = some (.int .u64 (lI ma)) := (hS.don 14 _ 47 rfl d14 rfl).trans (by simp only [putAll, Act.put, List.setIfInBounds_toArray, List.set_cons_zero, List.set_cons_succ]; rfl)
          have hyy := HHy.out.2
          have hK' := hK g w' (fun _ _ _ _ _ _ => rfl) (by rw [hfl 17 (by decide), hfl 18 (by decide)]; exact hR) (.int .u64 (lI y)) (by simp only [valO, Option.bind_some]; (try simp only [putAll, Act.put, List.setIfInBounds_toArray, List.set_cons_zero, List.set_cons_succ]); (try rfl))
          clear hS hdep hR
          refine gh_quiet14 (v := .int .u64 (lI y)) ?_ ?_
          · (simp only [execOp, Act.eval, e42, e47]; go_simp; first | done | (simp; done) | (simp [*]; done) | omega | (rw [IntKind.wrap_i64]; omega))
          · exact hK'
        | 16, ho, hun, hdep, hK, hfl, _ =>
          obtain rfl := Option.some.inj ho
          have d7 : lp.getD 7 false = true := hdep { on := 7, ground := .data } (by simp) rfl
          have e40 : a'.tmps[40]? = some (.int .u64 (hI y)) := (hS.don 7 _ 40 rfl d7 rfl).trans (by simp only [putAll, Act.put, List.setIfInBounds_toArray, List.set_cons_zero, List.set_cons_succ]; rfl)
          have d15 : lp.getD 15 false = true := hdep { on := 15, ground := .data } (by simp) rfl
          have e48 : a'.tmps[48]? = some (.int .u64 (lI y)) := (hS.don 15 _ 48 rfl d15 rfl).trans (by simp only [putAll, Act.put, List.setIfInBounds_toArray, List.set_cons_zero, List.set_cons_succ]; rfl)
          have hK' := hK g w' (fun _ _ _ _ _ _ => rfl) (by rw [hfl 17 (by decide), hfl 18 (by decide)]; exact hR) (.agg #[.int .u64 (hI y), .int .u64 (lI y)]) (by simp only [valO, Option.bind_some]; (try simp only [putAll, Act.put, List.setIfInBounds_toArray, List.set_cons_zero, List.set_cons_succ]); (try rfl))
          clear hS hdep hR
          refine gh_quiet14 (v := .agg #[.int .u64 (hI y), .int .u64 (lI y)]) ?_ ?_
          · (simp only [execOp, Act.eval, e40, e48]; go_simp; first | done | (simp; done) | (simp [*]; done) | omega | (rw [IntKind.wrap_i64]; omega))
          · exact hK'
        | 17, ho, hun, hdep, hK, hfl, _ =>
          obtain rfl := Option.some.inj ho
          have n18 : lp.getD 18 false = false := by
            cases h : lp.getD 18 false with
            | false => rfl
            | true => have := hR.p h; rw [hun] at this; cases this
          have q := bl1 w' (.cells #[.int .u64 0, .int .u64 0] 25)
          have hK' := hK w'.heap.size (w'.alloc (.cells #[.int .u64 0, .int .u64 0] 25)) (fun k' ok s hk hl hd => gh_same14 (d := 12) (s := s) (by simp only [putAll, Act.put, List.setIfInBounds_toArray, List.set_cons_zero, List.set_cons_succ]; rfl) (by rintro rfl; have := dstG_of (by kernel_rfl) k' 17 ok _ 12 hk rfl hd rfl; subst this; rw [hun] at hl; cases hl)) (by rw [hfl 18 (by decide), getD_set_same (by rw [hsz]; decide)]; exact ⟨hR.b.below q, keepb q hR.lo, fun _ _ => ⟨new_16 _ _, hR.lo.size⟩, fun h1 => (by rw [n18] at h1; cases h1), fun _ => rfl⟩) (.pointer (some ⟨w'.heap.size, 0, none⟩)) (by simp only [valO, Option.bind_some]; simp only [putAll, Act.put, List.setIfInBounds_toArray, List.set_cons_zero, List.set_cons_succ]; rfl)
          clear hS hdep hR hK q
          unfold Oper.wp
          simp only [execOp, Act.eval, Array.getD_eq_getD_getElem?]
          simp [go_sem, Oper.upon]
          exact hK'
        | 18, ho, hun, hdep, hK, hfl, _ =>
          obtain rfl := Option.some.inj ho
          have d17 : lp.getD 17 false = true := hdep { on := 17, ground := .data } (by simp) rfl
          have e12 : a'.tmps[12]? = some (.pointer (some ⟨g, 0, none⟩)) := (hS.don 17 _ 12 rfl d17 rfl).trans (by simp only [putAll, Act.put, List.setIfInBounds_toArray, List.set_cons_zero, List.set_cons_succ]; rfl)
          have d16 : lp.getD 16 false = true := hdep { on := 16, ground := .data } (by simp) rfl
          have e49 : a'.tmps[49]? = some (.agg #[.int .u64 (hI y), .int .u64 (lI y)]) := (hS.don 16 _ 49 rfl d16 rfl).trans (by simp only [putAll, Act.put, List.setIfInBounds_toArray, List.set_cons_zero, List.set_cons_succ]; rfl)
          obtain ⟨l1, l2⟩ := hR.l d17 hun
          have k0 := at_16 l1 0 _ rfl
          have k1 := at_16 l1 1 _ rfl
          have f0 := fr_16 (j := 0) l1
          have f1 := fr_16 (j := 1) l1
          have g1 : w.heap.size + 1 < Wb.heap.size := lt_16 HVb.out.b
          have hK' := hK g ((w'.setCell ⟨g, 0, none⟩ (.int .u64 (hI y))).setCell ⟨g, 1, none⟩ (.int .u64 (lI y))) (fun _ _ _ _ _ _ => rfl) (by rw [hfl 17 (by decide), getD_set_same (by rw [hsz]; decide)]; exact ⟨⟨(hR.b.lo.setCell (p := ⟨g, 0, none⟩) (show w.heap.size ≤ g by omega) _).setCell (p := ⟨g, 1, none⟩) (show w.heap.size ≤ g by omega) _, (far_16 (by omega)).trans ((far_16 (by omega)).trans hR.b.a), (far_16 (by omega)).trans ((far_16 (by omega)).trans hR.b.b)⟩, (hR.lo.setCell (p := ⟨g, 0, none⟩) l2 _).setCell (p := ⟨g, 1, none⟩) l2 _, fun _ h => (by cases h), fun _ => ⟨by rw [set_16 (set_16 l1 _) _]; rfl, l2⟩, fun _ => d17⟩) undef rfl
          clear hS hdep hR hK l1
          unfold Oper.wp
          simp only [execOp, Act.eval, Array.getD_eq_getD_getElem?]
          simp [go_sem, e12, e49, k0, k1, f0, f1, Oper.upon]
          exact hK'
        | n + 19, ho, hun, hdep, hK, hfl, hq => exact absurd hq (by omega)
      case fin12 =>
        intro g X hX
        have h9 := hX.s rfl
        have HX : Hid (Below w.heap.size w X ∧ X.heap[W2.heap.size]? = some (.cells #[.int .i64 m.hop, .int .i64 m.err, .int .i64 m.st, .int .i64 m.ex, .int .i64 m.ix, .int .i64 m.bt] 29) ∧ X.heap[W3.heap.size]? = some (.cells #[.int .u64 (hI xx), .int .u64 (lI xx)] 25) ∧ X.heap[g]? = some (.cells #[.int .u64 (hI y), .int .u64 (lI y)] 25)) := ⟨hX.b.lo, (hX.lo.block _ (lt_16 HVr.out)).trans HVr.out, (hX.lo.block _ (lt_16 HVx.out)).trans HVx.out, h9.1⟩
        have KR9 := fun W hW => HRn.out (xx ||| y) W (.inr hW)
        rw [HFin.out] at KR9
        have hqB := fun W => eqR_run m.hop m.err m.st m.ex m.ix m.bt m.hop m.err m.st m.ex m.ix m.bt W
        simp only [beq_self_eq_true, Bool.and_true, Bool.and_self] at hqB
        clear hX h9 HVr HVx HVb HR0 HRn HFin HHy HF4
        simp only [putAll, Act.put, List.setIfInBounds_toArray, List.set_cons_zero, List.set_cons_succ]
        go_wp2_with fail
        refine qw_region (C := (fun X => Below w.heap.size w X ∧ X.heap[W2.heap.size]? = some (.cells #[.int .i64 m.hop, .int .i64 m.err, .int .i64 m.st, .int .i64 m.ex, .int .i64 m.ix, .int .i64 m.bt] 29) ∧ X.heap[W3.heap.size]? = some (.cells #[.int .u64 (hI xx), .int .u64 (lI xx)] 25) ∧ X.heap[g]? = some (.cells #[.int .u64 (hI y), .int .u64 (lI y)] 25))) (by kernel_rfl) (by kernel_rfl) ⟨HX.out.1.drew, HX.out.2.1, HX.out.2.2.1, HX.out.2.2.2⟩ ?_
        refine qw_run (v := .int .i64 F) (by rfl) ?_ ?_
        · (intro w9 hC; clear hC; go_simp; first | done | (simp; done) | (simp [*]; done) | omega | (simp; omega) | (rw [IntKind.wrap_i64]; omega) | (intro hx; omega) | rfl)
        simp only [Act.put, List.setIfInBounds_toArray, List.set_cons_zero, List.set_cons_succ]
        refine qw_run (v := .slice ao l.length cc) (by rfl) ?_ ?_
        · (intro w9 hC; clear hC; go_simp; first | done | (simp; done) | (simp [*]; done) | omega | (simp; omega) | (rw [IntKind.wrap_i64]; omega) | (intro hx; omega) | rfl)
        simp only [Act.put, List.setIfInBounds_toArray, List.set_cons_zero, List.set_cons_succ]
        refine qw_run (v := .pointer (some ⟨W3.heap.size, 0, none⟩)) (by rfl) ?_ ?_
        · (intro w9 hC; clear hC; go_simp; first | done | (simp; done) | (simp [*]; done) | omega | (simp; omega) | (rw [IntKind.wrap_i64]; omega) | (intro hx; omega) | rfl)
        simp only [Act.put, List.setIfInBounds_toArray, List.set_cons_zero, List.set_cons_succ]
        refine qw_run (v := .int .u64 (hI xx)) (by rfl) ?_ ?_
        · (intro w9 hC; have z0 := at_16 hC.2.2.1 0 _ rfl; have z1 := at_16 hC.2.2.1 1 _ rfl; clear hC; go_simp; first | done | (simp; done) | (simp [*]; done) | omega | (simp; omega) | (rw [IntKind.wrap_i64]; omega) | (intro hx; omega) | rfl)
        simp only [Act.put, List.setIfInBounds_toArray, List.set_cons_zero, List.set_cons_succ]
        refine qw_run (v := .pointer (some ⟨g, 0, none⟩)) (by rfl) ?_ ?_
        · (intro w9 hC; clear hC; go_simp; first | done | (simp; done) | (simp [*]; done) | omega | (simp; omega) | (rw [IntKind.wrap_i64]; omega) | (intro hx; omega) | rfl)
        simp only [Act.put, List.setIfInBounds_toArray, List.set_cons_zero, List.set_cons_succ]
        refine qw_run (v := .int .u64 (hI y)) (by rfl) ?_ ?_
        · (intro w9 hC; have z0 := at_16 hC.2.2.2 0 _ rfl; have z1 := at_16 hC.2.2.2 1 _ rfl; clear hC; go_simp; first | done | (simp; done) | (simp [*]; done) | omega | (simp; omega) | (rw [IntKind.wrap_i64]; omega) | (intro hx; omega) | rfl)
        simp only [Act.put, List.setIfInBounds_toArray, List.set_cons_zero, List.set_cons_succ]
        refine qw_run (v := .int .u64 (hI (xx ||| y))) (by rfl) ?_ ?_
        · (intro w9 hC; have ho := or_h xx y; clear hC; go_simp; first | done | (simp; done) | (simp [*]; done) | omega | (simp; omega) | (rw [IntKind.wrap_i64]; omega) | (intro hx; omega) | rfl)
        simp only [Act.put, List.setIfInBounds_toArray, List.set_cons_zero, List.set_cons_succ]
        refine qw_run (v := .pointer (some ⟨W3.heap.size, 1, none⟩)) (by rfl) ?_ ?_
        · (intro w9 hC; clear hC; go_simp; first | done | (simp; done) | (simp [*]; done) | omega | (simp; omega) | (rw [IntKind.wrap_i64]; omega) | (intro hx; omega) | rfl)
        simp only [Act.put, List.setIfInBounds_toArray, List.set_cons_zero, List.set_cons_succ]
        refine qw_run (v := .int .u64 (lI xx)) (by rfl) ?_ ?_
        · (intro w9 hC; have z0 := at_16 hC.2.2.1 0 _ rfl; have z1 := at_16 hC.2.2.1 1 _ rfl; clear hC; go_simp; first | done | (simp; done) | (simp [*]; done) | omega | (simp; omega) | (rw [IntKind.wrap_i64]; omega) | (intro hx; omega) | rfl)
        simp only [Act.put, List.setIfInBounds_toArray, List.set_cons_zero, List.set_cons_succ]
        refine qw_run (v := .pointer (some ⟨g, 1, none⟩)) (by rfl) ?_ ?_
        · (intro w9 hC; clear hC; go_simp; first | done | (simp; done) | (simp [*]; done) | omega | (simp; omega) | (rw [IntKind.wrap_i64]; omega) | (intro hx; omega) | rfl)
        simp only [Act.put, List.setIfInBounds_toArray, List.set_cons_zero, List.set_cons_succ]
        refine qw_run (v := .int .u64 (lI y)) (by rfl) ?_ ?_
        · (intro w9 hC; have z0 := at_16 hC.2.2.2 0 _ rfl; have z1 := at_16 hC.2.2.2 1 _ rfl; clear hC; go_simp; first | done | (simp; done) | (simp [*]; done) | omega | (simp; omega) | (rw [IntKind.wrap_i64]; omega) | (intro hx; omega) | rfl)
        simp only [Act.put, List.setIfInBounds_toArray, List.set_cons_zero, List.set_cons_succ]
        refine qw_run (v := .int .u64 (lI (xx ||| y))) (by rfl) ?_ ?_
        · (intro w9 hC; have ho := or_l xx y; clear hC; go_simp; first | done | (simp; done) | (simp [*]; done) | omega | (simp; omega) | (rw [IntKind.wrap_i64]; omega) | (intro hx; omega) | rfl)
        simp only [Act.put, List.setIfInBounds_toArray, List.set_cons_zero, List.set_cons_succ]
        refine qw_run (v := .agg #[.int .u64 (hI (xx ||| y)), .int .u64 (lI (xx ||| y))]) (by rfl) ?_ ?_
        · (intro w9 hC; clear hC; go_simp; first | done | (simp; done) | (simp [*]; done) | omega | (simp; omega) | (rw [IntKind.wrap_i64]; omega) | (intro hx; omega) | rfl)
        simp only [Act.put, List.setIfInBounds_toArray, List.set_cons_zero, List.set_cons_succ]
        refine qw_call (v := .agg #[.int .i64 m.hop, .int .i64 m.err, .int .i64 m.st, .int .i64 m.ex, .int .i64 m.ix, .int .i64 m.bt]) (f := 10) (args := #[.int .i64 F, .slice ao l.length cc, .agg #[.int .u64 (hI (xx ||| y)), .int .u64 (lI (xx ||| y))], .int .i64 1048576]) (by rfl) ?_ ?_ ?_
        · (intro w9 hC; clear hC; go_simp; first | done | (simp; done) | rfl)
        · exact fun w9 hC => (KR9 w9 hC.1).mono fun e w' ⟨he, hb⟩ => ⟨he, ⟨hC.1.trans (hb.mono hC.1.size), (hb.block _ (lt_16 hC.2.1)).trans hC.2.1, (hb.block _ (lt_16 hC.2.2.1)).trans hC.2.2.1, (hb.block _ (lt_16 hC.2.2.2)).trans hC.2.2.2⟩⟩
        simp only [Act.put, List.setIfInBounds_toArray, List.set_cons_zero, List.set_cons_succ]
        refine qw_run (v := .agg #[.int .i64 m.hop, .int .i64 m.err, .int .i64 m.st, .int .i64 m.ex, .int .i64 m.ix, .int .i64 m.bt]) (by rfl) ?_ ?_
        · (intro w9 hC; have z0 := at_16 hC.2.1 0 _ rfl; have z1 := at_16 hC.2.1 1 _ rfl; have z2 := at_16 hC.2.1 2 _ rfl; have z3 := at_16 hC.2.1 3 _ rfl; have z4 := at_16 hC.2.1 4 _ rfl; have z5 := at_16 hC.2.1 5 _ rfl; clear hC; go_simp; first | done | (simp; done) | (simp [*]; done) | omega | (simp; omega) | (rw [IntKind.wrap_i64]; omega) | (intro hx; omega) | rfl)
        simp only [Act.put, List.setIfInBounds_toArray, List.set_cons_zero, List.set_cons_succ]
        refine qw_run (v := .bool true) (by rfl) ?_ ?_
        · (intro w9 hC; have hq := hqB w9; clear hC; go_simp; first | done | (simp; done) | (simp [*]; done) | omega | (simp; omega) | (rw [IntKind.wrap_i64]; omega) | (intro hx; omega) | rfl)
        simp only [Act.put, List.setIfInBounds_toArray, List.set_cons_zero, List.set_cons_succ]
        refine qw_run (v := .bool true) (by rfl) ?_ ?_
        · (intro w9 hC; clear hC; go_simp; first | done | (simp; done) | (simp [*]; done) | omega | (simp; omega) | (rw [IntKind.wrap_i64]; omega) | (intro hx; omega) | rfl)
        simp only [Act.put, List.setIfInBounds_toArray, List.set_cons_zero, List.set_cons_succ]
        refine qw_nil ?_
        intro X9 hX9
        have HX9 : Hid (Below w.heap.size w X9) := hX9.1
        clear hX9
        go_wp2
        go_ret
        exact ⟨rfl, HX9.out⟩
  · have n1 : ((l.length : Int) > 32768) := by omega
    have n1' : (32768 < (l.length : Int)) := by omega
    clear hl HA
    go_enter Try.func7, Try.ntmps7
    go_wp2_with fail
    rw [← hV]
    clear hV
    refine K0.mono ?_
    rintro e W1 ⟨rfl, hb1⟩
    have HB1 : Hid (Below w.heap.size w W1) := HB.out.lo.trans (hb1.mono HB.out.lo.size)
    clear K0 hb1 HB
    go_wp2
    go_ret
    exact ⟨rfl, HB1.out⟩
end Go.Proofs.Ytbgoclfifhdonaa
