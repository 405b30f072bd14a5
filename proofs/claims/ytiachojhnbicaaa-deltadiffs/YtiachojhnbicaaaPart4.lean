/-
  Part 4 of the proof: 1 texts, one behind the other.
-/
import Derived.Test.YtiachojhnbicaaaPart3
namespace Go.Proofs.Ytiachojhnbicaaa
open Go.RowKit Go.Shelf
set_option linter.unusedSimpArgs false
set_option linter.unusedVariables false

theorem rwx_mid21 {W : World} {ao : Option Addr} {n c k z : Nat} {l : List Nat} (h : RwX cB W (.slice ao n c) l) (hk : k + z ≤ l.length) : RwX cB W (.slice (if c = k then ao else ao.map (·.add (k * 1))) z (c - k)) ((l.drop k).take z) := by
  have h1 := rwx_from h (k := k) (by omega)
  have h2 : RwX cB W (.slice (if c = k then ao else ao.map (·.add (k * 1))) (l.length - k) (c - k)) ((l.drop k).take z ++ (l.drop k).drop z) := by rw [List.take_append_drop]; exact h1
  have h3 := rwx_take h2
  rw [List.length_take, List.length_drop, Nat.min_eq_left (by omega)] at h3
  exact h3
theorem csD_of (a b : List Nat) (k t : Nat) (h : ∀ j < t, a[a.length - 1 - j]? = b[b.length - 1 - j]?) (h1 : k + t ≤ a.length) (h2 : k + t ≤ b.length) (h3 : k + t = a.length ∨ k + t = b.length ∨ a[a.length - 1 - t]? ≠ b[b.length - 1 - t]?) : csN (a.drop k) (b.drop k) = t := by
  have e1 : (a.drop k).length = a.length - k := List.length_drop ..
  have e2 : (b.drop k).length = b.length - k := List.length_drop ..
  refine csN_of _ _ t ?_ (by omega) (by omega) ?_
  · intro j hj
    rw [e1, e2, List.getElem?_drop, List.getElem?_drop, show k + (a.length - k - 1 - j) = a.length - 1 - j by omega, show k + (b.length - k - 1 - j) = b.length - 1 - j by omega]
    exact h j hj
  · by_cases q1 : k + t = a.length
    · left; omega
    by_cases q2 : k + t = b.length
    · right; left; omega
    right; right
    rw [e1, e2, List.getElem?_drop, List.getElem?_drop, show k + (a.length - k - 1 - t) = a.length - 1 - t by omega, show k + (b.length - k - 1 - t) = b.length - 1 - t by omega]
    rcases h3 with h3 | h3 | h3
    · exact absurd h3 q1
    · exact absurd h3 q2
    · exact h3
theorem ptr_new21 (W : World) (p : Pt) (vx : Value) (T : TypeId) (h : RwX cB W vx p.x) (hA : RowA W 1 vx p.x.length (p.x.map cB)) : PtR21 (W.alloc (.cells #[.int .i64 p.k, .int .i64 p.d, vx] T)) (.slice (some ⟨W.heap.size, 0, none⟩) 1 1) [p] := by
  have q := bl1 W (.cells #[.int .i64 p.k, .int .i64 p.d, vx] T)
  refine ⟨_, 1, rfl, Nat.le_refl _, .inr ⟨W.heap.size, 0, rfl, fun j r hj => ?_⟩⟩
  have hj0 : j = 0 := by have := (List.getElem?_eq_some_iff.1 hj).1; simpa using this
  subst hj0
  simp only [List.getElem?_cons_zero, Option.some.injEq] at hj
  subst hj
  refine ⟨vx, ?_, ?_, ?_, h.below q, hA.below q⟩ <;> simp [go_sem]
set_option maxRecDepth 100000 in
set_option maxHeartbeats 8000000 in
theorem rdiff21 (v u : Value) (a b : List Nat) (w : World) (hv : RwX cB w v a) (hu : RwX cB w u b) (hB : RowA w 1 u b.length (b.map cB)) (hx : ∀ z ∈ a, z < 256) (hy : ∀ z ∈ b, z < 256) (hl : a.length ≤ 140737480000000) (hl2 : b.length ≤ 140737480000000) :
    Calls Try.prog 8 #[v, u] w fun e w' => ∃ v', e = .returned v' ∧ PtR21 w' v' (dfL a b) ∧ Below w.heap.size w w' := by
  obtain ⟨i0, hi, hz0, hz1, hz2⟩ := info13 Try.infoB13
  have c1 := conv13 hv hx
  have c2 := conv13 hu hy
  have hb := bsA_eq hx hy
  obtain ⟨ao, c, hvf, hc, -⟩ := id hv
  obtain ⟨bo, d, huf, hd, -⟩ := id hu
  subst hvf huf
  generalize bsA a = s at *
  generalize bsA b = t at *
  by_cases hab : a = b
  · have e1 : (s.toList == t.toList) = true := by rw [hb, decide_eq_true hab]
    have HD : Hid (∀ w', PtR21 w' (.slice none 0 0) (dfL a b)) := by
      intro w'
      unfold dfL
      rw [if_pos hab]
      exact ⟨none, 0, rfl, Nat.le_refl _, .inl rfl⟩
    clear hv hu hB hx hy hl hl2 hab hi hz0 hz1 hz2 hc hd hb
    go_enter Try.func8, Try.ntmps8
    go_wp2
    go_ret
    exact ⟨_, rfl, HD.out _, Below.refl _ _⟩
  have e1 : (s.toList == t.toList) = false := by rw [hb, decide_eq_false hab]
  have HD : Hid (dfL a b = [dfP a b]) := by show _ = _; unfold dfL; rw [if_neg hab]
  have HT : Hid (Bo21 w (.slice ao a.length c) (.slice bo b.length d) a b) := ⟨hv, hu⟩
  have HB : Hid (Below w.heap.size w w) := Below.refl _ _
  have HR := hid13 hB
  have HL : Hid (a.length ≤ 140737480000000 ∧ b.length ≤ 140737480000000 ∧ b.length ≤ d) := ⟨hl, hl2, hd⟩
  have HI := hid13 (And.intro hi hz1)
  clear hv hu hB hx hy hl hl2 hab hi hz0 hz1 hz2 hc hd hb
  go_enter Try.func8, Try.ntmps8
  go_wp2
  clear e1 c1 c2
  go_loopg [5] (min a.length b.length) (fun g x wr => ∃ (k : Nat), k + g = min a.length b.length ∧ x = .int .i64 (k : Int) ∧ Hid (Bo21 wr (.slice ao a.length c) (.slice bo b.length d) a b ∧ Below w.heap.size w wr) ∧ Hid (a.take k = b.take k))
  case atStart => exact ⟨0, by omega, rfl, ⟨HT.out, HB.out⟩, by show _ = _; simp⟩
  case round =>
    clear HT HB
    obtain ⟨k, hk, rfl, HW, HP⟩ := hrel
    by_cases hlt : k < min a.length b.length
    · have hl1 : k < a.length := by omega
      have hl2 : k < b.length := by omega
      have l1 : (k : Int) < (a.length : Int) := by omega
      have l2 : (k : Int) < (b.length : Int) := by omega
      obtain ⟨x, hx⟩ : ∃ x, a[k]? = some x := ⟨a[k], by simp [hl1]⟩
      obtain ⟨y, hy⟩ : ∃ y, b[k]? = some y := ⟨b[k], by simp [hl2]⟩
      obtain ⟨b1, f1, hao, hc1⟩ := rwx_get HW.out.1.1 (by omega)
      obtain ⟨b2, f2, hbo, hc2⟩ := rwx_get HW.out.1.2 (by omega)
      subst hao hbo
      have r1 := hc1 k x hx
      have r2 := hc2 k y hy
      have mk : IntKind.i64.wrap ((k : Int) + 1) = (k : Int) + 1 := by rw [IntKind.wrap_i64]; have := HL.out; omega
      have HX : Hid (a[k]? = some x ∧ b[k]? = some y ∧ k < min a.length b.length ∧ k + gk = min a.length b.length) := ⟨hx, hy, hlt, hk⟩
      clear hc1 hc2 hx hy hlt hl1 hl2 hk
      by_cases hxy : x = y
      · subst hxy
        have HP2 : Hid (a.take (k + 1) = b.take (k + 1)) := by
          show _ = _
          rw [List.take_add_one, List.take_add_one, HX.out.1, HX.out.2.1, HP.out]
        clear HP
        go_wp2
        go_quiet (fail)
        have HW2 : Hid (Bo21 (wr.drewN nq) _ _ a b ∧ Below w.heap.size w (wr.drewN nq)) := ⟨HW.out.1.below (below_drewN (Below.refl _ _) nq), below_drewN HW.out.2 nq⟩
        clear HW r1 r2
        go_wp2
        go_roundg (gk - 1)
        case measure => have := HX.out; omega
        case rel => exact ⟨k + 1, by have := HX.out; omega, rfl, HW2, HP2⟩
      · have eb : ((x : Int) == (y : Int)) = false := u8_bne hxy
        have HF : Hid (cpN a b = k) := by
          show _ = _
          refine cpN_of a b k HP.out (by have := HX.out; omega) (by have := HX.out; omega) (.inr (.inr ?_))
          rw [HX.out.1, HX.out.2.1]
          intro e
          injection e with e
          exact hxy e
        have HKA : Hid (k ≤ a.length ∧ k ≤ b.length) := by have := HX.out; exact ⟨by omega, by omega⟩
        clear HP hxy HX mk
        go_wp2
        go_quiet (fail)
        have HW2 : Hid (Bo21 (wr.drewN nq) (.slice (some ⟨b1, f1, none⟩) a.length c) (.slice (some ⟨b2, f2, none⟩) b.length d) a b ∧ Below w.heap.size w (wr.drewN nq)) := ⟨HW.out.1.below (below_drewN (Below.refl _ _) nq), below_drewN HW.out.2 nq⟩
        clear HW r1 r2 l1 l2 eb
        generalize (some (⟨b1, f1, none⟩ : Addr)) = ao at *
        generalize (some (⟨b2, f2, none⟩ : Addr)) = bo at *
        generalize wr.drewN nq = wr at *
        go_wp2
        go_loopg [6] (min (a.length - k) (b.length - k)) (fun g x wr => ∃ (t : Nat), t + g = min (a.length - k) (b.length - k) ∧ x = .int .i64 (t : Int) ∧ Hid (Bo21 wr (.slice ao a.length c) (.slice bo b.length d) a b ∧ Below w.heap.size w wr) ∧ Hid (∀ j < t, a[a.length - 1 - j]? = b[b.length - 1 - j]?))
        case atStart => exact ⟨0, by omega, rfl, HW2, fun j hj => absurd hj (Nat.not_lt_zero _)⟩
        case round =>
          clear HW2
          obtain ⟨t, ht, rfl, HW, HP⟩ := hrel
          have wa0 : IntKind.i64.wrap ((a.length : Int) - (k : Int)) = ((a.length - k : Nat) : Int) := by rw [IntKind.wrap_i64]; have := HL.out; have := HKA.out; omega
          have wb0 : IntKind.i64.wrap ((b.length : Int) - (k : Int)) = ((b.length - k : Nat) : Int) := by rw [IntKind.wrap_i64]; have := HL.out; have := HKA.out; omega
          by_cases hlt : t < min (a.length - k) (b.length - k)
          · have l1 : (t : Int) < ((a.length - k : Nat) : Int) := by omega
            have l2 : (t : Int) < ((b.length - k : Nat) : Int) := by omega
            have m1 : t < a.length - k := by omega
            have m2 : t < b.length - k := by omega
            obtain ⟨x, hx⟩ : ∃ x, a[a.length - 1 - t]? = some x := ⟨a[a.length - 1 - t], List.getElem?_eq_getElem (by omega)⟩
            obtain ⟨y, hy⟩ : ∃ y, b[b.length - 1 - t]? = some y := ⟨b[b.length - 1 - t], List.getElem?_eq_getElem (by omega)⟩
            obtain ⟨b1, f1, hao, hc1⟩ := rwx_get HW.out.1.1 (by omega)
            obtain ⟨b2, f2, hbo, hc2⟩ := rwx_get HW.out.1.2 (by omega)
            have r1 := hc1 _ x hx
            have r2 := hc2 _ y hy
            have wa1 : IntKind.i64.wrap ((a.length : Int) - 1) = (a.length : Int) - 1 := by rw [IntKind.wrap_i64]; have := HL.out; omega
            have wa2 : IntKind.i64.wrap ((a.length : Int) - 1 - (t : Int)) = ((a.length - 1 - t : Nat) : Int) := by rw [IntKind.wrap_i64]; have := HL.out; omega
            have wb1 : IntKind.i64.wrap ((b.length : Int) - 1) = (b.length : Int) - 1 := by rw [IntKind.wrap_i64]; have := HL.out; omega
            have wb2 : IntKind.i64.wrap ((b.length : Int) - 1 - (t : Int)) = ((b.length - 1 - t : Nat) : Int) := by rw [IntKind.wrap_i64]; have := HL.out; omega
            have l1' : ((a.length - 1 - t : Nat) : Int) < (a.length : Int) := by omega
            have l2' : ((b.length - 1 - t : Nat) : Int) < (b.length : Int) := by omega
            have mk2 : IntKind.i64.wrap ((t : Int) + 1) = (t : Int) + 1 := by rw [IntKind.wrap_i64]; have := HL.out; omega
            have HX : Hid (a[a.length - 1 - t]? = some x ∧ b[b.length - 1 - t]? = some y ∧ t < min (a.length - k) (b.length - k) ∧ t + gk = min (a.length - k) (b.length - k)) := ⟨hx, hy, hlt, ht⟩
            clear hc1 hc2 hx hy hlt ht
            subst hao hbo
            by_cases hxy : x = y
            · subst hxy
              have HP2 : Hid (∀ j < t + 1, a[a.length - 1 - j]? = b[b.length - 1 - j]?) := by
                intro j hj
                by_cases e : j = t
                · rw [e, HX.out.1, HX.out.2.1]
                · exact HP.out j (by omega)
              clear HP
              go_wp2
              go_quiet (fail)
              have HW2 : Hid (Bo21 (wr.drewN nq) _ _ a b ∧ Below w.heap.size w (wr.drewN nq)) := ⟨HW.out.1.below (below_drewN (Below.refl _ _) nq), below_drewN HW.out.2 nq⟩
              clear HW r1 r2
              go_wp2
              go_roundg (gk - 1)
              case measure => have := HX.out; omega
              case rel => exact ⟨t + 1, by have := HX.out; omega, rfl, HW2, HP2⟩
            · have eb : ((x : Int) == (y : Int)) = false := u8_bne hxy
              have HG : Hid (csN (a.drop k) (b.drop k) = t) := by
                show _ = _
                have q := HX.out
                refine csD_of a b k t HP.out (by omega) (by omega) (.inr (.inr ?_))
                rw [HX.out.1, HX.out.2.1]
                intro e
                injection e with e
                exact hxy e
              have HK2 : Hid (k + t ≤ a.length ∧ k + t ≤ b.length) := by have := HX.out; exact ⟨by omega, by omega⟩
              clear HP hxy HX mk2
              go_wp2
              go_quiet (fail)
              have HW3 : Hid (Bo21 (wr.drewN nq) (.slice (some ⟨b1, f1, none⟩) a.length c) (.slice (some ⟨b2, f2, none⟩) b.length d) a b ∧ Below w.heap.size w (wr.drewN nq)) := ⟨HW.out.1.below (below_drewN (Below.refl _ _) nq), below_drewN HW.out.2 nq⟩
              clear HW r1 r2 l1 l2 eb wa0 wb0 wa1 wa2 wb1 wb2 l1' l2' m1 m2
              generalize wr.drewN nq = wr at *
              generalize (some (⟨b2, f2, none⟩ : Addr)) = bo at *
              have hS : Hid (∀ X, Sem.run Try.prog (Instr.sliceAt 22 (.slice bo b.length d) (some (.int .i64 (k : Int))) (some (.int .i64 ((b.length - t : Nat) : Int))) none) X = .ok (.slice (if d = k then bo else bo.map (·.add (k * 1))) (b.length - t - k) (d - k)) X) := fun X => slice_mid17 (P := Try.prog) (w := X) Try.underlying22 HI.out.1 HI.out.2 bo b.length d k (b.length - t) (by have := HK2.out; omega) (by have := HL.out; omega)
              have HM : Hid (RwX cB wr (.slice (if d = k then bo else bo.map (·.add (k * 1))) (b.length - t - k) (d - k)) ((b.drop k).take (b.length - k - t)) ∧ RowA wr 1 (.slice (if d = k then bo else bo.map (·.add (k * 1))) (b.length - t - k) (d - k)) (b.length - t - k) (((b.drop k).take (b.length - k - t)).map cB)) := by
                have q : b.length - t - k = b.length - k - t := by omega
                rw [q]
                exact ⟨rwx_mid21 HW3.out.1.2 (by have := HK2.out; omega), rowA_mid21 (HR.out.below HW3.out.2) (by have := HK2.out; omega)⟩
              have HP : Hid (dfL a b = [⟨(k : Int), (a.length : Int) - k - t, (b.drop k).take (b.length - k - t)⟩] ∧ ((b.drop k).take (b.length - k - t)).length = b.length - t - k) := by
                have e1 : dfK a b = k := HF.out
                have e2 : dfT a b = t := by unfold dfT; rw [HF.out, HG.out]
                have q := HK2.out
                refine ⟨by rw [HD.out]; unfold dfP dfX; rw [e1, e2], by rw [List.length_take, List.length_drop]; omega⟩
              have hs := hS.out
              clear hS
              generalize (if d = k then bo else bo.map (·.add (k * 1))) = bvo at *
              have w1 : IntKind.i64.wrap ((a.length : Int) - (k : Int)) = (a.length : Int) - k := by rw [IntKind.wrap_i64]; have := HL.out; have := HK2.out; omega
              have w2 : IntKind.i64.wrap ((a.length : Int) - (k : Int) - (t : Int)) = (a.length : Int) - k - t := by rw [IntKind.wrap_i64]; have := HL.out; have := HK2.out; omega
              have w3 : IntKind.i64.wrap ((b.length : Int) - (t : Int)) = ((b.length - t : Nat) : Int) := by rw [IntKind.wrap_i64]; have := HL.out; have := HK2.out; omega
              go_wp2
              go_ret
              refine ⟨_, rfl, ?_, keepb (bl1 wr _) HW3.out.2⟩
              rw [HP.out.1]
              have hm := HM.out
              exact ptr_new21 wr ⟨(k : Int), (a.length : Int) - k - t, (b.drop k).take (b.length - k - t)⟩ _ _ hm.1 (by rw [HP.out.2]; exact hm.2)
          · have HG : Hid (csN (a.drop k) (b.drop k) = t) := by
              show _ = _
              have q := HKA.out
              exact csD_of a b k t HP.out (by omega) (by omega) (by omega)
            have HK2 : Hid (k + t ≤ a.length ∧ k + t ≤ b.length) := by have := HKA.out; exact ⟨by omega, by omega⟩
            by_cases h1 : t < a.length - k
            · have l1 : decide (t < a.length - k) = true := decide_eq_true h1
              have l2 : decide (t < b.length - k) = false := decide_eq_false (by omega)
              clear HP hlt ht h1
              go_wp2
              go_quiet (fail)
              have HW3 : Hid (Bo21 (wr.drewN nq) (.slice ao a.length c) (.slice bo b.length d) a b ∧ Below w.heap.size w (wr.drewN nq)) := ⟨HW.out.1.below (below_drewN (Below.refl _ _) nq), below_drewN HW.out.2 nq⟩
              clear HW l1 l2 wa0 wb0
              generalize wr.drewN nq = wr at *
              have hS : Hid (∀ X, Sem.run Try.prog (Instr.sliceAt 22 (.slice bo b.length d) (some (.int .i64 (k : Int))) (some (.int .i64 ((b.length - t : Nat) : Int))) none) X = .ok (.slice (if d = k then bo else bo.map (·.add (k * 1))) (b.length - t - k) (d - k)) X) := fun X => slice_mid17 (P := Try.prog) (w := X) Try.underlying22 HI.out.1 HI.out.2 bo b.length d k (b.length - t) (by have := HK2.out; omega) (by have := HL.out; omega)
              have HM : Hid (RwX cB wr (.slice (if d = k then bo else bo.map (·.add (k * 1))) (b.length - t - k) (d - k)) ((b.drop k).take (b.length - k - t)) ∧ RowA wr 1 (.slice (if d = k then bo else bo.map (·.add (k * 1))) (b.length - t - k) (d - k)) (b.length - t - k) (((b.drop k).take (b.length - k - t)).map cB)) := by
                have q : b.length - t - k = b.length - k - t := by omega
                rw [q]
                exact ⟨rwx_mid21 HW3.out.1.2 (by have := HK2.out; omega), rowA_mid21 (HR.out.below HW3.out.2) (by have := HK2.out; omega)⟩
              have HP : Hid (dfL a b = [⟨(k : Int), (a.length : Int) - k - t, (b.drop k).take (b.length - k - t)⟩] ∧ ((b.drop k).take (b.length - k - t)).length = b.length - t - k) := by
                have e1 : dfK a b = k := HF.out
                have e2 : dfT a b = t := by unfold dfT; rw [HF.out, HG.out]
                have q := HK2.out
                refine ⟨by rw [HD.out]; unfold dfP dfX; rw [e1, e2], by rw [List.length_take, List.length_drop]; omega⟩
              have hs := hS.out
              clear hS
              generalize (if d = k then bo else bo.map (·.add (k * 1))) = bvo at *
              have w1 : IntKind.i64.wrap ((a.length : Int) - (k : Int)) = (a.length : Int) - k := by rw [IntKind.wrap_i64]; have := HL.out; have := HK2.out; omega
              have w2 : IntKind.i64.wrap ((a.length : Int) - (k : Int) - (t : Int)) = (a.length : Int) - k - t := by rw [IntKind.wrap_i64]; have := HL.out; have := HK2.out; omega
              have w3 : IntKind.i64.wrap ((b.length : Int) - (t : Int)) = ((b.length - t : Nat) : Int) := by rw [IntKind.wrap_i64]; have := HL.out; have := HK2.out; omega
              go_wp2
              go_ret
              refine ⟨_, rfl, ?_, keepb (bl1 wr _) HW3.out.2⟩
              rw [HP.out.1]
              have hm := HM.out
              exact ptr_new21 wr ⟨(k : Int), (a.length : Int) - k - t, (b.drop k).take (b.length - k - t)⟩ _ _ hm.1 (by rw [HP.out.2]; exact hm.2)
            · have l1 : decide (t < a.length - k) = false := decide_eq_false h1
              clear HP hlt ht h1
              go_wp2
              go_quiet (fail)
              have HW3 : Hid (Bo21 (wr.drewN nq) (.slice ao a.length c) (.slice bo b.length d) a b ∧ Below w.heap.size w (wr.drewN nq)) := ⟨HW.out.1.below (below_drewN (Below.refl _ _) nq), below_drewN HW.out.2 nq⟩
              clear HW l1 wa0 wb0
              generalize wr.drewN nq = wr at *
              have hS : Hid (∀ X, Sem.run Try.prog (Instr.sliceAt 22 (.slice bo b.length d) (some (.int .i64 (k : Int))) (some (.int .i64 ((b.length - t : Nat) : Int))) none) X = .ok (.slice (if d = k then bo else bo.map (·.add (k * 1))) (b.length - t - k) (d - k)) X) := fun X => slice_mid17 (P := Try.prog) (w := X) Try.underlying22 HI.out.1 HI.out.2 bo b.length d k (b.length - t) (by have := HK2.out; omega) (by have := HL.out; omega)
              have HM : Hid (RwX cB wr (.slice (if d = k then bo else bo.map (·.add (k * 1))) (b.length - t - k) (d - k)) ((b.drop k).take (b.length - k - t)) ∧ RowA wr 1 (.slice (if d = k then bo else bo.map (·.add (k * 1))) (b.length - t - k) (d - k)) (b.length - t - k) (((b.drop k).take (b.length - k - t)).map cB)) := by
                have q : b.length - t - k = b.length - k - t := by omega
                rw [q]
                exact ⟨rwx_mid21 HW3.out.1.2 (by have := HK2.out; omega), rowA_mid21 (HR.out.below HW3.out.2) (by have := HK2.out; omega)⟩
              have HP : Hid (dfL a b = [⟨(k : Int), (a.length : Int) - k - t, (b.drop k).take (b.length - k - t)⟩] ∧ ((b.drop k).take (b.length - k - t)).length = b.length - t - k) := by
                have e1 : dfK a b = k := HF.out
                have e2 : dfT a b = t := by unfold dfT; rw [HF.out, HG.out]
                have q := HK2.out
                refine ⟨by rw [HD.out]; unfold dfP dfX; rw [e1, e2], by rw [List.length_take, List.length_drop]; omega⟩
              have hs := hS.out
              clear hS
              generalize (if d = k then bo else bo.map (·.add (k * 1))) = bvo at *
              have w1 : IntKind.i64.wrap ((a.length : Int) - (k : Int)) = (a.length : Int) - k := by rw [IntKind.wrap_i64]; have := HL.out; have := HK2.out; omega
              have w2 : IntKind.i64.wrap ((a.length : Int) - (k : Int) - (t : Int)) = (a.length : Int) - k - t := by rw [IntKind.wrap_i64]; have := HL.out; have := HK2.out; omega
              have w3 : IntKind.i64.wrap ((b.length : Int) - (t : Int)) = ((b.length - t : Nat) : Int) := by rw [IntKind.wrap_i64]; have := HL.out; have := HK2.out; omega
              go_wp2
              go_ret
              refine ⟨_, rfl, ?_, keepb (bl1 wr _) HW3.out.2⟩
              rw [HP.out.1]
              have hm := HM.out
              exact ptr_new21 wr ⟨(k : Int), (a.length : Int) - k - t, (b.drop k).take (b.length - k - t)⟩ _ _ hm.1 (by rw [HP.out.2]; exact hm.2)
    · have HF : Hid (cpN a b = k) := by
        show _ = _
        exact cpN_of a b k HP.out (by omega) (by omega) (by omega)
      have HKA : Hid (k ≤ a.length ∧ k ≤ b.length) := ⟨by omega, by omega⟩
      by_cases h1 : k < a.length
      · have l1 : decide (k < a.length) = true := decide_eq_true (by omega)
        have l2 : decide (k < b.length) = false := decide_eq_false (by omega)
        clear HP hlt hk h1
        go_wp2
        go_quiet (fail)
        have HW2 : Hid (Bo21 (wr.drewN nq) (.slice ao a.length c) (.slice bo b.length d) a b ∧ Below w.heap.size w (wr.drewN nq)) := ⟨HW.out.1.below (below_drewN (Below.refl _ _) nq), below_drewN HW.out.2 nq⟩
        clear HW l1 l2
        generalize wr.drewN nq = wr at *
        go_wp2
        go_loopg [6] (min (a.length - k) (b.length - k)) (fun g x wr => ∃ (t : Nat), t + g = min (a.length - k) (b.length - k) ∧ x = .int .i64 (t : Int) ∧ Hid (Bo21 wr (.slice ao a.length c) (.slice bo b.length d) a b ∧ Below w.heap.size w wr) ∧ Hid (∀ j < t, a[a.length - 1 - j]? = b[b.length - 1 - j]?))
        case atStart => exact ⟨0, by omega, rfl, HW2, fun j hj => absurd hj (Nat.not_lt_zero _)⟩
        case round =>
          clear HW2
          obtain ⟨t, ht, rfl, HW, HP⟩ := hrel
          have wa0 : IntKind.i64.wrap ((a.length : Int) - (k : Int)) = ((a.length - k : Nat) : Int) := by rw [IntKind.wrap_i64]; have := HL.out; have := HKA.out; omega
          have wb0 : IntKind.i64.wrap ((b.length : Int) - (k : Int)) = ((b.length - k : Nat) : Int) := by rw [IntKind.wrap_i64]; have := HL.out; have := HKA.out; omega
          by_cases hlt : t < min (a.length - k) (b.length - k)
          · have l1 : (t : Int) < ((a.length - k : Nat) : Int) := by omega
            have l2 : (t : Int) < ((b.length - k : Nat) : Int) := by omega
            have m1 : t < a.length - k := by omega
            have m2 : t < b.length - k := by omega
            obtain ⟨x, hx⟩ : ∃ x, a[a.length - 1 - t]? = some x := ⟨a[a.length - 1 - t], List.getElem?_eq_getElem (by omega)⟩
            obtain ⟨y, hy⟩ : ∃ y, b[b.length - 1 - t]? = some y := ⟨b[b.length - 1 - t], List.getElem?_eq_getElem (by omega)⟩
            obtain ⟨b1, f1, hao, hc1⟩ := rwx_get HW.out.1.1 (by omega)
            obtain ⟨b2, f2, hbo, hc2⟩ := rwx_get HW.out.1.2 (by omega)
            have r1 := hc1 _ x hx
            have r2 := hc2 _ y hy
            have wa1 : IntKind.i64.wrap ((a.length : Int) - 1) = (a.length : Int) - 1 := by rw [IntKind.wrap_i64]; have := HL.out; omega
            have wa2 : IntKind.i64.wrap ((a.length : Int) - 1 - (t : Int)) = ((a.length - 1 - t : Nat) : Int) := by rw [IntKind.wrap_i64]; have := HL.out; omega
            have wb1 : IntKind.i64.wrap ((b.length : Int) - 1) = (b.length : Int) - 1 := by rw [IntKind.wrap_i64]; have := HL.out; omega
            have wb2 : IntKind.i64.wrap ((b.length : Int) - 1 - (t : Int)) = ((b.length - 1 - t : Nat) : Int) := by rw [IntKind.wrap_i64]; have := HL.out; omega
            have l1' : ((a.length - 1 - t : Nat) : Int) < (a.length : Int) := by omega
            have l2' : ((b.length - 1 - t : Nat) : Int) < (b.length : Int) := by omega
            have mk2 : IntKind.i64.wrap ((t : Int) + 1) = (t : Int) + 1 := by rw [IntKind.wrap_i64]; have := HL.out; omega
            have HX : Hid (a[a.length - 1 - t]? = some x ∧ b[b.length - 1 - t]? = some y ∧ t < min (a.length - k) (b.length - k) ∧ t + gk = min (a.length - k) (b.length - k)) := ⟨hx, hy, hlt, ht⟩
            clear hc1 hc2 hx hy hlt ht
            subst hao hbo
            by_cases hxy : x = y
            · subst hxy
              have HP2 : Hid (∀ j < t + 1, a[a.length - 1 - j]? = b[b.length - 1 - j]?) := by
                intro j hj
                by_cases e : j = t
                · rw [e, HX.out.1, HX.out.2.1]
                · exact HP.out j (by omega)
              clear HP
              go_wp2
              go_quiet (fail)
              have HW2 : Hid (Bo21 (wr.drewN nq) _ _ a b ∧ Below w.heap.size w (wr.drewN nq)) := ⟨HW.out.1.below (below_drewN (Below.refl _ _) nq), below_drewN HW.out.2 nq⟩
              clear HW r1 r2
              go_wp2
              go_roundg (gk - 1)
              case measure => have := HX.out; omega
              case rel => exact ⟨t + 1, by have := HX.out; omega, rfl, HW2, HP2⟩
            · have eb : ((x : Int) == (y : Int)) = false := u8_bne hxy
              have HG : Hid (csN (a.drop k) (b.drop k) = t) := by
                show _ = _
                have q := HX.out
                refine csD_of a b k t HP.out (by omega) (by omega) (.inr (.inr ?_))
                rw [HX.out.1, HX.out.2.1]
                intro e
                injection e with e
                exact hxy e
              have HK2 : Hid (k + t ≤ a.length ∧ k + t ≤ b.length) := by have := HX.out; exact ⟨by omega, by omega⟩
              clear HP hxy HX mk2
              go_wp2
              go_quiet (fail)
              have HW3 : Hid (Bo21 (wr.drewN nq) (.slice (some ⟨b1, f1, none⟩) a.length c) (.slice (some ⟨b2, f2, none⟩) b.length d) a b ∧ Below w.heap.size w (wr.drewN nq)) := ⟨HW.out.1.below (below_drewN (Below.refl _ _) nq), below_drewN HW.out.2 nq⟩
              clear HW r1 r2 l1 l2 eb wa0 wb0 wa1 wa2 wb1 wb2 l1' l2' m1 m2
              generalize wr.drewN nq = wr at *
              generalize (some (⟨b2, f2, none⟩ : Addr)) = bo at *
              have hS : Hid (∀ X, Sem.run Try.prog (Instr.sliceAt 22 (.slice bo b.length d) (some (.int .i64 (k : Int))) (some (.int .i64 ((b.length - t : Nat) : Int))) none) X = .ok (.slice (if d = k then bo else bo.map (·.add (k * 1))) (b.length - t - k) (d - k)) X) := fun X => slice_mid17 (P := Try.prog) (w := X) Try.underlying22 HI.out.1 HI.out.2 bo b.length d k (b.length - t) (by have := HK2.out; omega) (by have := HL.out; omega)
              have HM : Hid (RwX cB wr (.slice (if d = k then bo else bo.map (·.add (k * 1))) (b.length - t - k) (d - k)) ((b.drop k).take (b.length - k - t)) ∧ RowA wr 1 (.slice (if d = k then bo else bo.map (·.add (k * 1))) (b.length - t - k) (d - k)) (b.length - t - k) (((b.drop k).take (b.length - k - t)).map cB)) := by
                have q : b.length - t - k = b.length - k - t := by omega
                rw [q]
                exact ⟨rwx_mid21 HW3.out.1.2 (by have := HK2.out; omega), rowA_mid21 (HR.out.below HW3.out.2) (by have := HK2.out; omega)⟩
              have HP : Hid (dfL a b = [⟨(k : Int), (a.length : Int) - k - t, (b.drop k).take (b.length - k - t)⟩] ∧ ((b.drop k).take (b.length - k - t)).length = b.length - t - k) := by
                have e1 : dfK a b = k := HF.out
                have e2 : dfT a b = t := by unfold dfT; rw [HF.out, HG.out]
                have q := HK2.out
                refine ⟨by rw [HD.out]; unfold dfP dfX; rw [e1, e2], by rw [List.length_take, List.length_drop]; omega⟩
              have hs := hS.out
              clear hS
              generalize (if d = k then bo else bo.map (·.add (k * 1))) = bvo at *
              have w1 : IntKind.i64.wrap ((a.length : Int) - (k : Int)) = (a.length : Int) - k := by rw [IntKind.wrap_i64]; have := HL.out; have := HK2.out; omega
              have w2 : IntKind.i64.wrap ((a.length : Int) - (k : Int) - (t : Int)) = (a.length : Int) - k - t := by rw [IntKind.wrap_i64]; have := HL.out; have := HK2.out; omega
              have w3 : IntKind.i64.wrap ((b.length : Int) - (t : Int)) = ((b.length - t : Nat) : Int) := by rw [IntKind.wrap_i64]; have := HL.out; have := HK2.out; omega
              go_wp2
              go_ret
              refine ⟨_, rfl, ?_, keepb (bl1 wr _) HW3.out.2⟩
              rw [HP.out.1]
              have hm := HM.out
              exact ptr_new21 wr ⟨(k : Int), (a.length : Int) - k - t, (b.drop k).take (b.length - k - t)⟩ _ _ hm.1 (by rw [HP.out.2]; exact hm.2)
          · have HG : Hid (csN (a.drop k) (b.drop k) = t) := by
              show _ = _
              have q := HKA.out
              exact csD_of a b k t HP.out (by omega) (by omega) (by omega)
            have HK2 : Hid (k + t ≤ a.length ∧ k + t ≤ b.length) := by have := HKA.out; exact ⟨by omega, by omega⟩
            by_cases h1 : t < a.length - k
            · have l1 : decide (t < a.length - k) = true := decide_eq_true h1
              have l2 : decide (t < b.length - k) = false := decide_eq_false (by omega)
              clear HP hlt ht h1
              go_wp2
              go_quiet (fail)
              have HW3 : Hid (Bo21 (wr.drewN nq) (.slice ao a.length c) (.slice bo b.length d) a b ∧ Below w.heap.size w (wr.drewN nq)) := ⟨HW.out.1.below (below_drewN (Below.refl _ _) nq), below_drewN HW.out.2 nq⟩
              clear HW l1 l2 wa0 wb0
              generalize wr.drewN nq = wr at *
              have hS : Hid (∀ X, Sem.run Try.prog (Instr.sliceAt 22 (.slice bo b.length d) (some (.int .i64 (k : Int))) (some (.int .i64 ((b.length - t : Nat) : Int))) none) X = .ok (.slice (if d = k then bo else bo.map (·.add (k * 1))) (b.length - t - k) (d - k)) X) := fun X => slice_mid17 (P := Try.prog) (w := X) Try.underlying22 HI.out.1 HI.out.2 bo b.length d k (b.length - t) (by have := HK2.out; omega) (by have := HL.out; omega)
              have HM : Hid (RwX cB wr (.slice (if d = k then bo else bo.map (·.add (k * 1))) (b.length - t - k) (d - k)) ((b.drop k).take (b.length - k - t)) ∧ RowA wr 1 (.slice (if d = k then bo else bo.map (·.add (k * 1))) (b.length - t - k) (d - k)) (b.length - t - k) (((b.drop k).take (b.length - k - t)).map cB)) := by
                have q : b.length - t - k = b.length - k - t := by omega
                rw [q]
                exact ⟨rwx_mid21 HW3.out.1.2 (by have := HK2.out; omega), rowA_mid21 (HR.out.below HW3.out.2) (by have := HK2.out; omega)⟩
              have HP : Hid (dfL a b = [⟨(k : Int), (a.length : Int) - k - t, (b.drop k).take (b.length - k - t)⟩] ∧ ((b.drop k).take (b.length - k - t)).length = b.length - t - k) := by
                have e1 : dfK a b = k := HF.out
                have e2 : dfT a b = t := by unfold dfT; rw [HF.out, HG.out]
                have q := HK2.out
                refine ⟨by rw [HD.out]; unfold dfP dfX; rw [e1, e2], by rw [List.length_take, List.length_drop]; omega⟩
              have hs := hS.out
              clear hS
              generalize (if d = k then bo else bo.map (·.add (k * 1))) = bvo at *
              have w1 : IntKind.i64.wrap ((a.length : Int) - (k : Int)) = (a.length : Int) - k := by rw [IntKind.wrap_i64]; have := HL.out; have := HK2.out; omega
              have w2 : IntKind.i64.wrap ((a.length : Int) - (k : Int) - (t : Int)) = (a.length : Int) - k - t := by rw [IntKind.wrap_i64]; have := HL.out; have := HK2.out; omega
              have w3 : IntKind.i64.wrap ((b.length : Int) - (t : Int)) = ((b.length - t : Nat) : Int) := by rw [IntKind.wrap_i64]; have := HL.out; have := HK2.out; omega
              go_wp2
              go_ret
              refine ⟨_, rfl, ?_, keepb (bl1 wr _) HW3.out.2⟩
              rw [HP.out.1]
              have hm := HM.out
              exact ptr_new21 wr ⟨(k : Int), (a.length : Int) - k - t, (b.drop k).take (b.length - k - t)⟩ _ _ hm.1 (by rw [HP.out.2]; exact hm.2)
            · have l1 : decide (t < a.length - k) = false := decide_eq_false h1
              clear HP hlt ht h1
              go_wp2
              go_quiet (fail)
              have HW3 : Hid (Bo21 (wr.drewN nq) (.slice ao a.length c) (.slice bo b.length d) a b ∧ Below w.heap.size w (wr.drewN nq)) := ⟨HW.out.1.below (below_drewN (Below.refl _ _) nq), below_drewN HW.out.2 nq⟩
              clear HW l1 wa0 wb0
              generalize wr.drewN nq = wr at *
              have hS : Hid (∀ X, Sem.run Try.prog (Instr.sliceAt 22 (.slice bo b.length d) (some (.int .i64 (k : Int))) (some (.int .i64 ((b.length - t : Nat) : Int))) none) X = .ok (.slice (if d = k then bo else bo.map (·.add (k * 1))) (b.length - t - k) (d - k)) X) := fun X => slice_mid17 (P := Try.prog) (w := X) Try.underlying22 HI.out.1 HI.out.2 bo b.length d k (b.length - t) (by have := HK2.out; omega) (by have := HL.out; omega)
              have HM : Hid (RwX cB wr (.slice (if d = k then bo else bo.map (·.add (k * 1))) (b.length - t - k) (d - k)) ((b.drop k).take (b.length - k - t)) ∧ RowA wr 1 (.slice (if d = k then bo else bo.map (·.add (k * 1))) (b.length - t - k) (d - k)) (b.length - t - k) (((b.drop k).take (b.length - k - t)).map cB)) := by
                have q : b.length - t - k = b.length - k - t := by omega
                rw [q]
                exact ⟨rwx_mid21 HW3.out.1.2 (by have := HK2.out; omega), rowA_mid21 (HR.out.below HW3.out.2) (by have := HK2.out; omega)⟩
              have HP : Hid (dfL a b = [⟨(k : Int), (a.length : Int) - k - t, (b.drop k).take (b.length - k - t)⟩] ∧ ((b.drop k).take (b.length - k - t)).length = b.length - t - k) := by
                have e1 : dfK a b = k := HF.out
                have e2 : dfT a b = t := by unfold dfT; rw [HF.out, HG.out]
                have q := HK2.out
                refine ⟨by rw [HD.out]; unfold dfP dfX; rw [e1, e2], by rw [List.length_take, List.length_drop]; omega⟩
              have hs := hS.out
              clear hS
              generalize (if d = k then bo else bo.map (·.add (k * 1))) = bvo at *
              have w1 : IntKind.i64.wrap ((a.length : Int) - (k : Int)) = (a.length : Int) - k := by rw [IntKind.wrap_i64]; have := HL.out; have := HK2.out; omega
              have w2 : IntKind.i64.wrap ((a.length : Int) - (k : Int) - (t : Int)) = (a.length : Int) - k - t := by rw [IntKind.wrap_i64]; have := HL.out; have := HK2.out; omega
              have w3 : IntKind.i64.wrap ((b.length : Int) - (t : Int)) = ((b.length - t : Nat) : Int) := by rw [IntKind.wrap_i64]; have := HL.out; have := HK2.out; omega
              go_wp2
              go_ret
              refine ⟨_, rfl, ?_, keepb (bl1 wr _) HW3.out.2⟩
              rw [HP.out.1]
              have hm := HM.out
              exact ptr_new21 wr ⟨(k : Int), (a.length : Int) - k - t, (b.drop k).take (b.length - k - t)⟩ _ _ hm.1 (by rw [HP.out.2]; exact hm.2)
      · have l1 : decide (k < a.length) = false := decide_eq_false (by omega)
        clear HP hlt hk h1
        go_wp2
        go_quiet (fail)
        have HW2 : Hid (Bo21 (wr.drewN nq) (.slice ao a.length c) (.slice bo b.length d) a b ∧ Below w.heap.size w (wr.drewN nq)) := ⟨HW.out.1.below (below_drewN (Below.refl _ _) nq), below_drewN HW.out.2 nq⟩
        clear HW l1
        generalize wr.drewN nq = wr at *
        go_wp2
        go_loopg [6] (min (a.length - k) (b.length - k)) (fun g x wr => ∃ (t : Nat), t + g = min (a.length - k) (b.length - k) ∧ x = .int .i64 (t : Int) ∧ Hid (Bo21 wr (.slice ao a.length c) (.slice bo b.length d) a b ∧ Below w.heap.size w wr) ∧ Hid (∀ j < t, a[a.length - 1 - j]? = b[b.length - 1 - j]?))
        case atStart => exact ⟨0, by omega, rfl, HW2, fun j hj => absurd hj (Nat.not_lt_zero _)⟩
        case round =>
          clear HW2
          obtain ⟨t, ht, rfl, HW, HP⟩ := hrel
          have wa0 : IntKind.i64.wrap ((a.length : Int) - (k : Int)) = ((a.length - k : Nat) : Int) := by rw [IntKind.wrap_i64]; have := HL.out; have := HKA.out; omega
          have wb0 : IntKind.i64.wrap ((b.length : Int) - (k : Int)) = ((b.length - k : Nat) : Int) := by rw [IntKind.wrap_i64]; have := HL.out; have := HKA.out; omega
          by_cases hlt : t < min (a.length - k) (b.length - k)
          · have l1 : (t : Int) < ((a.length - k : Nat) : Int) := by omega
            have l2 : (t : Int) < ((b.length - k : Nat) : Int) := by omega
            have m1 : t < a.length - k := by omega
            have m2 : t < b.length - k := by omega
            obtain ⟨x, hx⟩ : ∃ x, a[a.length - 1 - t]? = some x := ⟨a[a.length - 1 - t], List.getElem?_eq_getElem (by omega)⟩
            obtain ⟨y, hy⟩ : ∃ y, b[b.length - 1 - t]? = some y := ⟨b[b.length - 1 - t], List.getElem?_eq_getElem (by omega)⟩
            obtain ⟨b1, f1, hao, hc1⟩ := rwx_get HW.out.1.1 (by omega)
            obtain ⟨b2, f2, hbo, hc2⟩ := rwx_get HW.out.1.2 (by omega)
            have r1 := hc1 _ x hx
            have r2 := hc2 _ y hy
            have wa1 : IntKind.i64.wrap ((a.length : Int) - 1) = (a.length : Int) - 1 := by rw [IntKind.wrap_i64]; have := HL.out; omega
            have wa2 : IntKind.i64.wrap ((a.length : Int) - 1 - (t : Int)) = ((a.length - 1 - t : Nat) : Int) := by rw [IntKind.wrap_i64]; have := HL.out; omega
            have wb1 : IntKind.i64.wrap ((b.length : Int) - 1) = (b.length : Int) - 1 := by rw [IntKind.wrap_i64]; have := HL.out; omega
            have wb2 : IntKind.i64.wrap ((b.length : Int) - 1 - (t : Int)) = ((b.length - 1 - t : Nat) : Int) := by rw [IntKind.wrap_i64]; have := HL.out; omega
            have l1' : ((a.length - 1 - t : Nat) : Int) < (a.length : Int) := by omega
            have l2' : ((b.length - 1 - t : Nat) : Int) < (b.length : Int) := by omega
            have mk2 : IntKind.i64.wrap ((t : Int) + 1) = (t : Int) + 1 := by rw [IntKind.wrap_i64]; have := HL.out; omega
            have HX : Hid (a[a.length - 1 - t]? = some x ∧ b[b.length - 1 - t]? = some y ∧ t < min (a.length - k) (b.length - k) ∧ t + gk = min (a.length - k) (b.length - k)) := ⟨hx, hy, hlt, ht⟩
            clear hc1 hc2 hx hy hlt ht
            subst hao hbo
            by_cases hxy : x = y
            · subst hxy
              have HP2 : Hid (∀ j < t + 1, a[a.length - 1 - j]? = b[b.length - 1 - j]?) := by
                intro j hj
                by_cases e : j = t
                · rw [e, HX.out.1, HX.out.2.1]
                · exact HP.out j (by omega)
              clear HP
              go_wp2
              go_quiet (fail)
              have HW2 : Hid (Bo21 (wr.drewN nq) _ _ a b ∧ Below w.heap.size w (wr.drewN nq)) := ⟨HW.out.1.below (below_drewN (Below.refl _ _) nq), below_drewN HW.out.2 nq⟩
              clear HW r1 r2
              go_wp2
              go_roundg (gk - 1)
              case measure => have := HX.out; omega
              case rel => exact ⟨t + 1, by have := HX.out; omega, rfl, HW2, HP2⟩
            · have eb : ((x : Int) == (y : Int)) = false := u8_bne hxy
              have HG : Hid (csN (a.drop k) (b.drop k) = t) := by
                show _ = _
                have q := HX.out
                refine csD_of a b k t HP.out (by omega) (by omega) (.inr (.inr ?_))
                rw [HX.out.1, HX.out.2.1]
                intro e
                injection e with e
                exact hxy e
              have HK2 : Hid (k + t ≤ a.length ∧ k + t ≤ b.length) := by have := HX.out; exact ⟨by omega, by omega⟩
              clear HP hxy HX mk2
              go_wp2
              go_quiet (fail)
              have HW3 : Hid (Bo21 (wr.drewN nq) (.slice (some ⟨b1, f1, none⟩) a.length c) (.slice (some ⟨b2, f2, none⟩) b.length d) a b ∧ Below w.heap.size w (wr.drewN nq)) := ⟨HW.out.1.below (below_drewN (Below.refl _ _) nq), below_drewN HW.out.2 nq⟩
              clear HW r1 r2 l1 l2 eb wa0 wb0 wa1 wa2 wb1 wb2 l1' l2' m1 m2
              generalize wr.drewN nq = wr at *
              generalize (some (⟨b2, f2, none⟩ : Addr)) = bo at *
              have hS : Hid (∀ X, Sem.run Try.prog (Instr.sliceAt 22 (.slice bo b.length d) (some (.int .i64 (k : Int))) (some (.int .i64 ((b.length - t : Nat) : Int))) none) X = .ok (.slice (if d = k then bo else bo.map (·.add (k * 1))) (b.length - t - k) (d - k)) X) := fun X => slice_mid17 (P := Try.prog) (w := X) Try.underlying22 HI.out.1 HI.out.2 bo b.length d k (b.length - t) (by have := HK2.out; omega) (by have := HL.out; omega)
              have HM : Hid (RwX cB wr (.slice (if d = k then bo else bo.map (·.add (k * 1))) (b.length - t - k) (d - k)) ((b.drop k).take (b.length - k - t)) ∧ RowA wr 1 (.slice (if d = k then bo else bo.map (·.add (k * 1))) (b.length - t - k) (d - k)) (b.length - t - k) (((b.drop k).take (b.length - k - t)).map cB)) := by
                have q : b.length - t - k = b.length - k - t := by omega
                rw [q]
                exact ⟨rwx_mid21 HW3.out.1.2 (by have := HK2.out; omega), rowA_mid21 (HR.out.below HW3.out.2) (by have := HK2.out; omega)⟩
              have HP : Hid (dfL a b = [⟨(k : Int), (a.length : Int) - k - t, (b.drop k).take (b.length - k - t)⟩] ∧ ((b.drop k).take (b.length - k - t)).length = b.length - t - k) := by
                have e1 : dfK a b = k := HF.out
                have e2 : dfT a b = t := by unfold dfT; rw [HF.out, HG.out]
                have q := HK2.out
                refine ⟨by rw [HD.out]; unfold dfP dfX; rw [e1, e2], by rw [List.length_take, List.length_drop]; omega⟩
              have hs := hS.out
              clear hS
              generalize (if d = k then bo else bo.map (·.add (k * 1))) = bvo at *
              have w1 : IntKind.i64.wrap ((a.length : Int) - (k : Int)) = (a.length : Int) - k := by rw [IntKind.wrap_i64]; have := HL.out; have := HK2.out; omega
              have w2 : IntKind.i64.wrap ((a.length : Int) - (k : Int) - (t : Int)) = (a.length : Int) - k - t := by rw [IntKind.wrap_i64]; have := HL.out; have := HK2.out; omega
              have w3 : IntKind.i64.wrap ((b.length : Int) - (t : Int)) = ((b.length - t : Nat) : Int) := by rw [IntKind.wrap_i64]; have := HL.out; have := HK2.out; omega
              go_wp2
              go_ret
              refine ⟨_, rfl, ?_, keepb (bl1 wr _) HW3.out.2⟩
              rw [HP.out.1]
              have hm := HM.out
              exact ptr_new21 wr ⟨(k : Int), (a.length : Int) - k - t, (b.drop k).take (b.length - k - t)⟩ _ _ hm.1 (by rw [HP.out.2]; exact hm.2)
          · have HG : Hid (csN (a.drop k) (b.drop k) = t) := by
              show _ = _
              have q := HKA.out
              exact csD_of a b k t HP.out (by omega) (by omega) (by omega)
            have HK2 : Hid (k + t ≤ a.length ∧ k + t ≤ b.length) := by have := HKA.out; exact ⟨by omega, by omega⟩
            by_cases h1 : t < a.length - k
            · have l1 : decide (t < a.length - k) = true := decide_eq_true h1
              have l2 : decide (t < b.length - k) = false := decide_eq_false (by omega)
              clear HP hlt ht h1
              go_wp2
              go_quiet (fail)
              have HW3 : Hid (Bo21 (wr.drewN nq) (.slice ao a.length c) (.slice bo b.length d) a b ∧ Below w.heap.size w (wr.drewN nq)) := ⟨HW.out.1.below (below_drewN (Below.refl _ _) nq), below_drewN HW.out.2 nq⟩
              clear HW l1 l2 wa0 wb0
              generalize wr.drewN nq = wr at *
              have hS : Hid (∀ X, Sem.run Try.prog (Instr.sliceAt 22 (.slice bo b.length d) (some (.int .i64 (k : Int))) (some (.int .i64 ((b.length - t : Nat) : Int))) none) X = .ok (.slice (if d = k then bo else bo.map (·.add (k * 1))) (b.length - t - k) (d - k)) X) := fun X => slice_mid17 (P := Try.prog) (w := X) Try.underlying22 HI.out.1 HI.out.2 bo b.length d k (b.length - t) (by have := HK2.out; omega) (by have := HL.out; omega)
              have HM : Hid (RwX cB wr (.slice (if d = k then bo else bo.map (·.add (k * 1))) (b.length - t - k) (d - k)) ((b.drop k).take (b.length - k - t)) ∧ RowA wr 1 (.slice (if d = k then bo else bo.map (·.add (k * 1))) (b.length - t - k) (d - k)) (b.length - t - k) (((b.drop k).take (b.length - k - t)).map cB)) := by
                have q : b.length - t - k = b.length - k - t := by omega
                rw [q]
                exact ⟨rwx_mid21 HW3.out.1.2 (by have := HK2.out; omega), rowA_mid21 (HR.out.below HW3.out.2) (by have := HK2.out; omega)⟩
              have HP : Hid (dfL a b = [⟨(k : Int), (a.length : Int) - k - t, (b.drop k).take (b.length - k - t)⟩] ∧ ((b.drop k).take (b.length - k - t)).length = b.length - t - k) := by
                have e1 : dfK a b = k := HF.out
                have e2 : dfT a b = t := by unfold dfT; rw [HF.out, HG.out]
                have q := HK2.out
                refine ⟨by rw [HD.out]; unfold dfP dfX; rw [e1, e2], by rw [List.length_take, List.length_drop]; omega⟩
              have hs := hS.out
              clear hS
              generalize (if d = k then bo else bo.map (·.add (k * 1))) = bvo at *
              have w1 : IntKind.i64.wrap ((a.length : Int) - (k : Int)) = (a.length : Int) - k := by rw [IntKind.wrap_i64]; have := HL.out; have := HK2.out; omega
              have w2 : IntKind.i64.wrap ((a.length : Int) - (k : Int) - (t : Int)) = (a.length : Int) - k - t := by rw [IntKind.wrap_i64]; have := HL.out; have := HK2.out; omega
              have w3 : IntKind.i64.wrap ((b.length : Int) - (t : Int)) = ((b.length - t : Nat) : Int) := by rw [IntKind.wrap_i64]; have := HL.out; have := HK2.out; omega
              go_wp2
              go_ret
              refine ⟨_, rfl, ?_, keepb (bl1 wr _) HW3.out.2⟩
              rw [HP.out.1]
              have hm := HM.out
              exact ptr_new21 wr ⟨(k : Int), (a.length : Int) - k - t, (b.drop k).take (b.length - k - t)⟩ _ _ hm.1 (by rw [HP.out.2]; exact hm.2)
            · have l1 : decide (t < a.length - k) = false := decide_eq_false h1
              clear HP hlt ht h1
              go_wp2
              go_quiet (fail)
              have HW3 : Hid (Bo21 (wr.drewN nq) (.slice ao a.length c) (.slice bo b.length d) a b ∧ Below w.heap.size w (wr.drewN nq)) := ⟨HW.out.1.below (below_drewN (Below.refl _ _) nq), below_drewN HW.out.2 nq⟩
              clear HW l1 wa0 wb0
              generalize wr.drewN nq = wr at *
              have hS : Hid (∀ X, Sem.run Try.prog (Instr.sliceAt 22 (.slice bo b.length d) (some (.int .i64 (k : Int))) (some (.int .i64 ((b.length - t : Nat) : Int))) none) X = .ok (.slice (if d = k then bo else bo.map (·.add (k * 1))) (b.length - t - k) (d - k)) X) := fun X => slice_mid17 (P := Try.prog) (w := X) Try.underlying22 HI.out.1 HI.out.2 bo b.length d k (b.length - t) (by have := HK2.out; omega) (by have := HL.out; omega)
              have HM : Hid (RwX cB wr (.slice (if d = k then bo else bo.map (·.add (k * 1))) (b.length - t - k) (d - k)) ((b.drop k).take (b.length - k - t)) ∧ RowA wr 1 (.slice (if d = k then bo else bo.map (·.add (k * 1))) (b.length - t - k) (d - k)) (b.length - t - k) (((b.drop k).take (b.length - k - t)).map cB)) := by
                have q : b.length - t - k = b.length - k - t := by omega
                rw [q]
                exact ⟨rwx_mid21 HW3.out.1.2 (by have := HK2.out; omega), rowA_mid21 (HR.out.below HW3.out.2) (by have := HK2.out; omega)⟩
              have HP : Hid (dfL a b = [⟨(k : Int), (a.length : Int) - k - t, (b.drop k).take (b.length - k - t)⟩] ∧ ((b.drop k).take (b.length - k - t)).length = b.length - t - k) := by
                have e1 : dfK a b = k := HF.out
                have e2 : dfT a b = t := by unfold dfT; rw [HF.out, HG.out]
                have q := HK2.out
                refine ⟨by rw [HD.out]; unfold dfP dfX; rw [e1, e2], by rw [List.length_take, List.length_drop]; omega⟩
              have hs := hS.out
              clear hS
              generalize (if d = k then bo else bo.map (·.add (k * 1))) = bvo at *
              have w1 : IntKind.i64.wrap ((a.length : Int) - (k : Int)) = (a.length : Int) - k := by rw [IntKind.wrap_i64]; have := HL.out; have := HK2.out; omega
              have w2 : IntKind.i64.wrap ((a.length : Int) - (k : Int) - (t : Int)) = (a.length : Int) - k - t := by rw [IntKind.wrap_i64]; have := HL.out; have := HK2.out; omega
              have w3 : IntKind.i64.wrap ((b.length : Int) - (t : Int)) = ((b.length - t : Nat) : Int) := by rw [IntKind.wrap_i64]; have := HL.out; have := HK2.out; omega
              go_wp2
              go_ret
              refine ⟨_, rfl, ?_, keepb (bl1 wr _) HW3.out.2⟩
              rw [HP.out.1]
              have hm := HM.out
              exact ptr_new21 wr ⟨(k : Int), (a.length : Int) - k - t, (b.drop k).take (b.length - k - t)⟩ _ _ hm.1 (by rw [HP.out.2]; exact hm.2)
end Go.Proofs.Ytiachojhnbicaaa
