/-
  What package wire's isSet and isMapOf do.
-/
import Derived.Test.YtbamogpbjdobkaaDoorO13
import Derived.Test.YtbamogpbjdobkaaDoorUnP
namespace Go.Proofs.YtbamogpbjdobkaaDoor
open Go.RowKit
set_option linter.unusedSimpArgs false
set_option linter.unusedVariables false

theorem own_w13 {w : World} {base base' e size n : Nat} {v : Value} {xs : List Value} (h : w.ownsRow base e size v n xs) (hb : base' ≤ base) : w.ownsRow base' e size v n xs := by
  refine ⟨h.1, ?_⟩
  rcases h.2 with hn | ⟨g, cap, cur, hv, h1, h2⟩
  · exact .inl hn
  · exact .inr ⟨g, cap, cur, hv, by omega, h2⟩
theorem and_tp (x : BitVec 32) (r : Nat) (h : r < 32) : (uI (x &&& (cOne >>> r)) != 0) = bt x r := by
  have ht : cOne >>> r = tp (31 - r) := by
    have : ∀ r : Fin 32, cOne >>> r.val = tp (31 - r.val) := by decide +kernel
    exact this ⟨r, h⟩
  have hbit : ∀ i, (x &&& (cOne >>> r)).getLsbD i = (x.getLsbD i && decide (31 - r = i)) := by
    intro i
    rw [BitVec.getLsbD_and, ht]
    unfold tp
    rw [BitVec.getLsbD_twoPow]
    have : 31 - r < 32 := by omega
    by_cases c : 31 - r = i
    · subst c; simp [this]
    · simp [c]
  unfold bt
  cases hb : x.getLsbD (31 - r)
  · have : x &&& (cOne >>> r) = 0#32 := by
      apply BitVec.eq_of_getLsbD_eq
      intro i hi
      rw [hbit i]
      by_cases c : 31 - r = i
      · subst c; rw [hb]; simp
      · simp [c]
    rw [this, uI_zero]; rfl
  · rw [bne_iff_ne]
    intro e
    have e2 := (uI_is0 _).mp e
    have := hbit (31 - r)
    rw [e2, hb] at this
    simp at this
set_option maxRecDepth 100000 in
set_option maxHeartbeats 4000000 in
theorem isset_any (v : Value) (U : List (BitVec 32)) (k : Nat) (w : World) (hv : RwX cU w v U) (hk : k < 32 * U.length) (hl : U.length ≤ 100000000000000) :
    Calls Tryd.prog 18 #[v, .int .i64 (k : Int)] w fun e w' => e = .returned (.bool (plc U k)) ∧ Below w.heap.size w w' := by
  obtain ⟨ao, cc, rfl, -, hv⟩ := hv
  obtain ⟨q, hq⟩ : ∃ q, q = k / 32 := ⟨_, rfl⟩
  obtain ⟨r, hr⟩ : ∃ r, r = k % 32 := ⟨_, rfl⟩
  have hql : q < U.length := by omega
  obtain ⟨x, hx⟩ : ∃ x, U[q]? = some x := ⟨U[q], by simp [hql]⟩
  obtain ⟨bo, off, rfl, hc1⟩ : ∃ bo off, ao = some ⟨bo, off, none⟩ ∧ ∀ j x, U[j]? = some x → w.cell? ⟨bo, off + j, none⟩ = some (cU x) := by
    rcases hv with h | h
    · rw [h] at hql; simp at hql
    · exact h
  have r1 : w.cell? ⟨bo, off + q, none⟩ = some (.int .u32 (uI x)) := hc1 q x hx
  have hq1 : (k : Int) / 32 = (q : Int) := by omega
  have hr1 : (k : Int) % 32 = (r : Int) := by omega
  have hr32 : r < 32 := by omega
  have hqi : ((q : Nat) : Int) < (U.length : Int) := by omega
  have HP : Hid (plc U k = bt x r) := by
    show _ = _
    unfold plc
    rw [← hq, ← hr, List.getD_eq_getElem?_getD, hx, Option.getD_some]
  have hsh := shrOne r hr32
  have han := and32 x (cOne >>> r)
  have hnz := and_tp x r hr32
  rw [HP.out]
  generalize bt x r = b at hnz
  obtain ⟨Y, hY⟩ : ∃ Y, Y = x &&& (cOne >>> r) := ⟨_, rfl⟩
  rw [← hY] at han hnz
  clear hc1 hx hq hr hv hk HP hql hY
  go_enter Tryd.func18, Tryd.ntmps18
  go_wp2_with fail
  go_quiet (fail)
  have HB : Hid (Below w.heap.size w (w.drewN nq)) := below_drewN (Below.refl _ _) nq
  go_wp2
  go_ret
  exact ⟨by first | rfl | rw [← hnz], HB.out⟩
set_option maxRecDepth 100000 in
set_option maxHeartbeats 8000000 in
theorem isMap_any (v : Value) (U : List (BitVec 32)) (n : Nat) (w : World) (hv : RwX cU w v U) (hn : n ≤ 9223372036854775807) (hl : U.length ≤ 100000000000000) :
    Calls Tryd.prog 16 #[v, .int .i64 (n : Int)] w fun e w' => (∃ b, e = .returned (.bool b) ∧ (b = true ↔ MapQ U n)) ∧ Below w.heap.size w w' := by
  have HV := hid13 hv
  obtain ⟨ao, cc, rfl, hcc, hv⟩ := hv
  have KW := words13 n hn w
  obtain ⟨W, hW⟩ : ∃ W, W = (n + 31) / 32 := ⟨_, rfl⟩
  rw [← hW] at KW
  by_cases c0 : U.length = W
  · by_cases c1 : n = 0
    · have hb : Hid (MapQ U n) := ⟨by rw [c0, hW], .inl c1, fun p h1 h2 => by omega⟩
      have e0 : ((n : Int) == 0) = true := by simp [c1]
      have ew : ((U.length : Int) != (W : Int)) = false := by simp; omega
      clear c1 hW hv c0
      go_enter Tryd.func16, Tryd.ntmps16
      go_wp2_with (go_at_call 13; refine KW.mono ?_; rintro e w1 ⟨rfl, hw1⟩; replace hw1 := hw1.symm; subst hw1)
      go_ret
      exact ⟨⟨true, rfl, fun _ => hb.out, fun _ => rfl⟩, Below.refl _ _⟩
    · have hml := mapQ_last U n (by rw [c0, hW]) (by omega)
      have e0 : ((n : Int) == 0) = false := by rw [beq_eq_false_iff_ne]; omega
      have ew : ((U.length : Int) != (W : Int)) = false := by simp; omega
      have hup : 0 < U.length := by omega
      have KI := fun (X : World) (hX : RwX cU X (.slice ao U.length cc) U) => isset_any _ U 0 X hX (by omega) hl
      obtain ⟨b0, hb0⟩ : ∃ b, b = plc U 0 := ⟨_, rfl⟩
      rw [← hb0] at KI
      have HQ : Hid (MapQ U n ↔ (b0 = true ∧ (n % 32 = 0 ∨ (U.getD (U.length - 1) 0#32) <<< (n % 32) = 0#32))) := by
        rw [hb0, ← hml]
        exact ⟨fun h => ⟨h.2.1.resolve_left c1, h.2.2⟩, fun h => ⟨by rw [c0, hW], .inr h.1, h.2⟩⟩
      obtain ⟨u, hu⟩ : ∃ u, u = n % 32 := ⟨_, rfl⟩
      rw [← hu] at HQ
      have hu1 : (n : Int) % 32 = (u : Int) := by omega
      have hu32 : u < 32 := by omega
      obtain ⟨x, hx⟩ : ∃ x, U[U.length - 1]? = some x := ⟨U[U.length - 1], by simp [show U.length - 1 < U.length by omega]⟩
      rw [List.getD_eq_getElem?_getD, hx, Option.getD_some] at HQ
      obtain ⟨bo, off, rfl, hc1⟩ : ∃ bo off, ao = some ⟨bo, off, none⟩ ∧ ∀ j x, U[j]? = some x → w.cell? ⟨bo, off + j, none⟩ = some (cU x) := by
        rcases hv with h | h
        · rw [h] at hup; simp at hup
        · exact h
      obtain ⟨la, hla⟩ : ∃ la, la = U.length - 1 := ⟨_, rfl⟩
      rw [← hla] at hx
      have r1 : w.cell? ⟨bo, off + la, none⟩ = some (.int .u32 (uI x)) := hc1 la x hx
      have hl1 : (U.length : Int) - 1 = (la : Int) := by omega
      have hli : ((la : Nat) : Int) < (U.length : Int) := by omega
      have hsl := shl32 x u
      by_cases cu : u = 0
      · have eu : ((u : Int) != 0) = false := by simp [cu]
        have HQ2 : Hid (b0 = true ↔ MapQ U n) := ⟨fun h => HQ.out.2 ⟨h, .inl cu⟩, fun h => (HQ.out.1 h).1⟩
        clear hml hW c0 c1 hu hb0 hx hc1 hv hup HQ cu hla hsl
        cases b0
        · go_enter Tryd.func16, Tryd.ntmps16
          go_wp2_with (first | (go_at_call 13; refine KW.mono ?_; rintro e w1 ⟨rfl, hw1⟩; replace hw1 := hw1.symm; subst hw1) | (go_at_call 18; refine (KI _ HV.out).mono ?_; rintro e w2 ⟨rfl, hb2⟩; have HB2 := hid13 hb2; clear hb2))
          go_ret
          exact ⟨⟨false, rfl, by have := HQ2.out; simpa using this⟩, HB2.out⟩
        · go_enter Tryd.func16, Tryd.ntmps16
          go_wp2_with (first | (go_at_call 13; refine KW.mono ?_; rintro e w1 ⟨rfl, hw1⟩; replace hw1 := hw1.symm; subst hw1) | (go_at_call 18; refine (KI _ HV.out).mono ?_; rintro e w2 ⟨rfl, hb2⟩; have HB2 := hid13 hb2; clear hb2))
          go_ret
          exact ⟨⟨true, rfl, by have := HQ2.out; simpa using this⟩, HB2.out⟩
      · have eu : ((u : Int) != 0) = true := by simp; omega
        have HQ2 : Hid (MapQ U n ↔ (b0 = true ∧ (uI (x <<< u) == 0) = true)) := by
          rw [beq_iff_eq, uI_is0]
          exact ⟨fun h => ⟨(HQ.out.1 h).1, (HQ.out.1 h).2.resolve_left cu⟩, fun h => HQ.out.2 ⟨h.1, .inr h.2⟩⟩
        clear hml hW c0 c1 hu hb0 hx hc1 hv hup HQ cu hla
        cases b0
        · go_enter Tryd.func16, Tryd.ntmps16
          go_wp2_with (first | (go_at_call 13; refine KW.mono ?_; rintro e w1 ⟨rfl, hw1⟩; replace hw1 := hw1.symm; subst hw1) | (go_at_call 18; refine (KI _ HV.out).mono ?_; rintro e w2 ⟨rfl, hb2⟩; have HB2 := hid13 hb2; clear hb2))
          go_ret
          exact ⟨⟨false, rfl, by have := HQ2.out; simpa using this⟩, HB2.out⟩
        · go_enter Tryd.func16, Tryd.ntmps16
          go_wp2_with (first | (go_at_call 13; refine KW.mono ?_; rintro e w1 ⟨rfl, hw1⟩; replace hw1 := hw1.symm; subst hw1) | (go_at_call 18; refine (KI _ HV.out).mono ?_; rintro e w2 ⟨rfl, hb2⟩; have HB2 := hid13 hb2; clear hb2))
          go_ret
          exact ⟨⟨(uI (x <<< u) == 0), rfl, by have := HQ2.out; rw [this]; simp⟩, HB2.out⟩
  · have hb : Hid (¬ MapQ U n) := fun h => c0 (by rw [h.1, hW])
    have ew : ((U.length : Int) != (W : Int)) = true := by simp; omega
    clear c0 hW hv
    go_enter Tryd.func16, Tryd.ntmps16
    go_wp2_with (go_at_call 13; refine KW.mono ?_; rintro e w1 ⟨rfl, hw1⟩; replace hw1 := hw1.symm; subst hw1)
    go_ret
    exact ⟨⟨false, rfl, (fun h => by cases h), (fun h => absurd h hb.out)⟩, Below.refl _ _⟩
end Go.Proofs.YtbamogpbjdobkaaDoor
