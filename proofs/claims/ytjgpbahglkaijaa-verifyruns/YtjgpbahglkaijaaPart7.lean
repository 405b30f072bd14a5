/-
  Part 7 of the proof: 5 texts, one behind the other.
-/
import Derived.Test.YtjgpbahglkaijaaPart6
import Derived.Test.YtjgpbahglkaijaaPart1
import Derived.Test.YtjgpbahglkaijaaPart3
import Derived.Test.YtjgpbahglkaijaaPart2
namespace Go.Proofs.Ytjgpbahglkaijaa
open Go.RowKit
set_option linter.unusedSimpArgs false
set_option linter.unusedVariables false

theorem enG_ok (l : List Nat) (en : Int) : ∀ (r k : Nat) (es : List (Int × Int)), (enG l en r k es).2.1 = 0 → (enG l en r k es).1.length = es.length + r ∧ (0 < r → en + k + r ≤ wds l)
  | 0, k, es, h => ⟨rfl, fun q => by omega⟩
  | r + 1, k, es, h => by
    rw [enG_succ] at h ⊢
    by_cases h1 : enE l (en + k) es = 0
    · rw [if_pos h1] at h ⊢
      obtain ⟨a1, a2⟩ := enG_ok l en r (k + 1) _ h
      refine ⟨by rw [a1, List.length_append]; simp; omega, fun _ => ?_⟩
      have h2 : dcE l (en + k) = 0 := by
        by_cases h3 : dcE l (en + k) ≠ 0
        · unfold enE at h1
          rw [if_pos h3] at h1
          exact h1
        · simpa using h3
      have h4 := (dcF h2).a1
      rcases Nat.eq_zero_or_pos r with q | q
      · subst q
        unfold wds
        push_cast at h4 ⊢
        omega
      · have := a2 q
        push_cast at this ⊢
        omega
    · rw [if_neg h1] at h
      exact absurd h h1
structure PbF (l : List Nat) (P : List PB) : Prop where
  s : (P.map PB.a).Pairwise (· < ·)
  b : ∀ b ∈ P, 0 ≤ b.a ∧ b.a < wds l ∧ (b.m.length : Int) ≤ wds l ∧ (b.es.length : Int) ≤ wds l ∧ 1 ≤ b.t ∧ b.t ≤ 24
theorem PbF.push {l : List Nat} {P : List PB} {a : Int} (h : PbF l P) (hp : ∀ b ∈ P, b.a < a) (b : PB) (hb : b.a = a) (h1 : 0 ≤ b.a ∧ b.a < wds l ∧ (b.m.length : Int) ≤ wds l ∧ (b.es.length : Int) ≤ wds l ∧ 1 ≤ b.t ∧ b.t ≤ 24) : PbF l (P ++ [b]) := by
  refine ⟨?_, fun c hc => ?_⟩
  · rw [List.map_append, List.pairwise_append]
    refine ⟨h.s, by simp, fun x hx y hy => ?_⟩
    obtain ⟨c, hc, rfl⟩ := List.mem_map.mp hx
    simp at hy
    rw [hy, hb]
    exact hp c hc
  · rcases List.mem_append.mp hc with q | q
    · exact h.b c q
    · simp at q
      subst q
      exact h1
theorem bsG_ok (l : List Nat) : ∀ (f : Nat) (a : Int) (P : List PB), 0 ≤ a → a < wds l → wds l - a ≤ (f : Int) → PbF l P → (∀ b ∈ P, b.a < a) → (bsG l f a P).2.2 = 0 → PbF l (bsG l f a P).1 ∧ 0 < (bsG l f a P).1.length
  | 0, a, P, h0, h1, h2, hP, hp, h => by omega
  | f + 1, a, P, h0, h1, h2, hP, hp, h => by
    rw [bsG_succ] at h ⊢
    by_cases c1 : dcE l a ≠ 0
    · rw [if_pos c1] at h; exact absurd h c1
    rw [if_neg c1] at h ⊢
    by_cases c2 : (dcI l a).op ≠ 1
    · rw [if_pos c2] at h; cases h
    rw [if_neg c2] at h ⊢
    by_cases c3 : dcE l (a + 1) ≠ 0
    · rw [if_pos c3] at h; exact absurd h c3
    rw [if_neg c3] at h ⊢
    by_cases c4 : (dcI l (a + 1)).op ≠ 2
    · rw [if_pos c4] at h; cases h
    rw [if_neg c4] at h ⊢
    by_cases c5 : (dcI l (a + 1)).n ≠ (dcI l a).n
    · rw [if_pos c5] at h; cases h
    rw [if_neg c5] at h ⊢
    have e1 : dcE l a = 0 := by simpa using c1
    have e2 : (dcI l a).op = 1 := by simpa using c2
    have e3 : dcE l (a + 1) = 0 := by simpa using c3
    have e4 : (dcI l (a + 1)).op = 2 := by simpa using c4
    have d1 := (dcF e1).nx (by rw [e2]; decide) (by rw [e2]; decide)
    obtain ⟨m1, m2, m3⟩ := (dcF e3).m2 e4
    have z1 := dcZ_zero e3
    generalize hm : (dcI l (a + 1)).m = m at *
    generalize hen : a + 1 + dcZ l (a + 1) = en at *
    obtain ⟨r, hr⟩ : ∃ r, r = enG l en (sumW m m.length) 0 [] := ⟨_, rfl⟩
    rw [← hr] at h ⊢
    unfold bsF at h ⊢
    by_cases c6 : r.2.1 ≠ 0
    · rw [if_pos c6] at h; exact absurd h c6
    rw [if_neg c6] at h ⊢
    have c6' : r.2.1 = 0 := by simpa using c6
    obtain ⟨b1, b2⟩ := enG_ok l en (sumW m m.length) 0 [] (by rw [← hr]; exact c6')
    rw [← hr] at b1
    have b3 := b2 m3
    have hw : wds l = ((l.length / 4 : Nat) : Int) := rfl
    rw [← hw] at m1
    have hpush : PbF l (P ++ [⟨a, (dcI l a).n, m, prE en r.1⟩]) := hP.push hp _ rfl (by
      dsimp only
      rw [prE_len, b1]
      refine ⟨h0, h1, ?_, ?_, d1.1, d1.2⟩
      · omega
      · simp
        push_cast at b3
        omega)
    by_cases c7 : en + ((sumW m m.length : Nat) : Int) < wds l
    · rw [if_pos c7] at h ⊢
      refine bsG_ok l f _ _ (by omega) c7 (by omega) hpush (fun b hb => ?_) h
      rcases List.mem_append.mp hb with q | q
      · have := hp b q
        omega
      · simp at q
        subst q
        dsimp only
        omega
    · rw [if_neg c7] at h ⊢
      exact ⟨hpush, by simp⟩
theorem lkI_none (qs : List Int) : ∀ (es : List (Bool × Int)) (p : Int), lkI qs p es = none → ∀ e ∈ es, e.1 = true → fnB qs e.2 ≠ -1
  | [], p, h, e, he, q => by simp at he
  | x :: t, p, h, e, he, q => by
    unfold lkI at h
    by_cases c : x.1 = true ∧ fnB qs x.2 = -1
    · rw [if_pos c] at h; cases h
    · rw [if_neg c] at h
      rcases List.mem_cons.mp he with rfl | h2
      · exact fun q2 => c ⟨q, q2⟩
      · exact lkI_none qs t (p + 1) h e h2 q
theorem lkA_none (qs : List Int) : ∀ (P : List PB), lkA qs P = none → ∀ b ∈ P, ∀ e ∈ b.es, e.1 = true → fnB qs e.2 ≠ -1
  | [], h, b, hb, e, he, q => by simp at hb
  | x :: t, h, b, hb, e, he, q => by
    unfold lkA at h
    cases hc : lkI qs (x.a + 2 + (x.m.length : Int)) x.es with
    | some p => rw [hc] at h; cases h
    | none =>
      rw [hc] at h
      rcases List.mem_cons.mp hb with rfl | h2
      · exact lkI_none qs _ _ hc e he q
      · exact lkA_none qs t h b h2 e he q
theorem fnB_in (qs : List Int) (x : Int) (h : fnB qs x ≠ -1) : 0 ≤ fnB qs x ∧ fnB qs x < qs.length := by
  unfold fnB at h ⊢
  cases hf : qs.findIdx? (· == x) with
  | none => rw [hf] at h; exact absurd rfl h
  | some i =>
    have := (List.findIdx?_eq_some_iff_getElem.mp hf).1
    dsimp only
    omega
theorem lk_ok {l : List Nat} {P : List PB} (h : PbF l P) (hk : (lkR (P.map PB.a) P).2 = 0) : ∀ b ∈ P.map (lkB (P.map PB.a)), (1 ≤ b.t ∧ b.t ≤ 24) ∧ (b.es.length : Int) ≤ wds l ∧ ∀ e ∈ b.es, e.1 = true → 0 ≤ e.2 ∧ e.2 < (P.map (lkB (P.map PB.a))).length := by
  intro b hb
  obtain ⟨c, hc, rfl⟩ := List.mem_map.mp hb
  have hcb := h.b c hc
  refine ⟨hcb.2.2.2.2, by unfold lkB; simp; exact hcb.2.2.2.1, fun e he q => ?_⟩
  unfold lkB at he
  dsimp only at he
  obtain ⟨x, hx, rfl⟩ := List.mem_map.mp he
  have hn : lkA (P.map PB.a) P = none := by
    unfold lkR at hk
    cases hq : lkA (P.map PB.a) P with
    | none => rfl
    | some p => rw [hq] at hk; cases hk
  by_cases hx1 : x.1 = true
  · have := fnB_in _ _ (lkA_none _ P hn c hc x hx hx1)
    unfold lkX
    rw [if_pos hx1]
    simpa using this
  · unfold lkX at q
    rw [if_neg hx1] at q
    exact absurd q hx1
noncomputable def vfP (l : List Nat) : List PB := (bsG l (l.length / 4) 0 []).1.map (lkB ((bsG l (l.length / 4) 0 []).1.map PB.a))
noncomputable def vfB (F : Int) (l : List Nat) : Int × Int × Int :=
  if (bsG l (l.length / 4) 0 []).2.2 ≠ 0 then (0, (bsG l (l.length / 4) 0 []).2) else
  if (lkR ((bsG l (l.length / 4) 0 []).1.map PB.a) (bsG l (l.length / 4) 0 []).1).2 ≠ 0 then (0, lkR ((bsG l (l.length / 4) 0 []).1.map PB.a) (bsG l (l.length / 4) 0 []).1) else
  if (usR (vfP l)).2 ≠ 0 then (0, usR (vfP l)) else msR F (vfP l)
noncomputable def vfR (F : Int) (l : List Nat) : Int × Int × Int :=
  if F ≠ 32 ∧ F ≠ 128 then (0, 0, 11) else if l.length = 0 ∨ l.length % 4 ≠ 0 then (0, 0, 22) else
  if dcE l 0 = 0 ∧ (dcI l 0).op = 4 then (if 4 < l.length then (0, 1, 31) else (0, 0, 0)) else vfB F l
theorem msG_err (F : Int) : ∀ (P : List PB) (k : Nat) (A : List (Int × Int)) (dp : Int), (msG F P k A dp).2.2 ≠ 0 → (msG F P k A dp).1 = 0
  | [], k, A, dp, h => absurd rfl h
  | b :: t, k, A, dp, h => by
    unfold msG at h ⊢
    split
    · rfl
    · rename_i c
      rw [if_neg c] at h
      exact msG_err F t _ _ _ h
theorem msG_word (F : Int) : ∀ (P : List PB) (k : Nat) (A : List (Int × Int)) (dp : Int), (msG F P k A dp).2.2 = 0 → (msG F P k A dp).2.1 = 0
  | [], k, A, dp, h => rfl
  | b :: t, k, A, dp, h => by
    unfold msG at h ⊢
    split
    · rename_i c
      rw [if_pos c] at h
      cases h
    · rename_i c
      rw [if_neg c] at h
      exact msG_word F t _ _ _ h
end Go.Proofs.Ytjgpbahglkaijaa
namespace Go.Proofs.Ytjgpbahglkaijaa
open Go.RowKit
set_option linter.unusedSimpArgs false
set_option linter.unusedVariables false

theorem and255 (n : Nat) (h : n < 4294967296) : bits .and .u32 (n : Int) 255 = ((n % 256 : Nat) : Int) := by
  have e : (255 : Int) = uI 255#32 := lit32 255 (by decide)
  have h1 : (n : Int) = uI (BitVec.ofNat 32 n) := lit32 n h
  rw [e, h1, and32, uI_eq, BitVec.toNat_and, BitVec.toNat_ofNat, BitVec.toNat_ofNat]
  have h2 : n &&& 255 = n % 256 := Nat.and_two_pow_sub_one_eq_mod n 8
  have h3 : (2 : Nat) ^ 32 = 4294967296 := by decide
  rw [h3, Nat.mod_eq_of_lt h, show 255 % 4294967296 = 255 from rfl, h2]
theorem pop_at (b : Nat) (h : b < 256) : Lib.pop8 (b : Int) = ((bsN 8 b : Nat) : Int) := by
  rw [Lib.pop8_eq ⟨b, h⟩, ones8 b h]
set_option maxRecDepth 100000 in
set_option maxHeartbeats 8000000 in
theorem onesCount_any (x : BitVec 32) (w : World) :
    Calls Try.prog 145 #[.int .u32 (uI x)] w fun e w' => e = .returned (.int .i64 ((on32 x : Nat) : Int)) ∧ Below w.heap.size w w' := by
  have hx := x.isLt
  rw [uI_eq]
  unfold on32
  generalize x.toNat = n at hx
  have hs := bs32 n hx
  obtain ⟨N, hN⟩ : ∃ N : Int, N = (n : Int) := ⟨_, rfl⟩
  obtain ⟨b3, h3⟩ : ∃ b : Int, b = ((n / 16777216 : Nat) : Int) := ⟨_, rfl⟩
  obtain ⟨b2, h2⟩ : ∃ b : Int, b = ((n / 65536 % 256 : Nat) : Int) := ⟨_, rfl⟩
  obtain ⟨b1, h1⟩ : ∃ b : Int, b = ((n / 256 % 256 : Nat) : Int) := ⟨_, rfl⟩
  obtain ⟨b0, h0⟩ : ∃ b : Int, b = ((n % 256 : Nat) : Int) := ⟨_, rfl⟩
  obtain ⟨q3, e3⟩ : ∃ q : Int, q = ((bsN 8 (n / 16777216) : Nat) : Int) := ⟨_, rfl⟩
  obtain ⟨q2, e2⟩ : ∃ q : Int, q = ((bsN 8 (n / 65536 % 256) : Nat) : Int) := ⟨_, rfl⟩
  obtain ⟨q1, e1⟩ : ∃ q : Int, q = ((bsN 8 (n / 256 % 256) : Nat) : Int) := ⟨_, rfl⟩
  obtain ⟨q0, e0⟩ : ∃ q : Int, q = ((bsN 8 (n % 256) : Nat) : Int) := ⟨_, rfl⟩
  have l3 := bsN_le 8 (n / 16777216)
  have l2 := bsN_le 8 (n / 65536 % 256)
  have l1 := bsN_le 8 (n / 256 % 256)
  have l0 := bsN_le 8 (n % 256)
  have f3 : N / 16777216 = b3 := by rw [h3, hN]; omega
  have f2 : bits .and .u32 (N / 65536) 255 = b2 := by rw [h2, hN, show (n : Int) / 65536 = ((n / 65536 : Nat) : Int) by omega, and255 _ (by omega)]
  have f1 : bits .and .u32 (N / 256) 255 = b1 := by rw [h1, hN, show (n : Int) / 256 = ((n / 256 : Nat) : Int) by omega, and255 _ (by omega)]
  have f0 : bits .and .u32 N 255 = b0 := by rw [h0, hN, and255 _ (by omega)]
  have p3 : Lib.pop8 b3 = q3 := by rw [h3, e3]; exact pop_at _ (by omega)
  have p2 : Lib.pop8 b2 = q2 := by rw [h2, e2]; exact pop_at _ (by omega)
  have p1 : Lib.pop8 b1 = q1 := by rw [h1, e1]; exact pop_at _ (by omega)
  have p0 : Lib.pop8 b0 = q0 := by rw [h0, e0]; exact pop_at _ (by omega)
  have HE : Hid (q3 + q2 + q1 + q0 = ((bsN 32 n : Nat) : Int)) := by show _ = _; omega
  have B3 : 0 ≤ b3 ∧ b3 ≤ 255 := by omega
  have B2 : 0 ≤ b2 ∧ b2 ≤ 255 := by omega
  have B1 : 0 ≤ b1 ∧ b1 ≤ 255 := by omega
  have B0 : 0 ≤ b0 ∧ b0 ≤ 255 := by omega
  have Q3 : 0 ≤ q3 ∧ q3 ≤ 8 := by omega
  have Q2 : 0 ≤ q2 ∧ q2 ≤ 8 := by omega
  have Q1 : 0 ≤ q1 ∧ q1 ≤ 8 := by omega
  have Q0 : 0 ≤ q0 ∧ q0 ≤ 8 := by omega
  rw [← hN, ← HE.out]
  clear hs hN h3 h2 h1 h0 e3 e2 e1 e0 l3 l2 l1 l0 hx HE
  obtain ⟨B3a, B3b⟩ := B3
  obtain ⟨B2a, B2b⟩ := B2
  obtain ⟨B1a, B1b⟩ := B1
  obtain ⟨B0a, B0b⟩ := B0
  obtain ⟨Q3a, Q3b⟩ := Q3
  obtain ⟨Q2a, Q2b⟩ := Q2
  obtain ⟨Q1a, Q1b⟩ := Q1
  obtain ⟨Q0a, Q0b⟩ := Q0
  go_enter Try.func145, Try.ntmps145
  go_wp2_with fail
  go_quiet (fail)
  have HB : Hid (Below w.heap.size w (w.drewN nq)) := below_drewN (Below.refl _ _) nq
  go_wp2
  go_ret
  exact ⟨rfl, HB.out⟩
theorem sumW_le (U : List (BitVec 32)) : ∀ a, sumW U a ≤ 32 * a
  | 0 => Nat.le_refl _
  | a + 1 => by
    have h1 := sumW_le U a
    have h2 := bsN_le 32 (U.getD a 0#32).toNat
    simp only [sumW]
    unfold on32
    omega
set_option maxRecDepth 100000 in
set_option maxHeartbeats 8000000 in
theorem ones_any (v : Value) (U : List (BitVec 32)) (w : World) (hv : RwX cU w v U) (hl : U.length ≤ 100000000000000) :
    Calls Try.prog 137 #[v] w fun e w' => e = .returned (.int .i64 ((sumW U U.length : Nat) : Int)) ∧ Below w.heap.size w w' := by
  obtain ⟨ao, cc, rfl, -, hv⟩ := hv
  have HV := hid13 hv
  have HL := hid13 hl
  have HB := hid13 (Below.refl w.heap.size w)
  clear hv hl
  go_enter Try.func137, Try.ntmps137
  go_wp2_with fail
  go_loopg [3, 5, 8] U.length (fun g n x i wr => ∃ k m : Nat, k + g = U.length ∧ i = .int .i64 (k : Int) ∧ n = .int .i64 (m : Int) ∧ Hid (m = sumW U k) ∧ Hid (Below w.heap.size w wr))
  case atStart => exact ⟨0, 0, by omega, rfl, rfl, rfl, HB⟩
  case round =>
    clear HB
    obtain ⟨k, m, hk, rfl, rfl, HM, HB⟩ := hrel
    by_cases hlt : k < U.length
    · have hli : (k : Int) < (U.length : Int) := by omega
      obtain ⟨bo, off, rfl, hc1⟩ : ∃ bo off, ao = some ⟨bo, off, none⟩ ∧ ∀ j x, U[j]? = some x → w.cell? ⟨bo, off + j, none⟩ = some (cU x) := by
        rcases HV.out with h | h
        · rw [h] at hlt; simp at hlt
        · exact h
      obtain ⟨x, hx⟩ : ∃ x, U[k]? = some x := ⟨U[k], by simp [hlt]⟩
      have r1 : wr.cell? ⟨bo, off + k, none⟩ = some (.int .u32 (uI x)) := keepc HB.out (hc1 k x hx)
      have mk : IntKind.i64.wrap ((k : Int) + 1) = (k : Int) + 1 := by have := HL.out; rw [IntKind.wrap_i64]; omega
      have hon := bsN_le 32 x.toNat
      have hsm := sumW_le U k
      obtain ⟨o, ho⟩ : ∃ o, o = on32 x := ⟨_, rfl⟩
      have HE : Hid (m + o = sumW U (k + 1)) := by
        show _ = _
        simp only [sumW]
        rw [List.getD_eq_getElem?_getD, hx, Option.getD_some, ← ho, HM.out]
      have ms : IntKind.i64.wrap ((m : Int) + (o : Int)) = (m : Int) + (o : Int) := by
        have h1 := HM.out
        have h2 := HL.out
        unfold on32 at ho
        rw [IntKind.wrap_i64]; omega
      have HK : Hid (k + gk = U.length ∧ k < U.length) := ⟨hk, hlt⟩
      have KO := fun W => onesCount_any x W
      rw [← ho] at KO
      clear hc1 hx hk hon hsm HM ho
      go_wp2_with (go_at_call 145; refine (KO _).mono ?_; rintro e w1 ⟨rfl, hb1⟩; have HB1 := hid13 (keepb hb1 HB.out); clear hb1)
      go_roundg (gk - 1)
      case measure => have := HK.out; omega
      case rel => exact ⟨k + 1, m + o, by have := HK.out; omega, rfl, rfl, HE, HB1⟩
    · have hli : ¬ (k : Int) < (U.length : Int) := by omega
      obtain rfl : k = U.length := by omega
      go_wp2_with fail
      go_ret
      exact ⟨by rw [← HM.out]; rfl, HB.out⟩
def rkN (U : List (BitVec 32)) (i : Int) : Nat := if 0 ≤ i ∧ i < 32 * (U.length : Int) then cnt U (i.toNat + 1) else 0
def rkE (U : List (BitVec 32)) (i : Int) : Int := if 0 ≤ i ∧ i < 32 * (U.length : Int) then 0 else 30
end Go.Proofs.Ytjgpbahglkaijaa
namespace Go.Proofs.Ytjgpbahglkaijaa
open Go.RowKit
set_option linter.unusedSimpArgs false
set_option linter.unusedVariables false

theorem len8_bd : ∀ b : Fin 256, b.val ≠ 0 → 1 ≤ Lib.bitLen b.val ∧ Lib.bitLen b.val ≤ 8 ∧ 2 ^ (Lib.bitLen b.val - 1) ≤ b.val ∧ b.val < 2 ^ Lib.bitLen b.val := by decide +kernel
def LenQ (n L : Nat) : Prop := 1 ≤ L ∧ L ≤ 32 ∧ 2 ^ (L - 1) ≤ n ∧ n < 2 ^ L
theorem lenQ_at (n s b : Nat) (hb : b = n / 2 ^ s) (h0 : b ≠ 0) (h1 : b < 256) (hs : s + 8 ≤ 32) : LenQ n (s + Lib.bitLen b) := by
  obtain ⟨e1, e2, e3, e4⟩ := len8_bd ⟨b, h1⟩ h0
  simp only at e1 e2 e3 e4
  refine ⟨by omega, by omega, ?_, ?_⟩
  · rw [show s + Lib.bitLen b - 1 = s + (Lib.bitLen b - 1) by omega, Nat.pow_add, Nat.mul_comm]
    have : b * 2 ^ s ≤ n := by rw [hb]; exact Nat.div_mul_le_self n (2 ^ s)
    exact Nat.le_trans (Nat.mul_le_mul_right _ e3) this
  · rw [Nat.pow_add, Nat.mul_comm]
    have e5 : n / 2 ^ s < 2 ^ Lib.bitLen b := by rw [← hb]; exact e4
    exact (Nat.div_lt_iff_lt_mul (Nat.two_pow_pos s)).1 e5
theorem len8_at (b : Nat) (h : b < 256) : Lib.len8 (b : Int) = ((Lib.bitLen b : Nat) : Int) := Lib.len8_eq ⟨b, h⟩
set_option maxRecDepth 100000 in
set_option maxHeartbeats 8000000 in
theorem len32_any (n : Nat) (h0 : n ≠ 0) (h1 : n < 4294967296) (w : World) :
    Calls Try.prog 124 #[.int .u32 (n : Int)] w fun e w' => (∃ L : Nat, e = .returned (.int .i64 (L : Int)) ∧ LenQ n L) ∧ w' = w := by
  have main : ∀ (s b : Nat), b = n / 2 ^ s → b ≠ 0 → b < 256 → s + 8 ≤ 32 → ∃ q : Nat, Lib.len8 (b : Int) = (q : Int) ∧ q ≤ 8 ∧ LenQ n (s + q) := fun s b hb hb0 hb1 hs =>
    ⟨Lib.bitLen b, len8_at b hb1, (len8_bd ⟨b, hb1⟩ hb0).2.1, lenQ_at n s b hb hb0 hb1 hs⟩
  obtain ⟨N, hN⟩ : ∃ N : Int, N = (n : Int) := ⟨_, rfl⟩
  rw [← hN]
  by_cases c1 : 65536 ≤ n
  · have d1 : 65536 ≤ N := by omega
    by_cases c2 : 256 ≤ n / 65536
    · obtain ⟨q, hq, hq8, hL⟩ := main 24 (n / 16777216) rfl (by omega) (by omega) (by omega)
      have d2 : 256 ≤ N / 65536 := by omega
      obtain ⟨B, hB⟩ : ∃ B : Int, B = ((n / 16777216 : Nat) : Int) := ⟨_, rfl⟩
      rw [← hB] at hq
      have d3 : N / 65536 / 256 = B := by omega
      have d4 : 0 ≤ B := by omega
      have d5 : B ≤ 255 := by omega
      have hq0 : ((q : Nat) : Int) ≤ 8 := by omega
      have HL := hid13 hL
      clear main hB hL c1 c2 h0 h1 hN
      go_enter Try.func124, Try.ntmps124
      go_wp2
      go_ret
      exact ⟨⟨24 + q, rfl, HL.out⟩, rfl⟩
    · obtain ⟨q, hq, hq8, hL⟩ := main 16 (n / 65536) rfl (by omega) (by omega) (by omega)
      have d2 : ¬ 256 ≤ N / 65536 := by omega
      obtain ⟨B, hB⟩ : ∃ B : Int, B = ((n / 65536 : Nat) : Int) := ⟨_, rfl⟩
      rw [← hB] at hq
      have d3 : N / 65536 = B := by omega
      have d4 : 0 ≤ B := by omega
      have d5 : B ≤ 255 := by omega
      rw [d3] at d2
      have hq0 : ((q : Nat) : Int) ≤ 8 := by omega
      have HL := hid13 hL
      clear main hB hL c1 c2 h0 h1 hN
      go_enter Try.func124, Try.ntmps124
      go_wp2
      go_ret
      exact ⟨⟨16 + q, rfl, HL.out⟩, rfl⟩
  · have d1 : ¬ 65536 ≤ N := by omega
    by_cases c2 : 256 ≤ n
    · obtain ⟨q, hq, hq8, hL⟩ := main 8 (n / 256) rfl (by omega) (by omega) (by omega)
      have d2 : 256 ≤ N := by omega
      obtain ⟨B, hB⟩ : ∃ B : Int, B = ((n / 256 : Nat) : Int) := ⟨_, rfl⟩
      rw [← hB] at hq
      have d3 : N / 256 = B := by omega
      have d4 : 0 ≤ B := by omega
      have d5 : B ≤ 255 := by omega
      have hq0 : ((q : Nat) : Int) ≤ 8 := by omega
      have HL := hid13 hL
      clear main hB hL c1 c2 h0 h1 hN
      go_enter Try.func124, Try.ntmps124
      go_wp2
      go_ret
      exact ⟨⟨8 + q, rfl, HL.out⟩, rfl⟩
    · obtain ⟨q, hq, hq8, hL⟩ := main 0 n (by simp) (by omega) (by omega) (by omega)
      have d2 : ¬ 256 ≤ N := by omega
      rw [← hN] at hq
      have d4 : 0 ≤ N := by omega
      have d5 : N ≤ 255 := by omega
      have hq0 : ((q : Nat) : Int) ≤ 8 := by omega
      have HL := hid13 hL
      clear main hL c1 c2 h0 h1 hN
      go_enter Try.func124, Try.ntmps124
      go_wp2
      go_ret
      refine ⟨⟨0 + q, ?_, HL.out⟩, rfl⟩
      rw [Nat.zero_add]; rfl
def FstP (x : BitVec 32) (p : Nat) : Prop := p < 32 ∧ bt x p = true ∧ ∀ j, j < p → bt x j = false
theorem fst_len (x : BitVec 32) (L : Nat) (h : LenQ x.toNat L) : FstP x (32 - L) := by
  obtain ⟨h1, h2, h3, h4⟩ := h
  have key : ∀ j, j < 32 → bt x j = decide (x.toNat / 2 ^ (31 - j) % 2 = 1) := fun j _ => by
    unfold bt BitVec.getLsbD; rw [Nat.testBit_eq_decide_div_mod_eq]
  refine ⟨by omega, ?_, fun j hj => ?_⟩
  · rw [key _ (by omega), show 31 - (32 - L) = L - 1 by omega, decide_eq_true_eq]
    have a1 : x.toNat / 2 ^ (L - 1) < 2 := by
      rw [Nat.div_lt_iff_lt_mul (Nat.two_pow_pos _), Nat.mul_comm, ← Nat.pow_succ, show (L - 1).succ = L by omega]; exact h4
    have a2 : 1 ≤ x.toNat / 2 ^ (L - 1) := (Nat.le_div_iff_mul_le (Nat.two_pow_pos _)).2 (by omega)
    omega
  · rw [key _ (by omega), decide_eq_false_iff_not]
    have : x.toNat / 2 ^ (31 - j) = 0 := Nat.div_eq_of_lt (Nat.lt_of_lt_of_le h4 (Nat.pow_le_pow_right (by decide) (by omega)))
    omega
set_option maxRecDepth 100000 in
theorem lead13_any (x : BitVec 32) (h0 : x ≠ 0#32) (w : World) :
    Calls Try.prog 104 #[.int .u32 (uI x)] w fun e w' => (∃ p : Nat, e = .returned (.int .i64 (p : Int)) ∧ FstP x p) ∧ w' = w := by
  have hne : x.toNat ≠ 0 := fun e => h0 (BitVec.eq_of_toNat_eq (by rw [e]; rfl))
  have K := len32_any x.toNat hne x.isLt w
  rw [← uI_eq] at K
  go_enter Try.func104, Try.ntmps104
  go_wp2_with fail
  refine K.mono ?_
  rintro e w1 ⟨⟨L, rfl, hL⟩, rfl⟩
  have HP := hid13 (fst_len x L hL)
  obtain ⟨p, hp⟩ : ∃ p, p = 32 - L := ⟨_, rfl⟩
  have hpi : 32 - (L : Int) = (p : Int) := by have := hL.2.1; omega
  have hpl : ((L : Nat) : Int) ≤ 32 := by have := hL.2.1; omega
  rw [← hp] at HP
  clear hL hp K
  go_wp2
  go_ret
  exact ⟨⟨p, rfl, HP.out⟩, rfl⟩
end Go.Proofs.Ytjgpbahglkaijaa
namespace Go.Proofs.Ytjgpbahglkaijaa
open Go.RowKit
set_option linter.unusedSimpArgs false
set_option linter.unusedVariables false

def setL (m : List (BitVec 32)) (p : Nat) : List Int := ((List.range' p (32 * m.length - p)).filter (plc m)).map (fun i : Nat => (i : Int))
theorem setL_end {m : List (BitVec 32)} {p : Nat} (h : 32 * m.length ≤ p) : setL m p = [] := by unfold setL; rw [show 32 * m.length - p = 0 by omega]; rfl
theorem setL_step {m : List (BitVec 32)} {p : Nat} (h : p < 32 * m.length) : setL m p = if plc m p = true then (p : Int) :: setL m (p + 1) else setL m (p + 1) := by
  unfold setL
  rw [show 32 * m.length - p = (32 * m.length - (p + 1)) + 1 by omega, List.range'_succ, List.filter_cons]
  split <;> simp
theorem setL_skip (m : List (BitVec 32)) : ∀ (n p : Nat), p + n ≤ 32 * m.length → (∀ j, p ≤ j → j < p + n → plc m j = false) → setL m p = setL m (p + n)
  | 0, p, _, _ => rfl
  | n + 1, p, h, hj => by
    rw [setL_step (by omega), if_neg (by rw [hj p (by omega) (by omega)]; simp), setL_skip m n (p + 1) (by omega) (fun j a b => hj j (by omega) (by omega)), show p + 1 + n = p + (n + 1) by omega]
theorem setL_len (m : List (BitVec 32)) : ∀ (n p : Nat), p + n = 32 * m.length → (setL m p).length + cnt m p = cnt m (32 * m.length)
  | 0, p, h => by rw [setL_end (by omega), ← h]; simp
  | n + 1, p, h => by
    have h1 := setL_len m n (p + 1) (by omega)
    rw [setL_step (by omega)]
    have e : cnt m (p + 1) = cnt m p + (plc m p).toNat := rfl
    rw [e] at h1
    cases hp : plc m p
    · rw [hp] at h1; simp at h1 ⊢; omega
    · rw [hp] at h1; simp at h1 ⊢; omega
theorem setL_all (m : List (BitVec 32)) : (setL m 0).length = sumW m m.length := by
  have h := setL_len m (32 * m.length) 0 (by omega)
  rw [cnt_words] at h
  have e : cnt m 0 = 0 := rfl
  omega
def LfQ (m : List (BitVec 32)) (k p : Nat) (x : BitVec 32) : Prop := 32 * k ≤ p ∧ p ≤ 32 * k + 32 ∧ ∀ i, i < 32 → bt x i = (plc m (32 * k + i) && decide (p ≤ 32 * k + i))
theorem lf_start (m : List (BitVec 32)) (k : Nat) : LfQ m k (32 * k) (m.getD k 0#32) := ⟨Nat.le_refl _, by omega, fun i hi => by
  unfold plc
  rw [show (32 * k + i) / 32 = k by omega, show (32 * k + i) % 32 = i by omega]
  simp⟩
theorem lf_end {m : List (BitVec 32)} {k p : Nat} (h : LfQ m k p 0#32) (hk : k < m.length) : setL m p = setL m (32 * (k + 1)) := by
  obtain ⟨h1, h2, h3⟩ := h
  have := setL_skip m (32 * k + 32 - p) p (by omega) (fun j a b => by
    have h4 := h3 (j - 32 * k) (by omega)
    rw [show 32 * k + (j - 32 * k) = j by omega] at h4
    have h0 : bt 0#32 (j - 32 * k) = false := by unfold bt; simp
    rw [h0] at h4
    simpa [a] using h4)
  rw [this, show p + (32 * k + 32 - p) = 32 * (k + 1) by omega]
theorem sub_bit (x t : BitVec 32) (h : x &&& t = t) : x - t = x &&& ~~~t := by
  have h0 : (x &&& ~~~t) &&& t = 0#32 := by
    apply BitVec.eq_of_getLsbD_eq
    intro i hi
    simp only [BitVec.getLsbD_and, BitVec.getLsbD_not, BitVec.getLsbD_zero]
    cases x.getLsbD i <;> cases t.getLsbD i <;> simp
  have h1 : (x &&& ~~~t) ||| t = x := by
    apply BitVec.eq_of_getLsbD_eq
    intro i hi
    have h2 := congrArg (fun y => y.getLsbD i) h
    simp only [BitVec.getLsbD_and] at h2
    simp only [BitVec.getLsbD_or, BitVec.getLsbD_and, BitVec.getLsbD_not]
    revert h2
    cases x.getLsbD i <;> cases t.getLsbD i <;> simp [hi]
  have h2 := BitVec.add_eq_or_of_and_eq_zero _ _ h0
  rw [h1] at h2
  calc x - t = (x &&& ~~~t) + t - t := by rw [h2]
    _ = x &&& ~~~t := by rw [BitVec.add_sub_cancel]
theorem tp_bit (k i : Nat) (hi : i < 32) : (tp k).getLsbD i = decide (k = i) := by
  unfold tp
  rw [BitVec.getLsbD_twoPow]
  by_cases c : k = i
  · subst c; simp [hi]
  · simp [c]
theorem bt_sub (x : BitVec 32) (q : Nat) (hq : q < 32) (h : bt x q = true) (i : Nat) (hi : i < 32) : bt (x - tp (31 - q)) i = (bt x i && decide (i ≠ q)) := by
  rw [sub_bit x (tp (31 - q)) (by
    apply BitVec.eq_of_getLsbD_eq
    intro j hj
    rw [BitVec.getLsbD_and, tp_bit _ _ hj]
    by_cases c : 31 - q = j
    · subst c
      have : x.getLsbD (31 - q) = true := h
      simp [this]
    · simp [c])]
  unfold bt
  rw [BitVec.getLsbD_and, BitVec.getLsbD_not, tp_bit _ _ (by omega)]
  by_cases c : i = q
  · subst c; simp
  · have c2 : ¬ 31 - q = 31 - i := by omega
    simp [c, c2]
    omega
theorem lf_hit {m : List (BitVec 32)} {k p q : Nat} {x : BitVec 32} (h : LfQ m k p x) (hk : k < m.length) (hq : FstP x q) : setL m p = ((32 * k + q : Nat) : Int) :: setL m (32 * k + q + 1) ∧ LfQ m k (32 * k + q + 1) (x - tp (31 - q)) := by
  obtain ⟨h1, h2, h3⟩ := h
  obtain ⟨q1, q2, q3⟩ := hq
  have hb := h3 q q1
  rw [q2] at hb
  have hb' := hb.symm
  simp only [Bool.and_eq_true, decide_eq_true_eq] at hb'
  constructor
  · have h5 := setL_skip m (32 * k + q - p) p (by omega) (fun j a b => by
      have h4 := h3 (j - 32 * k) (by omega)
      rw [show 32 * k + (j - 32 * k) = j by omega, q3 _ (by omega)] at h4
      simpa [a] using h4)
    rw [h5, show p + (32 * k + q - p) = 32 * k + q by omega, setL_step (by omega), if_pos hb'.1]
  · refine ⟨by omega, by omega, fun i hi => ?_⟩
    rw [bt_sub x q q1 q2 i hi, h3 i hi]
    by_cases c : i = q
    · subst c
      simp
    · by_cases d : i < q
      · have h4 := h3 i hi
        rw [q3 i d] at h4
        rw [← h4]
        have : ¬ 32 * k + q + 1 ≤ 32 * k + i := by omega
        simp [this]
      · have e1 : p ≤ 32 * k + i := by omega
        have e2 : 32 * k + q + 1 ≤ 32 * k + i := by omega
        simp [c, e1, e2]
theorem tp_uI (n : Nat) (h : n < 32) : (2 : Int) ^ n % 4294967296 = uI (tp n) := by
  rw [uI_eq]
  unfold tp
  rw [BitVec.toNat_twoPow, show (4294967296 : Int) = ((2 ^ 32 : Nat) : Int) by decide, show (2 : Int) ^ n = ((2 ^ n : Nat) : Int) by push_cast; rfl]
  exact (Int.natCast_emod _ _).symm
theorem sub32 (a b : BitVec 32) : IntKind.u32.wrap (uI a - uI b) = uI (a - b) := by
  have := a.isLt
  have := b.isLt
  rw [uI_eq, uI_eq, uI_eq, BitVec.toNat_sub]
  show (_ : Int) % (2 : Int) ^ 32 = _
  rw [show (2 : Int) ^ 32 = 4294967296 by decide]
  omega
theorem sub_lt32 (x : BitVec 32) (q : Nat) (hq : q < 32) (h : bt x q = true) : (uI (x - tp (31 - q))).toNat < (uI x).toNat := by
  have h1 : tp (31 - q) ≤ x := by
    rw [BitVec.le_def]
    unfold tp
    rw [BitVec.toNat_twoPow]
    have h2 : x.getLsbD (31 - q) = true := h
    have h3 := Nat.ge_two_pow_of_testBit h2
    have : (2 : Nat) ^ (31 - q) < 2 ^ 32 := Nat.pow_lt_pow_right (by decide) (by omega)
    rw [Nat.mod_eq_of_lt this]
    exact h3
  have h4 : 0 < (tp (31 - q)).toNat := by
    unfold tp
    rw [BitVec.toNat_twoPow, Nat.mod_eq_of_lt (Nat.pow_lt_pow_right (by decide) (by omega))]
    exact Nat.two_pow_pos _
  rw [uI_eq, uI_eq, Int.toNat_natCast, Int.toNat_natCast, BitVec.toNat_sub_of_le h1]
  rw [BitVec.le_def] at h1
  omega
theorem setL_lt (m : List (BitVec 32)) (p : Nat) : ∀ x ∈ setL m p, 0 ≤ x ∧ x < 32 * m.length := by
  intro x hx
  unfold setL at hx
  obtain ⟨i, hi, rfl⟩ := List.mem_map.mp hx
  have := List.mem_range'_1.mp (List.mem_filter.mp hi).1
  omega
theorem bsG_es (l : List Nat) : ∀ (f : Nat) (a : Int) (P : List PB), (∀ b ∈ P, b.es.length = sumW b.m b.m.length ∧ 1 ≤ b.es.length) → (bsG l f a P).2.2 = 0 → ∀ b ∈ (bsG l f a P).1, b.es.length = sumW b.m b.m.length ∧ 1 ≤ b.es.length
  | 0, a, P, hP, h => by unfold bsG; intro b hb; cases hb
  | f + 1, a, P, hP, h => by
    rw [bsG_succ] at h ⊢
    by_cases c1 : dcE l a ≠ 0
    · rw [if_pos c1] at h; exact absurd h c1
    rw [if_neg c1] at h ⊢
    by_cases c2 : (dcI l a).op ≠ 1
    · rw [if_pos c2] at h; exact absurd h (by simp)
    rw [if_neg c2] at h ⊢
    by_cases c3 : dcE l (a + 1) ≠ 0
    · rw [if_pos c3] at h; exact absurd h c3
    rw [if_neg c3] at h ⊢
    by_cases c4 : (dcI l (a + 1)).op ≠ 2
    · rw [if_pos c4] at h; exact absurd h (by simp)
    rw [if_neg c4] at h ⊢
    by_cases c5 : (dcI l (a + 1)).n ≠ (dcI l a).n
    · rw [if_pos c5] at h; exact absurd h (by simp)
    rw [if_neg c5] at h ⊢
    generalize hr : enG l (a + 1 + dcZ l (a + 1)) (sumW (dcI l (a + 1)).m (dcI l (a + 1)).m.length) 0 [] = r at *
    unfold bsF at h ⊢
    by_cases c6 : r.2.1 ≠ 0
    · rw [if_pos c6] at h; exact absurd h c6
    rw [if_neg c6] at h ⊢
    have hl : r.1.length = sumW (dcI l (a + 1)).m (dcI l (a + 1)).m.length := by
      have := (enG_ok l (a + 1 + dcZ l (a + 1)) (sumW (dcI l (a + 1)).m (dcI l (a + 1)).m.length) 0 [] (by rw [hr]; simpa using c6)).1
      rw [hr] at this
      simpa using this
    have hP2 : ∀ b ∈ P ++ [(⟨a, (dcI l a).n, (dcI l (a + 1)).m, prE (a + 1 + dcZ l (a + 1)) r.1⟩ : PB)], b.es.length = sumW b.m b.m.length ∧ 1 ≤ b.es.length := by
      intro b hb
      rcases List.mem_append.mp hb with q | q
      · exact hP b q
      · simp at q
        subst q
        dsimp only
        rw [prE_len, hl]
        exact ⟨rfl, ((dcF (by simpa using c3)).m2 (by simpa using c4)).2.2⟩
    by_cases c7 : a + 1 + dcZ l (a + 1) + ((sumW (dcI l (a + 1)).m (dcI l (a + 1)).m.length : Nat) : Int) < wds l
    · rw [if_pos c7] at h ⊢
      exact bsG_es l f _ _ hP2 h
    · rw [if_neg c7]
      exact hP2
end Go.Proofs.Ytjgpbahglkaijaa
namespace Go.Proofs.Ytjgpbahglkaijaa
open Go.RowKit
set_option linter.unusedSimpArgs false
set_option linter.unusedVariables false

theorem own_typed18 {W : World} {base e size n : Nat} {v : Value} {xs : List Value} (h : W.ownsRow base e size v n xs) (z : Nat) (hz : v.ownBlock = some z) : ∃ cs, W.heap[z]? = some (.cells cs e) := by
  rcases h.2 with ⟨e0, _⟩ | ⟨g, cap, cur, e0, hb, hg, rest⟩
  · rw [e0] at hz; cases hz
  · rw [e0] at hz
    have q : g = z := by simpa [Value.ownBlock] using hz
    subst q
    exact ⟨_, hg⟩
theorem own_not18 {W : World} {base e size n : Nat} {v : Value} {xs : List Value} (h : W.ownsRow base e size v n xs) {z : Nat} {cs : Array Value} {T : TypeId} {fr : Nat × Nat} (hz : W.heap[z]? = some (.cells cs T fr)) (he : e ≠ T) : v.ownBlock ≠ some z := by
  intro q
  obtain ⟨cs', h2⟩ := own_typed18 h z q
  rw [h2] at hz
  injection hz with hz
  injection hz with _ h2 _
  exact he h2
theorem own_keep18 {W W' : World} {base e size n : Nat} {v : Value} {xs : List Value} (h : W.ownsRow base e size v n xs) (he : ∀ g, v.ownBlock = some g → W'.heap[g]? = W.heap[g]?) : W'.ownsRow base e size v n xs := by
  refine ⟨h.1, ?_⟩
  rcases h.2 with hn | ⟨g, cap, cur, rfl, hb, hg, rest⟩
  · exact .inl hn
  · exact .inr ⟨g, cap, cur, rfl, hb, by rw [he g rfl]; exact hg, rest⟩
theorem own_put3 {W : World} {base e size n B : Nat} {v : Value} {xs : List Value} (h : W.ownsRow base e size v n xs) (hv : v.ownBlock ≠ some B) (u0 u1 u2 : Value) : (((W.setCell ⟨B, 0, none⟩ u0).setCell ⟨B, 1, none⟩ u1).setCell ⟨B, 2, none⟩ u2).ownsRow base e size v n xs :=
  own_keep18 h (fun g e => (far_16 (fun q => hv (by rw [← q]; exact e))).trans ((far_16 (fun q => hv (by rw [← q]; exact e))).trans (far_16 (fun q => hv (by rw [← q]; exact e)))))
theorem gh_same18 {x y : Array Value} {d e f s : Nat} (h : ((x.toList.set e undef).set f undef).eraseIdx d = ((y.toList.set e undef).set f undef).eraseIdx d) (hs : s ≠ d) (ht : s ≠ e) (hu : s ≠ f) : x[s]? = y[s]? := by
  have := erase_get _ _ d s h hs
  rw [List.getElem?_set_ne (Ne.symm hu), List.getElem?_set_ne (Ne.symm hu), List.getElem?_set_ne (Ne.symm ht), List.getElem?_set_ne (Ne.symm ht)] at this
  simpa using this
end Go.Proofs.Ytjgpbahglkaijaa
