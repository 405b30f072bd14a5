/-
  Part 17 of the proof: 5 texts, one behind the other.
-/
import Derived.Test.YtjgpbahglkaijaaPart15
import Derived.Test.YtjgpbahglkaijaaPart2
import Derived.Test.YtjgpbahglkaijaaPart7
namespace Go.Proofs.Ytjgpbahglkaijaa
open Go.RowKit
set_option linter.unusedSimpArgs false
set_option linter.unusedVariables false

structure DB where
  a : Int
  t : Int
  m : List (BitVec 32)
  en : Int
  es : List (Int × Int)
def DB.pb (d : DB) : PB := ⟨d.a, d.t, d.m, prE d.en d.es⟩
noncomputable def blkD (l : List Nat) (a : Int) : DB := ⟨a, (dcI l a).n, (dcI l (a + 1)).m, a + 1 + dcZ l (a + 1), (enG l (a + 1 + dcZ l (a + 1)) (sumW (dcI l (a + 1)).m (dcI l (a + 1)).m.length) 0 []).1⟩
theorem bs_err {l : List Nat} {f : Nat} {a : Int} {P : List PB} (h : (bkE l a).1 ≠ 0) : bsG l (f + 1) a P = ([], (bkE l a).2, (bkE l a).1) := by
  rw [bsG_succ]
  unfold bkE at h ⊢
  by_cases c1 : dcE l a ≠ 0
  · rw [if_pos c1, if_pos c1]
  rw [if_neg c1] at h
  rw [if_neg c1, if_neg c1]
  by_cases c2 : (dcI l a).op ≠ 1
  · rw [if_pos c2, if_pos c2]
  rw [if_neg c2] at h
  rw [if_neg c2, if_neg c2]
  by_cases c3 : dcE l (a + 1) ≠ 0
  · rw [if_pos c3, if_pos c3]
  rw [if_neg c3] at h
  rw [if_neg c3, if_neg c3]
  by_cases c4 : (dcI l (a + 1)).op ≠ 2
  · rw [if_pos c4, if_pos c4]
  rw [if_neg c4] at h
  rw [if_neg c4, if_neg c4]
  by_cases c5 : (dcI l (a + 1)).n ≠ (dcI l a).n
  · rw [if_pos c5, if_pos c5]
  rw [if_neg c5] at h
  rw [if_neg c5, if_neg c5]
  unfold bsF
  rw [if_pos h]
theorem bk_okd {l : List Nat} {a : Int} (h : (bkE l a).1 = 0) : dcE l a = 0 ∧ (dcI l a).op = 1 ∧ dcE l (a + 1) = 0 ∧ (dcI l (a + 1)).op = 2 ∧ (dcI l (a + 1)).n = (dcI l a).n ∧ (enG l (a + 1 + dcZ l (a + 1)) (sumW (dcI l (a + 1)).m (dcI l (a + 1)).m.length) 0 []).2.1 = 0 := by
  unfold bkE at h
  by_cases c1 : dcE l a ≠ 0
  · rw [if_pos c1] at h; exact absurd h c1
  rw [if_neg c1] at h
  by_cases c2 : (dcI l a).op ≠ 1
  · rw [if_pos c2] at h; exact absurd h (by simp)
  rw [if_neg c2] at h
  by_cases c3 : dcE l (a + 1) ≠ 0
  · rw [if_pos c3] at h; exact absurd h c3
  rw [if_neg c3] at h
  by_cases c4 : (dcI l (a + 1)).op ≠ 2
  · rw [if_pos c4] at h; exact absurd h (by simp)
  rw [if_neg c4] at h
  by_cases c5 : (dcI l (a + 1)).n ≠ (dcI l a).n
  · rw [if_pos c5] at h; exact absurd h (by simp)
  rw [if_neg c5] at h
  exact ⟨by simpa using c1, by simpa using c2, by simpa using c3, by simpa using c4, by simpa using c5, h⟩
theorem bs_ok {l : List Nat} {f : Nat} {a : Int} {P : List PB} (h : (bkE l a).1 = 0) : bsG l (f + 1) a P = if a + 1 + dcZ l (a + 1) + (sumW (dcI l (a + 1)).m (dcI l (a + 1)).m.length : Nat) < wds l then bsG l f (a + 1 + dcZ l (a + 1) + (sumW (dcI l (a + 1)).m (dcI l (a + 1)).m.length : Nat)) (P ++ [(blkD l a).pb]) else (P ++ [(blkD l a).pb], 0, 0) := by
  obtain ⟨c1, c2, c3, c4, c5, c6⟩ := bk_okd h
  rw [bsG_succ, if_neg (by simp [c1]), if_neg (by simp [c2]), if_neg (by simp [c3]), if_neg (by simp [c4]), if_neg (by simp [c5])]
  unfold bsF
  rw [if_neg (by simp [c6])]
  rfl
theorem enG_bd (l : List Nat) (en : Int) : ∀ (r k : Nat) (es : List (Int × Int)), (∀ e ∈ es, 0 ≤ e.2 ∧ e.2 ≤ 16777215) → ∀ e ∈ (enG l en r k es).1, 0 ≤ e.2 ∧ e.2 ≤ 16777215
  | 0, k, es, h => h
  | r + 1, k, es, h => by
    rw [enG_succ]
    by_cases h1 : enE l (en + k) es = 0
    · rw [if_pos h1]
      refine enG_bd l en r (k + 1) _ (fun e he => ?_)
      rcases List.mem_append.mp he with q | q
      · exact h e q
      · simp at q
        subst q
        have h2 : dcE l (en + k) = 0 := by
          by_cases h3 : dcE l (en + k) ≠ 0
          · unfold enE at h1
            rw [if_pos h3] at h1
            exact h1
          · simpa using h3
        exact ⟨(dcF h2).n0, (dcF h2).n1⟩
    · rw [if_neg h1]
      exact h
structure DbF (d : DB) : Prop where
  e : d.en = d.a + 2 + (d.m.length : Int)
  n : ∀ e ∈ d.es, 0 ≤ e.2 ∧ e.2 ≤ 16777215
theorem blkD_ok {l : List Nat} {a : Int} (h : (bkE l a).1 = 0) : DbF (blkD l a) := by
  obtain ⟨c1, c2, c3, c4, c5, c6⟩ := bk_okd h
  refine ⟨?_, enG_bd l _ _ _ _ (fun e he => by cases he)⟩
  unfold blkD
  dsimp only
  rw [dcZ_zero c3]
  omega
theorem prE_get : ∀ (p : Int) (A : List (Int × Int)) (j : Nat) (e : Int × Int), A[j]? = some e → (prE p A)[j]? = some (prX (p + j) e)
  | p, [], j, e, h => by simp at h
  | p, x :: A, 0, e, h => by
    simp at h; subst h
    show some (prX p x) = _
    simp
  | p, x :: A, j + 1, e, h => by
    have := prE_get (p + 1) A j e (by simpa using h)
    show (prE (p + 1) A)[j]? = _
    rw [this]
    congr 2
    push_cast
    omega
theorem mkX18_set0 (s : List Bool) (e : Bool × Int) : mkX (s.set 0 true) e = (mkX s e).set 0 true := by
  unfold mkX
  split
  · by_cases c : e.2.toNat = 0
    · rw [c]
    · rw [List.set_comm _ _ (by omega)]
  · rfl
theorem mkF18_set0 : ∀ (es : List (Bool × Int)) (s : List Bool), es.foldl mkX (s.set 0 true) = (es.foldl mkX s).set 0 true
  | [], s => rfl
  | e :: t, s => by rw [List.foldl_cons, List.foldl_cons, mkX18_set0, mkF18_set0 t]
theorem mkA18_set0 : ∀ (P : List PB) (s : List Bool), P.foldl mkB (s.set 0 true) = (P.foldl mkB s).set 0 true
  | [], s => rfl
  | b :: t, s => by
    rw [List.foldl_cons, List.foldl_cons]
    show t.foldl mkB (b.es.foldl mkX (s.set 0 true)) = _
    rw [mkF18_set0, mkA18_set0 t]; rfl
theorem usR_no {P : List PB} (h : ∀ k, 1 ≤ k → k < P.length → ((P.foldl mkB (List.replicate P.length false)).getD k false) = true) : usR P = (0, 0) := by
  unfold usR
  have hm : mkA P = (P.foldl mkB (List.replicate P.length false)).set 0 true := by unfold mkA mk0; exact mkA18_set0 P _
  have hl : (P.foldl mkB (List.replicate P.length false)).length = P.length := by rw [mkA_len]; simp
  have hx : ixB (mkA P) = -1 := by
    unfold ixB
    have : (mkA P).findIdx? (· == false) = none := by
      rw [List.findIdx?_eq_none_iff]
      intro x hx
      obtain ⟨k, hk⟩ := List.getElem?_of_mem hx
      rw [hm] at hk
      have hkl := (List.getElem?_eq_some_iff.mp hk).1
      rw [List.length_set, hl] at hkl
      by_cases c : k = 0
      · subst c
        rw [List.getElem?_set_self (by omega)] at hk
        injection hk with hk
        subst hk; rfl
      · rw [List.getElem?_set_ne (by omega)] at hk
        have := h k (by omega) hkl
        rw [List.getD_eq_getElem?_getD, hk] at this
        simp at this
        subst this; rfl
    rw [this]
  rw [hx, if_neg (by omega)]
theorem usR_at {P : List PB} {k : Nat} {b : PB} (h1 : 1 ≤ k) (hb : P[k]? = some b) (h0 : ((P.foldl mkB (List.replicate P.length false)).getD k false) = false) (h : ∀ j, 1 ≤ j → j < k → ((P.foldl mkB (List.replicate P.length false)).getD j false) = true) : usR P = (b.a, 31) := by
  unfold usR
  have hm : mkA P = (P.foldl mkB (List.replicate P.length false)).set 0 true := by unfold mkA mk0; exact mkA18_set0 P _
  have hl : (P.foldl mkB (List.replicate P.length false)).length = P.length := by rw [mkA_len]; simp
  have hkl := (List.getElem?_eq_some_iff.mp hb).1
  have hx : ixB (mkA P) = (k : Int) := by
    unfold ixB
    have : (mkA P).findIdx? (· == false) = some k := by
      rw [List.findIdx?_eq_some_iff_getElem]
      rw [hm]
      refine ⟨by rw [List.length_set, hl]; exact hkl, ?_, fun j hj => ?_⟩
      · rw [List.getElem_set_ne (by omega)]
        rw [List.getD_eq_getElem?_getD, List.getElem?_eq_getElem (by rw [hl]; exact hkl)] at h0
        simp at h0
        simp [h0]
      · by_cases c : j = 0
        · subst c; simp
        · rw [List.getElem_set_ne (by omega)]
          have := h j (by omega) hj
          rw [List.getD_eq_getElem?_getD, List.getElem?_eq_getElem (by rw [hl]; omega)] at this
          simp at this
          simp [this]
    rw [this]
  rw [hx, if_pos (by omega), Int.toNat_natCast, List.getD_eq_getElem?_getD, hb]
  rfl
end Go.Proofs.Ytjgpbahglkaijaa
namespace Go.Proofs.Ytjgpbahglkaijaa
open Go.RowKit
set_option linter.unusedSimpArgs false
set_option linter.unusedVariables false

theorem rmapWords_any (n : Nat) (h : n ≤ 24) (w : World) :
    Calls Try.prog 51 #[.int .i64 (n : Int)] w fun e w' => e = .returned (.int .i64 (mwN n : Int)) ∧ w' = w := by
  by_cases c : n < 5
  · have c1 : (n : Int) < 5 := by omega
    have e : Hid (mwN n = 1) := by show _ = _; unfold mwN; rw [if_pos c]
    clear c h
    go_enter Try.func51, Try.ntmps51
    go_wp2
    go_ret
    exact ⟨by rw [e.out]; rfl, rfl⟩
  · have c1 : ¬ (n : Int) < 5 := by omega
    obtain ⟨j, hj⟩ : ∃ j, j = n - 5 := ⟨_, rfl⟩
    have hs := sh64 j (by omega)
    obtain ⟨P, hP⟩ : ∃ P : Nat, P = 2 ^ j := ⟨_, rfl⟩
    rw [← hP] at hs
    have e : Hid (mwN n = P) := by show _ = _; unfold mwN; rw [if_neg c, hP, hj]
    have hw : IntKind.i64.wrap ((n : Int) - 5) = (j : Int) := by rw [IntKind.wrap_i64]; omega
    clear c h hP hj
    go_enter Try.func51, Try.ntmps51
    go_wp2
    go_ret
    exact ⟨by rw [e.out]; rfl, rfl⟩
set_option maxRecDepth 100000 in
set_option maxHeartbeats 4000000 in
theorem risMap_any (v : Value) (m : List (BitVec 32)) (n : Nat) (w : World) (hv : RwX cU w v m) (h : n ≤ 24) :
    Calls Try.prog 52 #[v, .int .i64 (n : Int)] w fun e w' => e = .returned (.bool (isMapB m n)) ∧ Below w.heap.size w w' := by
  have KM := fun w => rmapWords_any n h w
  obtain ⟨ao, c, rfl, hc, hr⟩ := hv
  have hs1 := sh64u n h
  by_cases h1 : m.length = mwN n
  · obtain ⟨x, t, rfl⟩ : ∃ x t, m = x :: t := by
      cases m with
      | nil => have := mwN_lo n; simp at h1; omega
      | cons x t => exact ⟨x, t, rfl⟩
    obtain ⟨b, off, rfl, hcell⟩ : ∃ b off, ao = some ⟨b, off, none⟩ ∧ ∀ j y, (x :: t)[j]? = some y → w.cell? ⟨b, off + j, none⟩ = some (cU y) := by
      rcases hr with h | h
      · cases h
      · exact h
    have c0 : w.cell? ⟨b, off, none⟩ = some (.int .u32 (uI x)) := hcell 0 x rfl
    have HE : Hid (isMapB (x :: t) n = topB x (2 ^ n)) := by show _ = _; rw [isMapB_cons, decide_eq_true h1, Bool.true_and]
    obtain ⟨L, hL⟩ : ∃ L, L = (x :: t).length := ⟨_, rfl⟩
    rw [← hL] at h1 ⊢
    have hL0 : (0 : Int) < (L : Int) := by rw [hL]; simp
    rw [← h1] at KM
    obtain ⟨P, hP⟩ : ∃ P : Nat, P = 2 ^ n := ⟨_, rfl⟩
    rw [← hP] at hs1 HE
    have hs2 := sh32u x P
    have hh := hi32 x
    have HP : Hid (5 ≤ n → x <<< P = 0#32) := by
      intro h5
      refine BitVec.shiftLeft_eq_zero ?_
      rw [hP]
      have := Nat.pow_le_pow_right (n := 2) (by decide) h5
      exact this
    clear hcell hr h1 hL hc h hP
    unfold topB at HE
    cases g : x.getLsbD 31 with
    | true =>
      rw [g] at hh HE
      replace HE : Hid (isMapB (x :: t) n = (x <<< P == 0#32)) := HE
      simp only [if_true] at hh
      clear g
      by_cases h5 : 5 ≤ n
      · have HE2 : Hid (isMapB (x :: t) n = true) := by show _ = _; rw [HE.out, HP.out h5]; rfl
        have h5' : (5 : Int) ≤ (n : Int) := by omega
        clear h5 HE HP
        go_enter Try.func52, Try.ntmps52
        go_wp2_with (go_at_call 51; refine (KM _).mono ?_; rintro e w1 ⟨rfl, hw1⟩; replace hw1 := hw1.symm; subst hw1)
        go_quiet (fail)
        have HB : Hid (Below w.heap.size w (w.drewN nq)) := below_drewN (Below.refl _ _) nq
        go_wp2
        go_ret
        exact ⟨by rw [HE2.out]; rfl, HB.out⟩
      · have h5' : decide ((5 : Int) ≤ (n : Int)) = false := decide_eq_false (by omega)
        clear h5 HP
        by_cases hz : x <<< P = 0#32
        · have HE2 : Hid (isMapB (x :: t) n = true) := by show _ = _; rw [HE.out, hz]; rfl
          rw [hz, uI_zero] at hs2
          clear hz HE
          go_enter Try.func52, Try.ntmps52
          go_wp2_with (go_at_call 51; refine (KM _).mono ?_; rintro e w1 ⟨rfl, hw1⟩; replace hw1 := hw1.symm; subst hw1)
          go_quiet (fail)
          have HB : Hid (Below w.heap.size w (w.drewN nq)) := below_drewN (Below.refl _ _) nq
          go_wp2
          go_ret
          exact ⟨by rw [HE2.out]; rfl, HB.out⟩
        · have HE2 : Hid (isMapB (x :: t) n = false) := by show _ = _; rw [HE.out]; simpa using hz
          obtain ⟨Y, hY⟩ : ∃ Y, Y = uI (x <<< P) := ⟨_, rfl⟩
          have hY0 : (Y == 0) = false := by
            rw [hY]; simp only [beq_eq_false_iff_ne]
            exact fun e => hz ((uI_is0 _).1 e)
          rw [← hY] at hs2
          clear hz hY HE
          go_enter Try.func52, Try.ntmps52
          go_wp2_with (go_at_call 51; refine (KM _).mono ?_; rintro e w1 ⟨rfl, hw1⟩; replace hw1 := hw1.symm; subst hw1)
          go_quiet (fail)
          have HB : Hid (Below w.heap.size w (w.drewN nq)) := below_drewN (Below.refl _ _) nq
          go_wp2
          go_ret
          exact ⟨by rw [HE2.out]; rfl, HB.out⟩
    | false =>
      rw [g] at hh HE
      replace hh : uI x / 2147483648 = 0 := hh
      replace HE : Hid (isMapB (x :: t) n = false) := HE
      clear hs2 hs1 g HP
      go_enter Try.func52, Try.ntmps52
      go_wp2_with (go_at_call 51; refine (KM _).mono ?_; rintro e w1 ⟨rfl, hw1⟩; replace hw1 := hw1.symm; subst hw1)
      go_ret
      exact ⟨by rw [HE.out]; rfl, Below.refl _ _⟩
  · have HE : Hid (isMapB m n = false) := by show _ = _; unfold isMapB; rw [decide_eq_false h1]; rfl
    obtain ⟨L, hL⟩ : ∃ L, L = mwN n := ⟨_, rfl⟩
    rw [← hL] at KM h1
    have h1' : (((m.length : Nat) : Int) != (L : Int)) = true := by simp; omega
    clear hs1 hr hL h1
    go_enter Try.func52, Try.ntmps52
    go_wp2_with (go_at_call 51; refine (KM _).mono ?_; rintro e w1 ⟨rfl, hw1⟩; replace hw1 := hw1.symm; subst hw1)
    go_ret
    exact ⟨by rw [HE.out]; rfl, Below.refl _ _⟩
end Go.Proofs.Ytjgpbahglkaijaa
namespace Go.Proofs.Ytjgpbahglkaijaa
open Go.RowKit
set_option linter.unusedSimpArgs false
set_option linter.unusedVariables false

end Go.Proofs.Ytjgpbahglkaijaa
namespace Go.Proofs.Ytjgpbahglkaijaa
open Go.RowKit
set_option linter.unusedSimpArgs false
set_option linter.unusedVariables false

theorem and24 (x : BitVec 32) : bits .and .u32 (uI x) 16777215 = uI x % 16777216 := by
  have e : (16777215 : Int) = uI 16777215#32 := lit32 16777215 (by decide)
  have h : bits .and .u32 (uI x) (uI 16777215#32) = uI x % 16777216 := by
    rw [and32, uI_eq, uI_eq, BitVec.toNat_and]
    have : (16777215#32).toNat = 2 ^ 24 - 1 := by decide
    rw [this, Nat.and_two_pow_sub_one_eq_mod]
    have : (2 : Nat) ^ 24 = 16777216 := by decide
    omega
  rw [← e] at h
  exact h
theorem dc_err {l : List Nat} {a z : Int} (h : dcE l a = z) (hz : z ≠ 0) : dcI l a = ⟨0, 0, []⟩ ∧ dcZ l a = 0 ∧ dcE l a = z := by
  have hne : ¬ dcE l a = 0 := by rw [h]; exact hz
  exact ⟨by unfold dcI; rw [if_neg hne], by unfold dcZ; rw [if_neg hne], h⟩
theorem dc_ok {l : List Nat} {k : Nat} {m : List (BitVec 32)} (hk : k < l.length / 4) (h : rdP l k = (m, 0)) : dcI l (k : Int) = ⟨insO l k, insN l k, m⟩ ∧ dcZ l (k : Int) = 1 + (m.length : Int) ∧ dcE l (k : Int) = 0 := by
  have hs : stB l.length (k : Int) 1 = true := by unfold stB; simp; omega
  have hE : dcE l (k : Int) = 0 := by unfold dcE; rw [if_pos hs, Int.toNat_natCast, h]
  have hI : dcI l (k : Int) = ⟨insO l k, insN l k, m⟩ := by unfold dcI; rw [if_pos hE, Int.toNat_natCast, h]
  exact ⟨hI, by unfold dcZ; rw [if_pos hE, hI], hE⟩
theorem dc_bad {l : List Nat} {k : Nat} {m : List (BitVec 32)} {z : Int} (hk : k < l.length / 4) (h : rdP l k = (m, z)) (hz : z ≠ 0) : dcI l (k : Int) = ⟨0, 0, []⟩ ∧ dcZ l (k : Int) = 0 ∧ dcE l (k : Int) = z := by
  have hs : stB l.length (k : Int) 1 = true := by unfold stB; simp; omega
  exact dc_err (by unfold dcE; rw [if_pos hs, Int.toNat_natCast, h]) hz
set_option maxRecDepth 100000 in
set_option maxHeartbeats 8000000 in
theorem rdecode_out (v : Value) (l : List Nat) (a : Int) (w : World) (hv : RwX cB w v l) (hl : l.length ≤ 100000) (hx : ∀ b ∈ l, b < 256) (ha : stB l.length a 1 = false) :
    Calls Try.prog 29 #[v, .int .i64 a] w fun e w' => ∃ v', e = .returned (.tuple #[insV (dcI l a) v', .int .i64 (dcZ l a), .int .i64 (dcE l a)]) ∧ w'.ownsRow w.heap.size 110 1 v' (dcI l a).m.length ((dcI l a).m.map cU) ∧ Below w.heap.size w w' := by
  have hE : dcE l a = 30 := by unfold dcE; rw [if_neg (by rw [ha]; decide)]
  have HE := hid13 (dc_err hE (by decide))
  have hs : ¬ (0 ≤ a ∧ 4 * a + 4 ≤ (l.length : Int)) := by
    unfold stB at ha
    intro q
    have : (decide (0 ≤ a) && decide (a ≤ (l.length : Int) / 4 - 1)) = true := by simp; omega
    rw [this] at ha; cases ha
  have fin : ∀ (W : World) (hb : Below w.heap.size w W), ∃ v', (Ending.returned (.tuple #[.agg #[.int .i64 0, .int .i64 0, .slice none 0 0], .int .i64 0, .int .i64 30])) = .returned (.tuple #[insV (dcI l a) v', .int .i64 (dcZ l a), .int .i64 (dcE l a)]) ∧ W.ownsRow w.heap.size 110 1 v' (dcI l a).m.length ((dcI l a).m.map cU) ∧ Below w.heap.size w W := by
    intro W hb
    refine ⟨.slice none 0 0, ?_, ?_, hb⟩
    · rw [HE.out.1, HE.out.2.1, HE.out.2.2]; rfl
    · rw [HE.out.1]; exact World.ownsRow_nil _ _ _ _
  have HFin := hid13 fin
  obtain ⟨ao, cc, hvf, -⟩ := id hv
  by_cases d0 : a < 0
  · subst hvf
    clear hs ha hE fin hv
    go_enter Try.func29, Try.ntmps29
    go_wp2
    exact bodyPost_ret (v := .tuple #[.agg #[.int .i64 0, .int .i64 0, .slice none 0 0], .int .i64 0, .int .i64 30]) (by simp [results, Try.results29, go_sem]) rfl (HFin.out _ (bl1 _ _))
  by_cases d1 : (l.length : Int) ≤ a
  · subst hvf
    clear hs ha hE fin hv
    go_enter Try.func29, Try.ntmps29
    go_wp2
    exact bodyPost_ret (v := .tuple #[.agg #[.int .i64 0, .int .i64 0, .slice none 0 0], .int .i64 0, .int .i64 30]) (by simp [results, Try.results29, go_sem]) rfl (HFin.out _ (bl1 _ _))
  have q1 := bl1 w (.cells #[.int .i64 0, .int .i64 0, .slice none 0 0] 75)
  have K1 := rget13 v l (4 * a) 4 4 rfl (by decide) (by decide) _ (hv.below q1) (by omega) hx (by omega) (by omega)
  have hno : ¬ (0 ≤ 4 * a ∧ 4 * a ≤ (l.length : Int) - ((4 : Nat) : Int)) := by rintro ⟨q1, q2⟩; exact hs ⟨by omega, by omega⟩
  rw [decide_eq_false hno, show gtN l (4 * a) 4 = 0 by unfold gtN; rw [if_neg hno]] at K1
  have mw : IntKind.i64.wrap (4 * a) = 4 * a := by rw [IntKind.wrap_i64]; omega
  subst hvf
  clear hs ha hE fin hv hno q1
  go_enter Try.func29, Try.ntmps29
  go_wp2_with fail
  refine K1.mono ?_
  rintro e w2 ⟨rfl, hw2⟩
  replace hw2 := hw2.symm
  subst hw2
  go_wp2
  exact bodyPost_ret (v := .tuple #[.agg #[.int .i64 0, .int .i64 0, .slice none 0 0], .int .i64 0, .int .i64 30]) (by simp [results, Try.results29, go_sem]) rfl (HFin.out _ (bl1 _ _))
structure DcW (w W : World) (B : Nat) (o n : Int) (vb : Value) (R : List (BitVec 32)) : Prop where
  b : Below w.heap.size w W
  r : AtIF W w.heap.size 0 0 (.slice none 0 0)
  i : AtIF W B o n vb
  o : W.ownsRow (B + 1) 110 1 vb R.length (R.map cU)
  s : B + 1 ≤ W.heap.size
section
variable {w W W' : World} {B : Nat} {o n : Int} {vb v' : Value} {R R' : List (BitVec 32)}
theorem DcW.below (h : DcW w W B o n vb R) (hb : Below W.heap.size W W') : DcW w W' B o n vb R := ⟨keepb hb h.b, h.r.below hb, h.i.below hb, own_b13 hb h.o, Nat.le_trans h.s hb.size⟩
theorem AtIF.grown {C : Nat} {row : Option Nat} (h : AtIF W C o n vb) (hg : W.grownBy W' row) (hne : some C ≠ row) : AtIF W' C o n vb := by
  have e : W'.heap[C]? = W.heap[C]? := hg.block C (cell_in h.1.1) hne
  have f : ∀ j, W'.frozen? ⟨C, j, none⟩ = W.frozen? ⟨C, j, none⟩ := fun j => World.frozen?_of_block (a := ⟨C, j, none⟩) e
  exact ⟨⟨hg.cell h.1.1 hne, hg.cell h.1.2.1 hne, hg.cell h.1.2.2 hne⟩, (f 0).trans h.2.1, (f 1).trans h.2.2.1, (f 2).trans h.2.2.2⟩
theorem DcW.app (h : DcW w W B o n vb R) (hB : w.heap.size < B) (ho : W'.ownsRow (B + 1) 110 1 v' R'.length (R'.map cU)) (hg : W.grownBy W' vb.ownBlock) : AtIF W' B o n vb ∧ DcW w (W'.setCell ⟨B, 2, none⟩ v') B o n v' R' := by
  have hne : ∀ C, C ≤ B → some C ≠ vb.ownBlock := fun C hC e => by have := (h.o.lt C e.symm).1; omega
  have hi := h.i.grown hg (hne B (Nat.le_refl _))
  have hr := h.r.grown hg (hne w.heap.size (by omega))
  have hb : Below w.heap.size w W' := h.b.grown hg (by have := h.s; omega) (fun k e => by have := (h.o.lt k e).1; omega)
  refine ⟨hi, ?_⟩
  obtain ⟨⟨i0, i1, i2⟩, f0, f1, f2⟩ := hi
  obtain ⟨⟨r0, r1, r2⟩, g0, g1, g2⟩ := hr
  have hBw : ¬ w.heap.size = B := by omega
  have hBw' : ¬ B = w.heap.size := by omega
  refine ⟨hb.setCell (p := ⟨B, 2, none⟩) (by show w.heap.size ≤ B; omega) _, ⟨⟨?_, ?_, ?_⟩, ?_, ?_, ?_⟩, ⟨⟨?_, ?_, ?_⟩, ?_, ?_, ?_⟩, ownsRow_setCell_below ho (Nat.lt_succ_self _) _, ?_⟩
  all_goals first | (simp [go_sem, *]; done) | skip
  · simp [World.setCell]; exact Nat.le_trans h.s hg.size
end
end Go.Proofs.Ytjgpbahglkaijaa
namespace Go.Proofs.Ytjgpbahglkaijaa
open Go.RowKit
set_option linter.unusedSimpArgs false
set_option linter.unusedVariables false

theorem stopAnd14 {P : Program} {w : World} {ops : Array Oper} {rest : List Oper} {a : Act} {Q : Exit → Act → World → Prop} {d : Option Tmp} {t t2 ty : TypeId} {x y : Operand} {p : String} {af : Array Edge} {g : Option (Nat × Bool)} (h : Hid (wpList P ops Q ({ dst := d, op := .binOp .and t x y t2, type := ty, pos := p, after := af, guard := g } :: rest) a w)) : wpList P ops Q ({ dst := d, op := .binOp .and t x y t2, type := ty, pos := p, after := af, guard := g } :: rest) a w := h.out
theorem sd14a {k c L J : Nat} (h : k + 1 + c ≤ L / 4) (hL : L ≤ 100000) (hJ : J ≤ c) (h1 : 1 ≤ J) : k + J < L / 4 ∧ (0 ≤ ((4 * (k + J) : Nat) : Int) ∧ ((4 * (k + J) : Nat) : Int) ≤ (L : Int) - ((4 : Nat) : Int)) := by omega
theorem sd14b {k c L J : Nat} (h : k + 1 + c ≤ L / 4) (hL : L ≤ 100000) (hJ : J ≤ c) : IntKind.i64.wrap ((k : Int) + (J : Int)) = ((k + J : Nat) : Int) ∧ IntKind.i64.wrap (4 * ((k + J : Nat) : Int)) = ((4 * (k + J) : Nat) : Int) ∧ IntKind.i64.wrap ((J : Int) + 1) = ((J + 1 : Nat) : Int) := by
  refine ⟨?_, ?_, ?_⟩ <;> (rw [IntKind.wrap_i64]; omega)
theorem sd14 {k c L : Nat} (h : k + 1 + c ≤ L / 4) : (c : Int) ≤ (L : Int) / 4 - (k : Int) - 1 := by omega
theorem sd14n {k c L : Nat} (h : ¬ k + 1 + c ≤ L / 4) : (L : Int) / 4 - (k : Int) - 1 < (c : Int) := by omega
theorem wr14 (x : Int) (h0 : -1000000000 ≤ x) (h1 : x ≤ 1000000000) : wrap64 x = x := by unfold wrap64; omega
theorem ex14b {P : Program} {w : World} {s : Sem Value} {v : Value} (h : s.run P w = .ok v w) : (do pure (Next.value (← s)) : Sem Next).run P w = .ok (.value v) w := by
  simp only [Sem.run_bind, h, Sem.run_pure, Result.andThen_ok]
theorem sw_run14 {P : Program} {ops : Array Oper} {Q : Exit → Act → World → Prop} {a : Act} {o : Oper} {rest : List Oper} {w : World} {v : Value}
    (hg : o.guard = none) (h : (execOp a.eval o).run P w = .ok (.value v) w) (k : wpList P ops Q rest (a.put o.dst v) w) : wpList P ops Q (o :: rest) a w := by
  refine wpList_plain hg fun K hK => ?_
  unfold Oper.wp Oper.upon
  rw [h]
  exact hK _ _ k
theorem rd_fin (l : List Nat) (k : Nat) (w : World) (hk : k < l.length / 4) (z : Int) (m : List (BitVec 32)) (hz : z ≠ 0) (hr : rdP l k = (m, z)) (W : World) (hb : Below w.heap.size w W) : ∃ v', (Ending.returned (.tuple #[.agg #[.int .i64 0, .int .i64 0, .slice none 0 0], .int .i64 0, .int .i64 z])) = .returned (.tuple #[insV (dcI l (k : Int)) v', .int .i64 (dcZ l (k : Int)), .int .i64 (dcE l (k : Int))]) ∧ W.ownsRow w.heap.size 110 1 v' (dcI l (k : Int)).m.length ((dcI l (k : Int)).m.map cU) ∧ Below w.heap.size w W := by
  obtain ⟨g1, g2, g3⟩ := dc_bad hk hr hz
  refine ⟨.slice none 0 0, ?_, ?_, hb⟩
  · rw [g1, g2, g3]; rfl
  · rw [g1]; exact World.ownsRow_nil _ _ _ _
theorem dcw_new (w : World) (o n : Int) : DcW w ((w.alloc (.cells #[.int .i64 0, .int .i64 0, .slice none 0 0] 75)).alloc (.cells #[.int .i64 o, .int .i64 n, .slice none 0 0] 75)) (w.heap.size + 1) o n (.slice none 0 0) [] := by
  have q1 := bl1 w (.cells #[.int .i64 0, .int .i64 0, .slice none 0 0] 75)
  have q2 := bl1 (w.alloc (.cells #[.int .i64 0, .int .i64 0, .slice none 0 0] 75)) (.cells #[.int .i64 o, .int .i64 n, .slice none 0 0] 75)
  have a1 := (atif_new w 0 0 (.slice none 0 0) 75).below q2
  have a2 := atif_new (w.alloc (.cells #[.int .i64 0, .int .i64 0, .slice none 0 0] 75)) o n (.slice none 0 0) 75
  have hsz : (w.alloc (.cells #[.int .i64 0, .int .i64 0, .slice none 0 0] 75)).heap.size = w.heap.size + 1 := by simp
  rw [hsz] at a2
  exact ⟨keepb q2 q1, a1, a2, World.ownsRow_nil _ _ _ _, by simp⟩
set_option maxRecDepth 100000 in
set_option maxHeartbeats 16000000 in
theorem rdecode_map (v : Value) (l : List Nat) (k N : Nat) (w : World) (hv : RwX cB w v l) (hl : l.length ≤ 100000) (hx : ∀ b ∈ l, b < 256) (hk : k < l.length / 4) (hO : insO l k = 2) (hN : insN l k = (N : Int)) (hN1 : 1 ≤ N) (hN24 : N ≤ 24) :
    Calls Try.prog 29 #[v, .int .i64 (k : Int)] w fun e w' => ∃ v', e = .returned (.tuple #[insV (dcI l (k : Int)) v', .int .i64 (dcZ l (k : Int)), .int .i64 (dcE l (k : Int))]) ∧ w'.ownsRow w.heap.size 110 1 v' (dcI l (k : Int)).m.length ((dcI l (k : Int)).m.map cU) ∧ Below w.heap.size w w' := by
  obtain ⟨ao, cc, hvf, -⟩ := id hv
  have q1 := bl1 w (.cells #[.int .i64 0, .int .i64 0, .slice none 0 0] 75)
  have K1 := rget13 v l (4 * (k : Int)) 4 4 rfl (by decide) (by decide) _ (hv.below q1) (by omega) hx (by omega) (by omega)
  have hyes : 0 ≤ 4 * (k : Int) ∧ 4 * (k : Int) ≤ (l.length : Int) - ((4 : Nat) : Int) := ⟨by omega, by omega⟩
  have e1 : ((gtN l (4 * (k : Int)) 4 : Nat) : Int) = uI (wdV l k) := by
    rw [wd_uI l k hx]
    unfold gtN
    rw [if_pos hyes, show (4 * (k : Int)).toNat = 4 * k by omega]
  rw [decide_eq_true hyes, e1] at K1
  obtain ⟨A4, hA4⟩ : ∃ A4 : Nat, 4 * (k : Int) = (A4 : Int) := ⟨4 * k, by omega⟩
  have mw : IntKind.i64.wrap (4 * (k : Int)) = (A4 : Int) := by rw [IntKind.wrap_i64]; omega
  rw [hA4] at K1
  have HV := hid13 hv
  have HX := hid13 hx
  have han := and24 (wdV l k)
  obtain ⟨X, hX⟩ : ∃ X, X = uI (wdV l k) := ⟨_, rfl⟩
  obtain ⟨c, hc⟩ : ∃ c, c = mwN N := ⟨_, rfl⟩
  have hR : rdP l k = if k + 1 + c ≤ l.length / 4 then (if isMapB (mpL l (k + 1) c) N = true then (mpL l (k + 1) c, (0 : Int)) else ([], 25)) else ([], 30) := by
    unfold rdP
    rw [hO, hN, if_pos (by decide), if_pos (by show (N : Int) ≤ 255; omega), if_pos (by unfold tkB kLo kHi; simp; omega), if_pos rfl, Int.toNat_natCast]
    unfold rmP
    rw [← hc]
  have hQ : Hid (insO l k = 2 ∧ insN l k = (N : Int)) := ⟨hO, hN⟩
  have x1 : X / 16777216 = 2 := by rw [hX, ← hO]; rfl
  have x2 : bits .and .u32 X 16777215 = (N : Int) := by rw [hX, han, ← hN]; rfl
  have hNw : IntKind.i64.wrap (N : Int) = (N : Int) := by rw [IntKind.wrap_i64]; omega
  rw [← hX] at K1
  have d0 : ¬ (k : Int) < 0 := by omega
  have d1 : ¬ (l.length : Int) ≤ (k : Int) := by omega
  have HAnd : Hid (∀ W : World, (binOp .and 110 (.int .u32 X) (.int .u32 16777215)).run Try.prog W = .ok (.int .u32 (N : Int)) W) := by
    intro W
    rw [binOp_and]
    show Result.ok (Value.int .u32 (bits .and .u32 X 16777215)) W = _
    rw [x2]
  have K5 := fun w => rmapWords_any N hN24 w
  have hch := mwN_hi N hN24
  have hcl := mwN_lo N
  rw [← hc] at K5 hch hcl
  obtain ⟨D, hD⟩ : ∃ D : Int, D = (l.length : Int) / 4 - (k : Int) - 1 := ⟨_, rfl⟩
  have mD : wrap64 (wrap64 (wrap64 ((l.length : Int) / 4) - (k : Int)) - 1) = D := by
    rw [wr14 ((l.length : Int) / 4) (by omega) (by omega), wr14 ((l.length : Int) / 4 - (k : Int)) (by omega) (by omega), wr14 _ (by omega) (by omega), hD]
  have t0 : (N : Int) ≤ 255 := by omega
  have t1 : 1 ≤ (N : Int) := by omega
  have t2 : (N : Int) ≤ 24 := by omega
  subst hvf
  by_cases s1 : k + 1 + c ≤ l.length / 4
  · rw [if_pos s1] at hR
    have HR2 := hid13 hR
    have s2 : (c : Int) ≤ D := by rw [hD]; exact sd14 s1
    have HC : Hid (c ≤ 524288 ∧ 1 ≤ c ∧ N ≤ 24 ∧ k + 1 + c ≤ l.length / 4 ∧ l.length ≤ 100000) := ⟨hch, hcl, hN24, s1, hl⟩
    clear hyes e1 hv hx hX han q1 hO hN hl hk hA4 x2 hch hcl hN24 s1 hc hN1 hR hD
    go_enter Try.func29, Try.ntmps29
    go_wp2_with (first | (go_at_call 50; refine K1.mono ?_; rintro e w2 ⟨rfl, hw2⟩; replace hw2 := hw2.symm; subst hw2) | (with_reducible apply stopAnd14))
    refine (show wpList _ _ _ _ _ _ from ?_)
    refine sw_run14 (v := .int .u32 (N : Int)) rfl (ex14b (HAnd.out _)) ?_
    simp only [Act.put, List.setIfInBounds_toArray, List.set_cons_zero, List.set_cons_succ]
    clear HAnd K1
    go_wp2_with (first | (go_at_call 51; refine (K5 _).mono ?_; rintro e w3 ⟨rfl, hw3⟩; replace hw3 := hw3.symm; subst hw3) | fail)
    have HD0 := hid13 (dcw_new w 2 (N : Int))
    obtain ⟨i0, hi, hz0, hz1, hz2⟩ := info13 Try.infoU13
    clear d0 d1 mw mD s2 t0 t1 t2 x1 K5
    go_loopg [11, 12, 13] c (fun g k11 x12 x13 wr => ∃ (J : Nat) (vb : Value) (R : List (BitVec 32)), Hid (J + g = c + 1 ∧ 1 ≤ J) ∧ k11 = .int .i64 (J : Int) ∧ Hid (DcW w wr (w.heap.size + 1) 2 (N : Int) vb R) ∧ Hid (R = mpL l (k + 1) (J - 1)))
    case atStart => exact ⟨1, _, [], ⟨by omega, Nat.le_refl _⟩, rfl, HD0, rfl⟩
    case round =>
      clear HD0
      obtain ⟨J, vb, R, HJ, rfl, HW, HR⟩ := hrel
      obtain ⟨⟨j0, j1, j2⟩, f0, f1, f2⟩ := HW.out.i
      by_cases hlt : J ≤ c
      · have hli : (J : Int) ≤ (c : Int) := by omega
        obtain ⟨r1, r2⟩ := sd14a HC.out.2.2.2.1 HC.out.2.2.2.2 hlt HJ.out.2
        obtain ⟨m1, m2, m3⟩ := sd14b HC.out.2.2.2.1 HC.out.2.2.2.2 hlt
        have K6 := rget13 (.slice ao l.length cc) l ((4 * (k + J) : Nat) : Int) 4 4 rfl (by decide) (by decide) wr (HV.out.below HW.out.b) (by have := HC.out.2.2.2.2; omega) HX.out (by omega) (by have := HC.out.2.2.2.2; omega)
        have e6 : ((gtN l ((4 * (k + J) : Nat) : Int) 4 : Nat) : Int) = uI (wdV l (k + J)) := by
          rw [wd_uI l (k + J) HX.out]
          unfold gtN
          rw [if_pos r2, Int.toNat_natCast]
        rw [decide_eq_true r2, e6] at K6
        have HR2' : Hid (R ++ [wdV l (k + J)] = mpL l (k + 1) (J + 1 - 1)) := by
          show _ = _
          have h1 := HJ.out.2
          rw [HR.out, show J + 1 - 1 = (J - 1) + 1 by omega, mpL_succ, show k + 1 + (J - 1) = k + J by omega]
        have HRl : Hid (R.length ≤ 524288) := by show _ ≤ _; rw [HR.out, mpL_len]; have := HC.out.1; omega
        have HJ2 : Hid (J + gk = c + 1 ∧ 1 ≤ J ∧ J ≤ c) := ⟨HJ.out.1, HJ.out.2, hlt⟩
        obtain ⟨P1, hP1⟩ : ∃ P1 : Nat, P1 = k + J := ⟨_, rfl⟩
        obtain ⟨P4, hP4⟩ : ∃ P4 : Nat, P4 = 4 * (k + J) := ⟨_, rfl⟩
        obtain ⟨J1, hJ1⟩ : ∃ J1 : Nat, J1 = J + 1 := ⟨_, rfl⟩
        obtain ⟨x, hx⟩ : ∃ x, x = wdV l (k + J) := ⟨_, rfl⟩
        rw [← hx] at K6 HR2'
        rw [← hP4] at m2 K6
        rw [← hP1] at m1 m2
        rw [← hJ1] at m3 HR2'
        have HJ1 := hid13 hJ1
        obtain ⟨vbo, vbc, hvb⟩ := own_form HW.out.o
        have q7 := bl1 wr (.cells #[.int .u32 (uI x)] 110)
        have HW7 := hid13 (HW.out.below q7)
        have h63 : R.length + 1 ≤ maxLen := by have := HRl.out; unfold maxLen; omega
        have h47 : (R.length + 1) * 4 ≤ 140737488355328 := by have := HRl.out; omega
        subst hvb
        clear r1 r2 e6 hP1 hP4 hJ1 hx hlt HJ HR q7
        go_wp2_with (first | (go_at_call 50; refine K6.mono ?_; rintro e w2 ⟨rfl, hw2⟩; replace hw2 := hw2.symm; subst hw2) | (at_builtin; apply stopHere9))
        refine (show wpList _ _ _ _ _ _ from ?_)
        refine wpList_append_lies _ rfl _ _ 73 rfl (w.heap.size + 1 + 1) 110 i0 (.int .u32 0) 1 4 Try.underlying73 hi hz0 hz1 hz2 rfl (by decide) _ R.length (R.map cU) rfl HW7.out.o ⟨wr.heap.size, 0, none⟩ 1 1 [.int .u32 (uI x)] rfl rfl (news13 (by simp [go_sem])) (by intro u hu; simp at hu; subst hu; rfl) (by decide) h63 h47 HW7.out.s _ rfl ?_
        intro g4 cap4 w4 hown4 hgrow hat hlt4
        obtain ⟨hi4, hd4⟩ := HW7.out.app (Nat.lt_succ_self _) (R' := R ++ [x]) (v' := .slice (some ⟨g4, 0, none⟩) (R.length + 1) cap4) (by rw [List.length_append, List.map_append]; exact hown4) hgrow
        have HD4 := hid13 hd4
        obtain ⟨⟨y0, y1, y2⟩, z0, z1, z2⟩ := hi4
        clear hown4 hgrow hat hlt4 h63 h47 HW7 HW hd4 j0 j1 j2 f0 f1 f2 K6
        go_wp2
        go_roundg (gk - 1)
        case measure => have := HJ2.out; omega
        case rel => exact ⟨J1, _, R ++ [x], by have := HJ1.out; have := HJ2.out; exact ⟨by omega, by omega⟩, rfl, HD4, HR2'⟩
      · have hli : ¬ (J : Int) ≤ (c : Int) := by omega
        have hRc : R = mpL l (k + 1) c := by rw [HR.out, show J - 1 = c by have := HJ.out; omega]
        have hRl : R.length = c := by rw [hRc, mpL_len]
        have K8 := risMap_any vb R N wr (own_rwx HW.out.o) HC.out.2.2.1
        have HR3 : Hid (rdP l k = if isMapB R N = true then (R, (0 : Int)) else ([], 25)) := by show _ = _; rw [HR2.out, hRc]
        have HRl := hid13 hRl
        have mc : IntKind.i64.wrap (1 + (c : Int)) = 1 + (c : Int) := by rw [IntKind.wrap_i64]; have := HC.out.1; omega
        obtain ⟨vbo, vbc, hvb⟩ := own_form HW.out.o
        have HKk : Hid (k < l.length / 4) := by show _ < _; have := HC.out; omega
        subst hvb
        clear hRc hRl HR2 HR hlt HJ
        go_wp2_with fail
        refine K8.mono ?_
        rintro e w5 ⟨rfl, hb5⟩
        have HW5 := hid13 (HW.out.below hb5)
        clear K8 hb5 HW j0 j1 j2 f0 f1 f2
        obtain ⟨⟨j0, j1, j2⟩, f0, f1, f2⟩ := HW5.out.i
        obtain ⟨⟨y0, y1, y2⟩, z0, z1, z2⟩ := HW5.out.r
        generalize isMapB R N = z at *
        cases z with
        | true =>
          have HR4 : Hid (rdP l k = (R, 0)) := HR3
          clear HR3
          go_wp2
          obtain ⟨g1, g2, g3⟩ := dc_ok HKk.out HR4.out
          have hcR : 1 + (R.length : Int) = 1 + (c : Int) := by rw [HRl.out]
          refine bodyPost_ret (v := .tuple #[.agg #[.int .i64 2, .int .i64 (N : Int), .slice vbo R.length vbc], .int .i64 (1 + (c : Int)), .int .i64 0]) (by simp [results, Try.results29, go_sem, *]) rfl ⟨.slice vbo R.length vbc, by rw [g1, g2, hcR, g3, hQ.out.1, hQ.out.2]; rfl, ?_, bset3i HW5.out.b (Nat.le_refl _) _ _ _⟩
          rw [g1]
          have h1 : w.heap.size < w.heap.size + 1 + 1 := by omega
          exact own_wide13 (ownsRow_setCell_below (ownsRow_setCell_below (ownsRow_setCell_below HW5.out.o h1 _) h1 _) h1 _) (Nat.le_of_lt h1)
        | false =>
          have HR4 : Hid (rdP l k = ([], 25)) := HR3
          clear HR3
          go_wp2
          exact bodyPost_ret (v := .tuple #[.agg #[.int .i64 0, .int .i64 0, .slice none 0 0], .int .i64 0, .int .i64 25]) (by simp [results, Try.results29, go_sem, *]) rfl (rd_fin l k w HKk.out 25 [] (by decide) HR4.out _ (bset3i HW5.out.b (Nat.le_refl _) _ _ _))
  · rw [if_neg s1] at hR
    have HR2 : Hid (rdP l k = ([], 30)) := hR
    have s2 : D < (c : Int) := by rw [hD]; exact sd14n s1
    have HK := hid13 hk
    clear hyes e1 hv hx hX han q1 hO hN hl hk hA4 x2 hch hcl hN24 s1 hc hN1 hR hD
    go_enter Try.func29, Try.ntmps29
    go_wp2_with (first | (go_at_call 50; refine K1.mono ?_; rintro e w2 ⟨rfl, hw2⟩; replace hw2 := hw2.symm; subst hw2) | (with_reducible apply stopAnd14))
    refine (show wpList _ _ _ _ _ _ from ?_)
    refine sw_run14 (v := .int .u32 (N : Int)) rfl (ex14b (HAnd.out _)) ?_
    simp only [Act.put, List.setIfInBounds_toArray, List.set_cons_zero, List.set_cons_succ]
    clear HAnd K1
    go_wp2_with (first | (go_at_call 51; refine (K5 _).mono ?_; rintro e w3 ⟨rfl, hw3⟩; replace hw3 := hw3.symm; subst hw3) | fail)
    exact bodyPost_ret (v := .tuple #[.agg #[.int .i64 0, .int .i64 0, .slice none 0 0], .int .i64 0, .int .i64 30]) (by simp [results, Try.results29, go_sem]) rfl (rd_fin l k w HK.out 30 [] (by decide) HR2.out _ (keepb (bl1 _ _) (bl1 _ _)))
end Go.Proofs.Ytjgpbahglkaijaa
