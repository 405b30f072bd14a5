/-
  Part 23 of the proof: 7 texts, one behind the other.
-/
import Derived.Test.YtdpmhpmnkollaaaPart22
import Derived.Test.YtdpmhpmnkollaaaPart19
import Derived.Test.YtdpmhpmnkollaaaPart17
namespace Go.Proofs.Ytdpmhpmnkollaaa
open Go.RowKit
set_option linter.unusedSimpArgs false
set_option linter.unusedVariables false

theorem setL_at (m : List (BitVec 32)) (i : Nat) (hi : i < 32 * m.length) (h : plc m i = true) : ∀ (n p : Nat), p + n = i → (setL m p)[cnt m i - cnt m p]? = some (i : Int)
  | 0, p, hp => by
    have : p = i := by omega
    subst this
    rw [setL_step hi, if_pos h, Nat.sub_self]; rfl
  | n + 1, p, hp => by
    have ih := setL_at m i hi h n (p + 1) (by omega)
    have e : cnt m (p + 1) = cnt m p + (plc m p).toNat := rfl
    have hm := cnt_mono m (p + 1) i (by omega)
    rw [setL_step (by omega)]
    cases hpp : plc m p
    · rw [hpp] at e
      simp at e
      rw [if_neg (by simp), ← e]
      exact ih
    · rw [hpp] at e
      simp at e
      rw [if_pos rfl]
      have : cnt m i - cnt m p = (cnt m i - cnt m (p + 1)) + 1 := by omega
      rw [this, List.getElem?_cons_succ]
      exact ih
theorem cnt_in (m : List (BitVec 32)) (i : Nat) (hi : i < 32 * m.length) (h : plc m i = true) : cnt m i < sumW m m.length := by
  have h1 := cnt_mono m (i + 1) (32 * m.length) (by omega)
  rw [cnt_words] at h1
  have e : cnt m (i + 1) = cnt m i + (plc m i).toNat := rfl
  rw [h] at e
  simp at e
  omega
theorem runsV_at (m : List (BitVec 32)) (es : List (Bool × Int)) (i : Nat) (e : Bool × Int) (hi : i < 32 * m.length) (h : plc m i = true) (he : es[cnt m i]? = some e) : (runsV m es).take (cnt m i + 1) = (runsV m es).take (cnt m i) ++ [⟨mkW 0 (i : Int), e.1, e.2⟩] := by
  have h1 := setL_at m i hi h i 0 (by omega)
  have h0 : cnt m 0 = 0 := rfl
  rw [h0, Nat.sub_zero] at h1
  have h2 : (runsV m es)[cnt m i]? = some ⟨mkW 0 (i : Int), e.1, e.2⟩ := by
    unfold runsV
    rw [List.getElem?_zipWith, h1, he]
  rw [List.take_add_one, h2]; rfl
theorem cnt_skip (m : List (BitVec 32)) (p : Nat) : ∀ n, (∀ j, p ≤ j → j < p + n → plc m j = false) → cnt m (p + n) = cnt m p
  | 0, _ => rfl
  | n + 1, h => by
    have ih := cnt_skip m p n (fun j a b => h j a (by omega))
    show cnt m (p + n) + (plc m (p + n)).toNat = _
    rw [ih, h (p + n) (by omega) (by omega)]; rfl
theorem cnt_map (m : List (BitVec 32)) (n : Nat) (h : isMapB m n = true) : cnt m (2 ^ n) = sumW m m.length ∧ 2 ^ n ≤ 32 * m.length := by
  unfold isMapB at h
  simp only [Bool.and_eq_true, decide_eq_true_eq] at h
  obtain ⟨h1, h2⟩ := h
  unfold mwN at h1
  by_cases c : n < 5
  · rw [if_pos c] at h1
    obtain ⟨x, rfl⟩ : ∃ x, m = [x] := List.length_eq_one_iff.mp h1
    have hp : 2 ^ n ≤ 2 ^ 4 := Nat.pow_le_pow_right (by decide) (by omega)
    refine ⟨?_, by simp; omega⟩
    rw [← cnt_words]
    have := cnt_skip [x] (2 ^ n) (32 - 2 ^ n) (fun j a b => by
      unfold plc
      rw [show j / 32 = 0 by omega, show j % 32 = j by omega]
      unfold topB at h2
      simp only [Bool.and_eq_true, beq_iff_eq] at h2
      have h3 : (x <<< 2 ^ n).getLsbD (31 - j + 2 ^ n) = false := by
        have h4 : (x <<< 2 ^ n) = 0#32 := h2.2
        rw [h4]; simp
      rw [BitVec.getLsbD_shiftLeft] at h3
      unfold bt
      show x.getLsbD (31 - j) = false
      have e1 : decide (31 - j + 2 ^ n < 32) = true := decide_eq_true (by omega)
      have e2 : decide (31 - j + 2 ^ n < 2 ^ n) = false := decide_eq_false (by omega)
      rw [e1, e2] at h3
      simpa using h3)
    rw [show 2 ^ n + (32 - 2 ^ n) = 32 * [x].length by simp; omega] at this
    exact this.symm
  · rw [if_neg c] at h1
    have e : 32 * m.length = 2 ^ n := by
      rw [h1, show (32 : Nat) = 2 ^ 5 by decide, ← Nat.pow_add, show 5 + (n - 5) = n by omega]
    rw [← cnt_words, e]
    exact ⟨rfl, Nat.le_refl _⟩
theorem chk_isMap {n : Int} {m : List (BitVec 32)} (h : chkE 2 n m = 0) : isMapB m n.toNat = true := by
  unfold chkE at h
  split at h
  · split at h
    · rw [if_pos rfl] at h
      split at h
      · assumption
      · cases h
    · cases h
  · cases h
theorem bsG_map (l : List Nat) (hx : ∀ b ∈ l, b < 256) : ∀ (f : Nat) (a : Int) (P : List PB), (∀ b ∈ P, isMapB b.m b.t.toNat = true) → (bsG l f a P).2.2 = 0 → ∀ b ∈ (bsG l f a P).1, isMapB b.m b.t.toNat = true
  | 0, a, P, hP, h => by unfold bsG; intro b hb; cases hb
  | f + 1, a, P, hP, h => by
    by_cases c : (bkE l a).1 = 0
    · rw [bs_ok c] at h ⊢
      obtain ⟨c1, c2, c3, c4, c5, c6⟩ := bk_okd c
      have hP2 : ∀ b ∈ P ++ [(blkD l a).pb], isMapB b.m b.t.toNat = true := by
        intro b hb
        rcases List.mem_append.mp hb with q | q
        · exact hP b q
        · simp at q
          subst q
          show isMapB (dcI l (a + 1)).m (dcI l a).n.toNat = true
          have h1 := (enc_dec l (a + 1) hx c3).1
          rw [c4, c5] at h1
          exact chk_isMap h1
      by_cases d : a + 1 + dcZ l (a + 1) + ((sumW (dcI l (a + 1)).m (dcI l (a + 1)).m.length : Nat) : Int) < wds l
      · rw [if_pos d] at h ⊢
        exact bsG_map l hx f _ _ hP2 h
      · rw [if_neg d]
        exact hP2
    · rw [bs_err c] at h
      exact absurd h c
theorem vfP_map {F : Int} {l : List Nat} (hx : ∀ b ∈ l, b < 256) (h : (vfR F l).2.2 = 0) (hn : ¬ (dcE l 0 = 0 ∧ (dcI l 0).op = 4)) : ∀ b ∈ vfP l, isMapB b.m b.t.toNat = true := by
  unfold vfR at h
  by_cases c1 : F ≠ 32 ∧ F ≠ 128
  · rw [if_pos c1] at h; exact absurd h (by simp)
  rw [if_neg c1] at h
  by_cases c2 : l.length = 0 ∨ l.length % 4 ≠ 0
  · rw [if_pos c2] at h; exact absurd h (by simp)
  rw [if_neg c2, if_neg hn] at h
  unfold vfB at h
  by_cases c3 : (bsG l (l.length / 4) 0 []).2.2 ≠ 0
  · rw [if_pos c3] at h; exact absurd h c3
  have c4 : (bsG l (l.length / 4) 0 []).2.2 = 0 := by simpa using c3
  have h3 := bsG_map l hx (l.length / 4) 0 [] (fun b hb => (by simp at hb)) c4
  unfold vfP
  intro b hb
  obtain ⟨b', hb', rfl⟩ := List.mem_map.mp hb
  exact h3 b' hb'
end Go.Proofs.Ytdpmhpmnkollaaa
namespace Go.Proofs.Ytdpmhpmnkollaaa
open Go.RowKit
set_option linter.unusedSimpArgs false
set_option linter.unusedVariables false

def jmpL (es : List (Bool × Int)) : List Int := (es.filter (·.1)).map (·.2)
theorem jmp_yes (n : Int) (t : List (Bool × Int)) : jmpL ((true, n) :: t) = n :: jmpL t := rfl
theorem jmp_no (n : Int) (t : List (Bool × Int)) : jmpL ((false, n) :: t) = jmpL t := rfl
def rnZ (i : Int) (e : Bool × Int) : Rn := ⟨mkW 0 i, e.1, e.2⟩
theorem runsV_eq (m : List (BitVec 32)) (es : List (Bool × Int)) : runsV m es = (setL m 0).zipWith rnZ es := rfl
theorem kid_zip : ∀ (S : List Int) (es : List (Bool × Int)), S.length = es.length → kidL (S.zipWith rnZ es) = jmpL es
  | [], [], _ => rfl
  | x :: S, (true, n) :: es, h => by
    have ih := kid_zip S es (by simpa using h)
    rw [jmp_yes, ← ih]; rfl
  | x :: S, (false, n) :: es, h => by
    have ih := kid_zip S es (by simpa using h)
    rw [jmp_no, ← ih]; rfl
  | [], e :: es, h => by simp at h
  | x :: S, [], h => by simp at h
theorem kid_runs (m : List (BitVec 32)) (es : List (Bool × Int)) (h : es.length = sumW m m.length) : kidL (runsV m es) = jmpL es := by
  rw [runsV_eq]
  exact kid_zip _ _ (by rw [setL_all, h])
theorem getD_swap (A : List (Int × Int)) (k : Nat) : (A.map Prod.swap).getD k (0, 0) = ((A.getD k (0, 0)).2, (A.getD k (0, 0)).1) := by
  rw [List.getD_eq_getElem?_getD, List.getD_eq_getElem?_getD, List.getElem?_map]
  cases A[k]? <;> rfl
theorem up_swap (B M : Int) : ∀ (es : List (Bool × Int)) (A : List (Int × Int)), (jmpL es).foldl (upR M B) (A.map Prod.swap) = (es.foldl (upX B M) A).map Prod.swap
  | [], A => rfl
  | (false, n) :: t, A => by
    rw [jmp_no, List.foldl_cons]
    have : upX B M A (false, n) = A := rfl
    rw [this]
    exact up_swap B M t A
  | (true, n) :: t, A => by
    rw [jmp_yes, List.foldl_cons, List.foldl_cons]
    have h1 : upX B M A (true, n) = A.set n.toNat (max (A.getD n.toNat (0, 0)).1 B, max (A.getD n.toNat (0, 0)).2 M) := rfl
    have h2 : upR M B (A.map Prod.swap) n = (A.set n.toNat (max (A.getD n.toNat (0, 0)).1 B, max (A.getD n.toNat (0, 0)).2 M)).map Prod.swap := by
      unfold upR
      rw [getD_swap, List.map_set]; rfl
    rw [h1, h2]
    exact up_swap B M t _
theorem dp_ms (F : Int) : ∀ (t : List PB) (k : Nat) (A : List (Int × Int)) (dp : Int), (∀ b ∈ t, 1 ≤ b.t ∧ b.es.length = sumW b.m b.m.length) → (msG F t k A dp).2.2 = 0 → dpG F (ndsL t) k (A.map Prod.swap) dp = ((msG F t k A dp).1, 0)
  | [], k, A, dp, _, _ => rfl
  | b :: t, k, A, dp, hb, h => by
    have hb1 := hb b (by simp)
    show dpG F (⟨b.t, runsV b.m b.es⟩ :: ndsL t) k (A.map Prod.swap) dp = _
    unfold msG at h ⊢
    unfold dpG
    rw [getD_swap]
    dsimp only
    by_cases c : F < (A.getD k (0, 0)).2 + b.t
    · rw [if_pos c] at h
      exact absurd h (by simp)
    · rw [if_neg c] at h ⊢
      have hm : min 1 b.t = 1 := by omega
      rw [if_neg c, kid_runs _ _ hb1.2, hm, up_swap]
      exact dp_ms F t (k + 1) _ _ (fun x hx => hb x (by simp [hx])) h
theorem deep_ms (F : Int) (P : List PB) (hb : ∀ b ∈ P, 1 ≤ b.t ∧ b.es.length = sumW b.m b.m.length) (h : (msR F P).2.2 = 0) : deepR F (ndsL P) = ((msR F P).1, 0) := by
  have := dp_ms F P 0 (List.replicate P.length (0, 0)) 0 hb h
  rw [List.map_replicate] at this
  unfold deepR
  rw [show (ndsL P).length = P.length by unfold ndsL; rw [List.length_map]]
  exact this
def Adj (L : List (Bool × Int)) : Prop := ∀ (j : Nat) (x y : Bool × Int), L[j]? = some x → L[j + 1]? = some y → x ≠ y
end Go.Proofs.Ytdpmhpmnkollaaa
namespace Go.Proofs.Ytdpmhpmnkollaaa
open Go.RowKit
set_option linter.unusedSimpArgs false
set_option linter.unusedVariables false

theorem toNat_mk (i : Nat) (h : i < 18446744073709551616) : (mkW 0 (i : Int)).toNat = i := by
  have h1 := lI_mk 0 (i : Int) (by omega) (by omega)
  have h2 := hI_mk 0 (i : Int) (by omega) (by omega)
  rw [lIN] at h1
  rw [hIN] at h2
  have := (mkW 0 (i : Int)).isLt
  omega
theorem setL_up (m : List (BitVec 32)) (p : Nat) : (setL m p).Pairwise (· < ·) := by
  unfold setL
  rw [List.pairwise_map]
  refine List.Pairwise.imp (fun {a b} h => ?_) (List.Pairwise.filter _ (by first | exact List.pairwise_lt_range' | exact List.pairwise_lt_range' _ _ | exact List.pairwise_lt_range' _))
  exact Int.ofNat_lt.mpr h
end Go.Proofs.Ytdpmhpmnkollaaa
namespace Go.Proofs.Ytdpmhpmnkollaaa
open Go.RowKit
set_option linter.unusedSimpArgs false
set_option linter.unusedVariables false

theorem one_bit (k j : Nat) (hk : k < 32) (hj : j < 32) : (1#32 <<< k).getLsbD j = decide (j = k) := by
  rw [BitVec.getLsbD_shiftLeft]
  by_cases c : j = k
  · subst c
    simp [hj]
  · by_cases d : j < k
    · simp [d, c]
    · have h1 : (1#32).getLsbD (j - k) = false := by
        rw [BitVec.getLsbD_one]
        have : ¬ j - k = 0 := by omega
        simp [this]
      rw [h1]
      simp [c]
theorem plc_stM (m : List (BitVec 32)) (s i : Nat) (hs : s < 32 * m.length) : plc (stM16 m s) i = (plc m i || decide (i = s)) := by
  have hsl : s / 32 < m.length := by omega
  unfold plc stM16
  by_cases c : i / 32 = s / 32
  · have hg : (m.set (s / 32) (m.getD (s / 32) 0#32 ||| (1#32 <<< (31 - s % 32)))).getD (i / 32) 0#32 = m.getD (s / 32) 0#32 ||| (1#32 <<< (31 - s % 32)) := by
      rw [List.getD_eq_getElem?_getD, List.getElem?_set, if_pos c.symm, if_pos hsl]; rfl
    rw [hg, c]
    unfold bt
    rw [BitVec.getLsbD_or, one_bit _ _ (by omega) (by omega)]
    congr 1
    by_cases d : i = s
    · subst d; simp
    · have : ¬ (31 - i % 32 = 31 - s % 32) := by omega
      simp [d, this]
  · have hg : (m.set (s / 32) (m.getD (s / 32) 0#32 ||| (1#32 <<< (31 - s % 32)))).getD (i / 32) 0#32 = m.getD (i / 32) 0#32 := by
      rw [List.getD_eq_getElem?_getD, List.getElem?_set, if_neg (fun q => c q.symm), ← List.getD_eq_getElem?_getD]
    rw [hg]
    have : ¬ i = s := fun q => c (by rw [q])
    simp [this]
theorem plc_fold : ∀ (l : List Rn) (m : List (BitVec 32)) (i : Nat), (∀ r ∈ l, r.f.toNat < 32 * m.length) → plc (l.foldl (fun m r => stM16 m r.f.toNat) m) i = (plc m i || l.any fun r => decide (i = r.f.toNat))
  | [], m, i, _ => by simp
  | r :: t, m, i, h => by
    rw [List.foldl_cons, plc_fold t _ i (fun q hq => by rw [stM_len]; exact h q (by simp [hq])), plc_stM _ _ _ (h r (by simp)), List.any_cons, Bool.or_assoc]
theorem map_len : ∀ (l : List Rn) (m : List (BitVec 32)), (l.foldl (fun m r => stM16 m r.f.toNat) m).length = m.length
  | [], m => rfl
  | r :: t, m => by rw [List.foldl_cons, map_len t, stM_len]
theorem plc_map18 (n : Nat) (l : List Rn) (i : Nat) (h : ∀ r ∈ l, r.f.toNat < 32 * mwN n) : plc (mapL n l) i = l.any fun r => decide (i = r.f.toNat) := by
  unfold mapL
  rw [plc_fold l _ i (by rw [List.length_replicate]; exact h)]
  have : plc (List.replicate (mwN n) 0#32) i = false := by
    unfold plc bt
    rw [List.getD_eq_getElem?_getD, List.getElem?_replicate]
    split <;> simp
  rw [this, Bool.false_or]
theorem rise_ext : ∀ (A B : List Int), A.Pairwise (· < ·) → B.Pairwise (· < ·) → (∀ x, x ∈ A ↔ x ∈ B) → A = B
  | [], [], _, _, _ => rfl
  | [], b :: B, _, _, h => by have := (h b).mpr (by simp); cases this
  | a :: A, [], _, _, h => by have := (h a).mp (by simp); cases this
  | a :: A, b :: B, hA, hB, h => by
    obtain ⟨a1, a2⟩ := List.pairwise_cons.mp hA
    obtain ⟨b1, b2⟩ := List.pairwise_cons.mp hB
    have hab : a = b := by
      have h1 := (h a).mp (by simp)
      have h2 := (h b).mpr (by simp)
      rcases List.mem_cons.mp h1 with q | q
      · exact q
      · rcases List.mem_cons.mp h2 with r | r
        · exact r.symm
        · have := b1 a q
          have := a1 b r
          omega
    subst hab
    rw [rise_ext A B a2 b2 (fun x => ⟨fun hx => by
      rcases List.mem_cons.mp ((h x).mp (by simp [hx])) with q | q
      · have := a1 x hx; omega
      · exact q, fun hx => by
      rcases List.mem_cons.mp ((h x).mpr (by simp [hx])) with q | q
      · have := b1 x hx; omega
      · exact q⟩)]
theorem mem_setL (m : List (BitVec 32)) (x : Int) : x ∈ setL m 0 ↔ ∃ i : Nat, x = (i : Int) ∧ i < 32 * m.length ∧ plc m i = true := by
  unfold setL
  constructor
  · intro h
    obtain ⟨i, hi, rfl⟩ := List.mem_map.mp h
    obtain ⟨h1, h2⟩ := List.mem_filter.mp hi
    have := List.mem_range'_1.mp h1
    exact ⟨i, rfl, by omega, h2⟩
  · rintro ⟨i, rfl, h1, h2⟩
    exact List.mem_map.mpr ⟨i, List.mem_filter.mpr ⟨List.mem_range'_1.mpr ⟨by omega, by omega⟩, h2⟩, rfl⟩
theorem setL_map (n : Nat) (l : List Rn) (h : ∀ r ∈ l, r.f.toNat < 32 * mwN n) (hs : (l.map fun r => (r.f.toNat : Int)).Pairwise (· < ·)) : setL (mapL n l) 0 = l.map fun r => (r.f.toNat : Int) := by
  have hml : (mapL n l).length = mwN n := by unfold mapL; rw [map_len, List.length_replicate]
  refine rise_ext _ _ (setL_up _ 0) hs (fun x => ?_)
  rw [mem_setL, hml]
  constructor
  · rintro ⟨i, rfl, h1, h2⟩
    rw [plc_map18 n l i h] at h2
    obtain ⟨r, hr, hd⟩ := List.any_eq_true.mp h2
    have hd := of_decide_eq_true hd
    exact List.mem_map.mpr ⟨r, hr, by rw [hd]⟩
  · intro hx
    obtain ⟨r, hr, rfl⟩ := List.mem_map.mp hx
    refine ⟨r.f.toNat, rfl, h r hr, ?_⟩
    rw [plc_map18 n l _ h]
    exact List.any_eq_true.mpr ⟨r, hr, by simp⟩
theorem sum_map (n : Nat) (l : List Rn) (h : ∀ r ∈ l, r.f.toNat < 32 * mwN n) (hs : (l.map fun r => (r.f.toNat : Int)).Pairwise (· < ·)) : sumW (mapL n l) (mapL n l).length = l.length := by
  rw [← setL_all, setL_map n l h hs, List.length_map]
theorem zip_map : ∀ (l : List Rn) (g : Rn → Bool × Int), (∀ r ∈ l, r.f.toNat < 18446744073709551616) → (l.map fun r => (r.f.toNat : Int)).zipWith rnZ (l.map g) = l.map fun r => ⟨r.f, (g r).1, (g r).2⟩
  | [], g, _ => rfl
  | r :: t, g, h => by
    rw [List.map_cons, List.map_cons, List.zipWith_cons_cons, zip_map t g (fun q hq => h q (by simp [hq])), List.map_cons]
    congr 1
    unfold rnZ
    congr 1
    exact BitVec.eq_of_toNat_eq (toNat_mk _ (h r (by simp)))
theorem runs_map (n : Nat) (l : List Rn) (g : Rn → Bool × Int) (h : ∀ r ∈ l, r.f.toNat < 32 * mwN n) (hn : n ≤ 24) (hs : (l.map fun r => (r.f.toNat : Int)).Pairwise (· < ·)) : runsV (mapL n l) (l.map g) = l.map fun r => ⟨r.f, (g r).1, (g r).2⟩ := by
  rw [runsV_eq, setL_map n l h hs]
  refine zip_map l g (fun r hr => ?_)
  have h1 := h r hr
  have h2 : mwN n ≤ 524288 := by
    unfold mwN
    split
    · omega
    · have : 2 ^ (n - 5) ≤ 2 ^ 19 := Nat.pow_le_pow_right (by decide) (by omega)
      omega
  omega
end Go.Proofs.Ytdpmhpmnkollaaa
namespace Go.Proofs.Ytdpmhpmnkollaaa
open Go.RowKit
set_option linter.unusedSimpArgs false
set_option linter.unusedVariables false

def eR (P : List Int) (r : Rn) : Bool × Int := if r.k then (true, P.getD r.n.toNat 0) else (false, r.n)
def rwR (P : List Int) : Nat → List Rn → List (Int × Int)
  | _, [] => []
  | p, r :: t => (rnO r, rnI P p r) :: rwR P (p + 1) t
theorem rwR_len (P : List Int) : ∀ (t : List Rn) (p : Nat), (rwR P p t).length = t.length
  | [], p => rfl
  | r :: t, p => by
    show (rwR P (p + 1) t).length + 1 = _
    rw [rwR_len P t]; rfl
theorem rwR_app (P : List Int) : ∀ (s : List Rn) (p : Nat) (r : Rn), rwR P p (s ++ [r]) = rwR P p s ++ [(rnO r, rnI P (p + s.length) r)]
  | [], p, r => rfl
  | q :: s, p, r => by
    show (rnO q, rnI P p q) :: rwR P (p + 1) (s ++ [r]) = _
    rw [rwR_app P s (p + 1) r, List.length_cons, show p + 1 + s.length = p + (s.length + 1) by omega]
    rfl
theorem prX_run (P : List Int) (p : Nat) (r : Rn) : prX (p : Int) (rnO r, rnI P p r) = eR P r := by
  unfold prX rnO rnI eR
  cases h : r.k
  · simp
  · simp
    omega
theorem pr_runs (P : List Int) : ∀ (t : List Rn) (p : Nat), prE (p : Int) (rwR P p t) = t.map (eR P)
  | [], p => rfl
  | r :: t, p => by
    show prX (p : Int) (rnO r, rnI P p r) :: prE ((p : Int) + 1) (rwR P (p + 1) t) = _
    have := pr_runs P t (p + 1)
    push_cast at this
    rw [prX_run, this]; rfl
theorem rwR_op (P : List Int) : ∀ (t : List Rn) (p : Nat), ∀ e ∈ rwR P p t, e.1 = 3 ∨ e.1 = 4
  | [], p, e, h => by cases h
  | r :: t, p, e, h => by
    rcases List.mem_cons.mp h with rfl | q
    · unfold rnO
      cases r.k
      · exact .inr rfl
      · exact .inl rfl
    · exact rwR_op P t _ e q
theorem adj_last {A B : List (Bool × Int)} {x : Bool × Int} (h : Adj (A ++ x :: B)) : A.getLast? ≠ some x := by
  intro q
  have hne : A ≠ [] := fun e => by rw [e] at q; cases q
  have hl := List.length_pos_iff.mpr hne
  rw [List.getLast?_eq_getElem?] at q
  refine h (A.length - 1) x x (by rw [List.getElem?_append_left (by omega)]; exact q) (by rw [List.getElem?_append_right (by omega), show A.length - 1 + 1 - A.length = 0 by omega]; rfl) rfl
theorem enG_runs (P : List Int) (en : Nat) (l : List Nat) : ∀ (t s : List Rn) (q z : List Nat), l = q ++ rnB P (en + s.length) t ++ z → q.length = 4 * (en + s.length) → RnLay P (en + s.length) t → Adj ((s ++ t).map (eR P)) → enG l (en : Int) t.length s.length (rwR P en s) = (rwR P en (s ++ t), 0, 0)
  | [], s, q, z, hl, hq, hr, ha => by rw [List.append_nil]; rfl
  | r :: t, s, q, z, hl, hq, hr, ha => by
    have h0 := (hr 0 r rfl).1
    rw [Nat.add_zero] at h0
    have e1 : l = q ++ wdB (rnO r).toNat (rnI P (en + s.length) r).toNat [] ++ (rnB P (en + s.length + 1) t ++ z) := by
      rw [hl]
      show q ++ (wdB (rnO r).toNat (rnI P (en + s.length) r).toNat [] ++ rnB P (en + s.length + 1) t) ++ z = _
      simp only [List.append_assoc]
    have d := dec_enc q (rnB P (en + s.length + 1) t ++ z) (en + s.length) (rnO r) (rnI P (en + s.length) r) [] hq h0
    rw [← e1] at d
    push_cast at d
    obtain ⟨d1, d2, -⟩ := d
    have ho : rnO r = 3 ∨ rnO r = 4 := by
      unfold rnO
      cases r.k
      · exact .inr rfl
      · exact .inl rfl
    have hE := enE_pr l (en : Int) (rwR P en s) (by rw [rwR_len]; exact d1) (by rw [rwR_len, d2]; exact ho) (rwR_op P s en)
    rw [rwR_len, d2, pr_runs] at hE
    have hx := prX_run P (en + s.length) r
    push_cast at hx
    rw [List.map_append, List.map_cons] at ha
    rw [if_neg (by
      dsimp only
      rw [hx]
      exact adj_last ha)] at hE
    rw [List.length_cons, enG_succ, if_pos hE, d2]
    dsimp only
    have hc : rwR P en s ++ [(rnO r, rnI P (en + s.length) r)] = rwR P en (s ++ [r]) := (rwR_app P s en r).symm
    rw [hc]
    have ih := enG_runs P en l t (s ++ [r]) (q ++ wdB (rnO r).toNat (rnI P (en + s.length) r).toNat []) z (by
      rw [e1, List.length_append, List.length_singleton, ← Nat.add_assoc]
      simp only [List.append_assoc]) (by
      rw [List.length_append, hq, wdB_len, List.length_append, List.length_singleton]
      simp; omega) (by
      rw [List.length_append, List.length_singleton, ← Nat.add_assoc]
      intro j x hj
      have := hr (j + 1) x (by simpa using hj)
      rw [show en + s.length + (j + 1) = en + s.length + 1 + j by omega] at this
      exact this) (by
      rw [List.append_assoc, List.map_append]
      exact ha)
    rw [List.length_append, List.length_singleton, List.append_assoc] at ih
    exact ih
def bkN (P : List Int) (a : Nat) (d : Nde) : PB := ⟨(a : Int), d.b, mapL d.b.toNat d.r, d.r.map (eR P)⟩
theorem bsG_node (P : List Int) (d : Nde) (p z : List Nat) (a : Nat) (hp : p.length = 4 * a) (hd : NdLay P a d) (hb : d.b ≠ 0) (hs : sumW (mapL d.b.toNat d.r) (mapL d.b.toNat d.r).length = d.r.length) (ha : Adj (d.r.map (eR P))) (f : Nat) (B : List PB) (hz : z.length % 4 = 0) :
    bsG (p ++ ndB P a d ++ z) (f + 1) a B = if 0 < z.length then bsG (p ++ ndB P a d ++ z) f ((a + szN d : Nat) : Int) (B ++ [bkN P a d]) else (B ++ [bkN P a d], 0, 0) := by
  obtain ⟨k1, k2⟩ := hd.e hb
  have hlen : (p ++ ndB P a d ++ z).length = 4 * (a + szN d) + z.length := by rw [List.length_append, List.length_append, hp, ndB_len hd]; omega
  have hsz : szN d = 2 + mwN d.b.toNat + d.r.length := by unfold szN; rw [if_neg hb]
  have hr := hd.r
  rw [if_neg hb] at hr
  have hml := mapL_len d.b.toNat d.r
  obtain ⟨l, hl⟩ : ∃ l, l = p ++ ndB P a d ++ z := ⟨_, rfl⟩
  have hnd : ndB P a d = wdB 1 d.b.toNat [] ++ (wdB 2 d.b.toNat (mapL d.b.toNat d.r) ++ rnB P (a + 2 + mwN d.b.toNat) d.r) := by unfold ndB; rw [if_neg hb]
  have e1 : l = p ++ wdB (1 : Int).toNat d.b.toNat [] ++ (wdB 2 d.b.toNat (mapL d.b.toNat d.r) ++ rnB P (a + 2 + mwN d.b.toNat) d.r ++ z) := by
    rw [hl, hnd]; simp only [List.append_assoc]; rfl
  have d1 := dec_enc p (wdB 2 d.b.toNat (mapL d.b.toNat d.r) ++ rnB P (a + 2 + mwN d.b.toNat) d.r ++ z) a 1 d.b [] hp k1
  rw [← e1] at d1
  have e2 : l = (p ++ wdB 1 d.b.toNat []) ++ wdB (2 : Int).toNat d.b.toNat (mapL d.b.toNat d.r) ++ (rnB P (a + 2 + mwN d.b.toNat) d.r ++ z) := by
    rw [hl, hnd]; simp only [List.append_assoc]; rfl
  have d2 := dec_enc (p ++ wdB 1 d.b.toNat []) (rnB P (a + 2 + mwN d.b.toNat) d.r ++ z) (a + 1) 2 d.b (mapL d.b.toNat d.r) (by rw [List.length_append, hp, wdB_len]; simp; omega) k2
  rw [← e2] at d2
  have hG := enG_runs P (a + 2 + mwN d.b.toNat) l d.r [] (p ++ wdB 1 d.b.toNat [] ++ wdB 2 d.b.toNat (mapL d.b.toNat d.r)) z (by
    rw [hl, hnd]; simp only [List.append_assoc]; rfl) (by
    rw [List.length_append, List.length_append, hp, wdB_len, wdB_len, hml]; simp; omega) hr ha
  rw [← hl] at hlen ⊢
  have ha1 : ((a : Nat) : Int) + 1 = ((a + 1 : Nat) : Int) := by push_cast; rfl
  rw [bsG_succ, if_neg (fun q => q d1.1), if_neg (fun q => q (by rw [d1.2.1])), ha1, if_neg (fun q => q d2.1), if_neg (fun q => q (by rw [d2.2.1])), if_neg (fun q => q (by rw [d2.2.1, d1.2.1])), d2.2.1, d2.2.2, d1.2.1]
  dsimp only
  rw [hs, hml]
  have hen : ((a + 1 : Nat) : Int) + (1 + (mwN d.b.toNat : Int)) = ((a + 2 + mwN d.b.toNat : Nat) : Int) := by push_cast; omega
  rw [hen]
  have hG2 : enG l ((a + 2 + mwN d.b.toNat : Nat) : Int) d.r.length 0 [] = (rwR P (a + 2 + mwN d.b.toNat) d.r, 0, 0) := hG
  rw [hG2]
  unfold bsF
  rw [if_neg (by simp)]
  dsimp only
  have hpr : (⟨(a : Int), d.b, mapL d.b.toNat d.r, prE ((a + 2 + mwN d.b.toNat : Nat) : Int) (rwR P (a + 2 + mwN d.b.toNat) d.r)⟩ : PB) = bkN P a d := by
    unfold bkN
    rw [pr_runs]
  rw [hpr, hs]
  have hnx : ((a + 2 + mwN d.b.toNat : Nat) : Int) + ((d.r.length : Nat) : Int) = ((a + szN d : Nat) : Int) := by rw [hsz]; push_cast; omega
  rw [hnx]
  have hw : (((a + szN d : Nat) : Int) < wds l) ↔ 0 < z.length := by
    unfold wds; rw [hlen]; omega
  by_cases hz0 : 0 < z.length
  · rw [if_pos (hw.2 hz0), if_pos hz0]
  · rw [if_neg (fun q => hz0 (hw.1 q)), if_neg hz0]
def bksN (L : List Nde) (P : List Int) : Nat → List Int → List PB
  | _, [] => []
  | a, k :: o => bkN P a (L.getD k.toNat ⟨0, []⟩) :: bksN L P (a + szN (L.getD k.toNat ⟨0, []⟩)) o
theorem bsG_nodes {L : List Nde} {P : List Int} (hN : ∀ (k : Nat) (d : Nde), L[k]? = some d → d.b ≠ 0 ∧ sumW (mapL d.b.toNat d.r) (mapL d.b.toNat d.r).length = d.r.length ∧ Adj (d.r.map (eR P))) : ∀ (o : List Int) (p : List Nat) (a f : Nat) (B : List PB), p.length = 4 * a → LayOk L P a o → o ≠ [] → o.length ≤ f → bsG (p ++ lyB L P a o) f a B = (B ++ bksN L P a o, 0, 0)
  | [], p, a, f, B, hp, h, h0, hf => absurd rfl h0
  | k :: o, p, a, 0, B, hp, h, h0, hf => by simp at hf
  | k :: o, p, a, f + 1, B, hp, h, h0, hf => by
    obtain ⟨⟨d, h1, h2, h3⟩, h4⟩ := h
    have e : L.getD k.toNat ⟨0, []⟩ = d := by rw [List.getD_eq_getElem?_getD, h1]; rfl
    obtain ⟨n1, n2, n3⟩ := hN _ d h1
    have hl : p ++ lyB L P a (k :: o) = p ++ ndB P a d ++ lyB L P (a + szN d) o := by
      show p ++ (ndB P a (L.getD k.toNat ⟨0, []⟩) ++ lyB L P (a + szN (L.getD k.toNat ⟨0, []⟩)) o) = _
      rw [e, List.append_assoc]
    rw [e] at h4
    have hll := lyB_len h4
    have hbk : bksN L P a (k :: o) = bkN P a d :: bksN L P (a + szN d) o := by
      show bkN P a (L.getD k.toNat ⟨0, []⟩) :: bksN L P (a + szN (L.getD k.toNat ⟨0, []⟩)) o = _
      rw [e]
    rw [hl, hbk, bsG_node P d p _ a hp h3 n1 n2 n3 f B (by rw [hll]; omega)]
    by_cases ho : o = []
    · subst ho
      rw [if_neg (by rw [hll]; simp [wsum])]
      rfl
    · have hpos : 0 < wsum L o := by
        cases o with
        | nil => exact absurd rfl ho
        | cons x t =>
          show 0 < szN _ + wsum L t
          have := sz_pos (L.getD x.toNat ⟨0, []⟩)
          omega
      rw [if_pos (by rw [hll]; omega)]
      rw [bsG_nodes hN o (p ++ ndB P a d) (a + szN d) f _ (by rw [List.length_append, hp, ndB_len h3]; omega) h4 ho (by simpa using hf)]
      rw [List.append_assoc]; rfl
end Go.Proofs.Ytdpmhpmnkollaaa
namespace Go.Proofs.Ytdpmhpmnkollaaa
open Go.RowKit
set_option linter.unusedSimpArgs false
set_option linter.unusedVariables false

def ndAt (L : List Nde) (k : Nat) : Nde := L.getD k ⟨0, []⟩
def tabW (L : List Nde) : Nat → Prs
  | 0 => List.replicate L.length (0, 0)
  | i + 1 => (kidL (ndAt L i).r).foldl (upR (((tabW L i).getD i (0, 0)).1 + (ndAt L i).b) (((tabW L i).getD i (0, 0)).2 + min 1 (ndAt L i).b)) (tabW L i)
def valW (L : List Nde) (k : Nat) : Int × Int := (tabW L k).getD k (0, 0)
def edgW (L : List Nde) (p k : Nat) : Prop := (k : Int) ∈ kidL (ndAt L p).r
theorem tabW_succ (L : List Nde) (i : Nat) : tabW L (i + 1) = (kidL (ndAt L i).r).foldl (upR ((valW L i).1 + (ndAt L i).b) ((valW L i).2 + min 1 (ndAt L i).b)) (tabW L i) := rfl
theorem upR_len (b m : Int) (T : Prs) (x : Int) : (upR b m T x).length = T.length := by unfold upR; rw [List.length_set]
theorem foldR_len (b m : Int) : ∀ (ks : List Int) (T : Prs), (ks.foldl (upR b m) T).length = T.length
  | [], T => rfl
  | x :: t, T => by rw [List.foldl_cons, foldR_len b m t, upR_len]
theorem tabW_len (L : List Nde) : ∀ i, (tabW L i).length = L.length
  | 0 => by show (List.replicate _ _).length = _; rw [List.length_replicate]
  | i + 1 => by rw [tabW_succ, foldR_len, tabW_len L i]
theorem setR_getD (A : Prs) (k i : Nat) (v : Int × Int) : (A.set k v).getD i (0, 0) = if k = i ∧ k < A.length then v else A.getD i (0, 0) := by
  rw [List.getD_eq_getElem?_getD, List.getElem?_set, List.getD_eq_getElem?_getD]
  by_cases c : k = i
  · subst c
    by_cases d : k < A.length
    · rw [if_pos rfl, if_pos d, if_pos ⟨rfl, d⟩]; rfl
    · rw [if_pos rfl, if_neg d, if_neg (fun q => d q.2), List.getElem?_eq_none (by omega)]
  · rw [if_neg c, if_neg (fun q => c q.1)]
theorem foldR_at (b m : Int) (k : Nat) : ∀ (ks : List Int) (T : Prs), k < T.length → (∀ x ∈ ks, 0 ≤ x) → (ks.foldl (upR b m) T).getD k (0, 0) = if (k : Int) ∈ ks then (max (T.getD k (0, 0)).1 b, max (T.getD k (0, 0)).2 m) else T.getD k (0, 0)
  | [], T, hk, _ => by rw [if_neg (by simp)]; rfl
  | x :: t, T, hk, hx => by
    have hx0 := hx x (by simp)
    rw [List.foldl_cons, foldR_at b m k t _ (by rw [upR_len]; exact hk) (fun y hy => hx y (by simp [hy]))]
    have hu : (upR b m T x).getD k (0, 0) = if x = (k : Int) then (max (T.getD k (0, 0)).1 b, max (T.getD k (0, 0)).2 m) else T.getD k (0, 0) := by
      unfold upR
      rw [setR_getD]
      by_cases c : x = (k : Int)
      · subst c
        rw [Int.toNat_natCast, if_pos ⟨rfl, hk⟩, if_pos rfl]
      · rw [if_neg (fun q => c (by omega)), if_neg c]
    rw [hu]
    by_cases c : x = (k : Int)
    · rw [if_pos c, if_pos (show (k : Int) ∈ x :: t by rw [c]; simp)]
      split
      · dsimp only
        congr 1 <;> omega
      · rfl
    · rw [if_neg c]
      by_cases d : (k : Int) ∈ t
      · rw [if_pos d, if_pos (by simp [d])]
      · rw [if_neg d, if_neg (by
          intro q
          rcases List.mem_cons.mp q with q | q
          · exact c q.symm
          · exact d q)]
structure IsP (L : List Nde) (i k : Nat) (v : Int × Int) : Prop where
  u : ∀ p, p < i → edgW L p k → (valW L p).1 + (ndAt L p).b ≤ v.1 ∧ (valW L p).2 + min 1 (ndAt L p).b ≤ v.2
  z : 0 ≤ v.1 ∧ 0 ≤ v.2
  a1 : v.1 = 0 ∨ ∃ p, p < i ∧ edgW L p k ∧ v.1 = (valW L p).1 + (ndAt L p).b
  a2 : v.2 = 0 ∨ ∃ p, p < i ∧ edgW L p k ∧ v.2 = (valW L p).2 + min 1 (ndAt L p).b
theorem tab_part (L : List Nde) (h0 : ∀ p, ∀ x ∈ kidL (ndAt L p).r, 0 ≤ x) (k : Nat) (hk : k < L.length) : ∀ i, IsP L i k ((tabW L i).getD k (0, 0))
  | 0 => by
    have e : (tabW L 0).getD k (0, 0) = (0, 0) := by
      show (List.replicate L.length ((0 : Int), (0 : Int))).getD k (0, 0) = _
      rw [List.getD_eq_getElem?_getD, List.getElem?_replicate]
      split <;> rfl
    rw [e]
    exact ⟨fun p hp => by omega, ⟨Int.le_refl _, Int.le_refl _⟩, .inl rfl, .inl rfl⟩
  | i + 1 => by
    have ih := tab_part L h0 k hk i
    have e := foldR_at ((valW L i).1 + (ndAt L i).b) ((valW L i).2 + min 1 (ndAt L i).b) k (kidL (ndAt L i).r) (tabW L i) (by rw [tabW_len]; exact hk) (h0 i)
    rw [← tabW_succ] at e
    rw [e]
    obtain ⟨u, z, a1, a2⟩ := ih
    by_cases c : (k : Int) ∈ kidL (ndAt L i).r
    · rw [if_pos c]
      refine ⟨fun p hp he => ?_, ⟨by dsimp only; omega, by dsimp only; omega⟩, ?_, ?_⟩
      · by_cases q : p = i
        · subst q
          exact ⟨Int.le_max_right _ _, Int.le_max_right _ _⟩
        · have := u p (by omega) he
          dsimp only
          omega
      · dsimp only
        by_cases q : ((tabW L i).getD k (0, 0)).1 ≤ (valW L i).1 + (ndAt L i).b
        · right
          exact ⟨i, by omega, c, by omega⟩
        · rcases a1 with r | ⟨p, p1, p2, p3⟩
          · left; omega
          · right; exact ⟨p, by omega, p2, by omega⟩
      · dsimp only
        by_cases q : ((tabW L i).getD k (0, 0)).2 ≤ (valW L i).2 + min 1 (ndAt L i).b
        · right
          exact ⟨i, by omega, c, by omega⟩
        · rcases a2 with r | ⟨p, p1, p2, p3⟩
          · left; omega
          · right; exact ⟨p, by omega, p2, by omega⟩
    · rw [if_neg c]
      refine ⟨fun p hp he => ?_, z, ?_, ?_⟩
      · by_cases q : p = i
        · subst q
          exact absurd he c
        · exact u p (by omega) he
      · rcases a1 with r | ⟨p, p1, p2, p3⟩
        · exact .inl r
        · exact .inr ⟨p, by omega, p2, p3⟩
      · rcases a2 with r | ⟨p, p1, p2, p3⟩
        · exact .inl r
        · exact .inr ⟨p, by omega, p2, p3⟩
theorem val_is (L : List Nde) (h0 : ∀ p, ∀ x ∈ kidL (ndAt L p).r, 0 ≤ x) (k : Nat) (hk : k < L.length) : IsP L k k (valW L k) := tab_part L h0 k hk k
structure Ren (L M : List Nde) (o : Nat → Nat) : Prop where
  n : M.length = L.length
  i : ∀ j, j < M.length → o j < L.length
  s : ∀ k, k < L.length → ∃ j, j < M.length ∧ o j = k
  b : ∀ j, j < M.length → (ndAt M j).b = (ndAt L (o j)).b
  e : ∀ i j, i < M.length → j < M.length → (edgW M i j ↔ edgW L (o i) (o j))
  fm : ∀ i j, i < M.length → j < M.length → edgW M i j → i < j
  fl : ∀ p k, p < L.length → k < L.length → edgW L p k → p < k
  zm : ∀ p, ∀ x ∈ kidL (ndAt M p).r, 0 ≤ x
  zl : ∀ p, ∀ x ∈ kidL (ndAt L p).r, 0 ≤ x
theorem Ren.val {L M : List Nde} {o : Nat → Nat} (h : Ren L M o) : ∀ j, j < M.length → valW M j = valW L (o j) := by
  intro j
  induction j using Nat.strongRecOn with
  | ind j ih =>
    intro hj
    have hoj := h.i j hj
    obtain ⟨u, z, a1, a2⟩ := val_is M h.zm j hj
    obtain ⟨u', z', a1', a2'⟩ := val_is L h.zl (o j) hoj
    have f1 : ∀ i, i < j → edgW M i j → edgW L (o i) (o j) ∧ o i < o j ∧ valW M i = valW L (o i) ∧ (ndAt M i).b = (ndAt L (o i)).b := fun i hi he => by
      have hi2 : i < M.length := by omega
      have := (h.e i j hi2 hj).mp he
      exact ⟨this, h.fl _ _ (h.i i hi2) hoj this, ih i hi hi2, h.b i hi2⟩
    have f2 : ∀ p, p < o j → edgW L p (o j) → ∃ i, i < j ∧ edgW M i j ∧ valW M i = valW L p ∧ (ndAt M i).b = (ndAt L p).b := fun p hp he => by
      obtain ⟨i, hi, rfl⟩ := h.s p (by omega)
      have he2 := (h.e i j hi hj).mpr he
      have hlt := h.fm i j hi hj he2
      exact ⟨i, hlt, he2, ih i hlt hi, h.b i hi⟩
    have e1 : (valW M j).1 = (valW L (o j)).1 := by
      apply Int.le_antisymm
      · rcases a1 with q | ⟨p, p1, p2, p3⟩
        · omega
        · obtain ⟨g1, g2, g3, g4⟩ := f1 p p1 p2
          have := (u' (o p) g2 g1).1
          rw [p3, g3, g4]; exact this
      · rcases a1' with q | ⟨p, p1, p2, p3⟩
        · omega
        · obtain ⟨i, g1, g2, g3, g4⟩ := f2 p p1 p2
          have := (u i g1 g2).1
          rw [g3, g4] at this
          omega
    have e2 : (valW M j).2 = (valW L (o j)).2 := by
      apply Int.le_antisymm
      · rcases a2 with q | ⟨p, p1, p2, p3⟩
        · omega
        · obtain ⟨g1, g2, g3, g4⟩ := f1 p p1 p2
          have := (u' (o p) g2 g1).2
          rw [p3, g3, g4]; exact this
      · rcases a2' with q | ⟨p, p1, p2, p3⟩
        · omega
        · obtain ⟨i, g1, g2, g3, g4⟩ := f2 p p1 p2
          have := (u i g1 g2).2
          rw [g3, g4] at this
          omega
    exact Prod.ext e1 e2
theorem dp_tab (F : Int) (L : List Nde) : ∀ (n i : Nat) (d : Int), i + n = L.length →
    ((∀ k, i ≤ k → k < L.length → (valW L k).1 + (ndAt L k).b ≤ F) → (dpG F (L.drop i) i (tabW L i) d).2 = 0 ∧ d ≤ (dpG F (L.drop i) i (tabW L i) d).1 ∧ (∀ k, i ≤ k → k < L.length → (valW L k).2 + min 1 (ndAt L k).b ≤ (dpG F (L.drop i) i (tabW L i) d).1) ∧ ((dpG F (L.drop i) i (tabW L i) d).1 = d ∨ ∃ k, i ≤ k ∧ k < L.length ∧ (dpG F (L.drop i) i (tabW L i) d).1 = (valW L k).2 + min 1 (ndAt L k).b)) ∧
    ((dpG F (L.drop i) i (tabW L i) d).2 = 0 → ∀ k, i ≤ k → k < L.length → (valW L k).1 + (ndAt L k).b ≤ F)
  | 0, i, d, h => by
    rw [List.drop_of_length_le (by omega)]
    refine ⟨fun _ => ⟨rfl, Int.le_refl _, fun k h1 h2 => by omega, .inl rfl⟩, fun _ k h1 h2 => by omega⟩
  | n + 1, i, d, h => by
    have hi : i < L.length := by omega
    have hd : L[i]? = some (ndAt L i) := by unfold ndAt; rw [List.getD_eq_getElem?_getD, List.getElem?_eq_getElem hi]; rfl
    have ih := dp_tab F L n (i + 1) (max d ((valW L i).2 + min 1 (ndAt L i).b)) (by omega)
    have e := dp_drop F L i (ndAt L i) hd (tabW L i) d
    have e' : dpG F (L.drop i) i (tabW L i) d = if F < (valW L i).1 + (ndAt L i).b then (0, 27) else dpG F (L.drop (i + 1)) (i + 1) (tabW L (i + 1)) (max d ((valW L i).2 + min 1 (ndAt L i).b)) := e
    rw [e']
    obtain ⟨ih1, ih2⟩ := ih
    refine ⟨fun hall => ?_, fun h0 => ?_⟩
    · have hi0 := hall i (Nat.le_refl _) hi
      rw [if_neg (by omega)]
      obtain ⟨g1, g2, g3, g4⟩ := ih1 (fun k h1 h2 => hall k (by omega) h2)
      refine ⟨g1, by clear g4; omega, fun k h1 h2 => ?_, ?_⟩
      · by_cases q : k = i
        · subst q
          clear g4 g3 ih1 ih2
          omega
        · exact g3 k (by omega) h2
      · rcases g4 with q | ⟨k, k1, k2, k3⟩
        · by_cases r : d ≤ (valW L i).2 + min 1 (ndAt L i).b
          · right; exact ⟨i, Nat.le_refl _, hi, by rw [q]; omega⟩
          · left; rw [q]; omega
        · right; exact ⟨k, by omega, k2, k3⟩
    · by_cases c : F < (valW L i).1 + (ndAt L i).b
      · rw [if_pos c] at h0; exact absurd h0 (by decide)
      · rw [if_neg c] at h0
        intro k h1 h2
        by_cases q : k = i
        · subst q; omega
        · exact ih2 h0 k (by omega) h2
theorem Ren.deep {L M : List Nde} {o : Nat → Nat} (h : Ren L M o) (F : Int) (h0 : (deepR F L).2 = 0) : deepR F M = deepR F L := by
  obtain ⟨l1, l2⟩ := dp_tab F L L.length 0 0 (by omega)
  obtain ⟨m1, m2⟩ := dp_tab F M M.length 0 0 (by omega)
  have eL : dpG F (L.drop 0) 0 (tabW L 0) 0 = deepR F L := rfl
  have eM : dpG F (M.drop 0) 0 (tabW M 0) 0 = deepR F M := rfl
  rw [eL] at l1 l2
  rw [eM] at m1 m2
  have hL := l2 h0
  obtain ⟨a1, a2, a3, a4⟩ := l1 hL
  obtain ⟨b1, b2, b3, b4⟩ := m1 (fun j _ hj => by
    rw [h.val j hj, h.b j hj]
    exact hL (o j) (Nat.zero_le _) (h.i j hj))
  have e1 : (deepR F M).1 = (deepR F L).1 := by
    apply Int.le_antisymm
    · rcases b4 with q | ⟨j, -, j2, j3⟩
      · omega
      · rw [j3, h.val j j2, h.b j j2]
        exact a3 (o j) (Nat.zero_le _) (h.i j j2)
    · rcases a4 with q | ⟨k, -, k2, k3⟩
      · omega
      · obtain ⟨j, hj, rfl⟩ := h.s k k2
        have := b3 j (Nat.zero_le _) hj
        rw [h.val j hj, h.b j hj] at this
        omega
  exact Prod.ext e1 (by rw [b1, h0])
end Go.Proofs.Ytdpmhpmnkollaaa
namespace Go.Proofs.Ytdpmhpmnkollaaa
open Go.RowKit
set_option linter.unusedSimpArgs false
set_option linter.unusedVariables false

theorem nodup_len16 : ∀ {l m : List Int}, l.Nodup → (∀ x ∈ l, x ∈ m) → l.length ≤ m.length
  | [], m, _, _ => by simp
  | x :: l, m, hn, hs => by
    have hx := hs x (List.mem_cons_self ..)
    have hne := List.nodup_cons.mp hn
    have ih := nodup_len16 (m := m.erase x) hne.2 (fun y hy => (List.mem_erase_of_ne (by rintro rfl; exact hne.1 hy)).mpr (hs y (List.mem_cons_of_mem _ hy)))
    rw [List.length_erase_of_mem hx] at ih
    have := List.length_pos_of_mem hx
    simp only [List.length_cons]
    omega
theorem ord_full {L : List Nde} (ok : NdsOk L) (hu : usedB L = true) : (ordL L).length = L.length := by
  have h1 := ord_len ok
  have h2 := ord_all ok hu
  have h3 : ((List.range L.length).map fun z : Nat => (z : Int)).length ≤ (ordL L).length := by
    refine nodup_len16 ?_ ?_
    · refine List.Pairwise.map _ ?_ List.nodup_range
      intro a b h e
      exact h (by have e2 : ((a : Nat) : Int) = ((b : Nat) : Int) := e; omega)
    · intro x hx
      obtain ⟨z, hz, rfl⟩ := List.mem_map.mp hx
      exact h2 z (by simpa using hz)
  simp at h3
  omega
end Go.Proofs.Ytdpmhpmnkollaaa
