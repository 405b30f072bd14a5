/-
  Part 5 of the proof: 3 texts, one behind the other.
-/
import Derived.Test.YtfpagbmnpfoghabPart4
import Derived.Test.YtfpagbmnpfoghabPart1
import Derived.Test.YtfpagbmnpfoghabPart2
import Derived.Test.YtfpagbmnpfoghabPart3
namespace Go.Proofs.Ytfpagbmnpfoghab
open Go.RowKit
set_option linter.unusedSimpArgs false
set_option linter.unusedVariables false

def mpC (b : Nat) : List (BitVec 32) := 3221225472#32 :: List.replicate (mwN b - 1) 0#32
def blC (b : Nat) (z : Bool) : List Nat := wdB 1 b [] ++ wdB 2 b (mpC b) ++ (if z then wdB 4 9 [] else wdB 3 2 []) ++ wdB 4 7 []
def szC (b : Nat) : Nat := mwN b + 4
def chR (b : Nat) : Nat → List Nat
  | 0 => []
  | r + 1 => blC b (r == 0) ++ chR b r
theorem mpC_len (b : Nat) : (mpC b).length = mwN b := by
  have := mwN_lo b
  unfold mpC; simp; omega
theorem blC_len (b : Nat) (z : Bool) : (blC b z).length = 4 * szC b := by
  unfold blC szC
  rw [List.length_append, List.length_append, List.length_append, wdB_len, wdB_len, wdB_len, mpC_len]
  cases z <;> simp [wdB_len] <;> omega
theorem chR_len (b : Nat) : ∀ r, (chR b r).length = 4 * (szC b * r)
  | 0 => rfl
  | r + 1 => by
    show (blC b (r == 0) ++ chR b r).length = _
    rw [List.length_append, blC_len, chR_len b r, Nat.mul_succ]; omega
theorem ckC : ∀ b : Fin 9, 1 ≤ b.val → chkE 1 (b.val : Int) [] = 0 ∧ chkE 2 (b.val : Int) (mpC b.val) = 0 ∧ sumW (mpC b.val) (mpC b.val).length = 2 := by decide +kernel
theorem ckE : chkE 3 2 [] = 0 ∧ chkE 4 9 [] = 0 ∧ chkE 4 7 [] = 0 := by decide +kernel
def bkC (b : Nat) (a : Int) (z : Bool) : PB := ⟨a, b, mpC b, if z then [(false, 9), (false, 7)] else [(true, a + (szC b : Int)), (false, 7)]⟩
theorem bsG_one (b : Nat) (hb : 1 ≤ b) (hb2 : b ≤ 8) (p z : List Nat) (a : Nat) (hp : p.length = 4 * a) (lz : Bool) (f : Nat) (P : List PB) (hz : z.length % 4 = 0) :
    bsG (p ++ blC b lz ++ z) (f + 1) a P = if 0 < z.length then bsG (p ++ blC b lz ++ z) f ((a + szC b : Nat) : Int) (P ++ [bkC b a lz]) else (P ++ [bkC b a lz], 0, 0) := by
  obtain ⟨k1, k2, k3⟩ := ckC ⟨b, by omega⟩ hb
  obtain ⟨c1, c2, c3⟩ := ckE
  dsimp only at k1 k2 k3
  obtain ⟨l, hl⟩ : ∃ l, l = p ++ blC b lz ++ z := ⟨_, rfl⟩
  have e1 : l = p ++ wdB (1 : Int).toNat ((b : Int)).toNat [] ++ (wdB 2 b (mpC b) ++ (if lz then wdB 4 9 [] else wdB 3 2 []) ++ wdB 4 7 [] ++ z) := by
    rw [hl]; unfold blC; simp only [Int.toNat_natCast, List.append_assoc]; rfl
  have d1 := dec_enc p (wdB 2 b (mpC b) ++ (if lz then wdB 4 9 [] else wdB 3 2 []) ++ wdB 4 7 [] ++ z) a 1 (b : Int) [] hp k1
  rw [← e1] at d1
  have e2 : l = (p ++ wdB 1 b []) ++ wdB (2 : Int).toNat ((b : Int)).toNat (mpC b) ++ ((if lz then wdB 4 9 [] else wdB 3 2 []) ++ wdB 4 7 [] ++ z) := by
    rw [hl]; unfold blC; simp only [Int.toNat_natCast, List.append_assoc]; rfl
  have d2 := dec_enc (p ++ wdB 1 b []) ((if lz then wdB 4 9 [] else wdB 3 2 []) ++ wdB 4 7 [] ++ z) (a + 1) 2 (b : Int) (mpC b) (by rw [List.length_append, hp, wdB_len]; simp; omega) k2
  rw [← e2] at d2
  obtain ⟨o3, n3, h3⟩ : ∃ o n : Int, (o, n) = if lz then ((4 : Int), (9 : Int)) else (3, 2) := ⟨_, _, rfl⟩
  have hk3 : chkE o3 n3 [] = 0 ∧ (if lz then wdB 4 9 [] else wdB 3 2 []) = wdB o3.toNat n3.toNat [] := by
    cases lz
    · simp at h3; obtain ⟨rfl, rfl⟩ := h3; exact ⟨c1, rfl⟩
    · simp at h3; obtain ⟨rfl, rfl⟩ := h3; exact ⟨c2, rfl⟩
  have hml := mpC_len b
  have e3 : l = (p ++ wdB 1 b [] ++ wdB 2 b (mpC b)) ++ wdB o3.toNat n3.toNat [] ++ (wdB 4 7 [] ++ z) := by
    rw [hl]; unfold blC; rw [hk3.2]; simp only [List.append_assoc]
  have d3 := dec_enc (p ++ wdB 1 b [] ++ wdB 2 b (mpC b)) (wdB 4 7 [] ++ z) (a + 2 + mwN b) o3 n3 [] (by rw [List.length_append, List.length_append, hp, wdB_len, wdB_len, hml]; simp; omega) hk3.1
  rw [← e3] at d3
  have e4 : l = (p ++ wdB 1 b [] ++ wdB 2 b (mpC b) ++ wdB o3.toNat n3.toNat []) ++ wdB (4 : Int).toNat (7 : Int).toNat [] ++ z := by
    rw [hl]; unfold blC; rw [hk3.2]; simp only [List.append_assoc]; rfl
  have d4 := dec_enc (p ++ wdB 1 b [] ++ wdB 2 b (mpC b) ++ wdB o3.toNat n3.toNat []) z (a + 3 + mwN b) 4 7 [] (by rw [List.length_append, List.length_append, List.length_append, hp, wdB_len, wdB_len, wdB_len, hml]; simp; omega) c3
  rw [← e4] at d4
  have hlen : l.length = 4 * (a + szC b) + z.length := by rw [hl, List.length_append, List.length_append, hp, blC_len]; omega
  rw [← hl]
  have ha1 : ((a : Nat) : Int) + 1 = ((a + 1 : Nat) : Int) := by push_cast; rfl
  rw [bsG_succ, if_neg (fun q => q d1.1), if_neg (fun q => q (by rw [d1.2.1])), ha1, if_neg (fun q => q d2.1), if_neg (fun q => q (by rw [d2.2.1])), if_neg (fun q => q (by rw [d2.2.1, d1.2.1])), d2.2.1, d2.2.2, d1.2.1]
  dsimp only
  rw [k3, hml]
  have hen : ((a + 1 : Nat) : Int) + (1 + (mwN b : Int)) = ((a + 2 + mwN b : Nat) : Int) := by push_cast; omega
  rw [hen]
  have hen2 : ((a + 2 + mwN b : Nat) : Int) + ((1 : Nat) : Int) = ((a + 3 + mwN b : Nat) : Int) := by push_cast; omega
  have ho3 : ¬ o3 < 3 := by cases lz <;> simp at h3 <;> omega
  have g0 : enE l (((a + 2 + mwN b : Nat) : Int) + ((0 : Nat) : Int)) [] = 0 := by
    unfold enE
    rw [show ((a + 2 + mwN b : Nat) : Int) + ((0 : Nat) : Int) = ((a + 2 + mwN b : Nat) : Int) by simp, if_neg (fun q => q d3.1), if_neg (by rw [d3.2.1]; exact ho3)]
    rfl
  have g1 : enE l (((a + 2 + mwN b : Nat) : Int) + ((1 : Nat) : Int)) [(o3, n3)] = 0 := by
    unfold enE
    rw [hen2, if_neg (fun q => q d4.1), if_neg (by rw [d4.2.1]; decide)]
    simp only [List.getLast?_singleton]
    rw [d4.2.1, if_neg]
    cases lz <;> simp at h3 <;> obtain ⟨rfl, rfl⟩ := h3 <;> simp
  have hG : enG l ((a + 2 + mwN b : Nat) : Int) 2 0 [] = ([(o3, n3), (4, 7)], 0, 0) := by
    rw [show (2 : Nat) = 1 + 1 from rfl, enG_succ, if_pos g0, show ((a + 2 + mwN b : Nat) : Int) + ((0 : Nat) : Int) = ((a + 2 + mwN b : Nat) : Int) by simp, d3.2.1, show (1 : Nat) = 0 + 1 from rfl, enG_succ]
    simp only [List.nil_append, Nat.zero_add]
    rw [if_pos g1, hen2, d4.2.1]
    rfl
  rw [hG]
  unfold bsF
  rw [if_neg (by simp)]
  have hpr : (⟨(a : Int), (b : Int), mpC b, prE ((a + 2 + mwN b : Nat) : Int) [(o3, n3), (4, 7)]⟩ : PB) = bkC b a lz := by
    unfold bkC
    cases lz
    · simp at h3; obtain ⟨rfl, rfl⟩ := h3
      have : ((a + 2 + mwN b : Nat) : Int) + 2 = (a : Int) + (szC b : Int) := by unfold szC; push_cast; omega
      simp only [prE, prX]
      simp
      push_cast at this
      omega
    · simp at h3; obtain ⟨rfl, rfl⟩ := h3
      simp [prE, prX]
  dsimp only
  rw [hpr, k3]
  have hnx : ((a + 2 + mwN b : Nat) : Int) + ((2 : Nat) : Int) = ((a + szC b : Nat) : Int) := by unfold szC; push_cast; omega
  rw [hnx]
  have hw : (((a + szC b : Nat) : Int) < wds l) ↔ 0 < z.length := by
    unfold wds; rw [hlen]; omega
  by_cases hz0 : 0 < z.length
  · rw [if_pos (hw.2 hz0), if_pos hz0]
  · rw [if_neg (fun q => hz0 (hw.1 q)), if_neg hz0]
def pbR (b : Nat) : Nat → Nat → List PB
  | 0, _ => []
  | r + 1, a => bkC b a (r == 0) :: pbR b r (a + szC b)
theorem bsG_chain (b : Nat) (hb : 1 ≤ b) (hb2 : b ≤ 8) : ∀ (r : Nat) (p : List Nat) (a f : Nat) (P : List PB), p.length = 4 * a → 1 ≤ r → r ≤ f → bsG (p ++ chR b r) f a P = (P ++ pbR b r a, 0, 0)
  | 0, p, a, f, P, hp, h1, hf => by omega
  | r + 1, p, a, 0, P, hp, h1, hf => by omega
  | r + 1, p, a, f + 1, P, hp, h1, hf => by
    have hl : p ++ chR b (r + 1) = p ++ blC b (r == 0) ++ chR b r := by show p ++ (blC b (r == 0) ++ chR b r) = _; rw [List.append_assoc]
    rw [hl, bsG_one b hb hb2 p (chR b r) a hp (r == 0) f P (by rw [chR_len]; omega)]
    by_cases hr : r = 0
    · subst hr
      rw [if_neg (by simp [chR])]
      rfl
    · have hs : 0 < (chR b r).length := by
        have h9 : 0 < szC b := by unfold szC; omega
        have h8 := Nat.mul_pos h9 (Nat.pos_of_ne_zero hr)
        rw [chR_len]; omega
      rw [if_pos hs]
      rw [bsG_chain b hb hb2 r (p ++ blC b (r == 0)) (a + szC b) f _ (by rw [List.length_append, hp, blC_len]; omega) (by omega) (by omega)]
      rw [List.append_assoc]; rfl
def pbL (b : Nat) : Nat → Nat → Nat → List PB
  | 0, _, _ => []
  | r + 1, a, j => ⟨a, b, mpC b, if r = 0 then [(false, 9), (false, 7)] else [(true, ((j + 1 : Nat) : Int)), (false, 7)]⟩ :: pbL b r (a + szC b) (j + 1)
theorem pbR_len (b : Nat) : ∀ (r a : Nat), (pbR b r a).length = r
  | 0, a => rfl
  | r + 1, a => by show (pbR b r (a + szC b)).length + 1 = _; rw [pbR_len]
theorem pbR_at (b : Nat) : ∀ (r a k : Nat), k < r → ((pbR b r a).map PB.a)[k]? = some ((a + k * szC b : Nat) : Int)
  | 0, a, k, h => by omega
  | r + 1, a, 0, h => by show some (a : Int) = _; simp
  | r + 1, a, k + 1, h => by
    show ((pbR b r (a + szC b)).map PB.a)[k]? = _
    rw [pbR_at b r (a + szC b) k (by omega), Nat.succ_mul]
    congr 2; omega
theorem pbR_ge (b : Nat) : ∀ (r a : Nat), ∀ x ∈ (pbR b r a).map PB.a, (a : Int) ≤ x
  | 0, a, x, h => by simp [pbR] at h
  | r + 1, a, x, h => by
    rcases List.mem_cons.1 h with rfl | h
    · exact Int.le_refl _
    · have := pbR_ge b r (a + szC b) x h
      push_cast at this; omega
theorem pbR_srt (b : Nat) : ∀ (r a : Nat), ((pbR b r a).map PB.a).Pairwise (· < ·)
  | 0, a => List.Pairwise.nil
  | r + 1, a => by
    show (((a : Nat) : Int) :: (pbR b r (a + szC b)).map PB.a).Pairwise (· < ·)
    refine List.pairwise_cons.2 ⟨fun x hx => ?_, pbR_srt b r _⟩
    have := pbR_ge b r (a + szC b) x hx
    have h2 : 0 < szC b := by unfold szC; omega
    push_cast at this; omega
theorem lk_chain (b : Nat) (qs : List Int) : ∀ (r a j : Nat), (∀ k, 0 < k → k < r → fnB qs ((a + k * szC b : Nat) : Int) = ((j + k : Nat) : Int)) → (pbR b r a).map (lkB qs) = pbL b r a j ∧ lkA qs (pbR b r a) = none
  | 0, a, j, h => ⟨rfl, rfl⟩
  | r + 1, a, j, h => by
    obtain ⟨h1, h2⟩ := lk_chain b qs r (a + szC b) (j + 1) (fun k k0 k1 => by
      have := h (k + 1) (by omega) (by omega)
      rw [Nat.succ_mul] at this
      rw [show a + szC b + k * szC b = a + (k * szC b + szC b) by omega, this]; congr 1; omega)
    have hf : r ≠ 0 → fnB qs ((a : Int) + (szC b : Int)) = ((j + 1 : Nat) : Int) := fun hr => by
      have := h 1 (by omega) (by omega)
      rw [Nat.one_mul] at this
      push_cast at this ⊢
      exact this
    constructor
    · show lkB qs (bkC b a (r == 0)) :: (pbR b r (a + szC b)).map (lkB qs) = _
      rw [h1]
      show _ = (⟨a, b, mpC b, if r = 0 then [(false, 9), (false, 7)] else [(true, ((j + 1 : Nat) : Int)), (false, 7)]⟩ : PB) :: pbL b r (a + szC b) (j + 1)
      congr 1
      unfold lkB bkC
      by_cases hr : r = 0
      · subst hr; rfl
      · simp only [show (r == 0) = false by simpa using hr, if_neg hr]
        simp [lkX, hf hr]
    · show (match lkI qs ((bkC b a (r == 0)).a + 2 + ((bkC b a (r == 0)).m.length : Int)) (bkC b a (r == 0)).es with | some p => some p | none => lkA qs (pbR b r (a + szC b))) = none
      have : lkI qs ((bkC b a (r == 0)).a + 2 + ((bkC b a (r == 0)).m.length : Int)) (bkC b a (r == 0)).es = none := by
        unfold bkC
        by_cases hr : r = 0
        · subst hr; simp [lkI]
        · simp only [show (r == 0) = false by simpa using hr]
          simp [lkI, hf hr]
          omega
      rw [this]; exact h2
theorem us_chain (b : Nat) : ∀ (r a j : Nat), (pbL b r a j).foldl mkB (List.replicate (j + 1) true ++ List.replicate (r - 1) false) = List.replicate (j + 1 + (r - 1)) true
  | 0, a, j => by simp [pbL]
  | 1, a, j => by simp [pbL, mkB, mkX]
  | r + 2, a, j => by
    show (pbL b (r + 1) (a + szC b) (j + 1)).foldl mkB (mkB (List.replicate (j + 1) true ++ List.replicate (r + 1) false) ⟨a, b, mpC b, [(true, ((j + 1 : Nat) : Int)), (false, 7)]⟩) = _
    have : mkB (List.replicate (j + 1) true ++ List.replicate (r + 1) false) ⟨a, b, mpC b, [(true, ((j + 1 : Nat) : Int)), (false, 7)]⟩ = List.replicate (j + 2) true ++ List.replicate r false := by
      show mkX (mkX (List.replicate (j + 1) true ++ List.replicate (r + 1) false) (true, ((j + 1 : Nat) : Int))) (false, 7) = _
      have x1 : ∀ s : List Bool, mkX s (true, ((j + 1 : Nat) : Int)) = s.set (j + 1) true := fun s => by unfold mkX; rw [if_pos rfl, Int.toNat_natCast]
      have x2 : ∀ s : List Bool, mkX s (false, 7) = s := fun s => by unfold mkX; rw [if_neg (by decide)]
      rw [x2, x1, List.set_append_right _ _ (by simp), List.length_replicate, Nat.sub_self]
      rw [List.replicate_succ (n := r), List.set_cons_zero, List.replicate_succ' (n := j + 1), List.append_assoc]
      rfl
    rw [this]
    have := us_chain b (r + 1) (a + szC b) (j + 1)
    rw [show r + 1 - 1 = r by omega] at this
    rw [this]
    congr 1; omega
theorem ix_true (n : Nat) : ixB (List.replicate n true) = -1 := by
  unfold ixB
  have : (List.replicate n true).findIdx? (· == false) = none := by
    rw [List.findIdx?_eq_none_iff]
    intro x hx
    rw [List.eq_of_mem_replicate hx]; rfl
  rw [this]
theorem ms_chain (F b : Nat) (hb : 1 ≤ b) : ∀ (r a j : Nat) (A : List (Int × Int)), A.getD j (0, 0) = ((j : Int), ((j * b : Nat) : Int)) → (∀ i, j < i → A.getD i (0, 0) = (0, 0)) → j + r ≤ A.length → a = j * szC b → j * b ≤ F →
    msG F (pbL b r a j) j A j = if (j + r) * b ≤ F then (((j + r : Nat) : Int), 0, 0) else (0, ((F / b * szC b : Nat) : Int), 27)
  | 0, a, j, A, hA, h0, hl, ha, hF => by
    rw [if_pos (by simpa using hF)]
    rfl
  | r + 1, a, j, A, hA, h0, hl, ha, hF => by
    show (if (F : Int) < (A.getD j (0, 0)).2 + (b : Int) then ((0 : Int), (a : Int), (27 : Int)) else msG F (pbL b r (a + szC b) (j + 1)) (j + 1) ((if r = 0 then [(false, 9), (false, 7)] else [(true, ((j + 1 : Nat) : Int)), (false, 7)]).foldl (upX ((A.getD j (0, 0)).1 + 1) ((A.getD j (0, 0)).2 + (b : Int))) A) (max (j : Int) ((A.getD j (0, 0)).1 + 1))) = _
    rw [hA]
    dsimp only
    by_cases hc : F < (j + 1) * b
    · have e1 : (F : Int) < ((j * b : Nat) : Int) + (b : Int) := by rw [Nat.succ_mul] at hc; omega
      have e2 : ¬ (j + (r + 1)) * b ≤ F := by
        have : (j + 1) * b ≤ (j + (r + 1)) * b := Nat.mul_le_mul_right b (by omega)
        omega
      have e3 : F / b = j := by
        rw [Nat.succ_mul] at hc
        exact (Nat.div_eq_iff (by omega)).2 ⟨hF, by omega⟩
      rw [if_pos e1, if_neg e2, e3, ha]
    · have e1 : ¬ (F : Int) < ((j * b : Nat) : Int) + (b : Int) := by rw [Nat.succ_mul] at hc; omega
      rw [if_neg e1]
      have hmx : max (j : Int) ((j : Int) + 1) = ((j + 1 : Nat) : Int) := by push_cast; omega
      rw [hmx]
      by_cases hr : r = 0
      · subst hr
        rw [if_pos rfl, if_pos (by show (j + 1) * b ≤ F; omega)]
        rfl
      · rw [if_neg hr]
        have hA2 : ([(true, ((j + 1 : Nat) : Int)), (false, 7)] : List (Bool × Int)).foldl (upX ((j : Int) + 1) (((j * b : Nat) : Int) + (b : Int))) A = A.set (j + 1) (((j + 1 : Nat) : Int), (((j + 1) * b : Nat) : Int)) := by
          show upX ((j : Int) + 1) (((j * b : Nat) : Int) + (b : Int)) (upX ((j : Int) + 1) (((j * b : Nat) : Int) + (b : Int)) A (true, ((j + 1 : Nat) : Int))) (false, 7) = _
          have x2 : ∀ (u v : Int) (s : List (Int × Int)), upX u v s (false, 7) = s := fun u v s => by unfold upX; rw [if_neg (by decide)]
          rw [x2]
          unfold upX
          rw [if_pos rfl, Int.toNat_natCast, h0 (j + 1) (by omega)]
          congr 1
          rw [Nat.succ_mul]
          ext <;> dsimp only <;> push_cast <;> omega
        rw [hA2, ms_chain F b hb r (a + szC b) (j + 1) _ (by rw [List.getD_eq_getElem?_getD, List.getElem?_set_self (by omega)]; rfl) (fun i hi => by rw [List.getD_eq_getElem?_getD, List.getElem?_set_ne (by omega), ← List.getD_eq_getElem?_getD]; exact h0 i (by omega)) (by rw [List.length_set]; omega) (by rw [Nat.succ_mul, ha]) (by omega)]
        rw [show j + 1 + r = j + (r + 1) by omega]
theorem vf_chain (F b n : Nat) (hF : F = 32 ∨ F = 128) (hb : 1 ≤ b) (hb2 : b ≤ 8) (hn : 1 ≤ n) :
    vfR F (chR b n) = if n * b ≤ F then ((n : Int), 0, 0) else (0, ((F / b * szC b : Nat) : Int), 27) := by
  have hlen := chR_len b n
  have hS : 4 ≤ szC b := by unfold szC; omega
  have hnS : n ≤ szC b * n := Nat.le_mul_of_pos_left n (by omega)
  have hG := bsG_chain b hb hb2 n [] 0 ((chR b n).length / 4) [] rfl hn (by rw [hlen]; omega)
  rw [List.nil_append, List.nil_append, Int.natCast_zero] at hG
  obtain ⟨r, rfl⟩ : ∃ r, n = r + 1 := ⟨n - 1, by omega⟩
  obtain ⟨k1, -, -⟩ := ckC ⟨b, by omega⟩ hb
  have hd : dcE (chR b (r + 1)) 0 = 0 ∧ (dcI (chR b (r + 1)) 0).op = 1 := by
    have h := dec_enc [] (wdB 2 b (mpC b) ++ (if (r == 0) then wdB 4 9 [] else wdB 3 2 []) ++ wdB 4 7 [] ++ chR b r) 0 1 (b : Int) [] rfl k1
    have e : ([] ++ wdB (1 : Int).toNat ((b : Int)).toNat [] ++ (wdB 2 b (mpC b) ++ (if (r == 0) then wdB 4 9 [] else wdB 3 2 []) ++ wdB 4 7 [] ++ chR b r)) = chR b (r + 1) := by
      show _ = blC b (r == 0) ++ chR b r
      unfold blC
      simp only [Int.toNat_natCast, List.append_assoc, List.nil_append]
      rfl
    rw [e, Int.natCast_zero] at h
    exact ⟨h.1, by rw [h.2.1]⟩
  unfold vfR
  rw [if_neg (by rcases hF with rfl | rfl <;> decide), if_neg (by rw [hlen]; omega), if_neg (by rw [hd.2]; rintro ⟨-, q⟩; cases q)]
  have hfn : ∀ k, 0 < k → k < r + 1 → fnB ((pbR b (r + 1) 0).map PB.a) ((0 + k * szC b : Nat) : Int) = ((0 + k : Nat) : Int) := fun k k0 k1 => by
    rw [fnB_at (pbR_srt b (r + 1) 0) (pbR_at b (r + 1) 0 k k1), Nat.zero_add]
  obtain ⟨l1, l2⟩ := lk_chain b _ (r + 1) 0 0 hfn
  have hvp : vfP (chR b (r + 1)) = pbL b (r + 1) 0 0 := by unfold vfP; rw [hG]; exact l1
  have hlk : lkR ((pbR b (r + 1) 0).map PB.a) (pbR b (r + 1) 0) = (0, 0) := by unfold lkR; rw [l2]
  have hLl : (pbL b (r + 1) 0 0).length = r + 1 := by rw [← l1, List.length_map, pbR_len]
  have hus : usR (pbL b (r + 1) 0 0) = (0, 0) := by
    unfold usR mkA mk0
    rw [hLl]
    have := us_chain b (r + 1) 0 0
    rw [show r + 1 - 1 = r by omega] at this
    have e : (List.replicate (r + 1) false).set 0 true = List.replicate (0 + 1) true ++ List.replicate r false := by rw [List.replicate_succ]; rfl
    rw [e, this, ix_true, if_neg (by decide)]
  unfold vfB
  rw [hG, hvp]
  dsimp only
  rw [if_neg (by decide), hlk, hus]
  dsimp only
  rw [if_neg (by decide), if_neg (by decide)]
  unfold msR
  rw [hLl]
  have hm := ms_chain F b hb (r + 1) 0 0 (List.replicate (r + 1) (0, 0)) (by simp [List.getD_eq_getElem?_getD]) (fun i hi => by
    rw [List.getD_eq_getElem?_getD, List.getElem?_replicate]; split <;> rfl) (by simp) (by simp) (by simp)
  rw [Nat.zero_add] at hm
  exact hm
end Go.Proofs.Ytfpagbmnpfoghab
namespace Go.Proofs.Ytfpagbmnpfoghab
open Go.RowKit
set_option linter.unusedSimpArgs false
set_option linter.unusedVariables false

theorem and255 (n : Nat) (h : n < 4294967296) : bits .and .u32 (n : Int) 255 = ((n % 256 : Nat) : Int) := by
  have e : (255 : Int) = uI 255#32 := lit32 255 (by decide)
  have h1 : (n : Int) = uI (BitVec.ofNat 32 n) := lit32 n h
  rw [e, h1, and32, uI_eq, BitVec.toNat_and, BitVec.toNat_ofNat, BitVec.toNat_ofNat]
  have h2 : n &&& 255 = n % 256 := Nat.and_two_pow_sub_one_eq_mod n 8
  have h3 : (2 : Nat) ^ 32 = 4294967296 := by decide
  rw [h3, Nat.mod_eq_of_lt h, show 255 % 4294967296 = 255 from rfl, h2]
theorem pop_at (b : Nat) (h : b < 256) : Lib.pop8 (b : Int) = ((bsN 8 b : Nat) : Int) := by
  rw [Lib.pop8_eq ⟨b, h⟩, ones8 b h]
set_option maxRecDepth 100000 in
set_option maxHeartbeats 8000000 in
theorem onesCount_any (x : BitVec 32) (w : World) :
    Calls Try.prog 74 #[.int .u32 (uI x)] w fun e w' => e = .returned (.int .i64 ((on32 x : Nat) : Int)) ∧ Below w.heap.size w w' := by
  have hx := x.isLt
  rw [uI_eq]
  unfold on32
  generalize x.toNat = n at hx
  have hs := bs32 n hx
  obtain ⟨N, hN⟩ : ∃ N : Int, N = (n : Int) := ⟨_, rfl⟩
  obtain ⟨b3, h3⟩ : ∃ b : Int, b = ((n / 16777216 : Nat) : Int) := ⟨_, rfl⟩
  obtain ⟨b2, h2⟩ : ∃ b : Int, b = ((n / 65536 % 256 : Nat) : Int) := ⟨_, rfl⟩
  obtain ⟨b1, h1⟩ : ∃ b : Int, b = ((n / 256 % 256 : Nat) : Int) := ⟨_, rfl⟩
  obtain ⟨b0, h0⟩ : ∃ b : Int, b = ((n % 256 : Nat) : Int) := ⟨_, rfl⟩
  obtain ⟨q3, e3⟩ : ∃ q : Int, q = ((bsN 8 (n / 16777216) : Nat) : Int) := ⟨_, rfl⟩
  obtain ⟨q2, e2⟩ : ∃ q : Int, q = ((bsN 8 (n / 65536 % 256) : Nat) : Int) := ⟨_, rfl⟩
  obtain ⟨q1, e1⟩ : ∃ q : Int, q = ((bsN 8 (n / 256 % 256) : Nat) : Int) := ⟨_, rfl⟩
  obtain ⟨q0, e0⟩ : ∃ q : Int, q = ((bsN 8 (n % 256) : Nat) : Int) := ⟨_, rfl⟩
  have l3 := bsN_le 8 (n / 16777216)
  have l2 := bsN_le 8 (n / 65536 % 256)
  have l1 := bsN_le 8 (n / 256 % 256)
  have l0 := bsN_le 8 (n % 256)
  have f3 : N / 16777216 = b3 := by rw [h3, hN]; omega
  have f2 : bits .and .u32 (N / 65536) 255 = b2 := by rw [h2, hN, show (n : Int) / 65536 = ((n / 65536 : Nat) : Int) by omega, and255 _ (by omega)]
  have f1 : bits .and .u32 (N / 256) 255 = b1 := by rw [h1, hN, show (n : Int) / 256 = ((n / 256 : Nat) : Int) by omega, and255 _ (by omega)]
  have f0 : bits .and .u32 N 255 = b0 := by rw [h0, hN, and255 _ (by omega)]
  have p3 : Lib.pop8 b3 = q3 := by rw [h3, e3]; exact pop_at _ (by omega)
  have p2 : Lib.pop8 b2 = q2 := by rw [h2, e2]; exact pop_at _ (by omega)
  have p1 : Lib.pop8 b1 = q1 := by rw [h1, e1]; exact pop_at _ (by omega)
  have p0 : Lib.pop8 b0 = q0 := by rw [h0, e0]; exact pop_at _ (by omega)
  have HE : Hid (q3 + q2 + q1 + q0 = ((bsN 32 n : Nat) : Int)) := by show _ = _; omega
  have B3 : 0 ≤ b3 ∧ b3 ≤ 255 := by omega
  have B2 : 0 ≤ b2 ∧ b2 ≤ 255 := by omega
  have B1 : 0 ≤ b1 ∧ b1 ≤ 255 := by omega
  have B0 : 0 ≤ b0 ∧ b0 ≤ 255 := by omega
  have Q3 : 0 ≤ q3 ∧ q3 ≤ 8 := by omega
  have Q2 : 0 ≤ q2 ∧ q2 ≤ 8 := by omega
  have Q1 : 0 ≤ q1 ∧ q1 ≤ 8 := by omega
  have Q0 : 0 ≤ q0 ∧ q0 ≤ 8 := by omega
  rw [← hN, ← HE.out]
  clear hs hN h3 h2 h1 h0 e3 e2 e1 e0 l3 l2 l1 l0 hx HE
  obtain ⟨B3a, B3b⟩ := B3
  obtain ⟨B2a, B2b⟩ := B2
  obtain ⟨B1a, B1b⟩ := B1
  obtain ⟨B0a, B0b⟩ := B0
  obtain ⟨Q3a, Q3b⟩ := Q3
  obtain ⟨Q2a, Q2b⟩ := Q2
  obtain ⟨Q1a, Q1b⟩ := Q1
  obtain ⟨Q0a, Q0b⟩ := Q0
  go_enter Try.func74, Try.ntmps74
  go_wp2_with fail
  go_quiet (fail)
  have HB : Hid (Below w.heap.size w (w.drewN nq)) := below_drewN (Below.refl _ _) nq
  go_wp2
  go_ret
  exact ⟨rfl, HB.out⟩
theorem sumW_le (U : List (BitVec 32)) : ∀ a, sumW U a ≤ 32 * a
  | 0 => Nat.le_refl _
  | a + 1 => by
    have h1 := sumW_le U a
    have h2 := bsN_le 32 (U.getD a 0#32).toNat
    simp only [sumW]
    unfold on32
    omega
set_option maxRecDepth 100000 in
set_option maxHeartbeats 8000000 in
theorem ones_any (v : Value) (U : List (BitVec 32)) (w : World) (hv : RwX cU w v U) (hl : U.length ≤ 100000000000000) :
    Calls Try.prog 71 #[v] w fun e w' => e = .returned (.int .i64 ((sumW U U.length : Nat) : Int)) ∧ Below w.heap.size w w' := by
  obtain ⟨ao, cc, rfl, -, hv⟩ := hv
  have HV := hid13 hv
  have HL := hid13 hl
  have HB := hid13 (Below.refl w.heap.size w)
  clear hv hl
  go_enter Try.func71, Try.ntmps71
  go_wp2_with fail
  go_loopg [3, 5, 8] U.length (fun g n x i wr => ∃ k m : Nat, k + g = U.length ∧ i = .int .i64 (k : Int) ∧ n = .int .i64 (m : Int) ∧ Hid (m = sumW U k) ∧ Hid (Below w.heap.size w wr))
  case atStart => exact ⟨0, 0, by omega, rfl, rfl, rfl, HB⟩
  case round =>
    clear HB
    obtain ⟨k, m, hk, rfl, rfl, HM, HB⟩ := hrel
    by_cases hlt : k < U.length
    · have hli : (k : Int) < (U.length : Int) := by omega
      obtain ⟨bo, off, rfl, hc1⟩ : ∃ bo off, ao = some ⟨bo, off, none⟩ ∧ ∀ j x, U[j]? = some x → w.cell? ⟨bo, off + j, none⟩ = some (cU x) := by
        rcases HV.out with h | h
        · rw [h] at hlt; simp at hlt
        · exact h
      obtain ⟨x, hx⟩ : ∃ x, U[k]? = some x := ⟨U[k], by simp [hlt]⟩
      have r1 : wr.cell? ⟨bo, off + k, none⟩ = some (.int .u32 (uI x)) := keepc HB.out (hc1 k x hx)
      have mk : IntKind.i64.wrap ((k : Int) + 1) = (k : Int) + 1 := by have := HL.out; rw [IntKind.wrap_i64]; omega
      have hon := bsN_le 32 x.toNat
      have hsm := sumW_le U k
      obtain ⟨o, ho⟩ : ∃ o, o = on32 x := ⟨_, rfl⟩
      have HE : Hid (m + o = sumW U (k + 1)) := by
        show _ = _
        simp only [sumW]
        rw [List.getD_eq_getElem?_getD, hx, Option.getD_some, ← ho, HM.out]
      have ms : IntKind.i64.wrap ((m : Int) + (o : Int)) = (m : Int) + (o : Int) := by
        have h1 := HM.out
        have h2 := HL.out
        unfold on32 at ho
        rw [IntKind.wrap_i64]; omega
      have HK : Hid (k + gk = U.length ∧ k < U.length) := ⟨hk, hlt⟩
      have KO := fun W => onesCount_any x W
      rw [← ho] at KO
      clear hc1 hx hk hon hsm HM ho
      go_wp2_with (go_at_call 74; refine (KO _).mono ?_; rintro e w1 ⟨rfl, hb1⟩; have HB1 := hid13 (keepb hb1 HB.out); clear hb1)
      go_roundg (gk - 1)
      case measure => have := HK.out; omega
      case rel => exact ⟨k + 1, m + o, by have := HK.out; omega, rfl, rfl, HE, HB1⟩
    · have hli : ¬ (k : Int) < (U.length : Int) := by omega
      obtain rfl : k = U.length := by omega
      go_wp2_with fail
      go_ret
      exact ⟨by rw [← HM.out]; rfl, HB.out⟩
end Go.Proofs.Ytfpagbmnpfoghab
namespace Go.Proofs.Ytfpagbmnpfoghab
open Go.RowKit
set_option linter.unusedSimpArgs false
set_option linter.unusedVariables false

theorem own_typed18 {W : World} {base e size n : Nat} {v : Value} {xs : List Value} (h : W.ownsRow base e size v n xs) (z : Nat) (hz : v.ownBlock = some z) : ∃ cs, W.heap[z]? = some (.cells cs e) := by
  rcases h.2 with ⟨e0, _⟩ | ⟨g, cap, cur, e0, hb, hg, rest⟩
  · rw [e0] at hz; cases hz
  · rw [e0] at hz
    have q : g = z := by simpa [Value.ownBlock] using hz
    subst q
    exact ⟨_, hg⟩
theorem own_not18 {W : World} {base e size n : Nat} {v : Value} {xs : List Value} (h : W.ownsRow base e size v n xs) {z : Nat} {cs : Array Value} {T : TypeId} {fr : Nat × Nat} (hz : W.heap[z]? = some (.cells cs T fr)) (he : e ≠ T) : v.ownBlock ≠ some z := by
  intro q
  obtain ⟨cs', h2⟩ := own_typed18 h z q
  rw [h2] at hz
  injection hz with hz
  injection hz with _ h2 _
  exact he h2
theorem own_keep18 {W W' : World} {base e size n : Nat} {v : Value} {xs : List Value} (h : W.ownsRow base e size v n xs) (he : ∀ g, v.ownBlock = some g → W'.heap[g]? = W.heap[g]?) : W'.ownsRow base e size v n xs := by
  refine ⟨h.1, ?_⟩
  rcases h.2 with hn | ⟨g, cap, cur, rfl, hb, hg, rest⟩
  · exact .inl hn
  · exact .inr ⟨g, cap, cur, rfl, hb, by rw [he g rfl]; exact hg, rest⟩
theorem own_put3 {W : World} {base e size n B : Nat} {v : Value} {xs : List Value} (h : W.ownsRow base e size v n xs) (hv : v.ownBlock ≠ some B) (u0 u1 u2 : Value) : (((W.setCell ⟨B, 0, none⟩ u0).setCell ⟨B, 1, none⟩ u1).setCell ⟨B, 2, none⟩ u2).ownsRow base e size v n xs :=
  own_keep18 h (fun g e => (far_16 (fun q => hv (by rw [← q]; exact e))).trans ((far_16 (fun q => hv (by rw [← q]; exact e))).trans (far_16 (fun q => hv (by rw [← q]; exact e)))))
theorem gh_same18 {x y : Array Value} {d e f s : Nat} (h : ((x.toList.set e undef).set f undef).eraseIdx d = ((y.toList.set e undef).set f undef).eraseIdx d) (hs : s ≠ d) (ht : s ≠ e) (hu : s ≠ f) : x[s]? = y[s]? := by
  have := erase_get _ _ d s h hs
  rw [List.getElem?_set_ne (Ne.symm hu), List.getElem?_set_ne (Ne.symm hu), List.getElem?_set_ne (Ne.symm ht), List.getElem?_set_ne (Ne.symm ht)] at this
  simpa using this
end Go.Proofs.Ytfpagbmnpfoghab
