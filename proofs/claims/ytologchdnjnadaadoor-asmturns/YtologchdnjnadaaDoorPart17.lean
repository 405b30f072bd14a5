/-
  Part 17 of the proof: 3 texts, one behind the other.
-/
import Derived.Test.YtologchdnjnadaaDoorPart16
import Derived.Test.YtologchdnjnadaaDoorPart13
import Derived.Test.YtologchdnjnadaaDoorPart3
/-
  Plain: code's text, line by line.
-/
namespace Go.Proofs.YtologchdnjnadaaDoor
open Go.RowKit
set_option linter.unusedSimpArgs false
set_option linter.unusedVariables false

/-- The first line. -/
def fln : List UInt8 → List UInt8
  | [] => []
  | c :: t => if c = 10 then [] else c :: fln t
theorem fln_app : ∀ (X Z : List UInt8), (∀ c ∈ X, c ≠ 10) → (Z = [] ∨ ∃ Z', Z = 10 :: Z') → fln (X ++ Z) = X
  | [], Z, _, h => by rcases h with rfl | ⟨Z', rfl⟩ <;> rfl
  | c :: X, Z, hX, h => by
    show (if c = 10 then [] else c :: fln (X ++ Z)) = _
    rw [if_neg (hX c List.mem_cons_self), fln_app X Z (fun x hx => hX x (List.mem_cons_of_mem _ hx)) h]
theorem fln_split : ∀ (L : List UInt8), ∃ X Z, L = X ++ Z ∧ (∀ c ∈ X, c ≠ 10) ∧ (Z = [] ∨ ∃ Z', Z = 10 :: Z')
  | [] => ⟨[], [], rfl, by simp, .inl rfl⟩
  | c :: L => by
    by_cases q : c = 10
    · exact ⟨[], c :: L, rfl, by simp, .inr ⟨L, by rw [q]⟩⟩
    · obtain ⟨X, Z, rfl, h1, h2⟩ := fln_split L
      refine ⟨c :: X, Z, rfl, fun x hx => ?_, h2⟩
      rcases List.mem_cons.1 hx with rfl | hx
      · exact q
      · exact h1 x hx
/-- The bytes, the error, how many lines stand ahead of the faulty one. -/
def pdC : Nat → List UInt8 → List Nat × Int × Nat
  | 0, _ => ([], 0, 0)
  | f + 1, L => if L = [] then ([], 0, 0) else if (lineD (fln L)).1 = 0 then
      (if (pdC f (L.drop ((fln L).length + 1))).2.1 = 0 then ((lineD (fln L)).2 ++ (pdC f (L.drop ((fln L).length + 1))).1, 0, 0) else ([], (pdC f (L.drop ((fln L).length + 1))).2.1, (pdC f (L.drop ((fln L).length + 1))).2.2 + 1))
      else ([], (lineD (fln L)).1, 0)
theorem pdC_succ (f : Nat) (L : List UInt8) : pdC (f + 1) L = if L = [] then ([], 0, 0) else if (lineD (fln L)).1 = 0 then
      (if (pdC f (L.drop ((fln L).length + 1))).2.1 = 0 then ((lineD (fln L)).2 ++ (pdC f (L.drop ((fln L).length + 1))).1, 0, 0) else ([], (pdC f (L.drop ((fln L).length + 1))).2.1, (pdC f (L.drop ((fln L).length + 1))).2.2 + 1))
      else ([], (lineD (fln L)).1, 0) := rfl
def pdO (q : List Nat × Int × Nat) (ln : Nat) (acc : List Nat) : PaR := if q.2.1 = 0 then (acc ++ q.1, 0, 0, 0) else ([], q.2.1, ((ln + q.2.2 : Nat) : Int), 1)
theorem pa_pd : ∀ (f : Nat) (L : List UInt8) (ln : Nat) (acc : List Nat), paR f L ln acc = pdO (pdC f L) ln acc
  | 0, L, ln, acc => by unfold pdO; simp [paR, pdC]
  | f + 1, L, ln, acc => by
    by_cases hL : L = []
    · rw [paR_end hL, pdC_succ, if_pos hL]; unfold pdO; simp
    · obtain ⟨X, Z, rfl, hX, hZ⟩ := fln_split L
      obtain ⟨h1, h2, h3⟩ := line_eq hZ X hX
      have hf := fln_app X Z hX hZ
      rw [pdC_succ, if_neg hL, hf]
      by_cases he : (lineD X).1 = 0
      · rw [if_pos he, paR_go hL (by rw [h1]; exact he), h2, h3 (by rw [h1]; exact he), pa_pd f]
        unfold pdO
        by_cases hr : (pdC f ((X ++ Z).drop (X.length + 1))).2.1 = 0
        · rw [if_pos hr, if_pos hr, if_pos rfl, List.append_assoc]
        · rw [if_neg hr, if_neg hr, if_neg hr]
          generalize pdC f ((X ++ Z).drop (X.length + 1)) = q
          show (([] : List Nat), q.2.1, ((ln + 1 + q.2.2 : Nat) : Int), (1 : Int)) = ([], q.2.1, ((ln + (q.2.2 + 1) : Nat) : Int), 1)
          rw [show ln + 1 + q.2.2 = ln + (q.2.2 + 1) by omega]
      · rw [if_neg he, paR_no hL (by rw [h1]; exact he), h1]
        unfold pdO
        rw [if_neg he]
        simp
theorem pdC_fuel : ∀ (f g : Nat) (L : List UInt8), L.length < f → L.length < g → pdC f L = pdC g L
  | 0, g, L, h, _ => by omega
  | f + 1, 0, L, _, h => by omega
  | f + 1, g + 1, L, hf, hg => by
    rw [pdC_succ, pdC_succ]
    by_cases hL : L = []
    · rw [if_pos hL, if_pos hL]
    · have : 0 < L.length := List.length_pos_iff.2 hL
      rw [pdC_fuel f g (L.drop ((fln L).length + 1)) (by rw [List.length_drop]; omega) (by rw [List.length_drop]; omega)]
def pd (L : List UInt8) : List Nat × Int × Nat := pdC (L.length + 1) L
theorem paP_pd (L : List UInt8) : paP L = pdO (pd L) 1 [] := by unfold paP pd; exact pa_pd _ _ _ _
theorem pd_nil : pd [] = ([], 0, 0) := rfl
def pdS (q : Int × List Nat) (r : List Nat × Int × Nat) : List Nat × Int × Nat := if q.1 = 0 then (if r.2.1 = 0 then (q.2 ++ r.1, 0, 0) else ([], r.2.1, r.2.2 + 1)) else ([], q.1, 0)
theorem pd_line (X S : List UInt8) (hX : ∀ c ∈ X, c ≠ 10) : pd (X ++ 10 :: S) = pdS (lineD X) (pd S) := by
  unfold pd pdS
  rw [pdC_succ, if_neg (by simp), fln_app X (10 :: S) hX (.inr ⟨S, rfl⟩)]
  have e : (X ++ 10 :: S).drop (X.length + 1) = S := by
    rw [show X ++ 10 :: S = (X ++ [10]) ++ S by simp, show X.length + 1 = (X ++ [10]).length by simp]
    exact drop_end _ _
  rw [e, pdC_fuel (X ++ 10 :: S).length (S.length + 1) S (by simp; omega) (by omega)]
theorem pd_last (X : List UInt8) (hX : ∀ c ∈ X, c ≠ 10) (h0 : X ≠ []) : pd X = pdS (lineD X) ([], 0, 0) := by
  unfold pd pdS
  rw [pdC_succ, if_neg h0]
  have hf := fln_app X [] hX (.inl rfl)
  rw [List.append_nil] at hf
  rw [hf]
  have e : X.drop (X.length + 1) = [] := by simp
  rw [e]
  have : pdC X.length [] = ([], 0, 0) := by cases X.length <;> rfl
  rw [this]
/-- How many line's ends. -/
def cnt10 (L : List UInt8) : Nat := L.countP (· == 10)
/-- Whole lines. -/
inductive Whl : List UInt8 → Prop
  | nil : Whl []
  | line (X S : List UInt8) : (∀ c ∈ X, c ≠ 10) → Whl S → Whl (X ++ 10 :: S)
theorem whl_of : ∀ (n : Nat) (S : List UInt8), S.length ≤ n → (S = [] ∨ S.getLast? = some 10) → Whl S
  | n, S, hn, h => by
    obtain ⟨X, Z, rfl, hX, hZ⟩ := fln_split S
    rcases hZ with rfl | ⟨Z', rfl⟩
    · rw [List.append_nil] at h
      rcases h with rfl | h
      · exact .nil
      · exfalso
        exact hX 10 (List.mem_of_getLast? h) rfl
    · match n, hn with
      | 0, hn => simp at hn
      | n + 1, hn =>
        refine .line X Z' hX (whl_of n Z' (by simp at hn; omega) ?_)
        rcases h with h | h
        · simp at h
        · by_cases hz : Z' = []
          · exact .inl hz
          · right
            rw [List.getLast?_append, List.getLast?_cons_of_ne_nil hz] at h
            cases hq : Z'.getLast? with
            | none => exact absurd (List.getLast?_eq_none_iff.1 hq) hz
            | some c => rw [hq] at h; exact h
theorem cnt_line (X S : List UInt8) (hX : ∀ c ∈ X, c ≠ 10) : cnt10 (X ++ 10 :: S) = cnt10 S + 1 := by
  unfold cnt10
  rw [List.countP_append, List.countP_cons]
  have : X.countP (· == 10) = 0 := List.countP_eq_zero.2 (fun c hc => by simpa using hX c hc)
  rw [this]
  simp
theorem pd_cat {S : List UInt8} (hS : Whl S) (T : List UInt8) : pd (S ++ T) = if (pd S).2.1 = 0 then (if (pd T).2.1 = 0 then ((pd S).1 ++ (pd T).1, 0, 0) else ([], (pd T).2.1, cnt10 S + (pd T).2.2)) else ([], (pd S).2.1, (pd S).2.2) := by
  induction hS with
  | nil =>
    rw [List.nil_append, pd_nil, if_pos rfl]
    by_cases h : (pd T).2.1 = 0
    · rw [if_pos h]
      have h2 : ∀ (f : Nat) (L : List UInt8), (pdC f L).2.1 = 0 → (pdC f L).2.2 = 0 := by
        intro f
        induction f with
        | zero => intro L _; rfl
        | succ f ih =>
          intro L
          rw [pdC_succ]
          split
          · intro _; rfl
          · split
            · split
              · intro _; rfl
              · intro q; exact absurd q (by assumption)
            · intro q; exact absurd q (by assumption)
      have h3 := h2 _ _ h
      show pd T = (_, 0, 0)
      rw [List.nil_append, ← h, ← h3]
      have h4 : (pd T).2.2 = (pd T).2.1.toNat := by rw [h]; exact h3
      exact Prod.ext rfl (Prod.ext rfl (by simp [pd, h3]))
    · rw [if_neg h]
      have : cnt10 [] = 0 := rfl
      rw [this, Nat.zero_add]
      have h2 : ∀ (f : Nat) (L : List UInt8), (pdC f L).2.1 ≠ 0 → (pdC f L).1 = [] := by
        intro f
        cases f with
        | zero => intro L q; exact absurd rfl q
        | succ f =>
          intro L
          rw [pdC_succ]
          split
          · intro q; exact absurd rfl q
          · split
            · split
              · intro q; exact absurd rfl q
              · intro _; rfl
            · intro _; rfl
      exact Prod.ext (h2 _ _ h) rfl
  | line X S hX hS ih =>
    rw [List.append_assoc, List.cons_append, pd_line _ _ hX, pd_line _ _ hX, ih, cnt_line _ _ hX]
    unfold pdS
    by_cases h1 : (lineD X).1 = 0
    · simp only [if_pos h1]
      by_cases h2 : (pd S).2.1 = 0
      · simp only [if_pos h2, if_true]
        by_cases h3 : (pd T).2.1 = 0
        · simp only [if_pos h3, if_true, List.append_assoc]
        · simp only [if_neg h3]
          congr 2
          omega
      · simp only [if_neg h2]
    · simp only [if_neg h1]
end Go.Proofs.YtologchdnjnadaaDoor
/-
  Plain: what is read of code's text: bytes, how many, of two texts.
-/
namespace Go.Proofs.YtologchdnjnadaaDoor
open Go.RowKit
set_option linter.unusedSimpArgs false
set_option linter.unusedVariables false

theorem fr0 (s : ByteArray) : fr s 0 = s.data.toList := rfl
theorem fr0_app (s t : ByteArray) : fr (s ++ t) 0 = fr s 0 ++ fr t 0 := by rw [fr0, fr0, fr0]; simp
theorem bsA_app (a b : List Nat) : bsA (a ++ b) = bsA a ++ bsA b := by
  unfold bsA
  apply ByteArray.ext
  simp
theorem bsA_size (a : List Nat) : (bsA a).size = a.length := by unfold bsA; show ((a.map UInt8.ofNat).toArray).size = _; simp
theorem hxP_bd : ∀ (f v : Nat) (L : List UInt8) (r : Nat), hxP f v L = some r → r < (v + 1) * 16 ^ f
  | 0, v, _, r, h => by injection h with h; subst h; simp
  | f + 1, v, [], r, h => by cases h
  | f + 1, v, c :: L, r, h => by
    have h' : (match hxV c with | some d => hxP f (v * 16 + d) L | none => none) = some r := h
    cases hc : hxV c with
    | none => rw [hc] at h'; cases h'
    | some d =>
      rw [hc] at h'
      have h1 := hxP_bd f _ L r h'
      have h2 := hx_lt hc
      have h3 : (v * 16 + d + 1) * 16 ^ f ≤ (v * 16 + 16) * 16 ^ f := Nat.mul_le_mul_right _ (by omega)
      rw [Nat.pow_succ, show (v + 1) * (16 ^ f * 16) = (v * 16 + 16) * 16 ^ f by rw [Nat.mul_comm (16 ^ f) 16, ← Nat.mul_assoc]; congr 1; omega]
      omega
theorem hxP_lt {y : List UInt8} {v : Nat} (h : hxP 8 0 y = some v) : v < 4294967296 := by
  have := hxP_bd 8 0 y v h
  have e : (0 + 1) * 16 ^ 8 = 4294967296 := by decide
  omega
theorem pdC_ok : ∀ (f : Nat) (L : List UInt8), (∀ b ∈ (pdC f L).1, b < 256)
  | 0, L => by intro b hb; cases hb
  | f + 1, L => by
    have hen : ∀ (o n : Int) (m : List (BitVec 32)), ∀ b ∈ enL [] o n m, b < 256 := fun o n m b hb => by
      unfold enL at hb
      split at hb
      · rw [List.nil_append] at hb
        unfold wdB at hb
        obtain ⟨x, -, hx⟩ := List.mem_flatMap.1 hb
        have := x.isLt
        unfold by4 at hx
        simp only [List.mem_cons, List.mem_nil_iff, or_false] at hx
        omega
      · cases hb
    have hby : ∀ v, v < 4294967296 → ∀ b ∈ by4 v, b < 256 := fun v hv b hb => by
      unfold by4 at hb
      simp only [List.mem_cons, List.mem_nil_iff, or_false] at hb
      omega
    have hl : ∀ X, ∀ b ∈ (lineD X).2, b < 256 := fun X b hb => by
      unfold lineD at hb
      split at hb
      · rename_i a c r hs
        split at hb
        · split at hb
          · rename_i v hv
            split at hb
            · refine hby v ?_ b hb
              unfold wordD at hv
              split at hv
              · exact hxP_lt hv
              · cases hv
            · cases hb
          · cases hb
        · split at hb
          · cases hb
          · split at hb
            · cases hb
            · split at hb
              · cases hb
              · split at hb
                · cases hb
                · exact hen _ _ _ b hb
      · cases hb
    intro b hb
    rw [pdC_succ] at hb
    split at hb
    · cases hb
    · split at hb
      · split at hb
        · rcases List.mem_append.1 hb with hb | hb
          · exact hl _ b hb
          · exact pdC_ok f _ b hb
        · cases hb
      · cases hb
theorem paP_ok (L : List UInt8) : ∀ b ∈ (paP L).1, b < 256 := by
  intro b hb
  rw [paP_pd] at hb
  unfold pdO at hb
  split at hb
  · rw [List.nil_append] at hb; exact pdC_ok _ _ b hb
  · cases hb
theorem pd_len {L : List UInt8} : ∀ (f : Nat), (pdC f L).2.2 ≤ L.length := by
  intro f
  induction f generalizing L with
  | zero => exact Nat.zero_le _
  | succ f ih =>
    rw [pdC_succ]
    split
    · exact Nat.zero_le _
    · split
      · split
        · exact Nat.zero_le _
        · rename_i h _ _
          have := ih (L := L.drop ((fln L).length + 1))
          rw [List.length_drop] at this
          have : 0 < L.length := List.length_pos_iff.2 h
          simp only
          omega
      · exact Nat.zero_le _
theorem cnt_le (L : List UInt8) : cnt10 L ≤ L.length := List.countP_le_length
theorem pa_len (f : Nat) (L : List UInt8) : (pdC f L).1.length ≤ 2097156 * L.length := by
  induction f generalizing L with
  | zero => exact Nat.zero_le _
  | succ f ih =>
    rw [pdC_succ]
    split
    · exact Nat.zero_le _
    · rename_i hL
      split
      · split
        · obtain ⟨X, Z, rfl, hX, hZ⟩ := fln_split L
          have h1 := ih ((X ++ Z).drop ((fln (X ++ Z)).length + 1))
          have h2 := (line_eq hZ X hX).2.1
          have h3 := lnB_len (X ++ Z)
          rw [h2] at h3
          rw [fln_app X Z hX hZ] at h1 ⊢
          rw [List.length_drop] at h1
          have : 0 < (X ++ Z).length := List.length_pos_iff.2 hL
          simp only [List.length_append] at h1 h3 this ⊢
          have h4 : 2097156 * (X.length + Z.length - (X.length + 1)) + 2097156 ≤ 2097156 * (X.length + Z.length) := by omega
          omega
        · exact Nat.zero_le _
      · exact Nat.zero_le _
theorem pd_zero : ∀ (f : Nat) (L : List UInt8), (pdC f L).2.1 ≠ 0 → (pdC f L).1 = []
  | 0, L, q => absurd rfl q
  | f + 1, L, q => by
    revert q
    rw [pdC_succ]
    split
    · intro q; exact absurd rfl q
    · split
      · split
        · intro q; exact absurd rfl q
        · intro _; rfl
      · intro _; rfl
/-- Both texts, and both together. -/
theorem lines_case {S : List UInt8} (hS : Whl S) (T : List UInt8) (A1 A2 A3 : List Nat) (E1 L1 C1 E2 L2 C2 E3 L3 C3 : Int) (h1 : paP S = (A1, E1, L1, C1)) (h2 : paP T = (A2, E2, L2, C2)) (h3 : paP (S ++ T) = (A3, E3, L3, C3)) :
    (E1 ≠ 0 ∧ A1 = [] ∧ A3 = [] ∧ E3 = E1 ∧ L3 = L1 ∧ C3 = C1) ∨ (E1 = 0 ∧ L1 = 0 ∧ C1 = 0 ∧ E2 ≠ 0 ∧ A3 = [] ∧ E3 = E2 ∧ L3 = L2 + (cnt10 S : Int) ∧ C3 = C2 ∧ 0 ≤ L2 ∧ L2 ≤ 1 + (T.length : Int)) ∨ (E1 = 0 ∧ L1 = 0 ∧ C1 = 0 ∧ E2 = 0 ∧ L2 = 0 ∧ C2 = 0 ∧ E3 = 0 ∧ L3 = 0 ∧ C3 = 0 ∧ A3 = A1 ++ A2) := by
  rw [paP_pd] at h1 h2 h3
  rw [pd_cat hS] at h3
  unfold pdO at h1 h2 h3
  by_cases e1 : (pd S).2.1 = 0
  · rw [if_pos e1] at h1 h3
    injection h1 with a1 b1; injection b1 with b1 c1; injection c1 with c1 d1
    by_cases e2 : (pd T).2.1 = 0
    · simp only [if_pos e2] at h2 h3
      injection h2 with a2 b2; injection b2 with b2 c2; injection c2 with c2 d2
      injection h3 with a3 b3; injection b3 with b3 c3; injection c3 with c3 d3
      refine .inr (.inr ⟨b1.symm, c1.symm, d1.symm, b2.symm, c2.symm, d2.symm, b3.symm, c3.symm, d3.symm, ?_⟩)
      rw [← a3, ← a1, ← a2]; simp
    · simp only [if_neg e2] at h2 h3
      injection h2 with a2 b2; injection b2 with b2 c2; injection c2 with c2 d2
      injection h3 with a3 b3; injection b3 with b3 c3; injection c3 with c3 d3
      have hd := pd_len (L := T) (T.length + 1)
      have hd' : (pd T).2.2 ≤ T.length := hd
      refine .inr (.inl ⟨b1.symm, c1.symm, d1.symm, by rw [← b2]; exact e2, a3.symm, by rw [← b3, ← b2], by rw [← c3, ← c2]; push_cast; omega, by rw [← d3, ← d2], by rw [← c2]; omega, by rw [← c2]; push_cast; omega⟩)
  · simp only [if_neg e1] at h1 h3
    injection h1 with a1 b1; injection b1 with b1 c1; injection c1 with c1 d1
    injection h3 with a3 b3; injection b3 with b3 c3; injection c3 with c3 d3
    exact .inl ⟨by rw [← b1]; exact e1, a1.symm, a3.symm, by rw [← b3, ← b1], by rw [← c3, ← c1], by rw [← d3, ← d1]⟩
theorem paP_len (L : List UInt8) : (paP L).1.length ≤ 2097156 * L.length := by
  rw [paP_pd]
  unfold pdO
  split
  · rw [List.nil_append]; exact pa_len _ _
  · simp
end Go.Proofs.YtologchdnjnadaaDoor
/-
  The document's Parse.
-/
namespace Go.Proofs.YtologchdnjnadaaDoor
open Go.RowKit
set_option linter.unusedSimpArgs false
set_option linter.unusedVariables false

theorem pdO_ok {q : Int × List Nat} {r : List Nat × Int × Nat} {ln : Nat} {acc : List Nat} (h : q.1 = 0) : pdO (pdS q r) ln acc = pdO r (ln + 1) (acc ++ q.2) := by
  unfold pdS
  rw [if_pos h]
  unfold pdO
  by_cases hr : r.2.1 = 0
  · rw [if_pos hr, if_pos hr]; simp
  · rw [if_neg hr, if_neg hr]
    simp only
    rw [if_neg hr, show ln + (r.2.2 + 1) = ln + 1 + r.2.2 by omega]
theorem pdO_no {q : Int × List Nat} {r : List Nat × Int × Nat} {ln : Nat} {acc : List Nat} (h : q.1 ≠ 0) : pdO (pdS q r) ln acc = ([], q.1, (ln : Int), 1) := by
  unfold pdS
  rw [if_neg h]
  unfold pdO
  simp only
  rw [if_neg h, Nat.add_zero]
theorem pdO_nil (ln : Nat) (acc : List Nat) : pdO ([], 0, 0) ln acc = (acc, 0, 0, 0) := by unfold pdO; simp
theorem lineD_len (X : List UInt8) (hX : ∀ c ∈ X, c ≠ 10) : (lineD X).2.length ≤ 2097156 := by
  obtain ⟨-, h2, -⟩ := line_eq (Z := []) (.inl rfl) X hX
  rw [← h2]; exact lnB_len _
/-- What is known ahead of a round. -/
def PdS (s : ByteArray) (i a ln : Nat) (A : List Nat) (res : PaR) : Prop :=
  (i ≤ s.size ∧ a ≤ i ∧ (∀ c ∈ (fr s a).take (i - a), c ≠ 10) ∧ pdO (pd (fr s a)) ln A = res) ∨ (i = s.size + 1 ∧ res = (A, 0, 0, 0))
def PdN (s : ByteArray) (i ln : Nat) (A : List Nat) (res : PaR) (q : Int × List Nat) : Prop :=
  (q.1 = 0 → PdS s (i + 1) (i + 1) (ln + 1) (A ++ q.2) res) ∧ (q.1 ≠ 0 → res = ([], q.1, (ln : Int), 1)) ∧ q.2.length ≤ 2097156
section
variable {s : ByteArray} {i a ln : Nat} {A : List Nat} {res : PaR}
theorem PdS.from (h : PdS s i a ln A res) (hi : i ≤ s.size) : a ≤ i := by
  rcases h with ⟨-, h2, -⟩ | ⟨h1, -⟩
  · exact h2
  · omega
theorem PdS.line (h : PdS s i a ln A res) (hi : i < s.size) (hb : byteAt s i = 10) : PdN s i ln A res (lineD (fr (s.extract a i) 0)) := by
  rcases h with ⟨h1, h2, h3, h4⟩ | ⟨h1, -⟩
  · obtain ⟨c, e1, e2⟩ := fr_cons hi
    have hc : c = 10 := UInt8.toNat_inj.1 (by have : (10 : UInt8).toNat = 10 := rfl; omega)
    subst hc
    rw [fr_sub s a i (by omega)]
    rw [take_blank h2 e1, pd_line _ _ h3] at h4
    refine ⟨fun hz => .inl ⟨by omega, Nat.le_refl _, by simp, ?_⟩, fun hz => ?_, lineD_len _ h3⟩
    · rw [← h4, pdO_ok hz]
    · rw [← h4, pdO_no hz]
  · omega
theorem PdS.last (h : PdS s i a ln A res) (hi : i = s.size) (ha : a ≠ i) : PdN s i ln A res (lineD (fr (s.extract a i) 0)) := by
  subst hi
  rcases h with ⟨h1, h2, h3, h4⟩ | ⟨h1, -⟩
  · have e : (fr s a).take (s.size - a) = fr s a := by rw [← fr_len]; exact List.take_length
    rw [fr_sub s a s.size (Nat.le_refl _)]
    have hl := lineD_len _ h3
    rw [e] at h3 hl ⊢
    rw [pd_last _ h3 (fun q => by have := fr_len s a; rw [q] at this; simp at this; omega)] at h4
    refine ⟨fun hz => .inr ⟨rfl, ?_⟩, fun hz => ?_, hl⟩
    · rw [← h4, pdO_ok hz, pdO_nil]
    · rw [← h4, pdO_no hz]
  · omega
theorem PdS.skip (h : PdS s i a ln A res) (hi : i < s.size) (hb : ¬ byteAt s i = 10) : PdS s (i + 1) a ln A res := by
  rcases h with ⟨h1, h2, h3, h4⟩ | ⟨h1, -⟩
  · obtain ⟨c, e1, e2⟩ := fr_cons hi
    refine .inl ⟨by omega, by omega, fun x hx => ?_, h4⟩
    rw [take_next h2 e1] at hx
    rcases List.mem_append.1 hx with hx | hx
    · exact h3 x hx
    · rw [List.mem_singleton] at hx
      subst hx
      rintro rfl
      exact hb e2
  · omega
theorem PdS.none (h : PdS s i a ln A res) (hi : i = s.size) (ha : a = i) : PdS s (i + 1) a ln A res := by
  rcases h with ⟨h1, h2, h3, h4⟩ | ⟨h1, -⟩
  · refine .inr ⟨by omega, ?_⟩
    have e : fr s a = [] := List.eq_nil_of_length_eq_zero (by rw [fr_len]; omega)
    rw [← h4, e, pd_nil, pdO_nil]
  · omega
end
/-- The memory: the fault's cell, what is laid. -/
structure PqM (w : World) (lv : Value) (A : List Nat) (W : World) : Prop where
  f : W.heap[w.heap.size]? = some (.cells #[.int .i64 0, .int .i64 0, .int .i64 0] 31)
  m : W.ownsRow w.heap.size 5 1 lv A.length (A.map cB)
  b : Below w.heap.size w W
section
variable {w W W' : World} {lv : Value} {A : List Nat}
theorem PqM.x0 (h : PqM w lv A W) : lv.ownBlock ≠ some w.heap.size := Lib.ownBlock_ne h.m h.f (by decide)
theorem PqM.below (h : PqM w lv A W) (hb : Below W.heap.size W W') : PqM w lv A W' :=
  ⟨by rw [hb.block _ (lt_b15 h.f)]; exact h.f, own_b13 hb h.m, keepb hb h.b⟩
theorem PqM.app {v' : Value} {X : List Nat} (h : PqM w lv A W) (hg : W.grownBy W' lv.ownBlock) (ho : W'.ownsRow w.heap.size 5 1 v' (A ++ X).length ((A ++ X).map cB)) : PqM w v' (A ++ X) W' :=
  ⟨by rw [hg.block _ (lt_b15 h.f) (fun e => h.x0 e.symm)]; exact h.f, ho, h.b.grown hg h.b.size (fun z e => (h.m.lt z e).1)⟩
end
set_option maxHeartbeats 8000000 in
set_option maxRecDepth 20000 in
theorem rdparse_any (s : ByteArray) (w : World) (hs : s.size ≤ 1000000) :
    Calls Tryd.prog 12 #[.string s] w fun e w' => ∃ v', e = .returned (.tuple #[v', .agg #[.int .i64 (paP (fr s 0)).2.1, .int .i64 (paP (fr s 0)).2.2.1, .int .i64 (paP (fr s 0)).2.2.2]]) ∧ w'.ownsRow w.heap.size 5 1 v' (paP (fr s 0)).1.length ((paP (fr s 0)).1.map cB) ∧ Below w.heap.size w w' := by
  obtain ⟨i0, hi, hz0, hz1, hz2⟩ := info13 Tryd.infoB13
  obtain ⟨res, hres⟩ : ∃ res, res = paP (fr s 0) := ⟨_, rfl⟩
  rw [← hres]
  have q1 := bl1 w (.cells #[.int .i64 0, .int .i64 0, .int .i64 0] 31)
  have HM0 : Hid (PqM w (.slice none 0 0) [] (w.alloc (.cells #[.int .i64 0, .int .i64 0, .int .i64 0] 31))) := hid13 ⟨Array.getElem?_push_size, World.ownsRow_nil _ _ _ _, q1⟩
  have HE0 : Hid (PdS s 0 0 1 [] res) := hid13 (.inl ⟨Nat.zero_le _, Nat.le_refl _, by simp, by rw [hres, paP_pd]⟩)
  have HSZ := hid13 hs
  clear q1 hs hres
  go_enter Tryd.func12, Tryd.ntmps12
  go_wp2
  go_loopg [4, 5, 6, 7, 8, 9] (s.size + 1) (fun g x4 x5 x6 x7 x8 x9 wr => ∃ (i a ln : Nat) (A : List Nat) (ao : Option Addr) (ac : Nat), i + g = s.size + 1 ∧ x4 = .slice ao A.length ac ∧ x5 = .int .i64 (ln : Int) ∧ x6 = .int .i64 (a : Int) ∧ x7 = .int .i64 (i : Int) ∧ Hid (PqM w (.slice ao A.length ac) A wr ∧ PdS s i a ln A res ∧ ln ≤ i + 1 ∧ A.length ≤ 2097156 * ln))
  case atStart => exact ⟨0, 0, 1, [], none, 0, by omega, rfl, rfl, rfl, rfl, hid13 ⟨HM0.out, HE0.out, by omega, by simp⟩⟩
  case round =>
    clear HM0 HE0
    obtain ⟨i, a, ln, A, ao, ac, hj, rfl, rfl, rfl, rfl, HS⟩ := hrel
    have mi : IntKind.i64.wrap ((i : Int) + 1) = (i : Int) + 1 := by rw [IntKind.wrap_i64]; have := HSZ.out; omega
    have mn : IntKind.i64.wrap ((ln : Int) + 1) = (ln : Int) + 1 := by rw [IntKind.wrap_i64]; have := HSZ.out; have := HS.out.2.2.1; omega
    by_cases hle : i ≤ s.size
    · have hli : (i : Int) ≤ (s.size : Int) := by omega
      have haii : (a : Int) ≤ (i : Int) := by have := HS.out.2.1.from hle; omega
      have HJ : Hid (i + gk = s.size + 1 ∧ i ≤ s.size ∧ a ≤ i ∧ ln ≤ i + 1 ∧ A.length ≤ 2097156 * ln) := ⟨hj, hle, HS.out.2.1.from hle, HS.out.2.2⟩
      by_cases he : i = s.size
      · have hlti : ¬ (i : Int) < (s.size : Int) := by omega
        have hes : ((i : Int) == (s.size : Int)) = true := by simp; omega
        by_cases hae : a = i
        · have hea : ((a : Int) == (i : Int)) = true := by simp; omega
          have HN := hid13 (HS.out.2.1.none he hae)
          have HM := hid13 HS.out.1
          clear hj hle HS hae he
          go_wp2
          go_roundg (gk - 1)
          case measure => have := HJ.out; omega
          case rel => exact ⟨i + 1, a, ln, A, ao, ac, by have := HJ.out; omega, rfl, rfl, rfl, rfl, hid13 ⟨HM.out, HN.out, by have := HJ.out; omega, HJ.out.2.2.2.2⟩⟩
        · have hea : ((a : Int) == (i : Int)) = false := by rw [beq_eq_false_iff_ne]; omega
          have HN := hid13 (HS.out.2.1.last he hae)
          clear hae he hle hj
          have KL := rdline_any (s.extract a i) wr (by rw [ByteArray.size_extract]; have := HSZ.out; omega)
          have HM := hid13 HS.out.1
          clear HS
          generalize lineD (fr (s.extract a i) 0) = q at *
          obtain ⟨e0, B⟩ := q
          simp only at KL HN
          by_cases hz : e0 = 0
          · subst hz
            have HG := hid13 (HN.out.1 rfl)
            have HB : Hid (B.length ≤ 2097156) := hid13 HN.out.2.2
            clear HN
            go_wp2_with fail
            refine KL.mono ?_
            rintro e w1 ⟨v', rfl, ho, hb1⟩
            have HM1 := hid13 (HM.out.below hb1)
            have HO := hid13 ho
            obtain ⟨bo, bc, hv⟩ := own_form ho
            subst hv
            have H47 : Hid (A.length + B.length ≤ maxLen ∧ (A.length + B.length) * 1 ≤ 140737488355328) := ⟨by unfold maxLen; have := HJ.out; have := HSZ.out; have := HB.out; omega, by have := HJ.out; have := HSZ.out; have := HB.out; omega⟩
            clear KL ho hb1 HM
            go_wp2_with (at_builtin; apply stopHere9)
            refine (show wpList _ _ _ _ _ _ from ?_)
            refine wpList_append_rowA rfl _ _ 22 rfl w.heap.size 5 i0 (.int .u8 0) 1 1 Tryd.underlying22 hi hz0 hz1 hz2 rfl (by decide) _ _ _ rfl HM1.out.m (.slice bo B.length bc) B.length (B.map cB) rfl (own_rowA HO.out) (cB_one B) H47.out.1 H47.out.2 HM1.out.b.size ?_
            intro ao3 cap3 w3 hown3 hgrow
            have HM3 := hid13 (HM1.out.app (X := B) hgrow (by rw [List.map_append, List.length_append]; exact hown3))
            clear hown3 hgrow HM1 H47 HO
            go_wp2
            go_roundg (gk - 1)
            case measure => have := HJ.out; omega
            case rel => exact ⟨i + 1, i + 1, ln + 1, A ++ B, _, _, by have := HJ.out; omega, by rw [List.length_append], rfl, rfl, rfl, hid13 ⟨by simpa using HM3.out, HG.out, by have := HJ.out; omega, by have := HJ.out; have := HB.out; rw [List.length_append]; omega⟩⟩
          · have HR : Hid (res = ([], e0, (ln : Int), 1)) := hid13 (HN.out.2.1 hz)
            have he1 : (e0 == 0) = false := by rw [beq_eq_false_iff_ne]; exact hz
            clear hz HN
            go_wp2_with fail
            refine KL.mono ?_
            rintro e w1 ⟨v', rfl, ho, hb1⟩
            have HM1 := hid13 (HM.out.below hb1)
            have c0 := at_b15 HM1.out.f 0 _ rfl
            have c1 := at_b15 HM1.out.f 1 _ rfl
            have c2 := at_b15 HM1.out.f 2 _ rfl
            have f0 := fr_b15 (j := 0) HM1.out.f
            have f1 := fr_b15 (j := 1) HM1.out.f
            have f2 := fr_b15 (j := 2) HM1.out.f
            clear KL ho hb1 HM
            go_wp2
            exact bodyPost_ret (v := .tuple #[.slice none 0 0, .agg #[.int .i64 e0, .int .i64 (ln : Int), .int .i64 1]]) (by simp [results, Tryd.results12, go_sem, c0, c1, c2]) rfl ⟨_, by rw [HR.out], by rw [HR.out]; exact World.ownsRow_nil _ _ _ _, bset3i HM1.out.b (Nat.le_refl _) _ _ _⟩
      · have hlt : i < s.size := by omega
        have hlti : (i : Int) < (s.size : Int) := by omega
        have hne : ((i : Int) == (s.size : Int)) = false := by rw [beq_eq_false_iff_ne]; omega
        have hb := byteAt_in s i hlt
        by_cases hc : byteAt s i = 10
        · have HN := hid13 (HS.out.2.1.line hlt hc)
          rw [hc] at hb
          clear hj hle hc he
          have KL := rdline_any (s.extract a i) wr (by rw [ByteArray.size_extract]; have := HSZ.out; omega)
          have HM := hid13 HS.out.1
          clear HS
          generalize lineD (fr (s.extract a i) 0) = q at *
          obtain ⟨e0, B⟩ := q
          simp only at KL HN
          by_cases hz : e0 = 0
          · subst hz
            have HG := hid13 (HN.out.1 rfl)
            have HB : Hid (B.length ≤ 2097156) := hid13 HN.out.2.2
            clear HN
            go_wp2_with fail
            refine KL.mono ?_
            rintro e w1 ⟨v', rfl, ho, hb1⟩
            have HM1 := hid13 (HM.out.below hb1)
            have HO := hid13 ho
            obtain ⟨bo, bc, hv⟩ := own_form ho
            subst hv
            have H47 : Hid (A.length + B.length ≤ maxLen ∧ (A.length + B.length) * 1 ≤ 140737488355328) := ⟨by unfold maxLen; have := HJ.out; have := HSZ.out; have := HB.out; omega, by have := HJ.out; have := HSZ.out; have := HB.out; omega⟩
            clear KL ho hb1 HM
            go_wp2_with (at_builtin; apply stopHere9)
            refine (show wpList _ _ _ _ _ _ from ?_)
            refine wpList_append_rowA rfl _ _ 22 rfl w.heap.size 5 i0 (.int .u8 0) 1 1 Tryd.underlying22 hi hz0 hz1 hz2 rfl (by decide) _ _ _ rfl HM1.out.m (.slice bo B.length bc) B.length (B.map cB) rfl (own_rowA HO.out) (cB_one B) H47.out.1 H47.out.2 HM1.out.b.size ?_
            intro ao3 cap3 w3 hown3 hgrow
            have HM3 := hid13 (HM1.out.app (X := B) hgrow (by rw [List.map_append, List.length_append]; exact hown3))
            clear hown3 hgrow HM1 H47 HO
            go_wp2
            go_roundg (gk - 1)
            case measure => have := HJ.out; omega
            case rel => exact ⟨i + 1, i + 1, ln + 1, A ++ B, _, _, by have := HJ.out; omega, by rw [List.length_append], rfl, rfl, rfl, hid13 ⟨by simpa using HM3.out, HG.out, by have := HJ.out; omega, by have := HJ.out; have := HB.out; rw [List.length_append]; omega⟩⟩
          · have HR : Hid (res = ([], e0, (ln : Int), 1)) := hid13 (HN.out.2.1 hz)
            have he1 : (e0 == 0) = false := by rw [beq_eq_false_iff_ne]; exact hz
            clear hz HN
            go_wp2_with fail
            refine KL.mono ?_
            rintro e w1 ⟨v', rfl, ho, hb1⟩
            have HM1 := hid13 (HM.out.below hb1)
            have c0 := at_b15 HM1.out.f 0 _ rfl
            have c1 := at_b15 HM1.out.f 1 _ rfl
            have c2 := at_b15 HM1.out.f 2 _ rfl
            have f0 := fr_b15 (j := 0) HM1.out.f
            have f1 := fr_b15 (j := 1) HM1.out.f
            have f2 := fr_b15 (j := 2) HM1.out.f
            clear KL ho hb1 HM
            go_wp2
            exact bodyPost_ret (v := .tuple #[.slice none 0 0, .agg #[.int .i64 e0, .int .i64 (ln : Int), .int .i64 1]]) (by simp [results, Tryd.results12, go_sem, c0, c1, c2]) rfl ⟨_, by rw [HR.out], by rw [HR.out]; exact World.ownsRow_nil _ _ _ _, bset3i HM1.out.b (Nat.le_refl _) _ _ _⟩
        · have HN := hid13 (HS.out.2.1.skip hlt hc)
          have hc2 : (byteAt s i == 10) = false := by rw [beq_eq_false_iff_ne]; exact hc
          have hc3 : (byteAt s i != 10) = true := by simpa using hc
          have HM := hid13 HS.out.1
          generalize byteAt s i = bb at *
          clear hj hle HS hc he
          go_wp2
          go_roundg (gk - 1)
          case measure => have := HJ.out; omega
          case rel => exact ⟨i + 1, a, ln, A, ao, ac, by have := HJ.out; omega, rfl, rfl, rfl, rfl, hid13 ⟨HM.out, HN.out, by have := HJ.out; omega, HJ.out.2.2.2.2⟩⟩
    · have hli : ¬ (i : Int) ≤ (s.size : Int) := by omega
      have HR : Hid (res = (A, 0, 0, 0)) := hid13 (by
        rcases HS.out.2.1 with ⟨h, -⟩ | ⟨-, h⟩
        · exact absurd h hle
        · exact h)
      have c0 := at_b15 HS.out.1.f 0 _ rfl
      have c1 := at_b15 HS.out.1.f 1 _ rfl
      have c2 := at_b15 HS.out.1.f 2 _ rfl
      have f0 := fr_b15 (j := 0) HS.out.1.f
      have f1 := fr_b15 (j := 1) HS.out.1.f
      have f2 := fr_b15 (j := 2) HS.out.1.f
      have HO : Hid ((((wr.setCell ⟨w.heap.size, 0, none⟩ (.int .i64 0)).setCell ⟨w.heap.size, 1, none⟩ (.int .i64 0)).setCell ⟨w.heap.size, 2, none⟩ (.int .i64 0)).ownsRow w.heap.size 5 1 (.slice ao A.length ac) A.length (A.map cB)) := hid13 (own_set15 (own_set15 (own_set15 HS.out.1.m HS.out.1.x0) HS.out.1.x0) HS.out.1.x0)
      clear hle hj
      go_wp2
      exact bodyPost_ret (v := .tuple #[.slice ao A.length ac, .agg #[.int .i64 0, .int .i64 0, .int .i64 0]]) (by simp [results, Tryd.results12, go_sem, c0, c1, c2]) rfl ⟨_, by rw [HR.out], by rw [HR.out]; exact HO.out, bset3i HS.out.1.b (Nat.le_refl _) _ _ _⟩
end Go.Proofs.YtologchdnjnadaaDoor
