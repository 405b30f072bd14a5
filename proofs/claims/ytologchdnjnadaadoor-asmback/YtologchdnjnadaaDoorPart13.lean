/-
  Part 13 of the proof: 4 texts, one behind the other.
-/
import Derived.Test.YtologchdnjnadaaDoorPart11
import Derived.Test.YtologchdnjnadaaDoorPart12
import Derived.Test.YtologchdnjnadaaDoorPart3
import Derived.Shelf.Strings.Builder1
import Derived.Lib.OthersKept
/-
  Plain: code's text, line by line.
-/
namespace Go.Proofs.YtologchdnjnadaaDoor
open Go.RowKit
set_option linter.unusedSimpArgs false
set_option linter.unusedVariables false

/-- The first line. -/
def fln : List UInt8 → List UInt8
  | [] => []
  | c :: t => if c = 10 then [] else c :: fln t
theorem fln_app : ∀ (X Z : List UInt8), (∀ c ∈ X, c ≠ 10) → (Z = [] ∨ ∃ Z', Z = 10 :: Z') → fln (X ++ Z) = X
  | [], Z, _, h => by rcases h with rfl | ⟨Z', rfl⟩ <;> rfl
  | c :: X, Z, hX, h => by
    show (if c = 10 then [] else c :: fln (X ++ Z)) = _
    rw [if_neg (hX c List.mem_cons_self), fln_app X Z (fun x hx => hX x (List.mem_cons_of_mem _ hx)) h]
theorem fln_split : ∀ (L : List UInt8), ∃ X Z, L = X ++ Z ∧ (∀ c ∈ X, c ≠ 10) ∧ (Z = [] ∨ ∃ Z', Z = 10 :: Z')
  | [] => ⟨[], [], rfl, by simp, .inl rfl⟩
  | c :: L => by
    by_cases q : c = 10
    · exact ⟨[], c :: L, rfl, by simp, .inr ⟨L, by rw [q]⟩⟩
    · obtain ⟨X, Z, rfl, h1, h2⟩ := fln_split L
      refine ⟨c :: X, Z, rfl, fun x hx => ?_, h2⟩
      rcases List.mem_cons.1 hx with rfl | hx
      · exact q
      · exact h1 x hx
/-- The bytes, the error, how many lines stand ahead of the faulty one. -/
def pdC : Nat → List UInt8 → List Nat × Int × Nat
  | 0, _ => ([], 0, 0)
  | f + 1, L => if L = [] then ([], 0, 0) else if (lineD (fln L)).1 = 0 then
      (if (pdC f (L.drop ((fln L).length + 1))).2.1 = 0 then ((lineD (fln L)).2 ++ (pdC f (L.drop ((fln L).length + 1))).1, 0, 0) else ([], (pdC f (L.drop ((fln L).length + 1))).2.1, (pdC f (L.drop ((fln L).length + 1))).2.2 + 1))
      else ([], (lineD (fln L)).1, 0)
theorem pdC_succ (f : Nat) (L : List UInt8) : pdC (f + 1) L = if L = [] then ([], 0, 0) else if (lineD (fln L)).1 = 0 then
      (if (pdC f (L.drop ((fln L).length + 1))).2.1 = 0 then ((lineD (fln L)).2 ++ (pdC f (L.drop ((fln L).length + 1))).1, 0, 0) else ([], (pdC f (L.drop ((fln L).length + 1))).2.1, (pdC f (L.drop ((fln L).length + 1))).2.2 + 1))
      else ([], (lineD (fln L)).1, 0) := rfl
def pdO (q : List Nat × Int × Nat) (ln : Nat) (acc : List Nat) : PaR := if q.2.1 = 0 then (acc ++ q.1, 0, 0, 0) else ([], q.2.1, ((ln + q.2.2 : Nat) : Int), 1)
theorem pa_pd : ∀ (f : Nat) (L : List UInt8) (ln : Nat) (acc : List Nat), paR f L ln acc = pdO (pdC f L) ln acc
  | 0, L, ln, acc => by unfold pdO; simp [paR, pdC]
  | f + 1, L, ln, acc => by
    by_cases hL : L = []
    · rw [paR_end hL, pdC_succ, if_pos hL]; unfold pdO; simp
    · obtain ⟨X, Z, rfl, hX, hZ⟩ := fln_split L
      obtain ⟨h1, h2, h3⟩ := line_eq hZ X hX
      have hf := fln_app X Z hX hZ
      rw [pdC_succ, if_neg hL, hf]
      by_cases he : (lineD X).1 = 0
      · rw [if_pos he, paR_go hL (by rw [h1]; exact he), h2, h3 (by rw [h1]; exact he), pa_pd f]
        unfold pdO
        by_cases hr : (pdC f ((X ++ Z).drop (X.length + 1))).2.1 = 0
        · rw [if_pos hr, if_pos hr, if_pos rfl, List.append_assoc]
        · rw [if_neg hr, if_neg hr, if_neg hr]
          generalize pdC f ((X ++ Z).drop (X.length + 1)) = q
          show (([] : List Nat), q.2.1, ((ln + 1 + q.2.2 : Nat) : Int), (1 : Int)) = ([], q.2.1, ((ln + (q.2.2 + 1) : Nat) : Int), 1)
          rw [show ln + 1 + q.2.2 = ln + (q.2.2 + 1) by omega]
      · rw [if_neg he, paR_no hL (by rw [h1]; exact he), h1]
        unfold pdO
        rw [if_neg he]
        simp
theorem pdC_fuel : ∀ (f g : Nat) (L : List UInt8), L.length < f → L.length < g → pdC f L = pdC g L
  | 0, g, L, h, _ => by omega
  | f + 1, 0, L, _, h => by omega
  | f + 1, g + 1, L, hf, hg => by
    rw [pdC_succ, pdC_succ]
    by_cases hL : L = []
    · rw [if_pos hL, if_pos hL]
    · have : 0 < L.length := List.length_pos_iff.2 hL
      rw [pdC_fuel f g (L.drop ((fln L).length + 1)) (by rw [List.length_drop]; omega) (by rw [List.length_drop]; omega)]
def pd (L : List UInt8) : List Nat × Int × Nat := pdC (L.length + 1) L
theorem paP_pd (L : List UInt8) : paP L = pdO (pd L) 1 [] := by unfold paP pd; exact pa_pd _ _ _ _
theorem pd_nil : pd [] = ([], 0, 0) := rfl
def pdS (q : Int × List Nat) (r : List Nat × Int × Nat) : List Nat × Int × Nat := if q.1 = 0 then (if r.2.1 = 0 then (q.2 ++ r.1, 0, 0) else ([], r.2.1, r.2.2 + 1)) else ([], q.1, 0)
theorem pd_line (X S : List UInt8) (hX : ∀ c ∈ X, c ≠ 10) : pd (X ++ 10 :: S) = pdS (lineD X) (pd S) := by
  unfold pd pdS
  rw [pdC_succ, if_neg (by simp), fln_app X (10 :: S) hX (.inr ⟨S, rfl⟩)]
  have e : (X ++ 10 :: S).drop (X.length + 1) = S := by
    rw [show X ++ 10 :: S = (X ++ [10]) ++ S by simp, show X.length + 1 = (X ++ [10]).length by simp]
    exact drop_end _ _
  rw [e, pdC_fuel (X ++ 10 :: S).length (S.length + 1) S (by simp; omega) (by omega)]
theorem pd_last (X : List UInt8) (hX : ∀ c ∈ X, c ≠ 10) (h0 : X ≠ []) : pd X = pdS (lineD X) ([], 0, 0) := by
  unfold pd pdS
  rw [pdC_succ, if_neg h0]
  have hf := fln_app X [] hX (.inl rfl)
  rw [List.append_nil] at hf
  rw [hf]
  have e : X.drop (X.length + 1) = [] := by simp
  rw [e]
  have : pdC X.length [] = ([], 0, 0) := by cases X.length <;> rfl
  rw [this]
/-- How many line's ends. -/
def cnt10 (L : List UInt8) : Nat := L.countP (· == 10)
/-- Whole lines. -/
inductive Whl : List UInt8 → Prop
  | nil : Whl []
  | line (X S : List UInt8) : (∀ c ∈ X, c ≠ 10) → Whl S → Whl (X ++ 10 :: S)
theorem whl_of : ∀ (n : Nat) (S : List UInt8), S.length ≤ n → (S = [] ∨ S.getLast? = some 10) → Whl S
  | n, S, hn, h => by
    obtain ⟨X, Z, rfl, hX, hZ⟩ := fln_split S
    rcases hZ with rfl | ⟨Z', rfl⟩
    · rw [List.append_nil] at h
      rcases h with rfl | h
      · exact .nil
      · exfalso
        exact hX 10 (List.mem_of_getLast? h) rfl
    · match n, hn with
      | 0, hn => simp at hn
      | n + 1, hn =>
        refine .line X Z' hX (whl_of n Z' (by simp at hn; omega) ?_)
        rcases h with h | h
        · simp at h
        · by_cases hz : Z' = []
          · exact .inl hz
          · right
            rw [List.getLast?_append, List.getLast?_cons_of_ne_nil hz] at h
            cases hq : Z'.getLast? with
            | none => exact absurd (List.getLast?_eq_none_iff.1 hq) hz
            | some c => rw [hq] at h; exact h
theorem cnt_line (X S : List UInt8) (hX : ∀ c ∈ X, c ≠ 10) : cnt10 (X ++ 10 :: S) = cnt10 S + 1 := by
  unfold cnt10
  rw [List.countP_append, List.countP_cons]
  have : X.countP (· == 10) = 0 := List.countP_eq_zero.2 (fun c hc => by simpa using hX c hc)
  rw [this]
  simp
theorem pd_cat {S : List UInt8} (hS : Whl S) (T : List UInt8) : pd (S ++ T) = if (pd S).2.1 = 0 then (if (pd T).2.1 = 0 then ((pd S).1 ++ (pd T).1, 0, 0) else ([], (pd T).2.1, cnt10 S + (pd T).2.2)) else ([], (pd S).2.1, (pd S).2.2) := by
  induction hS with
  | nil =>
    rw [List.nil_append, pd_nil, if_pos rfl]
    by_cases h : (pd T).2.1 = 0
    · rw [if_pos h]
      have h2 : ∀ (f : Nat) (L : List UInt8), (pdC f L).2.1 = 0 → (pdC f L).2.2 = 0 := by
        intro f
        induction f with
        | zero => intro L _; rfl
        | succ f ih =>
          intro L
          rw [pdC_succ]
          split
          · intro _; rfl
          · split
            · split
              · intro _; rfl
              · intro q; exact absurd q (by assumption)
            · intro q; exact absurd q (by assumption)
      have h3 := h2 _ _ h
      show pd T = (_, 0, 0)
      rw [List.nil_append, ← h, ← h3]
      have h4 : (pd T).2.2 = (pd T).2.1.toNat := by rw [h]; exact h3
      exact Prod.ext rfl (Prod.ext rfl (by simp [pd, h3]))
    · rw [if_neg h]
      have : cnt10 [] = 0 := rfl
      rw [this, Nat.zero_add]
      have h2 : ∀ (f : Nat) (L : List UInt8), (pdC f L).2.1 ≠ 0 → (pdC f L).1 = [] := by
        intro f
        cases f with
        | zero => intro L q; exact absurd rfl q
        | succ f =>
          intro L
          rw [pdC_succ]
          split
          · intro q; exact absurd rfl q
          · split
            · split
              · intro q; exact absurd rfl q
              · intro _; rfl
            · intro _; rfl
      exact Prod.ext (h2 _ _ h) rfl
  | line X S hX hS ih =>
    rw [List.append_assoc, List.cons_append, pd_line _ _ hX, pd_line _ _ hX, ih, cnt_line _ _ hX]
    unfold pdS
    by_cases h1 : (lineD X).1 = 0
    · simp only [if_pos h1]
      by_cases h2 : (pd S).2.1 = 0
      · simp only [if_pos h2, if_true]
        by_cases h3 : (pd T).2.1 = 0
        · simp only [if_pos h3, if_true, List.append_assoc]
        · simp only [if_neg h3]
          congr 2
          omega
      · simp only [if_neg h2]
    · simp only [if_neg h1]
end Go.Proofs.YtologchdnjnadaaDoor
/-
  Plain: what is read of code's text: bytes, how many, of two texts.
-/
namespace Go.Proofs.YtologchdnjnadaaDoor
open Go.RowKit
set_option linter.unusedSimpArgs false
set_option linter.unusedVariables false

theorem fr0 (s : ByteArray) : fr s 0 = s.data.toList := rfl
theorem fr0_app (s t : ByteArray) : fr (s ++ t) 0 = fr s 0 ++ fr t 0 := by rw [fr0, fr0, fr0]; simp
theorem bsA_app (a b : List Nat) : bsA (a ++ b) = bsA a ++ bsA b := by
  unfold bsA
  apply ByteArray.ext
  simp
theorem bsA_size (a : List Nat) : (bsA a).size = a.length := by unfold bsA; show ((a.map UInt8.ofNat).toArray).size = _; simp
theorem hxP_bd : ∀ (f v : Nat) (L : List UInt8) (r : Nat), hxP f v L = some r → r < (v + 1) * 16 ^ f
  | 0, v, _, r, h => by injection h with h; subst h; simp
  | f + 1, v, [], r, h => by cases h
  | f + 1, v, c :: L, r, h => by
    have h' : (match hxV c with | some d => hxP f (v * 16 + d) L | none => none) = some r := h
    cases hc : hxV c with
    | none => rw [hc] at h'; cases h'
    | some d =>
      rw [hc] at h'
      have h1 := hxP_bd f _ L r h'
      have h2 := hx_lt hc
      have h3 : (v * 16 + d + 1) * 16 ^ f ≤ (v * 16 + 16) * 16 ^ f := Nat.mul_le_mul_right _ (by omega)
      rw [Nat.pow_succ, show (v + 1) * (16 ^ f * 16) = (v * 16 + 16) * 16 ^ f by rw [Nat.mul_comm (16 ^ f) 16, ← Nat.mul_assoc]; congr 1; omega]
      omega
theorem hxP_lt {y : List UInt8} {v : Nat} (h : hxP 8 0 y = some v) : v < 4294967296 := by
  have := hxP_bd 8 0 y v h
  have e : (0 + 1) * 16 ^ 8 = 4294967296 := by decide
  omega
theorem pdC_ok : ∀ (f : Nat) (L : List UInt8), (∀ b ∈ (pdC f L).1, b < 256)
  | 0, L => by intro b hb; cases hb
  | f + 1, L => by
    have hen : ∀ (o n : Int) (m : List (BitVec 32)), ∀ b ∈ enL [] o n m, b < 256 := fun o n m b hb => by
      unfold enL at hb
      split at hb
      · rw [List.nil_append] at hb
        unfold wdB at hb
        obtain ⟨x, -, hx⟩ := List.mem_flatMap.1 hb
        have := x.isLt
        unfold by4 at hx
        simp only [List.mem_cons, List.mem_nil_iff, or_false] at hx
        omega
      · cases hb
    have hby : ∀ v, v < 4294967296 → ∀ b ∈ by4 v, b < 256 := fun v hv b hb => by
      unfold by4 at hb
      simp only [List.mem_cons, List.mem_nil_iff, or_false] at hb
      omega
    have hl : ∀ X, ∀ b ∈ (lineD X).2, b < 256 := fun X b hb => by
      unfold lineD at hb
      split at hb
      · rename_i a c r hs
        split at hb
        · split at hb
          · rename_i v hv
            split at hb
            · refine hby v ?_ b hb
              unfold wordD at hv
              split at hv
              · exact hxP_lt hv
              · cases hv
            · cases hb
          · cases hb
        · split at hb
          · cases hb
          · split at hb
            · cases hb
            · split at hb
              · cases hb
              · split at hb
                · cases hb
                · exact hen _ _ _ b hb
      · cases hb
    intro b hb
    rw [pdC_succ] at hb
    split at hb
    · cases hb
    · split at hb
      · split at hb
        · rcases List.mem_append.1 hb with hb | hb
          · exact hl _ b hb
          · exact pdC_ok f _ b hb
        · cases hb
      · cases hb
theorem paP_ok (L : List UInt8) : ∀ b ∈ (paP L).1, b < 256 := by
  intro b hb
  rw [paP_pd] at hb
  unfold pdO at hb
  split at hb
  · rw [List.nil_append] at hb; exact pdC_ok _ _ b hb
  · cases hb
theorem pd_len {L : List UInt8} : ∀ (f : Nat), (pdC f L).2.2 ≤ L.length := by
  intro f
  induction f generalizing L with
  | zero => exact Nat.zero_le _
  | succ f ih =>
    rw [pdC_succ]
    split
    · exact Nat.zero_le _
    · split
      · split
        · exact Nat.zero_le _
        · rename_i h _ _
          have := ih (L := L.drop ((fln L).length + 1))
          rw [List.length_drop] at this
          have : 0 < L.length := List.length_pos_iff.2 h
          simp only
          omega
      · exact Nat.zero_le _
theorem cnt_le (L : List UInt8) : cnt10 L ≤ L.length := List.countP_le_length
theorem pa_len (f : Nat) (L : List UInt8) : (pdC f L).1.length ≤ 2097156 * L.length := by
  induction f generalizing L with
  | zero => exact Nat.zero_le _
  | succ f ih =>
    rw [pdC_succ]
    split
    · exact Nat.zero_le _
    · rename_i hL
      split
      · split
        · obtain ⟨X, Z, rfl, hX, hZ⟩ := fln_split L
          have h1 := ih ((X ++ Z).drop ((fln (X ++ Z)).length + 1))
          have h2 := (line_eq hZ X hX).2.1
          have h3 := lnB_len (X ++ Z)
          rw [h2] at h3
          rw [fln_app X Z hX hZ] at h1 ⊢
          rw [List.length_drop] at h1
          have : 0 < (X ++ Z).length := List.length_pos_iff.2 hL
          simp only [List.length_append] at h1 h3 this ⊢
          have h4 : 2097156 * (X.length + Z.length - (X.length + 1)) + 2097156 ≤ 2097156 * (X.length + Z.length) := by omega
          omega
        · exact Nat.zero_le _
      · exact Nat.zero_le _
theorem pd_zero : ∀ (f : Nat) (L : List UInt8), (pdC f L).2.1 ≠ 0 → (pdC f L).1 = []
  | 0, L, q => absurd rfl q
  | f + 1, L, q => by
    revert q
    rw [pdC_succ]
    split
    · intro q; exact absurd rfl q
    · split
      · split
        · intro q; exact absurd rfl q
        · intro _; rfl
      · intro _; rfl
/-- Both texts, and both together. -/
theorem lines_case {S : List UInt8} (hS : Whl S) (T : List UInt8) (A1 A2 A3 : List Nat) (E1 L1 C1 E2 L2 C2 E3 L3 C3 : Int) (h1 : paP S = (A1, E1, L1, C1)) (h2 : paP T = (A2, E2, L2, C2)) (h3 : paP (S ++ T) = (A3, E3, L3, C3)) :
    (E1 ≠ 0 ∧ A1 = [] ∧ A3 = [] ∧ E3 = E1 ∧ L3 = L1 ∧ C3 = C1) ∨ (E1 = 0 ∧ L1 = 0 ∧ C1 = 0 ∧ E2 ≠ 0 ∧ A3 = [] ∧ E3 = E2 ∧ L3 = L2 + (cnt10 S : Int) ∧ C3 = C2 ∧ 0 ≤ L2 ∧ L2 ≤ 1 + (T.length : Int)) ∨ (E1 = 0 ∧ L1 = 0 ∧ C1 = 0 ∧ E2 = 0 ∧ L2 = 0 ∧ C2 = 0 ∧ E3 = 0 ∧ L3 = 0 ∧ C3 = 0 ∧ A3 = A1 ++ A2) := by
  rw [paP_pd] at h1 h2 h3
  rw [pd_cat hS] at h3
  unfold pdO at h1 h2 h3
  by_cases e1 : (pd S).2.1 = 0
  · rw [if_pos e1] at h1 h3
    injection h1 with a1 b1; injection b1 with b1 c1; injection c1 with c1 d1
    by_cases e2 : (pd T).2.1 = 0
    · simp only [if_pos e2] at h2 h3
      injection h2 with a2 b2; injection b2 with b2 c2; injection c2 with c2 d2
      injection h3 with a3 b3; injection b3 with b3 c3; injection c3 with c3 d3
      refine .inr (.inr ⟨b1.symm, c1.symm, d1.symm, b2.symm, c2.symm, d2.symm, b3.symm, c3.symm, d3.symm, ?_⟩)
      rw [← a3, ← a1, ← a2]; simp
    · simp only [if_neg e2] at h2 h3
      injection h2 with a2 b2; injection b2 with b2 c2; injection c2 with c2 d2
      injection h3 with a3 b3; injection b3 with b3 c3; injection c3 with c3 d3
      have hd := pd_len (L := T) (T.length + 1)
      have hd' : (pd T).2.2 ≤ T.length := hd
      refine .inr (.inl ⟨b1.symm, c1.symm, d1.symm, by rw [← b2]; exact e2, a3.symm, by rw [← b3, ← b2], by rw [← c3, ← c2]; push_cast; omega, by rw [← d3, ← d2], by rw [← c2]; omega, by rw [← c2]; push_cast; omega⟩)
  · simp only [if_neg e1] at h1 h3
    injection h1 with a1 b1; injection b1 with b1 c1; injection c1 with c1 d1
    injection h3 with a3 b3; injection b3 with b3 c3; injection c3 with c3 d3
    exact .inl ⟨by rw [← b1]; exact e1, a1.symm, a3.symm, by rw [← b3, ← b1], by rw [← c3, ← c1], by rw [← d3, ← d1]⟩
theorem paP_len (L : List UInt8) : (paP L).1.length ≤ 2097156 * L.length := by
  rw [paP_pd]
  unfold pdO
  split
  · rw [List.nil_append]; exact pa_len _ _
  · simp
end Go.Proofs.YtologchdnjnadaaDoor
/-
  The library's Builder, as far as code's text is written with it: copyCheck, WriteByte, WriteString, String; what else lies in memory stays.
-/
namespace Go.Proofs.YtologchdnjnadaaDoor
open Go.RowKit
set_option linter.unusedSimpArgs false
set_option linter.unusedVariables false

abbrev TB : TypeId := 40
/-- A builder in a block of its own, all of it made from that block on. -/
abbrev IsB (b : Nat) (t : List UInt8) (w : World) : Prop := Lib.IsBuilder 40 5 b b (Lib.byteCells t) w
abbrev OKb (b : Nat) (w w' : World) : Prop := Below b w w' ∧ Lib.OthersKept 5 (some b) w w'
theorem OKb.trans {b : Nat} {w W X : World} (h : OKb b w W) (g : OKb b W X) : OKb b w X := ⟨⟨by rw [g.1.os, h.1.os], by rw [g.1.tape, h.1.tape], by rw [g.1.output, h.1.output], Nat.le_trans h.1.size g.1.size, fun z hz => by rw [g.1.block z hz, h.1.block z hz]⟩, h.2.trans g.2⟩
theorem OKb.refl (b : Nat) (w : World) : OKb b w w := ⟨Below.refl _ _, Lib.OthersKept.refl _ _ _⟩
theorem OKb.ofB {b : Nat} {w w' : World} (h : Below w.heap.size w w') (hb : b ≤ w.heap.size) : OKb b w w' := ⟨h.mono hb, fun z o hz _ _ => by rw [h.block z (lt_b15 hz)]; exact hz⟩
theorem Tryd.bx72 : (Tryd.prog.info? 40).map (·.size) = some 2 := by kernel_rfl
theorem Tryd.bxl : liesAt Tryd.prog Tryd.prog.depth 40 (2 / Tryd.prog.cellsOf 40) 0 40 1 = true := by kernel_rfl
set_option maxHeartbeats 1000000 in
set_option maxRecDepth 100000 in
theorem bcheck_used (b : Nat) (w : World) (h0 : w.cell? ⟨b, 0, none⟩ = some (.pointer (some ⟨b, 0, none⟩))) :
    Calls Tryd.prog 44 #[.pointer (some ⟨b, 0, none⟩)] w fun e w' => e = .returned (.tuple #[]) ∧ w' = w := by
  obtain ⟨j, hj, _⟩ := Option.map_eq_some_iff.1 Tryd.bx72
  go_enter Tryd.func44, Tryd.ntmps44
  go_wp2
  rw [Lib.run_neq_ptr_same w _ Tryd.underlying38 hj]
  go_wp2
  go_end0
  exact ⟨rfl, rfl⟩
set_option maxHeartbeats 1000000 in
set_option maxRecDepth 100000 in
theorem bcheck_fresh (b : Nat) (w : World) (h0 : w.cell? ⟨b, 0, none⟩ = some (.pointer none)) (hsh : w.shape? b = some (40, 2)) (hfz : w.frozen? ⟨b, 0, none⟩ = false) :
    Calls Tryd.prog 44 #[.pointer (some ⟨b, 0, none⟩)] w fun e w' => e = .returned (.tuple #[]) ∧ w' = w.setCell ⟨b, 0, none⟩ (.pointer (some ⟨b, 0, none⟩)) := by
  obtain ⟨j, hj, hjs⟩ := Option.map_eq_some_iff.1 Tryd.bx72
  go_enter Tryd.func44, Tryd.ntmps44
  go_wp2
  rw [Lib.run_to_unsafe w ⟨b, 0, none⟩ Tryd.underlying38 Tryd.underlying105 hj (by rw [hjs]; decide) hsh (Nat.zero_lt_succ 1)]
  simp only [Result.andThen]
  rw [Oper.upon_value]
  go_wp2
  rw [run_callFunc_extern Tryd.func59 (by kernel_rfl) (by kernel_rfl) (by kernel_rfl) (e := Extern.AbiNoEscape.same) (by kernel_rfl)]
  rw [Lib.run_noEscape]
  simp only [Result.andThen]
  rw [Oper.upon_value]
  go_wp2
  rw [Lib.run_from_unsafe w ⟨b, 0, none⟩ Tryd.underlying105 Tryd.underlying38 hj hsh Tryd.bxl]
  simp only [Result.andThen]
  rw [Oper.upon_value]
  go_wp2
  go_end0
  exact ⟨rfl, rfl⟩
theorem bcheck_any (b : Nat) (t : List UInt8) (w : World) (h : IsB b t w) :
    Calls Tryd.prog 44 #[.pointer (some ⟨b, 0, none⟩)] w fun e w' => e = .returned (.tuple #[]) ∧ Lib.BuilderAt 40 5 b b (.pointer (some ⟨b, 0, none⟩)) (Lib.byteCells t) w' ∧ OKb b w w' := by
  rcases h with h | h
  · refine (bcheck_fresh b w h.cell0 h.shape h.frozen0).mono ?_
    rintro e w' ⟨rfl, rfl⟩
    exact ⟨rfl, h.used _, (Below.refl b w).setCell (p := ⟨b, 0, none⟩) h.1 _, Lib.OthersKept.setCell (b := b) (Lib.OthersKept.refl _ _ _) ⟨b, 0, none⟩ rfl _⟩
  · refine (bcheck_used b w h.cell0).mono ?_
    rintro e w' ⟨rfl, rfl⟩
    exact ⟨rfl, h, OKb.refl _ _⟩
theorem own_isrow {w : World} {base e n g : Nat} {v : Value} {xs : List Value} (h : w.ownsRow base e 1 v n xs) (hg : v.ownBlock = some g) : ∃ c fz, w.heap[g]? = some (.cells c e fz) := by
  rcases h.2 with ⟨hv, _⟩ | ⟨g', cap, cur, hv, hh⟩
  · rw [hv] at hg; cases hg
  · rw [hv] at hg
    injection hg with hg
    subst hg
    exact ⟨_, _, hh.2.1⟩
theorem infoB15 : (Tryd.prog.info? 5).map (fun i => (i.zero, i.size, i.bytes)) = some (some (.int .u8 0), 1, 1) := by kernel_rfl
set_option maxHeartbeats 2000000 in
set_option maxRecDepth 100000 in
theorem wbyte_any (b : Nat) (t : List UInt8) (c : UInt8) (w : World) (h : IsB b t w) (hlen : t.length ≤ 100000000000) (hbw : b ≤ w.heap.size) :
    Calls Tryd.prog 27 #[.pointer (some ⟨b, 0, none⟩), .int .u8 (c.toNat : Int)] w fun e w' => e = .returned .nilIface ∧ IsB b (t ++ [c]) w' ∧ OKb b w w' := by
  obtain ⟨i0, hi, hz0, hz1, hz2⟩ := info13 infoB15
  have K := bcheck_any b t w h
  have hl : (Lib.byteCells t).length = t.length := by simp [Lib.byteCells]
  go_enter Tryd.func27, Tryd.ntmps27
  go_wp2_with fail
  refine K.mono ?_
  rintro e w1 ⟨rfl, h1, hb1⟩
  obtain ⟨hB, v, hbk, hown, hne⟩ := h1
  have c1 : w1.cell? ⟨b, 1, none⟩ = some v := by rw [Lib.cell_of_heap hbk]; rfl
  have hsz : w.heap.size ≤ w1.heap.size := hb1.1.size
  clear K h
  go_wp2_with (at_builtin; apply stopHere9)
  refine (show wpList _ _ _ _ _ _ from ?_)
  refine wpList_append_own _ rfl _ _ 22 rfl b 5 i0 (.int .u8 0) 1 1 Tryd.underlying22 hi hz0 hz1 hz2 rfl (by decide) _ _ _ rfl (hown.alloc _) ⟨w1.heap.size, 0, none⟩ 1 1 [.int .u8 (c.toNat : Int)] rfl rfl ?c1 ?c2 ?c3 ?c4 ?c5 ?_
  case c1 =>
    intro j u hj
    match j, hj with
    | 0, hj => simp at hj; subst hj; simp [Addr.add]
  case c2 => intro u hu; simp at hu; subst hu; rfl
  case c3 => unfold maxLen; omega
  case c4 => omega
  case c5 => simp; omega
  intro v' w2 hown' hgrow _
  have hlt : b < w1.heap.size := lt_b15 hbk
  have hb2 : w2.heap[b]? = some (.cells #[.pointer (some ⟨b, 0, none⟩), v] 40 (0, 0)) := by
    rw [hgrow.block b (by simp; omega) (fun e => hne e.symm), Lib.alloc_old w1 _ b hlt]
    exact hbk
  have d1 : w2.cell? ⟨b, 1, none⟩ = some v := by rw [Lib.cell_of_heap hb2]; rfl
  have f1 : w2.frozen? ⟨b, 1, none⟩ = false := Lib.frozen_of_heap hb2 1
  obtain ⟨ao, n', cap, rfl⟩ : ∃ ao n' cap, v' = .slice ao n' cap := by
    rcases hown'.2 with ⟨hv, _⟩ | ⟨g, cap, cur, hv, _⟩
    · exact ⟨_, _, _, hv⟩
    · exact ⟨_, _, _, hv⟩
  have HF : Hid (IsB b (t ++ [c]) (w2.setCell ⟨b, 1, none⟩ (.slice ao n' cap)) ∧ OKb b w (w2.setCell ⟨b, 1, none⟩ (.slice ao n' cap))) := hid13 ⟨.inr (by
      have := Lib.BuilderAt.put (T := 40) (e := 5) hB hb2 (v' := .slice ao n' cap) (bs' := Lib.byteCells t ++ [.int .u8 (c.toNat : Int)]) (by simpa using hown') (by decide)
      have e : Lib.byteCells (t ++ [c]) = Lib.byteCells t ++ [.int .u8 (c.toNat : Int)] := by simp [Lib.byteCells]
      rw [e]; exact this), hb1.trans ⟨((Below.refl b w1).alloc (by omega) _).grown hgrow (by simp; omega) (fun k hk => (hown.lt k hk).1) |>.setCell (p := ⟨b, 1, none⟩) hB _, Lib.OthersKept.setCell (b := b) (((Lib.OthersKept.refl _ _ _).alloc _).grown hgrow (fun g hg => own_isrow (hown.alloc _) hg)) ⟨b, 1, none⟩ rfl _⟩⟩
  clear hown' hgrow hb1 hown hb2 hbk
  go_wp2
  go_ret
  exact ⟨rfl, HF.out.1, HF.out.2⟩
set_option maxHeartbeats 2000000 in
set_option maxRecDepth 100000 in
theorem wstr_any (b : Nat) (t : List UInt8) (s : ByteArray) (w : World) (h : IsB b t w) (hlen : t.length + s.size ≤ 100000000000) (hbw : b ≤ w.heap.size) :
    Calls Tryd.prog 25 #[.pointer (some ⟨b, 0, none⟩), .string s] w fun e w' => e = .returned (.tuple #[.int .i64 s.size, .nilIface]) ∧ IsB b (t ++ s.data.toList) w' ∧ OKb b w w' := by
  obtain ⟨i0, hi, hz0, hz1, hz2⟩ := info13 infoB15
  have K := bcheck_any b t w h
  have hl : (Lib.byteCells t).length = t.length := by simp [Lib.byteCells]
  go_enter Tryd.func25, Tryd.ntmps25
  go_wp2_with fail
  refine K.mono ?_
  rintro e w1 ⟨rfl, h1, hb1⟩
  obtain ⟨hB, v, hbk, hown, hne⟩ := h1
  have c1 : w1.cell? ⟨b, 1, none⟩ = some v := by rw [Lib.cell_of_heap hbk]; rfl
  have hsz : w.heap.size ≤ w1.heap.size := hb1.1.size
  clear K h
  go_wp2_with (at_builtin; apply stopHere9)
  refine (show wpList _ _ _ _ _ _ from ?_)
  refine Lib.wpList_append_own_string _ rfl _ _ 22 9 rfl b 5 i0 Tryd.underlying22 Tryd.underlying9 hi hz0 hz1 hz2 _ _ _ rfl hown s rfl ?c3 ?c4 ?c5 ?_
  case c3 => unfold maxLen; omega
  case c4 => omega
  case c5 => omega
  intro v' w2 hown' hgrow _
  have hlt : b < w1.heap.size := lt_b15 hbk
  have hb2 : w2.heap[b]? = some (.cells #[.pointer (some ⟨b, 0, none⟩), v] 40 (0, 0)) := by
    rw [hgrow.block b hlt (fun e => hne e.symm)]
    exact hbk
  have d1 : w2.cell? ⟨b, 1, none⟩ = some v := by rw [Lib.cell_of_heap hb2]; rfl
  have f1 : w2.frozen? ⟨b, 1, none⟩ = false := Lib.frozen_of_heap hb2 1
  obtain ⟨ao, n', cap, rfl⟩ : ∃ ao n' cap, v' = .slice ao n' cap := by
    rcases hown'.2 with ⟨hv, _⟩ | ⟨g, cap, cur, hv, _⟩
    · exact ⟨_, _, _, hv⟩
    · exact ⟨_, _, _, hv⟩
  have HF : Hid (IsB b (t ++ s.data.toList) (w2.setCell ⟨b, 1, none⟩ (.slice ao n' cap)) ∧ OKb b w (w2.setCell ⟨b, 1, none⟩ (.slice ao n' cap))) := hid13 ⟨.inr (by
      have := Lib.BuilderAt.put (T := 40) (e := 5) hB hb2 (v' := .slice ao n' cap) (bs' := Lib.byteCells t ++ Lib.strCells s) (by simpa [Lib.strCells_length] using hown') (by decide)
      have e : Lib.byteCells (t ++ s.data.toList) = Lib.byteCells t ++ Lib.strCells s := by simp [Lib.byteCells, Lib.strCells]
      rw [e]; exact this), hb1.trans ⟨(Below.refl b w1).grown hgrow (by omega) (fun k hk => (hown.lt k hk).1) |>.setCell (p := ⟨b, 1, none⟩) hB _, Lib.OthersKept.setCell (b := b) ((Lib.OthersKept.refl _ _ _).grown hgrow (fun g hg => own_isrow hown hg)) ⟨b, 1, none⟩ rfl _⟩⟩
  clear hown' hgrow hb1 hown hb2 hbk
  go_wp2
  go_ret2
  exact ⟨rfl, HF.out.1, HF.out.2⟩
set_option maxRecDepth 100000 in
theorem Tryd.bExtra : Builder.Extra Tryd.prog Tryd.lays169_ren where
  sizeBuilder := by kernel_rfl
  liesBuilder := by kernel_rfl
  t5 := Tryd.underlying5
  a5 := Tryd.isAgg5
  z5 := Tryd.sizeOf5
  v5 := Tryd.zeroValue5
  infoByte := by kernel_rfl
  cellsByte := by kernel_rfl
  sizeByte := by kernel_rfl
  neB5 := by decide
set_option maxRecDepth 100000 in
theorem bstr_any (b : Nat) (t : List UInt8) (w : World) (h : IsB b t w) (hbw : b ≤ w.heap.size) :
    Calls Tryd.prog 15 #[.pointer (some ⟨b, 0, none⟩)] w fun e w' => e = .returned (.string ⟨t.toArray⟩) ∧ Below b w w' :=
  Any.Builder_String_any Tryd.lays169 Tryd.bExtra b b t w h hbw
end Go.Proofs.YtologchdnjnadaaDoor
/-
  Words written by their digits: writeWords.
-/
namespace Go.Proofs.YtologchdnjnadaaDoor
open Go.RowKit
set_option linter.unusedSimpArgs false
set_option linter.unusedVariables false

/-- A digit of sixteen. -/
def dg16 (d : Nat) : UInt8 := l16.getD d 0
/-- The last c digits of a word, the greatest first. -/
def hexN (x : Nat) : Nat → List UInt8
  | 0 => []
  | c + 1 => dg16 (x / 16 ^ c % 16) :: hexN x c
def hexL (x : BitVec 32) : List UInt8 := hexN x.toNat 8
def wdsL (m : List (BitVec 32)) : List UInt8 := m.flatMap fun x => 32 :: hexL x
theorem hexN_len (x c : Nat) : (hexN x c).length = c := by induction c with | zero => rfl | succ c ih => simp [hexN, ih]
theorem wdsL_len (m : List (BitVec 32)) : (wdsL m).length = 9 * m.length := by
  induction m with
  | nil => rfl
  | cons x m ih => unfold wdsL at ih ⊢; rw [List.flatMap_cons, List.length_append, ih]; simp [hexL, hexN_len]; omega
theorem wdsL_snoc (m : List (BitVec 32)) (x : BitVec 32) : wdsL (m ++ [x]) = wdsL m ++ (32 :: hexL x) := by unfold wdsL; rw [List.flatMap_append]; simp
theorem OKb.rwx {b : Nat} {w w' : World} {v : Value} {m : List (BitVec 32)} (h : OKb b w w') (hr : ∀ a n c, v = .slice (some a) n c → a.block < b ∨ (a.block ≠ b ∧ ∃ cs fz, w.heap[a.block]? = some (.cells cs 48 fz))) (hv : RwX cU w v m) : RwX cU w' v m := by
  obtain ⟨ao, c, e, hc, hq⟩ := hv
  refine ⟨ao, c, e, hc, ?_⟩
  rcases hq with hq | ⟨g, off, e2, hq⟩
  · exact .inl hq
  · refine .inr ⟨g, off, e2, fun j x hj => ?_⟩
    have hcell := hq j x hj
    have hblk : w'.heap[g]? = w.heap[g]? := by
      rcases hr ⟨g, off, none⟩ _ _ (by rw [e, e2]) with hlt | ⟨hne, cs, fz, hz⟩
      · exact h.1.block g hlt
      · rw [h.2 g _ hz (by intro e; injection e with e; exact hne e) (by intro c' fz' e; injection e with e1 e2 e3; revert e2; decide), hz]
    unfold World.cell? at hcell ⊢
    rw [hblk]
    exact hcell
/-- The words' row lies apart of the builder's. -/
def Apt (b : Nat) (v : Value) (w : World) : Prop := ∀ a n c, v = .slice (some a) n c → a.block < b ∨ (a.block ≠ b ∧ ∃ cs fz, w.heap[a.block]? = some (.cells cs 48 fz))
theorem Apt.keep {b : Nat} {v : Value} {w w' : World} (hr : Apt b v w) (h : OKb b w w') : Apt b v w' := fun a n c e => by
  rcases hr a n c e with hlt | ⟨hne, cs, fz, hz⟩
  · exact .inl hlt
  · exact .inr ⟨hne, cs, fz, h.2 _ _ hz (by intro e; injection e with e; exact hne e) (by intro c' fz' e; injection e with e1 e2 e3; revert e2; decide)⟩
theorem pow16 (k : Nat) : 2 ^ (k * 4) = 16 ^ k := by rw [Nat.mul_comm, Nat.pow_mul]
theorem shr15 (x : BitVec 32) (k : Nat) : uI x / 2 ^ (k * 4) = ((x.toNat / 16 ^ k : Nat) : Int) := by
  rw [uI_eq]
  have h2 : (2 : Int) ^ (k * 4) = ((16 ^ k : Nat) : Int) := by rw [← pow16]; norm_cast
  rw [h2]
  norm_cast
def kI (c : Nat) : Int := (c : Int) - 1
theorem l16_at (d : Nat) (h : d < (⟨#[48, 49, 50, 51, 52, 53, 54, 55, 56, 57, 97, 98, 99, 100, 101, 102]⟩ : ByteArray).size) : (((⟨#[48, 49, 50, 51, 52, 53, 54, 55, 56, 57, 97, 98, 99, 100, 101, 102]⟩ : ByteArray)[d]).toNat : Int) = ((dg16 d).toNat : Int) := by
  have : ∀ d : Fin 16, ((l16[d.val]'d.isLt).toNat : Int) = ((dg16 d.val).toNat : Int) := by decide
  exact this ⟨d, h⟩
set_option maxHeartbeats 4000000 in
theorem wwords_any (b : Nat) (t : List UInt8) (v : Value) (m : List (BitVec 32)) (w : World) (h : IsB b t w) (hm : RwX cU w v m) (ha : Apt b v w) (hlen : t.length + 9 * m.length ≤ 10000000000) (hbw : b ≤ w.heap.size) :
    Calls Tryd.prog 26 #[.pointer (some ⟨b, 0, none⟩), v] w fun e w' => e = .returned (.tuple #[]) ∧ IsB b (t ++ wdsL m) w' ∧ OKb b w w' := by
  obtain ⟨ao, cp, rfl, -⟩ := id hm
  have HS0 : Hid (IsB b (t ++ wdsL (m.take 0)) w ∧ OKb b w w) := hid13 ⟨by rw [List.take_zero]; show IsB b (t ++ []) w; rw [List.append_nil]; exact h, OKb.refl _ _⟩
  have HM := hid13 hm
  have HA := hid13 ha
  have HL : Hid (t.length + 9 * m.length ≤ 10000000000 ∧ b ≤ w.heap.size) := ⟨hlen, hbw⟩
  clear h hm ha hlen hbw
  go_enter Tryd.func26, Tryd.ntmps26
  go_wp2
  go_loopg [5, 6, 9] m.length (fun g x5 x6 x9 wr => ∃ j : Nat, j + g = m.length ∧ x9 = .int .i64 (j : Int) ∧ Hid (IsB b (t ++ wdsL (m.take j)) wr ∧ OKb b w wr))
  case atStart => exact ⟨0, by omega, rfl, HS0⟩
  case round =>
    clear HS0
    obtain ⟨G, rfl⟩ : ∃ G, G = gk := ⟨_, rfl⟩
    obtain ⟨j, hj, rfl, HS⟩ := hrel
    by_cases hlt : j < m.length
    · have hli : (j : Int) < (m.length : Int) := by omega
      obtain ⟨x, hx⟩ : ∃ x, x = m[j] := ⟨_, rfl⟩
      have hrd : ∃ g off, ao = some ⟨g, off, none⟩ ∧ wr.cell? ⟨g, off + j, none⟩ = some (.int .u32 (uI x)) := by
        obtain ⟨ao', cp', e, hc, hq⟩ := HS.out.2.rwx HA.out HM.out
        injection e with e1 e2 e3
        rcases hq with hq | ⟨g, off, e4, hq⟩
        · subst hq; simp at hlt
        · exact ⟨g, off, by rw [e1, e4], hq j x (by rw [hx]; simp [hlt])⟩
      obtain ⟨g, off, rfl, hcell⟩ := hrd
      have htk : m.take (j + 1) = m.take j ++ [x] := by rw [List.take_succ_eq_append_getElem hlt, hx]
      obtain ⟨T0, hT0⟩ : ∃ T0, T0 = t ++ wdsL (m.take j) := ⟨_, rfl⟩
      have hT0l : T0.length ≤ 10000000000 := by rw [hT0, List.length_append, wdsL_len, List.length_take]; have := HL.out; omega
      have K1 := wbyte_any b T0 32 wr (by rw [hT0]; exact HS.out.1) (by omega) (Nat.le_trans HL.out.2 HS.out.2.1.size)
      have HT : Hid (t ++ wdsL (m.take (j + 1)) = (T0 ++ [32]) ++ hexN x.toNat 8) := hid13 (by rw [htk, wdsL_snoc, hT0]; simp [hexL])
      have HT0 : Hid (T0.length ≤ 10000000000) := hid13 hT0l
      have HK : Hid (j + G = m.length ∧ j < m.length ∧ m.length ≤ 10000000000) := ⟨hj, hlt, by have := HL.out; omega⟩
      have mj : IntKind.i64.wrap ((j : Int) + 1) = (j : Int) + 1 := by rw [IntKind.wrap_i64]; have := HK.out; omega
      have HO := hid13 HS.out.2
      clear HS hx htk hT0 hT0l hj hlt
      go_wp2_with fail
      refine K1.mono ?_
      rintro e w1 ⟨rfl, h1, h2⟩
      have H1 : Hid (IsB b (T0 ++ [32]) w1 ∧ OKb b w w1) := ⟨h1, HO.out.trans h2⟩
      clear K1 h1 h2 HO hcell
      go_wp2
      go_loopg [6] 8 (fun g6 x6 wr2 => ∃ (D : List UInt8), x6 = .int .i64 (kI g6) ∧ Hid (IsB b D wr2 ∧ OKb b w wr2 ∧ D ++ hexN x.toNat g6 = (T0 ++ [32]) ++ hexN x.toNat 8 ∧ g6 ≤ 8))
      case atStart => exact ⟨T0 ++ [32], rfl, hid13 ⟨H1.out.1, H1.out.2, rfl, Nat.le_refl _⟩⟩
      case round =>
        obtain ⟨D, rfl, H2⟩ := hrel
        clear H1
        cases gk with
        | zero =>
          have k0 : kI 0 = -1 := rfl
          rw [k0]
          have H3 : Hid (IsB b (t ++ wdsL (m.take (j + 1))) wr ∧ OKb b w wr) := hid13 ⟨by have := H2.out.2.2.1; rw [show hexN x.toNat 0 = [] from rfl, List.append_nil] at this; rw [HT.out, ← this]; exact H2.out.1, H2.out.2.1⟩
          clear H2 k0
          go_wp2
          go_roundg (G - 1)
          case measure => have := HK.out; omega
          case rel => exact ⟨j + 1, by have := HK.out; omega, rfl, H3⟩
        | succ c =>
          have k1 : kI (c + 1) = (c : Int) := by unfold kI; omega
          rw [k1]
          have hc8 : c < 8 := by have := H2.out.2.2.2; omega
          have m1 : IntKind.i64.wrap ((c : Int) * 4) = (c : Int) * 4 := by rw [IntKind.wrap_i64]; omega
          have hs := shr15 x c
          obtain ⟨N, hN⟩ : ∃ N, N = x.toNat / 16 ^ c := ⟨_, rfl⟩
          rw [← hN] at hs
          obtain ⟨d, hd⟩ : ∃ d, d = N % 16 := ⟨_, rfl⟩
          have hd16 : d < 16 := by omega
          have m2 : (N : Int) % 16 = (d : Int) := by omega
          have m2' : (N : Int).tmod 16 = (d : Int) := by rw [Int.tmod_eq_emod_of_nonneg (by omega)]; omega
          have hdi : (d : Int) < 16 := by omega
          have hat := l16_at d (by show d < 16; exact hd16)
          have m3 : IntKind.i64.wrap ((c : Int) - 1) = kI c := by rw [IntKind.wrap_i64]; unfold kI; omega
          have HD : Hid (hexN x.toNat (c + 1) = dg16 d :: hexN x.toNat c) := hid13 (by rw [hd, hN]; rfl)
          have hDl : D.length ≤ 10000000100 := by
            have h1 := congrArg List.length H2.out.2.2.1
            simp only [List.length_append, hexN_len, List.length_singleton] at h1
            have := HT0.out
            omega
          have K2 := wbyte_any b D (dg16 d) wr H2.out.1 (by omega) (Nat.le_trans HL.out.2 H2.out.2.1.1.size)
          clear k1 hN hd hDl
          go_wp2_with fail
          refine K2.mono ?_
          rintro e w3 ⟨rfl, h1, h2⟩
          have H3 : Hid (IsB b (D ++ [dg16 d]) w3 ∧ OKb b w w3) := ⟨h1, H2.out.2.1.trans h2⟩
          clear K2 h1 h2 hat
          go_wp2
          go_roundg c
          case measure => omega
          case rel => exact ⟨D ++ [dg16 d], rfl, hid13 ⟨H3.out.1, H3.out.2, by have := H2.out.2.2.1; rw [HD.out] at this; rw [← this]; simp, by omega⟩⟩
    · have hli : ¬ (j : Int) < (m.length : Int) := by omega
      obtain rfl : j = m.length := by omega
      have H3 : Hid (IsB b (t ++ wdsL m) wr ∧ OKb b w wr) := hid13 (by have := HS.out; rw [List.take_length] at this; exact this)
      go_wp2
      go_end0
      exact ⟨rfl, H3.out.1, H3.out.2⟩
end Go.Proofs.YtologchdnjnadaaDoor
