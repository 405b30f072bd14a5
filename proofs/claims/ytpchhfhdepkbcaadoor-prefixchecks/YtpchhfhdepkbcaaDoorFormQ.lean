/-
  What the reference reads of an address written out of its groups, with '::' at a row that is 0, or its last two groups as the other family.
-/
import Derived.Test.YtpchhfhdepkbcaaDoorFormP
namespace Go.Proofs.YtpchhfhdepkbcaaDoor
open Go.RowKit
set_option linter.unusedSimpArgs false
set_option linter.unusedVariables false

theorem gs_pcs (pc : Nat → List UInt8) (G : Nat → Int) (last : Bool) : ∀ l : List Nat, (∀ k ∈ l, Pc (pc k) (G k)) → gsG last ((l.map pc).map bL) [] = some (l.map G) := by
  intro l
  induction l with
  | nil => intro _; rfl
  | cons k l ih =>
    intro h
    have hk := h k (by simp)
    have hd := hk.nodot
    show (if last = true ∧ (l.map pc).map bL = [] ∧ (dotO (bL (pc k))).isSome = true then _ else if grV (bL (pc k)) < 0 then none else gsG last ((l.map pc).map bL) ([] ++ [grV (bL (pc k))])) = _
    rw [if_neg (by rw [hd]; simp), hk.val, if_neg (by have := hk.nn; omega), gsG_acc, ih (fun j hj => h j (by simp [hj]))]
    rfl
theorem gs_quad (pc : Nat → List UInt8) (G : Nat → Int) (q : List UInt8) (u : Int) (hq : dotO (bL q) = some u) : ∀ l : List Nat, (∀ k ∈ l, Pc (pc k) (G k)) → gsG true ((l.map pc ++ [q]).map bL) [] = some (l.map G ++ [u / 65536, u % 65536]) := by
  intro l
  induction l with
  | nil =>
    intro _
    show (if true = true ∧ ([] : List ByteArray) = [] ∧ (dotO (bL q)).isSome = true then some ([] ++ [(dotO (bL q)).getD 0 / 65536, (dotO (bL q)).getD 0 % 65536]) else _) = _
    rw [hq, if_pos ⟨rfl, rfl, rfl⟩]; rfl
  | cons k l ih =>
    intro h
    have hk := h k (by simp)
    have hd := hk.nodot
    show (if true = true ∧ (l.map pc ++ [q]).map bL = [] ∧ (dotO (bL (pc k))).isSome = true then _ else if grV (bL (pc k)) < 0 then none else gsG true ((l.map pc ++ [q]).map bL) ([] ++ [grV (bL (pc k))])) = _
    rw [if_neg (by rw [hd]; simp), hk.val, if_neg (by have := hk.nn; omega), gsG_acc, ih (fun j hj => h j (by simp [hj]))]
    rfl
/-- Pieces, none of them empty, none with ':'. -/
def Good (l : List (List UInt8)) : Prop := ∀ p ∈ l, p ≠ [] ∧ ∀ x ∈ p, x ≠ 58
theorem jn_cons (c : UInt8) (p : List UInt8) (l : List (List UInt8)) (h : l ≠ []) : jn c (p :: l) = p ++ c :: jn c l := by
  cases l with
  | nil => exact absurd rfl h
  | cons q l => rfl
theorem jn_head (l : List (List UInt8)) (h : Good l) (hl : l ≠ []) : (jn 58 l).getD 0 0 ≠ 58 ∧ jn 58 l ≠ [] := by
  cases l with
  | nil => exact absurd rfl hl
  | cons p l =>
    obtain ⟨hp, hx⟩ := h p (by simp)
    cases p with
    | nil => exact absurd rfl hp
    | cons x p =>
      have hx0 := hx x (by simp)
      cases l with
      | nil => exact ⟨hx0, by simp [jn]⟩
      | cons q l => exact ⟨hx0, by simp [jn]⟩
theorem jn_last : ∀ (l : List (List UInt8)), Good l → l ≠ [] → (jn 58 l).getD ((jn 58 l).length - 1) 0 ≠ 58
  | [], _, h => absurd rfl h
  | [p], hg, _ => by
    obtain ⟨hp, hx⟩ := hg p (by simp)
    have : 0 < p.length := List.length_pos_iff.mpr hp
    show p.getD (p.length - 1) 0 ≠ 58
    exact hx _ (getD_mem p _ (by omega))
  | p :: q :: l, hg, _ => by
    have hg2 : Good (q :: l) := fun r hr => hg r (by simp at hr ⊢; right; exact hr)
    have ih := jn_last (q :: l) hg2 (by simp)
    have hne := (jn_head (q :: l) hg2 (by simp)).2
    have hpos : 0 < (jn 58 (q :: l)).length := List.length_pos_iff.mpr hne
    show (p ++ 58 :: jn 58 (q :: l)).getD ((p ++ 58 :: jn 58 (q :: l)).length - 1) 0 ≠ 58
    generalize jn 58 (q :: l) = r at *
    have e : (p ++ 58 :: r).length - 1 = p.length + (r.length - 1 + 1) := by simp; omega
    rw [e, getD_right]
    exact ih
def tw (l : List UInt8) (k : Nat) : Prop := l.getD k 0 = 58 ∧ l.getD (k + 1) 0 = 58
theorem both_tw (l : List UInt8) (k : Nat) : both (bL l) k ↔ tw l k := by
  unfold both tw
  rw [bL_at, bL_at, show (58 : Int) = (((58 : UInt8).toNat : Nat) : Int) from rfl, u8_eq, u8_eq]
theorem getD_past (l : List UInt8) (k : Nat) (h : l.length ≤ k) : l.getD k 0 = 0 := by
  rw [List.getD_eq_getElem?_getD, List.getElem?_eq_none h]; rfl
theorem jn_tw : ∀ (l : List (List UInt8)), Good l → ∀ k, ¬ tw (jn 58 l) k
  | [], _, k => fun h => by have := h.1; unfold jn at this; simp at this
  | [p], hg, k => fun h => by
    have h1 : p.getD k 0 = 58 := h.1
    by_cases hk : k < p.length
    · exact (hg p (by simp)).2 _ (getD_mem p k hk) h1
    · rw [getD_past p k (by omega)] at h1; exact absurd h1 (by decide)
  | p :: q :: l, hg, k => fun h => by
    have hg2 : Good (q :: l) := fun r hr => hg r (by simp at hr ⊢; right; exact hr)
    have ih := jn_tw (q :: l) hg2
    have hh := (jn_head (q :: l) hg2 (by simp)).1
    have h' : tw (p ++ 58 :: jn 58 (q :: l)) k := h
    generalize jn 58 (q :: l) = r at *
    by_cases hk : k < p.length
    · have h1 := h'.1
      rw [getD_left _ _ _ hk] at h1
      exact (hg p (by simp)).2 _ (getD_mem p k hk) h1
    · obtain ⟨j, rfl⟩ : ∃ j, k = p.length + j := ⟨k - p.length, by omega⟩
      have h1 := h'.1
      have h2 := h'.2
      rw [getD_right] at h1
      rw [Nat.add_assoc, getD_right] at h2
      cases j with
      | zero => exact hh h2
      | succ j => exact ih j ⟨h1, h2⟩
theorem gsO_jn (l : List (List UInt8)) (last : Bool) (hg : Good l) : gsO (bL (jn 58 l)) last = gsG last (l.map bL) [] := by
  by_cases hl : l = []
  · subst hl; rfl
  · have := (jn_head l hg hl).2
    rw [gsO_full _ _ (by rw [bL_size]; intro e; exact this (List.length_eq_zero_iff.mp e))]
    unfold gsP
    rw [show (58 : Int) = (((58 : UInt8).toNat : Nat) : Int) from rfl, spl_jn 58 l hl (fun p hp => (hg p hp).2)]
/-- No '::'. -/
theorem rs_flat (l : List (List UInt8)) (hg : Good l) (L : List Int) (h : gsG true (l.map bL) [] = some L) (h8 : L.length = 8) : rsO (bL (jn 58 l)) = some L := by
  unfold rsO
  rw [gap_none _ (fun k q => jn_tw l hg k ((both_tw _ _).mp q)), if_pos (by decide)]
  unfold rsA
  rw [gsO_jn l true hg, h]
  show (if L.length = 8 then some L else none) = _
  rw [if_pos h8]
/-- A '::'. -/
theorem rs_gap (l m : List (List UInt8)) (hl : Good l) (hm : Good m) (A B : List Int) (hA : gsG false (l.map bL) [] = some A) (hB : gsG true (m.map bL) [] = some B) (h7 : A.length + B.length ≤ 7) :
    rsO (bL (jn 58 l ++ 58 :: 58 :: jn 58 m)) = some (A ++ List.replicate (8 - (A.length + B.length)) 0 ++ B) := by
  have hgap : gapV (bL (jn 58 l ++ 58 :: 58 :: jn 58 m)) = ((jn 58 l).length : Int) := by
    refine gap_at _ _ ((both_tw _ _).mpr ?_) (fun k hk q => ?_)
    · refine ⟨?_, ?_⟩
      · have := getD_right (jn 58 l) (58 :: 58 :: jn 58 m) 0
        rw [Nat.add_zero] at this; rw [this]; rfl
      · rw [getD_right]; rfl
    · have q' := (both_tw _ _).mp q
      by_cases h : k + 1 < (jn 58 l).length
      · refine jn_tw l hl k ⟨?_, ?_⟩
        · rw [← getD_left _ (58 :: 58 :: jn 58 m) k (by omega)]; exact q'.1
        · rw [← getD_left _ (58 :: 58 :: jn 58 m) (k + 1) h]; exact q'.2
      · have hk2 : k = (jn 58 l).length - 1 := by omega
        have hne : l ≠ [] := fun e => by rw [e] at hk; simp [jn] at hk
        have h1 := q'.1
        rw [getD_left _ _ _ hk, hk2] at h1
        exact jn_last l hl hne h1
  unfold rsO
  rw [hgap, if_neg (by omega), Int.toNat_natCast]
  have e1 : (bL (jn 58 l ++ 58 :: 58 :: jn 58 m)).extract 0 (jn 58 l).length = bL (jn 58 l) := by
    rw [bL_ext]; simp
  have e2 : (bL (jn 58 l ++ 58 :: 58 :: jn 58 m)).extract ((jn 58 l).length + 2) (bL (jn 58 l ++ 58 :: 58 :: jn 58 m)).size = bL (jn 58 m) := by
    rw [bL_ext, bL_size, List.drop_append]
    congr 1
    simp
    rw [List.drop_eq_nil_of_le (by omega), List.nil_append]
    exact List.take_of_length_le (by omega)
  rw [rsB_some _ _ A B (by rw [e1, gsO_jn l false hl]; exact hA) (by rw [e2, gsO_jn m true hm]; exact hB), if_pos h7]

/-- The groups written from i on, s being written: '::' for the b groups from a on, the last two as the other family. -/
def fmG (PC : Nat → ByteArray) (Q : ByteArray) (qd : Bool) (a b : Nat) : Nat → Nat → ByteArray → ByteArray
  | 0, _, s => s
  | f + 1, i, s => if 8 ≤ i then s else if 0 < b ∧ i = a then fmG PC Q qd a b f (i + b) (s ++ ⟨#[58, 58]⟩) else if qd = true ∧ i = 6 then sepS s ++ Q else fmG PC Q qd a b f (i + 1) (sepS s ++ PC i)
theorem sep_H (H : List UInt8) (hH : H = [] ∨ ∃ X, H = X ++ [58]) (l : List (List UInt8)) (hl : Good l) (p : List UInt8) : sepS (bL (H ++ jn 58 l)) ++ bL p = bL (H ++ jn 58 (l ++ [p])) := by
  by_cases h : l = []
  · subst h
    have e : sepS (bL (H ++ jn 58 [])) = bL H := by
      show sepS (bL (H ++ [])) = _
      rw [List.append_nil]
      unfold sepS
      rcases hH with rfl | ⟨X, rfl⟩
      · exact if_pos (Or.inl (by rfl))
      · rw [if_pos (Or.inr ?_)]
        rw [bL_size, bL_at]
        have e : (X ++ [58]).length - 1 = X.length + 0 := by simp
        rw [e, getD_right]; rfl
    rw [e, bL_cat]; rfl
  · have hne := (jn_head l hl h).2
    have hpos : 0 < (jn 58 l).length := List.length_pos_iff.mpr hne
    have hlast := jn_last l hl h
    rw [jn_snoc 58 l p h]
    generalize jn 58 l = r at *
    have e : sepS (bL (H ++ r)) = bL (H ++ r) ++ bL [58] := by
      unfold sepS
      rw [if_neg ?_]; rfl
      rw [bL_size, bL_at]
      rintro (q | q)
      · simp at q; exact hne q.2
      · have e : (H ++ r).length - 1 = H.length + (r.length - 1) := by simp; omega
        rw [e, getD_right, show (58 : Int) = (((58 : UInt8).toNat : Nat) : Int) from rfl, u8_eq] at q
        exact hlast q
    rw [e, bL_cat, bL_cat]
    simp
section
variable (pc : Nat → List UInt8) (q : List UInt8) (a b : Nat)
theorem fm_flat (hp : ∀ k, pc k ≠ [] ∧ ∀ x ∈ pc k, x ≠ 58) (H : List UInt8) (hH : H = [] ∨ ∃ X, H = X ++ [58]) : ∀ n i f (l : List (List UInt8)), i + n = 8 → n ≤ f → Good l → (b = 0 ∨ a < i) →
    fmG (fun k => bL (pc k)) (bL q) false a b f i (bL (H ++ jn 58 l)) = bL (H ++ jn 58 (l ++ (List.range' i n).map pc)) := by
  intro n
  induction n with
  | zero =>
    intro i f l hi hf hl hb
    have : fmG (fun k => bL (pc k)) (bL q) false a b f i (bL (H ++ jn 58 l)) = bL (H ++ jn 58 l) := by
      cases f with
      | zero => rfl
      | succ f => exact if_pos (by omega)
    rw [this]; simp
  | succ n ih =>
    intro i f l hi hf hl hb
    obtain ⟨f, rfl⟩ : ∃ g, f = g + 1 := ⟨f - 1, by omega⟩
    have : fmG (fun k => bL (pc k)) (bL q) false a b (f + 1) i (bL (H ++ jn 58 l)) = fmG (fun k => bL (pc k)) (bL q) false a b f (i + 1) (sepS (bL (H ++ jn 58 l)) ++ bL (pc i)) := by
      show (if 8 ≤ i then _ else if 0 < b ∧ i = a then _ else if false = true ∧ i = 6 then _ else _) = _
      rw [if_neg (by omega), if_neg (by omega), if_neg (by simp)]
    rw [this, sep_H H hH l hl, ih (i + 1) f (l ++ [pc i]) (by omega) (by omega) (fun p h => by
      rcases List.mem_append.mp h with h | h
      · exact hl p h
      · simp at h; rw [h]; exact hp i) (by omega)]
    rw [List.range'_succ]; simp
theorem fm_quad (hp : ∀ k, pc k ≠ [] ∧ ∀ x ∈ pc k, x ≠ 58) (H : List UInt8) (hH : H = [] ∨ ∃ X, H = X ++ [58]) : ∀ n i f (l : List (List UInt8)), i + n = 6 → n + 1 ≤ f → Good l → (b = 0 ∨ a < i) →
    fmG (fun k => bL (pc k)) (bL q) true a b f i (bL (H ++ jn 58 l)) = bL (H ++ jn 58 (l ++ ((List.range' i n).map pc ++ [q]))) := by
  intro n
  induction n with
  | zero =>
    intro i f l hi hf hl hb
    obtain ⟨f, rfl⟩ : ∃ g, f = g + 1 := ⟨f - 1, by omega⟩
    have : fmG (fun k => bL (pc k)) (bL q) true a b (f + 1) i (bL (H ++ jn 58 l)) = sepS (bL (H ++ jn 58 l)) ++ bL q := by
      show (if 8 ≤ i then _ else if 0 < b ∧ i = a then _ else if true = true ∧ i = 6 then _ else _) = _
      rw [if_neg (by omega), if_neg (by omega), if_pos ⟨rfl, by omega⟩]
    rw [this, sep_H H hH l hl]; simp
  | succ n ih =>
    intro i f l hi hf hl hb
    obtain ⟨f, rfl⟩ : ∃ g, f = g + 1 := ⟨f - 1, by omega⟩
    have : fmG (fun k => bL (pc k)) (bL q) true a b (f + 1) i (bL (H ++ jn 58 l)) = fmG (fun k => bL (pc k)) (bL q) true a b f (i + 1) (sepS (bL (H ++ jn 58 l)) ++ bL (pc i)) := by
      show (if 8 ≤ i then _ else if 0 < b ∧ i = a then _ else if true = true ∧ i = 6 then _ else _) = _
      rw [if_neg (by omega), if_neg (by omega), if_neg (by omega)]
    rw [this, sep_H H hH l hl, ih (i + 1) f (l ++ [pc i]) (by omega) (by omega) (fun p h => by
      rcases List.mem_append.mp h with h | h
      · exact hl p h
      · simp at h; rw [h]; exact hp i) (by omega)]
    rw [List.range'_succ]; simp
theorem fm_gap (qd : Bool) (hb : 0 < b) (hq : qd = true → a + b ≤ 6) (hab : a + b ≤ 8) (hp : ∀ k, pc k ≠ [] ∧ ∀ x ∈ pc k, x ≠ 58) : ∀ n i f (l : List (List UInt8)), i + n = a → Good l →
    fmG (fun k => bL (pc k)) (bL q) qd a b (f + n + 1) i (bL (jn 58 l)) = fmG (fun k => bL (pc k)) (bL q) qd a b f (a + b) (bL (jn 58 (l ++ (List.range' i n).map pc) ++ [58, 58])) := by
  intro n
  induction n with
  | zero =>
    intro i f l hi hl
    have : fmG (fun k => bL (pc k)) (bL q) qd a b (f + 0 + 1) i (bL (jn 58 l)) = fmG (fun k => bL (pc k)) (bL q) qd a b f (i + b) (bL (jn 58 l) ++ ⟨#[58, 58]⟩) := by
      show (if 8 ≤ i then _ else if 0 < b ∧ i = a then _ else if qd = true ∧ i = 6 then _ else _) = _
      rw [if_neg (by omega), if_pos ⟨hb, by omega⟩]
    rw [this, show i + b = a + b by omega]
    have e : (bL (jn 58 l) ++ ⟨#[58, 58]⟩ : ByteArray) = bL (jn 58 l ++ [58, 58]) := bL_cat _ [58, 58]
    rw [e]; simp
  | succ n ih =>
    intro i f l hi hl
    have : fmG (fun k => bL (pc k)) (bL q) qd a b (f + (n + 1) + 1) i (bL (jn 58 l)) = fmG (fun k => bL (pc k)) (bL q) qd a b (f + n + 1) (i + 1) (sepS (bL (jn 58 l)) ++ bL (pc i)) := by
      show (if 8 ≤ i then _ else if 0 < b ∧ i = a then _ else if qd = true ∧ i = 6 then _ else _) = _
      rw [if_neg (by omega), if_neg (by omega), if_neg (fun z => by have := hq z.1; omega)]
      rfl
    have hs := sep_H [] (Or.inl rfl) l hl (pc i)
    rw [List.nil_append, List.nil_append] at hs
    rw [this, hs, ih (i + 1) f (l ++ [pc i]) (by omega) (fun p h => by
      rcases List.mem_append.mp h with h | h
      · exact hl p h
      · simp at h; rw [h]; exact hp i)]
    rw [List.range'_succ]; simp
end
/-- What is read of it: the groups. -/
theorem fm_reads (pc : Nat → List UInt8) (G : Nat → Int) (q : List UInt8) (qd : Bool) (a b : Nat) (hp : ∀ k, Pc (pc k) (G k)) (hz : ∀ k, a ≤ k → k < a + b → G k = 0) (hab : a + b ≤ 8)
    (hq1 : qd = true → (b = 0 ∨ a + b ≤ 6)) (hq2 : ∀ x ∈ q, x ≠ 58) (hq3 : dotO (bL q) = some (G 6 * 65536 + G 7)) (hG : 0 ≤ G 7 ∧ G 7 ≤ 65535) :
    rsO (fmG (fun k => bL (pc k)) (bL q) qd a b 9 0 ⟨#[]⟩) = some ((List.range' 0 8).map G) := by
  have hp' : ∀ k, pc k ≠ [] ∧ ∀ x ∈ pc k, x ≠ 58 := fun k => ⟨(hp k).ne, (hp k).no 58 (by decide)⟩
  have hgood : ∀ l : List Nat, Good (l.map pc) := fun l p h => by
    obtain ⟨k, -, rfl⟩ := List.mem_map.mp h
    exact hp' k
  have hqne : q ≠ [] := fun e => by
    rw [e] at hq3
    have : dotO (bL []) = none := by decide +kernel
    rw [this] at hq3; cases hq3
  have hgoodq : ∀ l : List Nat, Good (l.map pc ++ [q]) := fun l p h => by
    rcases List.mem_append.mp h with h | h
    · exact hgood l p h
    · simp at h; rw [h]; exact ⟨hqne, hq2⟩
  have e67 : [(G 6 * 65536 + G 7) / 65536, (G 6 * 65536 + G 7) % 65536] = (List.range' 6 2).map G := by
    show _ = [G 6, G 7]
    congr 1
    · omega
    · congr 1; omega
  have h0 : (⟨#[]⟩ : ByteArray) = bL ([] ++ jn 58 []) := rfl
  by_cases hb : b = 0
  · cases qd
    · rw [h0, fm_flat pc q a b hp' [] (Or.inl rfl) 8 0 9 [] rfl (by omega) (fun p h => by cases h) (Or.inl hb)]
      rw [List.nil_append, List.nil_append]
      exact rs_flat _ (hgood _) _ (gs_pcs pc G true _ (fun k _ => hp k)) rfl
    · rw [h0, fm_quad pc q a b hp' [] (Or.inl rfl) 6 0 9 [] rfl (by omega) (fun p h => by cases h) (Or.inl hb)]
      rw [List.nil_append, List.nil_append]
      have := gs_quad pc G q _ hq3 (List.range' 0 6) (fun k _ => hp k)
      rw [e67] at this
      exact rs_flat _ (hgoodq _) _ this rfl
  · have hz' : List.replicate b (0 : Int) = (List.range' a b).map G := by
      apply List.ext_getElem
      · simp
      · intro k h1 h2
        simp at h1 h2 ⊢
        exact (hz _ (by omega) (by omega)).symm
    have hgap := fm_gap pc q a b qd (by omega) (fun e => by have := hq1 e; omega) hab hp' a 0 (8 - a) [] (by omega) (fun p h => by cases h)
    have hs : fmG (fun k => bL (pc k)) (bL q) qd a b 9 0 ⟨#[]⟩ = fmG (fun k => bL (pc k)) (bL q) qd a b (8 - a) (a + b) (bL (jn 58 ([] ++ (List.range' 0 a).map pc) ++ [58, 58])) := by
      rw [← hgap, show 8 - a + a + 1 = 9 by omega]; rfl
    rw [hs, List.nil_append]
    have hX : ∀ X : List UInt8, X ++ [58, 58] = [] ∨ ∃ Y, X ++ [58, 58] = Y ++ [58] := fun X => Or.inr ⟨X ++ [58], by simp⟩
    have hj : ∀ X : List UInt8, bL (X ++ [58, 58]) = bL ((X ++ [58, 58]) ++ jn 58 []) := fun X => by rw [show jn 58 [] = [] from rfl, List.append_nil]
    have hA := gs_pcs pc G false (List.range' 0 a) (fun k _ => hp k)
    rw [hj]
    cases qd
    · rw [fm_flat pc q a b hp' _ (hX _) (8 - (a + b)) (a + b) (8 - a) [] (by omega) (by omega) (fun p h => by cases h) (Or.inr (by omega))]
      rw [List.nil_append, List.append_assoc]
      have := rs_gap ((List.range' 0 a).map pc) ((List.range' (a + b) (8 - (a + b))).map pc) (hgood _) (hgood _) _ _ hA (gs_pcs pc G true _ (fun k _ => hp k)) (by simp; omega)
      refine this.trans ?_
      congr 1
      simp only [List.length_map, List.length_range']
      rw [show 8 - (a + (8 - (a + b))) = b by omega, hz', ← List.map_append, ← List.map_append]
      congr 1
      rw [show List.range' a b = List.range' (0 + a) b by rw [Nat.zero_add], List.range'_append_1, show List.range' (a + b) (8 - (a + b)) = List.range' (0 + (a + b)) (8 - (a + b)) by rw [Nat.zero_add], List.range'_append_1]
      congr 1; omega
    · have h6 := hq1 rfl
      rw [fm_quad pc q a b hp' _ (hX _) (6 - (a + b)) (a + b) (8 - a) [] (by omega) (by omega) (fun p h => by cases h) (Or.inr (by omega))]
      rw [List.nil_append, List.append_assoc]
      have hB := gs_quad pc G q _ hq3 (List.range' (a + b) (6 - (a + b))) (fun k _ => hp k)
      rw [e67, ← List.map_append] at hB
      have := rs_gap ((List.range' 0 a).map pc) ((List.range' (a + b) (6 - (a + b))).map pc ++ [q]) (hgood _) (hgoodq _) _ _ hA hB (by simp; omega)
      refine this.trans ?_
      congr 1
      simp only [List.length_map, List.length_range', List.length_append]
      rw [show 8 - (a + (6 - (a + b) + 2)) = b by omega, hz', ← List.map_append, ← List.map_append]
      congr 1
      rw [show List.range' a b = List.range' (0 + a) b by rw [Nat.zero_add], List.range'_append_1, ← List.append_assoc, show List.range' (a + b) (6 - (a + b)) = List.range' (0 + (a + b)) (6 - (a + b)) by rw [Nat.zero_add], List.range'_append_1]
      rw [show a + b + (6 - (a + b)) = 6 by omega]
      rfl
end Go.Proofs.YtpchhfhdepkbcaaDoor
