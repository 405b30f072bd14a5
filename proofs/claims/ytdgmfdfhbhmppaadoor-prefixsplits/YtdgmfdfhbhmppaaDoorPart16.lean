/-
  Part 16 of the proof: 4 texts, one behind the other.
-/
import Derived.Test.YtdgmfdfhbhmppaaDoorPart15
import Derived.Lib.ItoaNum
/-
  Plain facts on texts: pieces joined and taken apart again; what the reference reads of an address that is written out of its groups.
-/
namespace Go.Proofs.YtdgmfdfhbhmppaaDoor
open Go.RowKit
set_option linter.unusedSimpArgs false
set_option linter.unusedVariables false

def bL (l : List UInt8) : ByteArray := ⟨l.toArray⟩
theorem bL_size (l : List UInt8) : (bL l).size = l.length := rfl
theorem bL_list (l : List UInt8) : (bL l).data.toList = l := rfl
theorem bL_cat (l m : List UInt8) : bL l ++ bL m = bL (l ++ m) := by
  apply ByteArray.ext; simp [bL]
theorem bL_at (l : List UInt8) (k : Nat) : byteAt (bL l) k = ((l.getD k 0).toNat : Int) := by
  unfold byteAt
  by_cases h : k < l.length
  · rw [dif_pos (by rw [bL_size]; exact h), List.getD_eq_getElem?_getD, List.getElem?_eq_getElem h]
    rfl
  · rw [dif_neg (by rw [bL_size]; exact h), List.getD_eq_getElem?_getD, List.getElem?_eq_none (by omega)]
    rfl
theorem bL_ext (l : List UInt8) (a b : Nat) : (bL l).extract a b = bL ((l.drop a).take (b - a)) := by
  rw [Lib.extract_eq]; rfl
theorem u8_eq (a b : UInt8) : ((a.toNat : Int) = (b.toNat : Int)) ↔ a = b := by
  constructor
  · intro h; exact UInt8.toNat_inj.mp (by omega)
  · intro h; rw [h]
theorem getD_mem (l : List UInt8) (k : Nat) (h : k < l.length) : l.getD k 0 ∈ l := by
  rw [List.getD_eq_getElem?_getD, List.getElem?_eq_getElem h]; exact List.getElem_mem h
theorem getD_left (l m : List UInt8) (k : Nat) (h : k < l.length) : (l ++ m).getD k 0 = l.getD k 0 := by
  rw [List.getD_eq_getElem?_getD, List.getD_eq_getElem?_getD, List.getElem?_append_left h]
theorem getD_right (l m : List UInt8) (k : Nat) : (l ++ m).getD (l.length + k) 0 = m.getD k 0 := by
  rw [List.getD_eq_getElem?_getD, List.getD_eq_getElem?_getD, List.getElem?_append_right (by omega)]
  rw [Nat.add_sub_cancel_left]

theorem spl_more (c : UInt8) (p r : List UInt8) (hp : ∀ x ∈ p, x ≠ c) :
    spl (bL (p ++ c :: r)) (c.toNat : Int) (bL (p ++ c :: r)).size 0 0 = bL p :: spl (bL r) (c.toNat : Int) (bL r).size 0 0 := by
  have hat : byteAt (bL (p ++ c :: r)) p.length = (c.toNat : Int) := by
    have := getD_right p (c :: r) 0
    rw [Nat.add_zero] at this
    rw [bL_at, this]; rfl
  have hsz : (bL (p ++ c :: r)).size = p.length + 1 + r.length := by rw [bL_size]; simp; omega
  obtain ⟨j, hj, hno, hw⟩ := spl_first (bL (p ++ c :: r)) (c.toNat : Int)
  have hjp : j = p.length := by
    rcases Nat.lt_trichotomy j p.length with q | q | q
    · exfalso
      rcases hw with ⟨e, -⟩ | ⟨-, e, -⟩
      · omega
      · rw [bL_at, getD_left _ _ _ q, u8_eq] at e
        exact hp _ (getD_mem p j q) e
    · exact q
    · exact absurd hat (hno _ q)
  subst hjp
  rcases hw with ⟨e, -⟩ | ⟨-, -, e⟩
  · omega
  · rw [e, bL_ext, bL_ext]
    have e1 : ((p ++ c :: r).drop 0).take (p.length - 0) = p := by simp
    have e2 : ((p ++ c :: r).drop (p.length + 1)).take ((bL (p ++ c :: r)).size - (p.length + 1)) = r := by
      rw [hsz, List.drop_append]
      simp
      rw [List.drop_eq_nil_of_le (by omega), List.nil_append, List.take_length]
    rw [e1, e2]
theorem spl_one (c : UInt8) (p : List UInt8) (hp : ∀ x ∈ p, x ≠ c) : spl (bL p) (c.toNat : Int) (bL p).size 0 0 = [bL p] := by
  obtain ⟨j, hj, hno, hw⟩ := spl_first (bL p) (c.toNat : Int)
  rcases hw with ⟨-, e⟩ | ⟨q, e, -⟩
  · exact e
  · exfalso
    rw [bL_size] at q
    rw [bL_at, u8_eq] at e
    exact hp _ (getD_mem p j q) e
/-- Pieces with c between two. -/
def jn (c : UInt8) : List (List UInt8) → List UInt8
  | [] => []
  | [p] => p
  | p :: q :: l => p ++ c :: jn c (q :: l)
theorem spl_jn (c : UInt8) : ∀ l : List (List UInt8), l ≠ [] → (∀ p ∈ l, ∀ x ∈ p, x ≠ c) → spl (bL (jn c l)) (c.toNat : Int) (bL (jn c l)).size 0 0 = l.map bL
  | [], h, _ => absurd rfl h
  | [p], _, hp => spl_one c p (hp p (by simp))
  | p :: q :: l, _, hp => by
    show spl (bL (p ++ c :: jn c (q :: l))) _ (bL (p ++ c :: jn c (q :: l))).size 0 0 = _
    rw [spl_more c p _ (hp p (by simp)), spl_jn c (q :: l) (by simp) (fun p' h => hp p' (by simp at h ⊢; right; exact h))]
    rfl
theorem jn_snoc (c : UInt8) : ∀ (l : List (List UInt8)) (p : List UInt8), l ≠ [] → jn c (l ++ [p]) = jn c l ++ c :: p
  | [], _, h => absurd rfl h
  | [q], p, _ => rfl
  | q :: r :: l, p, _ => by
    show q ++ c :: jn c (r :: l ++ [p]) = (q ++ c :: jn c (r :: l)) ++ c :: p
    rw [jn_snoc c (r :: l) p (by simp)]
    simp

/-- Four numbers with points between are one number. -/
theorem dec_oct : ∀ a, a < 256 → octV (bL (decL a)) = (a : Int) ∧ (∀ x ∈ decL a, x ≠ 46) ∧ (∀ x ∈ decL a, x ≠ 58) ∧ ¬ decL a = [] := by decide +kernel
def quadL (a b c d : Nat) : List UInt8 := jn 46 [decL a, decL b, decL c, decL d]
theorem dot_quad (a b c d : Nat) (ha : a < 256) (hb : b < 256) (hc : c < 256) (hd : d < 256) :
    dotO (bL (quadL a b c d)) = some ((((a * 256 + b) * 256 + c) * 256 + d : Nat) : Int) := by
  have e := spl_jn 46 [decL a, decL b, decL c, decL d] (by simp) (by
    intro p hp
    simp at hp
    rcases hp with rfl | rfl | rfl | rfl
    · exact (dec_oct a ha).2.1
    · exact (dec_oct b hb).2.1
    · exact (dec_oct c hc).2.1
    · exact (dec_oct d hd).2.1)
  have e' : spl (bL (quadL a b c d)) 46 (bL (quadL a b c d)).size 0 0 = [decL a, decL b, decL c, decL d].map bL := e
  unfold dotO
  rw [e', if_pos (by simp)]
  simp only [List.map_cons, List.map_nil, dotG]
  rw [(dec_oct a ha).1, (dec_oct b hb).1, (dec_oct c hc).1, (dec_oct d hd).1]
  rw [if_neg (by omega), if_neg (by omega), if_neg (by omega), if_neg (by omega)]
  congr 1
  omega
theorem quad_no (a b c d : Nat) (ha : a < 256) (hb : b < 256) (hc : c < 256) (hd : d < 256) : ∀ x ∈ quadL a b c d, x ≠ 58 := by
  intro x hx
  unfold quadL jn jn jn jn at hx
  simp at hx
  rcases hx with h | rfl | h | rfl | h | rfl | h
  · exact (dec_oct a ha).2.2.1 x h
  · decide
  · exact (dec_oct b hb).2.2.1 x h
  · decide
  · exact (dec_oct c hc).2.2.1 x h
  · decide
  · exact (dec_oct d hd).2.2.1 x h

/-- What a piece's digits say. -/
def vL : Int → List UInt8 → Int
  | n, [] => n
  | n, c :: r => if hexB (c.toNat : Int) = true then vL (16 * n + hexV (c.toNat : Int)) r else -1
theorem grG_list : ∀ (l p : List UInt8) (n : Int), grG (bL (p ++ l)) l.length p.length n = vL n l := by
  intro l
  induction l with
  | nil => intro p n; rfl
  | cons c r ih =>
    intro p n
    have hat : byteAt (bL (p ++ c :: r)) p.length = (c.toNat : Int) := by
      have := getD_right p (c :: r) 0
      rw [Nat.add_zero] at this
      rw [bL_at, this]; rfl
    show (if hexB (byteAt (bL (p ++ c :: r)) p.length) = true then grG (bL (p ++ c :: r)) r.length (p.length + 1) (16 * n + hexV (byteAt (bL (p ++ c :: r)) p.length)) else -1) = _
    rw [hat]
    have := ih (p ++ [c]) (16 * n + hexV (c.toNat : Int))
    rw [List.append_assoc, List.length_append] at this
    have t2 : grG (bL (p ++ c :: r)) r.length (p.length + 1) (16 * n + hexV (c.toNat : Int)) = vL (16 * n + hexV (c.toNat : Int)) r := this
    rw [t2]; rfl
theorem grV_list (l : List UInt8) (h1 : 1 ≤ l.length) (h4 : l.length ≤ 4) : grV (bL l) = vL 0 l := by
  unfold grV
  rw [bL_size, if_neg (by omega)]
  exact grG_list l [] 0
theorem dig_hex : ∀ u d, d < 16 → hexB ((digD u d).toNat : Int) = true ∧ hexV ((digD u d).toNat : Int) = (d : Int) := by
  intro u
  cases u
  · decide +kernel
  · decide +kernel
theorem vL_dig (u : Bool) (d : Nat) (h : d < 16) (n : Int) (r : List UInt8) : vL n (digD u d :: r) = vL (16 * n + d) r := by
  show (if hexB ((digD u d).toNat : Int) = true then vL (16 * n + hexV ((digD u d).toNat : Int)) r else -1) = _
  rw [if_pos (dig_hex u d h).1, (dig_hex u d h).2]
theorem vL_digF (u : Bool) (e : Nat) : ∀ f m (t : List UInt8), m < 16 ^ f → vL 0 (digF u e f m t) = vL (m : Int) t := by
  intro f
  induction f with
  | zero => intro m t h; have : m = 0 := by simpa using h
            subst this; rfl
  | succ f ih =>
    intro m t h
    by_cases hz : m = 0 ∧ e ≤ t.length
    · rw [digF_zero _ _ _ _ _ hz, hz.1]; rfl
    · rw [show digF u e (f + 1) m t = digF u e f (m / 16) (digD u (m % 16) :: t) from if_neg hz]
      rw [Nat.pow_succ] at h
      rw [ih _ _ (by omega), vL_dig u _ (by omega)]
      congr 1; omega
theorem digF_hex (u : Bool) (e : Nat) : ∀ f m (t : List UInt8), (∀ x ∈ t, hexB (x.toNat : Int) = true) → ∀ x ∈ digF u e f m t, hexB (x.toNat : Int) = true := by
  intro f
  induction f with
  | zero => intro m t h; exact h
  | succ f ih =>
    intro m t h
    by_cases hz : m = 0 ∧ e ≤ t.length
    · rw [digF_zero _ _ _ _ _ hz]; exact h
    · rw [show digF u e (f + 1) m t = digF u e f (m / 16) (digD u (m % 16) :: t) from if_neg hz]
      refine ih _ _ (fun x hx => ?_)
      rcases List.mem_cons.mp hx with rfl | q
      · exact (dig_hex u _ (by omega)).1
      · exact h x q
/-- A piece that is a group's. -/
structure Pc (p : List UInt8) (v : Int) : Prop where
  ne : p ≠ []
  hex : ∀ x ∈ p, hexB (x.toNat : Int) = true
  val : grV (bL p) = v
  nn : 0 ≤ v
theorem Pc.no {p : List UInt8} {v : Int} (h : Pc p v) (c : UInt8) (hc : hexB (c.toNat : Int) = false) : ∀ x ∈ p, x ≠ c := by
  intro x hx e
  have := h.hex x hx
  rw [e, hc] at this
  exact absurd this (by decide)
theorem Pc.nodot {p : List UInt8} {v : Int} (h : Pc p v) : (dotO (bL p)).isSome = false := by
  have := spl_one 46 p (h.no 46 (by decide))
  have e : spl (bL p) 46 (bL p).size 0 0 = [bL p] := this
  unfold dotO
  rw [e, if_neg (by simp)]; rfl
theorem dig_pc (u : Bool) (e n : Nat) (he : 1 ≤ e) (h4 : e ≤ 4) (h : n < 65536) : Pc (digL u e n) (n : Int) := by
  have hl := digL_len u e n h4 h
  refine ⟨fun q => by rw [q] at hl; simp at hl; omega, digF_hex u e 4 n [] (by simp), ?_, by omega⟩
  rw [grV_list _ (by omega) hl.2]
  exact vL_digF u e 4 n [] h
end Go.Proofs.YtdgmfdfhbhmppaaDoor
/-
  What the reference reads of an address written out of its groups, with '::' at a row that is 0, or its last two groups as the other family.
-/
namespace Go.Proofs.YtdgmfdfhbhmppaaDoor
open Go.RowKit
set_option linter.unusedSimpArgs false
set_option linter.unusedVariables false

theorem gs_pcs (pc : Nat → List UInt8) (G : Nat → Int) (last : Bool) : ∀ l : List Nat, (∀ k ∈ l, Pc (pc k) (G k)) → gsG last ((l.map pc).map bL) [] = some (l.map G) := by
  intro l
  induction l with
  | nil => intro _; rfl
  | cons k l ih =>
    intro h
    have hk := h k (by simp)
    have hd := hk.nodot
    show (if last = true ∧ (l.map pc).map bL = [] ∧ (dotO (bL (pc k))).isSome = true then _ else if grV (bL (pc k)) < 0 then none else gsG last ((l.map pc).map bL) ([] ++ [grV (bL (pc k))])) = _
    rw [if_neg (by rw [hd]; simp), hk.val, if_neg (by have := hk.nn; omega), gsG_acc, ih (fun j hj => h j (by simp [hj]))]
    rfl
theorem gs_quad (pc : Nat → List UInt8) (G : Nat → Int) (q : List UInt8) (u : Int) (hq : dotO (bL q) = some u) : ∀ l : List Nat, (∀ k ∈ l, Pc (pc k) (G k)) → gsG true ((l.map pc ++ [q]).map bL) [] = some (l.map G ++ [u / 65536, u % 65536]) := by
  intro l
  induction l with
  | nil =>
    intro _
    show (if true = true ∧ ([] : List ByteArray) = [] ∧ (dotO (bL q)).isSome = true then some ([] ++ [(dotO (bL q)).getD 0 / 65536, (dotO (bL q)).getD 0 % 65536]) else _) = _
    rw [hq, if_pos ⟨rfl, rfl, rfl⟩]; rfl
  | cons k l ih =>
    intro h
    have hk := h k (by simp)
    have hd := hk.nodot
    show (if true = true ∧ (l.map pc ++ [q]).map bL = [] ∧ (dotO (bL (pc k))).isSome = true then _ else if grV (bL (pc k)) < 0 then none else gsG true ((l.map pc ++ [q]).map bL) ([] ++ [grV (bL (pc k))])) = _
    rw [if_neg (by rw [hd]; simp), hk.val, if_neg (by have := hk.nn; omega), gsG_acc, ih (fun j hj => h j (by simp [hj]))]
    rfl
/-- Pieces, none of them empty, none with ':'. -/
def Good (l : List (List UInt8)) : Prop := ∀ p ∈ l, p ≠ [] ∧ ∀ x ∈ p, x ≠ 58
theorem jn_cons (c : UInt8) (p : List UInt8) (l : List (List UInt8)) (h : l ≠ []) : jn c (p :: l) = p ++ c :: jn c l := by
  cases l with
  | nil => exact absurd rfl h
  | cons q l => rfl
theorem jn_head (l : List (List UInt8)) (h : Good l) (hl : l ≠ []) : (jn 58 l).getD 0 0 ≠ 58 ∧ jn 58 l ≠ [] := by
  cases l with
  | nil => exact absurd rfl hl
  | cons p l =>
    obtain ⟨hp, hx⟩ := h p (by simp)
    cases p with
    | nil => exact absurd rfl hp
    | cons x p =>
      have hx0 := hx x (by simp)
      cases l with
      | nil => exact ⟨hx0, by simp [jn]⟩
      | cons q l => exact ⟨hx0, by simp [jn]⟩
theorem jn_last : ∀ (l : List (List UInt8)), Good l → l ≠ [] → (jn 58 l).getD ((jn 58 l).length - 1) 0 ≠ 58
  | [], _, h => absurd rfl h
  | [p], hg, _ => by
    obtain ⟨hp, hx⟩ := hg p (by simp)
    have : 0 < p.length := List.length_pos_iff.mpr hp
    show p.getD (p.length - 1) 0 ≠ 58
    exact hx _ (getD_mem p _ (by omega))
  | p :: q :: l, hg, _ => by
    have hg2 : Good (q :: l) := fun r hr => hg r (by simp at hr ⊢; right; exact hr)
    have ih := jn_last (q :: l) hg2 (by simp)
    have hne := (jn_head (q :: l) hg2 (by simp)).2
    have hpos : 0 < (jn 58 (q :: l)).length := List.length_pos_iff.mpr hne
    show (p ++ 58 :: jn 58 (q :: l)).getD ((p ++ 58 :: jn 58 (q :: l)).length - 1) 0 ≠ 58
    generalize jn 58 (q :: l) = r at *
    have e : (p ++ 58 :: r).length - 1 = p.length + (r.length - 1 + 1) := by simp; omega
    rw [e, getD_right]
    exact ih
def tw (l : List UInt8) (k : Nat) : Prop := l.getD k 0 = 58 ∧ l.getD (k + 1) 0 = 58
theorem both_tw (l : List UInt8) (k : Nat) : both (bL l) k ↔ tw l k := by
  unfold both tw
  rw [bL_at, bL_at, show (58 : Int) = (((58 : UInt8).toNat : Nat) : Int) from rfl, u8_eq, u8_eq]
theorem getD_past (l : List UInt8) (k : Nat) (h : l.length ≤ k) : l.getD k 0 = 0 := by
  rw [List.getD_eq_getElem?_getD, List.getElem?_eq_none h]; rfl
theorem jn_tw : ∀ (l : List (List UInt8)), Good l → ∀ k, ¬ tw (jn 58 l) k
  | [], _, k => fun h => by have := h.1; unfold jn at this; simp at this
  | [p], hg, k => fun h => by
    have h1 : p.getD k 0 = 58 := h.1
    by_cases hk : k < p.length
    · exact (hg p (by simp)).2 _ (getD_mem p k hk) h1
    · rw [getD_past p k (by omega)] at h1; exact absurd h1 (by decide)
  | p :: q :: l, hg, k => fun h => by
    have hg2 : Good (q :: l) := fun r hr => hg r (by simp at hr ⊢; right; exact hr)
    have ih := jn_tw (q :: l) hg2
    have hh := (jn_head (q :: l) hg2 (by simp)).1
    have h' : tw (p ++ 58 :: jn 58 (q :: l)) k := h
    generalize jn 58 (q :: l) = r at *
    by_cases hk : k < p.length
    · have h1 := h'.1
      rw [getD_left _ _ _ hk] at h1
      exact (hg p (by simp)).2 _ (getD_mem p k hk) h1
    · obtain ⟨j, rfl⟩ : ∃ j, k = p.length + j := ⟨k - p.length, by omega⟩
      have h1 := h'.1
      have h2 := h'.2
      rw [getD_right] at h1
      rw [Nat.add_assoc, getD_right] at h2
      cases j with
      | zero => exact hh h2
      | succ j => exact ih j ⟨h1, h2⟩
theorem gsO_jn (l : List (List UInt8)) (last : Bool) (hg : Good l) : gsO (bL (jn 58 l)) last = gsG last (l.map bL) [] := by
  by_cases hl : l = []
  · subst hl; rfl
  · have := (jn_head l hg hl).2
    rw [gsO_full _ _ (by rw [bL_size]; intro e; exact this (List.length_eq_zero_iff.mp e))]
    unfold gsP
    rw [show (58 : Int) = (((58 : UInt8).toNat : Nat) : Int) from rfl, spl_jn 58 l hl (fun p hp => (hg p hp).2)]
/-- No '::'. -/
theorem rs_flat (l : List (List UInt8)) (hg : Good l) (L : List Int) (h : gsG true (l.map bL) [] = some L) (h8 : L.length = 8) : rsO (bL (jn 58 l)) = some L := by
  unfold rsO
  rw [gap_none _ (fun k q => jn_tw l hg k ((both_tw _ _).mp q)), if_pos (by decide)]
  unfold rsA
  rw [gsO_jn l true hg, h]
  show (if L.length = 8 then some L else none) = _
  rw [if_pos h8]
/-- A '::'. -/
theorem rs_gap (l m : List (List UInt8)) (hl : Good l) (hm : Good m) (A B : List Int) (hA : gsG false (l.map bL) [] = some A) (hB : gsG true (m.map bL) [] = some B) (h7 : A.length + B.length ≤ 7) :
    rsO (bL (jn 58 l ++ 58 :: 58 :: jn 58 m)) = some (A ++ List.replicate (8 - (A.length + B.length)) 0 ++ B) := by
  have hgap : gapV (bL (jn 58 l ++ 58 :: 58 :: jn 58 m)) = ((jn 58 l).length : Int) := by
    refine gap_at _ _ ((both_tw _ _).mpr ?_) (fun k hk q => ?_)
    · refine ⟨?_, ?_⟩
      · have := getD_right (jn 58 l) (58 :: 58 :: jn 58 m) 0
        rw [Nat.add_zero] at this; rw [this]; rfl
      · rw [getD_right]; rfl
    · have q' := (both_tw _ _).mp q
      by_cases h : k + 1 < (jn 58 l).length
      · refine jn_tw l hl k ⟨?_, ?_⟩
        · rw [← getD_left _ (58 :: 58 :: jn 58 m) k (by omega)]; exact q'.1
        · rw [← getD_left _ (58 :: 58 :: jn 58 m) (k + 1) h]; exact q'.2
      · have hk2 : k = (jn 58 l).length - 1 := by omega
        have hne : l ≠ [] := fun e => by rw [e] at hk; simp [jn] at hk
        have h1 := q'.1
        rw [getD_left _ _ _ hk, hk2] at h1
        exact jn_last l hl hne h1
  unfold rsO
  rw [hgap, if_neg (by omega), Int.toNat_natCast]
  have e1 : (bL (jn 58 l ++ 58 :: 58 :: jn 58 m)).extract 0 (jn 58 l).length = bL (jn 58 l) := by
    rw [bL_ext]; simp
  have e2 : (bL (jn 58 l ++ 58 :: 58 :: jn 58 m)).extract ((jn 58 l).length + 2) (bL (jn 58 l ++ 58 :: 58 :: jn 58 m)).size = bL (jn 58 m) := by
    rw [bL_ext, bL_size, List.drop_append]
    congr 1
    simp
    rw [List.drop_eq_nil_of_le (by omega), List.nil_append]
    exact List.take_of_length_le (by omega)
  rw [rsB_some _ _ A B (by rw [e1, gsO_jn l false hl]; exact hA) (by rw [e2, gsO_jn m true hm]; exact hB), if_pos h7]

/-- The groups written from i on, s being written: '::' for the b groups from a on, the last two as the other family. -/
def fmG (PC : Nat → ByteArray) (Q : ByteArray) (qd : Bool) (a b : Nat) : Nat → Nat → ByteArray → ByteArray
  | 0, _, s => s
  | f + 1, i, s => if 8 ≤ i then s else if 0 < b ∧ i = a then fmG PC Q qd a b f (i + b) (s ++ ⟨#[58, 58]⟩) else if qd = true ∧ i = 6 then sepS s ++ Q else fmG PC Q qd a b f (i + 1) (sepS s ++ PC i)
theorem sep_H (H : List UInt8) (hH : H = [] ∨ ∃ X, H = X ++ [58]) (l : List (List UInt8)) (hl : Good l) (p : List UInt8) : sepS (bL (H ++ jn 58 l)) ++ bL p = bL (H ++ jn 58 (l ++ [p])) := by
  by_cases h : l = []
  · subst h
    have e : sepS (bL (H ++ jn 58 [])) = bL H := by
      show sepS (bL (H ++ [])) = _
      rw [List.append_nil]
      unfold sepS
      rcases hH with rfl | ⟨X, rfl⟩
      · exact if_pos (Or.inl (by rfl))
      · rw [if_pos (Or.inr ?_)]
        rw [bL_size, bL_at]
        have e : (X ++ [58]).length - 1 = X.length + 0 := by simp
        rw [e, getD_right]; rfl
    rw [e, bL_cat]; rfl
  · have hne := (jn_head l hl h).2
    have hpos : 0 < (jn 58 l).length := List.length_pos_iff.mpr hne
    have hlast := jn_last l hl h
    rw [jn_snoc 58 l p h]
    generalize jn 58 l = r at *
    have e : sepS (bL (H ++ r)) = bL (H ++ r) ++ bL [58] := by
      unfold sepS
      rw [if_neg ?_]; rfl
      rw [bL_size, bL_at]
      rintro (q | q)
      · simp at q; exact hne q.2
      · have e : (H ++ r).length - 1 = H.length + (r.length - 1) := by simp; omega
        rw [e, getD_right, show (58 : Int) = (((58 : UInt8).toNat : Nat) : Int) from rfl, u8_eq] at q
        exact hlast q
    rw [e, bL_cat, bL_cat]
    simp
section
variable (pc : Nat → List UInt8) (q : List UInt8) (a b : Nat)
theorem fm_flat (hp : ∀ k, pc k ≠ [] ∧ ∀ x ∈ pc k, x ≠ 58) (H : List UInt8) (hH : H = [] ∨ ∃ X, H = X ++ [58]) : ∀ n i f (l : List (List UInt8)), i + n = 8 → n ≤ f → Good l → (b = 0 ∨ a < i) →
    fmG (fun k => bL (pc k)) (bL q) false a b f i (bL (H ++ jn 58 l)) = bL (H ++ jn 58 (l ++ (List.range' i n).map pc)) := by
  intro n
  induction n with
  | zero =>
    intro i f l hi hf hl hb
    have : fmG (fun k => bL (pc k)) (bL q) false a b f i (bL (H ++ jn 58 l)) = bL (H ++ jn 58 l) := by
      cases f with
      | zero => rfl
      | succ f => exact if_pos (by omega)
    rw [this]; simp
  | succ n ih =>
    intro i f l hi hf hl hb
    obtain ⟨f, rfl⟩ : ∃ g, f = g + 1 := ⟨f - 1, by omega⟩
    have : fmG (fun k => bL (pc k)) (bL q) false a b (f + 1) i (bL (H ++ jn 58 l)) = fmG (fun k => bL (pc k)) (bL q) false a b f (i + 1) (sepS (bL (H ++ jn 58 l)) ++ bL (pc i)) := by
      show (if 8 ≤ i then _ else if 0 < b ∧ i = a then _ else if false = true ∧ i = 6 then _ else _) = _
      rw [if_neg (by omega), if_neg (by omega), if_neg (by simp)]
    rw [this, sep_H H hH l hl, ih (i + 1) f (l ++ [pc i]) (by omega) (by omega) (fun p h => by
      rcases List.mem_append.mp h with h | h
      · exact hl p h
      · simp at h; rw [h]; exact hp i) (by omega)]
    rw [List.range'_succ]; simp
theorem fm_quad (hp : ∀ k, pc k ≠ [] ∧ ∀ x ∈ pc k, x ≠ 58) (H : List UInt8) (hH : H = [] ∨ ∃ X, H = X ++ [58]) : ∀ n i f (l : List (List UInt8)), i + n = 6 → n + 1 ≤ f → Good l → (b = 0 ∨ a < i) →
    fmG (fun k => bL (pc k)) (bL q) true a b f i (bL (H ++ jn 58 l)) = bL (H ++ jn 58 (l ++ ((List.range' i n).map pc ++ [q]))) := by
  intro n
  induction n with
  | zero =>
    intro i f l hi hf hl hb
    obtain ⟨f, rfl⟩ : ∃ g, f = g + 1 := ⟨f - 1, by omega⟩
    have : fmG (fun k => bL (pc k)) (bL q) true a b (f + 1) i (bL (H ++ jn 58 l)) = sepS (bL (H ++ jn 58 l)) ++ bL q := by
      show (if 8 ≤ i then _ else if 0 < b ∧ i = a then _ else if true = true ∧ i = 6 then _ else _) = _
      rw [if_neg (by omega), if_neg (by omega), if_pos ⟨rfl, by omega⟩]
    rw [this, sep_H H hH l hl]; simp
  | succ n ih =>
    intro i f l hi hf hl hb
    obtain ⟨f, rfl⟩ : ∃ g, f = g + 1 := ⟨f - 1, by omega⟩
    have : fmG (fun k => bL (pc k)) (bL q) true a b (f + 1) i (bL (H ++ jn 58 l)) = fmG (fun k => bL (pc k)) (bL q) true a b f (i + 1) (sepS (bL (H ++ jn 58 l)) ++ bL (pc i)) := by
      show (if 8 ≤ i then _ else if 0 < b ∧ i = a then _ else if true = true ∧ i = 6 then _ else _) = _
      rw [if_neg (by omega), if_neg (by omega), if_neg (by omega)]
    rw [this, sep_H H hH l hl, ih (i + 1) f (l ++ [pc i]) (by omega) (by omega) (fun p h => by
      rcases List.mem_append.mp h with h | h
      · exact hl p h
      · simp at h; rw [h]; exact hp i) (by omega)]
    rw [List.range'_succ]; simp
theorem fm_gap (qd : Bool) (hb : 0 < b) (hq : qd = true → a + b ≤ 6) (hab : a + b ≤ 8) (hp : ∀ k, pc k ≠ [] ∧ ∀ x ∈ pc k, x ≠ 58) : ∀ n i f (l : List (List UInt8)), i + n = a → Good l →
    fmG (fun k => bL (pc k)) (bL q) qd a b (f + n + 1) i (bL (jn 58 l)) = fmG (fun k => bL (pc k)) (bL q) qd a b f (a + b) (bL (jn 58 (l ++ (List.range' i n).map pc) ++ [58, 58])) := by
  intro n
  induction n with
  | zero =>
    intro i f l hi hl
    have : fmG (fun k => bL (pc k)) (bL q) qd a b (f + 0 + 1) i (bL (jn 58 l)) = fmG (fun k => bL (pc k)) (bL q) qd a b f (i + b) (bL (jn 58 l) ++ ⟨#[58, 58]⟩) := by
      show (if 8 ≤ i then _ else if 0 < b ∧ i = a then _ else if qd = true ∧ i = 6 then _ else _) = _
      rw [if_neg (by omega), if_pos ⟨hb, by omega⟩]
    rw [this, show i + b = a + b by omega]
    have e : (bL (jn 58 l) ++ ⟨#[58, 58]⟩ : ByteArray) = bL (jn 58 l ++ [58, 58]) := bL_cat _ [58, 58]
    rw [e]; simp
  | succ n ih =>
    intro i f l hi hl
    have : fmG (fun k => bL (pc k)) (bL q) qd a b (f + (n + 1) + 1) i (bL (jn 58 l)) = fmG (fun k => bL (pc k)) (bL q) qd a b (f + n + 1) (i + 1) (sepS (bL (jn 58 l)) ++ bL (pc i)) := by
      show (if 8 ≤ i then _ else if 0 < b ∧ i = a then _ else if qd = true ∧ i = 6 then _ else _) = _
      rw [if_neg (by omega), if_neg (by omega), if_neg (fun z => by have := hq z.1; omega)]
      rfl
    have hs := sep_H [] (Or.inl rfl) l hl (pc i)
    rw [List.nil_append, List.nil_append] at hs
    rw [this, hs, ih (i + 1) f (l ++ [pc i]) (by omega) (fun p h => by
      rcases List.mem_append.mp h with h | h
      · exact hl p h
      · simp at h; rw [h]; exact hp i)]
    rw [List.range'_succ]; simp
end
/-- What is read of it: the groups. -/
theorem fm_reads (pc : Nat → List UInt8) (G : Nat → Int) (q : List UInt8) (qd : Bool) (a b : Nat) (hp : ∀ k, Pc (pc k) (G k)) (hz : ∀ k, a ≤ k → k < a + b → G k = 0) (hab : a + b ≤ 8)
    (hq1 : qd = true → (b = 0 ∨ a + b ≤ 6)) (hq2 : ∀ x ∈ q, x ≠ 58) (hq3 : dotO (bL q) = some (G 6 * 65536 + G 7)) (hG : 0 ≤ G 7 ∧ G 7 ≤ 65535) :
    rsO (fmG (fun k => bL (pc k)) (bL q) qd a b 9 0 ⟨#[]⟩) = some ((List.range' 0 8).map G) := by
  have hp' : ∀ k, pc k ≠ [] ∧ ∀ x ∈ pc k, x ≠ 58 := fun k => ⟨(hp k).ne, (hp k).no 58 (by decide)⟩
  have hgood : ∀ l : List Nat, Good (l.map pc) := fun l p h => by
    obtain ⟨k, -, rfl⟩ := List.mem_map.mp h
    exact hp' k
  have hqne : q ≠ [] := fun e => by
    rw [e] at hq3
    have : dotO (bL []) = none := by decide +kernel
    rw [this] at hq3; cases hq3
  have hgoodq : ∀ l : List Nat, Good (l.map pc ++ [q]) := fun l p h => by
    rcases List.mem_append.mp h with h | h
    · exact hgood l p h
    · simp at h; rw [h]; exact ⟨hqne, hq2⟩
  have e67 : [(G 6 * 65536 + G 7) / 65536, (G 6 * 65536 + G 7) % 65536] = (List.range' 6 2).map G := by
    show _ = [G 6, G 7]
    congr 1
    · omega
    · congr 1; omega
  have h0 : (⟨#[]⟩ : ByteArray) = bL ([] ++ jn 58 []) := rfl
  by_cases hb : b = 0
  · cases qd
    · rw [h0, fm_flat pc q a b hp' [] (Or.inl rfl) 8 0 9 [] rfl (by omega) (fun p h => by cases h) (Or.inl hb)]
      rw [List.nil_append, List.nil_append]
      exact rs_flat _ (hgood _) _ (gs_pcs pc G true _ (fun k _ => hp k)) rfl
    · rw [h0, fm_quad pc q a b hp' [] (Or.inl rfl) 6 0 9 [] rfl (by omega) (fun p h => by cases h) (Or.inl hb)]
      rw [List.nil_append, List.nil_append]
      have := gs_quad pc G q _ hq3 (List.range' 0 6) (fun k _ => hp k)
      rw [e67] at this
      exact rs_flat _ (hgoodq _) _ this rfl
  · have hz' : List.replicate b (0 : Int) = (List.range' a b).map G := by
      apply List.ext_getElem
      · simp
      · intro k h1 h2
        simp at h1 h2 ⊢
        exact (hz _ (by omega) (by omega)).symm
    have hgap := fm_gap pc q a b qd (by omega) (fun e => by have := hq1 e; omega) hab hp' a 0 (8 - a) [] (by omega) (fun p h => by cases h)
    have hs : fmG (fun k => bL (pc k)) (bL q) qd a b 9 0 ⟨#[]⟩ = fmG (fun k => bL (pc k)) (bL q) qd a b (8 - a) (a + b) (bL (jn 58 ([] ++ (List.range' 0 a).map pc) ++ [58, 58])) := by
      rw [← hgap, show 8 - a + a + 1 = 9 by omega]; rfl
    rw [hs, List.nil_append]
    have hX : ∀ X : List UInt8, X ++ [58, 58] = [] ∨ ∃ Y, X ++ [58, 58] = Y ++ [58] := fun X => Or.inr ⟨X ++ [58], by simp⟩
    have hj : ∀ X : List UInt8, bL (X ++ [58, 58]) = bL ((X ++ [58, 58]) ++ jn 58 []) := fun X => by rw [show jn 58 [] = [] from rfl, List.append_nil]
    have hA := gs_pcs pc G false (List.range' 0 a) (fun k _ => hp k)
    rw [hj]
    cases qd
    · rw [fm_flat pc q a b hp' _ (hX _) (8 - (a + b)) (a + b) (8 - a) [] (by omega) (by omega) (fun p h => by cases h) (Or.inr (by omega))]
      rw [List.nil_append, List.append_assoc]
      have := rs_gap ((List.range' 0 a).map pc) ((List.range' (a + b) (8 - (a + b))).map pc) (hgood _) (hgood _) _ _ hA (gs_pcs pc G true _ (fun k _ => hp k)) (by simp; omega)
      refine this.trans ?_
      congr 1
      simp only [List.length_map, List.length_range']
      rw [show 8 - (a + (8 - (a + b))) = b by omega, hz', ← List.map_append, ← List.map_append]
      congr 1
      rw [show List.range' a b = List.range' (0 + a) b by rw [Nat.zero_add], List.range'_append_1, show List.range' (a + b) (8 - (a + b)) = List.range' (0 + (a + b)) (8 - (a + b)) by rw [Nat.zero_add], List.range'_append_1]
      congr 1; omega
    · have h6 := hq1 rfl
      rw [fm_quad pc q a b hp' _ (hX _) (6 - (a + b)) (a + b) (8 - a) [] (by omega) (by omega) (fun p h => by cases h) (Or.inr (by omega))]
      rw [List.nil_append, List.append_assoc]
      have hB := gs_quad pc G q _ hq3 (List.range' (a + b) (6 - (a + b))) (fun k _ => hp k)
      rw [e67, ← List.map_append] at hB
      have := rs_gap ((List.range' 0 a).map pc) ((List.range' (a + b) (6 - (a + b))).map pc ++ [q]) (hgood _) (hgoodq _) _ _ hA hB (by simp; omega)
      refine this.trans ?_
      congr 1
      simp only [List.length_map, List.length_range', List.length_append]
      rw [show 8 - (a + (6 - (a + b) + 2)) = b by omega, hz', ← List.map_append, ← List.map_append]
      congr 1
      rw [show List.range' a b = List.range' (0 + a) b by rw [Nat.zero_add], List.range'_append_1, ← List.append_assoc, show List.range' (a + b) (6 - (a + b)) = List.range' (0 + (a + b)) (6 - (a + b)) by rw [Nat.zero_add], List.range'_append_1]
      rw [show a + b + (6 - (a + b)) = 6 by omega]
      rfl
end Go.Proofs.YtdgmfdfhbhmppaaDoor
/-
  Plain facts: the reference's Text of the family 128 is an address written out of its groups.
-/
namespace Go.Proofs.YtdgmfdfhbhmppaaDoor
open Go.RowKit
set_option linter.unusedSimpArgs false
set_option linter.unusedVariables false

theorem dig_hexD (d : Nat) : digD false d = hexD d := by unfold digD hexD; simp
theorem dig_hexF : ∀ f m (t : List UInt8), digF false 1 f m t = hexF f m t := by
  intro f
  induction f with
  | zero => intro m t; rfl
  | succ f ih =>
    intro m t
    have e : (1 ≤ t.length) = (¬ t = []) := by
      cases t with
      | nil => simp
      | cons a l => simp
    show (if m = 0 ∧ 1 ≤ t.length then t else digF false 1 f (m / 16) (digD false (m % 16) :: t)) = (if m = 0 ∧ ¬ t = [] then t else hexF f (m / 16) (hexD (m % 16) :: t))
    rw [dig_hexD, ih]
    simp only [e]
theorem dig_hexL (n : Nat) (h : n < 65536) : digL false 1 n = hexL n := by
  unfold digL hexL
  rw [dig_hexF]
  exact hexF_fuel 4 20 n [] h (by omega) (fun _ => by omega)
theorem tx_fm (G : Nat → Int) (Q : ByteArray) (a b : Nat) : ∀ f i s, txG G a b f i s = fmG (fun k => bL (hexL (G k).toNat)) Q false a (if 1 < b then b else 0) f i s := by
  intro f
  induction f with
  | zero => intro i s; rfl
  | succ f ih =>
    intro i s
    show (if 8 ≤ i then s else if 1 < b ∧ i = a then txG G a b f (i + b) (s ++ ⟨#[58, 58]⟩) else txG G a b f (i + 1) (sepS s ++ ⟨(hexL (G i).toNat).toArray⟩)) = (if 8 ≤ i then s else if 0 < (if 1 < b then b else 0) ∧ i = a then fmG _ Q false a (if 1 < b then b else 0) f (i + (if 1 < b then b else 0)) (s ++ ⟨#[58, 58]⟩) else if false = true ∧ i = 6 then sepS s ++ Q else fmG _ Q false a (if 1 < b then b else 0) f (i + 1) (sepS s ++ bL (hexL (G i).toNat)))
    by_cases h8 : 8 ≤ i
    · rw [if_pos h8, if_pos h8]
    · rw [if_neg h8, if_neg h8, ih, ih]
      by_cases hb : 1 < b
      · simp only [hb, if_true, true_and]
        have : (0 < b) = True := by simp; omega
        simp only [this, true_and]
        split
        · rfl
        · simp; rfl
      · simp only [hb, if_false, false_and]
        simp; rfl
theorem rnG_zero (G : Nat → Int) (i : Nat) : ∀ f n, (∀ k, k < n → G (i + k) = 0) → ∀ k, k < rnG G i f n → G (i + k) = 0 := by
  intro f
  induction f with
  | zero => intro n h; exact h
  | succ f ih =>
    intro n h
    by_cases hc : i + n < 8 ∧ G (i + n) = 0
    · have e : rnG G i (f + 1) n = rnG G i f (n + 1) := if_pos hc
      rw [e]
      refine ih (n + 1) (fun k hk => ?_)
      by_cases q : k = n
      · subst q; exact hc.2
      · exact h k (by omega)
    · have e : rnG G i (f + 1) n = n := if_neg hc
      rw [e]; exact h
theorem bsG_zero (G : Nat → Int) : ∀ f i a b, (1 < b → ∀ k, a ≤ k → k < a + b → G k = 0) → (1 < (bsG G f i a b).2 → ∀ k, (bsG G f i a b).1 ≤ k → k < (bsG G f i a b).1 + (bsG G f i a b).2 → G k = 0) := by
  intro f
  induction f with
  | zero => intro i a b h; exact h
  | succ f ih =>
    intro i a b h
    by_cases hc : b < rnG G i 9 0
    · have e : bsG G (f + 1) i a b = bsG G f (i + 1) i (rnG G i 9 0) := if_pos hc
      rw [e]
      refine ih _ _ _ (fun _ k h1 h2 => ?_)
      have := rnG_zero G i 9 0 (fun k hk => by omega) (k - i) (by omega)
      rw [show i + (k - i) = k by omega] at this
      exact this
    · have e : bsG G (f + 1) i a b = bsG G f (i + 1) a b := if_neg hc
      rw [e]
      exact ih _ _ _ h
theorem grpX_any (x : BitVec 128) (k : Nat) : 0 ≤ grpX x k ∧ grpX x k ≤ 65535 := by
  unfold grpX readW
  exact part16_bd x (k : Int)
/-- The reference reads its own text: the groups. -/
theorem text6_reads (x : BitVec 128) : rsO (text6 x) = some ((List.range' 0 8).map (grpX x)) := by
  have hG := grpX_any x
  have hbd := bsG_bd (grpX x) 8 0 0 1 (by omega) (by omega) (by omega)
  have hz := bsG_zero (grpX x) 8 0 0 1 (fun h => by omega)
  unfold text6
  generalize grpX x = G at *
  generalize (bsG G 8 0 0 1).1 = a at *
  generalize (bsG G 8 0 0 1).2 = b at *
  have h6 := hG 6
  have h7 := hG 7
  rw [tx_fm G (bL (quadL ((G 6).toNat / 256) ((G 6).toNat % 256) ((G 7).toNat / 256) ((G 7).toNat % 256))) a b]
  refine fm_reads (fun k => hexL (G k).toNat) G _ false a (if 1 < b then b else 0) (fun k => ?_) ?_ ?_ (fun q => by cases q) (quad_no _ _ _ _ (by omega) (by omega) (by omega) (by omega)) ?_ h7
  · have hk := hG k
    have := dig_pc false 1 (G k).toNat (by omega) (by omega) (by omega)
    rw [Int.toNat_of_nonneg hk.1, dig_hexL _ (by omega)] at this
    exact this
  · intro k h1 h2
    by_cases hb : 1 < b
    · rw [if_pos hb] at h2; exact hz hb k h1 h2
    · rw [if_neg hb] at h2; omega
  · split <;> omega
  · rw [dot_quad _ _ _ _ (by omega) (by omega) (by omega) (by omega)]
    congr 1
    omega
theorem hI_small (y : BitVec 128) : hI (y >>> 112) = 0 := by
  unfold hI hv
  rw [BitVec.extractLsb'_toNat]
  have : (y >>> 112).toNat < 65536 := by
    rw [BitVec.toNat_ushiftRight, Nat.shiftRight_eq_div_pow]
    have := y.isLt
    omega
  have e : (y >>> 112).toNat >>> 64 = 0 := by rw [Nat.shiftRight_eq_div_pow]; omega
  rw [e]; rfl
theorem gW_x (x : BitVec 128) (L : List Int) (hL : ∀ k, k < 8 → L.getD k 0 = grpX x k) : ∀ k, k ≤ 8 → gW L k = x >>> (128 - 16 * k) := by
  intro k
  induction k with
  | zero =>
    intro _
    show 0#128 = _
    apply BitVec.eq_of_getLsbD_eq
    intro i hi
    simp
  | succ k ih =>
    intro hk
    have e : gW L (k + 1) = (gW L k <<< 16) ||| mkW 0 (L.getD k 0) := rfl
    rw [e, ih (by omega), hL k (by omega)]
    have hm : mkW 0 (grpX x k) = (x <<< (16 * k)) >>> 112 := by
      have e0 : (x <<< (16 * k)) >>> 112 = readW x (16 * (k : Int)) 16 := by
        unfold readW
        rw [show (16 * (k : Int)).toNat = 16 * k by omega]; rfl
      have h0 : hI (readW x (16 * (k : Int)) 16) = 0 := by rw [← e0]; exact hI_small _
      have := mk_ints (readW x (16 * (k : Int)) 16)
      rw [h0] at this
      rw [e0]
      exact this
    rw [hm]
    apply BitVec.eq_of_getLsbD_eq
    intro i hi
    simp only [BitVec.getLsbD_or, BitVec.getLsbD_shiftLeft, BitVec.getLsbD_ushiftRight]
    by_cases h : i < 16
    · have e1 : (decide (i < 16)) = true := by simp [h]
      simp only [e1]
      rw [show 128 - 16 * (k + 1) + i = 112 + i - 16 * k by omega]
      have e2 : decide (112 + i < 128) = true := by simp; omega
      have e3 : decide (112 + i < 16 * k) = false := by simp; omega
      simp [e2, e3, hi]
    · have e1 : (decide (i < 16)) = false := by simp; omega
      have e2 : decide (112 + i < 128) = false := by simp; omega
      simp only [e1, e2]
      rw [show 128 - 16 * (k + 1) + i = 128 - 16 * k + (i - 16) by omega]
      simp [hi]
/-- The reference's text of an address of the family 128 is read as it. -/
theorem text6_back (x : BitVec 128) : rpE 128 (text6 x) = 0 ∧ rpV 128 (text6 x) = x := by
  have h := text6_reads x
  have hs := rs_short _ _ h
  have hf : fam 128 = true := by decide
  constructor
  · unfold rpE
    rw [if_neg (by rw [hf]; simp), if_neg (by omega), if_neg (by decide), h]; rfl
  · unfold rpV
    rw [if_neg (by rw [hf]; simp; omega), if_neg (by decide), h]
    show gW _ 8 = x
    rw [gW_x x _ (fun k hk => by rw [List.getD_eq_getElem?_getD, List.getElem?_map, List.getElem?_range' hk]; simp) 8 (by omega)]
    simp
end Go.Proofs.YtdgmfdfhbhmppaaDoor
/-
  Plain facts on the texts of addresses: how the reference's text of the family 128 is put together; digits.
-/
namespace Go.Proofs.YtdgmfdfhbhmppaaDoor
open Go.RowKit
set_option linter.unusedSimpArgs false
set_option linter.unusedVariables false

theorem bsG_start (G : Nat → Int) : ∀ f i a b a' b', b' = max b 1 → (2 ≤ b → a = a') →
    (bsG G f i a' b').2 = max (bsG G f i a b).2 1 ∧ (2 ≤ (bsG G f i a b).2 → (bsG G f i a b).1 = (bsG G f i a' b').1) := by
  intro f
  induction f with
  | zero => intro i a b a' b' h1 h2; exact ⟨h1, h2⟩
  | succ f ih =>
    intro i a b a' b' h1 h2
    show (if b' < rnG G i 9 0 then bsG G f (i + 1) i (rnG G i 9 0) else bsG G f (i + 1) a' b').2 = max (if b < rnG G i 9 0 then bsG G f (i + 1) i (rnG G i 9 0) else bsG G f (i + 1) a b).2 1 ∧ (2 ≤ (if b < rnG G i 9 0 then bsG G f (i + 1) i (rnG G i 9 0) else bsG G f (i + 1) a b).2 → (if b < rnG G i 9 0 then bsG G f (i + 1) i (rnG G i 9 0) else bsG G f (i + 1) a b).1 = (if b' < rnG G i 9 0 then bsG G f (i + 1) i (rnG G i 9 0) else bsG G f (i + 1) a' b').1)
    generalize rnG G i 9 0 = n
    by_cases hb : b < n
    · by_cases hb' : b' < n
      · rw [if_pos hb, if_pos hb']
        exact ih _ _ _ _ _ (by omega) (fun _ => rfl)
      · rw [if_pos hb, if_neg hb']
        exact ih _ _ _ _ _ (by omega) (fun h => by omega)
    · rw [if_neg hb, if_neg (by omega)]
      exact ih _ _ _ _ _ h1 h2
/-- The groups' texts. -/
def pcX (x : BitVec 128) (k : Nat) : List UInt8 := hexL (grpX x k).toNat
theorem pcX_ok (x : BitVec 128) (k : Nat) : pcX x k ≠ [] ∧ ∀ c ∈ pcX x k, c ≠ 58 := by
  have hk := grpX_any x k
  have := dig_pc false 1 (grpX x k).toNat (by omega) (by omega) (by omega)
  rw [dig_hexL _ (by omega)] at this
  exact ⟨this.ne, this.no 58 (by decide)⟩
def rowA (x : BitVec 128) : Nat := (bsG (grpX x) 8 0 0 0).1
def rowN (x : BitVec 128) : Nat := (bsG (grpX x) 8 0 0 0).2
theorem text6_flat (x : BitVec 128) (h : rowN x < 2) : text6 x = bL (jn 58 ((List.range' 0 8).map (pcX x))) := by
  have hs := bsG_start (grpX x) 8 0 0 0 0 1 (by omega) (fun h => by omega)
  have hb : ¬ 1 < (bsG (grpX x) 8 0 0 1).2 := by rw [hs.1]; unfold rowN at h; omega
  unfold text6
  rw [tx_fm (grpX x) (bL []), if_neg hb]
  have := fm_flat (pcX x) [] (bsG (grpX x) 8 0 0 1).1 0 (pcX_ok x) [] (Or.inl rfl) 8 0 9 [] (by omega) (by omega) (fun p h => by cases h) (Or.inl rfl)
  simp only [jn, List.append_nil, List.nil_append] at this
  exact this
theorem row_bd (x : BitVec 128) (h : ¬ rowN x < 2) : rowA x + rowN x ≤ 8 := by
  have hs := bsG_start (grpX x) 8 0 0 0 0 1 (by omega) (fun h => by omega)
  have hbd := bsG_bd (grpX x) 8 0 0 1 (by omega) (by omega) (by omega)
  unfold rowN at *; unfold rowA
  rw [hs.2 (by omega)]
  have := hs.1
  omega
theorem text6_gap (x : BitVec 128) (h : ¬ rowN x < 2) : text6 x = bL (jn 58 ((List.range' 0 (rowA x)).map (pcX x)) ++ [58, 58] ++ jn 58 ((List.range' (rowA x + rowN x) (8 - (rowA x + rowN x))).map (pcX x))) := by
  have hs := bsG_start (grpX x) 8 0 0 0 0 1 (by omega) (fun h => by omega)
  have hbd := row_bd x h
  have e2 : (bsG (grpX x) 8 0 0 1).2 = rowN x := by rw [hs.1]; unfold rowN at *; omega
  have e1 : (bsG (grpX x) 8 0 0 1).1 = rowA x := by rw [← hs.2 (by unfold rowN at h; omega)]; rfl
  have hb : 1 < rowN x := by omega
  unfold text6
  rw [tx_fm (grpX x) (bL []), e1, e2, if_pos hb]
  generalize rowA x = a at *
  generalize rowN x = b at *
  have h1 := fm_gap (pcX x) [] a b false (by omega) (fun q => by cases q) hbd (pcX_ok x) a 0 (8 - a) [] (by omega) (fun p h => by cases h)
  have h2 := fm_flat (pcX x) [] a b (pcX_ok x) (jn 58 ((List.range' 0 a).map (pcX x)) ++ [58, 58]) (Or.inr ⟨jn 58 ((List.range' 0 a).map (pcX x)) ++ [58], by simp⟩) (8 - (a + b)) (a + b) (8 - a) [] (by omega) (by omega) (fun p h => by cases h) (Or.inr (by omega))
  have e9 : 8 - a + a + 1 = 9 := by omega
  rw [e9] at h1
  simp only [jn, List.append_nil, List.nil_append] at h1 h2
  have e0 : bL [] = (⟨#[]⟩ : ByteArray) := rfl
  rw [e0] at h1
  exact h1.trans h2

theorem decL_lib_fin : ∀ n : Fin 256, decL n.val = (if n.val < 10 then [UInt8.ofNat (48 + n.val)] else if n.val < 100 then [UInt8.ofNat (48 + n.val / 10), UInt8.ofNat (48 + n.val % 10)] else [UInt8.ofNat (48 + n.val / 100), UInt8.ofNat (48 + n.val / 10 % 10), UInt8.ofNat (48 + n.val % 10)]) := by decide +kernel
theorem decL_lib (n : Nat) (h : n < 256) : Lib.decDigits n = decL n := by
  rw [decL_lib_fin ⟨n, h⟩]
  show _ = (if n < 10 then _ else if n < 100 then _ else _)
  by_cases h1 : n < 10
  · rw [if_pos h1, Lib.decDigits_one h1]
  · by_cases h2 : n < 100
    · rw [if_neg h1, if_pos h2, Lib.decDigits_two h1 h2]
    · rw [if_neg h1, if_neg h2, Lib.decDigits, dif_neg h1, Lib.decDigits_two (by omega) (by omega)]
      have e : n / 10 / 10 = n / 100 := by omega
      rw [e]; rfl
theorem hexF_go (f m : Nat) (t : List UInt8) (h : ¬ m = 0 ∨ t = []) : hexF (f + 1) m t = hexF f (m / 16) (hexD (m % 16) :: t) := by
  show (if m = 0 ∧ ¬ t = [] then t else hexF f (m / 16) (hexD (m % 16) :: t)) = _
  rw [if_neg ?_]
  rintro ⟨h1, h2⟩
  rcases h with h | h
  · exact h h1
  · exact h2 h
theorem hexF_last (f m : Nat) (t : List UInt8) (h : ¬ m = 0 ∨ t = []) (hm : m < 16) : hexF (f + 1) m t = hexD m :: t := by
  rw [hexF_go f m t h, Nat.div_eq_of_lt hm, Nat.mod_eq_of_lt hm]
  exact hexF_zero f 0 _ ⟨rfl, by simp⟩
end Go.Proofs.YtdgmfdfhbhmppaaDoor
