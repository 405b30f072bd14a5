/-
  Plain facts on texts: pieces joined and taken apart again; what the reference reads of an address that is written out of its groups.
-/
import Derived.Test.YtpchhfhdepkbcaaDoorPure6
import Derived.Test.YtpchhfhdepkbcaaDoorFormD
import Derived.Test.YtpchhfhdepkbcaaDoorRefL
namespace Go.Proofs.YtpchhfhdepkbcaaDoor
open Go.RowKit
set_option linter.unusedSimpArgs false
set_option linter.unusedVariables false

def bL (l : List UInt8) : ByteArray := ⟨l.toArray⟩
theorem bL_size (l : List UInt8) : (bL l).size = l.length := rfl
theorem bL_list (l : List UInt8) : (bL l).data.toList = l := rfl
theorem bL_cat (l m : List UInt8) : bL l ++ bL m = bL (l ++ m) := by
  apply ByteArray.ext; simp [bL]
theorem bL_at (l : List UInt8) (k : Nat) : byteAt (bL l) k = ((l.getD k 0).toNat : Int) := by
  unfold byteAt
  by_cases h : k < l.length
  · rw [dif_pos (by rw [bL_size]; exact h), List.getD_eq_getElem?_getD, List.getElem?_eq_getElem h]
    rfl
  · rw [dif_neg (by rw [bL_size]; exact h), List.getD_eq_getElem?_getD, List.getElem?_eq_none (by omega)]
    rfl
theorem bL_ext (l : List UInt8) (a b : Nat) : (bL l).extract a b = bL ((l.drop a).take (b - a)) := by
  rw [Lib.extract_eq]; rfl
theorem u8_eq (a b : UInt8) : ((a.toNat : Int) = (b.toNat : Int)) ↔ a = b := by
  constructor
  · intro h; exact UInt8.toNat_inj.mp (by omega)
  · intro h; rw [h]
theorem getD_mem (l : List UInt8) (k : Nat) (h : k < l.length) : l.getD k 0 ∈ l := by
  rw [List.getD_eq_getElem?_getD, List.getElem?_eq_getElem h]; exact List.getElem_mem h
theorem getD_left (l m : List UInt8) (k : Nat) (h : k < l.length) : (l ++ m).getD k 0 = l.getD k 0 := by
  rw [List.getD_eq_getElem?_getD, List.getD_eq_getElem?_getD, List.getElem?_append_left h]
theorem getD_right (l m : List UInt8) (k : Nat) : (l ++ m).getD (l.length + k) 0 = m.getD k 0 := by
  rw [List.getD_eq_getElem?_getD, List.getD_eq_getElem?_getD, List.getElem?_append_right (by omega)]
  rw [Nat.add_sub_cancel_left]

theorem spl_more (c : UInt8) (p r : List UInt8) (hp : ∀ x ∈ p, x ≠ c) :
    spl (bL (p ++ c :: r)) (c.toNat : Int) (bL (p ++ c :: r)).size 0 0 = bL p :: spl (bL r) (c.toNat : Int) (bL r).size 0 0 := by
  have hat : byteAt (bL (p ++ c :: r)) p.length = (c.toNat : Int) := by
    have := getD_right p (c :: r) 0
    rw [Nat.add_zero] at this
    rw [bL_at, this]; rfl
  have hsz : (bL (p ++ c :: r)).size = p.length + 1 + r.length := by rw [bL_size]; simp; omega
  obtain ⟨j, hj, hno, hw⟩ := spl_first (bL (p ++ c :: r)) (c.toNat : Int)
  have hjp : j = p.length := by
    rcases Nat.lt_trichotomy j p.length with q | q | q
    · exfalso
      rcases hw with ⟨e, -⟩ | ⟨-, e, -⟩
      · omega
      · rw [bL_at, getD_left _ _ _ q, u8_eq] at e
        exact hp _ (getD_mem p j q) e
    · exact q
    · exact absurd hat (hno _ q)
  subst hjp
  rcases hw with ⟨e, -⟩ | ⟨-, -, e⟩
  · omega
  · rw [e, bL_ext, bL_ext]
    have e1 : ((p ++ c :: r).drop 0).take (p.length - 0) = p := by simp
    have e2 : ((p ++ c :: r).drop (p.length + 1)).take ((bL (p ++ c :: r)).size - (p.length + 1)) = r := by
      rw [hsz, List.drop_append]
      simp
      rw [List.drop_eq_nil_of_le (by omega), List.nil_append, List.take_length]
    rw [e1, e2]
theorem spl_one (c : UInt8) (p : List UInt8) (hp : ∀ x ∈ p, x ≠ c) : spl (bL p) (c.toNat : Int) (bL p).size 0 0 = [bL p] := by
  obtain ⟨j, hj, hno, hw⟩ := spl_first (bL p) (c.toNat : Int)
  rcases hw with ⟨-, e⟩ | ⟨q, e, -⟩
  · exact e
  · exfalso
    rw [bL_size] at q
    rw [bL_at, u8_eq] at e
    exact hp _ (getD_mem p j q) e
/-- Pieces with c between two. -/
def jn (c : UInt8) : List (List UInt8) → List UInt8
  | [] => []
  | [p] => p
  | p :: q :: l => p ++ c :: jn c (q :: l)
theorem spl_jn (c : UInt8) : ∀ l : List (List UInt8), l ≠ [] → (∀ p ∈ l, ∀ x ∈ p, x ≠ c) → spl (bL (jn c l)) (c.toNat : Int) (bL (jn c l)).size 0 0 = l.map bL
  | [], h, _ => absurd rfl h
  | [p], _, hp => spl_one c p (hp p (by simp))
  | p :: q :: l, _, hp => by
    show spl (bL (p ++ c :: jn c (q :: l))) _ (bL (p ++ c :: jn c (q :: l))).size 0 0 = _
    rw [spl_more c p _ (hp p (by simp)), spl_jn c (q :: l) (by simp) (fun p' h => hp p' (by simp at h ⊢; right; exact h))]
    rfl
theorem jn_snoc (c : UInt8) : ∀ (l : List (List UInt8)) (p : List UInt8), l ≠ [] → jn c (l ++ [p]) = jn c l ++ c :: p
  | [], _, h => absurd rfl h
  | [q], p, _ => rfl
  | q :: r :: l, p, _ => by
    show q ++ c :: jn c (r :: l ++ [p]) = (q ++ c :: jn c (r :: l)) ++ c :: p
    rw [jn_snoc c (r :: l) p (by simp)]
    simp

/-- Four numbers with points between are one number. -/
theorem dec_oct : ∀ a, a < 256 → octV (bL (decL a)) = (a : Int) ∧ (∀ x ∈ decL a, x ≠ 46) ∧ (∀ x ∈ decL a, x ≠ 58) ∧ ¬ decL a = [] := by decide +kernel
def quadL (a b c d : Nat) : List UInt8 := jn 46 [decL a, decL b, decL c, decL d]
theorem dot_quad (a b c d : Nat) (ha : a < 256) (hb : b < 256) (hc : c < 256) (hd : d < 256) :
    dotO (bL (quadL a b c d)) = some ((((a * 256 + b) * 256 + c) * 256 + d : Nat) : Int) := by
  have e := spl_jn 46 [decL a, decL b, decL c, decL d] (by simp) (by
    intro p hp
    simp at hp
    rcases hp with rfl | rfl | rfl | rfl
    · exact (dec_oct a ha).2.1
    · exact (dec_oct b hb).2.1
    · exact (dec_oct c hc).2.1
    · exact (dec_oct d hd).2.1)
  have e' : spl (bL (quadL a b c d)) 46 (bL (quadL a b c d)).size 0 0 = [decL a, decL b, decL c, decL d].map bL := e
  unfold dotO
  rw [e', if_pos (by simp)]
  simp only [List.map_cons, List.map_nil, dotG]
  rw [(dec_oct a ha).1, (dec_oct b hb).1, (dec_oct c hc).1, (dec_oct d hd).1]
  rw [if_neg (by omega), if_neg (by omega), if_neg (by omega), if_neg (by omega)]
  congr 1
  omega
theorem quad_no (a b c d : Nat) (ha : a < 256) (hb : b < 256) (hc : c < 256) (hd : d < 256) : ∀ x ∈ quadL a b c d, x ≠ 58 := by
  intro x hx
  unfold quadL jn jn jn jn at hx
  simp at hx
  rcases hx with h | rfl | h | rfl | h | rfl | h
  · exact (dec_oct a ha).2.2.1 x h
  · decide
  · exact (dec_oct b hb).2.2.1 x h
  · decide
  · exact (dec_oct c hc).2.2.1 x h
  · decide
  · exact (dec_oct d hd).2.2.1 x h

/-- What a piece's digits say. -/
def vL : Int → List UInt8 → Int
  | n, [] => n
  | n, c :: r => if hexB (c.toNat : Int) = true then vL (16 * n + hexV (c.toNat : Int)) r else -1
theorem grG_list : ∀ (l p : List UInt8) (n : Int), grG (bL (p ++ l)) l.length p.length n = vL n l := by
  intro l
  induction l with
  | nil => intro p n; rfl
  | cons c r ih =>
    intro p n
    have hat : byteAt (bL (p ++ c :: r)) p.length = (c.toNat : Int) := by
      have := getD_right p (c :: r) 0
      rw [Nat.add_zero] at this
      rw [bL_at, this]; rfl
    show (if hexB (byteAt (bL (p ++ c :: r)) p.length) = true then grG (bL (p ++ c :: r)) r.length (p.length + 1) (16 * n + hexV (byteAt (bL (p ++ c :: r)) p.length)) else -1) = _
    rw [hat]
    have := ih (p ++ [c]) (16 * n + hexV (c.toNat : Int))
    rw [List.append_assoc, List.length_append] at this
    have t2 : grG (bL (p ++ c :: r)) r.length (p.length + 1) (16 * n + hexV (c.toNat : Int)) = vL (16 * n + hexV (c.toNat : Int)) r := this
    rw [t2]; rfl
theorem grV_list (l : List UInt8) (h1 : 1 ≤ l.length) (h4 : l.length ≤ 4) : grV (bL l) = vL 0 l := by
  unfold grV
  rw [bL_size, if_neg (by omega)]
  exact grG_list l [] 0
theorem dig_hex : ∀ u d, d < 16 → hexB ((digD u d).toNat : Int) = true ∧ hexV ((digD u d).toNat : Int) = (d : Int) := by
  intro u
  cases u
  · decide +kernel
  · decide +kernel
theorem vL_dig (u : Bool) (d : Nat) (h : d < 16) (n : Int) (r : List UInt8) : vL n (digD u d :: r) = vL (16 * n + d) r := by
  show (if hexB ((digD u d).toNat : Int) = true then vL (16 * n + hexV ((digD u d).toNat : Int)) r else -1) = _
  rw [if_pos (dig_hex u d h).1, (dig_hex u d h).2]
theorem vL_digF (u : Bool) (e : Nat) : ∀ f m (t : List UInt8), m < 16 ^ f → vL 0 (digF u e f m t) = vL (m : Int) t := by
  intro f
  induction f with
  | zero => intro m t h; have : m = 0 := by simpa using h
            subst this; rfl
  | succ f ih =>
    intro m t h
    by_cases hz : m = 0 ∧ e ≤ t.length
    · rw [digF_zero _ _ _ _ _ hz, hz.1]; rfl
    · rw [show digF u e (f + 1) m t = digF u e f (m / 16) (digD u (m % 16) :: t) from if_neg hz]
      rw [Nat.pow_succ] at h
      rw [ih _ _ (by omega), vL_dig u _ (by omega)]
      congr 1; omega
theorem digF_hex (u : Bool) (e : Nat) : ∀ f m (t : List UInt8), (∀ x ∈ t, hexB (x.toNat : Int) = true) → ∀ x ∈ digF u e f m t, hexB (x.toNat : Int) = true := by
  intro f
  induction f with
  | zero => intro m t h; exact h
  | succ f ih =>
    intro m t h
    by_cases hz : m = 0 ∧ e ≤ t.length
    · rw [digF_zero _ _ _ _ _ hz]; exact h
    · rw [show digF u e (f + 1) m t = digF u e f (m / 16) (digD u (m % 16) :: t) from if_neg hz]
      refine ih _ _ (fun x hx => ?_)
      rcases List.mem_cons.mp hx with rfl | q
      · exact (dig_hex u _ (by omega)).1
      · exact h x q
/-- A piece that is a group's. -/
structure Pc (p : List UInt8) (v : Int) : Prop where
  ne : p ≠ []
  hex : ∀ x ∈ p, hexB (x.toNat : Int) = true
  val : grV (bL p) = v
  nn : 0 ≤ v
theorem Pc.no {p : List UInt8} {v : Int} (h : Pc p v) (c : UInt8) (hc : hexB (c.toNat : Int) = false) : ∀ x ∈ p, x ≠ c := by
  intro x hx e
  have := h.hex x hx
  rw [e, hc] at this
  exact absurd this (by decide)
theorem Pc.nodot {p : List UInt8} {v : Int} (h : Pc p v) : (dotO (bL p)).isSome = false := by
  have := spl_one 46 p (h.no 46 (by decide))
  have e : spl (bL p) 46 (bL p).size 0 0 = [bL p] := this
  unfold dotO
  rw [e, if_neg (by simp)]; rfl
theorem dig_pc (u : Bool) (e n : Nat) (he : 1 ≤ e) (h4 : e ≤ 4) (h : n < 65536) : Pc (digL u e n) (n : Int) := by
  have hl := digL_len u e n h4 h
  refine ⟨fun q => by rw [q] at hl; simp at hl; omega, digF_hex u e 4 n [] (by simp), ?_, by omega⟩
  rw [grV_list _ (by omega) hl.2]
  exact vL_digF u e 4 n [] h
end Go.Proofs.YtpchhfhdepkbcaaDoor
