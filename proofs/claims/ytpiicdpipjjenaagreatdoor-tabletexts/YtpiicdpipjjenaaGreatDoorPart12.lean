/-
  Part 12 of the proof: 9 texts, one behind the other.
-/
import Derived.Test.YtpiicdpipjjenaaGreatDoorPart11
import Derived.Test.YtpiicdpipjjenaaGreatDoorPart10
import Derived.Test.YtpiicdpipjjenaaGreatDoorPart3
import Derived.Test.YtpiicdpipjjenaaGreatDoorPart5
import Derived.Lib.ItoaNum
import Derived.Test.YtpiicdpipjjenaaGreatDoorShelf
import Derived.Shelf.Strconv.AppendInt10
import Derived.Shelf.Strconv.Itoa3
import Derived.Test.YtpiicdpipjjenaaGreatDoorPart9
namespace Go.Proofs.YtpiicdpipjjenaaGreatDoor
open Go.RowKit
set_option linter.unusedSimpArgs false
set_option linter.unusedVariables false

theorem answer_any (x : BitVec 128) (b : Bool) (w : World) :
    Calls Tryz.prog 112 #[.agg #[.int .u64 (hI x), .int .u64 (lI x)], .bool b] w fun e w' => e = .returned (.tuple #[.agg #[.int .u64 (hI (if b = true then x else 0#128)), .int .u64 (lI (if b = true then x else 0#128))], .int .i64 (if b = true then 0 else 12)]) ∧ Below w.heap.size w w' := by
  cases b
  · rw [if_neg (by simp), if_neg (by simp), hI_zero, lI_zero]
    go_enter Tryz.func112, Tryz.ntmps112
    go_wp2
    exact bodyPost_ret (v := .tuple #[.agg #[.int .u64 0, .int .u64 0], .int .i64 12]) (by simp [results, Tryz.results112, go_sem]) rfl ⟨rfl, bl2 _ _ _⟩
  · rw [if_pos rfl, if_pos rfl]
    go_enter Tryz.func112, Tryz.ntmps112
    go_wp2
    exact bodyPost_ret (v := .tuple #[.agg #[.int .u64 (hI x), .int .u64 (lI x)], .int .i64 0]) (by simp [results, Tryz.results112, go_sem]) rfl ⟨rfl, bl2 _ _ _⟩

def apV (F : Int) (s : ByteArray) : BitVec 128 := if F = 32 then (if fourB s = true then fourV s else 0#128) else if F = 128 then (if (six0 s).2 = true then (six0 s).1 else 0#128) else 0#128
def apE (F : Int) (s : ByteArray) : Int := if F = 32 then (if fourB s = true then 0 else 12) else if F = 128 then (if (six0 s).2 = true then 0 else 12) else 11

set_option maxHeartbeats 2000000 in
theorem aparse_any (F : Int) (s : ByteArray) (w : World) (hs : s.size ≤ maxLen) :
    Calls Tryz.prog 96 #[.int .i64 F, .string s] w fun e w' => e = .returned (.tuple #[.agg #[.int .u64 (hI (apV F s)), .int .u64 (lI (apV F s))], .int .i64 (apE F s)]) ∧ Below w.heap.size w w' := by
  unfold apV apE
  by_cases h32 : F = 32
  · rw [if_pos h32, if_pos h32]
    have KR := fun w => readFour_any s w hs
    have KA := fun w => answer_any (fourV s) (fourB s) w
    revert KA
    generalize (if fourB s = true then fourV s else 0#128) = x
    generalize (if fourB s = true then (0 : Int) else 12) = r
    intro KA
    generalize fourV s = y at *
    generalize fourB s = b at *
    subst h32
    go_enter Tryz.func96, Tryz.ntmps96
    go_wp2_with fail
    refine (KR _).mono ?_
    rintro e w1 ⟨rfl, hb1⟩
    go_wp2_with fail
    refine (KA _).mono ?_
    rintro e w2 ⟨rfl, hb2⟩
    have hZ := ((at_new w w.heap.size 0#128 43 rfl).below hb1).below hb2
    have kB := keepb hb2 (keepb hb1 (bl1 w _))
    obtain ⟨z0, z1, z2, z3, z4⟩ := hZ
    clear hb1 hb2 KR KA
    go_wp2
    exact bodyPost_ret (v := .tuple #[.agg #[.int .u64 (hI x), .int .u64 (lI x)], .int .i64 r]) (by simp [results, Tryz.results96, go_sem, *]) rfl ⟨rfl, bset2 kB (Nat.le_refl _) _ _⟩
  rw [if_neg h32, if_neg h32]
  by_cases h128 : F = 128
  · rw [if_pos h128, if_pos h128]
    have KR := fun w => readSix_any s w hs
    have KA := fun w => answer_any (six0 s).1 (six0 s).2 w
    revert KA
    generalize (if (six0 s).2 = true then (six0 s).1 else 0#128) = x
    generalize (if (six0 s).2 = true then (0 : Int) else 12) = r
    intro KA
    generalize (six0 s).1 = y at *
    generalize (six0 s).2 = b at *
    clear h32
    subst h128
    go_enter Tryz.func96, Tryz.ntmps96
    go_wp2_with fail
    refine (KR _).mono ?_
    rintro e w1 ⟨rfl, hb1⟩
    go_wp2_with fail
    refine (KA _).mono ?_
    rintro e w2 ⟨rfl, hb2⟩
    have hZ := ((at_new w w.heap.size 0#128 43 rfl).below hb1).below hb2
    have kB := keepb hb2 (keepb hb1 (bl1 w _))
    obtain ⟨z0, z1, z2, z3, z4⟩ := hZ
    clear hb1 hb2 KR KA
    go_wp2
    exact bodyPost_ret (v := .tuple #[.agg #[.int .u64 (hI x), .int .u64 (lI x)], .int .i64 r]) (by simp [results, Tryz.results96, go_sem, *]) rfl ⟨rfl, bset2 kB (Nat.le_refl _) _ _⟩
  · rw [if_neg h128, if_neg h128, hI_zero, lI_zero]
    have b1 : (F == 32) = false := by simp [h32]
    have b2 : (F == 128) = false := by simp [h128]
    go_enter Tryz.func96, Tryz.ntmps96
    go_wp2
    exact bodyPost_ret (v := .tuple #[.agg #[.int .u64 0, .int .u64 0], .int .i64 11]) (by simp [results, Tryz.results96, go_sem, *]) rfl ⟨rfl, bl1 _ _⟩

end Go.Proofs.YtpiicdpipjjenaaGreatDoor
namespace Go.Proofs.YtpiicdpipjjenaaGreatDoor
open Go.RowKit
set_option linter.unusedSimpArgs false
set_option linter.unusedVariables false

end Go.Proofs.YtpiicdpipjjenaaGreatDoor
namespace Go.Proofs.YtpiicdpipjjenaaGreatDoor
open Go.RowKit
set_option linter.unusedSimpArgs false
set_option linter.unusedVariables false

def digD (u : Bool) (d : Nat) : UInt8 := if d < 10 then UInt8.ofNat (48 + d) else if u then UInt8.ofNat (55 + d) else UInt8.ofNat (87 + d)
def digF (u : Bool) (e : Nat) : Nat → Nat → List UInt8 → List UInt8
  | 0, _, t => t
  | f + 1, m, t => if m = 0 ∧ e ≤ t.length then t else digF u e f (m / 16) (digD u (m % 16) :: t)
def digL (u : Bool) (e n : Nat) : List UInt8 := digF u e 4 n []
theorem digF_zero (u : Bool) (e f m : Nat) (t : List UInt8) (h : m = 0 ∧ e ≤ t.length) : digF u e f m t = t := by
  cases f with
  | zero => rfl
  | succ f => exact if_pos h
theorem digF_len (u : Bool) (e : Nat) (he : e ≤ 4) : ∀ f m (t : List UInt8), t.length + f = 4 → m < 16 ^ f → e ≤ (digF u e f m t).length ∧ (digF u e f m t).length ≤ 4 := by
  intro f
  induction f with
  | zero => intro m t h hm; show e ≤ t.length ∧ t.length ≤ 4; omega
  | succ f ih =>
    intro m t h hm
    by_cases hz : m = 0 ∧ e ≤ t.length
    · rw [digF_zero _ _ _ _ _ hz]; omega
    · rw [show digF u e (f + 1) m t = digF u e f (m / 16) (digD u (m % 16) :: t) from if_neg hz]
      rw [Nat.pow_succ] at hm
      exact ih _ _ (by simp; omega) (by omega)
theorem digL_len (u : Bool) (e n : Nat) (he : e ≤ 4) (h : n < 65536) : e ≤ (digL u e n).length ∧ (digL u e n).length ≤ 4 := digF_len u e he 4 n [] rfl h

end Go.Proofs.YtpiicdpipjjenaaGreatDoor
namespace Go.Proofs.YtpiicdpipjjenaaGreatDoor
open Go.RowKit
set_option linter.unusedSimpArgs false
set_option linter.unusedVariables false

def bLz (l : List UInt8) : ByteArray := ⟨l.toArray⟩
theorem bLz_size (l : List UInt8) : (bLz l).size = l.length := rfl
theorem bL_cat (l m : List UInt8) : bLz l ++ bLz m = bLz (l ++ m) := by
  apply ByteArray.ext; simp [bLz]
theorem bLz_at (l : List UInt8) (k : Nat) : byteAt (bLz l) k = ((l.getD k 0).toNat : Int) := by
  unfold byteAt
  by_cases h : k < l.length
  · rw [dif_pos (by rw [bLz_size]; exact h), List.getD_eq_getElem?_getD, List.getElem?_eq_getElem h]
    rfl
  · rw [dif_neg (by rw [bLz_size]; exact h), List.getD_eq_getElem?_getD, List.getElem?_eq_none (by omega)]
    rfl
theorem u8_eq (a b : UInt8) : ((a.toNat : Int) = (b.toNat : Int)) ↔ a = b := by
  constructor
  · intro h; exact UInt8.toNat_inj.mp (by omega)
  · intro h; rw [h]
theorem getD_mem (l : List UInt8) (k : Nat) (h : k < l.length) : l.getD k 0 ∈ l := by
  rw [List.getD_eq_getElem?_getD, List.getElem?_eq_getElem h]; exact List.getElem_mem h
theorem getD_right (l m : List UInt8) (k : Nat) : (l ++ m).getD (l.length + k) 0 = m.getD k 0 := by
  rw [List.getD_eq_getElem?_getD, List.getD_eq_getElem?_getD, List.getElem?_append_right (by omega)]
  rw [Nat.add_sub_cancel_left]

def jnz (c : UInt8) : List (List UInt8) → List UInt8
  | [] => []
  | [p] => p
  | p :: q :: l => p ++ c :: jnz c (q :: l)
theorem jn_snoc (c : UInt8) : ∀ (l : List (List UInt8)) (p : List UInt8), l ≠ [] → jnz c (l ++ [p]) = jnz c l ++ c :: p
  | [], _, h => absurd rfl h
  | [q], p, _ => rfl
  | q :: r :: l, p, _ => by
    show q ++ c :: jnz c (r :: l ++ [p]) = (q ++ c :: jnz c (r :: l)) ++ c :: p
    rw [jn_snoc c (r :: l) p (by simp)]
    simp

def vL : Int → List UInt8 → Int
  | n, [] => n
  | n, c :: r => if hexB (c.toNat : Int) = true then vL (16 * n + hexV (c.toNat : Int)) r else -1
theorem grG_list : ∀ (l p : List UInt8) (n : Int), grG (bLz (p ++ l)) l.length p.length n = vL n l := by
  intro l
  induction l with
  | nil => intro p n; rfl
  | cons c r ih =>
    intro p n
    have hat : byteAt (bLz (p ++ c :: r)) p.length = (c.toNat : Int) := by
      have := getD_right p (c :: r) 0
      rw [Nat.add_zero] at this
      rw [bLz_at, this]; rfl
    show (if hexB (byteAt (bLz (p ++ c :: r)) p.length) = true then grG (bLz (p ++ c :: r)) r.length (p.length + 1) (16 * n + hexV (byteAt (bLz (p ++ c :: r)) p.length)) else -1) = _
    rw [hat]
    have := ih (p ++ [c]) (16 * n + hexV (c.toNat : Int))
    rw [List.append_assoc, List.length_append] at this
    have t2 : grG (bLz (p ++ c :: r)) r.length (p.length + 1) (16 * n + hexV (c.toNat : Int)) = vL (16 * n + hexV (c.toNat : Int)) r := this
    rw [t2]; rfl
theorem grV_list (l : List UInt8) (h1 : 1 ≤ l.length) (h4 : l.length ≤ 4) : grV (bLz l) = vL 0 l := by
  unfold grV
  rw [bLz_size, if_neg (by omega)]
  exact grG_list l [] 0
theorem dig_hex : ∀ u d, d < 16 → hexB ((digD u d).toNat : Int) = true ∧ hexV ((digD u d).toNat : Int) = (d : Int) := by
  intro u
  cases u
  · decide +kernel
  · decide +kernel
theorem vL_dig (u : Bool) (d : Nat) (h : d < 16) (n : Int) (r : List UInt8) : vL n (digD u d :: r) = vL (16 * n + d) r := by
  show (if hexB ((digD u d).toNat : Int) = true then vL (16 * n + hexV ((digD u d).toNat : Int)) r else -1) = _
  rw [if_pos (dig_hex u d h).1, (dig_hex u d h).2]
theorem vL_digF (u : Bool) (e : Nat) : ∀ f m (t : List UInt8), m < 16 ^ f → vL 0 (digF u e f m t) = vL (m : Int) t := by
  intro f
  induction f with
  | zero => intro m t h; have : m = 0 := by simpa using h
            subst this; rfl
  | succ f ih =>
    intro m t h
    by_cases hz : m = 0 ∧ e ≤ t.length
    · rw [digF_zero _ _ _ _ _ hz, hz.1]; rfl
    · rw [show digF u e (f + 1) m t = digF u e f (m / 16) (digD u (m % 16) :: t) from if_neg hz]
      rw [Nat.pow_succ] at h
      rw [ih _ _ (by omega), vL_dig u _ (by omega)]
      congr 1; omega
theorem digF_hex (u : Bool) (e : Nat) : ∀ f m (t : List UInt8), (∀ x ∈ t, hexB (x.toNat : Int) = true) → ∀ x ∈ digF u e f m t, hexB (x.toNat : Int) = true := by
  intro f
  induction f with
  | zero => intro m t h; exact h
  | succ f ih =>
    intro m t h
    by_cases hz : m = 0 ∧ e ≤ t.length
    · rw [digF_zero _ _ _ _ _ hz]; exact h
    · rw [show digF u e (f + 1) m t = digF u e f (m / 16) (digD u (m % 16) :: t) from if_neg hz]
      refine ih _ _ (fun x hx => ?_)
      rcases List.mem_cons.mp hx with rfl | q
      · exact (dig_hex u _ (by omega)).1
      · exact h x q
structure Pc (p : List UInt8) (v : Int) : Prop where
  ne : p ≠ []
  hex : ∀ x ∈ p, hexB (x.toNat : Int) = true
  val : grV (bLz p) = v
  nn : 0 ≤ v
theorem Pc.no {p : List UInt8} {v : Int} (h : Pc p v) (c : UInt8) (hc : hexB (c.toNat : Int) = false) : ∀ x ∈ p, x ≠ c := by
  intro x hx e
  have := h.hex x hx
  rw [e, hc] at this
  exact absurd this (by decide)
theorem dig_pc (u : Bool) (e n : Nat) (he : 1 ≤ e) (h4 : e ≤ 4) (h : n < 65536) : Pc (digL u e n) (n : Int) := by
  have hl := digL_len u e n h4 h
  refine ⟨fun q => by rw [q] at hl; simp at hl; omega, digF_hex u e 4 n [] (by simp), ?_, by omega⟩
  rw [grV_list _ (by omega) hl.2]
  exact vL_digF u e 4 n [] h
end Go.Proofs.YtpiicdpipjjenaaGreatDoor
namespace Go.Proofs.YtpiicdpipjjenaaGreatDoor
open Go.RowKit
set_option linter.unusedSimpArgs false
set_option linter.unusedVariables false

def GoodZ (l : List (List UInt8)) : Prop := ∀ p ∈ l, p ≠ [] ∧ ∀ x ∈ p, x ≠ 58
theorem jn_head (l : List (List UInt8)) (h : GoodZ l) (hl : l ≠ []) : (jnz 58 l).getD 0 0 ≠ 58 ∧ jnz 58 l ≠ [] := by
  cases l with
  | nil => exact absurd rfl hl
  | cons p l =>
    obtain ⟨hp, hx⟩ := h p (by simp)
    cases p with
    | nil => exact absurd rfl hp
    | cons x p =>
      have hx0 := hx x (by simp)
      cases l with
      | nil => exact ⟨hx0, by simp [jnz]⟩
      | cons q l => exact ⟨hx0, by simp [jnz]⟩
theorem jn_last : ∀ (l : List (List UInt8)), GoodZ l → l ≠ [] → (jnz 58 l).getD ((jnz 58 l).length - 1) 0 ≠ 58
  | [], _, h => absurd rfl h
  | [p], hg, _ => by
    obtain ⟨hp, hx⟩ := hg p (by simp)
    have : 0 < p.length := List.length_pos_iff.mpr hp
    show p.getD (p.length - 1) 0 ≠ 58
    exact hx _ (getD_mem p _ (by omega))
  | p :: q :: l, hg, _ => by
    have hg2 : GoodZ (q :: l) := fun r hr => hg r (by simp at hr ⊢; right; exact hr)
    have ih := jn_last (q :: l) hg2 (by simp)
    have hne := (jn_head (q :: l) hg2 (by simp)).2
    have hpos : 0 < (jnz 58 (q :: l)).length := List.length_pos_iff.mpr hne
    show (p ++ 58 :: jnz 58 (q :: l)).getD ((p ++ 58 :: jnz 58 (q :: l)).length - 1) 0 ≠ 58
    generalize jnz 58 (q :: l) = r at *
    have e : (p ++ 58 :: r).length - 1 = p.length + (r.length - 1 + 1) := by simp; omega
    rw [e, getD_right]
    exact ih
def fmG (PC : Nat → ByteArray) (Q : ByteArray) (qd : Bool) (a b : Nat) : Nat → Nat → ByteArray → ByteArray
  | 0, _, s => s
  | f + 1, i, s => if 8 ≤ i then s else if 0 < b ∧ i = a then fmG PC Q qd a b f (i + b) (s ++ ⟨#[58, 58]⟩) else if qd = true ∧ i = 6 then sepS s ++ Q else fmG PC Q qd a b f (i + 1) (sepS s ++ PC i)
theorem sep_H (H : List UInt8) (hH : H = [] ∨ ∃ X, H = X ++ [58]) (l : List (List UInt8)) (hl : GoodZ l) (p : List UInt8) : sepS (bLz (H ++ jnz 58 l)) ++ bLz p = bLz (H ++ jnz 58 (l ++ [p])) := by
  by_cases h : l = []
  · subst h
    have e : sepS (bLz (H ++ jnz 58 [])) = bLz H := by
      show sepS (bLz (H ++ [])) = _
      rw [List.append_nil]
      unfold sepS
      rcases hH with rfl | ⟨X, rfl⟩
      · exact if_pos (Or.inl (by rfl))
      · rw [if_pos (Or.inr ?_)]
        rw [bLz_size, bLz_at]
        have e : (X ++ [58]).length - 1 = X.length + 0 := by simp
        rw [e, getD_right]; rfl
    rw [e, bL_cat]; rfl
  · have hne := (jn_head l hl h).2
    have hpos : 0 < (jnz 58 l).length := List.length_pos_iff.mpr hne
    have hlast := jn_last l hl h
    rw [jn_snoc 58 l p h]
    generalize jnz 58 l = r at *
    have e : sepS (bLz (H ++ r)) = bLz (H ++ r) ++ bLz [58] := by
      unfold sepS
      rw [if_neg ?_]; rfl
      rw [bLz_size, bLz_at]
      rintro (q | q)
      · simp at q; exact hne q.2
      · have e : (H ++ r).length - 1 = H.length + (r.length - 1) := by simp; omega
        rw [e, getD_right, show (58 : Int) = (((58 : UInt8).toNat : Nat) : Int) from rfl, u8_eq] at q
        exact hlast q
    rw [e, bL_cat, bL_cat]
    simp
section
variable (pc : Nat → List UInt8) (q : List UInt8) (a b : Nat)
theorem fm_flat (hp : ∀ k, pc k ≠ [] ∧ ∀ x ∈ pc k, x ≠ 58) (H : List UInt8) (hH : H = [] ∨ ∃ X, H = X ++ [58]) : ∀ n i f (l : List (List UInt8)), i + n = 8 → n ≤ f → GoodZ l → (b = 0 ∨ a < i) →
    fmG (fun k => bLz (pc k)) (bLz q) false a b f i (bLz (H ++ jnz 58 l)) = bLz (H ++ jnz 58 (l ++ (List.range' i n).map pc)) := by
  intro n
  induction n with
  | zero =>
    intro i f l hi hf hl hb
    have : fmG (fun k => bLz (pc k)) (bLz q) false a b f i (bLz (H ++ jnz 58 l)) = bLz (H ++ jnz 58 l) := by
      cases f with
      | zero => rfl
      | succ f => exact if_pos (by omega)
    rw [this]; simp
  | succ n ih =>
    intro i f l hi hf hl hb
    obtain ⟨f, rfl⟩ : ∃ g, f = g + 1 := ⟨f - 1, by omega⟩
    have : fmG (fun k => bLz (pc k)) (bLz q) false a b (f + 1) i (bLz (H ++ jnz 58 l)) = fmG (fun k => bLz (pc k)) (bLz q) false a b f (i + 1) (sepS (bLz (H ++ jnz 58 l)) ++ bLz (pc i)) := by
      show (if 8 ≤ i then _ else if 0 < b ∧ i = a then _ else if false = true ∧ i = 6 then _ else _) = _
      rw [if_neg (by omega), if_neg (by omega), if_neg (by simp)]
    rw [this, sep_H H hH l hl, ih (i + 1) f (l ++ [pc i]) (by omega) (by omega) (fun p h => by
      rcases List.mem_append.mp h with h | h
      · exact hl p h
      · simp at h; rw [h]; exact hp i) (by omega)]
    rw [List.range'_succ]; simp
theorem fm_gap (qd : Bool) (hb : 0 < b) (hq : qd = true → a + b ≤ 6) (hab : a + b ≤ 8) (hp : ∀ k, pc k ≠ [] ∧ ∀ x ∈ pc k, x ≠ 58) : ∀ n i f (l : List (List UInt8)), i + n = a → GoodZ l →
    fmG (fun k => bLz (pc k)) (bLz q) qd a b (f + n + 1) i (bLz (jnz 58 l)) = fmG (fun k => bLz (pc k)) (bLz q) qd a b f (a + b) (bLz (jnz 58 (l ++ (List.range' i n).map pc) ++ [58, 58])) := by
  intro n
  induction n with
  | zero =>
    intro i f l hi hl
    have : fmG (fun k => bLz (pc k)) (bLz q) qd a b (f + 0 + 1) i (bLz (jnz 58 l)) = fmG (fun k => bLz (pc k)) (bLz q) qd a b f (i + b) (bLz (jnz 58 l) ++ ⟨#[58, 58]⟩) := by
      show (if 8 ≤ i then _ else if 0 < b ∧ i = a then _ else if qd = true ∧ i = 6 then _ else _) = _
      rw [if_neg (by omega), if_pos ⟨hb, by omega⟩]
    rw [this, show i + b = a + b by omega]
    have e : (bLz (jnz 58 l) ++ ⟨#[58, 58]⟩ : ByteArray) = bLz (jnz 58 l ++ [58, 58]) := bL_cat _ [58, 58]
    rw [e]; simp
  | succ n ih =>
    intro i f l hi hl
    have : fmG (fun k => bLz (pc k)) (bLz q) qd a b (f + (n + 1) + 1) i (bLz (jnz 58 l)) = fmG (fun k => bLz (pc k)) (bLz q) qd a b (f + n + 1) (i + 1) (sepS (bLz (jnz 58 l)) ++ bLz (pc i)) := by
      show (if 8 ≤ i then _ else if 0 < b ∧ i = a then _ else if qd = true ∧ i = 6 then _ else _) = _
      rw [if_neg (by omega), if_neg (by omega), if_neg (fun z => by have := hq z.1; omega)]
      rfl
    have hs := sep_H [] (Or.inl rfl) l hl (pc i)
    rw [List.nil_append, List.nil_append] at hs
    rw [this, hs, ih (i + 1) f (l ++ [pc i]) (by omega) (fun p h => by
      rcases List.mem_append.mp h with h | h
      · exact hl p h
      · simp at h; rw [h]; exact hp i)]
    rw [List.range'_succ]; simp
end
end Go.Proofs.YtpiicdpipjjenaaGreatDoor
namespace Go.Proofs.YtpiicdpipjjenaaGreatDoor
open Go.RowKit
set_option linter.unusedSimpArgs false
set_option linter.unusedVariables false

theorem dig_hexD (d : Nat) : digD false d = hexD d := by unfold digD hexD; simp
theorem dig_hexF : ∀ f m (t : List UInt8), digF false 1 f m t = hexF f m t := by
  intro f
  induction f with
  | zero => intro m t; rfl
  | succ f ih =>
    intro m t
    have e : (1 ≤ t.length) = (¬ t = []) := by
      cases t with
      | nil => simp
      | cons a l => simp
    show (if m = 0 ∧ 1 ≤ t.length then t else digF false 1 f (m / 16) (digD false (m % 16) :: t)) = (if m = 0 ∧ ¬ t = [] then t else hexF f (m / 16) (hexD (m % 16) :: t))
    rw [dig_hexD, ih]
    simp only [e]
theorem dig_hexL (n : Nat) (h : n < 65536) : digL false 1 n = hexL n := by
  unfold digL hexL
  rw [dig_hexF]
  exact hexF_fuel 4 20 n [] h (by omega) (fun _ => by omega)
theorem tx_fm (G : Nat → Int) (Q : ByteArray) (a b : Nat) : ∀ f i s, txG G a b f i s = fmG (fun k => bLz (hexL (G k).toNat)) Q false a (if 1 < b then b else 0) f i s := by
  intro f
  induction f with
  | zero => intro i s; rfl
  | succ f ih =>
    intro i s
    show (if 8 ≤ i then s else if 1 < b ∧ i = a then txG G a b f (i + b) (s ++ ⟨#[58, 58]⟩) else txG G a b f (i + 1) (sepS s ++ ⟨(hexL (G i).toNat).toArray⟩)) = (if 8 ≤ i then s else if 0 < (if 1 < b then b else 0) ∧ i = a then fmG _ Q false a (if 1 < b then b else 0) f (i + (if 1 < b then b else 0)) (s ++ ⟨#[58, 58]⟩) else if false = true ∧ i = 6 then sepS s ++ Q else fmG _ Q false a (if 1 < b then b else 0) f (i + 1) (sepS s ++ bLz (hexL (G i).toNat)))
    by_cases h8 : 8 ≤ i
    · rw [if_pos h8, if_pos h8]
    · rw [if_neg h8, if_neg h8, ih, ih]
      by_cases hb : 1 < b
      · simp only [hb, if_true, true_and]
        have : (0 < b) = True := by simp; omega
        simp only [this, true_and]
        split
        · rfl
        · simp; rfl
      · simp only [hb, if_false, false_and]
        simp; rfl
theorem grpX_any (x : BitVec 128) (k : Nat) : 0 ≤ grpX x k ∧ grpX x k ≤ 65535 := by
  unfold grpX readW
  exact part16_bd x (k : Int)
end Go.Proofs.YtpiicdpipjjenaaGreatDoor
namespace Go.Proofs.YtpiicdpipjjenaaGreatDoor
open Go.RowKit
set_option linter.unusedSimpArgs false
set_option linter.unusedVariables false

theorem bsG_start (G : Nat → Int) : ∀ f i a b a' b', b' = max b 1 → (2 ≤ b → a = a') →
    (bsG G f i a' b').2 = max (bsG G f i a b).2 1 ∧ (2 ≤ (bsG G f i a b).2 → (bsG G f i a b).1 = (bsG G f i a' b').1) := by
  intro f
  induction f with
  | zero => intro i a b a' b' h1 h2; exact ⟨h1, h2⟩
  | succ f ih =>
    intro i a b a' b' h1 h2
    show (if b' < rnG G i 9 0 then bsG G f (i + 1) i (rnG G i 9 0) else bsG G f (i + 1) a' b').2 = max (if b < rnG G i 9 0 then bsG G f (i + 1) i (rnG G i 9 0) else bsG G f (i + 1) a b).2 1 ∧ (2 ≤ (if b < rnG G i 9 0 then bsG G f (i + 1) i (rnG G i 9 0) else bsG G f (i + 1) a b).2 → (if b < rnG G i 9 0 then bsG G f (i + 1) i (rnG G i 9 0) else bsG G f (i + 1) a b).1 = (if b' < rnG G i 9 0 then bsG G f (i + 1) i (rnG G i 9 0) else bsG G f (i + 1) a' b').1)
    generalize rnG G i 9 0 = n
    by_cases hb : b < n
    · by_cases hb' : b' < n
      · rw [if_pos hb, if_pos hb']
        exact ih _ _ _ _ _ (by omega) (fun _ => rfl)
      · rw [if_pos hb, if_neg hb']
        exact ih _ _ _ _ _ (by omega) (fun h => by omega)
    · rw [if_neg hb, if_neg (by omega)]
      exact ih _ _ _ _ _ h1 h2
def pcX (x : BitVec 128) (k : Nat) : List UInt8 := hexL (grpX x k).toNat
theorem pcX_ok (x : BitVec 128) (k : Nat) : pcX x k ≠ [] ∧ ∀ c ∈ pcX x k, c ≠ 58 := by
  have hk := grpX_any x k
  have := dig_pc false 1 (grpX x k).toNat (by omega) (by omega) (by omega)
  rw [dig_hexL _ (by omega)] at this
  exact ⟨this.ne, this.no 58 (by decide)⟩
def rowA (x : BitVec 128) : Nat := (bsG (grpX x) 8 0 0 0).1
def rowNz (x : BitVec 128) : Nat := (bsG (grpX x) 8 0 0 0).2
theorem text6_flat (x : BitVec 128) (h : rowNz x < 2) : text6 x = bLz (jnz 58 ((List.range' 0 8).map (pcX x))) := by
  have hs := bsG_start (grpX x) 8 0 0 0 0 1 (by omega) (fun h => by omega)
  have hb : ¬ 1 < (bsG (grpX x) 8 0 0 1).2 := by rw [hs.1]; unfold rowNz at h; omega
  unfold text6
  rw [tx_fm (grpX x) (bLz []), if_neg hb]
  have := fm_flat (pcX x) [] (bsG (grpX x) 8 0 0 1).1 0 (pcX_ok x) [] (Or.inl rfl) 8 0 9 [] (by omega) (by omega) (fun p h => by cases h) (Or.inl rfl)
  simp only [jnz, List.append_nil, List.nil_append] at this
  exact this
theorem row_bd (x : BitVec 128) (h : ¬ rowNz x < 2) : rowA x + rowNz x ≤ 8 := by
  have hs := bsG_start (grpX x) 8 0 0 0 0 1 (by omega) (fun h => by omega)
  have hbd := bsG_bd (grpX x) 8 0 0 1 (by omega) (by omega) (by omega)
  unfold rowNz at *; unfold rowA
  rw [hs.2 (by omega)]
  have := hs.1
  omega
theorem text6_gap (x : BitVec 128) (h : ¬ rowNz x < 2) : text6 x = bLz (jnz 58 ((List.range' 0 (rowA x)).map (pcX x)) ++ [58, 58] ++ jnz 58 ((List.range' (rowA x + rowNz x) (8 - (rowA x + rowNz x))).map (pcX x))) := by
  have hs := bsG_start (grpX x) 8 0 0 0 0 1 (by omega) (fun h => by omega)
  have hbd := row_bd x h
  have e2 : (bsG (grpX x) 8 0 0 1).2 = rowNz x := by rw [hs.1]; unfold rowNz at *; omega
  have e1 : (bsG (grpX x) 8 0 0 1).1 = rowA x := by rw [← hs.2 (by unfold rowNz at h; omega)]; rfl
  have hb : 1 < rowNz x := by omega
  unfold text6
  rw [tx_fm (grpX x) (bLz []), e1, e2, if_pos hb]
  generalize rowA x = a at *
  generalize rowNz x = b at *
  have h1 := fm_gap (pcX x) [] a b false (by omega) (fun q => by cases q) hbd (pcX_ok x) a 0 (8 - a) [] (by omega) (fun p h => by cases h)
  have h2 := fm_flat (pcX x) [] a b (pcX_ok x) (jnz 58 ((List.range' 0 a).map (pcX x)) ++ [58, 58]) (Or.inr ⟨jnz 58 ((List.range' 0 a).map (pcX x)) ++ [58], by simp⟩) (8 - (a + b)) (a + b) (8 - a) [] (by omega) (by omega) (fun p h => by cases h) (Or.inr (by omega))
  have e9 : 8 - a + a + 1 = 9 := by omega
  rw [e9] at h1
  simp only [jnz, List.append_nil, List.nil_append] at h1 h2
  have e0 : bLz [] = (⟨#[]⟩ : ByteArray) := rfl
  rw [e0] at h1
  exact h1.trans h2

theorem decL_lib_fin : ∀ n : Fin 256, decL n.val = (if n.val < 10 then [UInt8.ofNat (48 + n.val)] else if n.val < 100 then [UInt8.ofNat (48 + n.val / 10), UInt8.ofNat (48 + n.val % 10)] else [UInt8.ofNat (48 + n.val / 100), UInt8.ofNat (48 + n.val / 10 % 10), UInt8.ofNat (48 + n.val % 10)]) := by decide +kernel
theorem decL_lib (n : Nat) (h : n < 256) : Lib.decDigits n = decL n := by
  rw [decL_lib_fin ⟨n, h⟩]
  show _ = (if n < 10 then _ else if n < 100 then _ else _)
  by_cases h1 : n < 10
  · rw [if_pos h1, Lib.decDigits_one h1]
  · by_cases h2 : n < 100
    · rw [if_neg h1, if_pos h2, Lib.decDigits_two h1 h2]
    · rw [if_neg h1, if_neg h2, Lib.decDigits, dif_neg h1, Lib.decDigits_two (by omega) (by omega)]
      have e : n / 10 / 10 = n / 100 := by omega
      rw [e]; rfl
theorem hexF_go (f m : Nat) (t : List UInt8) (h : ¬ m = 0 ∨ t = []) : hexF (f + 1) m t = hexF f (m / 16) (hexD (m % 16) :: t) := by
  show (if m = 0 ∧ ¬ t = [] then t else hexF f (m / 16) (hexD (m % 16) :: t)) = _
  rw [if_neg ?_]
  rintro ⟨h1, h2⟩
  rcases h with h | h
  · exact h h1
  · exact h2 h
theorem hexF_last (f m : Nat) (t : List UInt8) (h : ¬ m = 0 ∨ t = []) (hm : m < 16) : hexF (f + 1) m t = hexD m :: t := by
  rw [hexF_go f m t h, Nat.div_eq_of_lt hm, Nat.mod_eq_of_lt hm]
  exact hexF_zero f 0 _ ⟨rfl, by simp⟩
end Go.Proofs.YtpiicdpipjjenaaGreatDoor
namespace Go.Proofs.YtpiicdpipjjenaaGreatDoor
open Go.RowKit
set_option linter.unusedSimpArgs false
set_option linter.unusedVariables false

def Pow (w : World) : Prop := Lib.TabIs Tryz.prog w "internal/strconv.uint64pow10" .u64 Lib.pow10Tab
theorem Pow.keep {W w' : World} (h : Pow W) (hb : Below W.heap.size W w') : Pow w' := Lib.tabBelow_of_tabIs h w' hb
theorem Tryz.infoB8 : (Tryz.prog.info? 5).map (fun i => (i.zero, i.size, i.bytes)) = some (some (.int .u8 0), 1, 1) := by kernel_rfl

theorem iuint10 (B n u : Nat) (hu64 : u < 18446744073709551616) (sv : Value) (xs : List Value) (w : World) (hown : w.ownsRow B 5 1 sv n xs) (hBw : B ≤ w.heap.size) (hlim : n + 20 ≤ 140737488355328) (htab : Pow w) :
    Calls Tryz.prog 104 #[sv, .int .u64 u, .int .i64 10] w fun e w' => ∃ v', e = .returned v' ∧ w'.ownsRow B 5 1 v' (n + (Lib.decDigits u).length) (xs ++ Lib.byteCells (Lib.decDigits u)) ∧ Below B w w' :=
  (Any.internal_strconv_AppendUint_10 Tryz.laysM288 B n u hu64 sv xs w hown hBw hlim htab).mono fun e w' ⟨v', h1, h2, h3, h4⟩ => ⟨v', h1, h2, h3⟩
theorem auint10 (B n u : Nat) (hu64 : u < 18446744073709551616) (sv : Value) (xs : List Value) (w : World) (hown : w.ownsRow B 5 1 sv n xs) (hBw : B ≤ w.heap.size) (hlim : n + 20 ≤ 140737488355328) (htab : Pow w) :
    Calls Tryz.prog 86 #[sv, .int .u64 u, .int .i64 10] w fun e w' => ∃ v', e = .returned v' ∧ w'.ownsRow B 5 1 v' (n + (Lib.decDigits u).length) (xs ++ Lib.byteCells (Lib.decDigits u)) ∧ Below B w w' := by
  go_enter Tryz.func86, Tryz.ntmps86
  go_wp2_with fail
  refine (iuint10 B n u hu64 sv xs w hown hBw hlim htab).mono ?_
  rintro e w1 ⟨v1, rfl, ho, hb⟩
  go_wp2
  go_ret
  exact ⟨v1, rfl, ho, hb⟩
theorem itoa_any (n : Int) (h0 : -9223372036854775808 ≤ n) (h1 : n ≤ 9223372036854775807) (w : World) (htab : Pow w) :
    Calls Tryz.prog 24 #[.int .i64 n] w fun e w' => e = .returned (.string ⟨(Lib.itoa n).toArray⟩) ∧ Below w.heap.size w w' :=
  (Any.strconv_Itoa Tryz.laysM171 n h0 h1 w htab).mono fun e w' ⟨h, k, os, hw⟩ => ⟨h, by rw [hw]; exact Lib.below_grow _ _ (Nat.le_refl _) k os⟩

def fourL (x : BitVec 128) : Nat → List UInt8
  | 0 => []
  | k + 1 => (if k = 0 then [] else fourL x k ++ [46]) ++ decL (octN x k)
theorem decL_len3 (n : Nat) (h : n < 256) : (decL n).length ≤ 3 := by
  have := decL_lib_fin ⟨n, h⟩
  simp only at this
  rw [this]
  split
  · simp
  · split <;> simp
theorem fourL_len (x : BitVec 128) (k : Nat) : (fourL x k).length ≤ 4 * k := by
  induction k with
  | zero => simp [fourL]
  | succ k ih =>
    have := decL_len3 (octN x k) (by unfold octN; omega)
    unfold fourL
    rw [List.length_append]
    split
    · simp; omega
    · simp; omega
theorem fourL_text (x : BitVec 128) : (⟨(fourL x 4).toArray⟩ : ByteArray) = text4 x := by
  have e : text4 x = bLz (decL (octN x 0) ++ [46] ++ decL (octN x 1) ++ [46] ++ decL (octN x 2) ++ [46] ++ decL (octN x 3)) := by
    unfold text4 dotS
    show (bLz _) ++ (bLz [46]) ++ (bLz _) ++ (bLz [46]) ++ (bLz _) ++ (bLz [46]) ++ (bLz _) = _
    simp only [bL_cat]
  rw [e]
  show bLz _ = bLz _
  congr 1
theorem oct_part (x : BitVec 128) (k : Nat) (hk : k < 4) : lI ((x <<< (8 * (k : Int)).toNat) >>> 120) = ((octN x k : Nat) : Int) := by
  have e0 : (8 * (k : Int)).toNat = 8 * k := by omega
  rw [e0]
  unfold octN
  have h := hI_mk
  have hx : (hI x).toNat = x.toNat / 2 ^ 64 := by
    unfold hI hv
    simp [BitVec.extractLsb'_toNat, Nat.shiftRight_eq_div_pow]
    have := x.isLt
    omega
  have hl : ∀ y : BitVec 128, lI y = ((y.toNat % 2 ^ 64 : Nat) : Int) := fun y => by unfold lI lv; simp [BitVec.extractLsb'_toNat]
  rw [hl, hx, BitVec.toNat_ushiftRight, BitVec.toNat_shiftLeft, Nat.shiftRight_eq_div_pow, Nat.shiftLeft_eq]
  have := x.isLt
  congr 1
  rcases k with _ | _ | _ | _ | k
  · simp; omega
  · simp; omega
  · simp; omega
  · simp; omega
  · omega
end Go.Proofs.YtpiicdpipjjenaaGreatDoor
namespace Go.Proofs.YtpiicdpipjjenaaGreatDoor
open Go.RowKit
set_option linter.unusedSimpArgs false
set_option linter.unusedVariables false

theorem news_al (W : World) (v : Value) (t : TypeId) : ∀ j u, [v][j]? = some u → (W.alloc (.cells #[v] t)).cell? ((⟨W.heap.size, 0, none⟩ : Addr).add j) = some u := by
  intro j u hj
  match j, hj with
  | 0, hj => simp at hj; subst hj; simp [Addr.add, go_sem]
theorem one_al (k : IntKind) (n : Int) : ∀ u ∈ [Value.int k n], u.oneCell' = true := by
  intro u hu; simp at hu; subst hu; rfl

end Go.Proofs.YtpiicdpipjjenaaGreatDoor
