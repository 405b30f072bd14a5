/-
  Part 3 of the proof: 9 texts, one behind the other.
-/
import Derived.Test.YtgbhbooogofmbabDoorPart2
import Derived.Test.YtgbhbooogofmbabDoorPart1
import Derived.OrdersIn
import Derived.TacticsIn
import Derived.RangeFuncSeq
import Derived.RangeFuncNested
import Derived.RangeFuncBound
import Derived.RangeFuncCalls
import Derived.RangeFuncLeaves
import Derived.Shelf.Abstract
import Derived.Shelf.RegionOpen
import Derived.WalkKit
import Derived.OwnWalkIn
import Derived.TacticsInMore
import Derived.LoopNIn
import Derived.LoopIn
namespace Go.Proofs.YtgbhbooogofmbabDoor
set_option linter.unusedSimpArgs false
set_option linter.unusedVariables false

def chkH (W D S : Int) : Int := if W ≠ 32 ∧ W ≠ 128 then 11 else if D < 0 ∨ W < D ∨ S ≠ max 1 (3 * D) then 28 else 0
def pkE (W D S n : Int) (l : List Nat) : Int :=
  if chkH W D S ≠ 0 then chkH W D S else if ¬ (l.length % 4 = 0 ∧ ((l.length / 4 : Nat) : Int) = n) then 22 else if 1048572 < n then 18 else 0
def hdB (W D S n : Nat) : List Nat := [84, 80, 75, 49, W, D] ++ by2 S ++ by4 n
def imB (W D S n : Nat) (l : List Nat) : List Nat := (hdB W D S n ++ by4 (crS (hdB W D S n ++ l)).toNat) ++ l
theorem hdB_len (W D S n : Nat) : (hdB W D S n).length = 12 := rfl
theorem imB_len (W D S n : Nat) (l : List Nat) : (imB W D S n l).length = 16 + l.length := by
  unfold imB; rw [List.length_append, List.length_append, hdB_len]; show 12 + 4 + _ = _; omega
theorem hdB_lt {W D S n : Nat} (hW : W < 256) (hD : D < 256) (hS : S < 65536) (hn : n < 4294967296) : ∀ b ∈ hdB W D S n, b < 256 := by
  intro b hb
  unfold hdB at hb
  simp only [List.mem_append, List.mem_cons, List.mem_nil_iff, or_false] at hb
  rcases hb with (h | h) | h
  · omega
  · exact by2_lt S hS b h
  · exact by4_lt n hn b h
theorem imB_lt {W D S n : Nat} {l : List Nat} (hW : W < 256) (hD : D < 256) (hS : S < 65536) (hn : n < 4294967296) (hl : ∀ b ∈ l, b < 256) : ∀ b ∈ imB W D S n l, b < 256 := by
  intro b hb
  unfold imB at hb
  simp only [List.mem_append] at hb
  rcases hb with (h | h) | h
  · exact hdB_lt hW hD hS hn b h
  · exact by4_lt _ (BitVec.isLt _) b h
  · exact hl b h

def rW (r : List Nat) : Nat := r.getD 4 0
def rD (r : List Nat) : Nat := r.getD 5 0
def rS (r : List Nat) : Nat := numN13 ((r.drop 6).take 2)
def rN (r : List Nat) : Nat := numN13 ((r.drop 8).take 4)
def rC (r : List Nat) : List Nat := (r.drop 16).take (4 * rN r)
def rdE (r : List Nat) : Int :=
  if r.length < 16 then 22 else if r.take 4 ≠ [84, 80, 75, 49] then 21 else if chkH (rW r) (rD r) (rS r) ≠ 0 then chkH (rW r) (rD r) (rS r)
  else if 1048572 < rN r then 18 else if r.length < 16 + 4 * rN r then 22 else 0
def rOk (r : List Nat) : Bool := numN13 ((r.drop 12).take 4) == (crS (r.take 12 ++ rC r)).toNat
def ofE (r : List Nat) : Int := if rdE r ≠ 0 then rdE r else if rOk r then 0 else 23
def opE (l : List Nat) (at' : Int) : Int := if at' < 0 ∨ (l.length : Int) < at' then 30 else ofE (l.drop at'.toNat)

theorem chk_zero17 {W D S : Int} (h : chkH W D S = 0) : (W = 32 ∨ W = 128) ∧ 0 ≤ D ∧ D ≤ W ∧ S = max 1 (3 * D) := by
  unfold chkH at h
  split at h
  · cases h
  · split at h
    · cases h
    · omega
theorem pk_zero {W D S n : Int} {l : List Nat} (h : pkE W D S n l = 0) : chkH W D S = 0 ∧ l.length % 4 = 0 ∧ n = ((l.length / 4 : Nat) : Int) ∧ n ≤ 1048572 := by
  unfold pkE at h
  split at h
  · rename_i q; exact absurd h q
  · rename_i q
    split at h
    · cases h
    · split at h
      · cases h
      · rename_i a b
        have a' := Classical.not_not.1 a
        exact ⟨Classical.not_not.1 q, a'.1, a'.2.symm, by omega⟩
theorem rd_zero {r : List Nat} (h : rdE r = 0) : 16 ≤ r.length ∧ r.take 4 = [84, 80, 75, 49] ∧ chkH (rW r) (rD r) (rS r) = 0 ∧ rN r ≤ 1048572 ∧ 16 + 4 * rN r ≤ r.length := by
  unfold rdE at h
  split at h
  · cases h
  · split at h
    · cases h
    · split at h
      · rename_i q; exact absurd h q
      · split at h
        · cases h
        · split at h
          · cases h
          · rename_i a b c d e
            exact ⟨by omega, Classical.not_not.1 b, Classical.not_not.1 c, by omega, by omega⟩
theorem rC_len {r : List Nat} (h : rdE r = 0) : (rC r).length = 4 * rN r := by
  obtain ⟨h1, -, -, h4, h5⟩ := rd_zero h
  unfold rC; rw [List.length_take, List.length_drop]; omega
theorem im_split (W D S n : Nat) (l z : List Nat) : imB W D S n l ++ z = 84 :: 80 :: 75 :: 49 :: W :: D :: (by2 S ++ (by4 n ++ (by4 (crS (hdB W D S n ++ l)).toNat ++ (l ++ z)))) := by
  unfold imB hdB; simp
theorem im_read {W D S n : Nat} {l : List Nat} (hS : S < 65536) (hn : n < 4294967296) (hl : l.length = 4 * n) (z : List Nat) :
    let r := imB W D S n l ++ z
    r.take 4 = [84, 80, 75, 49] ∧ rW r = W ∧ rD r = D ∧ rS r = S ∧ rN r = n ∧ rC r = l ∧ r.take 12 = hdB W D S n ∧ rOk r = true := by
  intro r
  have e : r = 84 :: 80 :: 75 :: 49 :: W :: D :: (by2 S ++ (by4 n ++ (by4 (crS (hdB W D S n ++ l)).toNat ++ (l ++ z)))) := im_split W D S n l z
  have b2 : ∀ x (y : List Nat), (by2 x ++ y).take 2 = by2 x := fun x y => List.take_left (l₁ := by2 x)
  have b4 : ∀ x (y : List Nat), (by4 x ++ y).take 4 = by4 x := fun x y => List.take_left (l₁ := by4 x)
  have d2 : ∀ x (y : List Nat), (by2 x ++ y).drop 2 = y := fun x y => List.drop_left (l₁ := by2 x)
  have d4 : ∀ x (y : List Nat), (by4 x ++ y).drop 4 = y := fun x y => List.drop_left (l₁ := by4 x)
  have e6 : r.drop 6 = by2 S ++ (by4 n ++ (by4 (crS (hdB W D S n ++ l)).toNat ++ (l ++ z))) := by rw [e]; rfl
  have e8 : r.drop 8 = by4 n ++ (by4 (crS (hdB W D S n ++ l)).toNat ++ (l ++ z)) := by rw [show 8 = 6 + 2 from rfl, ← List.drop_drop, e6, d2]
  have e12 : r.drop 12 = by4 (crS (hdB W D S n ++ l)).toNat ++ (l ++ z) := by rw [show 12 = 8 + 4 from rfl, ← List.drop_drop, e8, d4]
  have e16 : r.drop 16 = l ++ z := by rw [show 16 = 12 + 4 from rfl, ← List.drop_drop, e12, d4]
  have hN : rN r = n := by unfold rN; rw [e8, b4, num4 n hn]
  have hC : rC r = l := by unfold rC; rw [hN, e16, ← hl]; exact List.take_left
  have hT : r.take 12 = hdB W D S n := by
    show (imB W D S n l ++ z).take 12 = _
    unfold imB
    rw [List.append_assoc, List.append_assoc]
    exact List.take_left (l₁ := hdB W D S n)
  refine ⟨by rw [e]; rfl, by rw [e]; rfl, by rw [e]; rfl, by unfold rS; rw [e6, b2, num2 S hS], hN, hC, hT, ?_⟩
  unfold rOk
  rw [hT, hC, e12, b4, num4 _ (BitVec.isLt _)]
  exact beq_self_eq_true _
theorem im_of {W D S n : Nat} {l : List Nat} (h : pkE W D S n l = 0) (z : List Nat) : ofE (imB W D S n l ++ z) = 0 := by
  obtain ⟨h1, h2, h3, h4⟩ := pk_zero h
  obtain ⟨c1, c2, c3, c4⟩ := chk_zero17 h1
  have hS : S < 65536 := by omega
  have hn : n < 4294967296 := by omega
  have hl : l.length = 4 * n := by omega
  obtain ⟨a1, a2, a3, a4, a5, a6, a7, a8⟩ := im_read (W := W) (D := D) (S := S) hS hn hl z
  have hlen : (imB W D S n l ++ z).length = 16 + l.length + z.length := by rw [List.length_append, imB_len]
  have : rdE (imB W D S n l ++ z) = 0 := by
    unfold rdE
    rw [a2, a3, a4, a5, if_neg (by omega), if_neg (fun q => q a1), h1, if_neg (fun q => q rfl), if_neg (by omega), if_neg (by omega)]
  unfold ofE
  rw [this, a8]
  rfl

theorem by2_num {a b : Nat} (ha : a < 256) (hb : b < 256) : by2 (numN13 [a, b]) = [a, b] := by
  have e : numN13 [a, b] = (0 * 256 + a) * 256 + b := rfl
  rw [e]; unfold by2
  rw [show ((0 * 256 + a) * 256 + b) / 256 = a by omega, show ((0 * 256 + a) * 256 + b) % 256 = b by omega]
theorem by4_num {a b c d : Nat} (ha : a < 256) (hb : b < 256) (hc : c < 256) (hd : d < 256) : by4 (numN13 [a, b, c, d]) = [a, b, c, d] := by
  have e : numN13 [a, b, c, d] = (((0 * 256 + a) * 256 + b) * 256 + c) * 256 + d := rfl
  rw [e]; unfold by4
  rw [show ((((0 * 256 + a) * 256 + b) * 256 + c) * 256 + d) / 16777216 = a by omega, show ((((0 * 256 + a) * 256 + b) * 256 + c) * 256 + d) / 65536 % 256 = b by omega, show ((((0 * 256 + a) * 256 + b) * 256 + c) * 256 + d) / 256 % 256 = c by omega, show ((((0 * 256 + a) * 256 + b) * 256 + c) * 256 + d) % 256 = d by omega]
theorem sixteen {r : List Nat} (h : 16 ≤ r.length) : ∃ a0 a1 a2 a3 a4 a5 a6 a7 a8 a9 a10 a11 a12 a13 a14 a15 z, r = a0 :: a1 :: a2 :: a3 :: a4 :: a5 :: a6 :: a7 :: a8 :: a9 :: a10 :: a11 :: a12 :: a13 :: a14 :: a15 :: z := by
  match r, h with
  | a0 :: a1 :: a2 :: a3 :: a4 :: a5 :: a6 :: a7 :: a8 :: a9 :: a10 :: a11 :: a12 :: a13 :: a14 :: a15 :: z, _ => exact ⟨a0, a1, a2, a3, a4, a5, a6, a7, a8, a9, a10, a11, a12, a13, a14, a15, z, rfl⟩
theorem rd_parts {r : List Nat} (h : 16 ≤ r.length) (hm : r.take 4 = [84, 80, 75, 49]) (hx : ∀ b ∈ r, b < 256) : r.take 12 = hdB (rW r) (rD r) (rS r) (rN r) ∧ (r.drop 12).take 4 = by4 (numN13 ((r.drop 12).take 4)) ∧ numN13 ((r.drop 12).take 4) < 4294967296 ∧ rW r < 256 ∧ rD r < 256 ∧ rS r < 65536 ∧ rN r < 4294967296 := by
  obtain ⟨a0, a1, a2, a3, a4, a5, a6, a7, a8, a9, a10, a11, a12, a13, a14, a15, z, rfl⟩ := sixteen h
  simp only [List.take_succ_cons, List.take_zero, List.cons.injEq, and_true] at hm
  obtain ⟨rfl, rfl, rfl, rfl⟩ := hm
  have q : ∀ b ∈ [a4, a5, a6, a7, a8, a9, a10, a11, a12, a13, a14, a15], b < 256 := fun b hb => hx b (by
    simp only [List.mem_cons, List.mem_nil_iff, or_false] at hb ⊢
    rcases hb with h | h | h | h | h | h | h | h | h | h | h | h <;> simp [h])
  simp only [List.mem_cons, List.mem_nil_iff, or_false, forall_eq_or_imp, forall_eq] at q
  obtain ⟨q4, q5, q6, q7, q8, q9, q10, q11, q12, q13, q14, q15⟩ := q
  have e1 : rS (84 :: 80 :: 75 :: 49 :: a4 :: a5 :: a6 :: a7 :: a8 :: a9 :: a10 :: a11 :: a12 :: a13 :: a14 :: a15 :: z) = numN13 [a6, a7] := rfl
  have e2 : rN (84 :: 80 :: 75 :: 49 :: a4 :: a5 :: a6 :: a7 :: a8 :: a9 :: a10 :: a11 :: a12 :: a13 :: a14 :: a15 :: z) = numN13 [a8, a9, a10, a11] := rfl
  have e3 : ((84 :: 80 :: 75 :: 49 :: a4 :: a5 :: a6 :: a7 :: a8 :: a9 :: a10 :: a11 :: a12 :: a13 :: a14 :: a15 :: z).drop 12).take 4 = [a12, a13, a14, a15] := rfl
  have l2 : numN13 [a6, a7] = a6 * 256 + a7 := by show (0 * 256 + a6) * 256 + a7 = _; omega
  have l4 : ∀ a b c d, numN13 [a, b, c, d] = ((a * 256 + b) * 256 + c) * 256 + d := fun a b c d => by show (((0 * 256 + a) * 256 + b) * 256 + c) * 256 + d = _; omega
  refine ⟨?_, ?_, ?_, q4, q5, ?_, ?_⟩
  · unfold hdB; rw [e1, e2, by2_num q6 q7, by4_num q8 q9 q10 q11]; rfl
  · rw [e3, by4_num q12 q13 q14 q15]
  · rw [e3, l4]; omega
  · rw [e1, l2]; omega
  · rw [e2, l4]; omega
end Go.Proofs.YtgbhbooogofmbabDoor
namespace Go.Proofs.YtgbhbooogofmbabDoor
open Go.RowKit
set_option linter.unusedSimpArgs false
set_option linter.unusedVariables false

section
variable {P : Program}

theorem put_size (a : Act) (dst : Option Tmp) (v : Value) : (a.put dst v).tmps.size = a.tmps.size := by
  unfold Act.put; cases dst <;> simp
theorem put_other (a : Act) (dst : Option Tmp) (v : Value) (s : Nat) (h : dst ≠ some s) : (a.put dst v).tmps[s]? = a.tmps[s]? := by
  unfold Act.put
  cases dst with
  | none => rfl
  | some d =>
    have : d ≠ s := fun e => h (by rw [e])
    simp [Array.getElem?_setIfInBounds, this]
def rep (l : List Oper) (j : Nat) (N : Value) : List Oper := l.modify j fun o => { o with op := .assign (.const N) }
theorem rep_same (l : List Oper) (j : Nat) (N : Value) (i : Nat) : ((rep l j N)[i]?).map (fun o => (o.dst, o.after, o.guard)) = (l[i]?).map (fun o => (o.dst, o.after, o.guard)) := by
  unfold rep
  rw [List.getElem?_modify]
  cases l[i]? <;> simp
  split <;> simp
theorem rep_of (l : List Oper) (j : Nat) (N : Value) (i : Nat) (o : Oper) (h : l[i]? = some o) : ∃ o', (rep l j N)[i]? = some o' ∧ o'.dst = o.dst ∧ o'.after = o.after ∧ o'.guard = o.guard := by
  have := rep_same l j N i
  rw [h] at this
  cases e : (rep l j N)[i]? with
  | none => rw [e] at this; simp at this
  | some o' => rw [e] at this; simp at this; exact ⟨o', rfl, this.1, this.2.1, this.2.2⟩
def seqB (md : Region.Mode) (ops : Array Oper) : Nat → Nat → Array Bool → Bool
  | 0, _, listed => Region.ready md ops listed == []
  | f + 1, k, listed => (Region.ready md ops listed == [k]) && seqB md ops f (k + 1) (listed.setIfInBounds k true)
theorem get_app_lt (lp : Array Bool) (p i : Nat) (h : i < lp.size) (d : Bool) : (lp ++ Array.replicate p false).getD i d = lp.getD i d := by
  simp [Array.getElem?_append, h]
theorem get_app_false (lp : Array Bool) (p i : Nat) : (lp ++ Array.replicate p false).getD i false = lp.getD i false := by
  by_cases h : i < lp.size
  · exact get_app_lt lp p i h false
  · simp [Array.getElem?_append, h, Array.getElem?_replicate]
    split <;> rfl
def unl (lp : Array Bool) : Nat := lp.toList.count false
theorem count_set : ∀ (l : List Bool) (i : Nat), l[i]? = some false → (l.set i true).count false + 1 = l.count false := by
  intro l
  induction l with
  | nil => intro i h; simp at h
  | cons b l ih =>
    intro i h
    cases i with
    | zero => simp at h; subst h; simp
    | succ i =>
      have := ih i (by simpa using h)
      simp only [List.set_cons_succ, List.count_cons]
      omega
theorem unl_set (lp : Array Bool) (i : Nat) (h : lp.getD i true = false) : unl (lp.setIfInBounds i true) + 1 = unl lp := by
  unfold unl
  rw [Array.toList_setIfInBounds]
  apply count_set
  rw [Array.getElem?_toList]
  cases e : lp[i]? with
  | none => rw [Array.getD_eq_getD_getElem?, e] at h; simp at h
  | some b => rw [Array.getD_eq_getD_getElem?, e] at h; simp at h; rw [h]
theorem unl_zero (lp : Array Bool) (h : unl lp = 0) : lp = Array.replicate lp.size true := by
  unfold unl at h
  rw [List.count_eq_zero] at h
  apply Array.ext
  · simp
  · intro i h1 h2
    simp
    cases e : lp[i] with
    | true => rfl
    | false => exact absurd (by rw [← e]; simp) h
theorem unl_some (lp : Array Bool) (f : Nat) (h : unl lp = f + 1) : ∃ k, k < lp.size ∧ lp.getD k true = false := by
  unfold unl at h
  have : false ∈ lp.toList := List.count_pos_iff.mp (by omega)
  obtain ⟨k, hk, e⟩ := List.getElem_of_mem this
  have hk' : k < lp.size := by simpa using hk
  exact ⟨k, hk', by rw [Array.getD_eq_getD_getElem?]; simp [hk']; simpa using e⟩
def waitB (l : List Oper) (m : Nat) : Bool := (l.drop m).all fun o => (List.range m).all fun k => o.after.any fun e => Region.binds .any e && e.on == k
theorem ready_pre (l : List Oper) (m j : Nat) (N : Value) (hml : m ≤ l.length) (hw : waitB l m = true) (lp : Array Bool) (hs : lp.size = m) (f : Nat) (hu : unl lp = f + 1) (i : Nat)
    (hi : i ∈ Region.ready .any l.toArray (lp ++ Array.replicate (l.length - m) false)) : i < m ∧ i ∈ Region.ready .any (rep (l.take m) j N).toArray lp := by
  obtain ⟨hun, o, ho, hall⟩ := mem_ready.1 hi
  have ho' : l[i]? = some o := by simpa using ho
  have him : i < m := by
    apply Classical.byContradiction
    intro c
    obtain ⟨k, hk, hf⟩ := unl_some lp f hu
    have hmem : o ∈ l.drop m := by
      have : (l.drop m)[i - m]? = some o := by rw [List.getElem?_drop, show m + (i - m) = i by omega]; exact ho'
      exact List.mem_of_getElem? this
    have h1 := List.all_eq_true.mp hw o hmem
    have h2 := List.all_eq_true.mp h1 k (List.mem_range.mpr (by omega))
    obtain ⟨e, he, heq⟩ := Array.any_eq_true'.mp h2
    simp only [Bool.and_eq_true, beq_iff_eq] at heq
    have h3 := hall e he heq.1
    rw [heq.2, get_app_false] at h3
    rw [Array.getD_eq_getD_getElem?] at h3 hf
    cases q : lp[k]? with
    | none => rw [q] at h3; simp at h3
    | some b => rw [q] at h3 hf; simp at h3 hf; rw [h3] at hf; cases hf
  refine ⟨him, mem_ready.2 ⟨by rw [get_app_lt lp _ i (by omega)] at hun; exact hun, ?_⟩⟩
  obtain ⟨o', h1, h2, h3, h4⟩ := rep_of (l.take m) j N i o (by rw [List.getElem?_take, if_pos him]; exact ho')
  refine ⟨o', by simpa using h1, fun e he hb => ?_⟩
  rw [h3] at he
  have := hall e he hb
  rwa [get_app_false] at this

structure QpOk (l : List Oper) (m j : Nat) : Prop where
  ml : m ≤ l.length
  lex : ∀ N, Region.lexB .any (rep (l.take m) j N).toArray = true
  wait : waitB l m = true
  seq : seqB .any l.toArray (l.length - m) m (Array.replicate m true ++ Array.replicate (l.length - m) false) = true
  guards : ∀ (i : Nat) o, l[i]? = some o → ∀ k b, o.guard = some (k, b) → k < m
  edges : ∀ (i : Nat) o, l[i]? = some o → ∀ e ∈ o.after, Region.binds .any e = true → e.on < i
def guardsB (l : List Oper) (m : Nat) : Bool := l.all fun o => match o.guard with | some (k, _) => decide (k < m) | none => true
theorem guards_of {l : List Oper} {m : Nat} (h : guardsB l m = true) : ∀ (i : Nat) o, l[i]? = some o → ∀ k b, o.guard = some (k, b) → k < m := by
  intro i o ho k b hg
  have := List.all_eq_true.mp h o (List.mem_of_getElem? ho)
  rw [hg] at this
  simpa using this
def edgesB (l : List Oper) : Bool := (List.range l.length).all fun i => match l[i]? with | some o => o.after.all fun e => !Region.binds .any e || decide (e.on < i) | none => true
theorem edges_of {l : List Oper} (h : edgesB l = true) : ∀ (i : Nat) o, l[i]? = some o → ∀ e ∈ o.after, Region.binds .any e = true → e.on < i := by
  intro i o ho e he hb
  have hi : i < l.length := (List.getElem?_eq_some_iff.mp ho).1
  have h1 := List.all_eq_true.mp h i (List.mem_range.mpr hi)
  simp only [ho] at h1
  have := Array.all_eq_true_iff_forall_mem.1 h1 e he
  simpa [hb] using this
theorem qpOk {l : List Oper} (m j : Nat) (h1 : m ≤ l.length) (h2 : ∀ N, Region.lexB .any (rep (l.take m) j N).toArray = true) (h3 : waitB l m = true)
    (h4 : seqB .any l.toArray (l.length - m) m (Array.replicate m true ++ Array.replicate (l.length - m) false) = true) (h5 : guardsB l m = true) (h6 : edgesB l = true) : QpOk l m j :=
  ⟨h1, h2, h3, h4, guards_of h5, edges_of h6⟩
theorem erase_get (l l' : List Value) (d s : Nat) (h : l.eraseIdx d = l'.eraseIdx d) (hs : s ≠ d) : l[s]? = l'[s]? := by
  rcases Nat.lt_or_gt_of_ne hs with q | q
  · have := congrArg (fun x => x[s]?) h
    simpa [List.getElem?_eraseIdx, q] using this
  · have := congrArg (fun x => x[s - 1]?) h
    simp only [List.getElem?_eraseIdx] at this
    rw [if_neg (by omega), if_neg (by omega), show s - 1 + 1 = s by omega] at this
    exact this
theorem some_ready {l : List Oper} {m j : Nat} (ok : QpOk l m j) (lp : Array Bool) (hs : lp.size = m) : ∀ k, k < m → lp.getD k true = false → Region.ready .any l.toArray (lp ++ Array.replicate (l.length - m) false) ≠ [] := by
  intro k
  induction k using Nat.strongRecOn with
  | ind k ih =>
    intro hk hf hr
    have hkl : k < l.length := by have := ok.ml; omega
    by_cases c : ∀ e ∈ (l[k]).after, Region.binds .any e = true → (lp ++ Array.replicate (l.length - m) false).getD e.on false = true
    · have : k ∈ Region.ready .any l.toArray (lp ++ Array.replicate (l.length - m) false) := mem_ready.2 ⟨by rw [get_app_lt lp _ k (by omega)]; exact hf, l[k], by simp [hkl], c⟩
      rw [hr] at this
      cases this
    · simp only [Classical.not_forall] at c
      obtain ⟨e, he, hb, hn⟩ := c
      have hlt := ok.edges k l[k] (by simp [hkl]) e he hb
      rw [get_app_false] at hn
      refine ih e.on hlt (by omega) ?_ hr
      have hlt2 : e.on < lp.size := by omega
      rw [Array.getD_eq_getD_getElem?] at hn ⊢
      simp [hlt2] at hn ⊢
      exact hn
def putAll (a : Act) : List (Option Tmp) → List Value → Act
  | d :: ds, v :: vs => putAll (a.put d v) ds vs
  | _, _ => a
end
end Go.Proofs.YtgbhbooogofmbabDoor
namespace Go.Proofs.YtgbhbooogofmbabDoor
open Go.RowKit
set_option linter.unusedSimpArgs false
set_option linter.unusedVariables false

section
variable {P : Program}

end
end Go.Proofs.YtgbhbooogofmbabDoor
namespace Go.Proofs.YtgbhbooogofmbabDoor
open Go.RowKit Go.Shelf
set_option linter.unusedSimpArgs false
set_option linter.unusedVariables false

section
variable {P : Program}
structure Bk (B : Nat) (r : Loop) (W : World) : Prop where
  rec' : W.heap[B + 1]? = some (.loop r)
  dfr : W.heap[B]? = some (.deferred (some []))
theorem Bk.lt {B : Nat} {r : Loop} {W : World} (k : Bk B r W) : B + 1 < W.heap.size := (Array.getElem?_eq_some_iff.1 k.rec').1
theorem Bk.grown {B : Nat} {r : Loop} {W W' : World} {row : Option Nat} (k : Bk B r W) (h : W.grownBy W' row) (hr : ∀ z, row = some z → B + 2 ≤ z) : Bk B r W' := by
  have hl := k.lt
  exact ⟨(h.block _ hl (fun e => by have := hr _ e.symm; omega)).trans k.rec', (h.block _ (by omega) (fun e => by have := hr _ e.symm; omega)).trans k.dfr⟩
def KW (Z : Nat → Prop) (B : Nat) (W W' : World) : Prop := W.heap.size ≤ W'.heap.size ∧ ∀ (z : Nat) (o : Obj), W.heap[z]? = some o → (Z z ∨ B ≤ z) → W'.heap[z]? = some o
theorem KW.trans {Z : Nat → Prop} {B : Nat} {X Y V : World} (h : KW Z B X Y) (g : KW Z B Y V) : KW Z B X V := ⟨Nat.le_trans h.1 g.1, fun z o h1 h2 => g.2 z o (h.2 z o h1 h2) h2⟩
theorem KW.refl (Z : Nat → Prop) (B : Nat) (W : World) : KW Z B W W := ⟨Nat.le_refl _, fun _ _ h _ => h⟩
end
end Go.Proofs.YtgbhbooogofmbabDoor
namespace Go.Proofs.YtgbhbooogofmbabDoor
open Go.RowKit
set_option linter.unusedSimpArgs false
set_option linter.unusedVariables false

section
variable {P : Program}
structure Sim (b l : List Oper) (m : Nat) (E : Nat → Bool) : Prop where
  len : b.length = m
  same : ∀ i, i < m → ∀ o, l[i]? = some o → ∃ o', b[i]? = some o' ∧ o'.dst = o.dst ∧ o'.after = o.after ∧ o'.guard = o.guard ∧ (E i = false → o' = o)
theorem Sim.yield {b l : List Oper} {m : Nat} {E : Nat → Bool} (h : Sim b l m E) (hml : m ≤ l.length) (tmps : Array Value) (k : Nat) (hk : k < m) : yielded b.toArray tmps k = yielded l.toArray tmps k := by
  have hl : k < l.length := by omega
  obtain ⟨o2, q1, q2, -, -, -⟩ := h.same k hk l[k] (by simp [hl])
  unfold yielded
  simp only [List.getElem?_toArray, q1, List.getElem?_eq_getElem hl, Option.bind_some, q2]
theorem Sim.wanted {b l : List Oper} {m : Nat} {E : Nat → Bool} (h : Sim b l m E) (hml : m ≤ l.length) (a : Act) (o : Oper) (hlt : ∀ k c, o.guard = some (k, c) → k < m) : Region.wanted o (yielded b.toArray a.tmps) = Region.wanted o (yielded l.toArray a.tmps) := by
  unfold Region.wanted
  cases e : o.guard with
  | none => rfl
  | some kb =>
    obtain ⟨k, c⟩ := kb
    simp only
    rw [h.yield hml a.tmps k (hlt k c e)]
theorem Sim.ready {b l : List Oper} {m : Nat} {E : Nat → Bool} (h : Sim b l m E) (hml : m ≤ l.length) (hw : waitB l m = true) (lp : Array Bool) (hs : lp.size = m) (f : Nat) (hu : unl lp = f + 1) (i : Nat)
    (hi : i ∈ Region.ready .any l.toArray (lp ++ Array.replicate (l.length - m) false)) : i < m ∧ i ∈ Region.ready .any b.toArray lp := by
  obtain ⟨him, -⟩ := ready_pre l m m undef hml hw lp hs f hu i hi
  obtain ⟨hun, o, ho, hall⟩ := mem_ready.1 hi
  obtain ⟨o', q1, q2, q3, q4, -⟩ := h.same i him o (by simpa using ho)
  refine ⟨him, mem_ready.2 ⟨by rw [get_app_lt lp _ i (by omega)] at hun; exact hun, o', by simpa using q1, fun e he hb => ?_⟩⟩
  rw [q3] at he
  have := hall e he hb
  rwa [get_app_false] at this
theorem putAll_size : ∀ (ds : List (Option Tmp)) (vs : List Value) (a : Act), (putAll a ds vs).tmps.size = a.tmps.size
  | [], _, a => by cases ‹List Value› <;> rfl
  | d :: ds, [], a => rfl
  | d :: ds, v :: vs, a => by
    show (putAll (a.put d v) ds vs).tmps.size = _
    rw [putAll_size ds vs, put_size]
end
end Go.Proofs.YtgbhbooogofmbabDoor
namespace Go.Proofs.YtgbhbooogofmbabDoor
open Go.RowKit
set_option linter.unusedSimpArgs false
set_option linter.unusedVariables false

section
variable {P : Program}

theorem putAll_other : ∀ (ds : List (Option Tmp)) (vs : List Value) (a : Act) (s : Nat), (∀ d ∈ ds, d ≠ some s) → (putAll a ds vs).tmps[s]? = a.tmps[s]?
  | [], vs, a, s, _ => by cases vs <;> rfl
  | d :: ds, [], a, s, _ => rfl
  | d :: ds, v :: vs, a, s, h => by
    rw [putAll, putAll_other ds vs (a.put d v) s (fun x hx => h x (List.mem_cons_of_mem _ hx))]
    exact put_other a d v s (h d (by simp))
theorem putAll_defers : ∀ (ds : List (Option Tmp)) (vs : List Value) (a : Act), (putAll a ds vs).defers = a.defers
  | [], vs, a => by cases vs <;> rfl
  | d :: ds, [], a => rfl
  | d :: ds, v :: vs, a => by
    rw [putAll, putAll_defers ds vs (a.put d v)]
    unfold Act.put
    cases d <;> rfl
structure Slt (l : List Oper) (a A : Act) (lp : Array Bool) (a' : Act) : Prop where
  don : ∀ (k : Nat) (o : Oper) (s : Nat), l[k]? = some o → lp.getD k false = true → o.dst = some s → a'.tmps[s]? = A.tmps[s]?
  oth : ∀ s, (∀ (k : Nat) (o : Oper), l[k]? = some o → lp.getD k false = true → o.dst ≠ some s) → a'.tmps[s]? = a.tmps[s]?
  siz : a'.tmps.size = a.tmps.size
  dfr : a'.defers = a.defers
theorem getD_set {lp : Array Bool} {i k : Nat} (h : (lp.setIfInBounds i true).getD k false = true) : k = i ∨ lp.getD k false = true := by
  by_cases e : k = i
  · exact .inl e
  · right
    rw [Array.getD_eq_getD_getElem?] at h ⊢
    rwa [Array.getElem?_setIfInBounds_ne (by omega)] at h
theorem getD_set_same {lp : Array Bool} {i : Nat} (h : i < lp.size) : (lp.setIfInBounds i true).getD i false = true := by
  rw [Array.getD_eq_getD_getElem?, Array.getElem?_setIfInBounds_self_of_lt h]
  rfl
def valO (A : Act) (o : Oper) : Value := ((o.dst).bind fun s => A.tmps[s]?).getD undef
theorem gh_any {γ : Type} {l : List Oper} (ok : QpOk l l.length l.length) (hgd : ∀ o ∈ l, o.guard = none) (hdst : ∀ (i k : Nat) (oi ok : Oper) (s : Nat), l[i]? = some oi → l[k]? = some ok → oi.dst = some s → ok.dst = some s → i = k) {Q : Exit → Act → World → Prop} {a : Act} (A : γ → Act) (hsz : ∀ g, (A g).tmps.size = a.tmps.size) (hdf : ∀ g, (A g).defers = a.defers) (hA : ∀ g s, (∀ o ∈ l, o.dst ≠ some s) → (A g).tmps[s]? = a.tmps[s]?) (R : Array Bool → γ → World → Prop)
    (hstep : ∀ (i : Nat) (o : Oper) (lp : Array Bool) (g : γ) (w' : World) (a' : Act), l[i]? = some o → lp.size = l.length → lp.getD i false = false → (∀ e ∈ o.after, Region.binds .any e = true → lp.getD e.on false = true) → R lp g w' → Slt l a (A g) lp a' →
      ∀ (K : Act → World → Prop) Q', (∀ g' w'', (∀ (k : Nat) (o : Oper) (s : Nat), l[k]? = some o → lp.getD k false = true → o.dst = some s → (A g').tmps[s]? = (A g).tmps[s]?) → R (lp.setIfInBounds i true) g' w'' → ∀ v, valO (A g') o = v → K (a'.put o.dst v) w'') → o.wp P a' w' K Q')
    (hpost : ∀ g w', R (Array.replicate l.length true) g w' → Q .normal (A g) w') :
    ∀ (fuel : Nat) (lp : Array Bool) (g : γ) (a' : Act) (w : World), lp.size = l.length → unl lp = fuel → R lp g w → Slt l a (A g) lp a' → wpAny P .any l.toArray Q fuel lp a' w := by
  intro fuel
  have fin : ∀ (lp : Array Bool) (g : γ) (a' : Act) (w : World), lp.size = l.length → unl lp = 0 → R lp g w → Slt l a (A g) lp a' → Q .normal a' w := by
    intro lp g a' w hs hu hR hS
    have e : lp = Array.replicate l.length true := by have := unl_zero lp hu; rwa [hs] at this
    rw [e] at hR hS
    have : a' = A g := by
      have ht : a'.tmps = (A g).tmps := by
        apply Array.ext_getElem?
        intro s
        by_cases h : ∃ (k : Nat) (o : Oper), l[k]? = some o ∧ o.dst = some s
        · obtain ⟨k, o, h1, h2⟩ := h
          have hk : k < l.length := (List.getElem?_eq_some_iff.mp h1).1
          exact hS.don k o s h1 (by simp [Array.getElem?_replicate, hk]) h2
        · have h' : ∀ o ∈ l, o.dst ≠ some s := by
            intro o ho e
            obtain ⟨k, hk, rfl⟩ := List.mem_iff_getElem.mp ho
            exact h ⟨k, l[k], List.getElem?_eq_getElem hk, e⟩
          rw [hA g s h']
          exact hS.oth s (fun k o h1 _ e => h ⟨k, o, h1, e⟩)
      have hd : a'.defers = (A g).defers := by rw [hS.dfr, hdf]
      cases a'
      cases hAg : A g
      rw [hAg] at ht hd
      simp only at ht hd
      rw [ht, hd]
    rw [this]
    exact hpost g w hR
  induction fuel with
  | zero =>
    intro lp g a' w hs hu hR hS
    refine ⟨?_, fin lp g a' w hs hu hR hS⟩
    have e : lp = Array.replicate l.length true := by have := unl_zero lp hu; rwa [hs] at this
    apply List.eq_nil_iff_forall_not_mem.mpr
    intro i hi
    obtain ⟨hun, o, ho, _⟩ := mem_ready.1 hi
    have hk : i < l.length := by
      have := (Array.getElem?_eq_some_iff.mp ho).1
      simpa using this
    rw [e] at hun
    simp [Array.getElem?_replicate, hk] at hun
  | succ fuel ih =>
    intro lp g a' w hs hu hR hS
    refine ⟨fun e => ?_, fun i hi => ?_⟩
    · obtain ⟨k, hk, hf⟩ := unl_some lp fuel hu
      have hne := some_ready ok lp hs k (by omega) hf
      rw [Nat.sub_self] at hne
      exact absurd (by simpa using e) hne
    · obtain ⟨hun, o, ho, hrd⟩ := mem_ready.1 hi
      have ho' : l[i]? = some o := by simpa using ho
      have hil : i < l.length := (List.getElem?_eq_some_iff.mp ho').1
      have hun' : lp.getD i false = false := by
        rw [Array.getD_eq_getD_getElem?] at hun ⊢
        cases q : lp[i]? with
        | none => rfl
        | some b => rw [q] at hun; simpa using hun
      unfold wpOp
      simp only [ho]
      rw [if_pos (by simp [Region.wanted, hgd o (List.mem_of_getElem? ho')])]
      left
      refine hstep i o lp g w a' ho' hs hun' (fun e he hb => hrd e he hb) hR hS _ _ ?_
      intro g' w'' hsame hR' v hv
      subst hv
      refine ih _ g' _ w'' (by simp [hs]) (by have := unl_set lp i hun; omega) hR' ⟨?_, ?_, ?_, ?_⟩
      · intro k ok s hk hl hd
        rcases getD_set hl with rfl | hl'
        · have : ok = o := by rw [ho'] at hk; cases hk; rfl
          subst this
          unfold Act.put valO
          rw [hd]
          simp only [Option.bind_some]
          by_cases hlt : s < a'.tmps.size
          · rw [Array.getElem?_setIfInBounds_self_of_lt hlt]
            have h2 : s < (A g').tmps.size := by rw [hsz, ← hS.siz]; exact hlt
            rw [Array.getElem?_eq_getElem h2]
            rfl
          · rw [Array.getElem?_eq_none (by simp; omega), Array.getElem?_eq_none (by rw [hsz, ← hS.siz]; omega)]
        · rw [put_other a' o.dst _ s (fun e => by
            have := hdst k i ok o s hk ho' hd e
            subst this
            rw [hun'] at hl'
            cases hl'), hS.don k ok s hk hl' hd, hsame k ok s hk hl' hd]
      · intro s h
        have hne : o.dst ≠ some s := h i o ho' (getD_set_same (by omega))
        rw [put_other a' o.dst _ s hne]
        exact hS.oth s (fun k ok hk hl => h k ok hk (by
          by_cases e : k = i
          · subst e; exact getD_set_same (by omega)
          · rw [Array.getD_eq_getD_getElem?] at hl ⊢
            rwa [Array.getElem?_setIfInBounds_ne (by omega)]))
      · rw [put_size, hS.siz]
      · unfold Act.put
        cases o.dst <;> exact hS.dfr
def dstG (l : List Oper) : Bool := (List.range l.length).all fun i => (List.range l.length).all fun k => i == k || ((l[i]?).bind (·.dst)).isNone || ((l[i]?).bind (·.dst)) != ((l[k]?).bind (·.dst))
theorem dstG_of {l : List Oper} (h : dstG l = true) : ∀ (i k : Nat) (oi ok : Oper) (s : Nat), l[i]? = some oi → l[k]? = some ok → oi.dst = some s → ok.dst = some s → i = k := by
  intro i k oi ok s hi hk h1 h2
  have hil := (List.getElem?_eq_some_iff.mp hi).1
  have hkl := (List.getElem?_eq_some_iff.mp hk).1
  unfold dstG at h
  rw [List.all_eq_true] at h
  have := h i (List.mem_range.mpr hil)
  rw [List.all_eq_true] at this
  have := this k (List.mem_range.mpr hkl)
  rw [hi, hk] at this
  simp only [Option.bind_some, h1, h2] at this
  simpa using this
theorem gh_region {γ : Type} {id : Nat} {l : List Oper} (ok : QpOk l l.length l.length) (hgd : (l.all fun o => o.guard.isNone) = true) (hdst : dstG l = true) {Q : Exit → Act → World → Prop} {a : Act} {w : World} (ds : List (Option Tmp)) (vals : γ → List Value) (hm : P.follows .mixedOrders = true) (hds : ∀ d ∈ ds, ∃ o ∈ l, o.dst = d) (R : Array Bool → γ → World → Prop) (g0 : γ) (h0 : R (Array.replicate l.length false) g0 w.drew)
    (hstep : ∀ (i : Nat) (o : Oper) (lp : Array Bool) (g : γ) (w' : World) (a' : Act), l[i]? = some o → lp.size = l.length → lp.getD i false = false → (∀ e ∈ o.after, Region.binds .any e = true → lp.getD e.on false = true) → R lp g w' → Slt l a (putAll a ds (vals g)) lp a' →
      ∀ (K : Act → World → Prop) Q', (∀ g' w'', (∀ (k : Nat) (o : Oper) (s : Nat), l[k]? = some o → lp.getD k false = true → o.dst = some s → (putAll a ds (vals g')).tmps[s]? = (putAll a ds (vals g)).tmps[s]?) → R (lp.setIfInBounds i true) g' w'' → ∀ v, valO (putAll a ds (vals g')) o = v → K (a'.put o.dst v) w'') → o.wp P a' w' K Q')
    (hpost : ∀ g w', R (Array.replicate l.length true) g w' → Q .normal (putAll a ds (vals g)) w') : (Code.region id l.toArray true).wp P Q a w := by
  refine wp_region_any hm ?_
  have hu : unl (Array.replicate l.length false) = l.length := by unfold unl; simp
  have main := gh_any ok (fun o ho => by have := List.all_eq_true.mp hgd o ho; simpa using this) (dstG_of hdst) (A := fun g => putAll a ds (vals g)) (fun g => putAll_size _ _ _) (fun g => putAll_defers _ _ _) (fun g s h => putAll_other _ _ _ _ (fun d hd e => by obtain ⟨o, ho, hod⟩ := hds d hd; exact h o ho (by rw [hod, e]))) R hstep hpost l.length (Array.replicate l.length false) g0 a w.drew (by simp) hu h0 ⟨fun k o s hk hl => (by rw [Array.getD_eq_getD_getElem?, Array.getElem?_replicate] at hl; split at hl <;> simp at hl), fun s _ => rfl, rfl, rfl⟩
  have e1 : l.length = l.toArray.size := by simp
  rw [e1] at main
  simpa using main
end
end Go.Proofs.YtgbhbooogofmbabDoor
namespace Go.Proofs.YtgbhbooogofmbabDoor
open Go.RowKit Go.Shelf
set_option linter.unusedSimpArgs false
set_option linter.unusedVariables false

section
variable {P : Program}
end
end Go.Proofs.YtgbhbooogofmbabDoor
namespace Go.Proofs.YtgbhbooogofmbabDoor
open Go.RowKit Go.Shelf
set_option linter.unusedSimpArgs false
set_option linter.unusedVariables false

section
variable {P : Program}
end
theorem max_16 (a b : Int) (w : World) : (Builtin.max_ #[3, 3] 3 #[.int .i64 a, .int .i64 b]).run Tryd.prog w = .ok (.int .i64 (max a b)) w := by
  by_cases h : a ≤ b
  · rw [Int.max_eq_right h]
    by_cases h2 : a = b
    · subst h2; go_simp
    · have h3 : a < b := by omega
      go_simp
      try simp [*]
  · rw [Int.max_eq_left (by omega)]
    have h3 : ¬ a < b := by omega
    go_simp
    try simp [*]
end Go.Proofs.YtgbhbooogofmbabDoor
namespace Go.Proofs.YtgbhbooogofmbabDoor
open Go.RowKit
set_option linter.unusedSimpArgs false
set_option linter.unusedVariables false

set_option maxRecDepth 100000 in
theorem halved_any (x : BitVec 32) (w : World) :
    Calls Tryd.prog 39 #[.int .u32 (uI x)] w fun e w' => e = .returned (.int .u32 (uI (hb x))) ∧ w' = w := by
  have h1 := odd32 x
  have h2 := half32 x
  cases c : x.getLsbD 0
  · rw [hb_even x c]
    rw [c] at h1
    simp only [Bool.false_eq_true, if_false] at h1
    clear c
    go_enter Tryd.func39, Tryd.ntmps39
    go_wp2
    go_ret
    exact ⟨rfl, rfl⟩
  · rw [hb_odd x c]
    rw [c] at h1
    simp only [if_true] at h1
    have h3 := xorM (x >>> 1)
    clear c
    go_enter Tryd.func39, Tryd.ntmps39
    go_wp2
    go_ret
    exact ⟨rfl, rfl⟩
set_option maxRecDepth 100000 in
set_option maxHeartbeats 4000000 in
theorem times_any (x y : BitVec 32) (w : World) :
    Calls Tryd.prog 37 #[.int .u32 (uI x), .int .u32 (uI y)] w fun e w' => e = .returned (.int .u32 (uI (prd 32 x y 0#32))) ∧ w' = w := by
  go_enter Tryd.func37, Tryd.ntmps37
  go_wp2_with fail
  go_loopg [0, 1, 5] 32 (fun k a b p wr => wr = w ∧ k ≤ 32 ∧ ∃ A B P : BitVec 32, a = .int .u32 (uI A) ∧ b = .int .u32 (uI B) ∧ p = .int .u32 (uI P) ∧ Hid (prd k A B P = prd 32 x y 0#32 ∧ A <<< k = 0#32))
  case atStart => exact ⟨rfl, by omega, x, y, 0#32, rfl, rfl, by rw [uI_zero], rfl, by simp⟩
  case round =>
    obtain ⟨rfl, hk, A, B, P, rfl, rfl, rfl, HP⟩ := hrel
    by_cases h0 : A = 0#32
    · subst h0
      have hz := uI_zero
      obtain ⟨e1, -⟩ := HP.out
      rw [prd_zero] at e1
      rw [hz]
      clear HP hz
      go_wp2_with fail
      go_ret
      exact ⟨congrArg Ending.returned (congrArg (Value.int .u32) (congrArg uI e1)), rfl⟩
    · have hz : ¬ uI A = 0 := fun h => h0 ((uI_is0 A).mp h)
      obtain ⟨j, rfl⟩ : ∃ j, gk = j + 1 := by
        cases gk with
        | zero => exact absurd (by have := HP.out.2; simpa using this) h0
        | succ j => exact ⟨j, rfl⟩
      have htop := top32 A
      have HD := HP.out
      have hN : Hid (prd j (A <<< 1) (hb B) (if A.getLsbD 31 then P ^^^ B else P) = prd 32 x y 0#32 ∧ (A <<< 1) <<< j = 0#32) := ⟨HD.1, by rw [← BitVec.shiftLeft_add, Nat.add_comm]; exact HD.2⟩
      clear HP HD h0
      cases c : A.getLsbD 31
      · rw [c] at htop hN
        simp only [Bool.false_eq_true, if_false] at htop hN
        clear c
        go_wp2_with (go_at_call 39; refine (halved_any B _).mono ?_; rintro e w1 ⟨rfl, rfl⟩)
        go_roundg j
        case measure => omega
        case rel => exact ⟨rfl, by omega, _, _, _, congrArg (Value.int .u32) (dbl32 A), rfl, rfl, hN⟩
      · rw [c] at htop hN
        simp only [if_true] at htop hN
        clear c
        have hxx := xor32 P B
        go_wp2_with (go_at_call 39; refine (halved_any B _).mono ?_; rintro e w1 ⟨rfl, rfl⟩)
        go_roundg j
        case measure => omega
        case rel => exact ⟨rfl, by omega, _, _, _, congrArg (Value.int .u32) (dbl32 A), rfl, rfl, hN⟩
theorem oddN (n : Nat) (h : n < 9223372036854775808) : bits .and .i64 (n : Int) 1 = ((n % 2 : Nat) : Int) := by
  unfold bits
  simp only [IntKind.bits]
  have e : (BitVec.ofInt 64 (n : Int) &&& BitVec.ofInt 64 1).toNat = n % 2 := by
    rw [BitVec.toNat_and]
    have e1 : (BitVec.ofInt 64 (n : Int)).toNat = n := by rw [BitVec.toNat_ofInt]; omega
    have e2 : (BitVec.ofInt 64 1).toNat = 1 := by decide
    rw [e1, e2]
    exact Nat.and_one_is_mod n
  show IntKind.i64.wrap (((BitVec.ofInt 64 (n : Int) &&& BitVec.ofInt 64 1).toNat : Nat) : Int) = _
  rw [e, IntKind.wrap_i64]
  omega
set_option maxRecDepth 100000 in
set_option maxHeartbeats 4000000 in
theorem byBytes_any (n : Nat) (hn : n < 9223372036854775808) (w : World) :
    Calls Tryd.prog 38 #[.int .i64 (n : Int)] w fun e w' => e = .returned (.int .u32 (uI (hbN (8 * n) cOne))) ∧ w' = w := by
  go_enter Tryd.func38, Tryd.ntmps38
  go_wp2_with fail
  go_loopg [0, 3, 4] n (fun k a b p wr => wr = w ∧ k ≤ n ∧ ∃ P Q : Nat, a = .int .i64 (k : Int) ∧ b = .int .u32 (uI (hbN P cOne)) ∧ p = .int .u32 (uI (hbN Q cOne)) ∧ Hid (P + Q * k = 8 * n))
  case atStart =>
    refine ⟨rfl, Nat.le_refl _, 0, 8, rfl, ?_, ?_, by show 0 + 8 * n = 8 * n; omega⟩
    · exact congrArg (Value.int .u32) (lit32 2147483648 (by decide))
    · rw [byByte_eq]; exact congrArg (Value.int .u32) (lit32 8388608 (by decide))
  case round =>
    obtain ⟨rfl, hk, P, Q, rfl, rfl, rfl, HP⟩ := hrel
    by_cases h0 : gk = 0
    · subst h0
      go_wp2_with fail
      go_ret
      refine ⟨congrArg Ending.returned (congrArg (Value.int .u32) (congrArg uI ?_)), rfl⟩
      have := HP.out
      rw [show 8 * n = P by omega]
    · have hpos : 0 < (gk : Int) := by omega
      have hodd := oddN gk (by omega)
      have hhalf : Hid ((gk : Int) / (2 : Int) = ((gk / 2 : Nat) : Int)) := by show (gk : Int) / (2 : Int) = ((gk / 2 : Nat) : Int); omega
      have hd := Nat.div_add_mod gk 2
      have hq : Q * gk = Q * (2 * (gk / 2)) + Q * (gk % 2) := by rw [← Nat.mul_add, hd]
      have hq2 : Q * (2 * (gk / 2)) = (Q + Q) * (gk / 2) := by rw [← Nat.mul_assoc, Nat.mul_comm Q 2, Nat.two_mul]
      have E := HP.out
      rcases (show gk % 2 = 0 ∨ gk % 2 = 1 by omega) with c | c
      · rw [c] at hodd hq
        have HN : Hid (P + (Q + Q) * (gk / 2) = 8 * n) := by show P + (Q + Q) * (gk / 2) = 8 * n; omega
        have HK : Hid (gk / 2 < gk ∧ gk / 2 ≤ n) := by constructor <;> omega
        clear hd hq hq2 E c HP hk h0
        go_wp2_with (go_at_call 37; refine (times_any _ _ _).mono ?_; rintro e w1 ⟨rfl, rfl⟩)
        go_roundg (gk / 2)
        case measure => exact HK.out.1
        case rel => exact ⟨rfl, HK.out.2, P, Q + Q, congrArg (Value.int .i64) hhalf.out, rfl, congrArg (Value.int .u32) (congrArg uI (prd_pow Q Q)), HN⟩
      · rw [c] at hodd hq
        have HN : Hid (P + Q + (Q + Q) * (gk / 2) = 8 * n) := by show P + Q + (Q + Q) * (gk / 2) = 8 * n; omega
        have HK : Hid (gk / 2 < gk ∧ gk / 2 ≤ n) := by constructor <;> omega
        clear hd hq hq2 E c HP hk h0
        go_wp2_with (go_at_call 37; refine (times_any _ _ _).mono ?_; rintro e w1 ⟨rfl, rfl⟩)
        go_roundg (gk / 2)
        case measure => exact HK.out.1
        case rel => exact ⟨rfl, HK.out.2, P + Q, Q + Q, congrArg (Value.int .i64) hhalf.out, congrArg (Value.int .u32) (congrArg uI (prd_pow P Q)), congrArg (Value.int .u32) (congrArg uI (prd_pow Q Q)), HN⟩
def jnU (a b : BitVec 32) (n : Int) : BitVec 32 := if n < 0 then 0#32 else hbN (8 * n.toNat) a ^^^ b
def jnE (n : Int) : Int := if n < 0 then 1 else 0
set_option maxRecDepth 100000 in
theorem join_any (a b : BitVec 32) (n : Int) (hn : n ≤ 9223372036854775807) (w : World) :
    Calls Tryd.prog 36 #[.int .u32 (uI a), .int .u32 (uI b), .int .i64 n] w fun e w' => e = .returned (.tuple #[.int .u32 (uI (jnU a b n)), .int .i64 (jnE n)]) ∧ w' = w := by
  unfold jnU jnE
  by_cases h : n < 0
  · rw [if_pos h, if_pos h, uI_zero]
    go_enter Tryd.func36, Tryd.ntmps36
    go_wp2
    exact bodyPost_ret (v := .tuple #[.int .u32 0, .int .i64 1]) (by simp [results, Tryd.results36, go_sem]) rfl ⟨rfl, rfl⟩
  · rw [if_neg h, if_neg h]
    obtain ⟨k, rfl⟩ : ∃ k : Nat, n = (k : Int) := ⟨n.toNat, by omega⟩
    have hk : k < 9223372036854775808 := by omega
    have hx := xor32 (hbN (8 * k) a) b
    have hp := congrArg uI (prd_hbN a (8 * k))
    simp only [Int.toNat_natCast]
    clear hn
    go_enter Tryd.func36, Tryd.ntmps36
    go_wp2_with (first | (go_at_call 38; refine (byBytes_any k hk _).mono ?_; rintro e w1 ⟨rfl, rfl⟩) | (go_at_call 37; refine (times_any _ _ _).mono ?_; rintro e w1 ⟨rfl, rfl⟩))
    exact bodyPost_ret (v := .tuple #[.int .u32 (uI (hbN (8 * k) a ^^^ b)), .int .i64 0]) (by simp [results, Tryd.results36, go_sem, hx, hp]) rfl ⟨rfl, rfl⟩
end Go.Proofs.YtgbhbooogofmbabDoor
