/-
  Part 23 of the proof: 2 texts, one behind the other.
-/
import Derived.Test.YtjgpbahglkaijaaDoorPart2
import Derived.Test.YtjgpbahglkaijaaDoorPart1
import Derived.Test.YtjgpbahglkaijaaDoorPart17
namespace Go.Proofs.YtjgpbahglkaijaaDoor
set_option linter.unusedSimpArgs false
set_option linter.unusedVariables false

def chkH (W D S : Int) : Int := if W ≠ 32 ∧ W ≠ 128 then 11 else if D < 0 ∨ W < D ∨ S ≠ max 1 (3 * D) then 28 else 0
def hdB (W D S n : Nat) : List Nat := [84, 80, 75, 49, W, D] ++ by2 S ++ by4 n
def rW (r : List Nat) : Nat := r.getD 4 0
def rD (r : List Nat) : Nat := r.getD 5 0
def rS (r : List Nat) : Nat := numN13 ((r.drop 6).take 2)
def rN (r : List Nat) : Nat := numN13 ((r.drop 8).take 4)
def rC (r : List Nat) : List Nat := (r.drop 16).take (4 * rN r)
def rdE (r : List Nat) : Int :=
  if r.length < 16 then 22 else if r.take 4 ≠ [84, 80, 75, 49] then 21 else if chkH (rW r) (rD r) (rS r) ≠ 0 then chkH (rW r) (rD r) (rS r)
  else if 1048572 < rN r then 18 else if r.length < 16 + 4 * rN r then 22 else 0
def rOk (r : List Nat) : Bool := numN13 ((r.drop 12).take 4) == (crS (r.take 12 ++ rC r)).toNat
def ofE17 (r : List Nat) : Int := if rdE r ≠ 0 then rdE r else if rOk r then 0 else 23
def opE (l : List Nat) (at' : Int) : Int := if at' < 0 ∨ (l.length : Int) < at' then 30 else ofE17 (l.drop at'.toNat)

theorem rd_zero {r : List Nat} (h : rdE r = 0) : 16 ≤ r.length ∧ r.take 4 = [84, 80, 75, 49] ∧ chkH (rW r) (rD r) (rS r) = 0 ∧ rN r ≤ 1048572 ∧ 16 + 4 * rN r ≤ r.length := by
  unfold rdE at h
  split at h
  · cases h
  · split at h
    · cases h
    · split at h
      · rename_i q; exact absurd h q
      · split at h
        · cases h
        · split at h
          · cases h
          · rename_i a b c d e
            exact ⟨by omega, Classical.not_not.1 b, Classical.not_not.1 c, by omega, by omega⟩
theorem rC_len {r : List Nat} (h : rdE r = 0) : (rC r).length = 4 * rN r := by
  obtain ⟨h1, -, -, h4, h5⟩ := rd_zero h
  unfold rC; rw [List.length_take, List.length_drop]; omega
theorem by2_num {a b : Nat} (ha : a < 256) (hb : b < 256) : by2 (numN13 [a, b]) = [a, b] := by
  have e : numN13 [a, b] = (0 * 256 + a) * 256 + b := rfl
  rw [e]; unfold by2
  rw [show ((0 * 256 + a) * 256 + b) / 256 = a by omega, show ((0 * 256 + a) * 256 + b) % 256 = b by omega]
theorem by4_num17 {a b c d : Nat} (ha : a < 256) (hb : b < 256) (hc : c < 256) (hd : d < 256) : by4 (numN13 [a, b, c, d]) = [a, b, c, d] := by
  have e : numN13 [a, b, c, d] = (((0 * 256 + a) * 256 + b) * 256 + c) * 256 + d := rfl
  rw [e]; unfold by4
  rw [show ((((0 * 256 + a) * 256 + b) * 256 + c) * 256 + d) / 16777216 = a by omega, show ((((0 * 256 + a) * 256 + b) * 256 + c) * 256 + d) / 65536 % 256 = b by omega, show ((((0 * 256 + a) * 256 + b) * 256 + c) * 256 + d) / 256 % 256 = c by omega, show ((((0 * 256 + a) * 256 + b) * 256 + c) * 256 + d) % 256 = d by omega]
theorem sixteen {r : List Nat} (h : 16 ≤ r.length) : ∃ a0 a1 a2 a3 a4 a5 a6 a7 a8 a9 a10 a11 a12 a13 a14 a15 z, r = a0 :: a1 :: a2 :: a3 :: a4 :: a5 :: a6 :: a7 :: a8 :: a9 :: a10 :: a11 :: a12 :: a13 :: a14 :: a15 :: z := by
  match r, h with
  | a0 :: a1 :: a2 :: a3 :: a4 :: a5 :: a6 :: a7 :: a8 :: a9 :: a10 :: a11 :: a12 :: a13 :: a14 :: a15 :: z, _ => exact ⟨a0, a1, a2, a3, a4, a5, a6, a7, a8, a9, a10, a11, a12, a13, a14, a15, z, rfl⟩
theorem rd_parts {r : List Nat} (h : 16 ≤ r.length) (hm : r.take 4 = [84, 80, 75, 49]) (hx : ∀ b ∈ r, b < 256) : r.take 12 = hdB (rW r) (rD r) (rS r) (rN r) ∧ (r.drop 12).take 4 = by4 (numN13 ((r.drop 12).take 4)) ∧ numN13 ((r.drop 12).take 4) < 4294967296 ∧ rW r < 256 ∧ rD r < 256 ∧ rS r < 65536 ∧ rN r < 4294967296 := by
  obtain ⟨a0, a1, a2, a3, a4, a5, a6, a7, a8, a9, a10, a11, a12, a13, a14, a15, z, rfl⟩ := sixteen h
  simp only [List.take_succ_cons, List.take_zero, List.cons.injEq, and_true] at hm
  obtain ⟨rfl, rfl, rfl, rfl⟩ := hm
  have q : ∀ b ∈ [a4, a5, a6, a7, a8, a9, a10, a11, a12, a13, a14, a15], b < 256 := fun b hb => hx b (by
    simp only [List.mem_cons, List.mem_nil_iff, or_false] at hb ⊢
    rcases hb with h | h | h | h | h | h | h | h | h | h | h | h <;> simp [h])
  simp only [List.mem_cons, List.mem_nil_iff, or_false, forall_eq_or_imp, forall_eq] at q
  obtain ⟨q4, q5, q6, q7, q8, q9, q10, q11, q12, q13, q14, q15⟩ := q
  have e1 : rS (84 :: 80 :: 75 :: 49 :: a4 :: a5 :: a6 :: a7 :: a8 :: a9 :: a10 :: a11 :: a12 :: a13 :: a14 :: a15 :: z) = numN13 [a6, a7] := rfl
  have e2 : rN (84 :: 80 :: 75 :: 49 :: a4 :: a5 :: a6 :: a7 :: a8 :: a9 :: a10 :: a11 :: a12 :: a13 :: a14 :: a15 :: z) = numN13 [a8, a9, a10, a11] := rfl
  have e3 : ((84 :: 80 :: 75 :: 49 :: a4 :: a5 :: a6 :: a7 :: a8 :: a9 :: a10 :: a11 :: a12 :: a13 :: a14 :: a15 :: z).drop 12).take 4 = [a12, a13, a14, a15] := rfl
  have l2 : numN13 [a6, a7] = a6 * 256 + a7 := by show (0 * 256 + a6) * 256 + a7 = _; omega
  have l4 : ∀ a b c d, numN13 [a, b, c, d] = ((a * 256 + b) * 256 + c) * 256 + d := fun a b c d => by show (((0 * 256 + a) * 256 + b) * 256 + c) * 256 + d = _; omega
  refine ⟨?_, ?_, ?_, q4, q5, ?_, ?_⟩
  · unfold hdB; rw [e1, e2, by2_num q6 q7, by4_num17 q8 q9 q10 q11]; rfl
  · rw [e3, by4_num17 q12 q13 q14 q15]
  · rw [e3, l4]; omega
  · rw [e1, l2]; omega
  · rw [e2, l4]; omega
end Go.Proofs.YtjgpbahglkaijaaDoor
namespace Go.Proofs.YtjgpbahglkaijaaDoor
open Go.RowKit
set_option linter.unusedSimpArgs false
set_option linter.unusedVariables false

theorem sum_one {W : World} {N : Nat} {v : Value} {l : List Nat} (hc : W.cell? ⟨N, 0, none⟩ = some v) (hr : RwX cB W v l) (hl : l.length ≤ 9223372036854775806) (hx : ∀ b ∈ l, b < 256) (hT : Hf W) :
    Calls Tryd.prog 14 #[.slice (some ⟨N, 0, none⟩) 1 1] W fun e w' => e = .returned (.int .u32 (uI (crS l))) ∧ w' = W := by
  have h := sum_any (.slice (some ⟨N, 0, none⟩) 1 1) [(v, l)] W ⟨_, _, rfl, Nat.le_refl _, .inr ⟨N, 0, rfl, fun j x hj => by
    match j, hj with
    | 0, hj => cases hj; exact hc
    | j + 1, hj => cases hj⟩⟩ (fun p hp => by
      simp only [List.mem_cons, List.mem_nil_iff, or_false] at hp
      subst hp
      exact ⟨hr, hl, hx⟩) (by show 1 ≤ _; decide) hT
  simp only [List.map_cons, List.map_nil, List.flatten_cons, List.flatten_nil, List.append_nil] at h
  exact h
theorem rwx_from {W : World} {ao : Option Addr} {n c k : Nat} {l : List Nat} (h : RwX cB W (.slice ao n c) l) (hk : k ≤ l.length) : RwX cB W (.slice (if c = k then ao else ao.map (·.add (k * 1))) (l.length - k) (c - k)) (l.drop k) := by
  obtain ⟨ao', c', e, hc, h⟩ := h
  injection e with e1 e2 e3
  subst e1 e3
  refine ⟨_, _, by rw [List.length_drop], by rw [List.length_drop]; omega, ?_⟩
  rcases h with h | ⟨b, off, e, h⟩
  · left; rw [h]; exact List.drop_nil
  · by_cases hck : c = k
    · left; exact List.drop_eq_nil_of_le (by omega)
    · right
      rw [if_neg hck, e]
      refine ⟨b, off + k, by simp [addA], fun j x hj => ?_⟩
      rw [List.getElem?_drop] at hj
      rw [Nat.add_assoc]
      exact h _ _ hj
end Go.Proofs.YtjgpbahglkaijaaDoor
