/-
  Part 10 of the proof: 2 texts, one behind the other.
-/
import Derived.Test.YtpchhfhdepkbcaaDoorPart9
import Derived.Test.YtpchhfhdepkbcaaDoorPart5
import Derived.Test.YtpchhfhdepkbcaaDoorPart3
import Derived.Test.YtpchhfhdepkbcaaDoorPart4
import Derived.Test.YtpchhfhdepkbcaaDoorPart6
/-
  What the call of turnpikeref2's Text does, of the family 32 and where there is an error.
-/
namespace Go.Proofs.YtpchhfhdepkbcaaDoor
open Go.RowKit
set_option linter.unusedSimpArgs false
set_option linter.unusedVariables false

def dotS (x y z u : ByteArray) : ByteArray := x ++ ⟨#[46]⟩ ++ y ++ ⟨#[46]⟩ ++ z ++ ⟨#[46]⟩ ++ u
/-- The four bytes of an address of the family 32. -/
def octN (x : BitVec 128) (k : Nat) : Nat := (hI x).toNat / 2 ^ (56 - 8 * k) % 256
def text4 (x : BitVec 128) : ByteArray := dotS ⟨(decL (octN x 0)).toArray⟩ ⟨(decL (octN x 1)).toArray⟩ ⟨(decL (octN x 2)).toArray⟩ ⟨(decL (octN x 3)).toArray⟩
theorem and255 (v : Int) (h0 : 0 ≤ v) (h1 : v < 18446744073709551616) : bits .and .u64 v 255 = v % 256 := by
  obtain ⟨n, rfl⟩ := Int.eq_ofNat_of_zero_le h0
  have e1 : (n : Int) = ((BitVec.ofNat 64 n).toNat : Int) := by simp [BitVec.toNat_ofNat]; omega
  have e2 : (255 : Int) = ((BitVec.ofNat 64 255).toNat : Int) := by decide
  rw [e1, e2, bits64and _ _ _ rfl, BitVec.toNat_and, BitVec.toNat_ofNat, BitVec.toNat_ofNat, Nat.mod_eq_of_lt (by omega), show 255 % 2 ^ 64 = 2 ^ 8 - 1 by decide, Nat.and_two_pow_sub_one_eq_mod]
  rfl
theorem rtext_err (F : Int) (x : BitVec 128) (w : World) (h : ¬ rightE F x = 0) :
    Calls Tryd.prog 10 #[.int .i64 F, .agg #[.int .u64 (hI x), .int .u64 (lI x)]] w fun e w' => e = .returned (.tuple #[.string ⟨#[]⟩, .int .i64 (rightE F x)]) ∧ Below w.heap.size w w' := by
  have KR := fun w => rright_any F x w
  have hb : (rightE F x != 0) = true := by simp [h]
  generalize rightE F x = r at *
  go_enter Tryd.func10, Tryd.ntmps10
  go_wp2_with fail
  refine (KR _).mono ?_
  rintro e w1 ⟨rfl, hb1⟩
  have kB := keepb hb1 (bl1 w _)
  clear hb1 KR
  go_wp2
  go_ret2
  exact ⟨rfl, kB⟩

set_option maxHeartbeats 4000000 in
theorem rtext_four (x : BitVec 128) (w : World) (h : rightE 32 x = 0) :
    Calls Tryd.prog 10 #[.int .i64 32, .agg #[.int .u64 (hI x), .int .u64 (lI x)]] w fun e w' => e = .returned (.tuple #[.string (text4 x), .int .i64 0]) ∧ Below w.heap.size w w' := by
  have KR := fun w => rright_any 32 x w
  rw [h] at KR
  have h0 := hI_lo x
  have h1 := hI_up x
  have a1 : hI x / 72057594037927936 = ((octN x 0 : Nat) : Int) := by unfold octN; simp; omega
  have b1 : bits .and .u64 (hI x / 281474976710656) 255 = ((octN x 1 : Nat) : Int) := by rw [and255 _ (by omega) (by omega)]; unfold octN; simp; omega
  have c1 : bits .and .u64 (hI x / 1099511627776) 255 = ((octN x 2 : Nat) : Int) := by rw [and255 _ (by omega) (by omega)]; unfold octN; simp; omega
  have d1 : bits .and .u64 (hI x / 4294967296) 255 = ((octN x 3 : Nat) : Int) := by rw [and255 _ (by omega) (by omega)]; unfold octN; simp; omega
  have lt : ∀ k, octN x k < 256 := fun k => by unfold octN; omega
  have HT : Hid (text4 x = dotS ⟨(decL (octN x 0)).toArray⟩ ⟨(decL (octN x 1)).toArray⟩ ⟨(decL (octN x 2)).toArray⟩ ⟨(decL (octN x 3)).toArray⟩) := rfl
  have lA := lt 0
  have lB := lt 1
  have lC := lt 2
  have lD := lt 3
  have Da := fun w => rdec_any (octN x 0) w (by omega)
  have Db := fun w => rdec_any (octN x 1) w (by omega)
  have Dc := fun w => rdec_any (octN x 2) w (by omega)
  have Dd := fun w => rdec_any (octN x 3) w (by omega)
  have za : (⟨(decL (octN x 0)).toArray⟩ : ByteArray).size ≤ 20 := (decL_bd _ (by omega)).2
  have zb : (⟨(decL (octN x 1)).toArray⟩ : ByteArray).size ≤ 20 := (decL_bd _ (by omega)).2
  have zc : (⟨(decL (octN x 2)).toArray⟩ : ByteArray).size ≤ 20 := (decL_bd _ (by omega)).2
  have zd : (⟨(decL (octN x 3)).toArray⟩ : ByteArray).size ≤ 20 := (decL_bd _ (by omega)).2
  obtain ⟨b, hb⟩ : ∃ b, hI x / 281474976710656 = b := ⟨_, rfl⟩
  obtain ⟨c, hc⟩ : ∃ c, hI x / 1099511627776 = c := ⟨_, rfl⟩
  obtain ⟨d, hd⟩ : ∃ d, hI x / 4294967296 = d := ⟨_, rfl⟩
  rw [hb] at b1; rw [hc] at c1; rw [hd] at d1
  clear lt
  generalize octN x 0 = A at *
  generalize octN x 1 = B at *
  generalize octN x 2 = C at *
  generalize octN x 3 = D at *
  generalize (⟨(decL A).toArray⟩ : ByteArray) = SA at *
  generalize (⟨(decL B).toArray⟩ : ByteArray) = SB at *
  generalize (⟨(decL C).toArray⟩ : ByteArray) = SC at *
  generalize (⟨(decL D).toArray⟩ : ByteArray) = SD at *
  go_enter Tryd.func10, Tryd.ntmps10
  go_wp2_with fail
  refine (KR _).mono ?_
  rintro e w1 ⟨rfl, hb1⟩
  have x0 : w1.cell? ⟨w.heap.size, 0, none⟩ = some (.int .u64 (hI x)) := keepc hb1 (by simp [go_sem])
  have kB := (keepb hb1 (bl1 w _)).drew
  clear hb1 KR
  go_wp2_with fail
  refine q_region (C := (fun w' => w'.cell? ⟨w.heap.size, 0, none⟩ = some (.int .u64 (hI x)) ∧ Below w.heap.size w w')) (by kernel_rfl) (by kernel_rfl) ⟨x0, kB⟩ ?_
  clear x0 kB
  refine q_run (v := .pointer (some ⟨w.heap.size, 0, none⟩)) (by rfl) ?_ ?_
  · (intro w1 hC; obtain ⟨c1, c2⟩ := hC; go_simp; first | done | (simp; done) | (simp [*]; done) | omega | (simp; omega) | (rw [IntKind.wrap_i64]; omega) | rfl)
  simp only [Act.put, List.setIfInBounds_toArray, List.set_cons_zero, List.set_cons_succ]
  refine q_run (v := .int .u64 (hI x)) (by rfl) ?_ ?_
  · (intro w1 hC; obtain ⟨c1, c2⟩ := hC; go_simp; first | done | (simp; done) | (simp [*]; done) | omega | (simp; omega) | (rw [IntKind.wrap_i64]; omega) | rfl)
  simp only [Act.put, List.setIfInBounds_toArray, List.set_cons_zero, List.set_cons_succ]
  refine q_run (v := .int .u64 (A : Int)) (by rfl) ?_ ?_
  · (intro w1 hC; obtain ⟨c1, c2⟩ := hC; go_simp; first | done | (simp; done) | (simp [*]; done) | omega | (simp; omega) | (rw [IntKind.wrap_i64]; omega) | rfl)
  simp only [Act.put, List.setIfInBounds_toArray, List.set_cons_zero, List.set_cons_succ]
  refine q_run (v := .int .i64 (A : Int)) (by rfl) ?_ ?_
  · (intro w1 hC; obtain ⟨c1, c2⟩ := hC; go_simp; first | done | (simp; done) | (simp [*]; done) | omega | (simp; omega) | (rw [IntKind.wrap_i64]; omega) | rfl)
  simp only [Act.put, List.setIfInBounds_toArray, List.set_cons_zero, List.set_cons_succ]
  refine q_call (v := .string SA) (f := 45) (args := #[.int .i64 (A : Int)]) (by rfl) ?_ ?_ ?_
  · (intro w1 hC; obtain ⟨c1, c2⟩ := hC; go_simp)
  · exact fun w1 hC => (Da w1).mono fun e w' ⟨he, hb⟩ => ⟨he, keepc hb hC.1, keepb hb hC.2⟩
  simp only [Act.put, List.setIfInBounds_toArray, List.set_cons_zero, List.set_cons_succ]
  refine q_run (v := .string (SA ++ ⟨#[46]⟩)) (by rfl) ?_ ?_
  · (intro w1 hC; obtain ⟨c1, c2⟩ := hC; go_simp; first | done | (simp; done) | (simp [*]; done) | omega | (simp; omega) | (rw [IntKind.wrap_i64]; omega) | rfl)
  simp only [Act.put, List.setIfInBounds_toArray, List.set_cons_zero, List.set_cons_succ]
  refine q_run (v := .pointer (some ⟨w.heap.size, 0, none⟩)) (by rfl) ?_ ?_
  · (intro w1 hC; obtain ⟨c1, c2⟩ := hC; go_simp; first | done | (simp; done) | (simp [*]; done) | omega | (simp; omega) | (rw [IntKind.wrap_i64]; omega) | rfl)
  simp only [Act.put, List.setIfInBounds_toArray, List.set_cons_zero, List.set_cons_succ]
  refine q_run (v := .int .u64 (hI x)) (by rfl) ?_ ?_
  · (intro w1 hC; obtain ⟨c1, c2⟩ := hC; go_simp; first | done | (simp; done) | (simp [*]; done) | omega | (simp; omega) | (rw [IntKind.wrap_i64]; omega) | rfl)
  simp only [Act.put, List.setIfInBounds_toArray, List.set_cons_zero, List.set_cons_succ]
  refine q_run (v := .int .u64 b) (by rfl) ?_ ?_
  · (intro w1 hC; obtain ⟨c1, c2⟩ := hC; go_simp; first | done | (simp; done) | (simp [*]; done) | omega | (simp; omega) | (rw [IntKind.wrap_i64]; omega) | rfl)
  simp only [Act.put, List.setIfInBounds_toArray, List.set_cons_zero, List.set_cons_succ]
  refine q_run (v := .int .u64 (B : Int)) (by rfl) ?_ ?_
  · (intro w1 hC; obtain ⟨c1, c2⟩ := hC; go_simp; first | done | (simp; done) | (simp [*]; done) | omega | (simp; omega) | (rw [IntKind.wrap_i64]; omega) | rfl)
  simp only [Act.put, List.setIfInBounds_toArray, List.set_cons_zero, List.set_cons_succ]
  refine q_run (v := .int .i64 (B : Int)) (by rfl) ?_ ?_
  · (intro w1 hC; obtain ⟨c1, c2⟩ := hC; go_simp; first | done | (simp; done) | (simp [*]; done) | omega | (simp; omega) | (rw [IntKind.wrap_i64]; omega) | rfl)
  simp only [Act.put, List.setIfInBounds_toArray, List.set_cons_zero, List.set_cons_succ]
  refine q_call (v := .string SB) (f := 45) (args := #[.int .i64 (B : Int)]) (by rfl) ?_ ?_ ?_
  · (intro w1 hC; obtain ⟨c1, c2⟩ := hC; go_simp)
  · exact fun w1 hC => (Db w1).mono fun e w' ⟨he, hb⟩ => ⟨he, keepc hb hC.1, keepb hb hC.2⟩
  simp only [Act.put, List.setIfInBounds_toArray, List.set_cons_zero, List.set_cons_succ]
  refine q_run (v := .string (SA ++ ⟨#[46]⟩ ++ SB)) (by rfl) ?_ ?_
  · (intro w1 hC; obtain ⟨c1, c2⟩ := hC; go_simp; first | done | (simp; done) | (simp [*]; done) | omega | (simp; omega) | (rw [IntKind.wrap_i64]; omega) | rfl)
  simp only [Act.put, List.setIfInBounds_toArray, List.set_cons_zero, List.set_cons_succ]
  refine q_run (v := .string (SA ++ ⟨#[46]⟩ ++ SB ++ ⟨#[46]⟩)) (by rfl) ?_ ?_
  · (intro w1 hC; obtain ⟨c1, c2⟩ := hC; go_simp; first | done | (simp; done) | (simp [*]; done) | omega | (simp; omega) | (rw [IntKind.wrap_i64]; omega) | rfl)
  simp only [Act.put, List.setIfInBounds_toArray, List.set_cons_zero, List.set_cons_succ]
  refine q_run (v := .pointer (some ⟨w.heap.size, 0, none⟩)) (by rfl) ?_ ?_
  · (intro w1 hC; obtain ⟨c1, c2⟩ := hC; go_simp; first | done | (simp; done) | (simp [*]; done) | omega | (simp; omega) | (rw [IntKind.wrap_i64]; omega) | rfl)
  simp only [Act.put, List.setIfInBounds_toArray, List.set_cons_zero, List.set_cons_succ]
  refine q_run (v := .int .u64 (hI x)) (by rfl) ?_ ?_
  · (intro w1 hC; obtain ⟨c1, c2⟩ := hC; go_simp; first | done | (simp; done) | (simp [*]; done) | omega | (simp; omega) | (rw [IntKind.wrap_i64]; omega) | rfl)
  simp only [Act.put, List.setIfInBounds_toArray, List.set_cons_zero, List.set_cons_succ]
  refine q_run (v := .int .u64 c) (by rfl) ?_ ?_
  · (intro w1 hC; obtain ⟨c1, c2⟩ := hC; go_simp; first | done | (simp; done) | (simp [*]; done) | omega | (simp; omega) | (rw [IntKind.wrap_i64]; omega) | rfl)
  simp only [Act.put, List.setIfInBounds_toArray, List.set_cons_zero, List.set_cons_succ]
  refine q_run (v := .int .u64 (C : Int)) (by rfl) ?_ ?_
  · (intro w1 hC; obtain ⟨c1, c2⟩ := hC; go_simp; first | done | (simp; done) | (simp [*]; done) | omega | (simp; omega) | (rw [IntKind.wrap_i64]; omega) | rfl)
  simp only [Act.put, List.setIfInBounds_toArray, List.set_cons_zero, List.set_cons_succ]
  refine q_run (v := .int .i64 (C : Int)) (by rfl) ?_ ?_
  · (intro w1 hC; obtain ⟨c1, c2⟩ := hC; go_simp; first | done | (simp; done) | (simp [*]; done) | omega | (simp; omega) | (rw [IntKind.wrap_i64]; omega) | rfl)
  simp only [Act.put, List.setIfInBounds_toArray, List.set_cons_zero, List.set_cons_succ]
  refine q_call (v := .string SC) (f := 45) (args := #[.int .i64 (C : Int)]) (by rfl) ?_ ?_ ?_
  · (intro w1 hC; obtain ⟨c1, c2⟩ := hC; go_simp)
  · exact fun w1 hC => (Dc w1).mono fun e w' ⟨he, hb⟩ => ⟨he, keepc hb hC.1, keepb hb hC.2⟩
  simp only [Act.put, List.setIfInBounds_toArray, List.set_cons_zero, List.set_cons_succ]
  refine q_run (v := .string (SA ++ ⟨#[46]⟩ ++ SB ++ ⟨#[46]⟩ ++ SC)) (by rfl) ?_ ?_
  · (intro w1 hC; obtain ⟨c1, c2⟩ := hC; go_simp; first | done | (simp; done) | (simp [*]; done) | omega | (simp; omega) | (rw [IntKind.wrap_i64]; omega) | rfl)
  simp only [Act.put, List.setIfInBounds_toArray, List.set_cons_zero, List.set_cons_succ]
  refine q_run (v := .string (SA ++ ⟨#[46]⟩ ++ SB ++ ⟨#[46]⟩ ++ SC ++ ⟨#[46]⟩)) (by rfl) ?_ ?_
  · (intro w1 hC; obtain ⟨c1, c2⟩ := hC; go_simp; first | done | (simp; done) | (simp [*]; done) | omega | (simp; omega) | (rw [IntKind.wrap_i64]; omega) | rfl)
  simp only [Act.put, List.setIfInBounds_toArray, List.set_cons_zero, List.set_cons_succ]
  refine q_run (v := .pointer (some ⟨w.heap.size, 0, none⟩)) (by rfl) ?_ ?_
  · (intro w1 hC; obtain ⟨c1, c2⟩ := hC; go_simp; first | done | (simp; done) | (simp [*]; done) | omega | (simp; omega) | (rw [IntKind.wrap_i64]; omega) | rfl)
  simp only [Act.put, List.setIfInBounds_toArray, List.set_cons_zero, List.set_cons_succ]
  refine q_run (v := .int .u64 (hI x)) (by rfl) ?_ ?_
  · (intro w1 hC; obtain ⟨c1, c2⟩ := hC; go_simp; first | done | (simp; done) | (simp [*]; done) | omega | (simp; omega) | (rw [IntKind.wrap_i64]; omega) | rfl)
  simp only [Act.put, List.setIfInBounds_toArray, List.set_cons_zero, List.set_cons_succ]
  refine q_run (v := .int .u64 d) (by rfl) ?_ ?_
  · (intro w1 hC; obtain ⟨c1, c2⟩ := hC; go_simp; first | done | (simp; done) | (simp [*]; done) | omega | (simp; omega) | (rw [IntKind.wrap_i64]; omega) | rfl)
  simp only [Act.put, List.setIfInBounds_toArray, List.set_cons_zero, List.set_cons_succ]
  refine q_run (v := .int .u64 (D : Int)) (by rfl) ?_ ?_
  · (intro w1 hC; obtain ⟨c1, c2⟩ := hC; go_simp; first | done | (simp; done) | (simp [*]; done) | omega | (simp; omega) | (rw [IntKind.wrap_i64]; omega) | rfl)
  simp only [Act.put, List.setIfInBounds_toArray, List.set_cons_zero, List.set_cons_succ]
  refine q_run (v := .int .i64 (D : Int)) (by rfl) ?_ ?_
  · (intro w1 hC; obtain ⟨c1, c2⟩ := hC; go_simp; first | done | (simp; done) | (simp [*]; done) | omega | (simp; omega) | (rw [IntKind.wrap_i64]; omega) | rfl)
  simp only [Act.put, List.setIfInBounds_toArray, List.set_cons_zero, List.set_cons_succ]
  refine q_call (v := .string SD) (f := 45) (args := #[.int .i64 (D : Int)]) (by rfl) ?_ ?_ ?_
  · (intro w1 hC; obtain ⟨c1, c2⟩ := hC; go_simp)
  · exact fun w1 hC => (Dd w1).mono fun e w' ⟨he, hb⟩ => ⟨he, keepc hb hC.1, keepb hb hC.2⟩
  simp only [Act.put, List.setIfInBounds_toArray, List.set_cons_zero, List.set_cons_succ]
  refine q_run (v := .string (SA ++ ⟨#[46]⟩ ++ SB ++ ⟨#[46]⟩ ++ SC ++ ⟨#[46]⟩ ++ SD)) (by rfl) ?_ ?_
  · (intro w1 hC; obtain ⟨c1, c2⟩ := hC; go_simp; first | done | (simp; done) | (simp [*]; done) | omega | (simp; omega) | (rw [IntKind.wrap_i64]; omega) | rfl)
  simp only [Act.put, List.setIfInBounds_toArray, List.set_cons_zero, List.set_cons_succ]
  refine q_run (v := .string (SA ++ ⟨#[46]⟩ ++ SB ++ ⟨#[46]⟩ ++ SC ++ ⟨#[46]⟩ ++ SD)) (by rfl) ?_ ?_
  · (intro w1 hC; obtain ⟨c1, c2⟩ := hC; go_simp; first | done | (simp; done) | (simp [*]; done) | omega | (simp; omega) | (rw [IntKind.wrap_i64]; omega) | rfl)
  simp only [Act.put, List.setIfInBounds_toArray, List.set_cons_zero, List.set_cons_succ]
  refine q_run (v := .int .i64 0) (by rfl) ?_ ?_
  · (intro w1 hC; obtain ⟨c1, c2⟩ := hC; go_simp; first | done | (simp; done) | (simp [*]; done) | omega | (simp; omega) | (rw [IntKind.wrap_i64]; omega) | rfl)
  simp only [Act.put, List.setIfInBounds_toArray, List.set_cons_zero, List.set_cons_succ]
  refine wpQuiet_nil ?_
  intro w9 hC
  obtain ⟨-, kB⟩ := hC
  go_wp2
  go_ret2
  exact ⟨by rw [HT.out]; rfl, kB⟩
end Go.Proofs.YtpchhfhdepkbcaaDoor
/-
  What the call of turnpikeref2's Text does, of the family 128.
-/
namespace Go.Proofs.YtpchhfhdepkbcaaDoor
open Go.RowKit
set_option linter.unusedSimpArgs false
set_option linter.unusedVariables false

/-- How many groups from i on are 0, n being counted. -/
def rnG (G : Nat → Int) (i : Nat) : Nat → Nat → Nat
  | 0, n => n
  | f + 1, n => if i + n < 8 ∧ G (i + n) = 0 then rnG G i f (n + 1) else n
/-- The longest row of groups that are 0: where, and how many (1: none). -/
def bsG (G : Nat → Int) : Nat → Nat → Nat → Nat → Nat × Nat
  | 0, _, a, b => (a, b)
  | f + 1, i, a, b => if b < rnG G i 9 0 then bsG G f (i + 1) i (rnG G i 9 0) else bsG G f (i + 1) a b
def sepS (s : ByteArray) : ByteArray := if s.size = 0 ∨ byteAt s (s.size - 1) = 58 then s else s ++ ⟨#[58]⟩
/-- The groups written from i on, s being written. -/
def txG (G : Nat → Int) (a b : Nat) : Nat → Nat → ByteArray → ByteArray
  | 0, _, s => s
  | f + 1, i, s => if 8 ≤ i then s else if 1 < b ∧ i = a then txG G a b f (i + b) (s ++ ⟨#[58, 58]⟩) else txG G a b f (i + 1) (sepS s ++ ⟨(hexL (G i).toNat).toArray⟩)
def grpX (x : BitVec 128) (k : Nat) : Int := lI (readW x (16 * (k : Int)) 16)
def text6 (x : BitVec 128) : ByteArray := txG (grpX x) (bsG (grpX x) 8 0 0 1).1 (bsG (grpX x) 8 0 0 1).2 9 0 ⟨#[]⟩
theorem grpX_bd (x : BitVec 128) (k : Nat) (hk : k < 8) : 0 ≤ grpX x k ∧ grpX x k ≤ 65535 := by
  unfold grpX readW
  exact part16_bd x (k : Int)
theorem rnG_bd (G : Nat → Int) (i : Nat) (hi : i ≤ 8) : ∀ f n, i + n ≤ 8 → i + rnG G i f n ≤ 8 ∧ n ≤ rnG G i f n := by
  intro f
  induction f with
  | zero => intro n h; exact ⟨h, Nat.le_refl _⟩
  | succ f ih =>
    intro n h
    by_cases hc : i + n < 8 ∧ G (i + n) = 0
    · have e : rnG G i (f + 1) n = rnG G i f (n + 1) := if_pos hc
      rw [e]
      have := ih (n + 1) (by omega)
      omega
    · have e : rnG G i (f + 1) n = n := if_neg hc
      rw [e]; omega
def cellsG (x : BitVec 128) (k : Nat) : List Int := (List.range k).map (grpX x)
theorem cellsG_succ (x : BitVec 128) (k : Nat) : cellsG x (k + 1) = cellsG x k ++ [grpX x k] := by
  unfold cellsG; rw [List.range_succ, List.map_append]; rfl
theorem cellsG_get (x : BitVec 128) (k : Nat) (hk : k < 8) : (cellsG x 8).getD k 0 = grpX x k := by
  unfold cellsG
  rw [List.getD_eq_getElem?_getD, List.getElem?_map, List.getElem?_range hk]; rfl
theorem row_int2 {w : World} {base e g n cap : Nat} {l : List Int} (h : w.ownsRow base e 1 (.slice (some ⟨g, 0, none⟩) n cap) n (ints l)) (hn : n = l.length) (k : Nat) (hk : k < n) : w.cell? ⟨g, k, none⟩ = some (.int .i64 (l.getD k 0)) := by
  rw [h.cellAt k (by omega)]
  unfold ints
  rw [List.getElem?_map, List.getElem?_eq_getElem (by omega), List.getD_eq_getElem?_getD, List.getElem?_eq_getElem (by omega)]
  rfl

theorem At.gby {w w' : World} {B : Nat} {x : BitVec 128} {row : Option Nat} (h : At w B x) (hg : w.grownBy w' row) (hne : ¬ some B = row) : At w' B x := by
  obtain ⟨h0, h1, h2, h3, h4⟩ := h
  have hb := hg.block B h4 hne
  exact ⟨hg.cell h0 hne, hg.cell h1 hne, (World.frozen?_of_block (a := ⟨B, 0, none⟩) hb).trans h2, (World.frozen?_of_block (a := ⟨B, 1, none⟩) hb).trans h3, Nat.lt_of_lt_of_le h4 hg.size⟩
theorem bsG_bd (G : Nat → Int) : ∀ f i a b, i + f ≤ 8 → 1 ≤ b → a + b ≤ 8 → 1 ≤ (bsG G f i a b).2 ∧ (bsG G f i a b).1 + (bsG G f i a b).2 ≤ 8 := by
  intro f
  induction f with
  | zero => intro i a b _ h1 h2; exact ⟨h1, h2⟩
  | succ f ih =>
    intro i a b hi h1 h2
    by_cases hc : b < rnG G i 9 0
    · have e : bsG G (f + 1) i a b = bsG G f (i + 1) i (rnG G i 9 0) := if_pos hc
      rw [e]
      have := rnG_bd G i (by omega) 9 0 (by omega)
      exact ih _ _ _ (by omega) (by omega) (by omega)
    · have e : bsG G (f + 1) i a b = bsG G f (i + 1) a b := if_neg hc
      rw [e]
      exact ih _ _ _ (by omega) h1 h2

set_option maxHeartbeats 8000000 in
theorem rtext_six (x : BitVec 128) (w : World) (h : rightE 128 x = 0) :
    Calls Tryd.prog 10 #[.int .i64 128, .agg #[.int .u64 (hI x), .int .u64 (lI x)]] w fun e w' => e = .returned (.tuple #[.string (text6 x), .int .i64 0]) ∧ Below w.heap.size w w' := by
  obtain ⟨i0, hi, hz0, hz1, hz2⟩ := info_parts Tryd.infoI
  have KR := fun w => rright_any 128 x w
  rw [h] at KR
  clear h
  go_enter Tryd.func10, Tryd.ntmps10
  go_wp2_with fail
  refine (KR _).mono ?_
  rintro e w1 ⟨rfl, hb1⟩
  have X1 := (at_new w w.heap.size x 24 rfl).below hb1
  have kB1 := keepb hb1 (bl1 w _)
  clear hb1 KR
  go_wp2
  go_loopw [7, 8] (fun a b wr => ∃ (k : Nat) (ao : Option Addr) (cp : Nat), a = .slice ao k cp ∧ b = .int .i64 k ∧ k ≤ 8 ∧ wr.ownsRow (w.heap.size + 1) 3 1 (.slice ao k cp) k (ints (cellsG x k)) ∧ At wr w.heap.size x ∧ Below w.heap.size w wr) (fun _ b _ => 8 - (intOf b).toNat)
  case atStart => exact ⟨0, none, 0, rfl, rfl, by omega, World.ownsRow_nil _ _ _ _, X1, kB1⟩
  case round =>
    clear X1 kB1
    obtain ⟨k, ao, cp, rfl, rfl, hk, hown, X, kB⟩ := hrel
    have hXs := X.2.2.2.2
    by_cases hlt : k < 8
    · have hk2 : (k : Int) < 8 := by omega
      have hum : IntKind.i64.wrap (16 * (k : Int)) = 16 * (k : Int) := by rw [IntKind.wrap_i64]; omega
      have KF := fun w => rfield_in x (16 * (k : Int)) 16 w (by unfold fitB; simp; omega)
      have gb := grpX_bd x k hlt
      have HG : Hid (lI (readW x (16 * (k : Int)) 16) = grpX x k) := rfl
      have HC := cellsG_succ x k
      rw [HG.out] at KF
      generalize grpX x k = v at *
      generalize hI (readW x (16 * (k : Int)) 16) = vh at *
      have hcv : IntKind.i64.wrap v = v := by rw [IntKind.wrap_i64]; omega
      have h63 : k + 1 ≤ maxLen := by unfold maxLen; omega
      have h47 : (k + 1) * 8 ≤ 140737488355328 := by omega
      have HC2 : Hid (cellsG x (k + 1) = cellsG x k ++ [v]) := HC
      clear HC
      obtain ⟨x0, x1, -, -, -⟩ := id X
      go_wp2_with fail
      refine (KF _).mono ?_
      rintro e w5 ⟨rfl, hb5⟩
      clear KF x0 x1
      have X5 := (X.below hb5).below (bl1 _ (.cells #[.int .u64 vh, .int .u64 v] 24))
      have hown := (rowBelow hb5 hown).alloc (.cells #[.int .u64 vh, .int .u64 v] 24)
      have kB5 := (keepb hb5 kB).alloc (keepb hb5 kB).size (.cells #[.int .u64 vh, .int .u64 v] 24)
      have hs5 := hb5.size
      clear X kB hb5
      go_wp2_with (first | (at_builtin; refine wpList_append_lies _ rfl _ _ 68 rfl (w.heap.size + 1) 3 i0 (.int .i64 0) 1 8 Tryd.underlying68 hi hz0 hz1 hz2 rfl (by decide) _ _ _ rfl (hown.alloc _) ⟨w5.heap.size + 1, 0, none⟩ 1 1 [.int .i64 v] rfl rfl (by simpa using newsS (w5.alloc (.cells #[.int .u64 vh, .int .u64 v] 24)) (.int .i64 v) 3) (oneI _) (by decide) h63 h47 (by simp; omega) _ rfl ?_; intro g5 cap5 w6 hown5 hgrow hat hlt5))
      have kB6 : Below w.heap.size w w6 := (kB5.alloc kB5.size _).grown hgrow (by have := kB5.size; simp at this ⊢; omega) (fun q hq => by have := (hown.lt q hq).1; omega)
      have X6 := (X5.below (bl1 _ _)).gby hgrow (fun e => by have := (hown.lt _ e.symm).1; omega)
      clear hgrow hat
      go_roundw
      case rel => exact ⟨k + 1, some ⟨g5, 0, none⟩, cap5, rfl, by go_num, by omega, by rw [HC2.out]; simpa [ints] using hown5, X6, kB6⟩
      case measure => simp [intOf]; omega
    · have hk8 : k = 8 := by omega
      subst hk8
      obtain ⟨g, c2, hv, -, -⟩ := hown.form (by omega)
      have hv2 : ao = some ⟨g, 0, none⟩ ∧ cp = c2 := by
        injection hv with e1 e2 e3; exact ⟨e1, e3⟩
      obtain ⟨rfl, rfl⟩ := hv2
      have hrow : Hid (∀ k, k < 8 → wr.cell? ⟨g, k, none⟩ = some (.int .i64 (grpX x k))) := fun k hk => by
        rw [row_int2 hown (by simp [cellsG]) k hk, cellsG_get x k hk]
      have hG : Hid (∀ k, k < 8 → 0 ≤ grpX x k ∧ grpX x k ≤ 65535) := fun k hk => grpX_bd x k hk
      have HT : Hid (text6 x = txG (grpX x) (bsG (grpX x) 8 0 0 1).1 (bsG (grpX x) 8 0 0 1).2 9 0 ⟨#[]⟩) := rfl
      clear hown hv X hXs
      generalize grpX x = G at *
      go_wp2
      go_loopw [11, 12, 13] (fun p q r wz => ∃ (i a b : Nat), p = .int .i64 a ∧ q = .int .i64 b ∧ r = .int .i64 i ∧ i ≤ 8 ∧ 1 ≤ b ∧ a + b ≤ 8 ∧ Hid (bsG G (8 - i) i a b = bsG G 8 0 0 1) ∧ wz = wr) (fun _ _ r _ => 8 - (intOf r).toNat)
      case atStart => exact ⟨0, 0, 1, rfl, rfl, rfl, by omega, by omega, by omega, rfl, rfl⟩
      case round =>
        obtain ⟨i, a, b, rfl, rfl, rfl, hi8, hb1, hab, HR, rfl⟩ := hrel
        by_cases hlt : i < 8
        · have hi2 : (i : Int) < 8 := by omega
          have HU : Hid (8 - i = (8 - (i + 1)) + 1) := by show _ = _; omega
          have HS : Hid (∀ f, bsG G (f + 1) i a b = if b < rnG G i 9 0 then bsG G f (i + 1) i (rnG G i 9 0) else bsG G f (i + 1) a b) := fun _ => rfl
          have hrb := rnG_bd G i (by omega) 9 0 (by omega)
          go_wp2
          go_loopw [14] (fun p wz2 => ∃ n : Nat, p = .int .i64 n ∧ i + n ≤ 8 ∧ Hid (rnG G i (9 - n) n = rnG G i 9 0) ∧ wz2 = wr) (fun p _ => 9 - (intOf p).toNat)
          case atStart => exact ⟨0, rfl, by omega, rfl, rfl⟩
          case round =>
            obtain ⟨n, rfl, hn, HN, rfl⟩ := hrel
            have hui : IntKind.i64.wrap ((i : Int) + (n : Int)) = (i : Int) + (n : Int) := by rw [IntKind.wrap_i64]; omega
            have HUN : Hid (9 - n = (9 - (n + 1)) + 1) := by show _ = _; omega
            have HSN : Hid (∀ f, rnG G i (f + 1) n = if i + n < 8 ∧ G (i + n) = 0 then rnG G i f (n + 1) else n) := fun _ => rfl
            by_cases hc : i + n < 8
            · have hcell := hrow.out (i + n) hc
              have hc2 : (i : Int) + (n : Int) < 8 := by omega
              obtain ⟨m, HM⟩ : ∃ m, Hid (i + n = m) := ⟨_, rfl⟩
              have hm : (i : Int) + (n : Int) = (m : Int) := by have := HM.out; omega
              have hm2 : (m : Int) < 8 := by omega
              have hum : IntKind.i64.wrap (m : Int) = (m : Int) := by rw [IntKind.wrap_i64]; omega
              rw [HM.out] at hcell
              have HSN2 : Hid (rnG G i (9 - n) n = if G m = 0 then rnG G i (9 - (n + 1)) (n + 1) else n) := by
                show _ = _
                rw [HUN.out, HSN.out, HM.out]
                by_cases q : G m = 0
                · rw [if_pos ⟨by have := HM.out; omega, q⟩, if_pos q]
                · rw [if_neg (fun z => q z.2), if_neg q]
              generalize G m = v at *
              clear hui HUN HSN
              by_cases hv0 : v = 0
              · have HF : Hid (rnG G i (9 - (n + 1)) (n + 1) = rnG G i 9 0) := by show _ = _; rw [← HN.out, HSN2.out, if_pos hv0]
                subst hv0
                clear HSN2 HN
                go_wp2
                go_roundw
                case rel => exact ⟨n + 1, by go_num, by omega, HF, trivial⟩
                case measure => simp [intOf]; omega
              · have HF : Hid (rnG G i 9 0 = n) := by show _ = _; rw [← HN.out, HSN2.out, if_neg hv0]
                have hvb : (v == 0) = false := by simp [hv0]
                clear HSN2 HN
                by_cases hbn : b < n
                · have hbn2 : (b : Int) < (n : Int) := by omega
                  have HR2 : Hid (bsG G (8 - (i + 1)) (i + 1) i n = bsG G 8 0 0 1) := by show _ = _; rw [← HR.out, HU.out, HS.out, HF.out, if_pos hbn]
                  clear HR HS HU HF
                  go_wp2
                  go_roundw
                  case rel => exact ⟨i + 1, i, n, rfl, rfl, by go_num, by omega, by omega, by omega, HR2, trivial⟩
                  case measure => simp [intOf]; omega
                · have hbn2 : ¬ (b : Int) < (n : Int) := by omega
                  have HR2 : Hid (bsG G (8 - (i + 1)) (i + 1) a b = bsG G 8 0 0 1) := by show _ = _; rw [← HR.out, HU.out, HS.out, HF.out, if_neg hbn]
                  clear HR HS HU HF
                  go_wp2
                  go_roundw
                  case rel => exact ⟨i + 1, a, b, rfl, rfl, by go_num, by omega, by omega, by omega, HR2, trivial⟩
                  case measure => simp [intOf]; omega
            · have hc2 : ¬ (i : Int) + (n : Int) < 8 := by omega
              have HF : Hid (rnG G i 9 0 = n) := by show _ = _; rw [← HN.out, HUN.out, HSN.out, if_neg (fun z => hc z.1)]
              clear HUN HSN HN
              by_cases hbn : b < n
              · have hbn2 : (b : Int) < (n : Int) := by omega
                have HR2 : Hid (bsG G (8 - (i + 1)) (i + 1) i n = bsG G 8 0 0 1) := by show _ = _; rw [← HR.out, HU.out, HS.out, HF.out, if_pos hbn]
                clear HR HS HU HF
                go_wp2
                go_roundw
                case rel => exact ⟨i + 1, i, n, rfl, rfl, by go_num, by omega, by omega, by omega, HR2, trivial⟩
                case measure => simp [intOf]; omega
              · have hbn2 : ¬ (b : Int) < (n : Int) := by omega
                have HR2 : Hid (bsG G (8 - (i + 1)) (i + 1) a b = bsG G 8 0 0 1) := by show _ = _; rw [← HR.out, HU.out, HS.out, HF.out, if_neg hbn]
                clear HR HS HU HF
                go_wp2
                go_roundw
                case rel => exact ⟨i + 1, a, b, rfl, rfl, by go_num, by omega, by omega, by omega, HR2, trivial⟩
                case measure => simp [intOf]; omega
        · have hi8' : i = 8 := by omega
          subst hi8'
          have HB : Hid (bsG G 8 0 0 1 = (a, b)) := by show _ = _; rw [← HR.out]; rfl
          have HT2 : Hid (text6 x = txG G a b 9 0 ⟨#[]⟩) := by show _ = _; rw [HT.out, HB.out]
          clear HR HT HB
          go_wp2
          go_loopw [15, 16] (fun p q wz => ∃ (f i : Nat) (S : ByteArray), p = .string S ∧ q = .int .i64 i ∧ i ≤ 8 ∧ S.size ≤ 5 * i ∧ 8 < i + f ∧ Hid (txG G a b f i S = text6 x) ∧ Hid (∀ k, k < 8 → wz.cell? ⟨g, k, none⟩ = some (.int .i64 (G k))) ∧ Below w.heap.size w wz) (fun _ q _ => 8 - (intOf q).toNat)
          case atStart => exact ⟨9, 0, ⟨#[]⟩, rfl, rfl, by omega, by decide, by omega, HT2.out.symm, hrow, kB⟩
          case round =>
            clear hrow kB HT2
            obtain ⟨f, i, S, rfl, rfl, hi8, hS, hf, HX, hrow, kB⟩ := hrel
            obtain ⟨f, rfl⟩ : ∃ k, f = k + 1 := ⟨f - 1, by omega⟩
            have HS : Hid (txG G a b (f + 1) i S = if 8 ≤ i then S else if 1 < b ∧ i = a then txG G a b f (i + b) (S ++ ⟨#[58, 58]⟩) else txG G a b f (i + 1) (sepS S ++ ⟨(hexL (G i).toNat).toArray⟩)) := rfl
            by_cases hlt : i < 8
            · have hi2 : (i : Int) < 8 := by omega
              by_cases hgap : 1 < b ∧ i = a
              · obtain ⟨hb2, rfl⟩ := hgap
                have HF : Hid (txG G i b f (i + b) (S ++ ⟨#[58, 58]⟩) = text6 x) := by show _ = _; rw [← HX.out, HS.out, if_neg (by omega), if_pos ⟨hb2, rfl⟩]
                have hb3 : (1 : Int) < (b : Int) := by omega
                have hu1 : IntKind.i64.wrap ((i : Int) + (b : Int)) = (i : Int) + (b : Int) := by rw [IntKind.wrap_i64]; omega
                have hu2 : IntKind.i64.wrap ((i : Int) + (b : Int) - 1) = (i : Int) + (b : Int) - 1 := by rw [IntKind.wrap_i64]; omega
                have hsz : (S ++ ⟨#[58, 58]⟩ : ByteArray).size = S.size + 2 := by rw [ByteArray.size_append]; rfl
                clear HS HX
                go_wp2
                go_roundw
                case rel => exact ⟨f, i + b, S ++ ⟨#[58, 58]⟩, rfl, by go_num, by omega, by rw [hsz]; omega, by omega, HF, hrow, kB⟩
                case measure => simp [intOf]; omega
              · have HF : Hid (txG G a b f (i + 1) (sepS S ++ ⟨(hexL (G i).toNat).toArray⟩) = text6 x) := by show _ = _; rw [← HX.out, HS.out, if_neg (by omega), if_neg hgap]
                have hcell := hrow.out i hlt
                obtain ⟨v0, v1⟩ := hG.out i hlt
                obtain ⟨v, hv⟩ := Int.eq_ofNat_of_zero_le v0
                rw [hv] at hcell
                have KH := fun w => rhex_any v w (by omega)
                have hHb : (⟨(hexL v).toArray⟩ : ByteArray).size ≤ 4 := (hexL_len v (by omega)).2
                have HF2 : Hid (txG G a b f (i + 1) (sepS S ++ ⟨(hexL v).toArray⟩) = text6 x) := by
                  have := HF.out
                  rw [hv, Int.toNat_natCast] at this; exact this
                clear HF HS HX v0 v1 hv
                generalize (⟨(hexL v).toArray⟩ : ByteArray) = HV at *
                have hcond : Hid ((1 < b ∧ i = a) = False) := by show _ = _; simp [hgap]
                have hg2 : 1 < b → ¬ (i : Int) = (a : Int) := fun q e => hgap ⟨q, by omega⟩
                clear hgap
                by_cases h0 : S.size = 0
                · have hem : S.toList.isEmpty = true := by rw [empty_is]; simp [h0]
                  have HSep : Hid (sepS S = S) := by show _ = _; unfold sepS; rw [if_pos (Or.inl h0)]
                  rw [HSep.out] at HF2
                  have hz2 : (S ++ HV).size = S.size + HV.size := ByteArray.size_append
                  by_cases hb2 : 1 < b
                  · have hb3 : (1 : Int) < (b : Int) := by omega
                    have hne : ((i : Int) == (a : Int)) = false := by simp; have := hg2 hb2; omega
                    clear hg2
                    go_wp2_with fail
                    refine (KH _).mono ?_
                    rintro e w5 ⟨rfl, hb5⟩
                    clear KH hcell
                    have hrow5 : Hid (∀ k, k < 8 → w5.cell? ⟨g, k, none⟩ = some (.int .i64 (G k))) := fun k hk => keepc hb5 (hrow.out k hk)
                    have kB5 := keepb hb5 kB
                    clear hb5 hrow kB
                    go_wp2
                    go_roundw
                    case rel => first | exact ⟨f, i + 1, S ++ HV, rfl, by go_num, by omega, by rw [hz2]; omega, by omega, HF2, hrow5, kB5⟩ | ((repeat apply Exists.intro); exact ⟨⟨f, i + 1, S ++ HV, rfl, by go_num, by omega, by rw [hz2]; omega, by omega, HF2, hrow5, kB5⟩, rfl⟩)
                    case measure => simp [intOf]; omega
                  · have hb3 : ¬ (1 : Int) < (b : Int) := by omega
                    clear hg2
                    go_wp2_with fail
                    refine (KH _).mono ?_
                    rintro e w5 ⟨rfl, hb5⟩
                    clear KH hcell
                    have hrow5 : Hid (∀ k, k < 8 → w5.cell? ⟨g, k, none⟩ = some (.int .i64 (G k))) := fun k hk => keepc hb5 (hrow.out k hk)
                    have kB5 := keepb hb5 kB
                    clear hb5 hrow kB
                    go_wp2
                    go_roundw
                    case rel => first | exact ⟨f, i + 1, S ++ HV, rfl, by go_num, by omega, by rw [hz2]; omega, by omega, HF2, hrow5, kB5⟩ | ((repeat apply Exists.intro); exact ⟨⟨f, i + 1, S ++ HV, rfl, by go_num, by omega, by rw [hz2]; omega, by omega, HF2, hrow5, kB5⟩, rfl⟩)
                    case measure => simp [intOf]; omega
                · have hem : S.toList.isEmpty = false := by rw [empty_is]; simp [h0]
                  have hbt := byteAt_in S (S.size - 1) (by omega)
                  have hsi : (S.size : Int) - 1 = ((S.size - 1 : Nat) : Int) := by omega
                  obtain ⟨m, HM⟩ : ∃ m, Hid (S.size - 1 = m) := ⟨_, rfl⟩
                  have hmm : (S.size : Int) - 1 = (m : Int) := by have := HM.out; omega
                  have hms : m < S.size := by have := HM.out; omega
                  have hum : IntKind.i64.wrap (m : Int) = (m : Int) := by rw [IntKind.wrap_i64]; omega
                  have hbt := byteAt_in S m hms
                  have HSep : Hid (sepS S = if byteAt S m = 58 then S else S ++ ⟨#[58]⟩) := by
                    show _ = _
                    unfold sepS
                    rw [HM.out]
                    by_cases q : byteAt S m = 58
                    · rw [if_pos (Or.inr q), if_pos q]
                    · rw [if_neg (by simp [h0, q]), if_neg q]
                  clear hsi
                  generalize byteAt S m = lc at *
                  by_cases hl : lc = 58
                  · subst hl
                    rw [HSep.out, if_pos rfl] at HF2
                    have hz2 : (S ++ HV).size = S.size + HV.size := ByteArray.size_append
                    by_cases hb2 : 1 < b
                    · have hb3 : (1 : Int) < (b : Int) := by omega
                      have hne : ((i : Int) == (a : Int)) = false := by simp; have := hg2 hb2; omega
                      clear hg2
                      go_wp2_with fail
                      refine (KH _).mono ?_
                      rintro e w5 ⟨rfl, hb5⟩
                      clear KH hcell
                      have hrow5 : Hid (∀ k, k < 8 → w5.cell? ⟨g, k, none⟩ = some (.int .i64 (G k))) := fun k hk => keepc hb5 (hrow.out k hk)
                      have kB5 := keepb hb5 kB
                      clear hb5 hrow kB
                      go_wp2
                      go_roundw
                      case rel => first | exact ⟨f, i + 1, S ++ HV, rfl, by go_num, by omega, by rw [hz2]; omega, by omega, HF2, hrow5, kB5⟩ | ((repeat apply Exists.intro); exact ⟨⟨f, i + 1, S ++ HV, rfl, by go_num, by omega, by rw [hz2]; omega, by omega, HF2, hrow5, kB5⟩, rfl⟩)
                      case measure => simp [intOf]; omega
                    · have hb3 : ¬ (1 : Int) < (b : Int) := by omega
                      clear hg2
                      go_wp2_with fail
                      refine (KH _).mono ?_
                      rintro e w5 ⟨rfl, hb5⟩
                      clear KH hcell
                      have hrow5 : Hid (∀ k, k < 8 → w5.cell? ⟨g, k, none⟩ = some (.int .i64 (G k))) := fun k hk => keepc hb5 (hrow.out k hk)
                      have kB5 := keepb hb5 kB
                      clear hb5 hrow kB
                      go_wp2
                      go_roundw
                      case rel => first | exact ⟨f, i + 1, S ++ HV, rfl, by go_num, by omega, by rw [hz2]; omega, by omega, HF2, hrow5, kB5⟩ | ((repeat apply Exists.intro); exact ⟨⟨f, i + 1, S ++ HV, rfl, by go_num, by omega, by rw [hz2]; omega, by omega, HF2, hrow5, kB5⟩, rfl⟩)
                      case measure => simp [intOf]; omega
                  · rw [HSep.out, if_neg hl] at HF2
                    have hlb : (lc != 58) = true := by simp [hl]
                    have hz1 : (S ++ ⟨#[58]⟩ : ByteArray).size = S.size + 1 := by rw [ByteArray.size_append]; rfl
                    have hz2 : (S ++ ⟨#[58]⟩ ++ HV).size = S.size + 1 + HV.size := by rw [ByteArray.size_append, hz1]
                    by_cases hb2 : 1 < b
                    · have hb3 : (1 : Int) < (b : Int) := by omega
                      have hne : ((i : Int) == (a : Int)) = false := by simp; have := hg2 hb2; omega
                      clear hg2
                      go_wp2_with fail
                      refine (KH _).mono ?_
                      rintro e w5 ⟨rfl, hb5⟩
                      clear KH hcell
                      have hrow5 : Hid (∀ k, k < 8 → w5.cell? ⟨g, k, none⟩ = some (.int .i64 (G k))) := fun k hk => keepc hb5 (hrow.out k hk)
                      have kB5 := keepb hb5 kB
                      clear hb5 hrow kB
                      go_wp2
                      go_roundw
                      case rel => first | exact ⟨f, i + 1, S ++ ⟨#[58]⟩ ++ HV, rfl, by go_num, by omega, by rw [hz2]; omega, by omega, HF2, hrow5, kB5⟩ | ((repeat apply Exists.intro); exact ⟨⟨f, i + 1, S ++ ⟨#[58]⟩ ++ HV, rfl, by go_num, by omega, by rw [hz2]; omega, by omega, HF2, hrow5, kB5⟩, rfl⟩)
                      case measure => simp [intOf]; omega
                    · have hb3 : ¬ (1 : Int) < (b : Int) := by omega
                      clear hg2
                      go_wp2_with fail
                      refine (KH _).mono ?_
                      rintro e w5 ⟨rfl, hb5⟩
                      clear KH hcell
                      have hrow5 : Hid (∀ k, k < 8 → w5.cell? ⟨g, k, none⟩ = some (.int .i64 (G k))) := fun k hk => keepc hb5 (hrow.out k hk)
                      have kB5 := keepb hb5 kB
                      clear hb5 hrow kB
                      go_wp2
                      go_roundw
                      case rel => first | exact ⟨f, i + 1, S ++ ⟨#[58]⟩ ++ HV, rfl, by go_num, by omega, by rw [hz2]; omega, by omega, HF2, hrow5, kB5⟩ | ((repeat apply Exists.intro); exact ⟨⟨f, i + 1, S ++ ⟨#[58]⟩ ++ HV, rfl, by go_num, by omega, by rw [hz2]; omega, by omega, HF2, hrow5, kB5⟩, rfl⟩)
                      case measure => simp [intOf]; omega
            · have hi2 : ¬ (i : Int) < 8 := by omega
              have HF : Hid (text6 x = S) := by show _ = _; rw [← HX.out, HS.out, if_pos (by omega)]
              clear HX HS
              go_wp2
              go_ret2
              exact ⟨by rw [HF.out]; rfl, kB⟩
end Go.Proofs.YtpchhfhdepkbcaaDoor
