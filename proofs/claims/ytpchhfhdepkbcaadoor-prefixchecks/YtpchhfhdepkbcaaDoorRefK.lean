/-
  What the call of turnpikeref2's Text does, of the family 32 and where there is an error.
-/
import Derived.Test.YtpchhfhdepkbcaaDoorRefH
import Derived.Test.YtpchhfhdepkbcaaDoorRefA
import Derived.Test.YtpchhfhdepkbcaaDoorRefF
namespace Go.Proofs.YtpchhfhdepkbcaaDoor
open Go.RowKit
set_option linter.unusedSimpArgs false
set_option linter.unusedVariables false

def dotS (x y z u : ByteArray) : ByteArray := x ++ ⟨#[46]⟩ ++ y ++ ⟨#[46]⟩ ++ z ++ ⟨#[46]⟩ ++ u
/-- The four bytes of an address of the family 32. -/
def octN (x : BitVec 128) (k : Nat) : Nat := (hI x).toNat / 2 ^ (56 - 8 * k) % 256
def text4 (x : BitVec 128) : ByteArray := dotS ⟨(decL (octN x 0)).toArray⟩ ⟨(decL (octN x 1)).toArray⟩ ⟨(decL (octN x 2)).toArray⟩ ⟨(decL (octN x 3)).toArray⟩
theorem and255 (v : Int) (h0 : 0 ≤ v) (h1 : v < 18446744073709551616) : bits .and .u64 v 255 = v % 256 := by
  obtain ⟨n, rfl⟩ := Int.eq_ofNat_of_zero_le h0
  have e1 : (n : Int) = ((BitVec.ofNat 64 n).toNat : Int) := by simp [BitVec.toNat_ofNat]; omega
  have e2 : (255 : Int) = ((BitVec.ofNat 64 255).toNat : Int) := by decide
  rw [e1, e2, bits64and _ _ _ rfl, BitVec.toNat_and, BitVec.toNat_ofNat, BitVec.toNat_ofNat, Nat.mod_eq_of_lt (by omega), show 255 % 2 ^ 64 = 2 ^ 8 - 1 by decide, Nat.and_two_pow_sub_one_eq_mod]
  rfl
theorem rtext_err (F : Int) (x : BitVec 128) (w : World) (h : ¬ rightE F x = 0) :
    Calls Tryd.prog 10 #[.int .i64 F, .agg #[.int .u64 (hI x), .int .u64 (lI x)]] w fun e w' => e = .returned (.tuple #[.string ⟨#[]⟩, .int .i64 (rightE F x)]) ∧ Below w.heap.size w w' := by
  have KR := fun w => rright_any F x w
  have hb : (rightE F x != 0) = true := by simp [h]
  generalize rightE F x = r at *
  go_enter Tryd.func10, Tryd.ntmps10
  go_wp2_with fail
  refine (KR _).mono ?_
  rintro e w1 ⟨rfl, hb1⟩
  have kB := keepb hb1 (bl1 w _)
  clear hb1 KR
  go_wp2
  go_ret2
  exact ⟨rfl, kB⟩

set_option maxHeartbeats 4000000 in
theorem rtext_four (x : BitVec 128) (w : World) (h : rightE 32 x = 0) :
    Calls Tryd.prog 10 #[.int .i64 32, .agg #[.int .u64 (hI x), .int .u64 (lI x)]] w fun e w' => e = .returned (.tuple #[.string (text4 x), .int .i64 0]) ∧ Below w.heap.size w w' := by
  have KR := fun w => rright_any 32 x w
  rw [h] at KR
  have h0 := hI_lo x
  have h1 := hI_up x
  have a1 : hI x / 72057594037927936 = ((octN x 0 : Nat) : Int) := by unfold octN; simp; omega
  have b1 : bits .and .u64 (hI x / 281474976710656) 255 = ((octN x 1 : Nat) : Int) := by rw [and255 _ (by omega) (by omega)]; unfold octN; simp; omega
  have c1 : bits .and .u64 (hI x / 1099511627776) 255 = ((octN x 2 : Nat) : Int) := by rw [and255 _ (by omega) (by omega)]; unfold octN; simp; omega
  have d1 : bits .and .u64 (hI x / 4294967296) 255 = ((octN x 3 : Nat) : Int) := by rw [and255 _ (by omega) (by omega)]; unfold octN; simp; omega
  have lt : ∀ k, octN x k < 256 := fun k => by unfold octN; omega
  have HT : Hid (text4 x = dotS ⟨(decL (octN x 0)).toArray⟩ ⟨(decL (octN x 1)).toArray⟩ ⟨(decL (octN x 2)).toArray⟩ ⟨(decL (octN x 3)).toArray⟩) := rfl
  have lA := lt 0
  have lB := lt 1
  have lC := lt 2
  have lD := lt 3
  have Da := fun w => rdec_any (octN x 0) w (by omega)
  have Db := fun w => rdec_any (octN x 1) w (by omega)
  have Dc := fun w => rdec_any (octN x 2) w (by omega)
  have Dd := fun w => rdec_any (octN x 3) w (by omega)
  have za : (⟨(decL (octN x 0)).toArray⟩ : ByteArray).size ≤ 20 := (decL_bd _ (by omega)).2
  have zb : (⟨(decL (octN x 1)).toArray⟩ : ByteArray).size ≤ 20 := (decL_bd _ (by omega)).2
  have zc : (⟨(decL (octN x 2)).toArray⟩ : ByteArray).size ≤ 20 := (decL_bd _ (by omega)).2
  have zd : (⟨(decL (octN x 3)).toArray⟩ : ByteArray).size ≤ 20 := (decL_bd _ (by omega)).2
  obtain ⟨b, hb⟩ : ∃ b, hI x / 281474976710656 = b := ⟨_, rfl⟩
  obtain ⟨c, hc⟩ : ∃ c, hI x / 1099511627776 = c := ⟨_, rfl⟩
  obtain ⟨d, hd⟩ : ∃ d, hI x / 4294967296 = d := ⟨_, rfl⟩
  rw [hb] at b1; rw [hc] at c1; rw [hd] at d1
  clear lt
  generalize octN x 0 = A at *
  generalize octN x 1 = B at *
  generalize octN x 2 = C at *
  generalize octN x 3 = D at *
  generalize (⟨(decL A).toArray⟩ : ByteArray) = SA at *
  generalize (⟨(decL B).toArray⟩ : ByteArray) = SB at *
  generalize (⟨(decL C).toArray⟩ : ByteArray) = SC at *
  generalize (⟨(decL D).toArray⟩ : ByteArray) = SD at *
  go_enter Tryd.func10, Tryd.ntmps10
  go_wp2_with fail
  refine (KR _).mono ?_
  rintro e w1 ⟨rfl, hb1⟩
  have x0 : w1.cell? ⟨w.heap.size, 0, none⟩ = some (.int .u64 (hI x)) := keepc hb1 (by simp [go_sem])
  have kB := (keepb hb1 (bl1 w _)).drew
  clear hb1 KR
  go_wp2_with fail
  refine q_region (C := (fun w' => w'.cell? ⟨w.heap.size, 0, none⟩ = some (.int .u64 (hI x)) ∧ Below w.heap.size w w')) (by kernel_rfl) (by kernel_rfl) ⟨x0, kB⟩ ?_
  clear x0 kB
  refine q_run (v := .pointer (some ⟨w.heap.size, 0, none⟩)) (by rfl) ?_ ?_
  · (intro w1 hC; obtain ⟨c1, c2⟩ := hC; go_simp; first | done | (simp; done) | (simp [*]; done) | omega | (simp; omega) | (rw [IntKind.wrap_i64]; omega) | rfl)
  simp only [Act.put, List.setIfInBounds_toArray, List.set_cons_zero, List.set_cons_succ]
  refine q_run (v := .int .u64 (hI x)) (by rfl) ?_ ?_
  · (intro w1 hC; obtain ⟨c1, c2⟩ := hC; go_simp; first | done | (simp; done) | (simp [*]; done) | omega | (simp; omega) | (rw [IntKind.wrap_i64]; omega) | rfl)
  simp only [Act.put, List.setIfInBounds_toArray, List.set_cons_zero, List.set_cons_succ]
  refine q_run (v := .int .u64 (A : Int)) (by rfl) ?_ ?_
  · (intro w1 hC; obtain ⟨c1, c2⟩ := hC; go_simp; first | done | (simp; done) | (simp [*]; done) | omega | (simp; omega) | (rw [IntKind.wrap_i64]; omega) | rfl)
  simp only [Act.put, List.setIfInBounds_toArray, List.set_cons_zero, List.set_cons_succ]
  refine q_run (v := .int .i64 (A : Int)) (by rfl) ?_ ?_
  · (intro w1 hC; obtain ⟨c1, c2⟩ := hC; go_simp; first | done | (simp; done) | (simp [*]; done) | omega | (simp; omega) | (rw [IntKind.wrap_i64]; omega) | rfl)
  simp only [Act.put, List.setIfInBounds_toArray, List.set_cons_zero, List.set_cons_succ]
  refine q_call (v := .string SA) (f := 45) (args := #[.int .i64 (A : Int)]) (by rfl) ?_ ?_ ?_
  · (intro w1 hC; obtain ⟨c1, c2⟩ := hC; go_simp)
  · exact fun w1 hC => (Da w1).mono fun e w' ⟨he, hb⟩ => ⟨he, keepc hb hC.1, keepb hb hC.2⟩
  simp only [Act.put, List.setIfInBounds_toArray, List.set_cons_zero, List.set_cons_succ]
  refine q_run (v := .string (SA ++ ⟨#[46]⟩)) (by rfl) ?_ ?_
  · (intro w1 hC; obtain ⟨c1, c2⟩ := hC; go_simp; first | done | (simp; done) | (simp [*]; done) | omega | (simp; omega) | (rw [IntKind.wrap_i64]; omega) | rfl)
  simp only [Act.put, List.setIfInBounds_toArray, List.set_cons_zero, List.set_cons_succ]
  refine q_run (v := .pointer (some ⟨w.heap.size, 0, none⟩)) (by rfl) ?_ ?_
  · (intro w1 hC; obtain ⟨c1, c2⟩ := hC; go_simp; first | done | (simp; done) | (simp [*]; done) | omega | (simp; omega) | (rw [IntKind.wrap_i64]; omega) | rfl)
  simp only [Act.put, List.setIfInBounds_toArray, List.set_cons_zero, List.set_cons_succ]
  refine q_run (v := .int .u64 (hI x)) (by rfl) ?_ ?_
  · (intro w1 hC; obtain ⟨c1, c2⟩ := hC; go_simp; first | done | (simp; done) | (simp [*]; done) | omega | (simp; omega) | (rw [IntKind.wrap_i64]; omega) | rfl)
  simp only [Act.put, List.setIfInBounds_toArray, List.set_cons_zero, List.set_cons_succ]
  refine q_run (v := .int .u64 b) (by rfl) ?_ ?_
  · (intro w1 hC; obtain ⟨c1, c2⟩ := hC; go_simp; first | done | (simp; done) | (simp [*]; done) | omega | (simp; omega) | (rw [IntKind.wrap_i64]; omega) | rfl)
  simp only [Act.put, List.setIfInBounds_toArray, List.set_cons_zero, List.set_cons_succ]
  refine q_run (v := .int .u64 (B : Int)) (by rfl) ?_ ?_
  · (intro w1 hC; obtain ⟨c1, c2⟩ := hC; go_simp; first | done | (simp; done) | (simp [*]; done) | omega | (simp; omega) | (rw [IntKind.wrap_i64]; omega) | rfl)
  simp only [Act.put, List.setIfInBounds_toArray, List.set_cons_zero, List.set_cons_succ]
  refine q_run (v := .int .i64 (B : Int)) (by rfl) ?_ ?_
  · (intro w1 hC; obtain ⟨c1, c2⟩ := hC; go_simp; first | done | (simp; done) | (simp [*]; done) | omega | (simp; omega) | (rw [IntKind.wrap_i64]; omega) | rfl)
  simp only [Act.put, List.setIfInBounds_toArray, List.set_cons_zero, List.set_cons_succ]
  refine q_call (v := .string SB) (f := 45) (args := #[.int .i64 (B : Int)]) (by rfl) ?_ ?_ ?_
  · (intro w1 hC; obtain ⟨c1, c2⟩ := hC; go_simp)
  · exact fun w1 hC => (Db w1).mono fun e w' ⟨he, hb⟩ => ⟨he, keepc hb hC.1, keepb hb hC.2⟩
  simp only [Act.put, List.setIfInBounds_toArray, List.set_cons_zero, List.set_cons_succ]
  refine q_run (v := .string (SA ++ ⟨#[46]⟩ ++ SB)) (by rfl) ?_ ?_
  · (intro w1 hC; obtain ⟨c1, c2⟩ := hC; go_simp; first | done | (simp; done) | (simp [*]; done) | omega | (simp; omega) | (rw [IntKind.wrap_i64]; omega) | rfl)
  simp only [Act.put, List.setIfInBounds_toArray, List.set_cons_zero, List.set_cons_succ]
  refine q_run (v := .string (SA ++ ⟨#[46]⟩ ++ SB ++ ⟨#[46]⟩)) (by rfl) ?_ ?_
  · (intro w1 hC; obtain ⟨c1, c2⟩ := hC; go_simp; first | done | (simp; done) | (simp [*]; done) | omega | (simp; omega) | (rw [IntKind.wrap_i64]; omega) | rfl)
  simp only [Act.put, List.setIfInBounds_toArray, List.set_cons_zero, List.set_cons_succ]
  refine q_run (v := .pointer (some ⟨w.heap.size, 0, none⟩)) (by rfl) ?_ ?_
  · (intro w1 hC; obtain ⟨c1, c2⟩ := hC; go_simp; first | done | (simp; done) | (simp [*]; done) | omega | (simp; omega) | (rw [IntKind.wrap_i64]; omega) | rfl)
  simp only [Act.put, List.setIfInBounds_toArray, List.set_cons_zero, List.set_cons_succ]
  refine q_run (v := .int .u64 (hI x)) (by rfl) ?_ ?_
  · (intro w1 hC; obtain ⟨c1, c2⟩ := hC; go_simp; first | done | (simp; done) | (simp [*]; done) | omega | (simp; omega) | (rw [IntKind.wrap_i64]; omega) | rfl)
  simp only [Act.put, List.setIfInBounds_toArray, List.set_cons_zero, List.set_cons_succ]
  refine q_run (v := .int .u64 c) (by rfl) ?_ ?_
  · (intro w1 hC; obtain ⟨c1, c2⟩ := hC; go_simp; first | done | (simp; done) | (simp [*]; done) | omega | (simp; omega) | (rw [IntKind.wrap_i64]; omega) | rfl)
  simp only [Act.put, List.setIfInBounds_toArray, List.set_cons_zero, List.set_cons_succ]
  refine q_run (v := .int .u64 (C : Int)) (by rfl) ?_ ?_
  · (intro w1 hC; obtain ⟨c1, c2⟩ := hC; go_simp; first | done | (simp; done) | (simp [*]; done) | omega | (simp; omega) | (rw [IntKind.wrap_i64]; omega) | rfl)
  simp only [Act.put, List.setIfInBounds_toArray, List.set_cons_zero, List.set_cons_succ]
  refine q_run (v := .int .i64 (C : Int)) (by rfl) ?_ ?_
  · (intro w1 hC; obtain ⟨c1, c2⟩ := hC; go_simp; first | done | (simp; done) | (simp [*]; done) | omega | (simp; omega) | (rw [IntKind.wrap_i64]; omega) | rfl)
  simp only [Act.put, List.setIfInBounds_toArray, List.set_cons_zero, List.set_cons_succ]
  refine q_call (v := .string SC) (f := 45) (args := #[.int .i64 (C : Int)]) (by rfl) ?_ ?_ ?_
  · (intro w1 hC; obtain ⟨c1, c2⟩ := hC; go_simp)
  · exact fun w1 hC => (Dc w1).mono fun e w' ⟨he, hb⟩ => ⟨he, keepc hb hC.1, keepb hb hC.2⟩
  simp only [Act.put, List.setIfInBounds_toArray, List.set_cons_zero, List.set_cons_succ]
  refine q_run (v := .string (SA ++ ⟨#[46]⟩ ++ SB ++ ⟨#[46]⟩ ++ SC)) (by rfl) ?_ ?_
  · (intro w1 hC; obtain ⟨c1, c2⟩ := hC; go_simp; first | done | (simp; done) | (simp [*]; done) | omega | (simp; omega) | (rw [IntKind.wrap_i64]; omega) | rfl)
  simp only [Act.put, List.setIfInBounds_toArray, List.set_cons_zero, List.set_cons_succ]
  refine q_run (v := .string (SA ++ ⟨#[46]⟩ ++ SB ++ ⟨#[46]⟩ ++ SC ++ ⟨#[46]⟩)) (by rfl) ?_ ?_
  · (intro w1 hC; obtain ⟨c1, c2⟩ := hC; go_simp; first | done | (simp; done) | (simp [*]; done) | omega | (simp; omega) | (rw [IntKind.wrap_i64]; omega) | rfl)
  simp only [Act.put, List.setIfInBounds_toArray, List.set_cons_zero, List.set_cons_succ]
  refine q_run (v := .pointer (some ⟨w.heap.size, 0, none⟩)) (by rfl) ?_ ?_
  · (intro w1 hC; obtain ⟨c1, c2⟩ := hC; go_simp; first | done | (simp; done) | (simp [*]; done) | omega | (simp; omega) | (rw [IntKind.wrap_i64]; omega) | rfl)
  simp only [Act.put, List.setIfInBounds_toArray, List.set_cons_zero, List.set_cons_succ]
  refine q_run (v := .int .u64 (hI x)) (by rfl) ?_ ?_
  · (intro w1 hC; obtain ⟨c1, c2⟩ := hC; go_simp; first | done | (simp; done) | (simp [*]; done) | omega | (simp; omega) | (rw [IntKind.wrap_i64]; omega) | rfl)
  simp only [Act.put, List.setIfInBounds_toArray, List.set_cons_zero, List.set_cons_succ]
  refine q_run (v := .int .u64 d) (by rfl) ?_ ?_
  · (intro w1 hC; obtain ⟨c1, c2⟩ := hC; go_simp; first | done | (simp; done) | (simp [*]; done) | omega | (simp; omega) | (rw [IntKind.wrap_i64]; omega) | rfl)
  simp only [Act.put, List.setIfInBounds_toArray, List.set_cons_zero, List.set_cons_succ]
  refine q_run (v := .int .u64 (D : Int)) (by rfl) ?_ ?_
  · (intro w1 hC; obtain ⟨c1, c2⟩ := hC; go_simp; first | done | (simp; done) | (simp [*]; done) | omega | (simp; omega) | (rw [IntKind.wrap_i64]; omega) | rfl)
  simp only [Act.put, List.setIfInBounds_toArray, List.set_cons_zero, List.set_cons_succ]
  refine q_run (v := .int .i64 (D : Int)) (by rfl) ?_ ?_
  · (intro w1 hC; obtain ⟨c1, c2⟩ := hC; go_simp; first | done | (simp; done) | (simp [*]; done) | omega | (simp; omega) | (rw [IntKind.wrap_i64]; omega) | rfl)
  simp only [Act.put, List.setIfInBounds_toArray, List.set_cons_zero, List.set_cons_succ]
  refine q_call (v := .string SD) (f := 45) (args := #[.int .i64 (D : Int)]) (by rfl) ?_ ?_ ?_
  · (intro w1 hC; obtain ⟨c1, c2⟩ := hC; go_simp)
  · exact fun w1 hC => (Dd w1).mono fun e w' ⟨he, hb⟩ => ⟨he, keepc hb hC.1, keepb hb hC.2⟩
  simp only [Act.put, List.setIfInBounds_toArray, List.set_cons_zero, List.set_cons_succ]
  refine q_run (v := .string (SA ++ ⟨#[46]⟩ ++ SB ++ ⟨#[46]⟩ ++ SC ++ ⟨#[46]⟩ ++ SD)) (by rfl) ?_ ?_
  · (intro w1 hC; obtain ⟨c1, c2⟩ := hC; go_simp; first | done | (simp; done) | (simp [*]; done) | omega | (simp; omega) | (rw [IntKind.wrap_i64]; omega) | rfl)
  simp only [Act.put, List.setIfInBounds_toArray, List.set_cons_zero, List.set_cons_succ]
  refine q_run (v := .string (SA ++ ⟨#[46]⟩ ++ SB ++ ⟨#[46]⟩ ++ SC ++ ⟨#[46]⟩ ++ SD)) (by rfl) ?_ ?_
  · (intro w1 hC; obtain ⟨c1, c2⟩ := hC; go_simp; first | done | (simp; done) | (simp [*]; done) | omega | (simp; omega) | (rw [IntKind.wrap_i64]; omega) | rfl)
  simp only [Act.put, List.setIfInBounds_toArray, List.set_cons_zero, List.set_cons_succ]
  refine q_run (v := .int .i64 0) (by rfl) ?_ ?_
  · (intro w1 hC; obtain ⟨c1, c2⟩ := hC; go_simp; first | done | (simp; done) | (simp [*]; done) | omega | (simp; omega) | (rw [IntKind.wrap_i64]; omega) | rfl)
  simp only [Act.put, List.setIfInBounds_toArray, List.set_cons_zero, List.set_cons_succ]
  refine wpQuiet_nil ?_
  intro w9 hC
  obtain ⟨-, kB⟩ := hC
  go_wp2
  go_ret2
  exact ⟨by rw [HT.out]; rfl, kB⟩
end Go.Proofs.YtpchhfhdepkbcaaDoor
