/-
  Part 4 of the proof: 7 texts, one behind the other.
-/
import Derived.Test.YtpiicdpipjjenaaGreatDoorPart3
import Derived.Test.YtpiicdpipjjenaaGreatDoorPart2
import Derived.Deep.AppendLies
import Derived.OwnWalk
import Derived.Laws.OwnMore
import Derived.Deep.Onto
namespace Go.Proofs.YtpiicdpipjjenaaGreatDoor
open Go.RowKit
set_option linter.unusedSimpArgs false
set_option linter.unusedVariables false

def dotS (x y z u : ByteArray) : ByteArray := x ++ ⟨#[46]⟩ ++ y ++ ⟨#[46]⟩ ++ z ++ ⟨#[46]⟩ ++ u
def octN (x : BitVec 128) (k : Nat) : Nat := (hI x).toNat / 2 ^ (56 - 8 * k) % 256
def text4 (x : BitVec 128) : ByteArray := dotS ⟨(decL (octN x 0)).toArray⟩ ⟨(decL (octN x 1)).toArray⟩ ⟨(decL (octN x 2)).toArray⟩ ⟨(decL (octN x 3)).toArray⟩
theorem and255 (v : Int) (h0 : 0 ≤ v) (h1 : v < 18446744073709551616) : bits .and .u64 v 255 = v % 256 := by
  obtain ⟨n, rfl⟩ := Int.eq_ofNat_of_zero_le h0
  have e1 : (n : Int) = ((BitVec.ofNat 64 n).toNat : Int) := by simp [BitVec.toNat_ofNat]; omega
  have e2 : (255 : Int) = ((BitVec.ofNat 64 255).toNat : Int) := by decide
  rw [e1, e2, bits64and _ _ _ rfl, BitVec.toNat_and, BitVec.toNat_ofNat, BitVec.toNat_ofNat, Nat.mod_eq_of_lt (by omega), show 255 % 2 ^ 64 = 2 ^ 8 - 1 by decide, Nat.and_two_pow_sub_one_eq_mod]
  rfl
theorem rtext_err (F : Int) (x : BitVec 128) (w : World) (h : ¬ rightE F x = 0) :
    Calls Tryz.prog 37 #[.int .i64 F, .agg #[.int .u64 (hI x), .int .u64 (lI x)]] w fun e w' => e = .returned (.tuple #[.string ⟨#[]⟩, .int .i64 (rightE F x)]) ∧ Below w.heap.size w w' := by
  have KR := fun w => rright_any F x w
  have hb : (rightE F x != 0) = true := by simp [h]
  generalize rightE F x = r at *
  go_enter Tryz.func37, Tryz.ntmps37
  go_wp2_with fail
  refine (KR _).mono ?_
  rintro e w1 ⟨rfl, hb1⟩
  have kB := keepb hb1 (bl1 w _)
  clear hb1 KR
  go_wp2
  go_ret2
  exact ⟨rfl, kB⟩

set_option maxHeartbeats 4000000 in
theorem rtext_four (x : BitVec 128) (w : World) (h : rightE 32 x = 0) :
    Calls Tryz.prog 37 #[.int .i64 32, .agg #[.int .u64 (hI x), .int .u64 (lI x)]] w fun e w' => e = .returned (.tuple #[.string (text4 x), .int .i64 0]) ∧ Below w.heap.size w w' := by
  have KR := fun w => rright_any 32 x w
  rw [h] at KR
  have h0 := hI_lo x
  have h1 := hI_up x
  have a1 : hI x / 72057594037927936 = ((octN x 0 : Nat) : Int) := by unfold octN; simp; omega
  have b1 : bits .and .u64 (hI x / 281474976710656) 255 = ((octN x 1 : Nat) : Int) := by rw [and255 _ (by omega) (by omega)]; unfold octN; simp; omega
  have c1 : bits .and .u64 (hI x / 1099511627776) 255 = ((octN x 2 : Nat) : Int) := by rw [and255 _ (by omega) (by omega)]; unfold octN; simp; omega
  have d1 : bits .and .u64 (hI x / 4294967296) 255 = ((octN x 3 : Nat) : Int) := by rw [and255 _ (by omega) (by omega)]; unfold octN; simp; omega
  have lt : ∀ k, octN x k < 256 := fun k => by unfold octN; omega
  have HT : Hid (text4 x = dotS ⟨(decL (octN x 0)).toArray⟩ ⟨(decL (octN x 1)).toArray⟩ ⟨(decL (octN x 2)).toArray⟩ ⟨(decL (octN x 3)).toArray⟩) := rfl
  have lA := lt 0
  have lB := lt 1
  have lC := lt 2
  have lD := lt 3
  have Da := fun w => rdec_any (octN x 0) w (by omega)
  have Db := fun w => rdec_any (octN x 1) w (by omega)
  have Dc := fun w => rdec_any (octN x 2) w (by omega)
  have Dd := fun w => rdec_any (octN x 3) w (by omega)
  have za : (⟨(decL (octN x 0)).toArray⟩ : ByteArray).size ≤ 20 := (decL_bd _ (by omega)).2
  have zb : (⟨(decL (octN x 1)).toArray⟩ : ByteArray).size ≤ 20 := (decL_bd _ (by omega)).2
  have zc : (⟨(decL (octN x 2)).toArray⟩ : ByteArray).size ≤ 20 := (decL_bd _ (by omega)).2
  have zd : (⟨(decL (octN x 3)).toArray⟩ : ByteArray).size ≤ 20 := (decL_bd _ (by omega)).2
  obtain ⟨b, hb⟩ : ∃ b, hI x / 281474976710656 = b := ⟨_, rfl⟩
  obtain ⟨c, hc⟩ : ∃ c, hI x / 1099511627776 = c := ⟨_, rfl⟩
  obtain ⟨d, hd⟩ : ∃ d, hI x / 4294967296 = d := ⟨_, rfl⟩
  rw [hb] at b1; rw [hc] at c1; rw [hd] at d1
  clear lt
  generalize octN x 0 = A at *
  generalize octN x 1 = B at *
  generalize octN x 2 = C at *
  generalize octN x 3 = D at *
  generalize (⟨(decL A).toArray⟩ : ByteArray) = SA at *
  generalize (⟨(decL B).toArray⟩ : ByteArray) = SB at *
  generalize (⟨(decL C).toArray⟩ : ByteArray) = SC at *
  generalize (⟨(decL D).toArray⟩ : ByteArray) = SD at *
  go_enter Tryz.func37, Tryz.ntmps37
  go_wp2_with fail
  refine (KR _).mono ?_
  rintro e w1 ⟨rfl, hb1⟩
  have x0 : w1.cell? ⟨w.heap.size, 0, none⟩ = some (.int .u64 (hI x)) := keepc hb1 (by simp [go_sem])
  have kB := (keepb hb1 (bl1 w _)).drew
  clear hb1 KR
  go_wp2_with fail
  refine q_region (C := (fun w' => w'.cell? ⟨w.heap.size, 0, none⟩ = some (.int .u64 (hI x)) ∧ Below w.heap.size w w')) (by kernel_rfl) (by kernel_rfl) ⟨x0, kB⟩ ?_
  clear x0 kB
  refine q_run (v := .pointer (some ⟨w.heap.size, 0, none⟩)) (by rfl) ?_ ?_
  · (intro w1 hC; obtain ⟨c1, c2⟩ := hC; go_simp; first | done | (simp; done) | (simp [*]; done) | omega | (simp; omega) | (rw [IntKind.wrap_i64]; omega) | rfl)
  simp only [Act.put, List.setIfInBounds_toArray, List.set_cons_zero, List.set_cons_succ]
  refine q_run (v := .int .u64 (hI x)) (by rfl) ?_ ?_
  · (intro w1 hC; obtain ⟨c1, c2⟩ := hC; go_simp; first | done | (simp; done) | (simp [*]; done) | omega | (simp; omega) | (rw [IntKind.wrap_i64]; omega) | rfl)
  simp only [Act.put, List.setIfInBounds_toArray, List.set_cons_zero, List.set_cons_succ]
  refine q_run (v := .int .u64 (A : Int)) (by rfl) ?_ ?_
  · (intro w1 hC; obtain ⟨c1, c2⟩ := hC; go_simp; first | done | (simp; done) | (simp [*]; done) | omega | (simp; omega) | (rw [IntKind.wrap_i64]; omega) | rfl)
  simp only [Act.put, List.setIfInBounds_toArray, List.set_cons_zero, List.set_cons_succ]
  refine q_run (v := .int .i64 (A : Int)) (by rfl) ?_ ?_
  · (intro w1 hC; obtain ⟨c1, c2⟩ := hC; go_simp; first | done | (simp; done) | (simp [*]; done) | omega | (simp; omega) | (rw [IntKind.wrap_i64]; omega) | rfl)
  simp only [Act.put, List.setIfInBounds_toArray, List.set_cons_zero, List.set_cons_succ]
  refine q_call (v := .string SA) (f := 19) (args := #[.int .i64 (A : Int)]) (by rfl) ?_ ?_ ?_
  · (intro w1 hC; obtain ⟨c1, c2⟩ := hC; go_simp)
  · exact fun w1 hC => (Da w1).mono fun e w' ⟨he, hb⟩ => ⟨he, keepc hb hC.1, keepb hb hC.2⟩
  simp only [Act.put, List.setIfInBounds_toArray, List.set_cons_zero, List.set_cons_succ]
  refine q_run (v := .string (SA ++ ⟨#[46]⟩)) (by rfl) ?_ ?_
  · (intro w1 hC; obtain ⟨c1, c2⟩ := hC; go_simp; first | done | (simp; done) | (simp [*]; done) | omega | (simp; omega) | (rw [IntKind.wrap_i64]; omega) | rfl)
  simp only [Act.put, List.setIfInBounds_toArray, List.set_cons_zero, List.set_cons_succ]
  refine q_run (v := .pointer (some ⟨w.heap.size, 0, none⟩)) (by rfl) ?_ ?_
  · (intro w1 hC; obtain ⟨c1, c2⟩ := hC; go_simp; first | done | (simp; done) | (simp [*]; done) | omega | (simp; omega) | (rw [IntKind.wrap_i64]; omega) | rfl)
  simp only [Act.put, List.setIfInBounds_toArray, List.set_cons_zero, List.set_cons_succ]
  refine q_run (v := .int .u64 (hI x)) (by rfl) ?_ ?_
  · (intro w1 hC; obtain ⟨c1, c2⟩ := hC; go_simp; first | done | (simp; done) | (simp [*]; done) | omega | (simp; omega) | (rw [IntKind.wrap_i64]; omega) | rfl)
  simp only [Act.put, List.setIfInBounds_toArray, List.set_cons_zero, List.set_cons_succ]
  refine q_run (v := .int .u64 b) (by rfl) ?_ ?_
  · (intro w1 hC; obtain ⟨c1, c2⟩ := hC; go_simp; first | done | (simp; done) | (simp [*]; done) | omega | (simp; omega) | (rw [IntKind.wrap_i64]; omega) | rfl)
  simp only [Act.put, List.setIfInBounds_toArray, List.set_cons_zero, List.set_cons_succ]
  refine q_run (v := .int .u64 (B : Int)) (by rfl) ?_ ?_
  · (intro w1 hC; obtain ⟨c1, c2⟩ := hC; go_simp; first | done | (simp; done) | (simp [*]; done) | omega | (simp; omega) | (rw [IntKind.wrap_i64]; omega) | rfl)
  simp only [Act.put, List.setIfInBounds_toArray, List.set_cons_zero, List.set_cons_succ]
  refine q_run (v := .int .i64 (B : Int)) (by rfl) ?_ ?_
  · (intro w1 hC; obtain ⟨c1, c2⟩ := hC; go_simp; first | done | (simp; done) | (simp [*]; done) | omega | (simp; omega) | (rw [IntKind.wrap_i64]; omega) | rfl)
  simp only [Act.put, List.setIfInBounds_toArray, List.set_cons_zero, List.set_cons_succ]
  refine q_call (v := .string SB) (f := 19) (args := #[.int .i64 (B : Int)]) (by rfl) ?_ ?_ ?_
  · (intro w1 hC; obtain ⟨c1, c2⟩ := hC; go_simp)
  · exact fun w1 hC => (Db w1).mono fun e w' ⟨he, hb⟩ => ⟨he, keepc hb hC.1, keepb hb hC.2⟩
  simp only [Act.put, List.setIfInBounds_toArray, List.set_cons_zero, List.set_cons_succ]
  refine q_run (v := .string (SA ++ ⟨#[46]⟩ ++ SB)) (by rfl) ?_ ?_
  · (intro w1 hC; obtain ⟨c1, c2⟩ := hC; go_simp; first | done | (simp; done) | (simp [*]; done) | omega | (simp; omega) | (rw [IntKind.wrap_i64]; omega) | rfl)
  simp only [Act.put, List.setIfInBounds_toArray, List.set_cons_zero, List.set_cons_succ]
  refine q_run (v := .string (SA ++ ⟨#[46]⟩ ++ SB ++ ⟨#[46]⟩)) (by rfl) ?_ ?_
  · (intro w1 hC; obtain ⟨c1, c2⟩ := hC; go_simp; first | done | (simp; done) | (simp [*]; done) | omega | (simp; omega) | (rw [IntKind.wrap_i64]; omega) | rfl)
  simp only [Act.put, List.setIfInBounds_toArray, List.set_cons_zero, List.set_cons_succ]
  refine q_run (v := .pointer (some ⟨w.heap.size, 0, none⟩)) (by rfl) ?_ ?_
  · (intro w1 hC; obtain ⟨c1, c2⟩ := hC; go_simp; first | done | (simp; done) | (simp [*]; done) | omega | (simp; omega) | (rw [IntKind.wrap_i64]; omega) | rfl)
  simp only [Act.put, List.setIfInBounds_toArray, List.set_cons_zero, List.set_cons_succ]
  refine q_run (v := .int .u64 (hI x)) (by rfl) ?_ ?_
  · (intro w1 hC; obtain ⟨c1, c2⟩ := hC; go_simp; first | done | (simp; done) | (simp [*]; done) | omega | (simp; omega) | (rw [IntKind.wrap_i64]; omega) | rfl)
  simp only [Act.put, List.setIfInBounds_toArray, List.set_cons_zero, List.set_cons_succ]
  refine q_run (v := .int .u64 c) (by rfl) ?_ ?_
  · (intro w1 hC; obtain ⟨c1, c2⟩ := hC; go_simp; first | done | (simp; done) | (simp [*]; done) | omega | (simp; omega) | (rw [IntKind.wrap_i64]; omega) | rfl)
  simp only [Act.put, List.setIfInBounds_toArray, List.set_cons_zero, List.set_cons_succ]
  refine q_run (v := .int .u64 (C : Int)) (by rfl) ?_ ?_
  · (intro w1 hC; obtain ⟨c1, c2⟩ := hC; go_simp; first | done | (simp; done) | (simp [*]; done) | omega | (simp; omega) | (rw [IntKind.wrap_i64]; omega) | rfl)
  simp only [Act.put, List.setIfInBounds_toArray, List.set_cons_zero, List.set_cons_succ]
  refine q_run (v := .int .i64 (C : Int)) (by rfl) ?_ ?_
  · (intro w1 hC; obtain ⟨c1, c2⟩ := hC; go_simp; first | done | (simp; done) | (simp [*]; done) | omega | (simp; omega) | (rw [IntKind.wrap_i64]; omega) | rfl)
  simp only [Act.put, List.setIfInBounds_toArray, List.set_cons_zero, List.set_cons_succ]
  refine q_call (v := .string SC) (f := 19) (args := #[.int .i64 (C : Int)]) (by rfl) ?_ ?_ ?_
  · (intro w1 hC; obtain ⟨c1, c2⟩ := hC; go_simp)
  · exact fun w1 hC => (Dc w1).mono fun e w' ⟨he, hb⟩ => ⟨he, keepc hb hC.1, keepb hb hC.2⟩
  simp only [Act.put, List.setIfInBounds_toArray, List.set_cons_zero, List.set_cons_succ]
  refine q_run (v := .string (SA ++ ⟨#[46]⟩ ++ SB ++ ⟨#[46]⟩ ++ SC)) (by rfl) ?_ ?_
  · (intro w1 hC; obtain ⟨c1, c2⟩ := hC; go_simp; first | done | (simp; done) | (simp [*]; done) | omega | (simp; omega) | (rw [IntKind.wrap_i64]; omega) | rfl)
  simp only [Act.put, List.setIfInBounds_toArray, List.set_cons_zero, List.set_cons_succ]
  refine q_run (v := .string (SA ++ ⟨#[46]⟩ ++ SB ++ ⟨#[46]⟩ ++ SC ++ ⟨#[46]⟩)) (by rfl) ?_ ?_
  · (intro w1 hC; obtain ⟨c1, c2⟩ := hC; go_simp; first | done | (simp; done) | (simp [*]; done) | omega | (simp; omega) | (rw [IntKind.wrap_i64]; omega) | rfl)
  simp only [Act.put, List.setIfInBounds_toArray, List.set_cons_zero, List.set_cons_succ]
  refine q_run (v := .pointer (some ⟨w.heap.size, 0, none⟩)) (by rfl) ?_ ?_
  · (intro w1 hC; obtain ⟨c1, c2⟩ := hC; go_simp; first | done | (simp; done) | (simp [*]; done) | omega | (simp; omega) | (rw [IntKind.wrap_i64]; omega) | rfl)
  simp only [Act.put, List.setIfInBounds_toArray, List.set_cons_zero, List.set_cons_succ]
  refine q_run (v := .int .u64 (hI x)) (by rfl) ?_ ?_
  · (intro w1 hC; obtain ⟨c1, c2⟩ := hC; go_simp; first | done | (simp; done) | (simp [*]; done) | omega | (simp; omega) | (rw [IntKind.wrap_i64]; omega) | rfl)
  simp only [Act.put, List.setIfInBounds_toArray, List.set_cons_zero, List.set_cons_succ]
  refine q_run (v := .int .u64 d) (by rfl) ?_ ?_
  · (intro w1 hC; obtain ⟨c1, c2⟩ := hC; go_simp; first | done | (simp; done) | (simp [*]; done) | omega | (simp; omega) | (rw [IntKind.wrap_i64]; omega) | rfl)
  simp only [Act.put, List.setIfInBounds_toArray, List.set_cons_zero, List.set_cons_succ]
  refine q_run (v := .int .u64 (D : Int)) (by rfl) ?_ ?_
  · (intro w1 hC; obtain ⟨c1, c2⟩ := hC; go_simp; first | done | (simp; done) | (simp [*]; done) | omega | (simp; omega) | (rw [IntKind.wrap_i64]; omega) | rfl)
  simp only [Act.put, List.setIfInBounds_toArray, List.set_cons_zero, List.set_cons_succ]
  refine q_run (v := .int .i64 (D : Int)) (by rfl) ?_ ?_
  · (intro w1 hC; obtain ⟨c1, c2⟩ := hC; go_simp; first | done | (simp; done) | (simp [*]; done) | omega | (simp; omega) | (rw [IntKind.wrap_i64]; omega) | rfl)
  simp only [Act.put, List.setIfInBounds_toArray, List.set_cons_zero, List.set_cons_succ]
  refine q_call (v := .string SD) (f := 19) (args := #[.int .i64 (D : Int)]) (by rfl) ?_ ?_ ?_
  · (intro w1 hC; obtain ⟨c1, c2⟩ := hC; go_simp)
  · exact fun w1 hC => (Dd w1).mono fun e w' ⟨he, hb⟩ => ⟨he, keepc hb hC.1, keepb hb hC.2⟩
  simp only [Act.put, List.setIfInBounds_toArray, List.set_cons_zero, List.set_cons_succ]
  refine q_run (v := .string (SA ++ ⟨#[46]⟩ ++ SB ++ ⟨#[46]⟩ ++ SC ++ ⟨#[46]⟩ ++ SD)) (by rfl) ?_ ?_
  · (intro w1 hC; obtain ⟨c1, c2⟩ := hC; go_simp; first | done | (simp; done) | (simp [*]; done) | omega | (simp; omega) | (rw [IntKind.wrap_i64]; omega) | rfl)
  simp only [Act.put, List.setIfInBounds_toArray, List.set_cons_zero, List.set_cons_succ]
  refine q_run (v := .string (SA ++ ⟨#[46]⟩ ++ SB ++ ⟨#[46]⟩ ++ SC ++ ⟨#[46]⟩ ++ SD)) (by rfl) ?_ ?_
  · (intro w1 hC; obtain ⟨c1, c2⟩ := hC; go_simp; first | done | (simp; done) | (simp [*]; done) | omega | (simp; omega) | (rw [IntKind.wrap_i64]; omega) | rfl)
  simp only [Act.put, List.setIfInBounds_toArray, List.set_cons_zero, List.set_cons_succ]
  refine q_run (v := .int .i64 0) (by rfl) ?_ ?_
  · (intro w1 hC; obtain ⟨c1, c2⟩ := hC; go_simp; first | done | (simp; done) | (simp [*]; done) | omega | (simp; omega) | (rw [IntKind.wrap_i64]; omega) | rfl)
  simp only [Act.put, List.setIfInBounds_toArray, List.set_cons_zero, List.set_cons_succ]
  refine wpQuiet_nil ?_
  intro w9 hC
  obtain ⟨-, kB⟩ := hC
  go_wp2
  go_ret2
  exact ⟨by rw [HT.out]; rfl, kB⟩
end Go.Proofs.YtpiicdpipjjenaaGreatDoor
namespace Go.Proofs.YtpiicdpipjjenaaGreatDoor
open Go.RowKit
set_option linter.unusedSimpArgs false
set_option linter.unusedVariables false

def grG (t : ByteArray) : Nat → Nat → Int → Int
  | 0, _, n => n
  | f + 1, k, n => if hexB (byteAt t k) = true then grG t f (k + 1) (16 * n + hexV (byteAt t k)) else -1
def grV (t : ByteArray) : Int := if t.size < 1 ∨ 4 < t.size then -1 else grG t t.size 0 0

end Go.Proofs.YtpiicdpipjjenaaGreatDoor
namespace Go.Proofs.YtpiicdpipjjenaaGreatDoor
open Go.RowKit
set_option linter.unusedSimpArgs false
set_option linter.unusedVariables false

theorem rowBelow {base e size n : Nat} {v : Value} {xs : List Value} {W w' : World} (hb : Below W.heap.size W w') (h : W.ownsRow base e size v n xs) : w'.ownsRow base e size v n xs := by
  refine h.kept (row := none) ⟨hb.os, hb.tape, hb.output, hb.size, fun k hk _ => hb.block k hk⟩ ?_
  cases v.ownBlock with
  | none => exact Or.inl rfl
  | some a => exact Or.inr (by simp)
theorem newsS (W : World) (v : Value) (t : TypeId) : ∀ j u, [v][j]? = some u → (W.alloc (.cells #[v] t)).cell? ((⟨W.heap.size, 0, none⟩ : Addr).add j) = some u := by
  intro j u hj
  match j, hj with
  | 0, hj => simp at hj; subst hj; simp [Addr.add, go_sem]
end Go.Proofs.YtpiicdpipjjenaaGreatDoor
namespace Go.Proofs.YtpiicdpipjjenaaGreatDoor
open Go.RowKit
set_option linter.unusedSimpArgs false
set_option linter.unusedVariables false

end Go.Proofs.YtpiicdpipjjenaaGreatDoor
namespace Go.Proofs.YtpiicdpipjjenaaGreatDoor
open Go.RowKit
set_option linter.unusedSimpArgs false
set_option linter.unusedVariables false

def ints (l : List Int) : List Value := l.map (Value.int .i64)
theorem Tryz.infoI : (Tryz.prog.info? 3).map (fun i => (i.zero, i.size, i.bytes)) = some (some (.int .i64 0), 1, 8) := by kernel_rfl
theorem oneI (n : Int) : ∀ u ∈ [Value.int .i64 n], u.oneCell' = true := by
  intro u hu; simp at hu; subst hu; rfl
theorem empty_is (t : ByteArray) : t.toList.isEmpty = decide (t.size = 0) := by
  rw [Lib.toList_data, Lib.size_eq]
  cases t.data.toList <;> simp

end Go.Proofs.YtpiicdpipjjenaaGreatDoor
namespace Go.Proofs.YtpiicdpipjjenaaGreatDoor
open Go.RowKit
set_option linter.unusedSimpArgs false
set_option linter.unusedVariables false

def Fnd (w : World) (B : Nat) (f : Nat → Int) (c : Nat) (p : Int) : Prop :=
  (∀ i, i < 8 → w.cell? ⟨B, i, none⟩ = some (.int .u64 (f i)) ∧ w.frozen? ⟨B, i, none⟩ = false) ∧ w.cell? ⟨B, 8, none⟩ = some (.int .i64 c) ∧ w.frozen? ⟨B, 8, none⟩ = false ∧ w.cell? ⟨B, 9, none⟩ = some (.int .i64 p) ∧ w.frozen? ⟨B, 9, none⟩ = false ∧ B < w.heap.size
def upd (f : Nat → Int) (c : Nat) (v : Int) : Nat → Int := fun i => if i = c then v else f i
theorem Fnd.below {w w' : World} {B : Nat} {f : Nat → Int} {c : Nat} {p : Int} (h : Fnd w B f c p) (hb : Below w.heap.size w w') : Fnd w' B f c p := by
  obtain ⟨h1, h2, h3, h4, h5, h6⟩ := h
  exact ⟨fun i hi => ⟨keepc hb (h1 i hi).1, keepf hb (h1 i hi).1 (h1 i hi).2⟩, keepc hb h2, keepf hb h2 h3, keepc hb h4, keepf hb h4 h5, Nat.lt_of_lt_of_le h6 hb.size⟩

def Only (B : Nat) (w w' : World) : Prop := w'.heap.size = w.heap.size ∧ ∀ C o, ¬ C = B → w'.cell? ⟨C, o, none⟩ = w.cell? ⟨C, o, none⟩ ∧ w'.frozen? ⟨C, o, none⟩ = w.frozen? ⟨C, o, none⟩
theorem At.only {w w' : World} {B C : Nat} {x : BitVec 128} (h : At w C x) (ho : Only B w w') (hn : ¬ C = B) : At w' C x := by
  obtain ⟨h0, h1, h2, h3, h4⟩ := h
  exact ⟨by rw [(ho.2 C 0 hn).1]; exact h0, by rw [(ho.2 C 1 hn).1]; exact h1, by rw [(ho.2 C 0 hn).2]; exact h2, by rw [(ho.2 C 1 hn).2]; exact h3, by rw [ho.1]; exact h4⟩

set_option maxHeartbeats 2000000 in
theorem fadd_any (B : Nat) (f : Nat → Int) (c : Nat) (p v : Int) (w : World) (hF : Fnd w B f c p) (hc : c ≤ 7) :
    Calls Tryz.prog 130 #[.pointer (some ⟨B, 0, none⟩), .int .u64 v] w fun e w' => e = .returned (.bool true) ∧ Fnd w' B (upd f c v) (c + 1) p ∧ Below B w w' ∧ Only B w w' := by
  obtain ⟨h1, h2, h3, h4, h5, h6⟩ := hF
  have hc8 : ¬ (c : Int) = 8 := by omega
  have hcb : ((c : Int) == 8) = false := by simp; omega
  have hcl : (c : Int) < 8 := by omega
  have ⟨k1, k2⟩ := h1 c (by omega)
  have n8 : ¬ c = 8 := by omega
  have n9 : ¬ c = 9 := by omega
  have e8 : (w.setCell ⟨B, c, none⟩ (.int .u64 v)).cell? ⟨B, 8, none⟩ = some (.int .i64 c) := by simp [go_sem, *]
  have f8 : (w.setCell ⟨B, c, none⟩ (.int .u64 v)).frozen? ⟨B, 8, none⟩ = false := by simp [go_sem, *]
  have hF' : Fnd (((w.setCell ⟨B, c, none⟩ (.int .u64 v)).setCell ⟨B, 8, none⟩ (.int .i64 ((c : Int) + 1))).drew) B (upd f c v) (c + 1) p := by
    refine ⟨fun i hi => ?_, ?_, ?_, ?_, ?_, ?_⟩
    · have n : ¬ i = 8 := by omega
      have n' : ¬ 8 = i := by omega
      obtain ⟨q1, q2⟩ := h1 i hi
      by_cases hic : i = c
      · subst hic
        simp [go_sem, upd, *]
      · have hci : ¬ c = i := fun e => hic e.symm
        simp [go_sem, upd, *]
    all_goals simp [go_sem, *]
  have hB' : Below B w (((w.setCell ⟨B, c, none⟩ (.int .u64 v)).setCell ⟨B, 8, none⟩ (.int .i64 ((c : Int) + 1))).drew) := (((Below.refl B w).setCell (p := ⟨B, c, none⟩) (Nat.le_refl _) _).setCell (p := ⟨B, 8, none⟩) (Nat.le_refl _) _).drew
  have hO' : Only B w (((w.setCell ⟨B, c, none⟩ (.int .u64 v)).setCell ⟨B, 8, none⟩ (.int .i64 ((c : Int) + 1))).drew) := by
    refine ⟨by simp, fun C o hn => ?_⟩
    have hn' : ¬ B = C := fun e => hn e.symm
    simp [go_sem, hn, hn']
  clear h1
  go_enter Tryz.func130, Tryz.ntmps130
  go_wp2
  go_region
  go_wp2
  go_ret
  exact ⟨rfl, hF', hB', hO'⟩

theorem fadd_full (B : Nat) (f : Nat → Int) (p v : Int) (w : World) (hF : Fnd w B f 8 p) :
    Calls Tryz.prog 130 #[.pointer (some ⟨B, 0, none⟩), .int .u64 v] w fun e w' => e = .returned (.bool false) ∧ w' = w := by
  obtain ⟨h1, h2, h3, h4, h5, h6⟩ := hF
  have h2' : w.cell? ⟨B, 8, none⟩ = some (.int .i64 8) := h2
  clear h1 h2
  go_enter Tryz.func130, Tryz.ntmps130
  go_wp2
  go_ret
  exact ⟨rfl, rfl⟩

def plc (c : Nat) (p : Int) (k : Nat) : Int := if ¬ p = -1 ∧ p ≤ k then (k : Int) + (8 - c) else k
def sixW (f : Nat → Int) (c : Nat) (p : Int) : Nat → BitVec 128
  | 0 => 0#128
  | k + 1 => layW (sixW f c p k) (plc c p k) 16 (f k)
def finV (f : Nat → Int) (c : Nat) (p : Int) : BitVec 128 := if (p = -1) = (c = 8) then sixW f c p c else 0#128
def finB (c : Nat) (p : Int) : Bool := decide ((p = -1) = (c = 8))

theorem Fnd.other {w : World} {B C : Nat} {f : Nat → Int} {c : Nat} {p : Int} (h : Fnd w B f c p) (hn : ¬ C = B) (u v : Value) : Fnd ((w.setCell ⟨C, 0, none⟩ u).setCell ⟨C, 1, none⟩ v) B f c p := by
  obtain ⟨h1, h2, h3, h4, h5, h6⟩ := h
  have hn' : ¬ B = C := fun e => hn e.symm
  refine ⟨fun i hi => ?_, ?_, ?_, ?_, ?_, ?_⟩
  · obtain ⟨q1, q2⟩ := h1 i hi
    simp [go_sem, *]
  all_goals simp [go_sem, *]

set_option maxHeartbeats 2000000 in
theorem fword_any (B : Nat) (f : Nat → Int) (c : Nat) (p : Int) (w : World) (hF : Fnd w B f c p) (hc : c ≤ 8) (hp : -1 ≤ p) (hp2 : p ≤ 8) (hf : ∀ i, 0 ≤ f i ∧ f i ≤ 65535) :
    Calls Tryz.prog 131 #[.pointer (some ⟨B, 0, none⟩)] w fun e w' => e = .returned (.tuple #[.agg #[.int .u64 (hI (finV f c p)), .int .u64 (lI (finV f c p))], .bool (finB c p)]) ∧ Below w.heap.size w w' := by
  have hF' := hF
  obtain ⟨h1, h2, h3, h4, h5, h6⟩ := hF
  have d0 : ¬ w.heap.size = B := by omega
  by_cases hq : (p = -1) = (c = 8)
  · have HF : Hid (finV f c p = sixW f c p c ∧ finB c p = true) := by
      show _ ∧ _
      unfold finV finB; rw [if_pos hq]; exact ⟨rfl, by simp [hq]⟩
    have hq2 : ((p == -1) == ((c : Int) == 8)) = true := by
      by_cases hp1 : p = -1
      · have : c = 8 := by rw [← hq]; exact hp1
        subst this; subst hp1; rfl
      · have h8 : ¬ c = 8 := by rw [← hq]; exact hp1
        have e1 : (p == -1) = false := by simp [hp1]
        have e2 : ((c : Int) == 8) = false := by simp; omega
        rw [e1, e2]; rfl
    clear hq
    obtain ⟨b, hpb⟩ : ∃ b, (p == -1) = b := ⟨_, rfl⟩
    rw [hpb] at hq2
    have c0 : (0 : Int) ≤ (c : Int) := by omega
    have c8 : (c : Int) ≤ 8 := by omega
    go_enter Tryz.func131, Tryz.ntmps131
    go_wp2
    go_region
    go_wp2
    go_region
    go_wp2
    go_loopw [28] (fun q wr => ∃ k : Nat, k ≤ c ∧ q = .int .i64 k ∧ At wr (w.heap.size + 1) (sixW f c p k) ∧ At wr w.heap.size 0#128 ∧ Fnd wr B f c p ∧ Below w.heap.size w wr) (fun q _ => c - (intOf q).toNat)
    case atStart =>
      refine ⟨0, by omega, rfl, ?_, ?_, ?_, (bl2 w _ _).drew.drew⟩
      · show At _ _ 0#128
        refine ⟨?_, ?_, ?_, ?_, ?_⟩ <;> simp [go_sem, hI_zero, lI_zero]
      · refine ⟨?_, ?_, ?_, ?_, ?_⟩ <;> simp [go_sem, hI_zero, lI_zero]
      · exact hF'.below (bl2 w _ _).drew.drew
    case round =>
      obtain ⟨k, hk, rfl, hA, hZ, hG, hB⟩ := hrel
      clear h1 h2 h3 h4 h5 hF'
      obtain ⟨h1, h2, h3, h4, h5, h6'⟩ := id hG
      by_cases hlt : k < c
      · have hlt2 : (k : Int) < (c : Int) := by omega
        have hk8 : (k : Int) < 8 := by omega
        obtain ⟨l1, l2⟩ := h1 k (by omega)
        obtain ⟨f0, f1⟩ := hf k
        obtain ⟨a0, a1, a2, a3, a4⟩ := id hA
        have HW : Hid (sixW f c p (k + 1) = layW (sixW f c p k) (plc c p k) 16 (f k)) := rfl
        have hpl : 0 ≤ plc c p k ∧ plc c p k ≤ 16 := by unfold plc; split <;> omega
        have HPL : Hid (plc c p k = if ¬ p = -1 ∧ p ≤ k then (k : Int) + (8 - c) else k) := rfl
        have KP := fun w => aput_any (sixW f c p k) (plc c p k) 16 (f k) w f0 (by omega) hpl.1 hpl.2 (by omega) (by omega)
        generalize sixW f c p k = x at *
        generalize plc c p k = pl at *
        generalize f k = v at *
        clear h1 hf
        by_cases hp1 : p = -1
        · have hpk : pl = k := by rw [HPL.out, if_neg (by simp [hp1])]
          subst hpk
          have hne : (p != -1) = false := by simp [hp1]
          clear HPL hp1
          go_wp2_with fail
          refine (KP _).mono ?_
          rintro e w2 ⟨rfl, hb2⟩
          clear KP
          have hA2 := (hA.below hb2).set (layW x (k : Int) 16 v)
          have hZ2 := (hZ.below hb2).other (.int .u64 (hI (layW x (k : Int) 16 v))) (.int .u64 (lI (layW x (k : Int) 16 v))) (C := w.heap.size + 1) (by omega)
          have hG2 := (hG.below hb2).other (C := w.heap.size + 1) (by omega) (.int .u64 (hI (layW x (k : Int) 16 v))) (.int .u64 (lI (layW x (k : Int) 16 v)))
          have hB2 := bset2 (keepb hb2 hB) (C := w.heap.size + 1) (by omega) (.int .u64 (hI (layW x (k : Int) 16 v))) (.int .u64 (lI (layW x (k : Int) 16 v)))
          obtain ⟨b0, b1, b2, b3, b4⟩ := hA.below hb2
          clear hA hZ hB hG hb2 a0 a1 a2 a3 a4 h2 h3 h4 h5 l1 l2
          go_wp2
          go_roundw
          case rel => exact ⟨k + 1, by omega, by go_num, by rw [HW.out]; exact hA2, hZ2, hG2, hB2⟩
          case measure => simp [intOf]; omega
        · have hne : (p != -1) = true := by simp [hp1]
          by_cases hpk : p ≤ k
          · have hpk' : pl = (k : Int) + (8 - c) := by rw [HPL.out, if_pos ⟨hp1, hpk⟩]
            subst hpk'
            clear HPL hp1
            go_wp2_with fail
            refine (KP _).mono ?_
            rintro e w2 ⟨rfl, hb2⟩
            clear KP
            have hA2 := (hA.below hb2).set (layW x ((k : Int) + (8 - c)) 16 v)
            have hZ2 := (hZ.below hb2).other (.int .u64 (hI (layW x ((k : Int) + (8 - c)) 16 v))) (.int .u64 (lI (layW x ((k : Int) + (8 - c)) 16 v))) (C := w.heap.size + 1) (by omega)
            have hG2 := (hG.below hb2).other (C := w.heap.size + 1) (by omega) (.int .u64 (hI (layW x ((k : Int) + (8 - c)) 16 v))) (.int .u64 (lI (layW x ((k : Int) + (8 - c)) 16 v)))
            have hB2 := bset2 (keepb hb2 hB) (C := w.heap.size + 1) (by omega) (.int .u64 (hI (layW x ((k : Int) + (8 - c)) 16 v))) (.int .u64 (lI (layW x ((k : Int) + (8 - c)) 16 v)))
            obtain ⟨b0, b1, b2, b3, b4⟩ := hA.below hb2
            clear hA hZ hB hG hb2 a0 a1 a2 a3 a4 h2 h3 h4 h5 l1 l2
            go_wp2
            go_roundw
            case rel => exact ⟨k + 1, by omega, by go_num, by rw [HW.out]; exact hA2, hZ2, hG2, hB2⟩
            case measure => simp [intOf]; omega
          · have hpk' : pl = k := by rw [HPL.out, if_neg (by simp [hpk])]
            subst hpk'
            clear HPL hp1
            go_wp2_with fail
            refine (KP _).mono ?_
            rintro e w2 ⟨rfl, hb2⟩
            clear KP
            have hA2 := (hA.below hb2).set (layW x (k : Int) 16 v)
            have hZ2 := (hZ.below hb2).other (.int .u64 (hI (layW x (k : Int) 16 v))) (.int .u64 (lI (layW x (k : Int) 16 v))) (C := w.heap.size + 1) (by omega)
            have hG2 := (hG.below hb2).other (C := w.heap.size + 1) (by omega) (.int .u64 (hI (layW x (k : Int) 16 v))) (.int .u64 (lI (layW x (k : Int) 16 v)))
            have hB2 := bset2 (keepb hb2 hB) (C := w.heap.size + 1) (by omega) (.int .u64 (hI (layW x (k : Int) 16 v))) (.int .u64 (lI (layW x (k : Int) 16 v)))
            obtain ⟨b0, b1, b2, b3, b4⟩ := hA.below hb2
            clear hA hZ hB hG hb2 a0 a1 a2 a3 a4 h2 h3 h4 h5 l1 l2
            go_wp2
            go_roundw
            case rel => exact ⟨k + 1, by omega, by go_num, by rw [HW.out]; exact hA2, hZ2, hG2, hB2⟩
            case measure => simp [intOf]; omega
      · have hkc : k = c := by omega
        subst hkc
        obtain ⟨a0, a1, a2, a3, a4⟩ := hA
        obtain ⟨z0, z1, z2, z3, z4⟩ := hZ
        clear h1 hf hG
        go_wp2
        exact bodyPost_ret (v := .tuple #[.agg #[.int .u64 (hI (sixW f k p k)), .int .u64 (lI (sixW f k p k))], .bool true]) (by simp [results, Tryz.results131, go_sem, *]) rfl ⟨by rw [HF.out.1, HF.out.2], bset2 hB (Nat.le_refl _) _ _⟩
  · have HF : Hid (finV f c p = 0#128 ∧ finB c p = false) := by
      show _ ∧ _
      unfold finV finB; rw [if_neg hq]; exact ⟨rfl, by simp only [decide_eq_false_iff_not]; exact hq⟩
    have hq2 : ((p == -1) == ((c : Int) == 8)) = false := by
      by_cases hp1 : p = -1
      · have h8 : ¬ c = 8 := fun e => hq (by simp [hp1, e])
        have e1 : (p == -1) = true := by simp [hp1]
        have e2 : ((c : Int) == 8) = false := by simp; omega
        rw [e1, e2]; rfl
      · have h8 : c = 8 := by
          apply Classical.byContradiction; intro e; exact hq (by simp [hp1, e])
        have e1 : (p == -1) = false := by simp [hp1]
        have e2 : ((c : Int) == 8) = true := by simp; omega
        rw [e1, e2]; rfl
    clear hq h1 hf
    go_enter Tryz.func131, Tryz.ntmps131
    go_wp2
    go_region
    go_wp2
    exact bodyPost_ret (v := .tuple #[.agg #[.int .u64 0, .int .u64 0], .bool false]) (by simp [results, Tryz.results131, go_sem, *]) rfl ⟨by rw [HF.out.1, HF.out.2, hI_zero, lI_zero], (bl1 w _).drew⟩
end Go.Proofs.YtpiicdpipjjenaaGreatDoor
namespace Go.Proofs.YtpiicdpipjjenaaGreatDoor
open Go.RowKit
set_option linter.unusedSimpArgs false
set_option linter.unusedVariables false

def quadA (s : ByteArray) : Int := lI ((fourV s <<< (16 * (0 : Int)).toNat) >>> (128 - (16 : Int)).toNat)
def quadB (s : ByteArray) : Int := lI ((fourV s <<< (16 * (1 : Int)).toNat) >>> (128 - (16 : Int)).toNat)
theorem part16_bd (x : BitVec 128) (i : Int) : 0 ≤ lI ((x <<< (16 * i).toNat) >>> (128 - (16 : Int)).toNat) ∧ lI ((x <<< (16 * i).toNat) >>> (128 - (16 : Int)).toNat) ≤ 65535 := by
  generalize x <<< (16 * i).toNat = y
  refine ⟨lI_lo _, ?_⟩
  unfold lI lv
  rw [BitVec.extractLsb'_toNat]
  have : (y >>> (128 - (16 : Int)).toNat).toNat < 65536 := by
    rw [BitVec.toNat_ushiftRight, show (128 - (16 : Int)).toNat = 112 from rfl, Nat.shiftRight_eq_div_pow]
    have := y.isLt
    omega
  rw [Nat.shiftRight_zero, Nat.mod_eq_of_lt (by omega)]
  omega
theorem quadA_bd (s : ByteArray) : 0 ≤ quadA s ∧ quadA s ≤ 65535 := part16_bd _ _
theorem quadB_bd (s : ByteArray) : 0 ≤ quadB s ∧ quadB s ≤ 65535 := part16_bd _ _

theorem partA (s : ByteArray) (w : World) :
    Calls Tryz.prog 87 #[.agg #[.int .u64 (hI (fourV s)), .int .u64 (lI (fourV s))], .int .i64 0, .int .i64 16] w fun e w' => e = .returned (.int .u64 (quadA s)) ∧ Below w.heap.size w w' :=
  part_any (fourV s) 0 16 w (by omega) (by omega) (by omega) (by omega)
theorem partB (s : ByteArray) (w : World) :
    Calls Tryz.prog 87 #[.agg #[.int .u64 (hI (fourV s)), .int .u64 (lI (fourV s))], .int .i64 1, .int .i64 16] w fun e w' => e = .returned (.int .u64 (quadB s)) ∧ Below w.heap.size w w' :=
  part_any (fourV s) 1 16 w (by omega) (by omega) (by omega) (by omega)

set_option maxHeartbeats 2000000 in
theorem addFour_no (B : Nat) (s : ByteArray) (w : World) (hs : s.size ≤ maxLen) (h : fourB s = false) (hB : B < w.heap.size) :
    Calls Tryz.prog 129 #[.pointer (some ⟨B, 0, none⟩), .string s] w fun e w' => e = .returned (.bool false) ∧ Below B w w' := by
  have KR := fun w => readFour_any s w hs
  rw [h] at KR
  generalize fourV s = x at *
  go_enter Tryz.func129, Tryz.ntmps129
  go_wp2_with fail
  refine (KR _).mono ?_
  rintro e w1 ⟨rfl, hb1⟩
  clear KR
  go_wp2
  go_ret
  exact ⟨rfl, (hb1.alloc hb1.size _).mono (by omega)⟩

set_option maxHeartbeats 2000000 in
theorem addFour_yes (B : Nat) (f : Nat → Int) (c : Nat) (p : Int) (s : ByteArray) (w : World) (hs : s.size ≤ maxLen) (h : fourB s = true) (hF : Fnd w B f c p) (hc : c ≤ 6) :
    Calls Tryz.prog 129 #[.pointer (some ⟨B, 0, none⟩), .string s] w fun e w' => e = .returned (.bool true) ∧ Fnd w' B (upd (upd f c (quadA s)) (c + 1) (quadB s)) (c + 2) p ∧ Below B w w' := by
  have KR := fun w => readFour_any s w hs
  have KA := partA s
  have KB := partB s
  rw [h] at KR
  generalize quadA s = qa at *
  generalize quadB s = qb at *
  generalize fourV s = x at *
  have hBw : B < w.heap.size := hF.2.2.2.2.2
  go_enter Tryz.func129, Tryz.ntmps129
  go_wp2_with fail
  refine (KR _).mono ?_
  rintro e w1 ⟨rfl, hb1⟩
  clear KR
  have hB1 := hb1.size
  have hF1 : Fnd (w1.alloc (.cells #[.int .u64 (hI x), .int .u64 (lI x)] 43)) B f c p := (hF.below hb1).below (bl1 _ _)
  have hX1 := at_new w1 w1.heap.size x 43 rfl
  have kB1 : Below B w (w1.alloc (.cells #[.int .u64 (hI x), .int .u64 (lI x)] 43)) := (hb1.mono (by omega)).alloc (by omega) _
  clear hF hb1
  obtain ⟨x0, x1, x2, x3, x4⟩ := id hX1
  go_wp2_with fail
  refine (KA _).mono ?_
  rintro e w2 ⟨rfl, hb2⟩
  clear KA
  have hF2 := hF1.below hb2
  have hX2 := hX1.below hb2
  have kB2 : Below B w w2 := kB1.trans (hb2.mono (by simp; omega))
  clear hF1 hX1 kB1 hb2 x0 x1 x2 x3 x4
  have hBw2 := kB2.size
  go_wp2_with fail
  refine (fadd_any B f c p qa w2 hF2 (by omega)).mono ?_
  rintro e w3 ⟨rfl, hF3, hb3, ho3⟩
  have hX3 := hX2.only ho3 (by omega)
  have kB3 : Below B w w3 := kB2.trans hb3
  have hz3 := ho3.1
  clear hF2 hX2 kB2 hb3 ho3
  obtain ⟨x0, x1, x2, x3, x4⟩ := id hX3
  go_wp2_with fail
  refine (KB _).mono ?_
  rintro e w4 ⟨rfl, hb4⟩
  clear KB
  have hF4 := hF3.below hb4
  have kB4 : Below B w w4 := kB3.trans (hb4.mono (by have := hF3.2.2.2.2.2; omega))
  clear hF3 hX3 kB3 hb4 x0 x1 x2 x3 x4 hz3
  go_wp2_with fail
  refine (fadd_any B (upd f c qa) (c + 1) p qb w4 hF4 (by omega)).mono ?_
  rintro e w5 ⟨rfl, hF5, hb5, ho5⟩
  have kB5 : Below B w w5 := kB4.trans hb5
  clear hF4 kB4 hb5 ho5
  go_wp2
  go_ret
  exact ⟨rfl, hF5, kB5⟩
set_option maxHeartbeats 2000000 in
theorem addFour_full (B : Nat) (f : Nat → Int) (c : Nat) (p : Int) (s : ByteArray) (w : World) (hs : s.size ≤ maxLen) (h : fourB s = true) (hF : Fnd w B f c p) (hc : c = 7 ∨ c = 8) :
    Calls Tryz.prog 129 #[.pointer (some ⟨B, 0, none⟩), .string s] w fun e w' => e = .returned (.bool false) ∧ Below B w w' := by
  have KR := fun w => readFour_any s w hs
  have KA := partA s
  have KB := partB s
  rw [h] at KR
  generalize quadA s = qa at *
  generalize quadB s = qb at *
  generalize fourV s = x at *
  have hBw : B < w.heap.size := hF.2.2.2.2.2
  go_enter Tryz.func129, Tryz.ntmps129
  go_wp2_with fail
  refine (KR _).mono ?_
  rintro e w1 ⟨rfl, hb1⟩
  clear KR
  have hB1 := hb1.size
  have hF1 : Fnd (w1.alloc (.cells #[.int .u64 (hI x), .int .u64 (lI x)] 43)) B f c p := (hF.below hb1).below (bl1 _ _)
  have hX1 := at_new w1 w1.heap.size x 43 rfl
  have kB1 : Below B w (w1.alloc (.cells #[.int .u64 (hI x), .int .u64 (lI x)] 43)) := (hb1.mono (by omega)).alloc (by omega) _
  clear hF hb1
  obtain ⟨x0, x1, x2, x3, x4⟩ := id hX1
  go_wp2_with fail
  refine (KA _).mono ?_
  rintro e w2 ⟨rfl, hb2⟩
  clear KA
  have hF2 := hF1.below hb2
  have hX2 := hX1.below hb2
  have kB2 : Below B w w2 := kB1.trans (hb2.mono (by simp; omega))
  clear hF1 hX1 kB1 hb2 x0 x1 x2 x3 x4
  have hBw2 := kB2.size
  rcases hc with rfl | rfl
  · go_wp2_with fail
    refine (fadd_any B f 7 p qa w2 hF2 (by omega)).mono ?_
    rintro e w3 ⟨rfl, hF3, hb3, ho3⟩
    have hX3 := hX2.only ho3 (by omega)
    have kB3 : Below B w w3 := kB2.trans hb3
    have hz3 := ho3.1
    clear hF2 hX2 kB2 hb3 ho3
    obtain ⟨x0, x1, x2, x3, x4⟩ := id hX3
    go_wp2_with fail
    refine (KB _).mono ?_
    rintro e w4 ⟨rfl, hb4⟩
    clear KB
    have hF4 := hF3.below hb4
    have kB4 : Below B w w4 := kB3.trans (hb4.mono (by have := hF3.2.2.2.2.2; omega))
    clear hF3 hX3 kB3 hb4 x0 x1 x2 x3 x4 hz3
    go_wp2_with fail
    refine (fadd_full B (upd f 7 qa) p qb w4 hF4).mono ?_
    rintro e w5 ⟨rfl, rfl⟩
    go_wp2
    go_ret
    exact ⟨rfl, kB4⟩
  · go_wp2_with fail
    refine (fadd_full B f p qa w2 hF2).mono ?_
    rintro e w3 ⟨rfl, rfl⟩
    go_wp2
    go_ret
    exact ⟨rfl, kB2⟩


def sixR (s : ByteArray) : Nat → Nat → (Nat → Int) → Nat → Int → BitVec 128 × Bool
  | 0, _, _, _, _ => (0#128, false)
  | n + 1, a, f, c, p =>
    if s.size ≤ a then (finV f c p, finB c p)
    else if byteAt s (a + (grpN (s.extract a s.size)).toNat) = 46 then (if fourB (s.extract a s.size) = true ∧ c ≤ 6 then (finV (upd (upd f c (quadA (s.extract a s.size))) (c + 1) (quadB (s.extract a s.size))) (c + 2) p, finB (c + 2) p) else (0#128, false))
    else if grpN (s.extract a s.size) = 0 ∨ c = 8 then (0#128, false)
    else if a + (grpN (s.extract a s.size)).toNat = s.size then (finV (upd f c (grpV (s.extract a s.size))) (c + 1) p, finB (c + 1) p)
    else if p = -1 ∧ byteAt s (a + (grpN (s.extract a s.size)).toNat) = 58 ∧ byteAt s (a + (grpN (s.extract a s.size)).toNat + 1) = 58 then sixR s n (a + (grpN (s.extract a s.size)).toNat + 2) (upd f c (grpV (s.extract a s.size))) (c + 1) ((c : Int) + 1)
    else if 1 < s.size - (a + (grpN (s.extract a s.size)).toNat) ∧ byteAt s (a + (grpN (s.extract a s.size)).toNat) = 58 then sixR s n (a + (grpN (s.extract a s.size)).toNat + 1) (upd f c (grpV (s.extract a s.size))) (c + 1) p
    else (0#128, false)
theorem sixR_succ (s : ByteArray) (n a : Nat) (f : Nat → Int) (c : Nat) (p : Int) : sixR s (n + 1) a f c p =
    if s.size ≤ a then (finV f c p, finB c p)
    else if byteAt s (a + (grpN (s.extract a s.size)).toNat) = 46 then (if fourB (s.extract a s.size) = true ∧ c ≤ 6 then (finV (upd (upd f c (quadA (s.extract a s.size))) (c + 1) (quadB (s.extract a s.size))) (c + 2) p, finB (c + 2) p) else (0#128, false))
    else if grpN (s.extract a s.size) = 0 ∨ c = 8 then (0#128, false)
    else if a + (grpN (s.extract a s.size)).toNat = s.size then (finV (upd f c (grpV (s.extract a s.size))) (c + 1) p, finB (c + 1) p)
    else if p = -1 ∧ byteAt s (a + (grpN (s.extract a s.size)).toNat) = 58 ∧ byteAt s (a + (grpN (s.extract a s.size)).toNat + 1) = 58 then sixR s n (a + (grpN (s.extract a s.size)).toNat + 2) (upd f c (grpV (s.extract a s.size))) (c + 1) ((c : Int) + 1)
    else if 1 < s.size - (a + (grpN (s.extract a s.size)).toNat) ∧ byteAt s (a + (grpN (s.extract a s.size)).toNat) = 58 then sixR s n (a + (grpN (s.extract a s.size)).toNat + 1) (upd f c (grpV (s.extract a s.size))) (c + 1) p
    else (0#128, false) := rfl
def six0 (s : ByteArray) : BitVec 128 × Bool := if byteAt s 0 = 58 ∧ byteAt s 1 = 58 then sixR s (s.size + 1) 2 (fun _ => 0) 0 0 else sixR s (s.size + 1) 0 (fun _ => 0) 0 (-1)

theorem grpR_bd (t : ByteArray) : ∀ f k v, k + f = 4 → k ≤ t.size → 0 ≤ v → v < 16 ^ k → 0 ≤ (grpR t f k v).1 ∧ (grpR t f k v).1 ≤ 65535 ∧ 0 ≤ (grpR t f k v).2 ∧ (grpR t f k v).2 ≤ t.size ∧ (grpR t f k v).2 ≤ 4 := by
  intro f
  induction f with
  | zero =>
    intro k v hk ht h0 h1
    have : k = 4 := by omega
    subst this
    refine ⟨h0, ?_, ?_, ?_, ?_⟩
    · show v ≤ 65535
      have : (16 : Int) ^ 4 = 65536 := by decide
      omega
    · show (0 : Int) ≤ ((4 : Nat) : Int); omega
    · show ((4 : Nat) : Int) ≤ _; omega
    · show ((4 : Nat) : Int) ≤ _; omega
  | succ f ih =>
    intro k v hk ht h0 h1
    have hd := hexV_bd (byteAt t k)
    have hpw : (16 : Int) ^ k ≤ 65536 := by
      rcases (by omega : k = 0 ∨ k = 1 ∨ k = 2 ∨ k = 3) with rfl | rfl | rfl | rfl <;> decide
    by_cases hc : k < t.size ∧ hexB (byteAt t k) = true
    · have e : grpR t (f + 1) k v = grpR t f (k + 1) (16 * v + hexV (byteAt t k)) := if_pos hc
      rw [e]
      exact ih (k + 1) _ (by omega) (by omega) (by omega) (by rw [Int.pow_succ]; omega)
    · have e : grpR t (f + 1) k v = (v, (k : Int)) := if_neg hc
      rw [e]
      refine ⟨h0, ?_, ?_, ?_, ?_⟩
      · show v ≤ 65535; omega
      · show (0 : Int) ≤ (k : Int); omega
      · show (k : Int) ≤ _; omega
      · show (k : Int) ≤ 4; omega
theorem grp_bd (t : ByteArray) : 0 ≤ grpV t ∧ grpV t ≤ 65535 ∧ 0 ≤ grpN t ∧ grpN t ≤ t.size := by
  have := grpR_bd t 4 0 0 (by omega) (by omega) (by omega) (by decide)
  unfold grpV grpN; omega

end Go.Proofs.YtpiicdpipjjenaaGreatDoor
