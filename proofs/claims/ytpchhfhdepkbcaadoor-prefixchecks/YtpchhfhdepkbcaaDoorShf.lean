/-
  The library's number writing at base 10: the kit's contracts, at this program's numbers.
-/
import Derived.Test.YtpchhfhdepkbcaaDoorShelf
import Derived.Test.YtpchhfhdepkbcaaDoorTextP
import Derived.Test.YtpchhfhdepkbcaaDoorAdrP
import Derived.Shelf.Strconv.AppendInt10
import Derived.Shelf.Strconv.Itoa3
namespace Go.Proofs.YtpchhfhdepkbcaaDoor
open Go.RowKit
set_option linter.unusedSimpArgs false
set_option linter.unusedVariables false

/-- The library's table of the powers of ten lies in its variable. -/
def Pow (w : World) : Prop := Lib.TabIs Tryd.prog w "internal/strconv.uint64pow10" .u64 Lib.pow10Tab
theorem Pow.keep {W w' : World} (h : Pow W) (hb : Below W.heap.size W w') : Pow w' := Lib.tabBelow_of_tabIs h w' hb
theorem Tryd.infoB8 : (Tryd.prog.info? 5).map (fun i => (i.zero, i.size, i.bytes)) = some (some (.int .u8 0), 1, 1) := by kernel_rfl

theorem iuint10 (B n u : Nat) (hu64 : u < 18446744073709551616) (sv : Value) (xs : List Value) (w : World) (hown : w.ownsRow B 5 1 sv n xs) (hBw : B ≤ w.heap.size) (hlim : n + 20 ≤ 140737488355328) (htab : Pow w) :
    Calls Tryd.prog 93 #[sv, .int .u64 u, .int .i64 10] w fun e w' => ∃ v', e = .returned v' ∧ w'.ownsRow B 5 1 v' (n + (Lib.decDigits u).length) (xs ++ Lib.byteCells (Lib.decDigits u)) ∧ Below B w w' :=
  (Any.internal_strconv_AppendUint_10 Tryd.laysM288 B n u hu64 sv xs w hown hBw hlim htab).mono fun e w' ⟨v', h1, h2, h3, h4⟩ => ⟨v', h1, h2, h3⟩
theorem auint10 (B n u : Nat) (hu64 : u < 18446744073709551616) (sv : Value) (xs : List Value) (w : World) (hown : w.ownsRow B 5 1 sv n xs) (hBw : B ≤ w.heap.size) (hlim : n + 20 ≤ 140737488355328) (htab : Pow w) :
    Calls Tryd.prog 72 #[sv, .int .u64 u, .int .i64 10] w fun e w' => ∃ v', e = .returned v' ∧ w'.ownsRow B 5 1 v' (n + (Lib.decDigits u).length) (xs ++ Lib.byteCells (Lib.decDigits u)) ∧ Below B w w' := by
  go_enter Tryd.func72, Tryd.ntmps72
  go_wp2_with fail
  refine (iuint10 B n u hu64 sv xs w hown hBw hlim htab).mono ?_
  rintro e w1 ⟨v1, rfl, ho, hb⟩
  go_wp2
  go_ret
  exact ⟨v1, rfl, ho, hb⟩
theorem itoa_any (n : Int) (h0 : -9223372036854775808 ≤ n) (h1 : n ≤ 9223372036854775807) (w : World) (htab : Pow w) :
    Calls Tryd.prog 88 #[.int .i64 n] w fun e w' => e = .returned (.string ⟨(Lib.itoa n).toArray⟩) ∧ Below w.heap.size w w' :=
  (Any.strconv_Itoa Tryd.laysM171 n h0 h1 w htab).mono fun e w' ⟨h, k, os, hw⟩ => ⟨h, by rw [hw]; exact Lib.below_grow _ _ (Nat.le_refl _) k os⟩

/-- The text of the first k numbers of an address of the family 32. -/
def fourL (x : BitVec 128) : Nat → List UInt8
  | 0 => []
  | k + 1 => (if k = 0 then [] else fourL x k ++ [46]) ++ decL (octN x k)
theorem decL_len3 (n : Nat) (h : n < 256) : (decL n).length ≤ 3 := by
  have := decL_lib_fin ⟨n, h⟩
  simp only at this
  rw [this]
  split
  · simp
  · split <;> simp
theorem fourL_len (x : BitVec 128) (k : Nat) : (fourL x k).length ≤ 4 * k := by
  induction k with
  | zero => simp [fourL]
  | succ k ih =>
    have := decL_len3 (octN x k) (by unfold octN; omega)
    unfold fourL
    rw [List.length_append]
    split
    · simp; omega
    · simp; omega
theorem fourL_text (x : BitVec 128) : (⟨(fourL x 4).toArray⟩ : ByteArray) = text4 x := by
  have e : text4 x = bL (decL (octN x 0) ++ [46] ++ decL (octN x 1) ++ [46] ++ decL (octN x 2) ++ [46] ++ decL (octN x 3)) := by
    unfold text4 dotS
    show (bL _) ++ (bL [46]) ++ (bL _) ++ (bL [46]) ++ (bL _) ++ (bL [46]) ++ (bL _) = _
    simp only [bL_cat]
  rw [e]
  show bL _ = bL _
  congr 1
theorem oct_part (x : BitVec 128) (k : Nat) (hk : k < 4) : lI ((x <<< (8 * (k : Int)).toNat) >>> 120) = ((octN x k : Nat) : Int) := by
  have e0 : (8 * (k : Int)).toNat = 8 * k := by omega
  rw [e0]
  unfold octN
  have h := hI_mk
  have hx : (hI x).toNat = x.toNat / 2 ^ 64 := by
    unfold hI hv
    simp [BitVec.extractLsb'_toNat, Nat.shiftRight_eq_div_pow]
    have := x.isLt
    omega
  have hl : ∀ y : BitVec 128, lI y = ((y.toNat % 2 ^ 64 : Nat) : Int) := fun y => by unfold lI lv; simp [BitVec.extractLsb'_toNat]
  rw [hl, hx, BitVec.toNat_ushiftRight, BitVec.toNat_shiftLeft, Nat.shiftRight_eq_div_pow, Nat.shiftLeft_eq]
  have := x.isLt
  congr 1
  rcases k with _ | _ | _ | _ | k
  · simp; omega
  · simp; omega
  · simp; omega
  · simp; omega
  · omega
end Go.Proofs.YtpchhfhdepkbcaaDoor
