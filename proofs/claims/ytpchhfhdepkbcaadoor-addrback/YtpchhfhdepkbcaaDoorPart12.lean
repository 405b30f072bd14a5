/-
  Part 12 of the proof: 8 texts, one behind the other.
-/
import Derived.Test.YtpchhfhdepkbcaaDoorShelf
import Derived.Test.YtpchhfhdepkbcaaDoorPart11
import Derived.Test.YtpchhfhdepkbcaaDoorPart9
import Derived.Shelf.Strconv.AppendInt10
import Derived.Shelf.Strconv.Itoa3
import Derived.Test.YtpchhfhdepkbcaaDoorPart10
import Derived.Laws.IdiomStrings
import Derived.Test.YtpchhfhdepkbcaaDoorPart3
import Derived.Deep.AppendLies
import Derived.Deep.RegionHeld3
import Derived.Lib.AppendIntMem
import Derived.Test.YtpchhfhdepkbcaaDoorPart5
/-
  The library's number writing at base 10: the kit's contracts, at this program's numbers.
-/
namespace Go.Proofs.YtpchhfhdepkbcaaDoor
open Go.RowKit
set_option linter.unusedSimpArgs false
set_option linter.unusedVariables false

/-- The library's table of the powers of ten lies in its variable. -/
def Pow (w : World) : Prop := Lib.TabIs Tryd.prog w "internal/strconv.uint64pow10" .u64 Lib.pow10Tab
theorem Pow.keep {W w' : World} (h : Pow W) (hb : Below W.heap.size W w') : Pow w' := Lib.tabBelow_of_tabIs h w' hb
theorem Tryd.infoB8 : (Tryd.prog.info? 5).map (fun i => (i.zero, i.size, i.bytes)) = some (some (.int .u8 0), 1, 1) := by kernel_rfl

theorem iuint10 (B n u : Nat) (hu64 : u < 18446744073709551616) (sv : Value) (xs : List Value) (w : World) (hown : w.ownsRow B 5 1 sv n xs) (hBw : B ≤ w.heap.size) (hlim : n + 20 ≤ 140737488355328) (htab : Pow w) :
    Calls Tryd.prog 93 #[sv, .int .u64 u, .int .i64 10] w fun e w' => ∃ v', e = .returned v' ∧ w'.ownsRow B 5 1 v' (n + (Lib.decDigits u).length) (xs ++ Lib.byteCells (Lib.decDigits u)) ∧ Below B w w' :=
  (Any.internal_strconv_AppendUint_10 Tryd.laysM288 B n u hu64 sv xs w hown hBw hlim htab).mono fun e w' ⟨v', h1, h2, h3, h4⟩ => ⟨v', h1, h2, h3⟩
theorem auint10 (B n u : Nat) (hu64 : u < 18446744073709551616) (sv : Value) (xs : List Value) (w : World) (hown : w.ownsRow B 5 1 sv n xs) (hBw : B ≤ w.heap.size) (hlim : n + 20 ≤ 140737488355328) (htab : Pow w) :
    Calls Tryd.prog 72 #[sv, .int .u64 u, .int .i64 10] w fun e w' => ∃ v', e = .returned v' ∧ w'.ownsRow B 5 1 v' (n + (Lib.decDigits u).length) (xs ++ Lib.byteCells (Lib.decDigits u)) ∧ Below B w w' := by
  go_enter Tryd.func72, Tryd.ntmps72
  go_wp2_with fail
  refine (iuint10 B n u hu64 sv xs w hown hBw hlim htab).mono ?_
  rintro e w1 ⟨v1, rfl, ho, hb⟩
  go_wp2
  go_ret
  exact ⟨v1, rfl, ho, hb⟩
theorem itoa_any (n : Int) (h0 : -9223372036854775808 ≤ n) (h1 : n ≤ 9223372036854775807) (w : World) (htab : Pow w) :
    Calls Tryd.prog 88 #[.int .i64 n] w fun e w' => e = .returned (.string ⟨(Lib.itoa n).toArray⟩) ∧ Below w.heap.size w w' :=
  (Any.strconv_Itoa Tryd.laysM171 n h0 h1 w htab).mono fun e w' ⟨h, k, os, hw⟩ => ⟨h, by rw [hw]; exact Lib.below_grow _ _ (Nat.le_refl _) k os⟩

/-- The text of the first k numbers of an address of the family 32. -/
def fourL (x : BitVec 128) : Nat → List UInt8
  | 0 => []
  | k + 1 => (if k = 0 then [] else fourL x k ++ [46]) ++ decL (octN x k)
theorem decL_len3 (n : Nat) (h : n < 256) : (decL n).length ≤ 3 := by
  have := decL_lib_fin ⟨n, h⟩
  simp only at this
  rw [this]
  split
  · simp
  · split <;> simp
theorem fourL_len (x : BitVec 128) (k : Nat) : (fourL x k).length ≤ 4 * k := by
  induction k with
  | zero => simp [fourL]
  | succ k ih =>
    have := decL_len3 (octN x k) (by unfold octN; omega)
    unfold fourL
    rw [List.length_append]
    split
    · simp; omega
    · simp; omega
theorem fourL_text (x : BitVec 128) : (⟨(fourL x 4).toArray⟩ : ByteArray) = text4 x := by
  have e : text4 x = bL (decL (octN x 0) ++ [46] ++ decL (octN x 1) ++ [46] ++ decL (octN x 2) ++ [46] ++ decL (octN x 3)) := by
    unfold text4 dotS
    show (bL _) ++ (bL [46]) ++ (bL _) ++ (bL [46]) ++ (bL _) ++ (bL [46]) ++ (bL _) = _
    simp only [bL_cat]
  rw [e]
  show bL _ = bL _
  congr 1
theorem oct_part (x : BitVec 128) (k : Nat) (hk : k < 4) : lI ((x <<< (8 * (k : Int)).toNat) >>> 120) = ((octN x k : Nat) : Int) := by
  have e0 : (8 * (k : Int)).toNat = 8 * k := by omega
  rw [e0]
  unfold octN
  have h := hI_mk
  have hx : (hI x).toNat = x.toNat / 2 ^ 64 := by
    unfold hI hv
    simp [BitVec.extractLsb'_toNat, Nat.shiftRight_eq_div_pow]
    have := x.isLt
    omega
  have hl : ∀ y : BitVec 128, lI y = ((y.toNat % 2 ^ 64 : Nat) : Int) := fun y => by unfold lI lv; simp [BitVec.extractLsb'_toNat]
  rw [hl, hx, BitVec.toNat_ushiftRight, BitVec.toNat_shiftLeft, Nat.shiftRight_eq_div_pow, Nat.shiftLeft_eq]
  have := x.isLt
  congr 1
  rcases k with _ | _ | _ | _ | k
  · simp; omega
  · simp; omega
  · simp; omega
  · simp; omega
  · omega
end Go.Proofs.YtpchhfhdepkbcaaDoor
/-
  A text as bytes and back; how long the reference's texts are.
-/
namespace Go.Proofs.YtpchhfhdepkbcaaDoor
open Go.RowKit
set_option linter.unusedSimpArgs false
set_option linter.unusedVariables false

theorem sepS_size (S : ByteArray) : (sepS S).size ≤ S.size + 1 := by
  unfold sepS
  split
  · omega
  · rw [ByteArray.size_append]; exact Nat.le_refl _
theorem txG_size (G : Nat → Int) (a b : Nat) (hb : 1 ≤ b) (hab : a + b ≤ 8) (hG : ∀ k, k < 8 → 0 ≤ G k ∧ G k ≤ 65535) : ∀ f i (S : ByteArray), i ≤ 8 → 8 < i + f → S.size ≤ 5 * i → (i = 0 ∨ 1 ≤ S.size) → 1 ≤ (txG G a b f i S).size ∧ (txG G a b f i S).size ≤ 40 := by
  intro f
  induction f with
  | zero => intro i S h1 h2; omega
  | succ f ih =>
    intro i S hi hf hS h1
    show 1 ≤ (if _ then _ else _ : ByteArray).size ∧ (if _ then _ else _ : ByteArray).size ≤ 40
    split
    · omega
    · split
      · rename_i hg
        have hz : (S ++ ⟨#[58, 58]⟩ : ByteArray).size = S.size + 2 := by rw [ByteArray.size_append]; rfl
        exact ih (i + b) _ (by omega) (by omega) (by rw [hz]; omega) (Or.inr (by rw [hz]; omega))
      · have hg := hG i (by omega)
        have hl := hexL_len (G i).toNat (by omega)
        have hh : (⟨(hexL (G i).toNat).toArray⟩ : ByteArray).size = (hexL (G i).toNat).length := rfl
        have hz : (sepS S ++ ⟨(hexL (G i).toNat).toArray⟩ : ByteArray).size = (sepS S).size + (hexL (G i).toNat).length := by rw [ByteArray.size_append, hh]
        have := sepS_size S
        exact ih (i + 1) _ (by omega) (by omega) (by rw [hz]; omega) (Or.inr (by rw [hz]; omega))
theorem text6_size (x : BitVec 128) : 1 ≤ (text6 x).size ∧ (text6 x).size ≤ 40 := by
  have hb := bsG_bd (grpX x) 8 0 0 1 (by omega) (by omega) (by omega)
  exact txG_size (grpX x) _ _ hb.1 hb.2 (fun k hk => grpX_bd x k hk) 9 0 ⟨#[]⟩ (by omega) (by omega) (by decide) (Or.inl rfl)
theorem text4_size (x : BitVec 128) : 1 ≤ (text4 x).size ∧ (text4 x).size ≤ 100 := by
  have lt : ∀ k, octN x k < 256 := fun k => by unfold octN; omega
  have h0 := decL_bd (octN x 0) (by have := lt 0; omega)
  have h1 := decL_bd (octN x 1) (by have := lt 1; omega)
  have h2 := decL_bd (octN x 2) (by have := lt 2; omega)
  have h3 := decL_bd (octN x 3) (by have := lt 3; omega)
  unfold text4 dotS
  simp only [ByteArray.size_append]
  have e : ∀ l : List UInt8, (⟨l.toArray⟩ : ByteArray).size = l.length := fun _ => rfl
  have e1 : (⟨#[46]⟩ : ByteArray).size = 1 := rfl
  simp only [e]
  have e2 : (⟨#[46]⟩ : ByteArray).size = 1 := rfl
  have e3 : [(46 : UInt8)].length = 1 := rfl
  omega
def text2 (F : Int) (x : BitVec 128) : ByteArray := if rightE F x = 0 then (if F = 32 then text4 x else text6 x) else ⟨#[]⟩
theorem text2_size (F : Int) (x : BitVec 128) (h : rightE F x = 0) : 1 ≤ (text2 F x).size ∧ (text2 F x).size ≤ 100 := by
  unfold text2
  rw [if_pos h]
  split
  · exact text4_size x
  · have := text6_size x; omega
theorem rtext2_any (F : Int) (x : BitVec 128) (w : World) :
    Calls Tryd.prog 10 #[.int .i64 F, .agg #[.int .u64 (hI x), .int .u64 (lI x)]] w fun e w' => e = .returned (.tuple #[.string (text2 F x), .int .i64 (rightE F x)]) ∧ Below w.heap.size w w' := by
  unfold text2
  by_cases h : rightE F x = 0
  · have hf := (right0 F x h).1
    rw [if_pos h]
    rcases fam_ways F hf with rfl | rfl
    · rw [if_pos rfl, h]; exact rtext_four x w h
    · rw [if_neg (by decide), h]; exact rtext_six x w h
  · rw [if_neg h]; exact rtext_err F x w h

/-- '[]byte(s)'. -/
theorem str_bytes (s : ByteArray) (w : World) : ∃ cap W, (convert 9 83 (.string s)).run Tryd.prog w = .ok (.slice (some ⟨w.heap.size, 0, none⟩) s.size cap) W ∧ (∀ j, j < s.size → W.cell? ⟨w.heap.size, j, none⟩ = some (.int .u8 (byteAt s j)) ∧ W.frozen? ⟨w.heap.size, j, none⟩ = false) ∧ Below w.heap.size w W ∧ w.heap.size < W.heap.size := by
  refine ⟨_, _, run_bytes_of_string (P := Tryd.prog) w 9 83 5 s Tryd.underlying9 Tryd.underlying83 Tryd.underlying5, ?_, ?_, ?_⟩
  · intro j hj
    have hj' : j < s.data.size := hj
    have hb := bytesRow_at s (grownCap w s.size 0 5) j hj'
    have hbd : (s.data[j].toNat : Int) = byteAt s j := by
      have := byteAt_in s j hj
      exact this
    rw [hbd] at hb
    have hlt : j < (bytesRow s (grownCap w s.size 0 5)).size := by
      have := (Array.getElem?_eq_some_iff.mp hb).1
      exact this
    have hh := heap_alloc_new w.drew (.cells (bytesRow s (grownCap w s.size 0 5)) 5 ((bytesRow s (grownCap w s.size 0 5)).size, (bytesRow s (grownCap w s.size 0 5)).size + 1))
    have hh' : (w.drew.alloc (.cells (bytesRow s (grownCap w s.size 0 5)) 5 ((bytesRow s (grownCap w s.size 0 5)).size, (bytesRow s (grownCap w s.size 0 5)).size + 1))).heap[w.heap.size]? = some (.cells (bytesRow s (grownCap w s.size 0 5)) 5 ((bytesRow s (grownCap w s.size 0 5)).size, (bytesRow s (grownCap w s.size 0 5)).size + 1)) := hh
    refine ⟨?_, ?_⟩
    · unfold World.cell?
      rw [hh']
      exact hb
    · unfold World.frozen?
      rw [hh']
      simp; omega
  · exact (Below.refl _ _).drew.alloc (Nat.le_refl _) _
  · simp
end Go.Proofs.YtpchhfhdepkbcaaDoor
/-
  What a call of package word's Text does.
-/
namespace Go.Proofs.YtpchhfhdepkbcaaDoor
open Go.RowKit
set_option linter.unusedSimpArgs false
set_option linter.unusedVariables false

/-- The number of the digit at place k, and its sign. -/
def nib (x : BitVec 128) (k : Nat) : Nat := (lv (x >>> (124 - 4 * k))).toNat % 16
def chN (d : Nat) : Nat := if d < 10 then 48 + d else 87 + d
theorem nib_lt (x : BitVec 128) (k : Nat) : nib x k < 16 := Nat.mod_lt _ (by decide)
theorem and15 (x : BitVec 128) (k : Nat) : bits .and .u64 (lI (x >>> (124 - 4 * k))) 15 = ((nib x k : Nat) : Int) := by
  unfold lI nib
  have h : bits .and .u64 ((lv (x >>> (124 - 4 * k))).toNat : Int) 15 = (((lv (x >>> (124 - 4 * k))).toNat &&& 15 : Nat) : Int) := bits_and_u64_nat _ 15 (BitVec.isLt _) (by decide)
  rw [h]
  congr 1
  exact Nat.and_two_pow_sub_one_eq_mod _ 4
theorem dig_tab (d : Nat) (h : d < 16) : ((⟨#[48, 49, 50, 51, 52, 53, 54, 55, 56, 57, 97, 98, 99, 100, 101, 102]⟩ : ByteArray)[d]'h).toNat = chN d := by
  have all : ∀ j : Fin 16, ((⟨#[48, 49, 50, 51, 52, 53, 54, 55, 56, 57, 97, 98, 99, 100, 101, 102]⟩ : ByteArray)[j.val]'j.isLt).toNat = chN j.val := by decide
  exact all ⟨d, h⟩

theorem new_cell (W : World) (o : Obj) (cs : Array Value) (t : TypeId) (j : Nat) : ((W.alloc o).alloc (.cells cs t)).cell? ⟨W.heap.size + 1, j, none⟩ = cs[j]? := by
  have h : ((W.alloc o).alloc (.cells cs t)).heap[W.heap.size + 1]? = some (.cells cs t) := by
    show ((W.heap.push o).push (.cells cs t))[W.heap.size + 1]? = _
    rw [Array.getElem?_push, if_pos (by simp)]
  unfold World.cell?
  rw [h]
  simp
theorem new_frozen (W : World) (o : Obj) (cs : Array Value) (t : TypeId) (j : Nat) : ((W.alloc o).alloc (.cells cs t)).frozen? ⟨W.heap.size + 1, j, none⟩ = false := by
  simp [go_sem]

theorem set_same {W : World} {B k : Nat} {u v : Value} (h : W.cell? ⟨B, k, none⟩ = some u) : (W.setCell ⟨B, k, none⟩ v).cell? ⟨B, k, none⟩ = some v := by
  simp [go_sem, h]
theorem set_other {W : World} {B k j : Nat} {v : Value} (h : ¬ k = j) : (W.setCell ⟨B, k, none⟩ v).cell? ⟨B, j, none⟩ = W.cell? ⟨B, j, none⟩ := by
  simp [go_sem, h]
/-- The text of a word, as bytes. -/
def txtL (x : BitVec 128) : List Int := (List.range 32).map fun j => (chN (nib x j) : Int)
def txtW (x : BitVec 128) : ByteArray := (txtL x).foldl (fun r n => r.push (UInt8.ofNat n.toNat)) ByteArray.empty
theorem txt_conv (x : BitVec 128) (w : World) (B : Nat) (hc : ∀ j, j < 32 → w.cell? ⟨B, j, none⟩ = some (.int .u8 (chN (nib x j) : Int))) :
    (convert 83 9 (.slice (some ⟨B, 0, none⟩) 32 32)).run Tryd.prog w = .ok (.string (txtW x)) w := by
  rw [run_convert_bytes_string w 83 9 5 _ _ _ Tryd.underlying83 Tryd.underlying5 Tryd.underlying9]
  refine run_bytesToString w ⟨B, 0, none⟩ 32 32 (txtL x) ?_
  have h := run_loadCells_list (P := Tryd.prog) (w := w) ⟨B, 0, none⟩ ((txtL x).map (Value.int .u8)) (by
    intro j v hv
    unfold txtL at hv
    simp only [List.map_map, List.getElem?_map] at hv
    by_cases hj : j < 32
    · have e : (List.range 32)[j]? = some j := by simp [hj]
      rw [e] at hv
      simp at hv
      have := hc j hj
      have ea : (⟨B, 0, none⟩ : Addr).add j = ⟨B, j, none⟩ := by cases j <;> simp [Addr.add]
      rw [ea, this, ← hv]
    · have e : (List.range 32)[j]? = none := by simp; omega
      rw [e] at hv; cases hv)
  have hl : ((txtL x).map (Value.int .u8)).length = 32 := by unfold txtL; simp
  rw [hl] at h
  exact h

end Go.Proofs.YtpchhfhdepkbcaaDoor
/-
  What a call of the reference's Text does.
-/
namespace Go.Proofs.YtpchhfhdepkbcaaDoor
open Go.RowKit
set_option linter.unusedSimpArgs false
set_option linter.unusedVariables false

theorem bit_div (x : BitVec 128) (i : Int) (d : Nat) (h : i = 127 - (d : Int)) (hd : d ≤ 127) : bitZ x i = ((x.toNat / 2 ^ d % 2 : Nat) : Int) := by
  unfold bitZ
  rw [bitB_in x i (by omega) (by omega), show (127 - i).toNat = d from by omega]
  unfold BitVec.getLsbD
  rw [Nat.testBit_eq_decide_div_mod_eq]
  have : x.toNat / 2 ^ d % 2 = 0 ∨ x.toNat / 2 ^ d % 2 = 1 := by omega
  rcases this with e | e <;> simp [e]
theorem nib_div (x : BitVec 128) (k : Nat) : nib x k = x.toNat / 2 ^ (124 - 4 * k) % 16 := by
  unfold nib
  rw [lvN, BitVec.toNat_ushiftRight, Nat.shiftRight_eq_div_pow]
  omega
theorem nib_bits (x : BitVec 128) (k : Nat) (h : k < 32) : 8 * bitZ x (4 * (k : Int)) + 4 * bitZ x (4 * (k : Int) + 1) + 2 * bitZ x (4 * (k : Int) + 2) + bitZ x (4 * (k : Int) + 3) = ((nib x k : Nat) : Int) := by
  rw [bit_div x (4 * (k : Int)) (124 - 4 * k + 3) (by omega) (by omega), bit_div x (4 * (k : Int) + 1) (124 - 4 * k + 2) (by omega) (by omega), bit_div x (4 * (k : Int) + 2) (124 - 4 * k + 1) (by omega) (by omega), bit_div x (4 * (k : Int) + 3) (124 - 4 * k) (by omega) (by omega), nib_div]
  rw [Nat.pow_add, Nat.pow_add, Nat.pow_add, ← Nat.div_div_eq_div_mul, ← Nat.div_div_eq_div_mul, ← Nat.div_div_eq_div_mul]
  generalize x.toNat / 2 ^ (124 - 4 * k) = m
  omega

/-- The first k signs, as cells. -/
def cellsT (x : BitVec 128) (k : Nat) : List Value := (List.range k).map fun j => Value.int .u8 (chN (nib x j) : Int)
theorem cellsT_succ (x : BitVec 128) (k : Nat) : cellsT x (k + 1) = cellsT x k ++ [Value.int .u8 (chN (nib x k) : Int)] := by
  unfold cellsT; rw [List.range_succ]; simp
theorem cellsT_get (x : BitVec 128) (k j : Nat) (h : j < k) : (cellsT x k)[j]? = some (.int .u8 (chN (nib x j) : Int)) := by
  unfold cellsT
  simp [h]

theorem own_below {base e size n : Nat} {v : Value} {xs : List Value} {W w' : World} (hb : Below W.heap.size W w') (h : W.ownsRow base e size v n xs) : w'.ownsRow base e size v n xs := by
  refine h.kept (row := none) ⟨hb.os, hb.tape, hb.output, hb.size, fun k hk _ => hb.block k hk⟩ ?_
  cases v.ownBlock with
  | none => exact Or.inl rfl
  | some a => exact Or.inr (by simp)

theorem txt_convR (x : BitVec 128) (w : World) (B c : Nat) (hc : ∀ j, j < 32 → w.cell? ⟨B, j, none⟩ = some (.int .u8 (chN (nib x j) : Int))) :
    (convert 83 9 (.slice (some ⟨B, 0, none⟩) 32 c)).run Tryd.prog w = .ok (.string (txtW x)) w := by
  rw [run_convert_bytes_string w 83 9 5 _ _ _ Tryd.underlying83 Tryd.underlying5 Tryd.underlying9]
  refine run_bytesToString w ⟨B, 0, none⟩ 32 c (txtL x) ?_
  have h := run_loadCells_list (P := Tryd.prog) (w := w) ⟨B, 0, none⟩ ((txtL x).map (Value.int .u8)) (by
    intro j v hv
    unfold txtL at hv
    simp only [List.map_map, List.getElem?_map] at hv
    by_cases hj : j < 32
    · have e : (List.range 32)[j]? = some j := by simp [hj]
      rw [e] at hv
      simp at hv
      have := hc j hj
      have ea : (⟨B, 0, none⟩ : Addr).add j = ⟨B, j, none⟩ := by cases j <;> simp [Addr.add]
      rw [ea, this, ← hv]
    · have e : (List.range 32)[j]? = none := by simp; omega
      rw [e] at hv; cases hv)
  have hl : ((txtL x).map (Value.int .u8)).length = 32 := by unfold txtL; simp
  rw [hl] at h
  exact h

theorem app_keep {w W w1 : World} {x : BitVec 128} {e size n : Nat} {v : Value} {xs : List Value} (o : W.ownsRow (w.heap.size + 1) e size v n xs) (g : W.grownBy w1 v.ownBlock)
    (k1 : W.cell? ⟨w.heap.size, 0, none⟩ = some (.int .u64 (hI x))) (k2 : W.cell? ⟨w.heap.size, 1, none⟩ = some (.int .u64 (lI x))) (k9 : Below w.heap.size w W) :
    w1.cell? ⟨w.heap.size, 0, none⟩ = some (.int .u64 (hI x)) ∧ w1.cell? ⟨w.heap.size, 1, none⟩ = some (.int .u64 (lI x)) ∧ Below w.heap.size w w1 := by
  have hne : some w.heap.size ≠ v.ownBlock := by
    intro h
    have := (o.lt _ h.symm).1
    omega
  refine ⟨g.cell k1 hne, g.cell k2 hne, k9.grown g k9.size ?_⟩
  intro j hj
  have := (o.lt _ hj).1
  omega
theorem al_keep {w W : World} {x : BitVec 128} (o : Obj)
    (k1 : W.cell? ⟨w.heap.size, 0, none⟩ = some (.int .u64 (hI x))) (k2 : W.cell? ⟨w.heap.size, 1, none⟩ = some (.int .u64 (lI x))) (k9 : Below w.heap.size w W) :
    (W.alloc o).cell? ⟨w.heap.size, 0, none⟩ = some (.int .u64 (hI x)) ∧ (W.alloc o).cell? ⟨w.heap.size, 1, none⟩ = some (.int .u64 (lI x)) ∧ Below w.heap.size w (W.alloc o) :=
  ⟨keepc (bl1 W o) k1, keepc (bl1 W o) k2, keepb (bl1 W o) k9⟩
theorem Tryd.infoB : (Tryd.prog.info? 5).map (fun i => (i.zero, i.size, i.bytes)) = some (some (.int .u8 0), 1, 1) := by kernel_rfl
end Go.Proofs.YtpchhfhdepkbcaaDoor
/-
  What a call of the reference's Text does: the walk.
-/
namespace Go.Proofs.YtpchhfhdepkbcaaDoor
open Go.RowKit
set_option linter.unusedSimpArgs false
set_option linter.unusedVariables false

theorem own_belowH {base e size n : Nat} {v : Value} {xs : List Value} {W w' : World} (hb : Below W.heap.size W w') (h : Hid (W.ownsRow base e size v n xs)) : Hid (w'.ownsRow base e size v n xs) := own_below hb h.out

theorem news_al (W : World) (v : Value) (t : TypeId) : ∀ j u, [v][j]? = some u → (W.alloc (.cells #[v] t)).cell? ((⟨W.heap.size, 0, none⟩ : Addr).add j) = some u := by
  intro j u hj
  match j, hj with
  | 0, hj => simp at hj; subst hj; simp [Addr.add, go_sem]
theorem one_al (k : IntKind) (n : Int) : ∀ u ∈ [Value.int k n], u.oneCell' = true := by
  intro u hu; simp at hu; subst hu; rfl

end Go.Proofs.YtpchhfhdepkbcaaDoor
/-
  What the call of the library's formatBits does at base 16, of a number below 65536: its digits behind a row that the call owns.
-/
namespace Go.Proofs.YtpchhfhdepkbcaaDoor
open Go.RowKit
set_option linter.unusedSimpArgs false
set_option linter.unusedVariables false

theorem ispow_16 (w : World) : Calls Tryd.prog 111 #[.int .i64 16] w fun e w' => e = .returned (.bool true) ∧ w' = w := by
  go_enter Tryd.func111, Tryd.ntmps111
  go_wp2
  go_ret
  exact ⟨rfl, rfl⟩
theorem tz64_16 (w : World) (hT : Tab w) : Calls Tryd.prog 119 #[.int .u64 16] w fun e w' => e = .returned (.int .i64 4) ∧ w' = w := by
  have h := tz_any 16 w (by decide) (by decide) (by decide) hT
  rw [show Lib.ctz 64 (16 : Int).toNat = 4 by decide +kernel] at h
  exact h
theorem tzs_16 (w : World) (hT : Tab w) : Calls Tryd.prog 112 #[.int .u64 16] w fun e w' => e = .returned (.int .i64 4) ∧ w' = w := by
  go_enter Tryd.func112, Tryd.ntmps112
  go_wp2_with fail
  refine (tz64_16 _ hT).mono ?_
  rintro e w' ⟨rfl, rfl⟩
  go_wp2
  go_ret
  exact ⟨rfl, rfl⟩

def dig36 : ByteArray := ⟨#[48, 49, 50, 51, 52, 53, 54, 55, 56, 57, 97, 98, 99, 100, 101, 102, 103, 104, 105, 106, 107, 108, 109, 110, 111, 112, 113, 114, 115, 116, 117, 118, 119, 120, 121, 122]⟩
theorem dig36_at : ∀ d : Fin 16, byteAt dig36 d.val = ((hexD d.val).toNat : Int) := by decide +kernel
theorem dig36_tab (d : Nat) (h : d < 16) : ((⟨#[48, 49, 50, 51, 52, 53, 54, 55, 56, 57, 97, 98, 99, 100, 101, 102, 103, 104, 105, 106, 107, 108, 109, 110, 111, 112, 113, 114, 115, 116, 117, 118, 119, 120, 121, 122]⟩ : ByteArray)[d]'(Nat.lt_of_lt_of_le h (by decide))).toNat = (hexD d).toNat := by
  have all : ∀ j : Fin 16, ((⟨#[48, 49, 50, 51, 52, 53, 54, 55, 56, 57, 97, 98, 99, 100, 101, 102, 103, 104, 105, 106, 107, 108, 109, 110, 111, 112, 113, 114, 115, 116, 117, 118, 119, 120, 121, 122]⟩ : ByteArray)[j.val]'(Nat.lt_of_lt_of_le j.isLt (by decide))).toNat = (hexD j.val).toNat := by decide +kernel
  exact all ⟨d, h⟩
/-- The row of 65 bytes, new. -/
def zeros65 : Array Value := #[.int .u8 0, .int .u8 0, .int .u8 0, .int .u8 0, .int .u8 0, .int .u8 0, .int .u8 0, .int .u8 0, .int .u8 0, .int .u8 0, .int .u8 0, .int .u8 0, .int .u8 0, .int .u8 0, .int .u8 0, .int .u8 0, .int .u8 0, .int .u8 0, .int .u8 0, .int .u8 0, .int .u8 0, .int .u8 0, .int .u8 0, .int .u8 0, .int .u8 0, .int .u8 0, .int .u8 0, .int .u8 0, .int .u8 0, .int .u8 0, .int .u8 0, .int .u8 0, .int .u8 0, .int .u8 0, .int .u8 0, .int .u8 0, .int .u8 0, .int .u8 0, .int .u8 0, .int .u8 0, .int .u8 0, .int .u8 0, .int .u8 0, .int .u8 0, .int .u8 0, .int .u8 0, .int .u8 0, .int .u8 0, .int .u8 0, .int .u8 0, .int .u8 0, .int .u8 0, .int .u8 0, .int .u8 0, .int .u8 0, .int .u8 0, .int .u8 0, .int .u8 0, .int .u8 0, .int .u8 0, .int .u8 0, .int .u8 0, .int .u8 0, .int .u8 0, .int .u8 0]
theorem zeros65_rep : zeros65 = Array.replicate 65 (.int .u8 0) := by rfl
theorem zeros65_at (i : Nat) (h : i < 65) : zeros65[i]? = some (.int .u8 0) := by
  rw [zeros65_rep, Array.getElem?_replicate, if_pos h]
/-- The row of 65 bytes: its last bytes read as t, and all of it may be written. -/
def Buf (w : World) (C : Nat) (t : List UInt8) : Prop :=
  (∀ j, j < 65 → (∃ c : Int, w.cell? ⟨C, j, none⟩ = some (.int .u8 c)) ∧ w.frozen? ⟨C, j, none⟩ = false) ∧ t.length ≤ 65 ∧ ∀ j, j < t.length → w.cell? ⟨C, 65 - t.length + j, none⟩ = some (.int .u8 (t.getD j 0).toNat)
theorem Buf.new (w : World) (T : TypeId) : Buf (w.alloc (.cells zeros65 T)) w.heap.size [] := by
  refine ⟨fun j hj => ⟨⟨0, ?_⟩, World.frozen?_alloc_new _ _ _ _⟩, by decide, fun j hj => by cases hj⟩
  rw [World.cell?_alloc_new, zeros65_at _ hj]
theorem Buf.drew {w : World} {C : Nat} {t : List UInt8} (h : Buf w C t) : Buf w.drew C t := h
theorem Buf.store {w : World} {C m : Nat} {t : List UInt8} (h : Buf w C t) (d : UInt8) (z : Int) (hz : z = (d.toNat : Int)) (hm : m + 1 + t.length = 65) : Buf (w.setCell ⟨C, m, none⟩ (.int .u8 z)) C (d :: t) := by
  obtain ⟨h1, h2, h3⟩ := h
  subst hz
  refine ⟨fun j hj => ?_, by simp; omega, fun j hj => ?_⟩
  · obtain ⟨⟨c, q1⟩, q2⟩ := h1 j hj
    obtain ⟨⟨c', r1⟩, r2⟩ := h1 m (by omega)
    by_cases e : j = m
    · subst e
      refine ⟨⟨(d.toNat : Int), ?_⟩, ?_⟩
      · simp [go_sem, *]
      · simp [go_sem, *]
    · have e' : ¬ m = j := fun q => e q.symm
      refine ⟨⟨c, ?_⟩, ?_⟩
      · simp [go_sem, *]
      · simp [go_sem, *]
  · obtain ⟨⟨c', r1⟩, r2⟩ := h1 m (by omega)
    have el : (d :: t).length = t.length + 1 := rfl
    rw [el] at hj ⊢
    cases j with
    | zero =>
      have e : 65 - (t.length + 1) + 0 = m := by omega
      rw [e]
      simp [go_sem, *]
    | succ j =>
      have e : 65 - (t.length + 1) + (j + 1) = 65 - t.length + j := by omega
      have ne : ¬ 65 - t.length + j = m := by omega
      have ne' : ¬ m = 65 - t.length + j := by omega
      have h7 := h3 j (by omega)
      rw [e]
      have hd : (d :: t).getD (j + 1) 0 = t.getD j 0 := by simp [List.getD]
      rw [hd]
      rw [set_other ne', h7]

theorem Buf.src {w : World} {C k : Nat} {l : List UInt8} (h : Buf w C l) (hk : k + l.length = 65) : ∀ j u, (Lib.byteCells l)[j]? = some u → w.cell? ((⟨C, k, none⟩ : Addr).add j) = some u := by
  intro j u hj
  have hlt : j < l.length := by
    apply Classical.byContradiction
    intro c
    have : (Lib.byteCells l)[j]? = none := by simp [Lib.byteCells]; omega
    rw [this] at hj; cases hj
  have h3 := h.2.2 j hlt
  rw [show 65 - l.length + j = k + j by omega] at h3
  have ea : (⟨C, k, none⟩ : Addr).add j = ⟨C, k + j, none⟩ := by cases j <;> simp [Addr.add]
  rw [ea, h3, ← hj]
  simp [Lib.byteCells, List.getD, hlt]
theorem one_bytes (l : List UInt8) : ∀ u ∈ Lib.byteCells l, u.oneCell' = true := by
  intro u hu
  unfold Lib.byteCells at hu
  obtain ⟨b, -, rfl⟩ := List.mem_map.mp hu
  rfl
set_option maxHeartbeats 4000000 in
set_option maxRecDepth 20000 in
theorem fbits_16 (B n v : Nat) (sv : Value) (xs : List Value) (w : World) (hv : v < 65536) (hown : w.ownsRow B 5 1 sv n xs) (hBw : B ≤ w.heap.size) (hlim : n + 20 ≤ 140737488355328) (hT : Tab w) :
    Calls Tryd.prog 104 #[sv, .int .u64 v, .int .i64 16, .bool false, .bool true] w fun e w' => ∃ v', e = .returned (.tuple #[v', .string ⟨#[]⟩]) ∧ w'.ownsRow B 5 1 v' (n + (hexL v).length) (xs ++ Lib.byteCells (hexL v)) ∧ Below B w w' := by
  obtain ⟨i0, hi, hz0, hz1, hz2⟩ := info_parts Tryd.infoB8
  have hT1 : ∀ o, Tab (w.alloc o) := fun o => hT.keep (bl1 w o)
  clear hT
  go_enter Tryd.func104, Tryd.ntmps104
  go_wp2_with fail
  refine (ispow_16 _).mono ?_
  rintro e w' ⟨rfl, rfl⟩
  go_wp2_with fail
  refine (tzs_16 _ (hT1 _)).mono ?_
  rintro e w' ⟨rfl, rfl⟩
  clear hT1
  go_wp2
  have hB0 : Below w.heap.size w (w.alloc (.cells zeros65 123)) := bl1 _ _
  have hU0 := Buf.new w 123
  go_loopw [1, 13] (fun a b wr => ∃ (f m : Nat) (t : List UInt8), a = .int .u64 m ∧ b = .int .i64 (65 - (t.length : Int)) ∧ m < 65536 ∧ t.length + f ≤ 20 ∧ 1 ≤ f ∧ Hid (m < 16 ^ f) ∧ Hid (¬ m = 0 ∨ t = []) ∧ Hid (hexF f m t = hexL v) ∧ Buf wr w.heap.size t ∧ Below w.heap.size w wr) (fun a _ _ => (intOf a).toNat)
  case atStart => exact ⟨20, v, [], rfl, rfl, hv, by decide, by decide, by show _ < _; omega, Or.inr rfl, rfl, hU0, hB0⟩
  case round =>
    obtain ⟨f, m, t, rfl, rfl, hm, hf, hf1, HM, HZ, HX, hU, hB⟩ := hrel
    obtain ⟨g, rfl⟩ : ∃ g, f = g + 1 := ⟨f - 1, by omega⟩
    obtain ⟨k, hkn⟩ : ∃ k : Nat, k + 1 + t.length = 65 := ⟨64 - t.length, by omega⟩
    have hk : 65 - (t.length : Int) - 1 = (k : Int) := by omega
    have hk1 : (k : Int) < 65 := by omega
    obtain ⟨⟨c, q1⟩, q2⟩ := hU.1 k (by omega)
    by_cases h16 : (16 : Int) ≤ (m : Int)
    · have h16' : m % 16 < 16 := Nat.mod_lt _ (by decide)
      have hand : bits .and .u64 (m : Int) 15 = ((m % 16 : Nat) : Int) := by
        have := bits_and_u64_nat m 15 (by omega) (by decide)
        rw [show ((15 : Nat) : Int) = 15 from rfl] at this
        rw [this]
        congr 1
        exact Nat.and_two_pow_sub_one_eq_mod _ 4
      have HDV : Hid (((m / 16 : Nat) : Int) = (m : Int) / 16) := by show _ = _; omega
      have HX2 : Hid (hexF g (m / 16) (hexD (m % 16) :: t) = hexL v) := by
        show _ = _
        rw [← HX.out, hexF_go g m t HZ.out]
      have HM2 : Hid (m / 16 < 16 ^ g) := by
        show _ < _
        have := HM.out
        rw [Nat.pow_succ] at this
        omega
      have HZ2 : Hid (¬ m / 16 = 0 ∨ hexD (m % 16) :: t = []) := by
        left; omega
      have hg1 : 1 ≤ g := by
        have := HM2.out
        rcases g with _ | g
        · simp at this; omega
        · omega
      have HU2 := fun (z : Int) (hz : z = ((hexD (m % 16)).toNat : Int)) => hU.store (hexD (m % 16)) z hz hkn
      have HUH : Hid (∀ (z : Int) (hz : z = ((hexD (m % 16)).toNat : Int)), Buf (wr.setCell ⟨w.heap.size, k, none⟩ (.int .u8 z)) w.heap.size (hexD (m % 16) :: t)) := HU2
      have hd' : ((m % 16 : Nat) : Int) < 36 := by omega
      have HT : Hid (((⟨#[48, 49, 50, 51, 52, 53, 54, 55, 56, 57, 97, 98, 99, 100, 101, 102, 103, 104, 105, 106, 107, 108, 109, 110, 111, 112, 113, 114, 115, 116, 117, 118, 119, 120, 121, 122]⟩ : ByteArray)[m % 16]'(Nat.lt_of_lt_of_le h16' (by decide))).toNat = (hexD (m % 16)).toNat) := dig36_tab (m % 16) h16'
      clear HU2 hU HX HM HZ hB0 hU0 hkn hown hlim hi hz0 hz1 hz2 hBw hv
      generalize m % 16 = d at *
      go_wp2
      go_roundw
      case rel =>
        refine ⟨g, m / 16, hexD d :: t, by rw [HDV.out], by rw [show ((hexD d :: t).length : Int) = (t.length : Int) + 1 from by simp]; congr 1; omega, by omega, by simp; omega, hg1, HM2, HZ2, HX2, HUH.out _ (by rw [HT.out]), hB.setCell (Nat.le_refl _) _⟩
      case measure => simp [intOf]; omega
    · have hm' : m < 16 := by omega
      have HX2 : Hid (hexL v = hexD m :: t) := by
        show _ = _
        rw [← HX.out, hexF_last g m t HZ.out hm']
      have HT : Hid (((⟨#[48, 49, 50, 51, 52, 53, 54, 55, 56, 57, 97, 98, 99, 100, 101, 102, 103, 104, 105, 106, 107, 108, 109, 110, 111, 112, 113, 114, 115, 116, 117, 118, 119, 120, 121, 122]⟩ : ByteArray)[m]'(Nat.lt_of_lt_of_le hm' (by decide))).toNat = (hexD m).toNat) := dig36_tab m hm'
      have hd' : (m : Int) < 36 := by omega
      have HUH : Hid (∀ (z : Int) (hz : z = ((hexD m).toNat : Int)), Buf (wr.setCell ⟨w.heap.size, k, none⟩ (.int .u8 z)) w.heap.size (hexD m :: t)) := fun z hz => hU.store (hexD m) z hz hkn
      have HO : Hid (∀ z, (wr.setCell ⟨w.heap.size, k, none⟩ (.int .u8 z)).ownsRow B 5 1 sv n xs) := fun z => own_below (hB.setCell (Nat.le_refl _) _) hown
      have hk2 : (k : Int) ≤ 65 := by omega
      clear hU HX HM HZ hB0 hU0 hown
      have hlen : (hexD m :: t).length = 65 - k := by simp; omega
      have HLN : Hid ((Lib.byteCells (hexD m :: t)).length = (65 - k) * 1) := by show _ = _; simp [Lib.byteCells]; omega
      have HKL : Hid (k + (hexD m :: t).length = 65) := by show _ = _; simp; omega
      have h63 : n + (65 - k) ≤ maxLen := by unfold maxLen; omega
      have h47 : (n + (65 - k)) * 1 ≤ 140737488355328 := by omega
      have HL5 : Hid ((hexD m :: t).length = 65 - k) := hlen
      clear hlen
      go_wp2_with (at_builtin; refine wpList_append_own _ rfl _ _ 83 rfl B 5 i0 (.int .u8 0) 1 1 Tryd.underlying83 hi hz0 hz1 hz2 rfl (by decide) _ _ _ rfl (HO.out _) ⟨w.heap.size, k, none⟩ (65 - k) (65 - k) (Lib.byteCells (hexD m :: t)) rfl HLN.out (Buf.src (HUH.out _ (by rw [HT.out])) HKL.out) (one_bytes _) h63 h47 (by have := hB.size; simp; omega) ?_; intro v1 w1 hown1 hgrow1 _)
      have hb1 : Below B w w1 := ((hB.mono hBw).setCell hBw _).grown hgrow1 (by have := hB.size; simp; omega) (fun k hk => ((HO.out 0).lt k hk).1)
      have ho1 : w1.ownsRow B 5 1 v1 (n + (hexL v).length) (xs ++ Lib.byteCells (hexL v)) := by
        rw [HX2.out, HL5.out]; exact hown1
      go_wp2
      exact bodyPost_ret (v := .tuple #[v1, .string ⟨#[]⟩]) (by simp [results, Tryd.results104, go_sem]) rfl ⟨v1, rfl, ho1, hb1⟩
theorem iuint16 (B n u : Nat) (hu : u < 65536) (sv : Value) (xs : List Value) (w : World) (hown : w.ownsRow B 5 1 sv n xs) (hBw : B ≤ w.heap.size) (hlim : n + 20 ≤ 140737488355328) (hT : Tab w) :
    Calls Tryd.prog 93 #[sv, .int .u64 u, .int .i64 16] w fun e w' => ∃ v', e = .returned v' ∧ w'.ownsRow B 5 1 v' (n + (hexL u).length) (xs ++ Lib.byteCells (hexL u)) ∧ Below B w w' := by
  go_enter Tryd.func93, Tryd.ntmps93
  go_wp2_with fail
  refine (fbits_16 B n u sv xs w hu hown hBw hlim hT).mono ?_
  rintro e w1 ⟨v1, rfl, ho, hb⟩
  go_wp2
  go_ret
  exact ⟨v1, rfl, ho, hb⟩
theorem auint16 (B n u : Nat) (hu : u < 65536) (sv : Value) (xs : List Value) (w : World) (hown : w.ownsRow B 5 1 sv n xs) (hBw : B ≤ w.heap.size) (hlim : n + 20 ≤ 140737488355328) (hT : Tab w) :
    Calls Tryd.prog 72 #[sv, .int .u64 u, .int .i64 16] w fun e w' => ∃ v', e = .returned v' ∧ w'.ownsRow B 5 1 v' (n + (hexL u).length) (xs ++ Lib.byteCells (hexL u)) ∧ Below B w w' := by
  go_enter Tryd.func72, Tryd.ntmps72
  go_wp2_with fail
  refine (iuint16 B n u hu sv xs w hown hBw hlim hT).mono ?_
  rintro e w1 ⟨v1, rfl, ho, hb⟩
  go_wp2
  go_ret
  exact ⟨v1, rfl, ho, hb⟩
end Go.Proofs.YtpchhfhdepkbcaaDoor
/-
  What the call of turnpikeref2's Parse does, of the family 128.
-/
namespace Go.Proofs.YtpchhfhdepkbcaaDoor
open Go.RowKit
set_option linter.unusedSimpArgs false
set_option linter.unusedVariables false

theorem At.wset {w : World} {B : Nat} {y : BitVec 128} (h : At w B y) (z : BitVec 128) (he : hI y = hI z) : At (w.setCell ⟨B, 1, none⟩ (.int .u64 (lI z))) B z := by
  obtain ⟨h0, h1, h2, h3, h4⟩ := h
  refine ⟨?_, ?_, ?_, ?_, ?_⟩ <;> simp [go_sem, *]
theorem At.wother {w : World} {B C : Nat} {x : BitVec 128} (h : At w B x) (hn : ¬ C = B) (o : Nat) (v : Value) : At (w.setCell ⟨C, o, none⟩ v) B x := by
  obtain ⟨h0, h1, h2, h3, h4⟩ := h
  have hn' : ¬ B = C := fun e => hn e.symm
  refine ⟨?_, ?_, ?_, ?_, ?_⟩ <;> simp [go_sem, *]
theorem cell_wother {w : World} {b o C p : Nat} {u : Value} (h : w.cell? ⟨b, o, none⟩ = some u) (hn : ¬ C = b) (v : Value) : (w.setCell ⟨C, p, none⟩ v).cell? ⟨b, o, none⟩ = some u := by
  have hn' : ¬ b = C := fun e => hn e.symm
  simp [go_sem, *]

end Go.Proofs.YtpchhfhdepkbcaaDoor
/-
  'append(l, m...)' where both rows are the call's own.
-/
namespace Go.Proofs.YtpchhfhdepkbcaaDoor
open Go.RowKit
set_option linter.unusedSimpArgs false
set_option linter.unusedVariables false

theorem wpList_append_row {P : Program} {w : World} {ops : Array Oper} {rest : List Oper} {o : Oper} {a : Act} {Q : Exit → Act → World → Prop} (hgd : o.guard = none) (s x : Operand) (t : TypeId)
    (ho : o.op = .call { callee := .builtin .append, args := #[s, x], argTypes := #[t, t] })
    (base : Nat) (e : TypeId) (i : TypeInfo) (z : Value) (bytes : Nat) (ht : P.underlying t = some (.slice e)) (hi : P.info? e = some i) (hz : i.zero = some z)
    (hsize : i.size = 1) (hby : i.bytes = bytes) (hzs : z.cells.size = 1)
    (v : Value) (n : Nat) (xs : List Value) (hs : a.eval s = v) (hown : w.ownsRow base e 1 v n xs)
    (bs : Nat) (u : Value) (m : Nat) (ys : List Value) (hx : a.eval x = u) (hsrc : w.ownsRow bs e 1 u m ys) (h1 : ∀ y ∈ ys, y.oneCell' = true)
    (h63 : n + m ≤ maxLen) (hbytes : (n + m) * bytes ≤ 140737488355328) (hbase : base ≤ w.heap.size)
    (h : ∀ ao cap w', w'.ownsRow base e 1 (.slice ao (n + m) cap) (n + m) (xs ++ ys) → w.grownBy w' v.ownBlock → wpList P ops Q rest (a.put o.dst (.slice ao (n + m) cap)) w') : wpList P ops Q (o :: rest) a w := by
  have hlen := hsrc.1
  rcases hsrc.2 with ⟨hu, hm⟩ | ⟨g, cap, cur, hu, _⟩
  · refine wpList_append_own_none hgd s x t ho base e i 1 ht hi v n xs hs hown (by rw [hx, hu]) ?_
    have hy : ys = [] := by
      rw [hm] at hlen
      cases ys with
      | nil => rfl
      | cons => simp at hlen
    obtain ⟨ao, cp, hv⟩ := own_slice hown
    have := h ao cp w (by rw [hm, hy, List.append_nil, Nat.add_zero, ← hv]; exact hown) ⟨rfl, rfl, rfl, Nat.le_refl _, fun _ _ _ => rfl⟩
    rw [hm, Nat.add_zero, ← hv] at this
    exact this
  · have hc := hsrc.cells (g := g) (by rw [hu]; rfl)
    refine wpList_append_own w hgd s x t ho base e i z 1 bytes ht hi hz hsize hby hzs (by decide) v n xs hs hown ⟨g, 0, none⟩ m cap ys (by rw [hx, hu]) (by simpa using hlen) hc h1 h63 hbytes hbase ?_
    intro v' w' h2 h3 _
    obtain ⟨ao, cp, hv⟩ := own_slice h2
    rw [hv]
    rw [hv] at h2
    exact h ao cp w' h2 h3
theorem onesI (l : List Int) : ∀ y ∈ ints l, y.oneCell' = true := by
  intro y hy
  unfold ints at hy
  obtain ⟨n, -, rfl⟩ := List.mem_map.mp hy
  rfl
theorem gsG_len (last : Bool) : ∀ (l : List ByteArray) (acc xs : List Int), gsG last l acc = some xs → xs.length ≤ acc.length + l.length + 1 := by
  intro l
  induction l with
  | nil => intro acc xs e; simp [gsG] at e; subst e; simp
  | cons q l ih =>
    intro acc xs e
    unfold gsG at e
    split at e
    · injection e with e
      subst e; simp
    · split at e
      · cases e
      · have := ih _ _ e
        simp at this ⊢; omega
theorem gsO_len (t : ByteArray) (last : Bool) (xs : List Int) (e : gsO t last = some xs) : xs.length ≤ t.size + 2 := by
  unfold gsO at e
  split at e
  · injection e with e; subst e; simp
  · have h1 := gsG_len last _ [] xs e
    have h2 := (spl_len t 58 t.size 0 0).2
    simp at h1; omega
theorem gapG_bd (t : ByteArray) : ∀ f i, 0 ≤ gapG t f i → gapG t f i + 2 ≤ t.size := by
  intro f
  induction f with
  | zero => intro i h; exact absurd h (by show ¬ (0 : Int) ≤ -1; omega)
  | succ f ih =>
    intro i h
    by_cases h1 : i + 1 < t.size
    · by_cases h2 : byteAt t i = 58 ∧ byteAt t (i + 1) = 58
      · have e : gapG t (f + 1) i = (i : Int) := by
          show (if _ then _ else _) = _
          rw [if_pos h1, if_pos h2]
        rw [e]; omega
      · have e : gapG t (f + 1) i = gapG t f (i + 1) := by
          show (if _ then _ else _) = _
          rw [if_pos h1, if_neg h2]
        rw [e] at h ⊢
        exact ih _ h
    · have e : gapG t (f + 1) i = -1 := if_neg h1
      rw [e] at h; omega
theorem gapV_bd (t : ByteArray) (h : 0 ≤ gapV t) : gapV t + 2 ≤ t.size := gapG_bd t _ _ h
theorem own_apart {w w' : World} {b1 b2 e n m : Nat} {u v : Value} {xs ys : List Value} (hu : w.ownsRow b1 e 1 u n xs) (hub : ∀ k, u.ownBlock = some k → k < b2) (hv : w.ownsRow b2 e 1 v m ys) (hg : w.grownBy w' v.ownBlock) : w'.ownsRow b1 e 1 u n xs := by
  refine hu.kept hg ?_
  cases h : u.ownBlock with
  | none => exact Or.inl rfl
  | some k =>
    right
    intro q
    have := (hv.lt k q.symm).1
    have := hub k h
    omega
def sliceLen (v : Value) : Nat := match v with | .slice _ n _ => n | _ => 0
theorem At.grownBy {w w' : World} {B : Nat} {x : BitVec 128} {row : Option Nat} (h : At w B x) (hg : w.grownBy w' row) (hne : ¬ some B = row) : At w' B x := by
  obtain ⟨h0, h1, h2, h3, h4⟩ := h
  have hb := hg.block B h4 hne
  exact ⟨hg.cell h0 hne, hg.cell h1 hne, (World.frozen?_of_block (a := ⟨B, 0, none⟩) hb).trans h2, (World.frozen?_of_block (a := ⟨B, 1, none⟩) hb).trans h3, Nat.lt_of_lt_of_le h4 hg.size⟩
theorem rep_ints (A : List Int) (j : Nat) : ints (A ++ List.replicate (j + 1) 0) = ints (A ++ List.replicate j 0) ++ [Value.int .i64 0] := by
  unfold ints
  rw [List.replicate_succ', ← List.append_assoc, List.map_append (l₂ := [0])]
  rfl
end Go.Proofs.YtpchhfhdepkbcaaDoor
