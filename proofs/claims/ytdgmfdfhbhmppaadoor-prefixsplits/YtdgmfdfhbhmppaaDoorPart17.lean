/-
  Part 17 of the proof: 8 texts, one behind the other.
-/
import Derived.Test.YtdgmfdfhbhmppaaDoorShelf
import Derived.Test.YtdgmfdfhbhmppaaDoorPart16
import Derived.Test.YtdgmfdfhbhmppaaDoorPart13
import Derived.Shelf.Strconv.AppendInt10
import Derived.Shelf.Strconv.Itoa3
import Derived.Test.YtdgmfdfhbhmppaaDoorPart4
import Derived.Deep.AppendLies
import Derived.Deep.RegionHeld3
import Derived.Test.YtdgmfdfhbhmppaaDoorPart14
import Derived.Lib.ItoaLen
/-
  The library's number writing at base 10: the kit's contracts, at this program's numbers.
-/
namespace Go.Proofs.YtdgmfdfhbhmppaaDoor
open Go.RowKit
set_option linter.unusedSimpArgs false
set_option linter.unusedVariables false

/-- The library's table of the powers of ten lies in its variable. -/
def Pow (w : World) : Prop := Lib.TabIs Tryd.prog w "internal/strconv.uint64pow10" .u64 Lib.pow10Tab
theorem Pow.keep {W w' : World} (h : Pow W) (hb : Below W.heap.size W w') : Pow w' := Lib.tabBelow_of_tabIs h w' hb
theorem Tryd.infoB8 : (Tryd.prog.info? 5).map (fun i => (i.zero, i.size, i.bytes)) = some (some (.int .u8 0), 1, 1) := by kernel_rfl

theorem iuint10 (B n u : Nat) (hu64 : u < 18446744073709551616) (sv : Value) (xs : List Value) (w : World) (hown : w.ownsRow B 5 1 sv n xs) (hBw : B ≤ w.heap.size) (hlim : n + 20 ≤ 140737488355328) (htab : Pow w) :
    Calls Tryd.prog 82 #[sv, .int .u64 u, .int .i64 10] w fun e w' => ∃ v', e = .returned v' ∧ w'.ownsRow B 5 1 v' (n + (Lib.decDigits u).length) (xs ++ Lib.byteCells (Lib.decDigits u)) ∧ Below B w w' :=
  (Any.internal_strconv_AppendUint_10 Tryd.laysM288 B n u hu64 sv xs w hown hBw hlim htab).mono fun e w' ⟨v', h1, h2, h3, h4⟩ => ⟨v', h1, h2, h3⟩
theorem auint10 (B n u : Nat) (hu64 : u < 18446744073709551616) (sv : Value) (xs : List Value) (w : World) (hown : w.ownsRow B 5 1 sv n xs) (hBw : B ≤ w.heap.size) (hlim : n + 20 ≤ 140737488355328) (htab : Pow w) :
    Calls Tryd.prog 70 #[sv, .int .u64 u, .int .i64 10] w fun e w' => ∃ v', e = .returned v' ∧ w'.ownsRow B 5 1 v' (n + (Lib.decDigits u).length) (xs ++ Lib.byteCells (Lib.decDigits u)) ∧ Below B w w' := by
  go_enter Tryd.func70, Tryd.ntmps70
  go_wp2_with fail
  refine (iuint10 B n u hu64 sv xs w hown hBw hlim htab).mono ?_
  rintro e w1 ⟨v1, rfl, ho, hb⟩
  go_wp2
  go_ret
  exact ⟨v1, rfl, ho, hb⟩
theorem itoa_any (n : Int) (h0 : -9223372036854775808 ≤ n) (h1 : n ≤ 9223372036854775807) (w : World) (htab : Pow w) :
    Calls Tryd.prog 37 #[.int .i64 n] w fun e w' => e = .returned (.string ⟨(Lib.itoa n).toArray⟩) ∧ Below w.heap.size w w' :=
  (Any.strconv_Itoa Tryd.laysM171 n h0 h1 w htab).mono fun e w' ⟨h, k, os, hw⟩ => ⟨h, by rw [hw]; exact Lib.below_grow _ _ (Nat.le_refl _) k os⟩

/-- The text of the first k numbers of an address of the family 32. -/
def fourL (x : BitVec 128) : Nat → List UInt8
  | 0 => []
  | k + 1 => (if k = 0 then [] else fourL x k ++ [46]) ++ decL (octN x k)
theorem decL_len3 (n : Nat) (h : n < 256) : (decL n).length ≤ 3 := by
  have := decL_lib_fin ⟨n, h⟩
  simp only at this
  rw [this]
  split
  · simp
  · split <;> simp
theorem fourL_len (x : BitVec 128) (k : Nat) : (fourL x k).length ≤ 4 * k := by
  induction k with
  | zero => simp [fourL]
  | succ k ih =>
    have := decL_len3 (octN x k) (by unfold octN; omega)
    unfold fourL
    rw [List.length_append]
    split
    · simp; omega
    · simp; omega
theorem fourL_text (x : BitVec 128) : (⟨(fourL x 4).toArray⟩ : ByteArray) = text4 x := by
  have e : text4 x = bL (decL (octN x 0) ++ [46] ++ decL (octN x 1) ++ [46] ++ decL (octN x 2) ++ [46] ++ decL (octN x 3)) := by
    unfold text4 dotS
    show (bL _) ++ (bL [46]) ++ (bL _) ++ (bL [46]) ++ (bL _) ++ (bL [46]) ++ (bL _) = _
    simp only [bL_cat]
  rw [e]
  show bL _ = bL _
  congr 1
theorem oct_part (x : BitVec 128) (k : Nat) (hk : k < 4) : lI ((x <<< (8 * (k : Int)).toNat) >>> 120) = ((octN x k : Nat) : Int) := by
  have e0 : (8 * (k : Int)).toNat = 8 * k := by omega
  rw [e0]
  unfold octN
  have h := hI_mk
  have hx : (hI x).toNat = x.toNat / 2 ^ 64 := by
    unfold hI hv
    simp [BitVec.extractLsb'_toNat, Nat.shiftRight_eq_div_pow]
    have := x.isLt
    omega
  have hl : ∀ y : BitVec 128, lI y = ((y.toNat % 2 ^ 64 : Nat) : Int) := fun y => by unfold lI lv; simp [BitVec.extractLsb'_toNat]
  rw [hl, hx, BitVec.toNat_ushiftRight, BitVec.toNat_shiftLeft, Nat.shiftRight_eq_div_pow, Nat.shiftLeft_eq]
  have := x.isLt
  congr 1
  rcases k with _ | _ | _ | _ | k
  · simp; omega
  · simp; omega
  · simp; omega
  · simp; omega
  · omega
end Go.Proofs.YtdgmfdfhbhmppaaDoor
/-
  What a call of package word's Text does.
-/
namespace Go.Proofs.YtdgmfdfhbhmppaaDoor
open Go.RowKit
set_option linter.unusedSimpArgs false
set_option linter.unusedVariables false

/-- The number of the digit at place k, and its sign. -/
def nib (x : BitVec 128) (k : Nat) : Nat := (lv (x >>> (124 - 4 * k))).toNat % 16
def chN (d : Nat) : Nat := if d < 10 then 48 + d else 87 + d
theorem nib_lt (x : BitVec 128) (k : Nat) : nib x k < 16 := Nat.mod_lt _ (by decide)
theorem and15 (x : BitVec 128) (k : Nat) : bits .and .u64 (lI (x >>> (124 - 4 * k))) 15 = ((nib x k : Nat) : Int) := by
  unfold lI nib
  have h : bits .and .u64 ((lv (x >>> (124 - 4 * k))).toNat : Int) 15 = (((lv (x >>> (124 - 4 * k))).toNat &&& 15 : Nat) : Int) := bits_and_u64_nat _ 15 (BitVec.isLt _) (by decide)
  rw [h]
  congr 1
  exact Nat.and_two_pow_sub_one_eq_mod _ 4
theorem dig_tab (d : Nat) (h : d < 16) : ((⟨#[48, 49, 50, 51, 52, 53, 54, 55, 56, 57, 97, 98, 99, 100, 101, 102]⟩ : ByteArray)[d]'h).toNat = chN d := by
  have all : ∀ j : Fin 16, ((⟨#[48, 49, 50, 51, 52, 53, 54, 55, 56, 57, 97, 98, 99, 100, 101, 102]⟩ : ByteArray)[j.val]'j.isLt).toNat = chN j.val := by decide
  exact all ⟨d, h⟩

theorem new_cell (W : World) (o : Obj) (cs : Array Value) (t : TypeId) (j : Nat) : ((W.alloc o).alloc (.cells cs t)).cell? ⟨W.heap.size + 1, j, none⟩ = cs[j]? := by
  have h : ((W.alloc o).alloc (.cells cs t)).heap[W.heap.size + 1]? = some (.cells cs t) := by
    show ((W.heap.push o).push (.cells cs t))[W.heap.size + 1]? = _
    rw [Array.getElem?_push, if_pos (by simp)]
  unfold World.cell?
  rw [h]
  simp
theorem new_frozen (W : World) (o : Obj) (cs : Array Value) (t : TypeId) (j : Nat) : ((W.alloc o).alloc (.cells cs t)).frozen? ⟨W.heap.size + 1, j, none⟩ = false := by
  simp [go_sem]

theorem set_same {W : World} {B k : Nat} {u v : Value} (h : W.cell? ⟨B, k, none⟩ = some u) : (W.setCell ⟨B, k, none⟩ v).cell? ⟨B, k, none⟩ = some v := by
  simp [go_sem, h]
theorem set_other {W : World} {B k j : Nat} {v : Value} (h : ¬ k = j) : (W.setCell ⟨B, k, none⟩ v).cell? ⟨B, j, none⟩ = W.cell? ⟨B, j, none⟩ := by
  simp [go_sem, h]
/-- The text of a word, as bytes. -/
def txtL (x : BitVec 128) : List Int := (List.range 32).map fun j => (chN (nib x j) : Int)
def txtW (x : BitVec 128) : ByteArray := (txtL x).foldl (fun r n => r.push (UInt8.ofNat n.toNat)) ByteArray.empty
theorem txt_conv (x : BitVec 128) (w : World) (B : Nat) (hc : ∀ j, j < 32 → w.cell? ⟨B, j, none⟩ = some (.int .u8 (chN (nib x j) : Int))) :
    (convert 93 9 (.slice (some ⟨B, 0, none⟩) 32 32)).run Tryd.prog w = .ok (.string (txtW x)) w := by
  rw [run_convert_bytes_string w 93 9 5 _ _ _ Tryd.underlying93 Tryd.underlying5 Tryd.underlying9]
  refine run_bytesToString w ⟨B, 0, none⟩ 32 32 (txtL x) ?_
  have h := run_loadCells_list (P := Tryd.prog) (w := w) ⟨B, 0, none⟩ ((txtL x).map (Value.int .u8)) (by
    intro j v hv
    unfold txtL at hv
    simp only [List.map_map, List.getElem?_map] at hv
    by_cases hj : j < 32
    · have e : (List.range 32)[j]? = some j := by simp [hj]
      rw [e] at hv
      simp at hv
      have := hc j hj
      have ea : (⟨B, 0, none⟩ : Addr).add j = ⟨B, j, none⟩ := by cases j <;> simp [Addr.add]
      rw [ea, this, ← hv]
    · have e : (List.range 32)[j]? = none := by simp; omega
      rw [e] at hv; cases hv)
  have hl : ((txtL x).map (Value.int .u8)).length = 32 := by unfold txtL; simp
  rw [hl] at h
  exact h

end Go.Proofs.YtdgmfdfhbhmppaaDoor
/-
  What a call of the reference's Text does.
-/
namespace Go.Proofs.YtdgmfdfhbhmppaaDoor
open Go.RowKit
set_option linter.unusedSimpArgs false
set_option linter.unusedVariables false

theorem bit_div (x : BitVec 128) (i : Int) (d : Nat) (h : i = 127 - (d : Int)) (hd : d ≤ 127) : bitZ x i = ((x.toNat / 2 ^ d % 2 : Nat) : Int) := by
  unfold bitZ
  rw [bitB_in x i (by omega) (by omega), show (127 - i).toNat = d from by omega]
  unfold BitVec.getLsbD
  rw [Nat.testBit_eq_decide_div_mod_eq]
  have : x.toNat / 2 ^ d % 2 = 0 ∨ x.toNat / 2 ^ d % 2 = 1 := by omega
  rcases this with e | e <;> simp [e]
theorem nib_div (x : BitVec 128) (k : Nat) : nib x k = x.toNat / 2 ^ (124 - 4 * k) % 16 := by
  unfold nib
  rw [lvN, BitVec.toNat_ushiftRight, Nat.shiftRight_eq_div_pow]
  omega
theorem nib_bits (x : BitVec 128) (k : Nat) (h : k < 32) : 8 * bitZ x (4 * (k : Int)) + 4 * bitZ x (4 * (k : Int) + 1) + 2 * bitZ x (4 * (k : Int) + 2) + bitZ x (4 * (k : Int) + 3) = ((nib x k : Nat) : Int) := by
  rw [bit_div x (4 * (k : Int)) (124 - 4 * k + 3) (by omega) (by omega), bit_div x (4 * (k : Int) + 1) (124 - 4 * k + 2) (by omega) (by omega), bit_div x (4 * (k : Int) + 2) (124 - 4 * k + 1) (by omega) (by omega), bit_div x (4 * (k : Int) + 3) (124 - 4 * k) (by omega) (by omega), nib_div]
  rw [Nat.pow_add, Nat.pow_add, Nat.pow_add, ← Nat.div_div_eq_div_mul, ← Nat.div_div_eq_div_mul, ← Nat.div_div_eq_div_mul]
  generalize x.toNat / 2 ^ (124 - 4 * k) = m
  omega

/-- The first k signs, as cells. -/
def cellsT (x : BitVec 128) (k : Nat) : List Value := (List.range k).map fun j => Value.int .u8 (chN (nib x j) : Int)
theorem cellsT_succ (x : BitVec 128) (k : Nat) : cellsT x (k + 1) = cellsT x k ++ [Value.int .u8 (chN (nib x k) : Int)] := by
  unfold cellsT; rw [List.range_succ]; simp
theorem cellsT_get (x : BitVec 128) (k j : Nat) (h : j < k) : (cellsT x k)[j]? = some (.int .u8 (chN (nib x j) : Int)) := by
  unfold cellsT
  simp [h]

theorem own_below {base e size n : Nat} {v : Value} {xs : List Value} {W w' : World} (hb : Below W.heap.size W w') (h : W.ownsRow base e size v n xs) : w'.ownsRow base e size v n xs := by
  refine h.kept (row := none) ⟨hb.os, hb.tape, hb.output, hb.size, fun k hk _ => hb.block k hk⟩ ?_
  cases v.ownBlock with
  | none => exact Or.inl rfl
  | some a => exact Or.inr (by simp)

theorem txt_convR (x : BitVec 128) (w : World) (B c : Nat) (hc : ∀ j, j < 32 → w.cell? ⟨B, j, none⟩ = some (.int .u8 (chN (nib x j) : Int))) :
    (convert 93 9 (.slice (some ⟨B, 0, none⟩) 32 c)).run Tryd.prog w = .ok (.string (txtW x)) w := by
  rw [run_convert_bytes_string w 93 9 5 _ _ _ Tryd.underlying93 Tryd.underlying5 Tryd.underlying9]
  refine run_bytesToString w ⟨B, 0, none⟩ 32 c (txtL x) ?_
  have h := run_loadCells_list (P := Tryd.prog) (w := w) ⟨B, 0, none⟩ ((txtL x).map (Value.int .u8)) (by
    intro j v hv
    unfold txtL at hv
    simp only [List.map_map, List.getElem?_map] at hv
    by_cases hj : j < 32
    · have e : (List.range 32)[j]? = some j := by simp [hj]
      rw [e] at hv
      simp at hv
      have := hc j hj
      have ea : (⟨B, 0, none⟩ : Addr).add j = ⟨B, j, none⟩ := by cases j <;> simp [Addr.add]
      rw [ea, this, ← hv]
    · have e : (List.range 32)[j]? = none := by simp; omega
      rw [e] at hv; cases hv)
  have hl : ((txtL x).map (Value.int .u8)).length = 32 := by unfold txtL; simp
  rw [hl] at h
  exact h

theorem app_keep {w W w1 : World} {x : BitVec 128} {e size n : Nat} {v : Value} {xs : List Value} (o : W.ownsRow (w.heap.size + 1) e size v n xs) (g : W.grownBy w1 v.ownBlock)
    (k1 : W.cell? ⟨w.heap.size, 0, none⟩ = some (.int .u64 (hI x))) (k2 : W.cell? ⟨w.heap.size, 1, none⟩ = some (.int .u64 (lI x))) (k9 : Below w.heap.size w W) :
    w1.cell? ⟨w.heap.size, 0, none⟩ = some (.int .u64 (hI x)) ∧ w1.cell? ⟨w.heap.size, 1, none⟩ = some (.int .u64 (lI x)) ∧ Below w.heap.size w w1 := by
  have hne : some w.heap.size ≠ v.ownBlock := by
    intro h
    have := (o.lt _ h.symm).1
    omega
  refine ⟨g.cell k1 hne, g.cell k2 hne, k9.grown g k9.size ?_⟩
  intro j hj
  have := (o.lt _ hj).1
  omega
theorem al_keep {w W : World} {x : BitVec 128} (o : Obj)
    (k1 : W.cell? ⟨w.heap.size, 0, none⟩ = some (.int .u64 (hI x))) (k2 : W.cell? ⟨w.heap.size, 1, none⟩ = some (.int .u64 (lI x))) (k9 : Below w.heap.size w W) :
    (W.alloc o).cell? ⟨w.heap.size, 0, none⟩ = some (.int .u64 (hI x)) ∧ (W.alloc o).cell? ⟨w.heap.size, 1, none⟩ = some (.int .u64 (lI x)) ∧ Below w.heap.size w (W.alloc o) :=
  ⟨keepc (bl1 W o) k1, keepc (bl1 W o) k2, keepb (bl1 W o) k9⟩
theorem Tryd.infoB : (Tryd.prog.info? 5).map (fun i => (i.zero, i.size, i.bytes)) = some (some (.int .u8 0), 1, 1) := by kernel_rfl
end Go.Proofs.YtdgmfdfhbhmppaaDoor
/-
  What a call of the reference's Text does: the walk.
-/
namespace Go.Proofs.YtdgmfdfhbhmppaaDoor
open Go.RowKit
set_option linter.unusedSimpArgs false
set_option linter.unusedVariables false

theorem own_belowH {base e size n : Nat} {v : Value} {xs : List Value} {W w' : World} (hb : Below W.heap.size W w') (h : Hid (W.ownsRow base e size v n xs)) : Hid (w'.ownsRow base e size v n xs) := own_below hb h.out

theorem news_al (W : World) (v : Value) (t : TypeId) : ∀ j u, [v][j]? = some u → (W.alloc (.cells #[v] t)).cell? ((⟨W.heap.size, 0, none⟩ : Addr).add j) = some u := by
  intro j u hj
  match j, hj with
  | 0, hj => simp at hj; subst hj; simp [Addr.add, go_sem]
theorem one_al (k : IntKind) (n : Int) : ∀ u ∈ [Value.int k n], u.oneCell' = true := by
  intro u hu; simp at hu; subst hu; rfl

end Go.Proofs.YtdgmfdfhbhmppaaDoor
/-
  What the call of turnpikeref2's Parse does, of the family 128.
-/
namespace Go.Proofs.YtdgmfdfhbhmppaaDoor
open Go.RowKit
set_option linter.unusedSimpArgs false
set_option linter.unusedVariables false

theorem At.wset {w : World} {B : Nat} {y : BitVec 128} (h : At w B y) (z : BitVec 128) (he : hI y = hI z) : At (w.setCell ⟨B, 1, none⟩ (.int .u64 (lI z))) B z := by
  obtain ⟨h0, h1, h2, h3, h4⟩ := h
  refine ⟨?_, ?_, ?_, ?_, ?_⟩ <;> simp [go_sem, *]
theorem At.wother {w : World} {B C : Nat} {x : BitVec 128} (h : At w B x) (hn : ¬ C = B) (o : Nat) (v : Value) : At (w.setCell ⟨C, o, none⟩ v) B x := by
  obtain ⟨h0, h1, h2, h3, h4⟩ := h
  have hn' : ¬ B = C := fun e => hn e.symm
  refine ⟨?_, ?_, ?_, ?_, ?_⟩ <;> simp [go_sem, *]
theorem cell_wother {w : World} {b o C p : Nat} {u : Value} (h : w.cell? ⟨b, o, none⟩ = some u) (hn : ¬ C = b) (v : Value) : (w.setCell ⟨C, p, none⟩ v).cell? ⟨b, o, none⟩ = some u := by
  have hn' : ¬ b = C := fun e => hn e.symm
  simp [go_sem, *]

end Go.Proofs.YtdgmfdfhbhmppaaDoor
/-
  'append(l, m...)' where both rows are the call's own.
-/
namespace Go.Proofs.YtdgmfdfhbhmppaaDoor
open Go.RowKit
set_option linter.unusedSimpArgs false
set_option linter.unusedVariables false

theorem wpList_append_row {P : Program} {w : World} {ops : Array Oper} {rest : List Oper} {o : Oper} {a : Act} {Q : Exit → Act → World → Prop} (hgd : o.guard = none) (s x : Operand) (t : TypeId)
    (ho : o.op = .call { callee := .builtin .append, args := #[s, x], argTypes := #[t, t] })
    (base : Nat) (e : TypeId) (i : TypeInfo) (z : Value) (bytes : Nat) (ht : P.underlying t = some (.slice e)) (hi : P.info? e = some i) (hz : i.zero = some z)
    (hsize : i.size = 1) (hby : i.bytes = bytes) (hzs : z.cells.size = 1)
    (v : Value) (n : Nat) (xs : List Value) (hs : a.eval s = v) (hown : w.ownsRow base e 1 v n xs)
    (bs : Nat) (u : Value) (m : Nat) (ys : List Value) (hx : a.eval x = u) (hsrc : w.ownsRow bs e 1 u m ys) (h1 : ∀ y ∈ ys, y.oneCell' = true)
    (h63 : n + m ≤ maxLen) (hbytes : (n + m) * bytes ≤ 140737488355328) (hbase : base ≤ w.heap.size)
    (h : ∀ ao cap w', w'.ownsRow base e 1 (.slice ao (n + m) cap) (n + m) (xs ++ ys) → w.grownBy w' v.ownBlock → wpList P ops Q rest (a.put o.dst (.slice ao (n + m) cap)) w') : wpList P ops Q (o :: rest) a w := by
  have hlen := hsrc.1
  rcases hsrc.2 with ⟨hu, hm⟩ | ⟨g, cap, cur, hu, _⟩
  · refine wpList_append_own_none hgd s x t ho base e i 1 ht hi v n xs hs hown (by rw [hx, hu]) ?_
    have hy : ys = [] := by
      rw [hm] at hlen
      cases ys with
      | nil => rfl
      | cons => simp at hlen
    obtain ⟨ao, cp, hv⟩ := own_slice hown
    have := h ao cp w (by rw [hm, hy, List.append_nil, Nat.add_zero, ← hv]; exact hown) ⟨rfl, rfl, rfl, Nat.le_refl _, fun _ _ _ => rfl⟩
    rw [hm, Nat.add_zero, ← hv] at this
    exact this
  · have hc := hsrc.cells (g := g) (by rw [hu]; rfl)
    refine wpList_append_own w hgd s x t ho base e i z 1 bytes ht hi hz hsize hby hzs (by decide) v n xs hs hown ⟨g, 0, none⟩ m cap ys (by rw [hx, hu]) (by simpa using hlen) hc h1 h63 hbytes hbase ?_
    intro v' w' h2 h3 _
    obtain ⟨ao, cp, hv⟩ := own_slice h2
    rw [hv]
    rw [hv] at h2
    exact h ao cp w' h2 h3
theorem onesI (l : List Int) : ∀ y ∈ ints l, y.oneCell' = true := by
  intro y hy
  unfold ints at hy
  obtain ⟨n, -, rfl⟩ := List.mem_map.mp hy
  rfl
theorem gsG_len (last : Bool) : ∀ (l : List ByteArray) (acc xs : List Int), gsG last l acc = some xs → xs.length ≤ acc.length + l.length + 1 := by
  intro l
  induction l with
  | nil => intro acc xs e; simp [gsG] at e; subst e; simp
  | cons q l ih =>
    intro acc xs e
    unfold gsG at e
    split at e
    · injection e with e
      subst e; simp
    · split at e
      · cases e
      · have := ih _ _ e
        simp at this ⊢; omega
theorem gsO_len (t : ByteArray) (last : Bool) (xs : List Int) (e : gsO t last = some xs) : xs.length ≤ t.size + 2 := by
  unfold gsO at e
  split at e
  · injection e with e; subst e; simp
  · have h1 := gsG_len last _ [] xs e
    have h2 := (spl_len t 58 t.size 0 0).2
    simp at h1; omega
theorem gapG_bd (t : ByteArray) : ∀ f i, 0 ≤ gapG t f i → gapG t f i + 2 ≤ t.size := by
  intro f
  induction f with
  | zero => intro i h; exact absurd h (by show ¬ (0 : Int) ≤ -1; omega)
  | succ f ih =>
    intro i h
    by_cases h1 : i + 1 < t.size
    · by_cases h2 : byteAt t i = 58 ∧ byteAt t (i + 1) = 58
      · have e : gapG t (f + 1) i = (i : Int) := by
          show (if _ then _ else _) = _
          rw [if_pos h1, if_pos h2]
        rw [e]; omega
      · have e : gapG t (f + 1) i = gapG t f (i + 1) := by
          show (if _ then _ else _) = _
          rw [if_pos h1, if_neg h2]
        rw [e] at h ⊢
        exact ih _ h
    · have e : gapG t (f + 1) i = -1 := if_neg h1
      rw [e] at h; omega
theorem gapV_bd (t : ByteArray) (h : 0 ≤ gapV t) : gapV t + 2 ≤ t.size := gapG_bd t _ _ h
theorem own_apart {w w' : World} {b1 b2 e n m : Nat} {u v : Value} {xs ys : List Value} (hu : w.ownsRow b1 e 1 u n xs) (hub : ∀ k, u.ownBlock = some k → k < b2) (hv : w.ownsRow b2 e 1 v m ys) (hg : w.grownBy w' v.ownBlock) : w'.ownsRow b1 e 1 u n xs := by
  refine hu.kept hg ?_
  cases h : u.ownBlock with
  | none => exact Or.inl rfl
  | some k =>
    right
    intro q
    have := (hv.lt k q.symm).1
    have := hub k h
    omega
def sliceLen (v : Value) : Nat := match v with | .slice _ n _ => n | _ => 0
theorem At.grownBy {w w' : World} {B : Nat} {x : BitVec 128} {row : Option Nat} (h : At w B x) (hg : w.grownBy w' row) (hne : ¬ some B = row) : At w' B x := by
  obtain ⟨h0, h1, h2, h3, h4⟩ := h
  have hb := hg.block B h4 hne
  exact ⟨hg.cell h0 hne, hg.cell h1 hne, (World.frozen?_of_block (a := ⟨B, 0, none⟩) hb).trans h2, (World.frozen?_of_block (a := ⟨B, 1, none⟩) hb).trans h3, Nat.lt_of_lt_of_le h4 hg.size⟩
theorem rep_ints (A : List Int) (j : Nat) : ints (A ++ List.replicate (j + 1) 0) = ints (A ++ List.replicate j 0) ++ [Value.int .i64 0] := by
  unfold ints
  rw [List.replicate_succ', ← List.append_assoc, List.map_append (l₂ := [0])]
  rfl
end Go.Proofs.YtdgmfdfhbhmppaaDoor
/-
  What a call of package addr's writeFour does: the text of an address of the family 32.
-/
namespace Go.Proofs.YtdgmfdfhbhmppaaDoor
open Go.RowKit
set_option linter.unusedSimpArgs false
set_option linter.unusedVariables false

theorem bytes_back (w : World) (g cap : Nat) (l : List UInt8) (hc : ∀ j, j < l.length → w.cell? ⟨g, j, none⟩ = some (.int .u8 ((l.getD j 0).toNat : Int))) :
    (convert 93 9 (.slice (some ⟨g, 0, none⟩) l.length cap)).run Tryd.prog w = .ok (.string ⟨l.toArray⟩) w := by
  refine run_convert_bytes_back (P := Tryd.prog) w 93 9 5 ⟨g, 0, none⟩ cap l Tryd.underlying93 Tryd.underlying5 Tryd.underlying9 ?_
  intro j hj
  have ea : (⟨g, 0, none⟩ : Addr).add j = ⟨g, j, none⟩ := by cases j <;> simp [Addr.add]
  rw [ea, hc j hj]
  simp [List.getD, hj]

theorem pow_below {B : Nat} {w w' : World} (h : Pow w) (hb : Below w.heap.size w w') : Pow w' := h.keep hb

set_option maxHeartbeats 4000000 in
set_option maxRecDepth 20000 in
theorem writeFour_any (x : BitVec 128) (w : World) (hP : Pow w) :
    Calls Tryd.prog 57 #[.agg #[.int .u64 (hI x), .int .u64 (lI x)]] w fun e w' => e = .returned (.string (text4 x)) ∧ Below w.heap.size w w' := by
  obtain ⟨i0, hi, hz0, hz1, hz2⟩ := info_parts Tryd.infoB8
  rw [← fourL_text]
  go_enter Tryd.func57, Tryd.ntmps57
  go_wp2
  go_loopw [3, 5] (fun b i wr => ∃ k : Nat, k ≤ 4 ∧ i = .int .i64 (k : Int) ∧ wr.ownsRow (w.heap.size + 1) 5 1 b (fourL x k).length (Lib.byteCells (fourL x k)) ∧ wr.cell? ⟨w.heap.size, 0, none⟩ = some (.int .u64 (hI x)) ∧ wr.cell? ⟨w.heap.size, 1, none⟩ = some (.int .u64 (lI x)) ∧ Below w.heap.size w wr)
    (fun _ i _ => 4 - (intOf i).toNat)
  case atStart => exact ⟨0, by omega, rfl, World.ownsRow_nil _ _ _ _, by simp [go_sem], by simp [go_sem], bl1 _ _⟩
  case round =>
    obtain ⟨k, hk, rfl, hown, x0, x1, hB⟩ := hrel
    by_cases hlt : (k : Int) < 4
    · have hks : k < 4 := by omega
      have hn := fourL_len x k
      have hO : octN x k < 256 := by unfold octN; omega
      have KP := fun w => part_any x k 8 w (by omega) (by omega) (by omega) (by omega)
      have e120 : ((128 : Int) - 8).toNat = 120 := by decide
      have hdl := decL_lib (octN x k) hO
      have hdn := decL_len3 (octN x k) hO
      rw [e120, oct_part x k hks] at KP
      have HN : Hid (fourL x (k + 1) = (if k = 0 then [] else fourL x k ++ [46]) ++ decL (octN x k)) := rfl
      clear e120
      generalize octN x k = d at *
      have HD : Hid (Lib.decDigits d = decL d) := hdl
      clear hdl
      by_cases hk0 : (0 : Int) < (k : Int)
      · have hk0' : ¬ k = 0 := by omega
        have h47 : ((fourL x k).length + 1) * 1 ≤ 140737488355328 := by omega
        have h63 : (fourL x k).length + 1 ≤ maxLen := by unfold maxLen; omega
        have hsz : w.heap.size + 1 ≤ (wr.alloc (.cells #[.int .u8 46] 5)).heap.size := by have := cell_in x0; simp; omega
        have HL : Hid (fourL x (k + 1) = (fourL x k ++ [46]) ++ decL d) := by show _ = _; rw [HN.out, if_neg hk0']
        go_wp2_with (at_builtin; refine wpList_append_own _ rfl _ _ 93 rfl (w.heap.size + 1) 5 i0 (.int .u8 0) 1 1 Tryd.underlying93 hi hz0 hz1 hz2 rfl (by decide) _ _ _ rfl (hown.alloc _) ⟨wr.heap.size, 0, none⟩ 1 1 [Value.int .u8 46] rfl rfl (news_al _ _ _) (one_al _ _) h63 h47 hsz ?_)
        intro v1 w1 hown1 hgrow1 _
        obtain ⟨x0, x1, hB⟩ := app_keep (World.ownsRow.alloc hown _) hgrow1 (al_keep _ x0 x1 hB).1 (al_keep _ x0 x1 hB).2.1 (al_keep _ x0 x1 hB).2.2
        have ho : w1.ownsRow (w.heap.size + 1) 5 1 v1 (fourL x k ++ [46]).length (Lib.byteCells (fourL x k ++ [46])) := by
          have e1 : (fourL x k ++ [46]).length = (fourL x k).length + 1 := by simp
          have e2 : Lib.byteCells (fourL x k ++ [46]) = Lib.byteCells (fourL x k) ++ [Value.int .u8 46] := by simp [Lib.byteCells]
          rw [e1, e2]; exact hown1
        have hn' : (fourL x k ++ [46]).length ≤ 100 := by simp; omega
        clear hown hown1 hgrow1 HN hn h47 h63 hsz
        generalize fourL x k ++ [46] = l at *
        go_wp2_with fail
        refine (KP _).mono ?_
        rintro e w2 ⟨rfl, hb2⟩
        have x0 := keepc hb2 x0
        have x1 := keepc hb2 x1
        have hB := keepb hb2 hB
        have ho := own_below hb2 ho
        have hT := hP.keep hB
        have hsz : w.heap.size + 1 ≤ w2.heap.size := cell_in x0
        clear hb2 KP
        go_wp2_with fail
        refine (auint10 (w.heap.size + 1) l.length d (by omega) v1 (Lib.byteCells l) w2 ho hsz (by omega) hT).mono ?_
        rintro e w3 ⟨v3, rfl, ho3, hb3⟩
        have y0 : w3.cell? ⟨w.heap.size, 0, none⟩ = some (.int .u64 (hI x)) := (hb3.cell (p := ⟨w.heap.size, 0, none⟩) (Nat.lt_succ_self _)).trans x0
        have y1 : w3.cell? ⟨w.heap.size, 1, none⟩ = some (.int .u64 (lI x)) := (hb3.cell (p := ⟨w.heap.size, 1, none⟩) (Nat.lt_succ_self _)).trans x1
        have kB := hB.trans (hb3.mono (Nat.le_succ _))
        have ho4 : w3.ownsRow (w.heap.size + 1) 5 1 v3 (fourL x (k + 1)).length (Lib.byteCells (fourL x (k + 1))) := by
          rw [HL.out, List.length_append, show Lib.byteCells (l ++ decL d) = Lib.byteCells l ++ Lib.byteCells (decL d) by simp [Lib.byteCells], ← HD.out]
          exact ho3
        clear ho ho3 hb3 hT x0 x1 hB
        go_wp2
        go_roundw
        case rel => exact ⟨k + 1, by omega, by go_num, ho4, y0, y1, kB⟩
        case measure => simp [intOf]; omega
      · have hk0' : k = 0 := by omega
        have HL : Hid (fourL x (k + 1) = fourL x k ++ decL d) := by show _ = _; rw [HN.out, if_pos hk0', hk0']; rfl
        have hn' : (fourL x k).length ≤ 100 := by omega
        clear HN hn hk0'
        generalize fourL x k = l at *
        go_wp2_with fail
        refine (KP _).mono ?_
        rintro e w2 ⟨rfl, hb2⟩
        have x0 := keepc hb2 x0
        have x1 := keepc hb2 x1
        have hB := keepb hb2 hB
        have ho := own_below hb2 hown
        have hT := hP.keep hB
        have hsz : w.heap.size + 1 ≤ w2.heap.size := cell_in x0
        clear hb2 KP hown
        go_wp2_with fail
        refine (auint10 (w.heap.size + 1) l.length d (by omega) _ (Lib.byteCells l) w2 ho hsz (by omega) hT).mono ?_
        rintro e w3 ⟨v3, rfl, ho3, hb3⟩
        have y0 : w3.cell? ⟨w.heap.size, 0, none⟩ = some (.int .u64 (hI x)) := (hb3.cell (p := ⟨w.heap.size, 0, none⟩) (Nat.lt_succ_self _)).trans x0
        have y1 : w3.cell? ⟨w.heap.size, 1, none⟩ = some (.int .u64 (lI x)) := (hb3.cell (p := ⟨w.heap.size, 1, none⟩) (Nat.lt_succ_self _)).trans x1
        have kB := hB.trans (hb3.mono (Nat.le_succ _))
        have ho4 : w3.ownsRow (w.heap.size + 1) 5 1 v3 (fourL x (k + 1)).length (Lib.byteCells (fourL x (k + 1))) := by
          rw [HL.out, List.length_append, show Lib.byteCells (l ++ decL d) = Lib.byteCells l ++ Lib.byteCells (decL d) by simp [Lib.byteCells], ← HD.out]
          exact ho3
        clear ho ho3 hb3 hT x0 x1 hB
        go_wp2
        go_roundw
        case rel => exact ⟨k + 1, by omega, by go_num, ho4, y0, y1, kB⟩
        case measure => simp [intOf]; omega
    · have hk8 : k = 4 := by omega
      subst hk8
      have hpos : 0 < (fourL x 4).length := by
        show 0 < ((if 3 = 0 then [] else fourL x 3 ++ [46]) ++ decL (octN x 3)).length
        rw [if_neg (by decide)]; simp; omega
      obtain ⟨g, cap, rfl, -, -⟩ := hown.form hpos
      have hc : ∀ j, j < (fourL x 4).length → wr.cell? ⟨g, j, none⟩ = some (.int .u8 (((fourL x 4).getD j 0).toNat : Int)) := fun j hj => by
        have := hown.cellAt j (by omega)
        rw [this]
        simp [Lib.byteCells, List.getD, hj]
      have hv := bytes_back wr g cap (fourL x 4) hc
      clear hc hown hi hz0 hz1 hz2 x0 x1
      obtain ⟨l, hl⟩ : ∃ l, fourL x 4 = l := ⟨_, rfl⟩
      rw [hl] at hv ⊢
      have HL : Hid (fourL x 4 = l) := hl
      clear hl
      go_wp2
      go_ret
      exact ⟨by rw [HL.out]; rfl, hB⟩
end Go.Proofs.YtdgmfdfhbhmppaaDoor
/-
  What the calls of package addr's Text (family 32, errors) and package prefix's Text do, and the law's first example.
-/
namespace Go.Proofs.YtdgmfdfhbhmppaaDoor
open Go.RowKit
set_option linter.unusedSimpArgs false
set_option linter.unusedVariables false

set_option maxHeartbeats 1000000 in
theorem atext_four (x : BitVec 128) (w : World) (hP : Pow w) (h : rightE 32 x = 0) :
    Calls Tryd.prog 36 #[.int .i64 32, .agg #[.int .u64 (hI x), .int .u64 (lI x)]] w fun e w' => e = .returned (.tuple #[.string (text4 x), .int .i64 0]) ∧ Below w.heap.size w w' := by
  have KR := fun w => aright_any 32 x w
  rw [h] at KR
  go_enter Tryd.func36, Tryd.ntmps36
  go_wp2_with fail
  refine (KR _).mono ?_
  rintro e w1 ⟨rfl, hb1⟩
  have kB := keepb hb1 (bl1 w _)
  obtain ⟨x0, x1, -, -, -⟩ := (at_new w w.heap.size x 24 rfl).below hb1
  clear hb1 KR
  go_wp2_with fail
  refine (writeFour_any x _ (hP.keep kB)).mono ?_
  rintro e w2 ⟨rfl, hb2⟩
  have kB2 := keepb hb2 kB
  clear hb2 x0 x1
  go_wp2
  go_ret2
  exact ⟨rfl, kB2⟩
set_option maxHeartbeats 1000000 in
theorem atext_err (F : Int) (x : BitVec 128) (w : World) (h : ¬ rightE F x = 0) :
    Calls Tryd.prog 36 #[.int .i64 F, .agg #[.int .u64 (hI x), .int .u64 (lI x)]] w fun e w' => e = .returned (.tuple #[.string ⟨#[]⟩, .int .i64 (rightE F x)]) ∧ Below w.heap.size w w' := by
  have KR := fun w => aright_any F x w
  have hb : (rightE F x != 0) = true := by simp [h]
  generalize rightE F x = r at *
  go_enter Tryd.func36, Tryd.ntmps36
  go_wp2_with fail
  refine (KR _).mono ?_
  rintro e w1 ⟨rfl, hb1⟩
  have kB := keepb hb1 (bl1 w _)
  clear hb1 KR
  go_wp2
  go_ret2
  exact ⟨rfl, kB⟩

/-- The text of a prefix: an address's, a slash, the length. -/
def slashed (t : ByteArray) (n : Int) : ByteArray := t ++ ⟨#[47]⟩ ++ ⟨(Lib.itoa n).toArray⟩
set_option maxHeartbeats 2000000 in
theorem ptext_of (F : Int) (x : BitVec 128) (n : Int) (t : ByteArray) (e0 : Int) (w : World) (hP : Pow w) (hc : checkE F x n = 0) (h0 : 0 ≤ n) (h1 : n ≤ 128) (ht : t.size ≤ 1000)
    (KT : ∀ w, Pow w → Calls Tryd.prog 36 #[.int .i64 F, .agg #[.int .u64 (hI x), .int .u64 (lI x)]] w fun e w' => e = .returned (.tuple #[.string t, .int .i64 e0]) ∧ Below w.heap.size w w') :
    Calls Tryd.prog 17 #[.int .i64 F, .agg #[.int .u64 (hI x), .int .u64 (lI x), .int .i64 n]] w fun e w' => e = .returned (.tuple #[.string (slashed t n), .int .i64 0]) ∧ Below w.heap.size w w' := by
  have KC := fun w => pcheck_any F x n w
  rw [hc] at KC
  clear hc
  have KI := fun w hP => itoa_any n (by omega) (by omega) w hP
  have hl := Lib.itoa_length_le n (by omega) (by omega)
  unfold slashed
  generalize hd : (⟨(Lib.itoa n).toArray⟩ : ByteArray) = d at *
  have hds : d.size ≤ 21 := by rw [← hd]; exact hl
  have hts : (t ++ ⟨#[47]⟩).size = t.size + 1 := by rw [ByteArray.size_append]; rfl
  have hlen1 : ¬ 9223372036854775807 < t.size + 1 := by omega
  have hlen2 : ¬ 9223372036854775807 < t.size + 1 + d.size := by omega
  have HS : Hid ((t ++ ⟨#[47]⟩).size = t.size + 1) := hts
  clear hd hl hts
  go_enter Tryd.func17, Tryd.ntmps17
  go_wp2_with fail
  refine (KC _).mono ?_
  rintro e w1 ⟨rfl, hb1⟩
  have P1 := (atp_new w w.heap.size x n 26 rfl).below hb1
  have kB1 := keepb hb1 (bl1 w _)
  clear hb1 KC
  obtain ⟨p0, p1, p2, -, -, -⟩ := id P1
  go_wp2_with fail
  refine (KT _ (hP.keep kB1)).mono ?_
  rintro e w2 ⟨rfl, hb2⟩
  have kB2 := keepb hb2 kB1
  clear p0 p1 p2
  obtain ⟨p0, p1, p2, -, -, -⟩ := P1.below hb2
  clear hb2 KT kB1 P1
  go_wp2_with fail
  refine (KI _ (hP.keep kB2)).mono ?_
  rintro e w3 ⟨rfl, hb3⟩
  have kB3 := keepb hb3 kB2
  clear hb3 KI kB2
  go_wp2
  go_ret2
  exact ⟨rfl, kB3⟩
set_option maxHeartbeats 2000000 in
theorem ptext_err (F : Int) (x : BitVec 128) (n : Int) (w : World) (hc : ¬ checkE F x n = 0) :
    Calls Tryd.prog 17 #[.int .i64 F, .agg #[.int .u64 (hI x), .int .u64 (lI x), .int .i64 n]] w fun e w' => e = .returned (.tuple #[.string ⟨#[]⟩, .int .i64 (checkE F x n)]) ∧ Below w.heap.size w w' := by
  have KC := fun w => pcheck_any F x n w
  have hb : (checkE F x n != 0) = true := by simp [hc]
  generalize checkE F x n = c at *
  go_enter Tryd.func17, Tryd.ntmps17
  go_wp2_with fail
  refine (KC _).mono ?_
  rintro e w1 ⟨rfl, hb1⟩
  have kB1 := keepb hb1 (bl1 w _)
  clear hb1 KC
  go_wp2
  go_ret2
  exact ⟨rfl, kB1⟩

def s108 : ByteArray := ⟨#[49, 48, 46, 48, 46, 48, 46, 48, 47, 56]⟩
def x10 : BitVec 128 := 0x0a000000000000000000000000000000#128
theorem k3_e : ppE 32 s108 = 0 := by decide +kernel
theorem k3_v : ppV 32 s108 = x10 := by decide +kernel
theorem k3_n : ppN 32 s108 = 8 := by decide +kernel
theorem k3_c : checkE 32 x10 8 = 0 := by decide +kernel
theorem k3_r : rightE 32 x10 = 0 := by decide +kernel
theorem k3_h : hI x10 = 720575940379279360 := by decide +kernel
theorem k3_l : lI x10 = 0 := by decide +kernel
theorem k3_z : (text4 x10).size ≤ 1000 := by decide +kernel
theorem k3_t : slashed (text4 x10) 8 = s108 := by decide +kernel
set_option maxHeartbeats 2000000 in
theorem known3_any (w : World) (hP : Pow w) :
    Calls Tryd.prog 5 #[] w fun e w' => e = .returned (.bool true) ∧ Below w.heap.size w w' := by
  have KP := fun w => pparse_any 32 s108 w (by unfold maxLen; decide)
  rw [k3_v, k3_n, k3_e, k3_h, k3_l] at KP
  have KT := fun w hP => ptext_of 32 x10 8 (text4 x10) 0 w hP k3_c (by decide) (by decide) k3_z (fun w hP => atext_four x10 w hP k3_r)
  rw [k3_t, k3_h, k3_l] at KT
  unfold s108 at KP KT
  go_enter Tryd.func5, Tryd.ntmps5
  go_wp2_with fail
  refine (KP _).mono ?_
  rintro e w1 ⟨rfl, hb1⟩
  have hA := bl1 w1 (.cells #[.int .u64 720575940379279360, .int .u64 0, .int .i64 8] 26)
  have kB1 := keepb hA hb1
  clear hA hb1 KP
  go_wp2_with fail
  refine (KT _ (hP.keep kB1)).mono ?_
  rintro e w2 ⟨rfl, hb2⟩
  have p0 : w2.cell? ⟨w1.heap.size, 0, none⟩ = some (.int .u64 720575940379279360) := keepc hb2 (by simp [go_sem])
  have p1 : w2.cell? ⟨w1.heap.size, 1, none⟩ = some (.int .u64 0) := keepc hb2 (by simp [go_sem])
  have p2 : w2.cell? ⟨w1.heap.size, 2, none⟩ = some (.int .i64 8) := keepc hb2 (by simp [go_sem])
  have kB2 := keepb hb2 kB1
  clear hb2 KT kB1
  go_wp2
  go_ret
  exact ⟨rfl, kB2⟩
end Go.Proofs.YtdgmfdfhbhmppaaDoor
