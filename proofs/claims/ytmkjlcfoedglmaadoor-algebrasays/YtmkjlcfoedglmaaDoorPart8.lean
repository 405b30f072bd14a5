/-
  Part 8 of the proof: 7 texts, one behind the other.
-/
import Derived.Test.YtmkjlcfoedglmaaDoorPart7
import Derived.Test.YtmkjlcfoedglmaaDoorPart2
import Derived.Deep.AppendLies
import Derived.Deep.RegionHeld3
import Derived.Test.YtmkjlcfoedglmaaDoorPart6
import Derived.Test.YtmkjlcfoedglmaaDoorPart4
/-
  Plain facts on a prefix's kids.
-/
namespace Go.Proofs.YtmkjlcfoedglmaaDoor
open Go.RowKit
set_option linter.unusedSimpArgs false
set_option linter.unusedVariables false

theorem bit1_nat (n : Int) (h0 : 0 ≤ n) (h1 : n ≤ 127) : (bit1 n).toNat = 2 ^ (127 - n.toNat) := by
  unfold bit1
  rw [BitVec.toNat_ushiftRight, Nat.shiftRight_eq_div_pow, show (maskW 1).toNat = 2 ^ 127 by decide +kernel]
  rw [show (2 : Nat) ^ 127 = 2 ^ (127 - n.toNat) * 2 ^ n.toNat by rw [← Nat.pow_add]; congr 1; omega, Nat.mul_div_cancel _ (Nat.two_pow_pos _)]
theorem rt_room (F : Int) (x : BitVec 128) (n : Int) (h : Rt F x n) (hF : F ≤ 128) : x.toNat + 2 ^ (128 - n.toNat) ≤ 2 ^ 128 := by
  obtain ⟨h0, h1, h2⟩ := h
  obtain ⟨q, hq⟩ := (cut_dvd x n).mp h2
  have xl := x.isLt
  have e : (2 : Nat) ^ 128 = 2 ^ (128 - n.toNat) * 2 ^ n.toNat := by rw [← Nat.pow_add]; congr 1; omega
  rw [hq, e] at xl ⊢
  have := Nat.lt_of_mul_lt_mul_left xl
  calc 2 ^ (128 - n.toNat) * q + 2 ^ (128 - n.toNat) = 2 ^ (128 - n.toNat) * (q + 1) := by rw [Nat.mul_add, Nat.mul_one]
    _ ≤ _ := Nat.mul_le_mul_left _ this
theorem kid_and (F : Int) (x : BitVec 128) (n : Int) (h : Rt F x n) (hn : n < F) (hF : F ≤ 128) : x &&& bit1 n = 0#128 := by
  apply BitVec.eq_of_getLsbD_eq
  intro j hj
  rw [BitVec.getLsbD_and, bit1_bit n h.1 j hj, BitVec.getLsbD_zero]
  by_cases c : (j : Int) = 127 - n
  · rw [rt_bit F x n h j hj (by omega)]; rfl
  · simp [c]
theorem kid_nat (F : Int) (x : BitVec 128) (n : Int) (h : Rt F x n) (hn : n < F) (hF : F ≤ 128) : (x ||| bit1 n).toNat = x.toNat + 2 ^ (127 - n.toNat) := by
  have r := rt_room F x n h hF
  have h0 := h.1
  rw [← BitVec.add_eq_or_of_and_eq_zero _ _ (kid_and F x n h hn hF), BitVec.toNat_add, bit1_nat n h0 (by omega)]
  apply Nat.mod_eq_of_lt
  have : 2 ^ (128 - n.toNat) = 2 ^ (127 - n.toNat) + 2 ^ (127 - n.toNat) := by
    rw [show 128 - n.toNat = (127 - n.toNat) + 1 by omega, Nat.pow_succ]; omega
  have := Nat.two_pow_pos (127 - n.toNat)
  omega
theorem kid_pow (n : Int) (h0 : 0 ≤ n) (h1 : n < 128) : 2 ^ (128 - n.toNat) = 2 ^ (127 - n.toNat) + 2 ^ (127 - n.toNat) ∧ 128 - (n + 1).toNat = 127 - n.toNat := by
  refine ⟨?_, by omega⟩
  rw [show 128 - n.toNat = (127 - n.toNat) + 1 by omega, Nat.pow_succ]; omega
theorem kid_rtL (F : Int) (x : BitVec 128) (n : Int) (h : Rt F x n) (hn : n < F) (hF : F ≤ 128) : Rt F x (n + 1) := by
  obtain ⟨h0, h1, h2⟩ := h
  refine ⟨by omega, by omega, (cut_dvd _ _).mpr ?_⟩
  exact Nat.dvd_trans (Nat.pow_dvd_pow 2 (by omega)) ((cut_dvd x n).mp h2)
theorem kid_rtH (F : Int) (x : BitVec 128) (n : Int) (h : Rt F x n) (hn : n < F) (hF : F ≤ 128) : Rt F (x ||| bit1 n) (n + 1) := by
  have h0 := h.1
  refine ⟨by omega, by omega, (cut_dvd _ _).mpr ?_⟩
  rw [kid_nat F x n h hn hF, (kid_pow n h0 (by omega)).2]
  exact Nat.dvd_add (Nat.dvd_trans (Nat.pow_dvd_pow 2 (by omega)) ((cut_dvd x n).mp h.2.2)) (Nat.dvd_refl _)
theorem kid_last (F : Int) (x : BitVec 128) (n : Int) (h : Rt F x n) (hn : n < F) (hF : F ≤ 128) : lastW F (x ||| bit1 n) (n + 1) = lastW F x n := by
  have h0 := h.1
  have a := last_nat F _ _ (kid_rtH F x n h hn hF) hF
  have b := last_nat F _ _ h hF
  have k := kid_nat F x n h hn hF
  have p := kid_pow n h0 (by omega)
  rw [p.2] at a
  exact BitVec.eq_of_toNat_eq (by omega)
theorem kid_next (F : Int) (x : BitVec 128) (n : Int) (h : Rt F x n) (hn : n < F) (hf : fam F = true) : overB (lastW F x (n + 1)) (putW 0#128 (F - 1) 1) = false ∧ lastW F x (n + 1) + putW 0#128 (F - 1) 1 = x ||| bit1 n := by
  have hF := (fam_bd F hf).2
  have h0 := h.1
  have a := last_nat F _ _ (kid_rtL F x n h hn hF) hF
  have k := kid_nat F x n h hn hF
  have p := kid_pow n h0 (by omega)
  rw [p.2] at a
  have s := step_nat F hf
  have yl := (x ||| bit1 n).isLt
  rw [put_step F hf]
  constructor
  · unfold overB
    rw [s]
    simp
    omega
  · apply BitVec.eq_of_toNat_eq
    rw [BitVec.toNat_add, s, Nat.mod_eq_of_lt (by omega)]
    omega
theorem kid_upL (F : Int) (x : BitVec 128) (n : Int) (h : Rt F x n) : parentV x (n + 1) = x ∧ parentN (n + 1) = n := by
  have h0 := h.1
  unfold parentV parentN
  rw [if_neg (by omega), if_neg (by omega), show n + 1 - 1 = n by omega]
  exact ⟨h.2.2, rfl⟩
theorem kid_upH (F : Int) (x : BitVec 128) (n : Int) (h : Rt F x n) (hn : n < F) (hF : F ≤ 128) : parentV (x ||| bit1 n) (n + 1) = x := by
  have h0 := h.1
  unfold parentV
  rw [if_neg (by omega), show n + 1 - 1 = n by omega]
  have k := kid_nat F x n h hn hF
  have p := kid_pow n h0 (by omega)
  have pp := Nat.two_pow_pos (127 - n.toNat)
  obtain ⟨q, hq⟩ := (cut_dvd x n).mp h.2.2
  apply BitVec.eq_of_toNat_eq
  rw [cut_nat, k, hq, Nat.add_comm, Nat.add_mul_div_left _ _ (Nat.two_pow_pos _), Nat.div_eq_of_lt (by omega), Nat.zero_add, Nat.mul_comm]
theorem kid_sibL (F : Int) (x : BitVec 128) (n : Int) (h : Rt F x n) (hn : n < F) (hF : F ≤ 128) : sibV x (n + 1) = x ||| bit1 n ∧ sibN (n + 1) = n + 1 := by
  have h0 := h.1
  unfold sibV sibN
  rw [if_neg (by omega), if_neg (by omega), show n + 1 - 1 = n by omega]
  refine ⟨?_, rfl⟩
  apply BitVec.eq_of_getLsbD_eq
  intro j hj
  have := congrArg (fun z => z.getLsbD j) (kid_and F x n h hn hF)
  simp only [BitVec.getLsbD_and, BitVec.getLsbD_zero] at this
  rw [BitVec.getLsbD_xor, BitVec.getLsbD_or]
  revert this
  cases x.getLsbD j <;> cases (bit1 n).getLsbD j <;> simp
theorem kid_sibH (F : Int) (x : BitVec 128) (n : Int) (h : Rt F x n) (hn : n < F) (hF : F ≤ 128) : sibV (x ||| bit1 n) (n + 1) = x := by
  have h0 := h.1
  unfold sibV
  rw [if_neg (by omega), show n + 1 - 1 = n by omega]
  apply BitVec.eq_of_getLsbD_eq
  intro j hj
  have := congrArg (fun z => z.getLsbD j) (kid_and F x n h hn hF)
  simp only [BitVec.getLsbD_and, BitVec.getLsbD_zero] at this
  rw [BitVec.getLsbD_xor, BitVec.getLsbD_or]
  revert this
  cases x.getLsbD j <;> cases (bit1 n).getLsbD j <;> simp
theorem kid_cmpL (F : Int) (x : BitVec 128) (n : Int) : pcmpZ x n x (n + 1) = -1 := by
  rcases pcmp_ways x n x (n + 1) with ⟨h, e⟩ | ⟨h, e⟩ | ⟨h, e⟩
  · exact e
  · have := h.2; omega
  · rcases h with h | ⟨_, h⟩ <;> omega
theorem kid_cmpH (F : Int) (x : BitVec 128) (n : Int) (h : Rt F x n) (hn : n < F) (hF : F ≤ 128) : pcmpZ x (n + 1) (x ||| bit1 n) (n + 1) = -1 := by
  have k := kid_nat F x n h hn hF
  have pp := Nat.two_pow_pos (127 - n.toNat)
  rcases pcmp_ways x (n + 1) (x ||| bit1 n) (n + 1) with ⟨h, e⟩ | ⟨h, e⟩ | ⟨h, e⟩
  · exact e
  · have := congrArg BitVec.toNat h.1; omega
  · rcases h with h | ⟨_, h⟩ <;> omega
end Go.Proofs.YtmkjlcfoedglmaaDoor
/-
  What a call of package word's Text does.
-/
namespace Go.Proofs.YtmkjlcfoedglmaaDoor
open Go.RowKit
set_option linter.unusedSimpArgs false
set_option linter.unusedVariables false

/-- The number of the digit at place k, and its sign. -/
def nib (x : BitVec 128) (k : Nat) : Nat := (lv (x >>> (124 - 4 * k))).toNat % 16
def chN (d : Nat) : Nat := if d < 10 then 48 + d else 87 + d
theorem nib_lt (x : BitVec 128) (k : Nat) : nib x k < 16 := Nat.mod_lt _ (by decide)
theorem and15 (x : BitVec 128) (k : Nat) : bits .and .u64 (lI (x >>> (124 - 4 * k))) 15 = ((nib x k : Nat) : Int) := by
  unfold lI nib
  have h : bits .and .u64 ((lv (x >>> (124 - 4 * k))).toNat : Int) 15 = (((lv (x >>> (124 - 4 * k))).toNat &&& 15 : Nat) : Int) := bits_and_u64_nat _ 15 (BitVec.isLt _) (by decide)
  rw [h]
  congr 1
  exact Nat.and_two_pow_sub_one_eq_mod _ 4
theorem dig_tab (d : Nat) (h : d < 16) : ((⟨#[48, 49, 50, 51, 52, 53, 54, 55, 56, 57, 97, 98, 99, 100, 101, 102]⟩ : ByteArray)[d]'h).toNat = chN d := by
  have all : ∀ j : Fin 16, ((⟨#[48, 49, 50, 51, 52, 53, 54, 55, 56, 57, 97, 98, 99, 100, 101, 102]⟩ : ByteArray)[j.val]'j.isLt).toNat = chN j.val := by decide
  exact all ⟨d, h⟩

theorem new_cell (W : World) (o : Obj) (cs : Array Value) (t : TypeId) (j : Nat) : ((W.alloc o).alloc (.cells cs t)).cell? ⟨W.heap.size + 1, j, none⟩ = cs[j]? := by
  have h : ((W.alloc o).alloc (.cells cs t)).heap[W.heap.size + 1]? = some (.cells cs t) := by
    show ((W.heap.push o).push (.cells cs t))[W.heap.size + 1]? = _
    rw [Array.getElem?_push, if_pos (by simp)]
  unfold World.cell?
  rw [h]
  simp
theorem new_frozen (W : World) (o : Obj) (cs : Array Value) (t : TypeId) (j : Nat) : ((W.alloc o).alloc (.cells cs t)).frozen? ⟨W.heap.size + 1, j, none⟩ = false := by
  simp [go_sem]

theorem set_same {W : World} {B k : Nat} {u v : Value} (h : W.cell? ⟨B, k, none⟩ = some u) : (W.setCell ⟨B, k, none⟩ v).cell? ⟨B, k, none⟩ = some v := by
  simp [go_sem, h]
theorem set_other {W : World} {B k j : Nat} {v : Value} (h : ¬ k = j) : (W.setCell ⟨B, k, none⟩ v).cell? ⟨B, j, none⟩ = W.cell? ⟨B, j, none⟩ := by
  simp [go_sem, h]
/-- The text of a word, as bytes. -/
def txtL (x : BitVec 128) : List Int := (List.range 32).map fun j => (chN (nib x j) : Int)
def txtW (x : BitVec 128) : ByteArray := (txtL x).foldl (fun r n => r.push (UInt8.ofNat n.toNat)) ByteArray.empty
end Go.Proofs.YtmkjlcfoedglmaaDoor
/-
  What a call of the reference's Text does.
-/
namespace Go.Proofs.YtmkjlcfoedglmaaDoor
open Go.RowKit
set_option linter.unusedSimpArgs false
set_option linter.unusedVariables false

theorem bit_div (x : BitVec 128) (i : Int) (d : Nat) (h : i = 127 - (d : Int)) (hd : d ≤ 127) : bitZ x i = ((x.toNat / 2 ^ d % 2 : Nat) : Int) := by
  unfold bitZ
  rw [bitB_in x i (by omega) (by omega), show (127 - i).toNat = d from by omega]
  unfold BitVec.getLsbD
  rw [Nat.testBit_eq_decide_div_mod_eq]
  have : x.toNat / 2 ^ d % 2 = 0 ∨ x.toNat / 2 ^ d % 2 = 1 := by omega
  rcases this with e | e <;> simp [e]
theorem nib_div (x : BitVec 128) (k : Nat) : nib x k = x.toNat / 2 ^ (124 - 4 * k) % 16 := by
  unfold nib
  rw [lvN, BitVec.toNat_ushiftRight, Nat.shiftRight_eq_div_pow]
  omega
theorem nib_bits (x : BitVec 128) (k : Nat) (h : k < 32) : 8 * bitZ x (4 * (k : Int)) + 4 * bitZ x (4 * (k : Int) + 1) + 2 * bitZ x (4 * (k : Int) + 2) + bitZ x (4 * (k : Int) + 3) = ((nib x k : Nat) : Int) := by
  rw [bit_div x (4 * (k : Int)) (124 - 4 * k + 3) (by omega) (by omega), bit_div x (4 * (k : Int) + 1) (124 - 4 * k + 2) (by omega) (by omega), bit_div x (4 * (k : Int) + 2) (124 - 4 * k + 1) (by omega) (by omega), bit_div x (4 * (k : Int) + 3) (124 - 4 * k) (by omega) (by omega), nib_div]
  rw [Nat.pow_add, Nat.pow_add, Nat.pow_add, ← Nat.div_div_eq_div_mul, ← Nat.div_div_eq_div_mul, ← Nat.div_div_eq_div_mul]
  generalize x.toNat / 2 ^ (124 - 4 * k) = m
  omega

/-- The first k signs, as cells. -/
def cellsT (x : BitVec 128) (k : Nat) : List Value := (List.range k).map fun j => Value.int .u8 (chN (nib x j) : Int)
theorem cellsT_succ (x : BitVec 128) (k : Nat) : cellsT x (k + 1) = cellsT x k ++ [Value.int .u8 (chN (nib x k) : Int)] := by
  unfold cellsT; rw [List.range_succ]; simp
theorem cellsT_get (x : BitVec 128) (k j : Nat) (h : j < k) : (cellsT x k)[j]? = some (.int .u8 (chN (nib x j) : Int)) := by
  unfold cellsT
  simp [h]

theorem own_below {base e size n : Nat} {v : Value} {xs : List Value} {W w' : World} (hb : Below W.heap.size W w') (h : W.ownsRow base e size v n xs) : w'.ownsRow base e size v n xs := by
  refine h.kept (row := none) ⟨hb.os, hb.tape, hb.output, hb.size, fun k hk _ => hb.block k hk⟩ ?_
  cases v.ownBlock with
  | none => exact Or.inl rfl
  | some a => exact Or.inr (by simp)

theorem app_keep {w W w1 : World} {x : BitVec 128} {e size n : Nat} {v : Value} {xs : List Value} (o : W.ownsRow (w.heap.size + 1) e size v n xs) (g : W.grownBy w1 v.ownBlock)
    (k1 : W.cell? ⟨w.heap.size, 0, none⟩ = some (.int .u64 (hI x))) (k2 : W.cell? ⟨w.heap.size, 1, none⟩ = some (.int .u64 (lI x))) (k9 : Below w.heap.size w W) :
    w1.cell? ⟨w.heap.size, 0, none⟩ = some (.int .u64 (hI x)) ∧ w1.cell? ⟨w.heap.size, 1, none⟩ = some (.int .u64 (lI x)) ∧ Below w.heap.size w w1 := by
  have hne : some w.heap.size ≠ v.ownBlock := by
    intro h
    have := (o.lt _ h.symm).1
    omega
  refine ⟨g.cell k1 hne, g.cell k2 hne, k9.grown g k9.size ?_⟩
  intro j hj
  have := (o.lt _ hj).1
  omega
theorem al_keep {w W : World} {x : BitVec 128} (o : Obj)
    (k1 : W.cell? ⟨w.heap.size, 0, none⟩ = some (.int .u64 (hI x))) (k2 : W.cell? ⟨w.heap.size, 1, none⟩ = some (.int .u64 (lI x))) (k9 : Below w.heap.size w W) :
    (W.alloc o).cell? ⟨w.heap.size, 0, none⟩ = some (.int .u64 (hI x)) ∧ (W.alloc o).cell? ⟨w.heap.size, 1, none⟩ = some (.int .u64 (lI x)) ∧ Below w.heap.size w (W.alloc o) :=
  ⟨keepc (bl1 W o) k1, keepc (bl1 W o) k2, keepb (bl1 W o) k9⟩
theorem Tryd.infoB : (Tryd.prog.info? 5).map (fun i => (i.zero, i.size, i.bytes)) = some (some (.int .u8 0), 1, 1) := by kernel_rfl
end Go.Proofs.YtmkjlcfoedglmaaDoor
/-
  What a call of the reference's Text does: the walk.
-/
namespace Go.Proofs.YtmkjlcfoedglmaaDoor
open Go.RowKit
set_option linter.unusedSimpArgs false
set_option linter.unusedVariables false

theorem own_belowH {base e size n : Nat} {v : Value} {xs : List Value} {W w' : World} (hb : Below W.heap.size W w') (h : Hid (W.ownsRow base e size v n xs)) : Hid (w'.ownsRow base e size v n xs) := own_below hb h.out

theorem news_al (W : World) (v : Value) (t : TypeId) : ∀ j u, [v][j]? = some u → (W.alloc (.cells #[v] t)).cell? ((⟨W.heap.size, 0, none⟩ : Addr).add j) = some u := by
  intro j u hj
  match j, hj with
  | 0, hj => simp at hj; subst hj; simp [Addr.add, go_sem]
theorem one_al (k : IntKind) (n : Int) : ∀ u ∈ [Value.int k n], u.oneCell' = true := by
  intro u hu; simp at hu; subst hu; rfl

end Go.Proofs.YtmkjlcfoedglmaaDoor
/-
  What the calls of package ranges' checkRange and widest do; rows of prefixes in memory.
-/
namespace Go.Proofs.YtmkjlcfoedglmaaDoor
open Go.RowKit
set_option linter.unusedSimpArgs false
set_option linter.unusedVariables false

theorem At.app {W w1 : World} {B : Nat} {x : BitVec 128} {r : Option Nat} (h : At W B x) (g : W.grownBy w1 r) (hn : some B ≠ r) : At w1 B x := by
  obtain ⟨h0, h1, h2, h3, h4⟩ := h
  exact ⟨g.cell h0 hn, g.cell h1 hn, (g.frozen_far ⟨B, 0, none⟩ h4 hn).trans h2, (g.frozen_far ⟨B, 1, none⟩ h4 hn).trans h3, Nat.lt_of_lt_of_le h4 g.size⟩
theorem AtP.app {W w1 : World} {B : Nat} {x : BitVec 128} {n : Int} {r : Option Nat} (h : AtP W B x n) (g : W.grownBy w1 r) (hn : some B ≠ r) : AtP w1 B x n := by
  obtain ⟨h0, h1, h2, h3, h4, h5⟩ := h
  have lt := cell_in h0
  exact ⟨g.cell h0 hn, g.cell h1 hn, g.cell h2 hn, (g.frozen_far ⟨B, 0, none⟩ lt hn).trans h3, (g.frozen_far ⟨B, 1, none⟩ lt hn).trans h4, (g.frozen_far ⟨B, 2, none⟩ lt hn).trans h5⟩
/-- The cells of a row of prefixes. -/
def rowP : List (BitVec 128 × Int) → List Value
  | [] => []
  | p :: l => .int .u64 (hI p.1) :: .int .u64 (lI p.1) :: .int .i64 p.2 :: rowP l
theorem rowP_app : ∀ l m, rowP (l ++ m) = rowP l ++ rowP m := by
  intro l
  induction l with
  | nil => intro m; rfl
  | cons p l ih => intro m; simp [rowP, ih]
theorem rowP_one (l : List (BitVec 128 × Int)) (x : BitVec 128) (n : Int) : rowP (l ++ [(x, n)]) = rowP l ++ [.int .u64 (hI x), .int .u64 (lI x), .int .i64 n] := by rw [rowP_app]; rfl
theorem Tryd.infoP : (Tryd.prog.info? 31).map (fun i => (i.zero, i.size, i.bytes)) = some (some (.agg #[.int .u64 0, .int .u64 0, .int .i64 0]), 3, 24) := by kernel_rfl
theorem newsP (W : World) (a b c : Value) (t : TypeId) : ∀ j u, [a, b, c][j]? = some u → (W.alloc (.cells #[a, b, c] t)).cell? ((⟨W.heap.size, 0, none⟩ : Addr).add j) = some u := by
  intro j u hj
  match j, hj with
  | 0, hj => simp at hj; subst hj; simp [Addr.add, go_sem]
  | 1, hj => simp at hj; subst hj; simp [Addr.add, go_sem]
  | 2, hj => simp at hj; subst hj; simp [Addr.add, go_sem]
theorem threeP (a b : Int) (c : Int) : ∀ u ∈ [Value.int .u64 a, Value.int .u64 b, Value.int .i64 c], u.oneCell' = true := by
  intro u hu; simp at hu; rcases hu with rfl | rfl | rfl <;> rfl
theorem At.al {W : World} {B : Nat} {x : BitVec 128} (h : At W B x) (o : Obj) : At (W.alloc o) B x := h.below (bl1 W o)
theorem AtP.al {W : World} {B : Nat} {x : BitVec 128} {n : Int} (h : AtP W B x n) (o : Obj) : AtP (W.alloc o) B x n := h.below (bl1 W o)

/-- The error of a range. -/
def covE (F : Int) (a b : BitVec 128) : Int := if rightE F a = 0 then (if rightE F b = 0 then (if cmpZ b a < 0 then 19 else 0) else rightE F b) else rightE F a
theorem rightE_ways (F : Int) (x : BitVec 128) : rightE F x = 0 ∨ rightE F x = 6 ∨ rightE F x = 11 := by
  unfold rightE; split
  · split <;> simp
  · simp
set_option maxHeartbeats 2000000 in
theorem checkRange_any (F : Int) (a b : BitVec 128) (w : World) :
    Calls Tryd.prog 78 #[.int .i64 F, .agg #[.int .u64 (hI a), .int .u64 (lI a)], .agg #[.int .u64 (hI b), .int .u64 (lI b)]] w fun e w' => e = .returned (.int .i64 (covE F a b)) ∧ Below w.heap.size w w' := by
  have KA := fun w => aright_any F a w
  have KB := fun w => aright_any F b w
  have KC := fun w => cmp_any b a w
  unfold covE
  have hx := rightE_ways F a
  have hy := rightE_ways F b
  revert KA KB KC hx hy
  generalize rightE F a = ra
  generalize rightE F b = rb
  generalize cmpZ b a = c
  intro KA KB KC hx hy
  have L0 : ∀ (o p : Obj), Below w.heap.size w ((w.alloc o).alloc p) := fun o p => bl2 w o p
  go_enter Tryd.func78, Tryd.ntmps78
  have hA : At ((w.alloc (.cells #[.int .u64 (hI a), .int .u64 (lI a)] 27)).alloc (.cells #[.int .u64 (hI b), .int .u64 (lI b)] 27)) w.heap.size a := (at_new w w.heap.size a 27 rfl).al _
  have hB : At ((w.alloc (.cells #[.int .u64 (hI a), .int .u64 (lI a)] 27)).alloc (.cells #[.int .u64 (hI b), .int .u64 (lI b)] 27)) (w.heap.size + 1) b := at_new _ (w.heap.size + 1) b 27 (by simp)
  go_wp2_with fail
  refine (KA _).mono ?_
  rintro e w1 ⟨rfl, hb1⟩
  have hA := hA.below hb1
  have hB := hB.below hb1
  have kB := keepb hb1 (L0 _ _)
  clear hb1 KA L0
  by_cases h : ra = 0
  · subst h
    obtain ⟨b0, b1, -, -, -⟩ := id hB
    go_wp2_with fail
    refine (KB _).mono ?_
    rintro e w2 ⟨rfl, hb2⟩
    have hA := hA.below hb2
    have hB := hB.below hb2
    have kB := keepb hb2 kB
    clear hb2 KB b0 b1
    by_cases h : rb = 0
    · subst h
      obtain ⟨a0, a1, -, -, -⟩ := id hA
      obtain ⟨b0, b1, -, -, -⟩ := id hB
      go_wp2_with fail
      refine (KC _).mono ?_
      rintro e w3 ⟨rfl, hb3⟩
      have kB := keepb hb3 kB
      clear hb3 KC b0 b1 a0 a1 hA hB hx hy
      by_cases hc : c < 0
      · go_wp2
        go_ret
        exact ⟨by first | rfl | (simp [*]; done), kB⟩
      · go_wp2
        go_ret
        exact ⟨by first | rfl | (simp [*]; done), kB⟩
    · have hn : (rb != 0) = true := by simp [h]
      go_wp2
      go_ret
      exact ⟨by first | rfl | (simp [*]; done), kB⟩
  · have hn : (ra != 0) = true := by simp [h]
    go_wp2
    go_ret
    exact ⟨by first | rfl | (simp [*]; done), kB⟩
theorem lead_le (z : BitVec 128) : leadN z ≤ 128 := by
  unfold leadN; split <;> omega
set_option maxHeartbeats 4000000 in
theorem widest_any (F : Int) (a b : BitVec 128) (w : World) (hT : Tab w) :
    Calls Tryd.prog 79 #[.int .i64 F, .agg #[.int .u64 (hI a), .int .u64 (lI a)], .agg #[.int .u64 (hI b), .int .u64 (lI b)]] w fun e w' => e = .returned (.agg #[.int .u64 (hI a), .int .u64 (lI a), .int .i64 (widN F a b)]) ∧ Below w.heap.size w w' := by
  have KT := fun w h => trail_any a w h
  have KN := fun w => anext_any F b w
  have KC := fun w => wcommon_any a (nextV F b) w
  unfold widN
  have ht := trail_le a
  have hl := lead_le (a ^^^ nextV F b)
  revert KT KN KC ht hl
  generalize leadN (a ^^^ nextV F b) = ld
  generalize nextV F b = nx
  generalize nextB F b = ok
  generalize trailN a = tr
  intro KT KN KC ht hl
  go_enter Tryd.func79, Tryd.ntmps79
  have g0 : Below w.heap.size w (((w.alloc (.cells #[.int .u64 (hI a), .int .u64 (lI a)] 27)).alloc (.cells #[.int .u64 (hI b), .int .u64 (lI b)] 27)).alloc (.cells #[.int .u64 0, .int .u64 0, .int .i64 0] 31)) := bl3 w _ _ _
  have hT0 := hT.keep g0
  have hA : At (((w.alloc (.cells #[.int .u64 (hI a), .int .u64 (lI a)] 27)).alloc (.cells #[.int .u64 (hI b), .int .u64 (lI b)] 27)).alloc (.cells #[.int .u64 0, .int .u64 0, .int .i64 0] 31)) w.heap.size a := ((at_new w w.heap.size a 27 rfl).al _).al _
  have hB : At (((w.alloc (.cells #[.int .u64 (hI a), .int .u64 (lI a)] 27)).alloc (.cells #[.int .u64 (hI b), .int .u64 (lI b)] 27)).alloc (.cells #[.int .u64 0, .int .u64 0, .int .i64 0] 31)) (w.heap.size + 1) b := (at_new (w.alloc (.cells #[.int .u64 (hI a), .int .u64 (lI a)] 27)) (w.heap.size + 1) b 27 (by simp)).al _
  have hZ : AtP (((w.alloc (.cells #[.int .u64 (hI a), .int .u64 (lI a)] 27)).alloc (.cells #[.int .u64 (hI b), .int .u64 (lI b)] 27)).alloc (.cells #[.int .u64 0, .int .u64 0, .int .i64 0] 31)) (w.heap.size + 2) 0#128 0 := atp_new ((w.alloc (.cells #[.int .u64 (hI a), .int .u64 (lI a)] 27)).alloc (.cells #[.int .u64 (hI b), .int .u64 (lI b)] 27)) (w.heap.size + 2) 0#128 0 31 (by simp)
  go_wp2_with fail
  refine (KT _ hT0).mono ?_
  rintro e w1 ⟨rfl, hb1⟩
  have hA := hA.below hb1
  have hB := hB.below hb1
  have hZ := hZ.below hb1
  have kB := keepb hb1 g0
  clear hb1 KT g0 hT0 hT
  obtain ⟨b0, b1, -, -, -⟩ := id hB
  have t1 : IntKind.i64.wrap (128 - (tr : Int)) = 128 - (tr : Int) := by rw [IntKind.wrap_i64]; omega
  go_wp2_with fail
  refine (KN _).mono ?_
  rintro e w2 ⟨rfl, hb2⟩
  have hA := hA.below hb2
  have hZ := hZ.below hb2
  have kB := keepb hb2 kB
  clear hb2 KN b0 b1 hB
  have hN : At (w2.alloc (.cells #[.int .u64 (hI nx), .int .u64 (lI nx)] 27)) w2.heap.size nx := at_new w2 w2.heap.size nx 27 rfl
  have hA := hA.al (.cells #[.int .u64 (hI nx), .int .u64 (lI nx)] 27)
  have hZ := hZ.al (.cells #[.int .u64 (hI nx), .int .u64 (lI nx)] 27)
  have kB := kB.alloc kB.size (.cells #[.int .u64 (hI nx), .int .u64 (lI nx)] 27)
  obtain ⟨a0, a1, -, -, -⟩ := id hA
  obtain ⟨n0, n1, -, -, -⟩ := id hN
  cases ok
  · obtain ⟨z0, z1, z2, z3, z4, z5⟩ := id hZ
    go_wp2
    exact bodyPost_ret (v := .agg #[.int .u64 (hI a), .int .u64 (lI a), .int .i64 (128 - (tr : Int))]) (by simp [results, Tryd.results79, go_sem, *]) rfl ⟨by first | rfl | (simp [*]; done), bset3 kB (by omega) _ _ _⟩
  · go_wp2_with fail
    refine (KC _).mono ?_
    rintro e w3 ⟨rfl, hb3⟩
    have hA := hA.below hb3
    have hZ := hZ.below hb3
    have kB := keepb hb3 kB
    clear hb3 KC a0 a1 n0 n1 hN
    obtain ⟨a0, a1, -, -, -⟩ := id hA
    obtain ⟨z0, z1, z2, z3, z4, z5⟩ := id hZ
    have t2 : IntKind.i64.wrap ((ld : Int) + 1) = (ld : Int) + 1 := by rw [IntKind.wrap_i64]; omega
    go_wp2
    · exact bodyPost_ret (v := .agg #[.int .u64 (hI a), .int .u64 (lI a), .int .i64 ((ld : Int) + 1)]) (by simp [results, Tryd.results79, go_sem, *]) rfl ⟨by rw [Int.max_eq_right (by omega)], bset3 kB (by omega) _ _ _⟩
    · exact bodyPost_ret (v := .agg #[.int .u64 (hI a), .int .u64 (lI a), .int .i64 (128 - (tr : Int))]) (by simp [results, Tryd.results79, go_sem, *]) rfl ⟨by rw [Int.max_eq_left (by omega)], bset3 kB (by omega) _ _ _⟩
end Go.Proofs.YtmkjlcfoedglmaaDoor
/-
  What the call of package ranges' Cover does.
-/
namespace Go.Proofs.YtmkjlcfoedglmaaDoor
open Go.RowKit
set_option linter.unusedSimpArgs false
set_option linter.unusedVariables false

/-- What Cover tells. -/
def covT (F : Int) (a b : BitVec 128) : List (BitVec 128 × Int) := if covE F a b = 0 then covL F b (b.toNat - a.toNat + 1) a else []
theorem covE_rng (F : Int) (a b : BitVec 128) (h : covE F a b = 0) : Rng F a b := by
  unfold covE at h
  split at h
  · rename_i h1
    split at h
    · rename_i h2
      split at h
      · omega
      · rename_i h3
        rw [cmp_lt0] at h3
        exact ⟨h1, h2, by omega⟩
    · omega
  · omega
theorem covT_len (F : Int) (a b : BitVec 128) : (covT F a b).length ≤ 254 := by
  unfold covT
  split
  · rename_i h
    have r := covE_rng F a b h
    have := cov_len F a b (b.toNat - a.toNat + 1) r (by have := r.2.2; omega)
    obtain ⟨hf, _⟩ := right0 F a r.1
    have := (fam_bd F hf).2
    omega
  · simp
/-- The number that lies in a block of two cells. -/
def natAt (w : World) (B : Nat) : Nat := (intOf (cv w B 0)).toNat * 18446744073709551616 + (intOf (cv w B 1)).toNat
theorem natAt_of {w : World} {B : Nat} {x : BitVec 128} (h : At w B x) : natAt w B = x.toNat := by
  unfold natAt cv
  rw [h.1, h.2.1]
  have := x.isLt
  simp only [Option.getD_some, intOf]
  rw [hIN, lIN]
  omega
theorem own_base {w : World} {base base' e size n : Nat} {v : Value} {xs : List Value} (h : w.ownsRow base e size v n xs) (hb : base' ≤ base) : w.ownsRow base' e size v n xs := by
  refine ⟨h.1, ?_⟩
  rcases h.2 with hn | ⟨g, cap, cur, hv, h1, h2⟩
  · exact .inl hn
  · exact .inr ⟨g, cap, cur, hv, by omega, h2⟩
theorem own_set {w : World} {base e size n : Nat} {v : Value} {xs : List Value} (h : w.ownsRow base e size v n xs) (p : Addr) (u : Value) (hn : v.ownBlock ≠ some p.block) : (w.setCell p u).ownsRow base e size v n xs := by
  refine ⟨h.1, ?_⟩
  rcases h.2 with hn | ⟨g, cap, cur, rfl, hb, hgg, rest⟩
  · exact .inl hn
  · refine .inr ⟨g, cap, cur, rfl, hb, ?_, rest⟩
    rw [← hgg]
    simp only [Value.ownBlock] at hn
    exact Below.heap_setCell w p u g (fun e => hn (by rw [e]))
theorem len_le (T pre l : List (BitVec 128 × Int)) (h : T = pre ++ l) (hl : T.length ≤ 254) : pre.length + l.length ≤ 254 := by
  rw [h, List.length_append] at hl; exact hl
set_option maxRecDepth 20000 in
set_option maxHeartbeats 4000000 in
theorem cover_yes (F : Int) (a b : BitVec 128) (T : List (BitVec 128 × Int)) (k0 : Nat) (HC : T = covL F b (k0 + 1) a) (hk0 : b.toNat < a.toNat + (k0 + 1)) (HR : Rng F a b) (HL : T.length ≤ 254) (w : World) (hT : Tab w)
    (KC : ∀ w, Calls Tryd.prog 78 #[.int .i64 F, .agg #[.int .u64 (hI a), .int .u64 (lI a)], .agg #[.int .u64 (hI b), .int .u64 (lI b)]] w fun e w' => e = .returned (.int .i64 0) ∧ Below w.heap.size w w') :
    Calls Tryd.prog 61 #[.int .i64 F, .agg #[.int .u64 (hI a), .int .u64 (lI a)], .agg #[.int .u64 (hI b), .int .u64 (lI b)]] w fun e w' => (∃ v, e = .returned (.tuple #[v, .int .i64 0]) ∧ w'.ownsRow w.heap.size 31 3 v T.length (rowP T)) ∧ Below w.heap.size w w' := by
  obtain ⟨i0, hi, hz0, hz1, hz2⟩ := info_parts Tryd.infoP
  have HC : Hid (T = covL F b (k0 + 1) a) := HC
  have hk0 : Hid (b.toNat < a.toNat + (k0 + 1)) := hk0
  have HR : Hid (Rng F a b) := HR
  have HL : Hid (T.length ≤ 254) := HL
  have L0 : ∀ (o p : Obj), Below w.heap.size w ((w.alloc o).alloc p) := fun o p => bl2 w o p
  go_enter Tryd.func61, Tryd.ntmps61
  have hA : At ((w.alloc (.cells #[.int .u64 (hI a), .int .u64 (lI a)] 27)).alloc (.cells #[.int .u64 (hI b), .int .u64 (lI b)] 27)) w.heap.size a := (at_new w w.heap.size a 27 rfl).al _
  have hB : At ((w.alloc (.cells #[.int .u64 (hI a), .int .u64 (lI a)] 27)).alloc (.cells #[.int .u64 (hI b), .int .u64 (lI b)] 27)) (w.heap.size + 1) b := at_new _ (w.heap.size + 1) b 27 (by simp)
  go_wp2_with fail
  refine (KC _).mono ?_
  rintro e w1 ⟨rfl, hb1⟩
  have hA := hA.below hb1
  have hB := hB.below hb1
  have kB := keepb hb1 (L0 _ _)
  clear hb1 KC L0
  go_wp2_with fail
  go_loopw [9] (fun l wr => ∃ (pre : List (BitVec 128 × Int)) (k : Nat) (c : BitVec 128), Hid (T = pre ++ covL F b (k + 1) c) ∧ Hid (b.toNat < c.toNat + (k + 1)) ∧ Hid (Rng F c b) ∧ wr.ownsRow (w.heap.size + 2) 31 3 l pre.length (rowP pre) ∧ At wr w.heap.size c ∧ At wr (w.heap.size + 1) b ∧ Below w.heap.size w wr)
    (fun _ wr => b.toNat + 1 - natAt wr w.heap.size)
  case atStart => exact ⟨[], k0, a, HC, hk0, HR, World.ownsRow_nil _ _ _ _, hA, hB, kB⟩
  case round =>
    clear hA hB kB HC hk0 HR
    obtain ⟨pre, k, c, hT1, hk, hr, hown, hA, hB, kB⟩ := hrel
    obtain ⟨a0, a1, -, -, -⟩ := id hA
    obtain ⟨b0, b1, -, -, -⟩ := id hB
    have hAr : At wr w.heap.size c := hA
    have KW := widest_any F c b wr (hT.keep kB)
    have KL := fun w => plast_any F c (widN F c b) w
    have KN := fun w => anext_any F (lastW F c (widN F c b)) w
    have hE := fun w => eqW_run (lastW F c (widN F c b)) b w
    have HW : Hid (∀ q, (lastW F c (widN F c b) == b) = q → (q = true → covL F b (k + 1) c = [(c, widN F c b)]) ∧ (q = false → covL F b (k + 1) c = (c, widN F c b) :: covL F b k (nextV F (lastW F c (widN F c b))) ∧ Rng F (nextV F (lastW F c (widN F c b))) b ∧ c.toNat < (nextV F (lastW F c (widN F c b))).toNat)) := by
      intro q hq
      constructor
      · rintro rfl
        exact cov_end F b k c (by simpa using hq)
      · rintro rfl
        have hn : ¬ lastW F c (widN F c b) = b := by simpa using hq
        obtain ⟨n1, n2, n3⟩ := rng_next F c b hr.out hn
        exact ⟨cov_on F b k c hn, n2, by have := Nat.two_pow_pos (128 - (widN F c b).toNat); omega⟩
    have hlen : Hid (pre.length + 1 ≤ 254) := by
      show _ ≤ _
      have := len_le T pre _ hT1.out HL.out
      simp only [covL, List.length_cons] at this
      omega
    revert KW KL KN hE HW
    generalize nextV F (lastW F c (widN F c b)) = nx
    generalize nextB F (lastW F c (widN F c b)) = nb
    generalize lastW F c (widN F c b) = la
    generalize widN F c b = n
    intro KW KL KN hE HW
    have h63 : pre.length + 1 ≤ maxLen := by have := hlen.out; unfold maxLen; omega
    have h47 : (pre.length + 1) * 24 ≤ 140737488355328 := by have := hlen.out; omega
    go_wp2_with fail
    refine KW.mono ?_
    rintro e w2 ⟨rfl, hb2⟩
    clear KW a0 a1 b0 b1
    have hA2 := (hA.below hb2).al (.cells #[.int .u64 (hI c), .int .u64 (lI c), .int .i64 n] 31)
    have hB2 := (hB.below hb2).al (.cells #[.int .u64 (hI c), .int .u64 (lI c), .int .i64 n] 31)
    have hP2 := atp_new w2 w2.heap.size c n 31 rfl
    have kB2 := keepb hb2 kB
    have kB3 := kB2.alloc kB2.size (.cells #[.int .u64 (hI c), .int .u64 (lI c), .int .i64 n] 31)
    have hown2 := own_below hb2 hown
    have hs2 : w.heap.size + 2 ≤ w2.heap.size := by have := (hB.below hb2).2.2.2.2; omega
    have hgap : some w2.heap.size ≠ u9.ownBlock := by
      intro e
      have := (hown2.lt _ e.symm).2
      omega
    clear hown hA hB kB hb2
    obtain ⟨p0, p1, p2, -, -, -⟩ := id hP2
    go_wp2_with (first | (
          at_builtin
          refine wpList_append_lies _ rfl _ _ 92 rfl (w.heap.size + 2) 31 i0 (.agg #[.int .u64 0, .int .u64 0, .int .i64 0]) 3 24 Tryd.underlying92 hi hz0 hz1 hz2 rfl (by decide) _ _ _ rfl ((hown2.alloc _).alloc _) ⟨w2.heap.size + 1, 0, none⟩ 1 1 [.int .u64 (hI c), .int .u64 (lI c), .int .i64 n] rfl rfl (by simpa using newsP (w2.alloc (.cells #[.int .u64 (hI c), .int .u64 (lI c), .int .i64 n] 31)) (.int .u64 (hI c)) (.int .u64 (lI c)) (.int .i64 n) 31) (threeP _ _ _) (by decide) h63 h47 (by simp; omega) _ rfl ?_
          intro g4 cap4 w4 hown4 hgrow hat hlt4
          have hne0 : some w.heap.size ≠ u9.ownBlock := fun e => by have := (hown2.lt _ e.symm).1; omega
          have hne1 : some (w.heap.size + 1) ≠ u9.ownBlock := fun e => by have := (hown2.lt _ e.symm).1; omega
          have hA4 := (hA2.al _).app hgrow hne0
          have hB4 := (hB2.al _).app hgrow hne1
          have hP4 := (hP2.al _).app hgrow hgap
          have kB4 : Below w.heap.size w w4 := (kB3.alloc kB3.size _).grown hgrow (kB3.alloc kB3.size _).size (fun q hq => by have := (hown2.lt q hq).1; omega)
          have hrow4 : Hid (w4.ownsRow (w.heap.size + 2) 31 3 (.slice (some ⟨g4, 0, none⟩) (pre.length + 1) cap4) (pre ++ [(c, n)]).length (rowP (pre ++ [(c, n)]))) := by
            show World.ownsRow _ _ _ _ _ _ _
            rw [rowP_one, List.length_append]
            exact hown4
          clear hgrow hat hown4 hown2 hA2 hB2 hP2 kB2 kB3 hgap hne0 hne1 hs2 p0 p1 p2 hlt4 h63 h47 hi hz0 hz1 hz2
          obtain ⟨p0, p1, p2, -, -, -⟩ := id hP4))
    refine (KL _).mono ?_
    rintro e w5 ⟨rfl, hb5⟩
    have hA5 := (hA4.below hb5).al (.cells #[.int .u64 (hI la), .int .u64 (lI la)] 27)
    have hB5 := (hB4.below hb5).al (.cells #[.int .u64 (hI la), .int .u64 (lI la)] 27)
    have hL5 := at_new w5 w5.heap.size la 27 rfl
    have kB5 := keepb hb5 kB4
    have kB5 := kB5.alloc kB5.size (.cells #[.int .u64 (hI la), .int .u64 (lI la)] 27)
    have hrow5 : Hid (World.ownsRow _ _ _ _ _ _ _) := (own_below hb5 hrow4.out).alloc (.cells #[.int .u64 (hI la), .int .u64 (lI la)] 27)
    clear hA4 hB4 hP4 kB4 hrow4 hb5 p0 p1 p2 KL
    obtain ⟨b0, b1, -, -, -⟩ := id hB5
    obtain ⟨l0, l1, -, -, -⟩ := id hL5
    cases hq : (la == b)
    · rw [hq] at hE
      go_wp2_with fail
      refine (KN _).mono ?_
      rintro e w6 ⟨rfl, hb6⟩
      have hA6 := hA5.below hb6
      have hB6 := hB5.below hb6
      have kB6 := keepb hb6 kB5
      have hrow6 : Hid (World.ownsRow _ _ _ _ _ _ _) := own_below hb6 hrow5.out
      clear hA5 hB5 hL5 kB5 hrow5 hb6 KN b0 b1 l0 l1 hE
      obtain ⟨a0, a1, a2, a3, -⟩ := id hA6
      go_wp2
      go_roundw
      case rel =>
        obtain ⟨m1, m2, m3⟩ := (HW.out false hq).2 rfl
        cases k with
        | zero => exact absurd m2.2.2 (by have := hk.out; omega)
        | succ k =>
          refine ⟨pre ++ [(c, n)], k, nx, ?_, ?_, m2, own_set (own_set hrow6.out ⟨w.heap.size, 0, none⟩ _ ?_) ⟨w.heap.size, 1, none⟩ _ ?_, hA6.set nx, hB6.other _ _ (by omega), bset2 kB6 (Nat.le_refl _) _ _⟩
          · show T = _
            rw [hT1.out, m1, List.append_assoc]; rfl
          · show b.toNat < nx.toNat + (k + 1)
            have := hk.out; omega
          · intro e
            have := (hrow6.out.lt _ e).1
            simp only at this
            omega
          · intro e
            have := (hrow6.out.lt _ e).1
            simp only at this
            omega
      case measure =>
        obtain ⟨m1, m2, m3⟩ := (HW.out false hq).2 rfl
        rw [natAt_of (hA6.set nx), natAt_of hAr]
        have := m2.2.2
        omega
    · rw [hq] at hE
      go_wp2
      refine bodyPost_ret (v := .tuple #[.slice (some ⟨g4, 0, none⟩) (pre.length + 1) cap4, .int .i64 0]) (by simp [results, Tryd.results61, go_sem, *]) rfl ⟨⟨_, rfl, ?_⟩, kB5⟩
      have e : T = pre ++ [(c, n)] := by rw [hT1.out, (HW.out true hq).1 rfl]
      rw [e]
      exact own_base hrow5.out (by omega)
theorem cover_any (F : Int) (a b : BitVec 128) (w : World) (hT : Tab w) :
    Calls Tryd.prog 61 #[.int .i64 F, .agg #[.int .u64 (hI a), .int .u64 (lI a)], .agg #[.int .u64 (hI b), .int .u64 (lI b)]] w fun e w' => (∃ v, e = .returned (.tuple #[v, .int .i64 (covE F a b)]) ∧ w'.ownsRow w.heap.size 31 3 v (covT F a b).length (rowP (covT F a b))) ∧ Below w.heap.size w w' := by
  have KC := fun w => checkRange_any F a b w
  by_cases he : covE F a b = 0
  · have hr := covE_rng F a b he
    have hct : covT F a b = covL F b (b.toNat - a.toNat + 1) a := by unfold covT; rw [if_pos he]
    rw [he] at KC ⊢
    exact cover_yes F a b _ (b.toNat - a.toNat) hct (by have := hr.2.2; omega) hr (covT_len F a b) w hT KC
  · have ht : covT F a b = [] := by unfold covT; rw [if_neg he]
    rw [ht]
    revert he KC
    generalize covE F a b = r
    intro KC he
    have hn : (r != 0) = true := by simp [he]
    have L0 : ∀ (o p : Obj), Below w.heap.size w ((w.alloc o).alloc p) := fun o p => bl2 w o p
    go_enter Tryd.func61, Tryd.ntmps61
    go_wp2_with fail
    refine (KC _).mono ?_
    rintro e w1 ⟨rfl, hb1⟩
    have kB := keepb hb1 (L0 _ _)
    clear hb1 KC L0
    go_wp2
    exact bodyPost_ret (v := .tuple #[.slice none 0 0, .int .i64 r]) (by simp [results, Tryd.results61, go_sem, *]) rfl ⟨⟨_, rfl, World.ownsRow_nil _ _ _ _⟩, kB⟩
end Go.Proofs.YtmkjlcfoedglmaaDoor
/-
  Plain facts on a cover: it begins and ends with the range, without gaps, and no two siblings are in it.
-/
namespace Go.Proofs.YtmkjlcfoedglmaaDoor
open Go.RowKit
set_option linter.unusedSimpArgs false
set_option linter.unusedVariables false

theorem half_or (F : Int) (x : BitVec 128) (n : Int) (h : Rt F x n) (hn : 0 < n) (hF : F ≤ 128) : cutW x (n - 1) = x ∨ (cutW x (n - 1) ||| bit1 (n - 1) = x) := by
  have h0 := h.1
  have h1 := h.2.1
  cases hb : x.getLsbD (128 - n).toNat
  · left
    apply BitVec.eq_of_getLsbD_eq
    intro j hj
    rw [cut_bit x (n - 1) j hj]
    by_cases c : 128 - (n - 1).toNat ≤ j
    · rw [decide_eq_true c, Bool.and_true]
    · simp only [c, decide_false, Bool.and_false]
      by_cases d : j = (128 - n).toNat
      · rw [d, hb]
      · rw [rt_bit F x n h j hj (by omega)]
  · right
    apply BitVec.eq_of_getLsbD_eq
    intro j hj
    rw [BitVec.getLsbD_or, cut_bit x (n - 1) j hj, bit1_bit (n - 1) (by omega) j hj]
    by_cases c : 128 - (n - 1).toNat ≤ j
    · have e : ¬ (j : Int) = 127 - (n - 1) := by omega
      rw [decide_eq_true c, decide_eq_false e, Bool.and_true, Bool.or_false]
    · by_cases d : j = (128 - n).toNat
      · have e : (j : Int) = 127 - (n - 1) := by omega
        rw [d, hb]
        simp
        omega
      · have e : ¬ (j : Int) = 127 - (n - 1) := by omega
        rw [rt_bit F x n h j hj (by omega)]
        simp [c, e]
/-- The next one is not the sibling. -/
theorem no_sib (F : Int) (a b : BitVec 128) (h : Rng F a b) (hq : ¬ lastW F a (widN F a b) = b) (hn : 0 < widN F a b) :
    ¬ (sibV a (widN F a b) = nextV F (lastW F a (widN F a b)) ∧ sibN (widN F a b) = widN F (nextV F (lastW F a (widN F a b))) b) := by
  rintro ⟨e1, e2⟩
  obtain ⟨hr, hl⟩ := wid_rt F a b h
  obtain ⟨n1, n2, n3⟩ := rng_next F a b h hq
  obtain ⟨hr2, hl2⟩ := wid_rt F _ b n2
  obtain ⟨hf, ha⟩ := right0 F a h.1
  have hF := (fam_bd F hf).2
  have h1 := hr.2.1
  have pp := Nat.two_pow_pos (128 - (widN F a b).toNat)
  have iff := wid_iff F a b h.1 h.2.1 h.2.2 (widN F a b - 1) (by omega) (by omega)
  unfold sibN at e2
  rw [if_neg (by omega)] at e2
  rw [← e2] at hl2 hr2
  generalize hw : widN F a b = n at *
  unfold sibV at e1
  rw [if_neg (by omega)] at e1
  have hz : Rt F (cutW a (n - 1)) (n - 1) := ⟨by omega, by omega, maskW_idem a (n - 1)⟩
  rcases half_or F a n hr hn hF with q | q
  · rw [q] at hz
    have s := (kid_sibL F a (n - 1) hz (by omega) hF).1
    unfold sibV at s
    rw [if_neg (by omega), show n - 1 + 1 = n by omega] at s
    have k := kid_last F a (n - 1) hz (by omega) hF
    rw [show n - 1 + 1 = n by omega, ← s, e1] at k
    rw [k] at hl2
    have := iff.mp ⟨q, hl2⟩
    omega
  · have s := kid_sibH F (cutW a (n - 1)) (n - 1) hz (by omega) hF
    unfold sibV at s
    rw [if_neg (by omega), show n - 1 + 1 = n by omega, q, e1] at s
    have k := kid_nat F (cutW a (n - 1)) (n - 1) hz (by omega) hF
    rw [q, ← s] at k
    have := Nat.two_pow_pos (127 - (n - 1).toNat)
    omega
/-- One behind the other. -/
def Lnk (F : Int) (p q : BitVec 128 × Int) : Prop := nextB F (lastW F p.1 p.2) = true ∧ q.1 = nextV F (lastW F p.1 p.2) ∧ ¬ (0 < p.2 ∧ sibV p.1 p.2 = q.1 ∧ sibN p.2 = q.2)
theorem cov_good (F : Int) (b : BitVec 128) : ∀ k a, Rng F a b → b.toNat < a.toNat + k → ∀ T, T = covL F b k a → 0 < T.length ∧ (∀ (h : 0 < T.length), T[0].1 = a) ∧
    (∀ i (h : i < T.length), Rt F T[i].1 T[i].2) ∧ (∀ i (h : i + 1 < T.length), Lnk F T[i] T[i + 1]) ∧ (∀ i (h : i < T.length), i + 1 = T.length → lastW F T[i].1 T[i].2 = b) := by
  intro k
  induction k with
  | zero => intro a h hk; have := h.2.2; omega
  | succ k ih =>
    intro a h hk T hT
    obtain ⟨hr, hl⟩ := wid_rt F a b h
    by_cases q : lastW F a (widN F a b) = b
    · have e := cov_end F b k a q
      rw [e] at hT
      subst hT
      refine ⟨by simp, by simp, ?_, by simp, ?_⟩
      · intro i hi
        have : i = 0 := by simpa using hi
        subst this
        exact hr
      · intro i hi _
        have : i = 0 := by simpa using hi
        subst this
        exact q
    · have e := cov_on F b k a q
      obtain ⟨n1, n2, n3⟩ := rng_next F a b h q
      have pp := Nat.two_pow_pos (128 - (widN F a b).toNat)
      obtain ⟨R, hR⟩ : ∃ R, R = covL F b k (nextV F (lastW F a (widN F a b))) := ⟨_, rfl⟩
      obtain ⟨i1, i2, i3, i4, i5⟩ := ih _ n2 (by omega) R hR
      -- the head of the rest
      have hd : ∀ (h : 0 < R.length), R[0].2 = widN F (nextV F (lastW F a (widN F a b))) b := by
        intro h'
        cases k with
        | zero => rw [hR] at h'; simp [covL] at h'
        | succ k =>
          have : R = covL F b (k + 1) (nextV F (lastW F a (widN F a b))) := hR
          rw [covL] at this
          subst this
          rfl
      have ns := fun hn => no_sib F a b h q hn
      rw [e, ← hR] at hT
      subst hT
      refine ⟨by simp, by simp, ?_, ?_, ?_⟩
      · intro i hi
        cases i with
        | zero => exact hr
        | succ i => exact i3 i (by simpa using hi)
      · intro i hi
        cases i with
        | zero =>
          refine ⟨n1, i2 i1, ?_⟩
          rintro ⟨c1, c2, c3⟩
          refine ns c1 ⟨?_, ?_⟩
          · rw [← i2 i1]; exact c2
          · rw [← hd i1]; exact c3
        | succ i => exact i4 i (by simpa using hi)
      · intro i hi hl'
        cases i with
        | zero => simp at hl'; rw [hl'] at i1; simp at i1
        | succ i => exact i5 i (by simpa using hi) (by simpa using hl')
end Go.Proofs.YtmkjlcfoedglmaaDoor
