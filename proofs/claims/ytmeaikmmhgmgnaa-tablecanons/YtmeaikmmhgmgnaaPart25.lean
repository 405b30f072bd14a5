/-
  Part 25 of the proof: 3 texts, one behind the other.
-/
import Derived.Test.YtmeaikmmhgmgnaaPart2
import Derived.Deep.AppendLies
import Derived.Deep.RegionHeld3
import Derived.Test.YtmeaikmmhgmgnaaPart22
import Derived.Test.YtmeaikmmhgmgnaaPart24
import Derived.Test.YtmeaikmmhgmgnaaPart10
import Derived.Test.YtmeaikmmhgmgnaaPart9
import Derived.Test.YtmeaikmmhgmgnaaPart5
import Derived.Test.YtmeaikmmhgmgnaaPart11
/-
  What a call of package word's Text does.
-/
namespace Go.Proofs.Ytmeaikmmhgmgnaa
open Go.RowKit
set_option linter.unusedSimpArgs false
set_option linter.unusedVariables false

/-- The number of the digit at place k, and its sign. -/
def nib (x : BitVec 128) (k : Nat) : Nat := (lv (x >>> (124 - 4 * k))).toNat % 16
def chN (d : Nat) : Nat := if d < 10 then 48 + d else 87 + d
theorem nib_lt (x : BitVec 128) (k : Nat) : nib x k < 16 := Nat.mod_lt _ (by decide)
theorem and15 (x : BitVec 128) (k : Nat) : bits .and .u64 (lI (x >>> (124 - 4 * k))) 15 = ((nib x k : Nat) : Int) := by
  unfold lI nib
  have h : bits .and .u64 ((lv (x >>> (124 - 4 * k))).toNat : Int) 15 = (((lv (x >>> (124 - 4 * k))).toNat &&& 15 : Nat) : Int) := bits_and_u64_nat _ 15 (BitVec.isLt _) (by decide)
  rw [h]
  congr 1
  exact Nat.and_two_pow_sub_one_eq_mod _ 4
theorem dig_tab (d : Nat) (h : d < 16) : ((⟨#[48, 49, 50, 51, 52, 53, 54, 55, 56, 57, 97, 98, 99, 100, 101, 102]⟩ : ByteArray)[d]'h).toNat = chN d := by
  have all : ∀ j : Fin 16, ((⟨#[48, 49, 50, 51, 52, 53, 54, 55, 56, 57, 97, 98, 99, 100, 101, 102]⟩ : ByteArray)[j.val]'j.isLt).toNat = chN j.val := by decide
  exact all ⟨d, h⟩

theorem new_cell (W : World) (o : Obj) (cs : Array Value) (t : TypeId) (j : Nat) : ((W.alloc o).alloc (.cells cs t)).cell? ⟨W.heap.size + 1, j, none⟩ = cs[j]? := by
  have h : ((W.alloc o).alloc (.cells cs t)).heap[W.heap.size + 1]? = some (.cells cs t) := by
    show ((W.heap.push o).push (.cells cs t))[W.heap.size + 1]? = _
    rw [Array.getElem?_push, if_pos (by simp)]
  unfold World.cell?
  rw [h]
  simp
theorem new_frozen (W : World) (o : Obj) (cs : Array Value) (t : TypeId) (j : Nat) : ((W.alloc o).alloc (.cells cs t)).frozen? ⟨W.heap.size + 1, j, none⟩ = false := by
  simp [go_sem]

theorem set_same {W : World} {B k : Nat} {u v : Value} (h : W.cell? ⟨B, k, none⟩ = some u) : (W.setCell ⟨B, k, none⟩ v).cell? ⟨B, k, none⟩ = some v := by
  simp [go_sem, h]
theorem set_other {W : World} {B k j : Nat} {v : Value} (h : ¬ k = j) : (W.setCell ⟨B, k, none⟩ v).cell? ⟨B, j, none⟩ = W.cell? ⟨B, j, none⟩ := by
  simp [go_sem, h]
/-- The text of a word, as bytes. -/
def txtL (x : BitVec 128) : List Int := (List.range 32).map fun j => (chN (nib x j) : Int)
def txtW (x : BitVec 128) : ByteArray := (txtL x).foldl (fun r n => r.push (UInt8.ofNat n.toNat)) ByteArray.empty
theorem txt_conv (x : BitVec 128) (w : World) (B : Nat) (hc : ∀ j, j < 32 → w.cell? ⟨B, j, none⟩ = some (.int .u8 (chN (nib x j) : Int))) :
    (convert 50 9 (.slice (some ⟨B, 0, none⟩) 32 32)).run Try.prog w = .ok (.string (txtW x)) w := by
  rw [run_convert_bytes_string w 50 9 5 _ _ _ Try.underlying50 Try.underlying5 Try.underlying9]
  refine run_bytesToString w ⟨B, 0, none⟩ 32 32 (txtL x) ?_
  have h := run_loadCells_list (P := Try.prog) (w := w) ⟨B, 0, none⟩ ((txtL x).map (Value.int .u8)) (by
    intro j v hv
    unfold txtL at hv
    simp only [List.map_map, List.getElem?_map] at hv
    by_cases hj : j < 32
    · have e : (List.range 32)[j]? = some j := by simp [hj]
      rw [e] at hv
      simp at hv
      have := hc j hj
      have ea : (⟨B, 0, none⟩ : Addr).add j = ⟨B, j, none⟩ := by cases j <;> simp [Addr.add]
      rw [ea, this, ← hv]
    · have e : (List.range 32)[j]? = none := by simp; omega
      rw [e] at hv; cases hv)
  have hl : ((txtL x).map (Value.int .u8)).length = 32 := by unfold txtL; simp
  rw [hl] at h
  exact h

end Go.Proofs.Ytmeaikmmhgmgnaa
/-
  What a call of the reference's Text does.
-/
namespace Go.Proofs.Ytmeaikmmhgmgnaa
open Go.RowKit
set_option linter.unusedSimpArgs false
set_option linter.unusedVariables false

theorem bit_div (x : BitVec 128) (i : Int) (d : Nat) (h : i = 127 - (d : Int)) (hd : d ≤ 127) : bitZ x i = ((x.toNat / 2 ^ d % 2 : Nat) : Int) := by
  unfold bitZ
  rw [bitB_in x i (by omega) (by omega), show (127 - i).toNat = d from by omega]
  unfold BitVec.getLsbD
  rw [Nat.testBit_eq_decide_div_mod_eq]
  have : x.toNat / 2 ^ d % 2 = 0 ∨ x.toNat / 2 ^ d % 2 = 1 := by omega
  rcases this with e | e <;> simp [e]
theorem nib_div (x : BitVec 128) (k : Nat) : nib x k = x.toNat / 2 ^ (124 - 4 * k) % 16 := by
  unfold nib
  rw [lvN, BitVec.toNat_ushiftRight, Nat.shiftRight_eq_div_pow]
  omega
theorem nib_bits (x : BitVec 128) (k : Nat) (h : k < 32) : 8 * bitZ x (4 * (k : Int)) + 4 * bitZ x (4 * (k : Int) + 1) + 2 * bitZ x (4 * (k : Int) + 2) + bitZ x (4 * (k : Int) + 3) = ((nib x k : Nat) : Int) := by
  rw [bit_div x (4 * (k : Int)) (124 - 4 * k + 3) (by omega) (by omega), bit_div x (4 * (k : Int) + 1) (124 - 4 * k + 2) (by omega) (by omega), bit_div x (4 * (k : Int) + 2) (124 - 4 * k + 1) (by omega) (by omega), bit_div x (4 * (k : Int) + 3) (124 - 4 * k) (by omega) (by omega), nib_div]
  rw [Nat.pow_add, Nat.pow_add, Nat.pow_add, ← Nat.div_div_eq_div_mul, ← Nat.div_div_eq_div_mul, ← Nat.div_div_eq_div_mul]
  generalize x.toNat / 2 ^ (124 - 4 * k) = m
  omega

/-- The first k signs, as cells. -/
def cellsT (x : BitVec 128) (k : Nat) : List Value := (List.range k).map fun j => Value.int .u8 (chN (nib x j) : Int)
theorem cellsT_succ (x : BitVec 128) (k : Nat) : cellsT x (k + 1) = cellsT x k ++ [Value.int .u8 (chN (nib x k) : Int)] := by
  unfold cellsT; rw [List.range_succ]; simp
theorem cellsT_get (x : BitVec 128) (k j : Nat) (h : j < k) : (cellsT x k)[j]? = some (.int .u8 (chN (nib x j) : Int)) := by
  unfold cellsT
  simp [h]

theorem own_below {base e size n : Nat} {v : Value} {xs : List Value} {W w' : World} (hb : Below W.heap.size W w') (h : W.ownsRow base e size v n xs) : w'.ownsRow base e size v n xs := by
  refine h.kept (row := none) ⟨hb.os, hb.tape, hb.output, hb.size, fun k hk _ => hb.block k hk⟩ ?_
  cases v.ownBlock with
  | none => exact Or.inl rfl
  | some a => exact Or.inr (by simp)

theorem txt_convR (x : BitVec 128) (w : World) (B c : Nat) (hc : ∀ j, j < 32 → w.cell? ⟨B, j, none⟩ = some (.int .u8 (chN (nib x j) : Int))) :
    (convert 50 9 (.slice (some ⟨B, 0, none⟩) 32 c)).run Try.prog w = .ok (.string (txtW x)) w := by
  rw [run_convert_bytes_string w 50 9 5 _ _ _ Try.underlying50 Try.underlying5 Try.underlying9]
  refine run_bytesToString w ⟨B, 0, none⟩ 32 c (txtL x) ?_
  have h := run_loadCells_list (P := Try.prog) (w := w) ⟨B, 0, none⟩ ((txtL x).map (Value.int .u8)) (by
    intro j v hv
    unfold txtL at hv
    simp only [List.map_map, List.getElem?_map] at hv
    by_cases hj : j < 32
    · have e : (List.range 32)[j]? = some j := by simp [hj]
      rw [e] at hv
      simp at hv
      have := hc j hj
      have ea : (⟨B, 0, none⟩ : Addr).add j = ⟨B, j, none⟩ := by cases j <;> simp [Addr.add]
      rw [ea, this, ← hv]
    · have e : (List.range 32)[j]? = none := by simp; omega
      rw [e] at hv; cases hv)
  have hl : ((txtL x).map (Value.int .u8)).length = 32 := by unfold txtL; simp
  rw [hl] at h
  exact h

theorem app_keep {w W w1 : World} {x : BitVec 128} {e size n : Nat} {v : Value} {xs : List Value} (o : W.ownsRow (w.heap.size + 1) e size v n xs) (g : W.grownBy w1 v.ownBlock)
    (k1 : W.cell? ⟨w.heap.size, 0, none⟩ = some (.int .u64 (hI x))) (k2 : W.cell? ⟨w.heap.size, 1, none⟩ = some (.int .u64 (lI x))) (k9 : Below w.heap.size w W) :
    w1.cell? ⟨w.heap.size, 0, none⟩ = some (.int .u64 (hI x)) ∧ w1.cell? ⟨w.heap.size, 1, none⟩ = some (.int .u64 (lI x)) ∧ Below w.heap.size w w1 := by
  have hne : some w.heap.size ≠ v.ownBlock := by
    intro h
    have := (o.lt _ h.symm).1
    omega
  refine ⟨g.cell k1 hne, g.cell k2 hne, k9.grown g k9.size ?_⟩
  intro j hj
  have := (o.lt _ hj).1
  omega
theorem al_keep {w W : World} {x : BitVec 128} (o : Obj)
    (k1 : W.cell? ⟨w.heap.size, 0, none⟩ = some (.int .u64 (hI x))) (k2 : W.cell? ⟨w.heap.size, 1, none⟩ = some (.int .u64 (lI x))) (k9 : Below w.heap.size w W) :
    (W.alloc o).cell? ⟨w.heap.size, 0, none⟩ = some (.int .u64 (hI x)) ∧ (W.alloc o).cell? ⟨w.heap.size, 1, none⟩ = some (.int .u64 (lI x)) ∧ Below w.heap.size w (W.alloc o) :=
  ⟨keepc (bl1 W o) k1, keepc (bl1 W o) k2, keepb (bl1 W o) k9⟩
theorem Try.infoB : (Try.prog.info? 5).map (fun i => (i.zero, i.size, i.bytes)) = some (some (.int .u8 0), 1, 1) := by kernel_rfl
end Go.Proofs.Ytmeaikmmhgmgnaa
/-
  What the call of turnpikeref5's Set does.
-/
namespace Go.Proofs.Ytmeaikmmhgmgnaa
open Go.RowKit
set_option linter.unusedSimpArgs false
set_option linter.unusedVariables false

def CR5 (w4 : World) (g o b : Nat) (qx : BitVec 128) (qn : Int) (x : BitVec 128) (pn : Int) (W : World) : Prop := (W.cell? ⟨g, o, none⟩ = some (.int .u64 (hI qx)) ∧ W.cell? ⟨g, o + 1, none⟩ = some (.int .u64 (lI qx)) ∧ W.cell? ⟨g, o + 2, none⟩ = some (.int .i64 qn)) ∧ (W.cell? ⟨b, 0, none⟩ = some (.int .u64 (hI x)) ∧ W.cell? ⟨b, 1, none⟩ = some (.int .u64 (lI x)) ∧ W.cell? ⟨b, 2, none⟩ = some (.int .i64 pn)) ∧ Below w4.heap.size w4 W
theorem CR5.below {w4 W W' : World} {g o b : Nat} {qx x : BitVec 128} {qn pn : Int} (h : CR5 w4 g o b qx qn x pn W) (hb : Below W.heap.size W W') : CR5 w4 g o b qx qn x pn W' := ⟨⟨keepc hb h.1.1, keepc hb h.1.2.1, keepc hb h.1.2.2⟩, ⟨keepc hb h.2.1.1, keepc hb h.2.1.2.1, keepc hb h.2.1.2.2⟩, keepb hb h.2.2⟩
theorem CR5.drew {w4 W : World} {g o b : Nat} {qx x : BitVec 128} {qn pn : Int} (h : CR5 w4 g o b qx qn x pn W) : CR5 w4 g o b qx qn x pn W.drew := h.below (below_drewN (Below.refl _ _) 1)
theorem stopHereW {P : Program} {w : World} {ops : Array Oper} {rest : List Oper} {a : Act} {Q : Exit → Act → World → Prop} {o : Oper} (h : Hid (wpList P ops Q (o :: rest) a w)) : wpList P ops Q (o :: rest) a w := h.out
theorem grown_set2 {w W : World} {r : Option Nat} {g : Nat} (h : w.grownBy W r) (hg : r = some g ∨ w.heap.size ≤ g) (i j : Nat) (u v : Value) : w.grownBy ((W.setCell ⟨g, i, none⟩ u).setCell ⟨g, j, none⟩ v) r := by
  have b : Below 0 W ((W.setCell ⟨g, i, none⟩ u).setCell ⟨g, j, none⟩ v) := ((Below.refl _ _).setCell (Nat.zero_le _) u).setCell (Nat.zero_le _) v
  refine ⟨by rw [b.os, h.os], by rw [b.tape, h.tape], by rw [b.output, h.output], Nat.le_trans h.size b.size, fun z h1 h2 => ?_⟩
  have hne : ¬ z = g := by
    rintro rfl
    rcases hg with q | q
    · exact h2 q.symm
    · omega
  rw [hSet _ hne, hSet _ hne, h.block z h1 h2]
theorem below_grown {w W : World} {r : Option Nat} (h : Below w.heap.size w W) : w.grownBy W r := ⟨h.os, h.tape, h.output, h.size, fun z h1 _ => h.block z h1⟩
/-- What Set leaves of memory: the row is changed in its own place, or made anew. -/
def PtR (base : Nat) (v : Value) (S : List Rte) (w : World) (v' : Value) (w' : World) : Prop := w'.ownsRow base 40 4 v' S.length (rowR S) ∧ w.grownBy w' v.ownBlock ∧ (∀ z, v'.ownBlock = some z → v.ownBlock = some z ∨ w.heap.size ≤ z)
theorem set_midR (S : List Rte) (k : Nat) (hk : k ≤ S.length) (d q : Rte) : (S.take k ++ d :: S.drop k).set k q = S.take k ++ q :: S.drop k := by
  rw [List.set_append_right _ _ (by simp; omega)]
  congr 1
  have : k - (S.take k).length = 0 := by simp; omega
  rw [this]
  rfl
theorem mid_backR (S : List Rte) (k : Nat) (hk : k < S.length) : S.take (k + 1) ++ S[k] :: S.drop (k + 1) = S.take k ++ S[k] :: S.drop k := by
  rw [List.take_succ_eq_append_getElem hk, List.append_assoc]
  congr 1
  rw [List.drop_eq_getElem_cons hk]
  rfl
set_option maxRecDepth 20000 in
set_option maxHeartbeats 16000000 in
theorem rset_any (base : Nat) (v : Value) (S : List Rte) (x : BitVec 128) (pn h : Int) (w : World) (hown : w.ownsRow base 40 4 v S.length (rowR S)) (hbs : base ≤ w.heap.size) (hl : S.length ≤ 1000000000) :
    Calls Try.prog 24 #[v, .agg #[.int .u64 (hI x), .int .u64 (lI x), .int .i64 pn, .int .i64 h]] w fun e w' => ∃ v', e = .returned v' ∧ PtR base v (setF S ((x, pn), h)) w v' w' := by
  obtain ⟨i0, hi, hz0, hz1, hz2⟩ := info_parts Try.infoR
  obtain ⟨k, hk⟩ : ∃ k, k = S.length := ⟨_, rfl⟩
  rw [← hk] at hown hl
  obtain ⟨oo, oc, rfl⟩ := own_form hown
  have hS0 : S.length = k := hk.symm
  have HNX : Hid (Value.ownBlock (.slice oo k oc) ≠ some w.heap.size) := hidR (fun e => by have := (hown.lt _ e).2; omega)
  have HNG : Hid (∀ g, (Value.ownBlock (.slice oo k oc) = some g ∨ w.heap.size + 1 ≤ g) → ¬ w.heap.size = g) := hidR (fun g h e => by
    rcases h with h | h
    · exact HNX.out (by rw [h, e])
    · omega)
  have b0 := bl1 w (.cells #[.int .u64 (hI x), .int .u64 (lI x), .int .i64 pn, .int .i64 h] 40)
  have HO := hidR hown
  have HX : Hid ((w.alloc (.cells #[.int .u64 (hI x), .int .u64 (lI x), .int .i64 pn, .int .i64 h] 40)).heap[w.heap.size]? = some (.cells #[.int .u64 (hI x), .int .u64 (lI x), .int .i64 pn, .int .i64 h] 40)) := hidR Array.getElem?_push_size
  have HB := hidR b0
  have mk0 : IntKind.i64.wrap ((k : Int) + 1 - 1) = (k : Int) := by rw [IntKind.wrap_i64]; omega
  have mk1 : IntKind.i64.wrap (k : Int) = (k : Int) := by rw [IntKind.wrap_i64]; omega
  have h47 : (k + 1) * 32 ≤ 140737488355328 := by omega
  have h63 : k + 1 ≤ maxLen := by unfold maxLen; omega
  obtain ⟨W0, hW0⟩ : ∃ W0, W0 = w.alloc (.cells #[.int .u64 (hI x), .int .u64 (lI x), .int .i64 pn, .int .i64 h] 40) := ⟨_, rfl⟩
  clear hown hk b0
  go_enter Try.func24, Try.ntmps24
  go_wp2_with fail
  rw [← hW0] at HX HB
  try rw [← hW0]
  go_loopw [5] (fun i w5 => ∃ a : Nat, a ≤ k ∧ i = .int .i64 a ∧ Hid (∀ q ∈ S.drop a, cmR ((x, pn), h) q < 0) ∧ Hid (Below W0.heap.size W0 w5)) (fun i _ => (intOf i).toNat)
  case atStart => exact ⟨k, by omega, rfl, hidR (fun q hq => by rw [List.drop_eq_nil_of_le (by omega)] at hq; cases hq), hidR (by first | exact Below.refl _ _ | (rw [hW0]; exact Below.refl _ _))⟩
  case round =>
    obtain ⟨a, ha, rfl, HQ, HB5⟩ := hrel
    have HBw := hidR (keepb HB5.out HB.out)
    have hsz : W0.heap.size = w.heap.size + 1 := by rw [hW0]; simp
    cases a with
    | zero =>
      have hC := HB5.out.drew
      have hz00 : ((0 : Nat) : Int) = 0 := rfl
      rw [hz00]
      have HP := hidR (setF_zero HQ.out)
      have HXs : Hid (w.heap.size < W0.heap.size) := hidR (by omega)
      clear hz00
      go_wp2_with fail
      refine qw_region (C := fun W => Below W0.heap.size W0 W) (by kernel_rfl) (by kernel_rfl) hC ?_
      clear hC
      refine qw_run (v := .int .i64 0) (by rfl) ?_ ?_
      · (intro w1 hC; clear hC; go_simp; first | done | (simp; done) | (simp [*]; done) | omega | (simp; omega) | (rw [IntKind.wrap_i64]; omega) | (intro hx; omega) | rfl)
      simp only [Act.put, List.setIfInBounds_toArray, List.set_cons_zero, List.set_cons_succ]
      refine qw_run (v := .bool false) (by rfl) ?_ ?_
      · (intro w1 hC; clear hC; go_simp; first | done | (simp; done) | (simp [*]; done) | omega | (simp; omega) | (rw [IntKind.wrap_i64]; omega) | (intro hx; omega) | rfl)
      simp only [Act.put, List.setIfInBounds_toArray, List.set_cons_zero, List.set_cons_succ]
      refine qw_run (v := .bool false) (by rfl) ?_ ?_
      · (intro w1 hC; clear hC; go_simp; first | done | (simp; done) | (simp [*]; done) | omega | (simp; omega) | (rw [IntKind.wrap_i64]; omega) | (intro hx; omega) | rfl)
      simp only [Act.put, List.setIfInBounds_toArray, List.set_cons_zero, List.set_cons_succ]
      refine qw_skip (by rfl) ?_
      simp only [Act.put, List.setIfInBounds_toArray, List.set_cons_zero, List.set_cons_succ]
      refine qw_skip (by rfl) ?_
      simp only [Act.put, List.setIfInBounds_toArray, List.set_cons_zero, List.set_cons_succ]
      refine qw_skip (by rfl) ?_
      simp only [Act.put, List.setIfInBounds_toArray, List.set_cons_zero, List.set_cons_succ]
      refine qw_skip (by rfl) ?_
      simp only [Act.put, List.setIfInBounds_toArray, List.set_cons_zero, List.set_cons_succ]
      refine qw_skip (by rfl) ?_
      simp only [Act.put, List.setIfInBounds_toArray, List.set_cons_zero, List.set_cons_succ]
      refine qw_skip (by rfl) ?_
      simp only [Act.put, List.setIfInBounds_toArray, List.set_cons_zero, List.set_cons_succ]
      refine qw_skip (by rfl) ?_
      simp only [Act.put, List.setIfInBounds_toArray, List.set_cons_zero, List.set_cons_succ]
      refine qw_skip (by rfl) ?_
      simp only [Act.put, List.setIfInBounds_toArray, List.set_cons_zero, List.set_cons_succ]
      refine qw_skip (by rfl) ?_
      simp only [Act.put, List.setIfInBounds_toArray, List.set_cons_zero, List.set_cons_succ]
      refine qw_skip (by rfl) ?_
      simp only [Act.put, List.setIfInBounds_toArray, List.set_cons_zero, List.set_cons_succ]
      refine qw_run (v := .bool false) (by rfl) ?_ ?_
      · (intro w1 hC; clear hC; go_simp; first | done | (simp; done) | (simp [*]; done) | omega | (simp; omega) | (rw [IntKind.wrap_i64]; omega) | (intro hx; omega) | rfl)
      simp only [Act.put, List.setIfInBounds_toArray, List.set_cons_zero, List.set_cons_succ]
      refine qw_nil ?_
      intro W6 hC6
      have HX1 := HX
      clear HX
      have HX : Hid (W6.heap[w.heap.size]? = some (.cells #[.int .u64 (hI x), .int .u64 (lI x), .int .i64 pn, .int .i64 h] 40)) := hidR ((hC6.block _ HXs.out).trans HX1.out)
      have HC6 := hidR hC6
      clear hC6 HB5 HBw HX1
      go_wp2_with fail
      go_quiet (fail)
      have HX1 := HX
      clear HX
      have HX : Hid (W0.heap[w.heap.size]? = some (.cells #[.int .u64 (hI x), .int .u64 (lI x), .int .i64 pn, .int .i64 h] 40)) := hidR ((HC6.out.block _ HXs.out).symm.trans HX1.out)
      have HB7 := hidR (below_drewN HC6.out nq)
      generalize W6.drewN nq = W7 at HB7 ⊢
      have HB7w := hidR (keepb HB7.out HB.out)
      have HO6 := hidR (own_below HB7w.out HO.out)
      have HG6 : Hid (w.grownBy W7 (Value.ownBlock (.slice oo k oc))) := hidR (below_grown HB7w.out)
      have HX6 : Hid (W7.heap[w.heap.size]? = some (.cells #[.int .u64 (hI x), .int .u64 (lI x), .int .i64 pn, .int .i64 h] 40)) := hidR ((HB7.out.block _ (by omega)).trans HX.out)
      have hs7 := HB7.out.size
      clear HC6 HB7 HB7w HO HX HB
      go_wp2_with (at_builtin; apply stopHereW)
      refine (show wpList _ _ _ _ _ _ from ?_)
      refine wpList_append_lies _ rfl _ _ 22 rfl base 40 i0 (.agg #[.int .u64 0, .int .u64 0, .int .i64 0, .int .i64 0]) 4 32 Try.underlying22 hi hz0 hz1 hz2 rfl (by decide) _ _ _ rfl (HO6.out.alloc _) ⟨W7.heap.size, 0, none⟩ 1 1 [.int .u64 0, .int .u64 0, .int .i64 0, .int .i64 0] rfl rfl (newsR6 _ _ rfl _ _ _ _ _) (fourR6' _ _ _ _) (by decide) h63 h47 (by have := HG6.out.size; have := hbs; simp; omega) _ rfl ?_
      intro g4 cap4 w7 ho7 hgrow hat hlt4
      have HG7 : Hid (w.grownBy w7 (Value.ownBlock (.slice oo k oc))) := hidR ((HG6.out.trans (World.grownBy_alloc W7 _ _)).trans hgrow)
      have HT7 : Hid ((Value.ownBlock (.slice oo k oc)) = some g4 ∨ w.heap.size + 1 ≤ g4) := hidR (by
        rcases hat with q | q
        · exact .inl q
        · right
          simp at q
          omega)
      have HT8 : Hid ((Value.ownBlock (.slice oo k oc)) = some g4 ∨ w.heap.size ≤ g4) := hidR (by rcases HT7.out with q | q; exact .inl q; exact .inr (by omega))
      have HX7 : Hid (w7.heap[w.heap.size]? = some (.cells #[.int .u64 (hI x), .int .u64 (lI x), .int .i64 pn, .int .i64 h] 40)) := hidR ((hgrow.block _ (by have := blk_lt5 HX6.out; simp; omega) (fun e => HNX.out e.symm)).trans ((bl1 W7 (.cells #[.int .u64 0, .int .u64 0, .int .i64 0, .int .i64 0] 40)).block _ (blk_lt5 HX6.out) |>.trans HX6.out))
      have HO7 : Hid (RwO w7 base g4 cap4 (k + 1) (S.take k ++ ((0#128, 0), 0) :: S.drop k)) := hidR ⟨by simp; omega, by
        rw [List.take_of_length_le (by omega), List.drop_eq_nil_of_le (by omega), rowR_oneE, hI_zero, lI_zero]
        exact ho7⟩
      clear ho7 hgrow hat hlt4 HO6 HG6 HX6
      go_wp2_with fail
      go_loopw [6] (fun i w8 => ∃ (m : Nat) (d : Rte), 0 ≤ m ∧ m ≤ k ∧ i = .int .i64 m ∧ Hid (RwO w8 base g4 cap4 (k + 1) (S.take m ++ d :: S.drop m)) ∧ Hid (w.grownBy w8 (Value.ownBlock (.slice oo k oc))) ∧ Hid (w8.heap[w.heap.size]? = some (.cells #[.int .u64 (hI x), .int .u64 (lI x), .int .i64 pn, .int .i64 h] 40))) (fun i _ => (intOf i).toNat)
      case atStart => exact ⟨k, ((0#128, 0), 0), by omega, by omega, rfl, HO7, HG7, HX7⟩
      case round =>
        clear HO7 HG7 HX7
        obtain ⟨m, d, hm1, hm2, rfl, HO8, HG8, HX8⟩ := hrel
        have hZl : (S.take m ++ d :: S.drop m).length = k + 1 := by simp; omega
        by_cases hmt : 0 < m
        · obtain ⟨j, rfl⟩ : ∃ j, m = j + 1 := ⟨m - 1, by omega⟩
          have hjS : j < S.length := by omega
          obtain ⟨x0, x1, x2, x3⟩ := HO8.out.cells (j := j) (r := S[j]) (by rw [List.getElem?_append_left (by simp; omega), List.getElem?_take, if_pos (by omega)]; exact List.getElem?_eq_getElem hjS)
          obtain ⟨t0, t1, t2, t3⟩ := HO8.out.cells (j := j + 1) (r := d) (by rw [List.getElem?_append_right (by simp; omega)]; simp [Nat.min_eq_left (show j + 1 ≤ S.length by omega)])
          have s0 := HO8.out.free (j := (j + 1) * 4) (by omega)
          have s1 := HO8.out.free (j := (j + 1) * 4 + 1) (by omega)
          have s2 := HO8.out.free (j := (j + 1) * 4 + 2) (by omega)
          have s3 := HO8.out.free (j := (j + 1) * 4 + 3) (by omega)
          have e1 : ((j + 1 : Nat) : Int) = (j : Int) + 1 := by omega
          have m1 : IntKind.i64.wrap ((j : Int) + 1 - 1) = (j : Int) := by rw [IntKind.wrap_i64]; omega
          have m2 : IntKind.i64.wrap (j : Int) = (j : Int) := by rw [IntKind.wrap_i64]; omega
          have i1 : (j : Int) < (k : Int) + 1 := by omega
          have i2 : (j : Int) + 1 < (k : Int) + 1 := by omega
          have i3 : (0 : Int) < (j : Int) + 1 := by omega
          have i5 : j < k + 1 := by omega
          have i6 : j < k := by omega
          have i7 : (j : Int) < (k : Int) := by omega
          have HRn := hidR (HO8.out.set (j := j + 1) (by omega) S[j])
          rw [set_midR S (j + 1) (by omega), mid_backR S j hjS] at HRn
          rw [e1]
          clear e1
          revert HRn
          generalize S[j] = sx at *
          obtain ⟨⟨sx, sn⟩, sh⟩ := sx
          obtain ⟨⟨dx, dn⟩, dh⟩ := d
          intro HRn
          go_wp2
          go_roundw
          case rel =>
            have hne := HNG.out g4 HT7.out
            exact ⟨j, ((sx, sn), sh), by omega, by omega, by go_num, HRn, hidR (grown_set2 (grown_set2 HG8.out HT8.out _ _ _ _) HT8.out _ _ _ _), hidR (by rw [hSet _ hne, hSet _ hne, hSet _ hne, hSet _ hne]; exact HX8.out)⟩
          case measure => first | (simp [intOf]; done) | (simp [intOf]; omega)
        · obtain rfl : m = 0 := by omega
          have v0 := at_blk HX8.out 0 (.int .u64 (hI x)) rfl
          have v1 := at_blk HX8.out 1 (.int .u64 (lI x)) rfl
          have v2 := at_blk HX8.out 2 (.int .i64 pn) rfl
          have v3 := at_blk HX8.out 3 (.int .i64 h) rfl
          obtain ⟨t0, t1, t2, t3⟩ := HO8.out.cells (j := 0) (r := d) (by rw [List.getElem?_append_right (by rw [List.length_take]; omega), List.length_take, Nat.min_eq_left (by omega), Nat.sub_self]; rfl)
          have s0 := HO8.out.free (j := (0) * 4) (by omega)
          have s1 := HO8.out.free (j := (0) * 4 + 1) (by omega)
          have s2 := HO8.out.free (j := (0) * 4 + 2) (by omega)
          have s3 := HO8.out.free (j := (0) * 4 + 3) (by omega)
          have i2 : (0 : Int) < (k : Int) + 1 := by omega
          have i5 : 0 < k + 1 := by omega
          have hRn := HO8.out.set (j := 0) (by omega) ((x, pn), h)
          rw [set_midR S (0) (by omega), HP.out] at hRn
          have hSl : (setF S ((x, pn), h)).length = k + 1 := hRn.1
          have HR : Hid (PtR base (.slice oo k oc) (setF S ((x, pn), h)) w (.slice (some ⟨g4, 0, none⟩) (k + 1) cap4) _) := hidR ⟨by rw [hSl]; exact hRn.2, grown_set2 (grown_set2 HG8.out HT8.out _ _ _ _) HT8.out _ _ _ _, fun z e => by
            have e : g4 = z := by simpa [Value.ownBlock] using e
            rw [← e]; exact HT8.out⟩
          obtain ⟨⟨dx, dn⟩, dh⟩ := d
          clear hRn hSl HO8 HG8 HX8
          go_wp2
          go_ret
          exact ⟨_, rfl, HR.out⟩
    | succ a =>
      have ha2 : a < S.length := by omega
      have ho := own_below HBw.out HO.out
      rcases ho.2 with ⟨e, h⟩ | ⟨g, cap, cur, e, -⟩
      · omega
      · injection e with e1 e2 e3
        subst e1
        subst e3
        clear e2
        have hRo : RwO wr base g oc k S := ⟨hS0, ho⟩
        obtain ⟨x0, x1, x2, x3⟩ := hRo.cells (j := a) (r := S[a]) (List.getElem?_eq_getElem ha2)
        have hXr : wr.heap[w.heap.size]? = some (.cells #[.int .u64 (hI x), .int .u64 (lI x), .int .i64 pn, .int .i64 h] 40) := (HB5.out.block _ (by omega)).trans HX.out
        have u0 := at_blk hXr 0 (.int .u64 (hI x)) rfl
        have u1 := at_blk hXr 1 (.int .u64 (lI x)) rfl
        have u2 := at_blk hXr 2 (.int .i64 pn) rfl
        have KP := fun w => rpcmp_any S[a].1.1 S[a].1.2 x pn w
        have HZ : Hid (0 < pcmpZ S[a].1.1 S[a].1.2 x pn ↔ cmR ((x, pn), h) S[a] < 0) := hidR (by
          have := cm_neg S[a] ((x, pn), h)
          have e : cmR S[a] ((x, pn), h) = pcmpZ S[a].1.1 S[a].1.2 x pn := rfl
          rw [this, e]; omega)
        have HDa : Hid (S.drop a = S[a] :: S.drop (a + 1)) := hidR (List.drop_eq_getElem_cons ha2)
        have HNw : Hid (¬ cmR ((x, pn), h) S[a] < 0 → ((S[a].1.1 == x) && (S[a].1.2 == pn)) = false → S.take (a + 1) ++ ((x, pn), h) :: S.drop (a + 1) = setF S ((x, pn), h)) := hidR (fun h1 h2 => setF_new ha2 HQ.out h1 h2)
        have HOl : Hid (¬ cmR ((x, pn), h) S[a] < 0 → ((S[a].1.1 == x) && (S[a].1.2 == pn)) = true → S.set a ((x, pn), h) = setF S ((x, pn), h)) := hidR (fun h1 h2 => setF_old ha2 HQ.out h1 h2)
        have hCW : CR5 W0 g (a * 4) w.heap.size S[a].1.1 S[a].1.2 x pn wr := ⟨⟨x0, x1, x2⟩, ⟨u0, u1, u2⟩, HB5.out⟩
        have HCW := hidR hCW.drew
        have e1 : ((a + 1 : Nat) : Int) = (a : Int) + 1 := by omega
        have m1 : IntKind.i64.wrap ((a : Int) + 1 - 1) = (a : Int) := by rw [IntKind.wrap_i64]; omega
        have m2 : IntKind.i64.wrap (a : Int) = (a : Int) := by rw [IntKind.wrap_i64]; omega
        have i1 : (a : Int) < (k : Int) := by omega
        have i2 : a < k := by omega
        have i4 : (0 : Int) < (a : Int) + 1 := by omega
        have hE := fun w => eqP_run S[a].1.1 S[a].1.2 x pn w
        have HQa : Hid (S[a]? = some S[a]) := hidR (List.getElem?_eq_getElem ha2)
        rw [e1]
        clear hCW ho x0 x1 x2 x3 u0 u1 u2 e1 HBw hRo hXr
        revert KP HZ HCW hE HDa HNw HOl HQa
        generalize S[a] = qq
        obtain ⟨⟨qx, qn⟩, qh⟩ := qq
        dsimp only
        generalize pcmpZ qx qn x pn = z
        intro KP HZ HDa HNw HOl HCW hE HQa
        obtain ⟨⟨x0, x1, x2⟩, ⟨u0, u1, u2⟩, -⟩ := HCW.out
        go_wp2_with fail
        refine qw_region (C := CR5 W0 g (a * 4) w.heap.size qx qn x pn) (by kernel_rfl) (by kernel_rfl) HCW.out ?_
        clear x0 x1 x2 u0 u1 u2 HCW
        refine qw_run (v := .int .i64 ((a : Int) + 1)) (by rfl) ?_ ?_
        · (intro w1 hC; obtain ⟨⟨x0, x1, x2⟩, ⟨u0, u1, u2⟩, -⟩ := hC; go_simp; first | done | (simp; done) | (simp [*]; done) | omega | (simp; omega) | (rw [IntKind.wrap_i64]; omega) | (intro hx; omega) | rfl)
        simp only [Act.put, List.setIfInBounds_toArray, List.set_cons_zero, List.set_cons_succ]
        refine qw_run (v := .bool true) (by rfl) ?_ ?_
        · (intro w1 hC; obtain ⟨⟨x0, x1, x2⟩, ⟨u0, u1, u2⟩, -⟩ := hC; go_simp; first | done | (simp; done) | (simp [*]; done) | omega | (simp; omega) | (rw [IntKind.wrap_i64]; omega) | (intro hx; omega) | rfl)
        simp only [Act.put, List.setIfInBounds_toArray, List.set_cons_zero, List.set_cons_succ]
        refine qw_run (v := .bool true) (by rfl) ?_ ?_
        · (intro w1 hC; obtain ⟨⟨x0, x1, x2⟩, ⟨u0, u1, u2⟩, -⟩ := hC; go_simp; first | done | (simp; done) | (simp [*]; done) | omega | (simp; omega) | (rw [IntKind.wrap_i64]; omega) | (intro hx; omega) | rfl)
        simp only [Act.put, List.setIfInBounds_toArray, List.set_cons_zero, List.set_cons_succ]
        refine qw_run (v := .slice (some ⟨g, 0, none⟩) k oc) (by rfl) ?_ ?_
        · (intro w1 hC; obtain ⟨⟨x0, x1, x2⟩, ⟨u0, u1, u2⟩, -⟩ := hC; go_simp; first | done | (simp; done) | (simp [*]; done) | omega | (simp; omega) | (rw [IntKind.wrap_i64]; omega) | (intro hx; omega) | rfl)
        simp only [Act.put, List.setIfInBounds_toArray, List.set_cons_zero, List.set_cons_succ]
        refine qw_run (v := .int .i64 ((a : Int) + 1)) (by rfl) ?_ ?_
        · (intro w1 hC; obtain ⟨⟨x0, x1, x2⟩, ⟨u0, u1, u2⟩, -⟩ := hC; go_simp; first | done | (simp; done) | (simp [*]; done) | omega | (simp; omega) | (rw [IntKind.wrap_i64]; omega) | (intro hx; omega) | rfl)
        simp only [Act.put, List.setIfInBounds_toArray, List.set_cons_zero, List.set_cons_succ]
        refine qw_run (v := .int .i64 (a : Int)) (by rfl) ?_ ?_
        · (intro w1 hC; obtain ⟨⟨x0, x1, x2⟩, ⟨u0, u1, u2⟩, -⟩ := hC; go_simp; first | done | (simp; done) | (simp [*]; done) | omega | (simp; omega) | (rw [IntKind.wrap_i64]; omega) | (intro hx; omega) | rfl)
        simp only [Act.put, List.setIfInBounds_toArray, List.set_cons_zero, List.set_cons_succ]
        refine qw_run (v := .pointer (some ⟨g, a * 4, none⟩)) (by rfl) ?_ ?_
        · (intro w1 hC; obtain ⟨⟨x0, x1, x2⟩, ⟨u0, u1, u2⟩, -⟩ := hC; go_simp; first | done | (simp; done) | (simp [*]; done) | omega | (simp; omega) | (rw [IntKind.wrap_i64]; omega) | (intro hx; omega) | rfl)
        simp only [Act.put, List.setIfInBounds_toArray, List.set_cons_zero, List.set_cons_succ]
        refine qw_run (v := .pointer (some ⟨g, a * 4, none⟩)) (by rfl) ?_ ?_
        · (intro w1 hC; obtain ⟨⟨x0, x1, x2⟩, ⟨u0, u1, u2⟩, -⟩ := hC; go_simp; first | done | (simp; done) | (simp [*]; done) | omega | (simp; omega) | (rw [IntKind.wrap_i64]; omega) | (intro hx; omega) | rfl)
        simp only [Act.put, List.setIfInBounds_toArray, List.set_cons_zero, List.set_cons_succ]
        refine qw_run (v := .agg #[.int .u64 (hI qx), .int .u64 (lI qx), .int .i64 qn]) (by rfl) ?_ ?_
        · (intro w1 hC; obtain ⟨⟨x0, x1, x2⟩, ⟨u0, u1, u2⟩, -⟩ := hC; go_simp; first | done | (simp; done) | (simp [*]; done) | omega | (simp; omega) | (rw [IntKind.wrap_i64]; omega) | (intro hx; omega) | rfl)
        simp only [Act.put, List.setIfInBounds_toArray, List.set_cons_zero, List.set_cons_succ]
        refine qw_run (v := .pointer (some ⟨w.heap.size, 0, none⟩)) (by rfl) ?_ ?_
        · (intro w1 hC; obtain ⟨⟨x0, x1, x2⟩, ⟨u0, u1, u2⟩, -⟩ := hC; go_simp; first | done | (simp; done) | (simp [*]; done) | omega | (simp; omega) | (rw [IntKind.wrap_i64]; omega) | (intro hx; omega) | rfl)
        simp only [Act.put, List.setIfInBounds_toArray, List.set_cons_zero, List.set_cons_succ]
        refine qw_run (v := .agg #[.int .u64 (hI x), .int .u64 (lI x), .int .i64 pn]) (by rfl) ?_ ?_
        · (intro w1 hC; obtain ⟨⟨x0, x1, x2⟩, ⟨u0, u1, u2⟩, -⟩ := hC; go_simp; first | done | (simp; done) | (simp [*]; done) | omega | (simp; omega) | (rw [IntKind.wrap_i64]; omega) | (intro hx; omega) | rfl)
        simp only [Act.put, List.setIfInBounds_toArray, List.set_cons_zero, List.set_cons_succ]
        refine qw_call (v := .int .i64 z) (f := 40) (args := #[.agg #[.int .u64 (hI qx), .int .u64 (lI qx), .int .i64 qn], .agg #[.int .u64 (hI x), .int .u64 (lI x), .int .i64 pn]]) (by rfl) ?_ ?_ ?_
        · (intro w1 hC; clear hC; go_simp)
        · exact fun w1 hC => (KP w1).mono fun e w' ⟨he, hb⟩ => ⟨he, hC.below hb⟩
        simp only [Act.put, List.setIfInBounds_toArray, List.set_cons_zero, List.set_cons_succ]
        refine qw_run (v := .bool (decide (0 < z))) (by rfl) ?_ ?_
        · (intro w1 hC; obtain ⟨⟨x0, x1, x2⟩, ⟨u0, u1, u2⟩, -⟩ := hC; go_simp; first | done | (simp; done) | (simp [*]; done) | omega | (simp; omega) | (rw [IntKind.wrap_i64]; omega) | (intro hx; omega) | rfl)
        simp only [Act.put, List.setIfInBounds_toArray, List.set_cons_zero, List.set_cons_succ]
        refine qw_run (v := .bool (decide (0 < z))) (by rfl) ?_ ?_
        · (intro w1 hC; obtain ⟨⟨x0, x1, x2⟩, ⟨u0, u1, u2⟩, -⟩ := hC; go_simp; first | done | (simp; done) | (simp [*]; done) | omega | (simp; omega) | (rw [IntKind.wrap_i64]; omega) | (intro hx; omega) | rfl)
        simp only [Act.put, List.setIfInBounds_toArray, List.set_cons_zero, List.set_cons_succ]
        refine qw_nil ?_
        intro W6 hC6
        obtain ⟨⟨x0, x1, x2⟩, ⟨u0, u1, u2⟩, hC6⟩ := hC6
        have HC6 := hidR hC6
        clear hC6 HB5 KP
        by_cases hz : z ≤ 0
        · have hz' : ¬ 0 < z := by omega
          have hzd : decide (0 < z) = false := by simpa using hz'
          have HZ1 : Hid (¬ cmR ((x, pn), h) ((qx, qn), qh) < 0) := hidR (fun k => hz' (HZ.out.2 k))
          clear HZ
          by_cases hq : ((qx == x) && (qn == pn)) = true
          · rw [hq] at hE
            have HP := hidR (HOl.out (by have := HZ1.out; omega) hq)
            clear HNw HOl HZ1
            go_wp2_with fail
            go_quiet (fail)
            have HB6 := hidR (below_drewN HC6.out nq)
            generalize W6.drewN nq = W7 at HB6 ⊢
            have HB7 := hidR (keepb HB6.out HB.out)
            have hX7 : W7.heap[w.heap.size]? = some (.cells #[.int .u64 (hI x), .int .u64 (lI x), .int .i64 pn, .int .i64 h] 40) := (HB6.out.block _ (by omega)).trans HX.out
            have v0 := at_blk hX7 0 (.int .u64 (hI x)) rfl
            have v1 := at_blk hX7 1 (.int .u64 (lI x)) rfl
            have v2 := at_blk hX7 2 (.int .i64 pn) rfl
            have v3 := at_blk hX7 3 (.int .i64 h) rfl
            have hRo : RwO W7 base g oc k S := ⟨hS0, own_below HB7.out HO.out⟩
            obtain ⟨t0, t1, t2, t3⟩ := hRo.cells (j := a) (r := ((qx, qn), qh)) HQa.out
            have s0 := hRo.free (j := a * 4) (by omega)
            have s1 := hRo.free (j := a * 4 + 1) (by omega)
            have s2 := hRo.free (j := a * 4 + 2) (by omega)
            have s3 := hRo.free (j := a * 4 + 3) (by omega)
            have hRn := hRo.set (j := a) i2 ((x, pn), h)
            rw [HP.out] at hRn
            have hSl : (setF S ((x, pn), h)).length = k := hRn.1
            have hgg : Value.ownBlock (.slice (some ⟨g, 0, none⟩) k oc) = some g := rfl
            have HR : Hid (PtR base (.slice (some ⟨g, 0, none⟩) k oc) (setF S ((x, pn), h)) w (.slice (some ⟨g, 0, none⟩) k oc) _) := hidR ⟨by rw [hSl]; exact hRn.2, grown_set2 (grown_set2 (below_grown HB7.out) (.inl hgg) _ _ _ _) (.inl hgg) _ _ _ _, fun z e => .inl e⟩
            clear HB7 HB6 HC6 x0 x1 x2 u0 u1 u2 hX7 hRo hRn hSl hgg
            go_wp2
            go_ret
            exact ⟨_, rfl, HR.out⟩
          · have hqb : ((qx == x) && (qn == pn)) = false := by simpa using hq
            rw [hqb] at hE
            have HP := hidR (HNw.out (by have := HZ1.out; omega) hqb)
            clear HZ1 HNw HOl
            go_wp2_with fail
            go_quiet (fail)
            clear x0 x1 x2 u0 u1 u2
            have HB7 := hidR (below_drewN HC6.out nq)
            generalize W6.drewN nq = W7 at HB7 ⊢
            have HB7w := hidR (keepb HB7.out HB.out)
            have HO6 := hidR (own_below HB7w.out HO.out)
            have HG6 : Hid (w.grownBy W7 (Value.ownBlock (.slice (some ⟨g, 0, none⟩) k oc))) := hidR (below_grown HB7w.out)
            have HX6 : Hid (W7.heap[w.heap.size]? = some (.cells #[.int .u64 (hI x), .int .u64 (lI x), .int .i64 pn, .int .i64 h] 40)) := hidR ((HB7.out.block _ (by omega)).trans HX.out)
            have hs7 := HB7.out.size
            clear HC6 HB7 HB7w HO HX HB
            go_wp2_with (at_builtin; apply stopHereW)
            refine (show wpList _ _ _ _ _ _ from ?_)
            refine wpList_append_lies _ rfl _ _ 22 rfl base 40 i0 (.agg #[.int .u64 0, .int .u64 0, .int .i64 0, .int .i64 0]) 4 32 Try.underlying22 hi hz0 hz1 hz2 rfl (by decide) _ _ _ rfl (HO6.out.alloc _) ⟨W7.heap.size, 0, none⟩ 1 1 [.int .u64 0, .int .u64 0, .int .i64 0, .int .i64 0] rfl rfl (newsR6 _ _ rfl _ _ _ _ _) (fourR6' _ _ _ _) (by decide) h63 h47 (by have := HG6.out.size; have := hbs; simp; omega) _ rfl ?_
            intro g4 cap4 w7 ho7 hgrow hat hlt4
            have HG7 : Hid (w.grownBy w7 (Value.ownBlock (.slice (some ⟨g, 0, none⟩) k oc))) := hidR ((HG6.out.trans (World.grownBy_alloc W7 _ _)).trans hgrow)
            have HT7 : Hid ((Value.ownBlock (.slice (some ⟨g, 0, none⟩) k oc)) = some g4 ∨ w.heap.size + 1 ≤ g4) := hidR (by
              rcases hat with q | q
              · exact .inl q
              · right
                simp at q
                omega)
            have HT8 : Hid ((Value.ownBlock (.slice (some ⟨g, 0, none⟩) k oc)) = some g4 ∨ w.heap.size ≤ g4) := hidR (by rcases HT7.out with q | q; exact .inl q; exact .inr (by omega))
            have HX7 : Hid (w7.heap[w.heap.size]? = some (.cells #[.int .u64 (hI x), .int .u64 (lI x), .int .i64 pn, .int .i64 h] 40)) := hidR ((hgrow.block _ (by have := blk_lt5 HX6.out; simp; omega) (fun e => HNX.out e.symm)).trans ((bl1 W7 (.cells #[.int .u64 0, .int .u64 0, .int .i64 0, .int .i64 0] 40)).block _ (blk_lt5 HX6.out) |>.trans HX6.out))
            have HO7 : Hid (RwO w7 base g4 cap4 (k + 1) (S.take k ++ ((0#128, 0), 0) :: S.drop k)) := hidR ⟨by simp; omega, by
              rw [List.take_of_length_le (by omega), List.drop_eq_nil_of_le (by omega), rowR_oneE, hI_zero, lI_zero]
              exact ho7⟩
            clear ho7 hgrow hat hlt4 HO6 HG6 HX6
            go_wp2_with fail
            go_loopw [6] (fun i w8 => ∃ (m : Nat) (d : Rte), a + 1 ≤ m ∧ m ≤ k ∧ i = .int .i64 m ∧ Hid (RwO w8 base g4 cap4 (k + 1) (S.take m ++ d :: S.drop m)) ∧ Hid (w.grownBy w8 (Value.ownBlock (.slice (some ⟨g, 0, none⟩) k oc))) ∧ Hid (w8.heap[w.heap.size]? = some (.cells #[.int .u64 (hI x), .int .u64 (lI x), .int .i64 pn, .int .i64 h] 40))) (fun i _ => (intOf i).toNat)
            case atStart => exact ⟨k, ((0#128, 0), 0), by omega, by omega, rfl, HO7, HG7, HX7⟩
            case round =>
              clear HO7 HG7 HX7
              obtain ⟨m, d, hm1, hm2, rfl, HO8, HG8, HX8⟩ := hrel
              have hZl : (S.take m ++ d :: S.drop m).length = k + 1 := by simp; omega
              by_cases hmt : a + 1 < m
              · obtain ⟨j, rfl⟩ : ∃ j, m = j + 1 := ⟨m - 1, by omega⟩
                have hjS : j < S.length := by omega
                obtain ⟨x0, x1, x2, x3⟩ := HO8.out.cells (j := j) (r := S[j]) (by rw [List.getElem?_append_left (by simp; omega), List.getElem?_take, if_pos (by omega)]; exact List.getElem?_eq_getElem hjS)
                obtain ⟨t0, t1, t2, t3⟩ := HO8.out.cells (j := j + 1) (r := d) (by rw [List.getElem?_append_right (by simp; omega)]; simp [Nat.min_eq_left (show j + 1 ≤ S.length by omega)])
                have s0 := HO8.out.free (j := (j + 1) * 4) (by omega)
                have s1 := HO8.out.free (j := (j + 1) * 4 + 1) (by omega)
                have s2 := HO8.out.free (j := (j + 1) * 4 + 2) (by omega)
                have s3 := HO8.out.free (j := (j + 1) * 4 + 3) (by omega)
                have e1 : ((j + 1 : Nat) : Int) = (j : Int) + 1 := by omega
                have m1 : IntKind.i64.wrap ((j : Int) + 1 - 1) = (j : Int) := by rw [IntKind.wrap_i64]; omega
                have m2 : IntKind.i64.wrap (j : Int) = (j : Int) := by rw [IntKind.wrap_i64]; omega
                have i1 : (j : Int) < (k : Int) + 1 := by omega
                have i2 : (j : Int) + 1 < (k : Int) + 1 := by omega
                have i3 : (a : Int) + 1 < (j : Int) + 1 := by omega
                have i5 : j < k + 1 := by omega
                have i6 : j < k := by omega
                have i7 : (j : Int) < (k : Int) := by omega
                have HRn := hidR (HO8.out.set (j := j + 1) (by omega) S[j])
                rw [set_midR S (j + 1) (by omega), mid_backR S j hjS] at HRn
                rw [e1]
                clear e1
                revert HRn
                generalize S[j] = sx at *
                obtain ⟨⟨sx, sn⟩, sh⟩ := sx
                obtain ⟨⟨dx, dn⟩, dh⟩ := d
                intro HRn
                go_wp2
                go_roundw
                case rel =>
                  have hne := HNG.out g4 HT7.out
                  exact ⟨j, ((sx, sn), sh), by omega, by omega, by go_num, HRn, hidR (grown_set2 (grown_set2 HG8.out HT8.out _ _ _ _) HT8.out _ _ _ _), hidR (by rw [hSet _ hne, hSet _ hne, hSet _ hne, hSet _ hne]; exact HX8.out)⟩
                case measure => first | (simp [intOf]; done) | (simp [intOf]; omega)
              · obtain rfl : m = a + 1 := by omega
                have v0 := at_blk HX8.out 0 (.int .u64 (hI x)) rfl
                have v1 := at_blk HX8.out 1 (.int .u64 (lI x)) rfl
                have v2 := at_blk HX8.out 2 (.int .i64 pn) rfl
                have v3 := at_blk HX8.out 3 (.int .i64 h) rfl
                obtain ⟨t0, t1, t2, t3⟩ := HO8.out.cells (j := a + 1) (r := d) (by rw [List.getElem?_append_right (by rw [List.length_take]; omega), List.length_take, Nat.min_eq_left (by omega), Nat.sub_self]; rfl)
                have s0 := HO8.out.free (j := (a + 1) * 4) (by omega)
                have s1 := HO8.out.free (j := (a + 1) * 4 + 1) (by omega)
                have s2 := HO8.out.free (j := (a + 1) * 4 + 2) (by omega)
                have s3 := HO8.out.free (j := (a + 1) * 4 + 3) (by omega)
                have i2 : (a : Int) + 1 < (k : Int) + 1 := by omega
                have i5 : a + 1 < k + 1 := by omega
                have hRn := HO8.out.set (j := a + 1) (by omega) ((x, pn), h)
                rw [set_midR S (a + 1) (by omega), HP.out] at hRn
                have hSl : (setF S ((x, pn), h)).length = k + 1 := hRn.1
                have HR : Hid (PtR base (.slice (some ⟨g, 0, none⟩) k oc) (setF S ((x, pn), h)) w (.slice (some ⟨g4, 0, none⟩) (k + 1) cap4) _) := hidR ⟨by rw [hSl]; exact hRn.2, grown_set2 (grown_set2 HG8.out HT8.out _ _ _ _) HT8.out _ _ _ _, fun z e => by
                  have e : g4 = z := by simpa [Value.ownBlock] using e
                  rw [← e]; exact HT8.out⟩
                obtain ⟨⟨dx, dn⟩, dh⟩ := d
                clear hRn hSl HO8 HG8 HX8
                go_wp2
                go_ret
                exact ⟨_, rfl, HR.out⟩
        · have hz' : 0 < z := by omega
          have hzd : decide (0 < z) = true := by simpa using hz'
          have HZ2 := hidR (HZ.out.1 hz')
          clear x0 x1 x2 u0 u1 u2
          go_wp2
          go_roundw
          case rel =>
            refine ⟨a, by omega, by go_num, ?_, HC6⟩
            refine hidR (fun q hq => ?_)
            rw [HDa.out] at hq
            rcases List.mem_cons.mp hq with rfl | hq
            · exact HZ2.out
            · exact HQ.out q hq
          case measure => first | (simp [intOf]; done) | (simp [intOf]; omega)
end Go.Proofs.Ytmeaikmmhgmgnaa
