/-
  What a call of package word's Text does.
-/
import Derived.Test.YtkahilfklgobpaaTxt
namespace Go.Proofs.Ytkahilfklgobpaa
open Go.RowKit
set_option linter.unusedSimpArgs false
set_option linter.unusedVariables false

/-- The number of the digit at place k, and its sign. -/
def nib (x : BitVec 128) (k : Nat) : Nat := (lv (x >>> (124 - 4 * k))).toNat % 16
def chN (d : Nat) : Nat := if d < 10 then 48 + d else 87 + d
theorem nib_lt (x : BitVec 128) (k : Nat) : nib x k < 16 := Nat.mod_lt _ (by decide)
theorem and15 (x : BitVec 128) (k : Nat) : bits .and .u64 (lI (x >>> (124 - 4 * k))) 15 = ((nib x k : Nat) : Int) := by
  unfold lI nib
  have h : bits .and .u64 ((lv (x >>> (124 - 4 * k))).toNat : Int) 15 = (((lv (x >>> (124 - 4 * k))).toNat &&& 15 : Nat) : Int) := bits_and_u64_nat _ 15 (BitVec.isLt _) (by decide)
  rw [h]
  congr 1
  exact Nat.and_two_pow_sub_one_eq_mod _ 4
theorem dig_tab (d : Nat) (h : d < 16) : ((⟨#[48, 49, 50, 51, 52, 53, 54, 55, 56, 57, 97, 98, 99, 100, 101, 102]⟩ : ByteArray)[d]'h).toNat = chN d := by
  have all : ∀ j : Fin 16, ((⟨#[48, 49, 50, 51, 52, 53, 54, 55, 56, 57, 97, 98, 99, 100, 101, 102]⟩ : ByteArray)[j.val]'j.isLt).toNat = chN j.val := by decide
  exact all ⟨d, h⟩

theorem new_cell (W : World) (o : Obj) (cs : Array Value) (t : TypeId) (j : Nat) : ((W.alloc o).alloc (.cells cs t)).cell? ⟨W.heap.size + 1, j, none⟩ = cs[j]? := by
  have h : ((W.alloc o).alloc (.cells cs t)).heap[W.heap.size + 1]? = some (.cells cs t) := by
    show ((W.heap.push o).push (.cells cs t))[W.heap.size + 1]? = _
    rw [Array.getElem?_push, if_pos (by simp)]
  unfold World.cell?
  rw [h]
  simp
theorem new_frozen (W : World) (o : Obj) (cs : Array Value) (t : TypeId) (j : Nat) : ((W.alloc o).alloc (.cells cs t)).frozen? ⟨W.heap.size + 1, j, none⟩ = false := by
  simp [go_sem]

theorem set_same {W : World} {B k : Nat} {u v : Value} (h : W.cell? ⟨B, k, none⟩ = some u) : (W.setCell ⟨B, k, none⟩ v).cell? ⟨B, k, none⟩ = some v := by
  simp [go_sem, h]
theorem set_other {W : World} {B k j : Nat} {v : Value} (h : ¬ k = j) : (W.setCell ⟨B, k, none⟩ v).cell? ⟨B, j, none⟩ = W.cell? ⟨B, j, none⟩ := by
  simp [go_sem, h]
/-- The text of a word, as bytes. -/
def txtL (x : BitVec 128) : List Int := (List.range 32).map fun j => (chN (nib x j) : Int)
def txtW (x : BitVec 128) : ByteArray := (txtL x).foldl (fun r n => r.push (UInt8.ofNat n.toNat)) ByteArray.empty
theorem txt_conv (x : BitVec 128) (w : World) (B : Nat) (hc : ∀ j, j < 32 → w.cell? ⟨B, j, none⟩ = some (.int .u8 (chN (nib x j) : Int))) :
    (convert 59 9 (.slice (some ⟨B, 0, none⟩) 32 32)).run Try.prog w = .ok (.string (txtW x)) w := by
  rw [run_convert_bytes_string w 59 9 5 _ _ _ Try.underlying59 Try.underlying5 Try.underlying9]
  refine run_bytesToString w ⟨B, 0, none⟩ 32 32 (txtL x) ?_
  have h := run_loadCells_list (P := Try.prog) (w := w) ⟨B, 0, none⟩ ((txtL x).map (Value.int .u8)) (by
    intro j v hv
    unfold txtL at hv
    simp only [List.map_map, List.getElem?_map] at hv
    by_cases hj : j < 32
    · have e : (List.range 32)[j]? = some j := by simp [hj]
      rw [e] at hv
      simp at hv
      have := hc j hj
      have ea : (⟨B, 0, none⟩ : Addr).add j = ⟨B, j, none⟩ := by cases j <;> simp [Addr.add]
      rw [ea, this, ← hv]
    · have e : (List.range 32)[j]? = none := by simp; omega
      rw [e] at hv; cases hv)
  have hl : ((txtL x).map (Value.int .u8)).length = 32 := by unfold txtL; simp
  rw [hl] at h
  exact h

set_option maxHeartbeats 2000000 in
theorem text_any (x : BitVec 128) (w : World) :
    Calls Try.prog 37 #[.agg #[.int .u64 (hI x), .int .u64 (lI x)]] w fun e w' => e = .returned (.string (txtW x)) ∧ Below w.heap.size w w' := by
  have hfd := fld1
  go_enter Try.func37, Try.ntmps37
  go_wp2
  go_loopw [5] (fun i wr => ∃ k : Nat, k ≤ 32 ∧ i = .int .i64 k ∧ wr.cell? ⟨w.heap.size, 0, none⟩ = some (.int .u64 (hI x)) ∧ wr.cell? ⟨w.heap.size, 1, none⟩ = some (.int .u64 (lI x)) ∧ (∀ j, j < 32 → wr.cell? ⟨w.heap.size + 1, j, none⟩ = some (.int .u8 (if j < k then (chN (nib x j) : Int) else 0))) ∧ (∀ j, j < 32 → wr.frozen? ⟨w.heap.size + 1, j, none⟩ = false) ∧ Below w.heap.size w wr)
    (fun i _ => 32 - (intOf i).toNat)
  case atStart =>
    refine ⟨0, by omega, rfl, by simp [go_sem], by simp [go_sem], ?_, ?_, bl2 _ _ _⟩
    · intro j hj
      have : ¬ j < 0 := by omega
      rw [if_neg this]
      have e : ∀ i : Fin 32, (#[Value.int IntKind.u8 0, Value.int IntKind.u8 0, Value.int IntKind.u8 0, Value.int IntKind.u8 0, Value.int IntKind.u8 0, Value.int IntKind.u8 0, Value.int IntKind.u8 0, Value.int IntKind.u8 0, Value.int IntKind.u8 0, Value.int IntKind.u8 0, Value.int IntKind.u8 0, Value.int IntKind.u8 0, Value.int IntKind.u8 0, Value.int IntKind.u8 0, Value.int IntKind.u8 0, Value.int IntKind.u8 0, Value.int IntKind.u8 0, Value.int IntKind.u8 0, Value.int IntKind.u8 0, Value.int IntKind.u8 0, Value.int IntKind.u8 0, Value.int IntKind.u8 0, Value.int IntKind.u8 0, Value.int IntKind.u8 0, Value.int IntKind.u8 0, Value.int IntKind.u8 0, Value.int IntKind.u8 0, Value.int IntKind.u8 0, Value.int IntKind.u8 0, Value.int IntKind.u8 0, Value.int IntKind.u8 0, Value.int IntKind.u8 0])[i.val]? = some (Value.int IntKind.u8 0) := by
        intro i
        match i with
        | ⟨n, hn⟩ =>
          simp only
          rcases n with _ | _ | _ | _ | _ | _ | _ | _ | _ | _ | _ | _ | _ | _ | _ | _ | _ | _ | _ | _ | _ | _ | _ | _ | _ | _ | _ | _ | _ | _ | _ | _ | n <;> first | rfl | omega
      have := e ⟨j, hj⟩
      simp only at this
      rw [new_cell]
      exact this
    · intro j hj
      rw [new_frozen]
  case round =>
    obtain ⟨k, hk, rfl, x0, x1, hc, hf, hB⟩ := hrel
    by_cases hlt : (k : Int) < 32
    · have hks : k < 32 := by omega
      have ha := and15 x k
      have hn := nib_lt x k
      have hck := hc k hks
      have hfk := hf k hks
      go_wp2_with fail
      refine (shr_any _ _ _).mono ?_
      rintro e w1 ⟨rfl, hb1⟩
      have ck := keepc hb1 hck
      have fk := keepf hb1 hck hfk
      have HC : Hid (∀ j, j < 32 → w1.cell? ⟨w.heap.size + 1, j, none⟩ = some (.int .u8 (if j < k then (chN (nib x j) : Int) else 0))) := fun j hj => keepc hb1 (hc j hj)
      have HF : Hid (∀ j, j < 32 → w1.frozen? ⟨w.heap.size + 1, j, none⟩ = false) := fun j hj => keepf hb1 (hc j hj) (hf j hj)
      have X0 := keepc hb1 x0
      have X1 := keepc hb1 x1
      have kB := keepb hb1 hB
      clear hc hf hck hfk x0 x1 hB hb1
      go_wp2
      go_roundw
      case rel =>
        have ht := dig_tab (nib x k) hn
        refine ⟨k + 1, by omega, by go_num, by simp [go_sem, X0], by simp [go_sem, X1], ?_, ?_, kB.setCell (by simp) _⟩
        · intro j hj
          by_cases e : j = k
          · subst e
            rw [set_same ck, if_pos (by omega), ht]
          · rw [set_other (fun q => e q.symm), HC.out j hj]
            by_cases q : j < k
            · rw [if_pos q, if_pos (by omega)]
            · rw [if_neg q, if_neg (by omega)]
        · intro j hj
          have := HF.out j hj
          simp [go_sem, this]
      case measure => simp [intOf]; omega
    · have hk8 : k = 32 := by omega
      have hv := txt_conv x wr (w.heap.size + 1) (fun j hj => by rw [hc j hj, if_pos (by omega)])
      clear hfd hc hf x0 x1 hk8
      go_wp2
      go_ret
      exact ⟨rfl, hB⟩
end Go.Proofs.Ytkahilfklgobpaa
