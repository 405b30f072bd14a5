/-
  What a call of package addr's writeFour does: the text of an address of the family 32.
-/
import Derived.Test.YtpchhfhdepkbcaaDoorShf
import Derived.Test.YtpchhfhdepkbcaaDoorRefT2
import Derived.Test.YtpchhfhdepkbcaaDoorRefZ
namespace Go.Proofs.YtpchhfhdepkbcaaDoor
open Go.RowKit
set_option linter.unusedSimpArgs false
set_option linter.unusedVariables false

theorem bytes_back (w : World) (g cap : Nat) (l : List UInt8) (hc : ∀ j, j < l.length → w.cell? ⟨g, j, none⟩ = some (.int .u8 ((l.getD j 0).toNat : Int))) :
    (convert 83 9 (.slice (some ⟨g, 0, none⟩) l.length cap)).run Tryd.prog w = .ok (.string ⟨l.toArray⟩) w := by
  refine run_convert_bytes_back (P := Tryd.prog) w 83 9 5 ⟨g, 0, none⟩ cap l Tryd.underlying83 Tryd.underlying5 Tryd.underlying9 ?_
  intro j hj
  have ea : (⟨g, 0, none⟩ : Addr).add j = ⟨g, j, none⟩ := by cases j <;> simp [Addr.add]
  rw [ea, hc j hj]
  simp [List.getD, hj]

theorem pow_below {B : Nat} {w w' : World} (h : Pow w) (hb : Below w.heap.size w w') : Pow w' := h.keep hb

set_option maxHeartbeats 4000000 in
set_option maxRecDepth 20000 in
theorem writeFour_any (x : BitVec 128) (w : World) (hP : Pow w) :
    Calls Tryd.prog 43 #[.agg #[.int .u64 (hI x), .int .u64 (lI x)]] w fun e w' => e = .returned (.string (text4 x)) ∧ Below w.heap.size w w' := by
  obtain ⟨i0, hi, hz0, hz1, hz2⟩ := info_parts Tryd.infoB8
  rw [← fourL_text]
  go_enter Tryd.func43, Tryd.ntmps43
  go_wp2
  go_loopw [3, 5] (fun b i wr => ∃ k : Nat, k ≤ 4 ∧ i = .int .i64 (k : Int) ∧ wr.ownsRow (w.heap.size + 1) 5 1 b (fourL x k).length (Lib.byteCells (fourL x k)) ∧ wr.cell? ⟨w.heap.size, 0, none⟩ = some (.int .u64 (hI x)) ∧ wr.cell? ⟨w.heap.size, 1, none⟩ = some (.int .u64 (lI x)) ∧ Below w.heap.size w wr)
    (fun _ i _ => 4 - (intOf i).toNat)
  case atStart => exact ⟨0, by omega, rfl, World.ownsRow_nil _ _ _ _, by simp [go_sem], by simp [go_sem], bl1 _ _⟩
  case round =>
    obtain ⟨k, hk, rfl, hown, x0, x1, hB⟩ := hrel
    by_cases hlt : (k : Int) < 4
    · have hks : k < 4 := by omega
      have hn := fourL_len x k
      have hO : octN x k < 256 := by unfold octN; omega
      have KP := fun w => part_any x k 8 w (by omega) (by omega) (by omega) (by omega)
      have e120 : ((128 : Int) - 8).toNat = 120 := by decide
      have hdl := decL_lib (octN x k) hO
      have hdn := decL_len3 (octN x k) hO
      rw [e120, oct_part x k hks] at KP
      have HN : Hid (fourL x (k + 1) = (if k = 0 then [] else fourL x k ++ [46]) ++ decL (octN x k)) := rfl
      clear e120
      generalize octN x k = d at *
      have HD : Hid (Lib.decDigits d = decL d) := hdl
      clear hdl
      by_cases hk0 : (0 : Int) < (k : Int)
      · have hk0' : ¬ k = 0 := by omega
        have h47 : ((fourL x k).length + 1) * 1 ≤ 140737488355328 := by omega
        have h63 : (fourL x k).length + 1 ≤ maxLen := by unfold maxLen; omega
        have hsz : w.heap.size + 1 ≤ (wr.alloc (.cells #[.int .u8 46] 5)).heap.size := by have := cell_in x0; simp; omega
        have HL : Hid (fourL x (k + 1) = (fourL x k ++ [46]) ++ decL d) := by show _ = _; rw [HN.out, if_neg hk0']
        go_wp2_with (at_builtin; refine wpList_append_own _ rfl _ _ 83 rfl (w.heap.size + 1) 5 i0 (.int .u8 0) 1 1 Tryd.underlying83 hi hz0 hz1 hz2 rfl (by decide) _ _ _ rfl (hown.alloc _) ⟨wr.heap.size, 0, none⟩ 1 1 [Value.int .u8 46] rfl rfl (news_al _ _ _) (one_al _ _) h63 h47 hsz ?_)
        intro v1 w1 hown1 hgrow1 _
        obtain ⟨x0, x1, hB⟩ := app_keep (World.ownsRow.alloc hown _) hgrow1 (al_keep _ x0 x1 hB).1 (al_keep _ x0 x1 hB).2.1 (al_keep _ x0 x1 hB).2.2
        have ho : w1.ownsRow (w.heap.size + 1) 5 1 v1 (fourL x k ++ [46]).length (Lib.byteCells (fourL x k ++ [46])) := by
          have e1 : (fourL x k ++ [46]).length = (fourL x k).length + 1 := by simp
          have e2 : Lib.byteCells (fourL x k ++ [46]) = Lib.byteCells (fourL x k) ++ [Value.int .u8 46] := by simp [Lib.byteCells]
          rw [e1, e2]; exact hown1
        have hn' : (fourL x k ++ [46]).length ≤ 100 := by simp; omega
        clear hown hown1 hgrow1 HN hn h47 h63 hsz
        generalize fourL x k ++ [46] = l at *
        go_wp2_with fail
        refine (KP _).mono ?_
        rintro e w2 ⟨rfl, hb2⟩
        have x0 := keepc hb2 x0
        have x1 := keepc hb2 x1
        have hB := keepb hb2 hB
        have ho := own_below hb2 ho
        have hT := hP.keep hB
        have hsz : w.heap.size + 1 ≤ w2.heap.size := cell_in x0
        clear hb2 KP
        go_wp2_with fail
        refine (auint10 (w.heap.size + 1) l.length d (by omega) v1 (Lib.byteCells l) w2 ho hsz (by omega) hT).mono ?_
        rintro e w3 ⟨v3, rfl, ho3, hb3⟩
        have y0 : w3.cell? ⟨w.heap.size, 0, none⟩ = some (.int .u64 (hI x)) := (hb3.cell (p := ⟨w.heap.size, 0, none⟩) (Nat.lt_succ_self _)).trans x0
        have y1 : w3.cell? ⟨w.heap.size, 1, none⟩ = some (.int .u64 (lI x)) := (hb3.cell (p := ⟨w.heap.size, 1, none⟩) (Nat.lt_succ_self _)).trans x1
        have kB := hB.trans (hb3.mono (Nat.le_succ _))
        have ho4 : w3.ownsRow (w.heap.size + 1) 5 1 v3 (fourL x (k + 1)).length (Lib.byteCells (fourL x (k + 1))) := by
          rw [HL.out, List.length_append, show Lib.byteCells (l ++ decL d) = Lib.byteCells l ++ Lib.byteCells (decL d) by simp [Lib.byteCells], ← HD.out]
          exact ho3
        clear ho ho3 hb3 hT x0 x1 hB
        go_wp2
        go_roundw
        case rel => exact ⟨k + 1, by omega, by go_num, ho4, y0, y1, kB⟩
        case measure => simp [intOf]; omega
      · have hk0' : k = 0 := by omega
        have HL : Hid (fourL x (k + 1) = fourL x k ++ decL d) := by show _ = _; rw [HN.out, if_pos hk0', hk0']; rfl
        have hn' : (fourL x k).length ≤ 100 := by omega
        clear HN hn hk0'
        generalize fourL x k = l at *
        go_wp2_with fail
        refine (KP _).mono ?_
        rintro e w2 ⟨rfl, hb2⟩
        have x0 := keepc hb2 x0
        have x1 := keepc hb2 x1
        have hB := keepb hb2 hB
        have ho := own_below hb2 hown
        have hT := hP.keep hB
        have hsz : w.heap.size + 1 ≤ w2.heap.size := cell_in x0
        clear hb2 KP hown
        go_wp2_with fail
        refine (auint10 (w.heap.size + 1) l.length d (by omega) _ (Lib.byteCells l) w2 ho hsz (by omega) hT).mono ?_
        rintro e w3 ⟨v3, rfl, ho3, hb3⟩
        have y0 : w3.cell? ⟨w.heap.size, 0, none⟩ = some (.int .u64 (hI x)) := (hb3.cell (p := ⟨w.heap.size, 0, none⟩) (Nat.lt_succ_self _)).trans x0
        have y1 : w3.cell? ⟨w.heap.size, 1, none⟩ = some (.int .u64 (lI x)) := (hb3.cell (p := ⟨w.heap.size, 1, none⟩) (Nat.lt_succ_self _)).trans x1
        have kB := hB.trans (hb3.mono (Nat.le_succ _))
        have ho4 : w3.ownsRow (w.heap.size + 1) 5 1 v3 (fourL x (k + 1)).length (Lib.byteCells (fourL x (k + 1))) := by
          rw [HL.out, List.length_append, show Lib.byteCells (l ++ decL d) = Lib.byteCells l ++ Lib.byteCells (decL d) by simp [Lib.byteCells], ← HD.out]
          exact ho3
        clear ho ho3 hb3 hT x0 x1 hB
        go_wp2
        go_roundw
        case rel => exact ⟨k + 1, by omega, by go_num, ho4, y0, y1, kB⟩
        case measure => simp [intOf]; omega
    · have hk8 : k = 4 := by omega
      subst hk8
      have hpos : 0 < (fourL x 4).length := by
        show 0 < ((if 3 = 0 then [] else fourL x 3 ++ [46]) ++ decL (octN x 3)).length
        rw [if_neg (by decide)]; simp; omega
      obtain ⟨g, cap, rfl, -, -⟩ := hown.form hpos
      have hc : ∀ j, j < (fourL x 4).length → wr.cell? ⟨g, j, none⟩ = some (.int .u8 (((fourL x 4).getD j 0).toNat : Int)) := fun j hj => by
        have := hown.cellAt j (by omega)
        rw [this]
        simp [Lib.byteCells, List.getD, hj]
      have hv := bytes_back wr g cap (fourL x 4) hc
      clear hc hown hi hz0 hz1 hz2 x0 x1
      obtain ⟨l, hl⟩ : ∃ l, fourL x 4 = l := ⟨_, rfl⟩
      rw [hl] at hv ⊢
      have HL : Hid (fourL x 4 = l) := hl
      clear hl
      go_wp2
      go_ret
      exact ⟨by rw [HL.out]; rfl, hB⟩
end Go.Proofs.YtpchhfhdepkbcaaDoor
