/-
  Part 13 of the proof: 4 texts, one behind the other.
-/
import Derived.Test.YtpchhfhdepkbcaaDoorPart12
import Derived.Test.YtpchhfhdepkbcaaDoorPart5
/-
  What a call of package addr's writeFour does: the text of an address of the family 32.
-/
namespace Go.Proofs.YtpchhfhdepkbcaaDoor
open Go.RowKit
set_option linter.unusedSimpArgs false
set_option linter.unusedVariables false

theorem bytes_back (w : World) (g cap : Nat) (l : List UInt8) (hc : ∀ j, j < l.length → w.cell? ⟨g, j, none⟩ = some (.int .u8 ((l.getD j 0).toNat : Int))) :
    (convert 83 9 (.slice (some ⟨g, 0, none⟩) l.length cap)).run Tryd.prog w = .ok (.string ⟨l.toArray⟩) w := by
  refine run_convert_bytes_back (P := Tryd.prog) w 83 9 5 ⟨g, 0, none⟩ cap l Tryd.underlying83 Tryd.underlying5 Tryd.underlying9 ?_
  intro j hj
  have ea : (⟨g, 0, none⟩ : Addr).add j = ⟨g, j, none⟩ := by cases j <;> simp [Addr.add]
  rw [ea, hc j hj]
  simp [List.getD, hj]

theorem pow_below {B : Nat} {w w' : World} (h : Pow w) (hb : Below w.heap.size w w') : Pow w' := h.keep hb

set_option maxHeartbeats 4000000 in
set_option maxRecDepth 20000 in
theorem writeFour_any (x : BitVec 128) (w : World) (hP : Pow w) :
    Calls Tryd.prog 43 #[.agg #[.int .u64 (hI x), .int .u64 (lI x)]] w fun e w' => e = .returned (.string (text4 x)) ∧ Below w.heap.size w w' := by
  obtain ⟨i0, hi, hz0, hz1, hz2⟩ := info_parts Tryd.infoB8
  rw [← fourL_text]
  go_enter Tryd.func43, Tryd.ntmps43
  go_wp2
  go_loopw [3, 5] (fun b i wr => ∃ k : Nat, k ≤ 4 ∧ i = .int .i64 (k : Int) ∧ wr.ownsRow (w.heap.size + 1) 5 1 b (fourL x k).length (Lib.byteCells (fourL x k)) ∧ wr.cell? ⟨w.heap.size, 0, none⟩ = some (.int .u64 (hI x)) ∧ wr.cell? ⟨w.heap.size, 1, none⟩ = some (.int .u64 (lI x)) ∧ Below w.heap.size w wr)
    (fun _ i _ => 4 - (intOf i).toNat)
  case atStart => exact ⟨0, by omega, rfl, World.ownsRow_nil _ _ _ _, by simp [go_sem], by simp [go_sem], bl1 _ _⟩
  case round =>
    obtain ⟨k, hk, rfl, hown, x0, x1, hB⟩ := hrel
    by_cases hlt : (k : Int) < 4
    · have hks : k < 4 := by omega
      have hn := fourL_len x k
      have hO : octN x k < 256 := by unfold octN; omega
      have KP := fun w => part_any x k 8 w (by omega) (by omega) (by omega) (by omega)
      have e120 : ((128 : Int) - 8).toNat = 120 := by decide
      have hdl := decL_lib (octN x k) hO
      have hdn := decL_len3 (octN x k) hO
      rw [e120, oct_part x k hks] at KP
      have HN : Hid (fourL x (k + 1) = (if k = 0 then [] else fourL x k ++ [46]) ++ decL (octN x k)) := rfl
      clear e120
      generalize octN x k = d at *
      have HD : Hid (Lib.decDigits d = decL d) := hdl
      clear hdl
      by_cases hk0 : (0 : Int) < (k : Int)
      · have hk0' : ¬ k = 0 := by omega
        have h47 : ((fourL x k).length + 1) * 1 ≤ 140737488355328 := by omega
        have h63 : (fourL x k).length + 1 ≤ maxLen := by unfold maxLen; omega
        have hsz : w.heap.size + 1 ≤ (wr.alloc (.cells #[.int .u8 46] 5)).heap.size := by have := cell_in x0; simp; omega
        have HL : Hid (fourL x (k + 1) = (fourL x k ++ [46]) ++ decL d) := by show _ = _; rw [HN.out, if_neg hk0']
        go_wp2_with (at_builtin; refine wpList_append_own _ rfl _ _ 83 rfl (w.heap.size + 1) 5 i0 (.int .u8 0) 1 1 Tryd.underlying83 hi hz0 hz1 hz2 rfl (by decide) _ _ _ rfl (hown.alloc _) ⟨wr.heap.size, 0, none⟩ 1 1 [Value.int .u8 46] rfl rfl (news_al _ _ _) (one_al _ _) h63 h47 hsz ?_)
        intro v1 w1 hown1 hgrow1 _
        obtain ⟨x0, x1, hB⟩ := app_keep (World.ownsRow.alloc hown _) hgrow1 (al_keep _ x0 x1 hB).1 (al_keep _ x0 x1 hB).2.1 (al_keep _ x0 x1 hB).2.2
        have ho : w1.ownsRow (w.heap.size + 1) 5 1 v1 (fourL x k ++ [46]).length (Lib.byteCells (fourL x k ++ [46])) := by
          have e1 : (fourL x k ++ [46]).length = (fourL x k).length + 1 := by simp
          have e2 : Lib.byteCells (fourL x k ++ [46]) = Lib.byteCells (fourL x k) ++ [Value.int .u8 46] := by simp [Lib.byteCells]
          rw [e1, e2]; exact hown1
        have hn' : (fourL x k ++ [46]).length ≤ 100 := by simp; omega
        clear hown hown1 hgrow1 HN hn h47 h63 hsz
        generalize fourL x k ++ [46] = l at *
        go_wp2_with fail
        refine (KP _).mono ?_
        rintro e w2 ⟨rfl, hb2⟩
        have x0 := keepc hb2 x0
        have x1 := keepc hb2 x1
        have hB := keepb hb2 hB
        have ho := own_below hb2 ho
        have hT := hP.keep hB
        have hsz : w.heap.size + 1 ≤ w2.heap.size := cell_in x0
        clear hb2 KP
        go_wp2_with fail
        refine (auint10 (w.heap.size + 1) l.length d (by omega) v1 (Lib.byteCells l) w2 ho hsz (by omega) hT).mono ?_
        rintro e w3 ⟨v3, rfl, ho3, hb3⟩
        have y0 : w3.cell? ⟨w.heap.size, 0, none⟩ = some (.int .u64 (hI x)) := (hb3.cell (p := ⟨w.heap.size, 0, none⟩) (Nat.lt_succ_self _)).trans x0
        have y1 : w3.cell? ⟨w.heap.size, 1, none⟩ = some (.int .u64 (lI x)) := (hb3.cell (p := ⟨w.heap.size, 1, none⟩) (Nat.lt_succ_self _)).trans x1
        have kB := hB.trans (hb3.mono (Nat.le_succ _))
        have ho4 : w3.ownsRow (w.heap.size + 1) 5 1 v3 (fourL x (k + 1)).length (Lib.byteCells (fourL x (k + 1))) := by
          rw [HL.out, List.length_append, show Lib.byteCells (l ++ decL d) = Lib.byteCells l ++ Lib.byteCells (decL d) by simp [Lib.byteCells], ← HD.out]
          exact ho3
        clear ho ho3 hb3 hT x0 x1 hB
        go_wp2
        go_roundw
        case rel => exact ⟨k + 1, by omega, by go_num, ho4, y0, y1, kB⟩
        case measure => simp [intOf]; omega
      · have hk0' : k = 0 := by omega
        have HL : Hid (fourL x (k + 1) = fourL x k ++ decL d) := by show _ = _; rw [HN.out, if_pos hk0', hk0']; rfl
        have hn' : (fourL x k).length ≤ 100 := by omega
        clear HN hn hk0'
        generalize fourL x k = l at *
        go_wp2_with fail
        refine (KP _).mono ?_
        rintro e w2 ⟨rfl, hb2⟩
        have x0 := keepc hb2 x0
        have x1 := keepc hb2 x1
        have hB := keepb hb2 hB
        have ho := own_below hb2 hown
        have hT := hP.keep hB
        have hsz : w.heap.size + 1 ≤ w2.heap.size := cell_in x0
        clear hb2 KP hown
        go_wp2_with fail
        refine (auint10 (w.heap.size + 1) l.length d (by omega) _ (Lib.byteCells l) w2 ho hsz (by omega) hT).mono ?_
        rintro e w3 ⟨v3, rfl, ho3, hb3⟩
        have y0 : w3.cell? ⟨w.heap.size, 0, none⟩ = some (.int .u64 (hI x)) := (hb3.cell (p := ⟨w.heap.size, 0, none⟩) (Nat.lt_succ_self _)).trans x0
        have y1 : w3.cell? ⟨w.heap.size, 1, none⟩ = some (.int .u64 (lI x)) := (hb3.cell (p := ⟨w.heap.size, 1, none⟩) (Nat.lt_succ_self _)).trans x1
        have kB := hB.trans (hb3.mono (Nat.le_succ _))
        have ho4 : w3.ownsRow (w.heap.size + 1) 5 1 v3 (fourL x (k + 1)).length (Lib.byteCells (fourL x (k + 1))) := by
          rw [HL.out, List.length_append, show Lib.byteCells (l ++ decL d) = Lib.byteCells l ++ Lib.byteCells (decL d) by simp [Lib.byteCells], ← HD.out]
          exact ho3
        clear ho ho3 hb3 hT x0 x1 hB
        go_wp2
        go_roundw
        case rel => exact ⟨k + 1, by omega, by go_num, ho4, y0, y1, kB⟩
        case measure => simp [intOf]; omega
    · have hk8 : k = 4 := by omega
      subst hk8
      have hpos : 0 < (fourL x 4).length := by
        show 0 < ((if 3 = 0 then [] else fourL x 3 ++ [46]) ++ decL (octN x 3)).length
        rw [if_neg (by decide)]; simp; omega
      obtain ⟨g, cap, rfl, -, -⟩ := hown.form hpos
      have hc : ∀ j, j < (fourL x 4).length → wr.cell? ⟨g, j, none⟩ = some (.int .u8 (((fourL x 4).getD j 0).toNat : Int)) := fun j hj => by
        have := hown.cellAt j (by omega)
        rw [this]
        simp [Lib.byteCells, List.getD, hj]
      have hv := bytes_back wr g cap (fourL x 4) hc
      clear hc hown hi hz0 hz1 hz2 x0 x1
      obtain ⟨l, hl⟩ : ∃ l, fourL x 4 = l := ⟨_, rfl⟩
      rw [hl] at hv ⊢
      have HL : Hid (fourL x 4 = l) := hl
      clear hl
      go_wp2
      go_ret
      exact ⟨by rw [HL.out]; rfl, hB⟩
end Go.Proofs.YtpchhfhdepkbcaaDoor
/-
  What the calls of package addr's longestRow, join, writeSix do.
-/
namespace Go.Proofs.YtpchhfhdepkbcaaDoor
open Go.RowKit
set_option linter.unusedSimpArgs false
set_option linter.unusedVariables false

/-- The text of the first k of a row's groups. -/
def jnH (g : Nat → Nat) : Nat → List UInt8
  | 0 => []
  | k + 1 => (if k = 0 then [] else jnH g k ++ [58]) ++ hexL (g k)
theorem jnH_len (g : Nat → Nat) (hl : ∀ j, g j < 65536) (k : Nat) : (jnH g k).length ≤ 5 * k := by
  induction k with
  | zero => simp [jnH]
  | succ k ih =>
    have := (hexL_len _ (hl k)).2
    unfold jnH
    rw [List.length_append]
    split
    · simp; omega
    · simp; omega
/-- A row of numbers in memory, from a place on. -/
def RowN (w : World) (C o : Nat) (g : Nat → Nat) (n : Nat) : Prop := ∀ j, j < n → w.cell? ⟨C, o + j, none⟩ = some (.int .u64 ((g j : Nat) : Int))
theorem RowN.below {w w' : World} {C o n : Nat} {g : Nat → Nat} (h : RowN w C o g n) (hb : Below w.heap.size w w') : RowN w' C o g n := fun j hj => keepc hb (h j hj)

set_option maxHeartbeats 4000000 in
set_option maxRecDepth 20000 in
theorem join_any (C o cap n : Nat) (g : Nat → Nat) (w : World) (hl : ∀ j, g j < 65536) (hn : n ≤ 8) (hR : RowN w C o g n) (hT : Tab w) :
    Calls Tryd.prog 75 #[.slice (some ⟨C, o, none⟩) n cap] w fun e w' => e = .returned (.string ⟨(jnH g n).toArray⟩) ∧ Below w.heap.size w w' := by
  obtain ⟨i0, hi, hz0, hz1, hz2⟩ := info_parts Tryd.infoB8
  have hn' : (n : Int) ≤ 8 := by omega
  go_enter Tryd.func75, Tryd.ntmps75
  go_wp2
  go_loopw [3, 8] (fun b i wr => ∃ k : Nat, k ≤ n ∧ i = .int .i64 (k : Int) ∧ wr.ownsRow w.heap.size 5 1 b (jnH g k).length (Lib.byteCells (jnH g k)) ∧ Below w.heap.size w wr)
    (fun _ i _ => n - (intOf i).toNat)
  case atStart => exact ⟨0, by omega, rfl, World.ownsRow_nil _ _ _ _, Below.refl _ _⟩
  case round =>
    obtain ⟨k, hk, rfl, hown, hB⟩ := hrel
    by_cases hlt : (k : Int) < (n : Int)
    · have hks : k < n := by omega
      have hcell : wr.cell? ⟨C, o + k, none⟩ = some (.int .u64 ((g k : Nat) : Int)) := (hR.below hB) k hks
      have hlen := jnH_len g hl k
      have hd := hl k
      have HN : Hid (jnH g (k + 1) = (if k = 0 then [] else jnH g k ++ [58]) ++ hexL (g k)) := rfl
      have hdl := (hexL_len _ hd).2
      generalize g k = d at *
      by_cases hk0 : (0 : Int) < (k : Int)
      · have h47 : (jnH g k).length + 1 ≤ 140737488355328 := by omega
        have h63 : (jnH g k).length + 1 ≤ maxLen := by unfold maxLen; omega
        have HL : Hid (jnH g (k + 1) = (jnH g k ++ [58]) ++ hexL d) := by show _ = _; rw [HN.out, if_neg (by omega)]
        go_wp2_with (at_builtin; refine Lib.wpList_append_own_string _ rfl _ _ 83 9 rfl w.heap.size 5 i0 Tryd.underlying83 Tryd.underlying9 hi hz0 hz1 hz2 _ _ _ rfl hown ⟨#[58]⟩ rfl h63 h47 hB.size ?_; intro v1 w1 hown1 hgrow1 _)
        have hB1 : Below w.heap.size w w1 := hB.grown hgrow1 hB.size (fun k hk => (hown.lt k hk).1)
        have ho : w1.ownsRow w.heap.size 5 1 v1 (jnH g k ++ [58]).length (Lib.byteCells (jnH g k ++ [58])) := by
          have e1 : (jnH g k ++ [58]).length = (jnH g k).length + 1 := by simp
          have e2 : Lib.byteCells (jnH g k ++ [58]) = Lib.byteCells (jnH g k) ++ Lib.strCells ⟨#[58]⟩ := by simp [Lib.byteCells, Lib.strCells]
          rw [e1, e2]; exact hown1
        have hn2 : (jnH g k ++ [58]).length ≤ 100 := by simp; omega
        have hB := hB1
        clear hown hown1 hgrow1 HN hlen h47 h63 hB1 hi hz0 hz1 hz2 hcell
        generalize jnH g k ++ [58] = l at *
        go_wp2_with fail
        refine (auint16 w.heap.size l.length d hd _ (Lib.byteCells l) _ ho hB.size (by omega) (hT.keep hB)).mono ?_
        rintro e w3 ⟨v3, rfl, ho3, hb3⟩
        have kB := hB.trans hb3
        have ho4 : w3.ownsRow w.heap.size 5 1 v3 (jnH g (k + 1)).length (Lib.byteCells (jnH g (k + 1))) := by
          rw [HL.out, List.length_append, show Lib.byteCells (l ++ hexL d) = Lib.byteCells l ++ Lib.byteCells (hexL d) by simp [Lib.byteCells]]
          exact ho3
        clear ho ho3 hb3 hB hR hT
        go_wp2
        go_roundw
        case rel => exact ⟨k + 1, by omega, by go_num, ho4, kB⟩
        case measure => simp [intOf]; omega
      · have hk0' : k = 0 := by omega
        have HL : Hid (jnH g (k + 1) = jnH g k ++ hexL d) := by show _ = _; rw [HN.out, if_pos hk0', hk0']; rfl
        have hn2 : (jnH g k).length ≤ 100 := by omega
        clear HN hlen hk0' hi hz0 hz1 hz2
        generalize jnH g k = l at *
        go_wp2_with fail
        refine (auint16 w.heap.size l.length d hd _ (Lib.byteCells l) _ hown hB.size (by omega) (hT.keep hB)).mono ?_
        rintro e w3 ⟨v3, rfl, ho3, hb3⟩
        have kB := hB.trans hb3
        have ho4 : w3.ownsRow w.heap.size 5 1 v3 (jnH g (k + 1)).length (Lib.byteCells (jnH g (k + 1))) := by
          rw [HL.out, List.length_append, show Lib.byteCells (l ++ hexL d) = Lib.byteCells l ++ Lib.byteCells (hexL d) by simp [Lib.byteCells]]
          exact ho3
        clear hown ho3 hb3 hB hcell hR hT
        go_wp2
        go_roundw
        case rel => exact ⟨k + 1, by omega, by go_num, ho4, kB⟩
        case measure => simp [intOf]; omega
    · have hk8 : k = n := by omega
      subst hk8
      obtain ⟨l, hl'⟩ : ∃ l, jnH g k = l := ⟨_, rfl⟩
      have HL : Hid (jnH g k = l) := hl'
      rw [hl'] at hown
      clear hl'
      rcases hown.2 with ⟨rfl, h0⟩ | ⟨b, cp, cur, rfl, r1, r2, r3, r4, r5, r6⟩
      · have hl0 : l = [] := List.eq_nil_of_length_eq_zero h0
        subst hl0
        have hv : (convert 83 9 (.slice none 0 0)).run Tryd.prog wr = .ok (.string ⟨#[]⟩) wr := by
          rw [run_convert_bytes_string wr 83 9 5 _ _ _ Tryd.underlying83 Tryd.underlying5 Tryd.underlying9]
          simp [Conv.bytesToString]
          rfl
        clear hown hi hz0 hz1 hz2 hR hT
        go_wp2
        go_ret
        exact ⟨by rw [HL.out]; rfl, hB⟩
      · have hc : ∀ j, j < l.length → wr.cell? ⟨b, j, none⟩ = some (.int .u8 ((l.getD j 0).toNat : Int)) := fun j hj => by
          have := hown.cellAt j (by omega)
          rw [this]
          simp [Lib.byteCells, List.getD, hj]
        have hv := bytes_back wr b cp l hc
        clear hc hown hi hz0 hz1 hz2 r1 r2 r3 r4 r5 r6 hR hT
        go_wp2
        go_ret
        exact ⟨by rw [HL.out]; rfl, hB⟩
end Go.Proofs.YtpchhfhdepkbcaaDoor
/-
  What a call of package addr's longestRow does.
-/
namespace Go.Proofs.YtpchhfhdepkbcaaDoor
open Go.RowKit
set_option linter.unusedSimpArgs false
set_option linter.unusedVariables false

theorem new8 (w : World) (G : Nat → Int) (T : TypeId) : ∀ k, k < 8 → (w.alloc (.cells #[.int .u64 (G 0), .int .u64 (G 1), .int .u64 (G 2), .int .u64 (G 3), .int .u64 (G 4), .int .u64 (G 5), .int .u64 (G 6), .int .u64 (G 7)] T)).cell? ⟨w.heap.size, k, none⟩ = some (.int .u64 (G k)) := by
  intro k hk
  rw [World.cell?_alloc_new]
  rcases k with _ | _ | _ | _ | _ | _ | _ | _ | k
  all_goals first | rfl | omega
set_option maxHeartbeats 4000000 in
set_option maxRecDepth 20000 in
theorem longestRow_any (G : Nat → Int) (w : World) :
    Calls Tryd.prog 74 #[.agg #[.int .u64 (G 0), .int .u64 (G 1), .int .u64 (G 2), .int .u64 (G 3), .int .u64 (G 4), .int .u64 (G 5), .int .u64 (G 6), .int .u64 (G 7)]] w fun e w' => e = .returned (.tuple #[.int .i64 ((bsG G 8 0 0 0).1 : Nat), .int .i64 ((bsG G 8 0 0 0).2 : Nat)]) ∧ Below w.heap.size w w' := by
  have hrow : Hid (∀ k, k < 8 → (w.alloc (.cells #[.int .u64 (G 0), .int .u64 (G 1), .int .u64 (G 2), .int .u64 (G 3), .int .u64 (G 4), .int .u64 (G 5), .int .u64 (G 6), .int .u64 (G 7)] 86)).cell? ⟨w.heap.size, k, none⟩ = some (.int .u64 (G k))) := new8 w G _
  go_enter Tryd.func74, Tryd.ntmps74
  go_wp2
  have hBW := bl1 w (.cells #[.int .u64 (G 0), .int .u64 (G 1), .int .u64 (G 2), .int .u64 (G 3), .int .u64 (G 4), .int .u64 (G 5), .int .u64 (G 6), .int .u64 (G 7)] 86)
  obtain ⟨W, HW⟩ : ∃ W, Hid ((w.alloc (.cells #[.int .u64 (G 0), .int .u64 (G 1), .int .u64 (G 2), .int .u64 (G 3), .int .u64 (G 4), .int .u64 (G 5), .int .u64 (G 6), .int .u64 (G 7)] 86)) = W) := ⟨_, rfl⟩
  rw [HW.out] at hrow hBW ⊢
  go_step3
  go_wp2
  go_step3
  go_wp2
  go_loopw [2, 3, 6] (fun p q r wz => ∃ (i a b : Nat), p = .int .i64 a ∧ q = .int .i64 b ∧ r = .int .i64 i ∧ i ≤ 8 ∧ a ≤ 8 ∧ b ≤ 8 ∧ Hid (bsG G (8 - i) i a b = bsG G 8 0 0 0) ∧ wz = W) (fun _ _ r _ => 8 - (intOf r).toNat)
  case atStart => exact ⟨0, 0, 0, rfl, rfl, rfl, by omega, by omega, by omega, rfl, rfl⟩
  case round =>
    obtain ⟨i, a, b, rfl, rfl, rfl, hi8, ha8, hb8, HR, rfl⟩ := hrel
    by_cases hlt : i < 8
    · have hi2 : (i : Int) < 8 := by omega
      have HU : Hid (8 - i = (8 - (i + 1)) + 1) := by show _ = _; omega
      have HS : Hid (∀ f, bsG G (f + 1) i a b = if b < rnG G i 9 0 then bsG G f (i + 1) i (rnG G i 9 0) else bsG G f (i + 1) a b) := fun _ => rfl
      go_wp2
      go_loopw [2, 3, 5] (fun p q r wz2 => ∃ (n c d m : Nat), p = .int .i64 c ∧ q = .int .i64 d ∧ r = .int .i64 m ∧ m = i + n ∧ m ≤ 8 ∧ c ≤ 8 ∧ d ≤ 8 ∧ Hid ((b < n ∧ c = i ∧ d = n) ∨ (¬ b < n ∧ c = a ∧ d = b)) ∧ Hid (rnG G i (9 - n) n = rnG G i 9 0) ∧ wz2 = wr) (fun _ _ r _ => 9 - (intOf r).toNat)
      case atStart => exact ⟨0, a, b, i, rfl, rfl, rfl, by omega, by omega, by omega, by omega, Or.inr ⟨by omega, rfl, rfl⟩, rfl, rfl⟩
      case round =>
        obtain ⟨n, c, d, m, rfl, rfl, rfl, hmn, hm8, hc8, hd8, HD, HN, rfl⟩ := hrel
        have HMN : Hid (m = i + n) := hmn
        clear hmn
        have HUN : Hid (9 - n = (9 - (n + 1)) + 1) := by show _ = _; have := HMN.out; omega
        have HSN : Hid (∀ f, rnG G i (f + 1) n = if i + n < 8 ∧ G (i + n) = 0 then rnG G i f (n + 1) else n) := fun _ => rfl
        by_cases hc : m < 8
        · have hcell := hrow.out m hc
          have hm2 : (m : Int) < 8 := by omega
          have HSN2 : Hid (rnG G i (9 - n) n = if G m = 0 then rnG G i (9 - (n + 1)) (n + 1) else n) := by
            show _ = _
            rw [HUN.out, HSN.out, HMN.out]
            by_cases q : G (i + n) = 0
            · rw [if_pos ⟨by have := HMN.out; omega, q⟩, if_pos q]
            · rw [if_neg (fun z => q z.2), if_neg q]
          generalize G m = v at *
          clear HUN HSN
          by_cases hv0 : v = 0
          · have HF : Hid (rnG G i (9 - (n + 1)) (n + 1) = rnG G i 9 0) := by show _ = _; rw [← HN.out, HSN2.out, if_pos hv0]
            subst hv0
            have u1 : IntKind.i64.wrap ((m : Int) - (i : Int)) = (n : Int) := by rw [IntKind.wrap_i64]; have := HMN.out; omega
            have u2 : IntKind.i64.wrap ((n : Int) + 1) = (n : Int) + 1 := by rw [IntKind.wrap_i64]; have := HMN.out; omega
            clear HSN2 HN
            by_cases hdn : (d : Int) < (n : Int) + 1
            · have HD2 : Hid ((b < n + 1 ∧ i = i ∧ n + 1 = n + 1) ∨ (¬ b < n + 1 ∧ i = a ∧ n + 1 = b)) := by
                have := HD.out
                left; refine ⟨by omega, rfl, rfl⟩
              clear HD
              go_wp2
              go_roundw
              case rel => exact ⟨n + 1, i, n + 1, m + 1, rfl, by go_num, by go_num, by have := HMN.out; omega, by omega, by omega, by have := HMN.out; omega, HD2, HF, trivial⟩
              case measure => simp [intOf]; omega
            · have HD2 : Hid ((b < n + 1 ∧ c = i ∧ d = n + 1) ∨ (¬ b < n + 1 ∧ c = a ∧ d = b)) := by
                have := HD.out
                right; refine ⟨by omega, by omega, by omega⟩
              clear HD
              go_wp2
              go_roundw
              case rel => exact ⟨n + 1, c, d, m + 1, rfl, rfl, by go_num, by have := HMN.out; omega, by omega, by omega, by omega, HD2, HF, trivial⟩
              case measure => simp [intOf]; omega
          · have HF : Hid (rnG G i 9 0 = n) := by show _ = _; rw [← HN.out, HSN2.out, if_neg hv0]
            have hvb : (v != 0) = true := by simp [hv0]
            have HR2 : Hid (bsG G (8 - (i + 1)) (i + 1) c d = bsG G 8 0 0 0) := by
              show _ = _
              rw [← HR.out, HU.out, HS.out, HF.out]
              rcases HD.out with ⟨q1, q2, q3⟩ | ⟨q1, q2, q3⟩
              · rw [if_pos q1, q2, q3]
              · rw [if_neg q1, q2, q3]
            clear HSN2 HN HR HS HU HF HD
            go_wp2
            go_roundw
            case rel => exact ⟨i + 1, c, d, rfl, rfl, by go_num, by omega, by omega, by omega, HR2, trivial⟩
            case measure => simp [intOf]; omega
        · have hm2 : ¬ (m : Int) < 8 := by omega
          have HF : Hid (rnG G i 9 0 = n) := by show _ = _; rw [← HN.out, HUN.out, HSN.out, if_neg (fun z => hc (by have := HMN.out; omega))]
          have HR2 : Hid (bsG G (8 - (i + 1)) (i + 1) c d = bsG G 8 0 0 0) := by
            show _ = _
            rw [← HR.out, HU.out, HS.out, HF.out]
            rcases HD.out with ⟨q1, q2, q3⟩ | ⟨q1, q2, q3⟩
            · rw [if_pos q1, q2, q3]
            · rw [if_neg q1, q2, q3]
          clear HUN HSN HN HR HS HU HF HD
          go_wp2
          go_roundw
          case rel => exact ⟨i + 1, c, d, rfl, rfl, by go_num, by omega, by omega, by omega, HR2, trivial⟩
          case measure => simp [intOf]; omega
    · have hi2 : ¬ (i : Int) < 8 := by omega
      have HF : Hid (bsG G 8 0 0 0 = (a, b)) := by
        show _ = _
        rw [← HR.out, show 8 - i = 0 by omega]; rfl
      clear HR
      go_wp2
      try rw [Exit.noGoto_ret]
      go_ret2
      exact ⟨by rw [HF.out]; rfl, hBW⟩
end Go.Proofs.YtpchhfhdepkbcaaDoor
/-
  What a call of package addr's writeSix does: the text of an address of the family 128.
-/
namespace Go.Proofs.YtpchhfhdepkbcaaDoor
open Go.RowKit
set_option linter.unusedSimpArgs false
set_option linter.unusedVariables false

theorem jnH_jn (g : Nat → Nat) (o : Nat) : ∀ n, jnH (fun j => g (o + j)) n = jn 58 ((List.range' o n).map fun k => hexL (g k)) := by
  intro n
  induction n with
  | zero => rfl
  | succ n ih =>
    rw [List.range'_concat, List.map_append, List.map_cons, List.map_nil, Nat.one_mul]
    show (if n = 0 then [] else jnH (fun j => g (o + j)) n ++ [58]) ++ hexL (g (o + n)) = _
    by_cases h : n = 0
    · subst h; simp [jn]
    · rw [if_neg h, ih, jn_snoc 58 _ _ (by simp [h])]
      simp
def grN (x : BitVec 128) (k : Nat) : Nat := (grpX x k).toNat
theorem grN_bd (x : BitVec 128) (k : Nat) : grN x k < 65536 := by
  have := grpX_any x k
  unfold grN; omega
theorem grN_int (x : BitVec 128) (k : Nat) : ((grN x k : Nat) : Int) = grpX x k := by
  have := grpX_any x k
  unfold grN; omega
theorem set_rowk {W : World} {C k : Nat} {x : BitVec 128} (hc : ∀ j, j < 8 → W.cell? ⟨C, j, none⟩ = some (.int .u64 (if j < k then grpX x j else 0))) (hk : k < 8) :
    ∀ j, j < 8 → (W.setCell ⟨C, k, none⟩ (.int .u64 (grpX x k))).cell? ⟨C, j, none⟩ = some (.int .u64 (if j < k + 1 then grpX x j else 0)) := by
  intro j hj
  by_cases e : j = k
  · subst e
    rw [set_same (hc j hj), if_pos (by omega)]
  · rw [set_other (fun q => e q.symm), hc j hj]
    by_cases q : j < k
    · rw [if_pos q, if_pos (by omega)]
    · rw [if_neg q, if_neg (by omega)]
theorem zero8 (w : World) (o : Obj) (T : TypeId) : ∀ j, j < 8 → ((w.alloc o).alloc (.cells #[.int .u64 0, .int .u64 0, .int .u64 0, .int .u64 0, .int .u64 0, .int .u64 0, .int .u64 0, .int .u64 0] T)).cell? ⟨w.heap.size + 1, j, none⟩ = some (.int .u64 0) := by
  intro j hj
  rw [new_cell]
  rcases j with _ | _ | _ | _ | _ | _ | _ | _ | j
  all_goals first | rfl | omega

set_option maxHeartbeats 8000000 in
set_option maxRecDepth 20000 in
theorem writeSix_any (x : BitVec 128) (w : World) (hT : Tab w) :
    Calls Tryd.prog 44 #[.agg #[.int .u64 (hI x), .int .u64 (lI x)]] w fun e w' => e = .returned (.string (text6 x)) ∧ Below w.heap.size w w' := by
  go_enter Tryd.func44, Tryd.ntmps44
  go_wp2
  go_loopw [7] (fun i wr => ∃ k : Nat, k ≤ 8 ∧ i = .int .i64 k ∧ At wr w.heap.size x ∧ (∀ j, j < 8 → wr.cell? ⟨w.heap.size + 1, j, none⟩ = some (.int .u64 (if j < k then grpX x j else 0))) ∧ (∀ j, j < 8 → wr.frozen? ⟨w.heap.size + 1, j, none⟩ = false) ∧ Below w.heap.size w wr)
    (fun i _ => 8 - (intOf i).toNat)
  case atStart =>
    refine ⟨0, by omega, rfl, (at_new w w.heap.size x 24 rfl).below (bl1 _ _), ?_, ?_, bl2 _ _ _⟩
    · intro j hj
      rw [if_neg (by omega)]
      exact zero8 _ _ _ j hj
    · intro j hj
      rw [new_frozen]
  case round =>
    obtain ⟨k, hk, rfl, hX, hc, hf, hB⟩ := hrel
    by_cases hlt : (k : Int) < 8
    · have hks : k < 8 := by omega
      have KP := fun w => part_any x k 16 w (by omega) (by omega) (by omega) (by omega)
      have e1 : lI ((x <<< (16 * (k : Int)).toNat) >>> ((128 : Int) - 16).toNat) = grpX x k := rfl
      rw [e1] at KP
      clear e1
      have hck := hc k hks
      have hfk := hf k hks
      obtain ⟨x0, x1, -, -, -⟩ := id hX
      have HS : Hid (∀ W : World, (∀ j, j < 8 → W.cell? ⟨w.heap.size + 1, j, none⟩ = some (.int .u64 (if j < k then grpX x j else 0))) → ∀ j, j < 8 → (W.setCell ⟨w.heap.size + 1, k, none⟩ (.int .u64 (grpX x k))).cell? ⟨w.heap.size + 1, j, none⟩ = some (.int .u64 (if j < k + 1 then grpX x j else 0))) := fun W h => set_rowk h hks
      have HC0 : Hid (∀ j, j < 8 → wr.cell? ⟨w.heap.size + 1, j, none⟩ = some (.int .u64 (if j < k then grpX x j else 0))) := hc
      have HF0 : Hid (∀ j, j < 8 → wr.frozen? ⟨w.heap.size + 1, j, none⟩ = false) := hf
      clear hc hf
      go_wp2_with fail
      refine (KP _).mono ?_
      rintro e w1 ⟨rfl, hb1⟩
      have ck := keepc hb1 hck
      have fk := keepf hb1 hck hfk
      have HC : Hid (∀ j, j < 8 → w1.cell? ⟨w.heap.size + 1, j, none⟩ = some (.int .u64 (if j < k then grpX x j else 0))) := fun j hj => keepc hb1 (HC0.out j hj)
      have HF : Hid (∀ j, j < 8 → w1.frozen? ⟨w.heap.size + 1, j, none⟩ = false) := fun j hj => keepf hb1 (HC0.out j hj) (HF0.out j hj)
      have X1 := hX.below hb1
      have kB := keepb hb1 hB
      clear hck hfk x0 x1 hX hB hb1 HC0 HF0 KP
      generalize hg : grpX x k = v at *
      clear hg
      go_wp2
      go_roundw
      case rel =>
        refine ⟨k + 1, by omega, by go_num, ?_, HS.out _ HC.out, ?_, kB.setCell (show w.heap.size ≤ w.heap.size + 1 by omega) _⟩
        · obtain ⟨y0, y1, y2, y3, y4⟩ := X1
          refine ⟨?_, ?_, ?_, ?_, ?_⟩ <;> simp [go_sem, *]
        · intro j hj
          have := HF.out j hj
          simp [go_sem, this]
      case measure => simp [intOf]; omega
    · have hk8 : k = 8 := by omega
      subst hk8
      have hR : ∀ j, j < 8 → wr.cell? ⟨w.heap.size + 1, j, none⟩ = some (.int .u64 (grpX x j)) := fun j hj => by rw [hc j hj, if_pos hj]
      have c0 := hR 0 (by omega)
      have c1 := hR 1 (by omega)
      have c2 := hR 2 (by omega)
      have c3 := hR 3 (by omega)
      have c4 := hR 4 (by omega)
      have c5 := hR 5 (by omega)
      have c6 := hR 6 (by omega)
      have c7 := hR 7 (by omega)
      have HR : Hid (RowN wr (w.heap.size + 1) 0 (grN x) 8) := fun j hj => by rw [grN_int]; simpa using hR j hj
      clear hc hf hX hR
      go_wp2_with fail
      refine (longestRow_any (grpX x) _).mono ?_
      rintro e w2 ⟨rfl, hb2⟩
      have HR2 : Hid (RowN w2 (w.heap.size + 1) 0 (grN x) 8) := HR.out.below hb2
      have kB2 := keepb hb2 hB
      clear c0 c1 c2 c3 c4 c5 c6 c7 HR hB hb2
      have hrb := row_bd x
      have HA : Hid (rowN x < 2 → text6 x = bL (jn 58 ((List.range' 0 8).map (pcX x)))) := text6_flat x
      have HG : Hid (¬ rowN x < 2 → text6 x = bL (jn 58 ((List.range' 0 (rowA x)).map (pcX x)) ++ [58, 58] ++ jn 58 ((List.range' (rowA x + rowN x) (8 - (rowA x + rowN x))).map (pcX x)))) := text6_gap x
      have ea : (bsG (grpX x) 8 0 0 0).1 = rowA x := rfl
      have eb : (bsG (grpX x) 8 0 0 0).2 = rowN x := rfl
      rw [ea, eb]
      clear ea eb
      have hTk := hT.keep kB2
      by_cases h2 : ((rowN x : Nat) : Int) < 2
      · have HV : Hid (text6 x = ⟨(jnH (grN x) 8).toArray⟩) := by
          show _ = _
          rw [HA.out (by omega)]
          have := jnH_jn (grN x) 0 8
          simp only [Nat.zero_add] at this
          rw [this]
          rfl
        have KJ := fun (hr : RowN w2 (w.heap.size + 1) 0 (grN x) 8) => join_any (w.heap.size + 1) 0 8 8 (grN x) w2 (grN_bd x) (by omega) hr hTk
        have KJ2 := KJ HR2.out
        clear KJ HA HG hrb
        generalize rowN x = b at *
        generalize rowA x = a at *
        go_wp2_with fail
        refine KJ2.mono ?_
        rintro e w3 ⟨rfl, hb3⟩
        have kB3 := keepb hb3 kB2
        clear hb3 KJ2 HR2
        go_wp2
        go_ret
        exact ⟨by rw [HV.out]; rfl, kB3⟩
      · have hr8 := hrb (by omega)
        have HV : Hid (text6 x = ⟨(jnH (fun j => grN x (0 + j)) (rowA x)).toArray⟩ ++ ⟨#[58, 58]⟩ ++ ⟨(jnH (fun j => grN x (rowA x + rowN x + j)) (8 - (rowA x + rowN x))).toArray⟩) := by
          show _ = _
          rw [HG.out (by omega), jnH_jn (grN x) 0 (rowA x), jnH_jn (grN x) (rowA x + rowN x)]
          show bL _ = bL _ ++ bL [58, 58] ++ bL _
          rw [bL_cat, bL_cat]
          rfl
        have L1 := jnH_len (fun j => grN x (0 + j)) (fun j => grN_bd x _) (rowA x)
        have L2 := jnH_len (fun j => grN x (rowA x + rowN x + j)) (fun j => grN_bd x _) (8 - (rowA x + rowN x))
        have KJ : ∀ o n cap w', o + n ≤ 8 → RowN w' (w.heap.size + 1) 0 (grN x) 8 → Below w.heap.size w w' → Calls Tryd.prog 75 #[.slice (some ⟨w.heap.size + 1, o, none⟩) n cap] w' fun e w'' => e = .returned (.string ⟨(jnH (fun j => grN x (o + j)) n).toArray⟩) ∧ Below w'.heap.size w' w'' := fun o n cap w' ho hr hb =>
          join_any (w.heap.size + 1) o cap n (fun j => grN x (o + j)) w' (fun j => grN_bd x _) (by omega) (fun j hj => by have := hr (o + j) (by omega); simpa using this) (hT.keep hb)
        have KA := fun w' => KJ 0 (rowA x) 8 w' (by omega)
        by_cases hfull : rowA x + rowN x = 8
        · have KB := fun w' => KJ 0 0 0 w' (by omega)
          have e0 : (⟨(jnH (fun j => grN x (0 + j)) 0).toArray⟩ : ByteArray) = ⟨#[]⟩ := rfl
          have e8 : (⟨(jnH (fun j => grN x (rowA x + rowN x + j)) (8 - (rowA x + rowN x))).toArray⟩ : ByteArray) = ⟨#[]⟩ := by
            rw [show 8 - (rowA x + rowN x) = 0 by omega]; rfl
          rw [e0] at KB
          rw [e8] at HV
          clear KJ HA HG hrb e0 e8 L2
          generalize hJ1 : (⟨(jnH (fun j => grN x (0 + j)) (rowA x)).toArray⟩ : ByteArray) = J1 at *
          have z1 : J1.size ≤ 40 := by rw [← hJ1]; exact Nat.le_trans L1 (by omega)
          clear hJ1 L1
          generalize rowN x = b at *
          generalize rowA x = a at *
          have s1 : (J1 ++ ⟨#[58, 58]⟩).size = J1.size + 2 := by rw [ByteArray.size_append]; rfl
          have l1 : ¬ 9223372036854775807 < J1.size + 2 := by omega
          have ha : (a : Int) ≤ 8 := by omega
          have hu : IntKind.i64.wrap ((a : Int) + (b : Int)) = 8 := by rw [IntKind.wrap_i64]; omega
          clear hfull
          have hR2d : RowN w2.drew (w.heap.size + 1) 0 (grN x) 8 := HR2.out
          have kB2d := kB2.drew
          go_wp2_with fail
          refine q_region (C := fun w' => RowN w' (w.heap.size + 1) 0 (grN x) 8 ∧ Below w.heap.size w w') (by kernel_rfl) (by kernel_rfl) ⟨hR2d, kB2d⟩ ?_
          clear hR2d kB2d HR2 kB2 hTk hT
          refine q_run (v := .int .i64 (a : Int)) (by rfl) ?_ ?_
          · (intro w1 hC; obtain ⟨c1, c2⟩ := hC; clear c1 c2; go_simp; first | done | (simp; done) | (simp [*]; done) | omega | (simp; omega) | (rw [IntKind.wrap_i64]; omega) | (intro hx; omega) | rfl)
          simp only [Act.put, List.setIfInBounds_toArray, List.set_cons_zero, List.set_cons_succ]
          refine q_run (v := .slice (some ⟨w.heap.size + 1, 0, none⟩) a 8) (by rfl) ?_ ?_
          · (intro w1 hC; obtain ⟨c1, c2⟩ := hC; clear c1 c2; go_simp; first | done | (simp; done) | (simp [*]; done) | omega | (simp; omega) | (rw [IntKind.wrap_i64]; omega) | (intro hx; omega) | rfl)
          simp only [Act.put, List.setIfInBounds_toArray, List.set_cons_zero, List.set_cons_succ]
          refine q_call (v := .string J1) (f := 75) (args := #[.slice (some ⟨w.heap.size + 1, 0, none⟩) a 8]) (by rfl) ?_ ?_ ?_
          · (intro w1 hC; clear hC; go_simp)
          · exact fun w1 hC => (KA w1 hC.1 hC.2).mono fun e w' ⟨he, hb⟩ => ⟨he, hC.1.below hb, keepb hb hC.2⟩
          simp only [Act.put, List.setIfInBounds_toArray, List.set_cons_zero, List.set_cons_succ]
          refine q_run (v := .string (J1 ++ ⟨#[58, 58]⟩)) (by rfl) ?_ ?_
          · (intro w1 hC; obtain ⟨c1, c2⟩ := hC; clear c1 c2; go_simp; first | done | (simp; done) | (simp [*]; done) | omega | (simp; omega) | (rw [IntKind.wrap_i64]; omega) | (intro hx; omega) | rfl)
          simp only [Act.put, List.setIfInBounds_toArray, List.set_cons_zero, List.set_cons_succ]
          refine q_run (v := .int .i64 (a : Int)) (by rfl) ?_ ?_
          · (intro w1 hC; obtain ⟨c1, c2⟩ := hC; clear c1 c2; go_simp; first | done | (simp; done) | (simp [*]; done) | omega | (simp; omega) | (rw [IntKind.wrap_i64]; omega) | (intro hx; omega) | rfl)
          simp only [Act.put, List.setIfInBounds_toArray, List.set_cons_zero, List.set_cons_succ]
          refine q_run (v := .int .i64 (b : Int)) (by rfl) ?_ ?_
          · (intro w1 hC; obtain ⟨c1, c2⟩ := hC; clear c1 c2; go_simp; first | done | (simp; done) | (simp [*]; done) | omega | (simp; omega) | (rw [IntKind.wrap_i64]; omega) | (intro hx; omega) | rfl)
          simp only [Act.put, List.setIfInBounds_toArray, List.set_cons_zero, List.set_cons_succ]
          refine q_run (v := .int .i64 8) (by rfl) ?_ ?_
          · (intro w1 hC; obtain ⟨c1, c2⟩ := hC; clear c1 c2; go_simp; first | done | (simp; done) | (simp [*]; done) | omega | (simp; omega) | (rw [IntKind.wrap_i64]; omega) | (intro hx; omega) | rfl)
          simp only [Act.put, List.setIfInBounds_toArray, List.set_cons_zero, List.set_cons_succ]
          refine q_run (v := .slice (some ⟨w.heap.size + 1, 0, none⟩) 0 0) (by rfl) ?_ ?_
          · (intro w1 hC; obtain ⟨c1, c2⟩ := hC; clear c1 c2; go_simp; first | done | (simp; done) | (simp [*]; done) | omega | (simp; omega) | (rw [IntKind.wrap_i64]; omega) | (intro hx; omega) | rfl)
          simp only [Act.put, List.setIfInBounds_toArray, List.set_cons_zero, List.set_cons_succ]
          refine q_call (v := .string ⟨#[]⟩) (f := 75) (args := #[.slice (some ⟨w.heap.size + 1, 0, none⟩) 0 0]) (by rfl) ?_ ?_ ?_
          · (intro w1 hC; clear hC; go_simp)
          · exact fun w1 hC => (KB w1 hC.1 hC.2).mono fun e w' ⟨he, hb⟩ => ⟨he, hC.1.below hb, keepb hb hC.2⟩
          simp only [Act.put, List.setIfInBounds_toArray, List.set_cons_zero, List.set_cons_succ]
          refine q_run (v := .string (J1 ++ ⟨#[58, 58]⟩ ++ ⟨#[]⟩)) (by rfl) ?_ ?_
          · (intro w1 hC; obtain ⟨c1, c2⟩ := hC; clear c1 c2; go_simp; first | done | (simp; done) | (simp [*]; done) | omega | (simp; omega) | (rw [IntKind.wrap_i64]; omega) | (intro hx; omega) | rfl)
          simp only [Act.put, List.setIfInBounds_toArray, List.set_cons_zero, List.set_cons_succ]
          refine q_run (v := .string (J1 ++ ⟨#[58, 58]⟩ ++ ⟨#[]⟩)) (by rfl) ?_ ?_
          · (intro w1 hC; obtain ⟨c1, c2⟩ := hC; clear c1 c2; go_simp; first | done | (simp; done) | (simp [*]; done) | omega | (simp; omega) | (rw [IntKind.wrap_i64]; omega) | (intro hx; omega) | rfl)
          simp only [Act.put, List.setIfInBounds_toArray, List.set_cons_zero, List.set_cons_succ]
          refine wpQuiet_nil ?_
          rintro w9 ⟨-, kB9⟩
          clear KA KB
          go_wp2
          go_ret
          exact ⟨by rw [HV.out]; rfl, kB9⟩
        · have KB := fun w' => KJ (rowA x + rowN x) (8 - (rowA x + rowN x)) (8 - (rowA x + rowN x)) w' (by omega)
          clear KJ HA HG hrb
          generalize hJ1 : (⟨(jnH (fun j => grN x (0 + j)) (rowA x)).toArray⟩ : ByteArray) = J1 at *
          generalize hJ2 : (⟨(jnH (fun j => grN x (rowA x + rowN x + j)) (8 - (rowA x + rowN x))).toArray⟩ : ByteArray) = J2 at *
          have z1 : J1.size ≤ 40 := by rw [← hJ1]; exact Nat.le_trans L1 (by omega)
          have z2 : J2.size ≤ 40 := by rw [← hJ2]; exact Nat.le_trans L2 (by omega)
          clear hJ1 hJ2 L1 L2
          generalize rowN x = b at *
          generalize rowA x = a at *
          have s1 : (J1 ++ ⟨#[58, 58]⟩).size = J1.size + 2 := by rw [ByteArray.size_append]; rfl
          have l1 : ¬ 9223372036854775807 < J1.size + 2 := by omega
          have l2 : ¬ 9223372036854775807 < J1.size + 2 + J2.size := by omega
          have ha : (a : Int) ≤ 8 := by omega
          obtain ⟨m, hm⟩ : ∃ m, a + b = m := ⟨_, rfl⟩
          rw [hm] at KB
          have hu : IntKind.i64.wrap ((a : Int) + (b : Int)) = (m : Int) := by rw [IntKind.wrap_i64]; omega
          have hm8 : (m : Int) ≤ 8 := by omega
          have hm9 : ¬ 8 = m := by omega
          clear hm hfull
          have hR2d : RowN w2.drew (w.heap.size + 1) 0 (grN x) 8 := HR2.out
          have kB2d := kB2.drew
          go_wp2_with fail
          refine q_region (C := fun w' => RowN w' (w.heap.size + 1) 0 (grN x) 8 ∧ Below w.heap.size w w') (by kernel_rfl) (by kernel_rfl) ⟨hR2d, kB2d⟩ ?_
          clear hR2d kB2d HR2 kB2 hTk hT
          refine q_run (v := .int .i64 (a : Int)) (by rfl) ?_ ?_
          · (intro w1 hC; obtain ⟨c1, c2⟩ := hC; clear c1 c2; go_simp; first | done | (simp; done) | (simp [*]; done) | omega | (simp; omega) | (rw [IntKind.wrap_i64]; omega) | (intro hx; omega) | rfl)
          simp only [Act.put, List.setIfInBounds_toArray, List.set_cons_zero, List.set_cons_succ]
          refine q_run (v := .slice (some ⟨w.heap.size + 1, 0, none⟩) a 8) (by rfl) ?_ ?_
          · (intro w1 hC; obtain ⟨c1, c2⟩ := hC; clear c1 c2; go_simp; first | done | (simp; done) | (simp [*]; done) | omega | (simp; omega) | (rw [IntKind.wrap_i64]; omega) | (intro hx; omega) | rfl)
          simp only [Act.put, List.setIfInBounds_toArray, List.set_cons_zero, List.set_cons_succ]
          refine q_call (v := .string J1) (f := 75) (args := #[.slice (some ⟨w.heap.size + 1, 0, none⟩) a 8]) (by rfl) ?_ ?_ ?_
          · (intro w1 hC; clear hC; go_simp)
          · exact fun w1 hC => (KA w1 hC.1 hC.2).mono fun e w' ⟨he, hb⟩ => ⟨he, hC.1.below hb, keepb hb hC.2⟩
          simp only [Act.put, List.setIfInBounds_toArray, List.set_cons_zero, List.set_cons_succ]
          refine q_run (v := .string (J1 ++ ⟨#[58, 58]⟩)) (by rfl) ?_ ?_
          · (intro w1 hC; obtain ⟨c1, c2⟩ := hC; clear c1 c2; go_simp; first | done | (simp; done) | (simp [*]; done) | omega | (simp; omega) | (rw [IntKind.wrap_i64]; omega) | (intro hx; omega) | rfl)
          simp only [Act.put, List.setIfInBounds_toArray, List.set_cons_zero, List.set_cons_succ]
          refine q_run (v := .int .i64 (a : Int)) (by rfl) ?_ ?_
          · (intro w1 hC; obtain ⟨c1, c2⟩ := hC; clear c1 c2; go_simp; first | done | (simp; done) | (simp [*]; done) | omega | (simp; omega) | (rw [IntKind.wrap_i64]; omega) | (intro hx; omega) | rfl)
          simp only [Act.put, List.setIfInBounds_toArray, List.set_cons_zero, List.set_cons_succ]
          refine q_run (v := .int .i64 (b : Int)) (by rfl) ?_ ?_
          · (intro w1 hC; obtain ⟨c1, c2⟩ := hC; clear c1 c2; go_simp; first | done | (simp; done) | (simp [*]; done) | omega | (simp; omega) | (rw [IntKind.wrap_i64]; omega) | (intro hx; omega) | rfl)
          simp only [Act.put, List.setIfInBounds_toArray, List.set_cons_zero, List.set_cons_succ]
          refine q_run (v := .int .i64 (m : Int)) (by rfl) ?_ ?_
          · (intro w1 hC; obtain ⟨c1, c2⟩ := hC; clear c1 c2; go_simp; first | done | (simp; done) | (simp [*]; done) | omega | (simp; omega) | (rw [IntKind.wrap_i64]; omega) | (intro hx; omega) | rfl)
          simp only [Act.put, List.setIfInBounds_toArray, List.set_cons_zero, List.set_cons_succ]
          refine q_run (v := .slice (some ⟨w.heap.size + 1, m, none⟩) (8 - m) (8 - m)) (by rfl) ?_ ?_
          · (intro w1 hC; obtain ⟨c1, c2⟩ := hC; clear c1 c2; go_simp; first | done | (simp; done) | (simp [*]; done) | omega | (simp; omega) | (rw [IntKind.wrap_i64]; omega) | (intro hx; omega) | rfl)
          simp only [Act.put, List.setIfInBounds_toArray, List.set_cons_zero, List.set_cons_succ]
          refine q_call (v := .string J2) (f := 75) (args := #[.slice (some ⟨w.heap.size + 1, m, none⟩) (8 - m) (8 - m)]) (by rfl) ?_ ?_ ?_
          · (intro w1 hC; clear hC; go_simp)
          · exact fun w1 hC => (KB w1 hC.1 hC.2).mono fun e w' ⟨he, hb⟩ => ⟨he, hC.1.below hb, keepb hb hC.2⟩
          simp only [Act.put, List.setIfInBounds_toArray, List.set_cons_zero, List.set_cons_succ]
          refine q_run (v := .string (J1 ++ ⟨#[58, 58]⟩ ++ J2)) (by rfl) ?_ ?_
          · (intro w1 hC; obtain ⟨c1, c2⟩ := hC; clear c1 c2; go_simp; first | done | (simp; done) | (simp [*]; done) | omega | (simp; omega) | (rw [IntKind.wrap_i64]; omega) | (intro hx; omega) | rfl)
          simp only [Act.put, List.setIfInBounds_toArray, List.set_cons_zero, List.set_cons_succ]
          refine q_run (v := .string (J1 ++ ⟨#[58, 58]⟩ ++ J2)) (by rfl) ?_ ?_
          · (intro w1 hC; obtain ⟨c1, c2⟩ := hC; clear c1 c2; go_simp; first | done | (simp; done) | (simp [*]; done) | omega | (simp; omega) | (rw [IntKind.wrap_i64]; omega) | (intro hx; omega) | rfl)
          simp only [Act.put, List.setIfInBounds_toArray, List.set_cons_zero, List.set_cons_succ]
          refine wpQuiet_nil ?_
          rintro w9 ⟨-, kB9⟩
          clear KA KB
          go_wp2
          go_ret
          exact ⟨by rw [HV.out]; rfl, kB9⟩
end Go.Proofs.YtpchhfhdepkbcaaDoor
