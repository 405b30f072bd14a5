/-
  Part 14 of the proof: 4 texts, one behind the other.
-/
import Derived.Test.YtpiicdpipjjenaaGreatDoorPart13
import Derived.Test.YtpiicdpipjjenaaGreatDoorPart3
import Derived.Test.YtpiicdpipjjenaaGreatDoorPart6
import Derived.Test.YtpiicdpipjjenaaGreatDoorShelf
import Derived.Test.YtpiicdpipjjenaaGreatDoorPart12
import Derived.Test.YtpiicdpipjjenaaGreatDoorPart4
import Derived.Shelf.Strings.Search1
import Derived.Lib.ItoaLen
namespace Go.Proofs.YtpiicdpipjjenaaGreatDoor
open Go.RowKit
set_option linter.unusedSimpArgs false
set_option linter.unusedVariables false

theorem jnH_jn (g : Nat → Nat) (o : Nat) : ∀ n, jnH (fun j => g (o + j)) n = jnz 58 ((List.range' o n).map fun k => hexL (g k)) := by
  intro n
  induction n with
  | zero => rfl
  | succ n ih =>
    rw [List.range'_concat, List.map_append, List.map_cons, List.map_nil, Nat.one_mul]
    show (if n = 0 then [] else jnH (fun j => g (o + j)) n ++ [58]) ++ hexL (g (o + n)) = _
    by_cases h : n = 0
    · subst h; simp [jnz]
    · rw [if_neg h, ih, jn_snoc 58 _ _ (by simp [h])]
      simp
def grN (x : BitVec 128) (k : Nat) : Nat := (grpX x k).toNat
theorem grN_bd (x : BitVec 128) (k : Nat) : grN x k < 65536 := by
  have := grpX_any x k
  unfold grN; omega
theorem grN_int (x : BitVec 128) (k : Nat) : ((grN x k : Nat) : Int) = grpX x k := by
  have := grpX_any x k
  unfold grN; omega
theorem set_rowk {W : World} {C k : Nat} {x : BitVec 128} (hc : ∀ j, j < 8 → W.cell? ⟨C, j, none⟩ = some (.int .u64 (if j < k then grpX x j else 0))) (hk : k < 8) :
    ∀ j, j < 8 → (W.setCell ⟨C, k, none⟩ (.int .u64 (grpX x k))).cell? ⟨C, j, none⟩ = some (.int .u64 (if j < k + 1 then grpX x j else 0)) := by
  intro j hj
  by_cases e : j = k
  · subst e
    rw [set_same (hc j hj), if_pos (by omega)]
  · rw [set_other (fun q => e q.symm), hc j hj]
    by_cases q : j < k
    · rw [if_pos q, if_pos (by omega)]
    · rw [if_neg q, if_neg (by omega)]
theorem zero8 (w : World) (o : Obj) (T : TypeId) : ∀ j, j < 8 → ((w.alloc o).alloc (.cells #[.int .u64 0, .int .u64 0, .int .u64 0, .int .u64 0, .int .u64 0, .int .u64 0, .int .u64 0, .int .u64 0] T)).cell? ⟨w.heap.size + 1, j, none⟩ = some (.int .u64 0) := by
  intro j hj
  rw [new_cell]
  rcases j with _ | _ | _ | _ | _ | _ | _ | _ | j
  all_goals first | rfl | omega

set_option maxHeartbeats 8000000 in
set_option maxRecDepth 20000 in
theorem writeSix_any (x : BitVec 128) (w : World) (hT : Tab w) :
    Calls Tryz.prog 61 #[.agg #[.int .u64 (hI x), .int .u64 (lI x)]] w fun e w' => e = .returned (.string (text6 x)) ∧ Below w.heap.size w w' := by
  go_enter Tryz.func61, Tryz.ntmps61
  go_wp2
  go_loopw [7] (fun i wr => ∃ k : Nat, k ≤ 8 ∧ i = .int .i64 k ∧ At wr w.heap.size x ∧ (∀ j, j < 8 → wr.cell? ⟨w.heap.size + 1, j, none⟩ = some (.int .u64 (if j < k then grpX x j else 0))) ∧ (∀ j, j < 8 → wr.frozen? ⟨w.heap.size + 1, j, none⟩ = false) ∧ Below w.heap.size w wr)
    (fun i _ => 8 - (intOf i).toNat)
  case atStart =>
    refine ⟨0, by omega, rfl, (at_new w w.heap.size x 43 rfl).below (bl1 _ _), ?_, ?_, bl2 _ _ _⟩
    · intro j hj
      rw [if_neg (by omega)]
      exact zero8 _ _ _ j hj
    · intro j hj
      rw [new_frozen]
  case round =>
    obtain ⟨k, hk, rfl, hX, hc, hf, hB⟩ := hrel
    by_cases hlt : (k : Int) < 8
    · have hks : k < 8 := by omega
      have KP := fun w => part_any x k 16 w (by omega) (by omega) (by omega) (by omega)
      have e1 : lI ((x <<< (16 * (k : Int)).toNat) >>> ((128 : Int) - 16).toNat) = grpX x k := rfl
      rw [e1] at KP
      clear e1
      have hck := hc k hks
      have hfk := hf k hks
      obtain ⟨x0, x1, -, -, -⟩ := id hX
      have HS : Hid (∀ W : World, (∀ j, j < 8 → W.cell? ⟨w.heap.size + 1, j, none⟩ = some (.int .u64 (if j < k then grpX x j else 0))) → ∀ j, j < 8 → (W.setCell ⟨w.heap.size + 1, k, none⟩ (.int .u64 (grpX x k))).cell? ⟨w.heap.size + 1, j, none⟩ = some (.int .u64 (if j < k + 1 then grpX x j else 0))) := fun W h => set_rowk h hks
      have HC0 : Hid (∀ j, j < 8 → wr.cell? ⟨w.heap.size + 1, j, none⟩ = some (.int .u64 (if j < k then grpX x j else 0))) := hc
      have HF0 : Hid (∀ j, j < 8 → wr.frozen? ⟨w.heap.size + 1, j, none⟩ = false) := hf
      clear hc hf
      go_wp2_with fail
      refine (KP _).mono ?_
      rintro e w1 ⟨rfl, hb1⟩
      have ck := keepc hb1 hck
      have fk := keepf hb1 hck hfk
      have HC : Hid (∀ j, j < 8 → w1.cell? ⟨w.heap.size + 1, j, none⟩ = some (.int .u64 (if j < k then grpX x j else 0))) := fun j hj => keepc hb1 (HC0.out j hj)
      have HF : Hid (∀ j, j < 8 → w1.frozen? ⟨w.heap.size + 1, j, none⟩ = false) := fun j hj => keepf hb1 (HC0.out j hj) (HF0.out j hj)
      have X1 := hX.below hb1
      have kB := keepb hb1 hB
      clear hck hfk x0 x1 hX hB hb1 HC0 HF0 KP
      generalize hg : grpX x k = v at *
      clear hg
      go_wp2
      go_roundw
      case rel =>
        refine ⟨k + 1, by omega, by go_num, ?_, HS.out _ HC.out, ?_, kB.setCell (show w.heap.size ≤ w.heap.size + 1 by omega) _⟩
        · obtain ⟨y0, y1, y2, y3, y4⟩ := X1
          refine ⟨?_, ?_, ?_, ?_, ?_⟩ <;> simp [go_sem, *]
        · intro j hj
          have := HF.out j hj
          simp [go_sem, this]
      case measure => simp [intOf]; omega
    · have hk8 : k = 8 := by omega
      subst hk8
      have hR : ∀ j, j < 8 → wr.cell? ⟨w.heap.size + 1, j, none⟩ = some (.int .u64 (grpX x j)) := fun j hj => by rw [hc j hj, if_pos hj]
      have c0 := hR 0 (by omega)
      have c1 := hR 1 (by omega)
      have c2 := hR 2 (by omega)
      have c3 := hR 3 (by omega)
      have c4 := hR 4 (by omega)
      have c5 := hR 5 (by omega)
      have c6 := hR 6 (by omega)
      have c7 := hR 7 (by omega)
      have HR : Hid (RowN wr (w.heap.size + 1) 0 (grN x) 8) := fun j hj => by rw [grN_int]; simpa using hR j hj
      clear hc hf hX hR
      go_wp2_with fail
      refine (longestRow_any (grpX x) _).mono ?_
      rintro e w2 ⟨rfl, hb2⟩
      have HR2 : Hid (RowN w2 (w.heap.size + 1) 0 (grN x) 8) := HR.out.below hb2
      have kB2 := keepb hb2 hB
      clear c0 c1 c2 c3 c4 c5 c6 c7 HR hB hb2
      have hrb := row_bd x
      have HA : Hid (rowNz x < 2 → text6 x = bLz (jnz 58 ((List.range' 0 8).map (pcX x)))) := text6_flat x
      have HG : Hid (¬ rowNz x < 2 → text6 x = bLz (jnz 58 ((List.range' 0 (rowA x)).map (pcX x)) ++ [58, 58] ++ jnz 58 ((List.range' (rowA x + rowNz x) (8 - (rowA x + rowNz x))).map (pcX x)))) := text6_gap x
      have ea : (bsG (grpX x) 8 0 0 0).1 = rowA x := rfl
      have eb : (bsG (grpX x) 8 0 0 0).2 = rowNz x := rfl
      rw [ea, eb]
      clear ea eb
      have hTk := hT.keep kB2
      by_cases h2 : ((rowNz x : Nat) : Int) < 2
      · have HV : Hid (text6 x = ⟨(jnH (grN x) 8).toArray⟩) := by
          show _ = _
          rw [HA.out (by omega)]
          have := jnH_jn (grN x) 0 8
          simp only [Nat.zero_add] at this
          rw [this]
          rfl
        have KJ := fun (hr : RowN w2 (w.heap.size + 1) 0 (grN x) 8) => join_any (w.heap.size + 1) 0 8 8 (grN x) w2 (grN_bd x) (by omega) hr hTk
        have KJ2 := KJ HR2.out
        clear KJ HA HG hrb
        generalize rowNz x = b at *
        generalize rowA x = a at *
        go_wp2_with fail
        refine KJ2.mono ?_
        rintro e w3 ⟨rfl, hb3⟩
        have kB3 := keepb hb3 kB2
        clear hb3 KJ2 HR2
        go_wp2
        go_ret
        exact ⟨by rw [HV.out]; rfl, kB3⟩
      · have hr8 := hrb (by omega)
        have HV : Hid (text6 x = ⟨(jnH (fun j => grN x (0 + j)) (rowA x)).toArray⟩ ++ ⟨#[58, 58]⟩ ++ ⟨(jnH (fun j => grN x (rowA x + rowNz x + j)) (8 - (rowA x + rowNz x))).toArray⟩) := by
          show _ = _
          rw [HG.out (by omega), jnH_jn (grN x) 0 (rowA x), jnH_jn (grN x) (rowA x + rowNz x)]
          show bLz _ = bLz _ ++ bLz [58, 58] ++ bLz _
          rw [bL_cat, bL_cat]
          rfl
        have L1 := jnH_len (fun j => grN x (0 + j)) (fun j => grN_bd x _) (rowA x)
        have L2 := jnH_len (fun j => grN x (rowA x + rowNz x + j)) (fun j => grN_bd x _) (8 - (rowA x + rowNz x))
        have KJ : ∀ o n cap w', o + n ≤ 8 → RowN w' (w.heap.size + 1) 0 (grN x) 8 → Below w.heap.size w w' → Calls Tryz.prog 89 #[.slice (some ⟨w.heap.size + 1, o, none⟩) n cap] w' fun e w'' => e = .returned (.string ⟨(jnH (fun j => grN x (o + j)) n).toArray⟩) ∧ Below w'.heap.size w' w'' := fun o n cap w' ho hr hb =>
          join_any (w.heap.size + 1) o cap n (fun j => grN x (o + j)) w' (fun j => grN_bd x _) (by omega) (fun j hj => by have := hr (o + j) (by omega); simpa using this) (hT.keep hb)
        have KA := fun w' => KJ 0 (rowA x) 8 w' (by omega)
        by_cases hfull : rowA x + rowNz x = 8
        · have KB := fun w' => KJ 0 0 0 w' (by omega)
          have e0 : (⟨(jnH (fun j => grN x (0 + j)) 0).toArray⟩ : ByteArray) = ⟨#[]⟩ := rfl
          have e8 : (⟨(jnH (fun j => grN x (rowA x + rowNz x + j)) (8 - (rowA x + rowNz x))).toArray⟩ : ByteArray) = ⟨#[]⟩ := by
            rw [show 8 - (rowA x + rowNz x) = 0 by omega]; rfl
          rw [e0] at KB
          rw [e8] at HV
          clear KJ HA HG hrb e0 e8 L2
          generalize hJ1 : (⟨(jnH (fun j => grN x (0 + j)) (rowA x)).toArray⟩ : ByteArray) = J1 at *
          have z1 : J1.size ≤ 40 := by rw [← hJ1]; exact Nat.le_trans L1 (by omega)
          clear hJ1 L1
          generalize rowNz x = b at *
          generalize rowA x = a at *
          have s1 : (J1 ++ ⟨#[58, 58]⟩).size = J1.size + 2 := by rw [ByteArray.size_append]; rfl
          have l1 : ¬ 9223372036854775807 < J1.size + 2 := by omega
          have ha : (a : Int) ≤ 8 := by omega
          have hu : IntKind.i64.wrap ((a : Int) + (b : Int)) = 8 := by rw [IntKind.wrap_i64]; omega
          clear hfull
          have hR2d : RowN w2.drew (w.heap.size + 1) 0 (grN x) 8 := HR2.out
          have kB2d := kB2.drew
          go_wp2_with fail
          refine q_region (C := fun w' => RowN w' (w.heap.size + 1) 0 (grN x) 8 ∧ Below w.heap.size w w') (by kernel_rfl) (by kernel_rfl) ⟨hR2d, kB2d⟩ ?_
          clear hR2d kB2d HR2 kB2 hTk hT
          refine q_run (v := .int .i64 (a : Int)) (by rfl) ?_ ?_
          · (intro w1 hC; obtain ⟨c1, c2⟩ := hC; clear c1 c2; go_simp; first | done | (simp; done) | (simp [*]; done) | omega | (simp; omega) | (rw [IntKind.wrap_i64]; omega) | (intro hx; omega) | rfl)
          simp only [Act.put, List.setIfInBounds_toArray, List.set_cons_zero, List.set_cons_succ]
          refine q_run (v := .slice (some ⟨w.heap.size + 1, 0, none⟩) a 8) (by rfl) ?_ ?_
          · (intro w1 hC; obtain ⟨c1, c2⟩ := hC; clear c1 c2; go_simp; first | done | (simp; done) | (simp [*]; done) | omega | (simp; omega) | (rw [IntKind.wrap_i64]; omega) | (intro hx; omega) | rfl)
          simp only [Act.put, List.setIfInBounds_toArray, List.set_cons_zero, List.set_cons_succ]
          refine q_call (v := .string J1) (f := 89) (args := #[.slice (some ⟨w.heap.size + 1, 0, none⟩) a 8]) (by rfl) ?_ ?_ ?_
          · (intro w1 hC; clear hC; go_simp)
          · exact fun w1 hC => (KA w1 hC.1 hC.2).mono fun e w' ⟨he, hb⟩ => ⟨he, hC.1.below hb, keepb hb hC.2⟩
          simp only [Act.put, List.setIfInBounds_toArray, List.set_cons_zero, List.set_cons_succ]
          refine q_run (v := .string (J1 ++ ⟨#[58, 58]⟩)) (by rfl) ?_ ?_
          · (intro w1 hC; obtain ⟨c1, c2⟩ := hC; clear c1 c2; go_simp; first | done | (simp; done) | (simp [*]; done) | omega | (simp; omega) | (rw [IntKind.wrap_i64]; omega) | (intro hx; omega) | rfl)
          simp only [Act.put, List.setIfInBounds_toArray, List.set_cons_zero, List.set_cons_succ]
          refine q_run (v := .int .i64 (a : Int)) (by rfl) ?_ ?_
          · (intro w1 hC; obtain ⟨c1, c2⟩ := hC; clear c1 c2; go_simp; first | done | (simp; done) | (simp [*]; done) | omega | (simp; omega) | (rw [IntKind.wrap_i64]; omega) | (intro hx; omega) | rfl)
          simp only [Act.put, List.setIfInBounds_toArray, List.set_cons_zero, List.set_cons_succ]
          refine q_run (v := .int .i64 (b : Int)) (by rfl) ?_ ?_
          · (intro w1 hC; obtain ⟨c1, c2⟩ := hC; clear c1 c2; go_simp; first | done | (simp; done) | (simp [*]; done) | omega | (simp; omega) | (rw [IntKind.wrap_i64]; omega) | (intro hx; omega) | rfl)
          simp only [Act.put, List.setIfInBounds_toArray, List.set_cons_zero, List.set_cons_succ]
          refine q_run (v := .int .i64 8) (by rfl) ?_ ?_
          · (intro w1 hC; obtain ⟨c1, c2⟩ := hC; clear c1 c2; go_simp; first | done | (simp; done) | (simp [*]; done) | omega | (simp; omega) | (rw [IntKind.wrap_i64]; omega) | (intro hx; omega) | rfl)
          simp only [Act.put, List.setIfInBounds_toArray, List.set_cons_zero, List.set_cons_succ]
          refine q_run (v := .slice (some ⟨w.heap.size + 1, 0, none⟩) 0 0) (by rfl) ?_ ?_
          · (intro w1 hC; obtain ⟨c1, c2⟩ := hC; clear c1 c2; go_simp; first | done | (simp; done) | (simp [*]; done) | omega | (simp; omega) | (rw [IntKind.wrap_i64]; omega) | (intro hx; omega) | rfl)
          simp only [Act.put, List.setIfInBounds_toArray, List.set_cons_zero, List.set_cons_succ]
          refine q_call (v := .string ⟨#[]⟩) (f := 89) (args := #[.slice (some ⟨w.heap.size + 1, 0, none⟩) 0 0]) (by rfl) ?_ ?_ ?_
          · (intro w1 hC; clear hC; go_simp)
          · exact fun w1 hC => (KB w1 hC.1 hC.2).mono fun e w' ⟨he, hb⟩ => ⟨he, hC.1.below hb, keepb hb hC.2⟩
          simp only [Act.put, List.setIfInBounds_toArray, List.set_cons_zero, List.set_cons_succ]
          refine q_run (v := .string (J1 ++ ⟨#[58, 58]⟩ ++ ⟨#[]⟩)) (by rfl) ?_ ?_
          · (intro w1 hC; obtain ⟨c1, c2⟩ := hC; clear c1 c2; go_simp; first | done | (simp; done) | (simp [*]; done) | omega | (simp; omega) | (rw [IntKind.wrap_i64]; omega) | (intro hx; omega) | rfl)
          simp only [Act.put, List.setIfInBounds_toArray, List.set_cons_zero, List.set_cons_succ]
          refine q_run (v := .string (J1 ++ ⟨#[58, 58]⟩ ++ ⟨#[]⟩)) (by rfl) ?_ ?_
          · (intro w1 hC; obtain ⟨c1, c2⟩ := hC; clear c1 c2; go_simp; first | done | (simp; done) | (simp [*]; done) | omega | (simp; omega) | (rw [IntKind.wrap_i64]; omega) | (intro hx; omega) | rfl)
          simp only [Act.put, List.setIfInBounds_toArray, List.set_cons_zero, List.set_cons_succ]
          refine wpQuiet_nil ?_
          rintro w9 ⟨-, kB9⟩
          clear KA KB
          go_wp2
          go_ret
          exact ⟨by rw [HV.out]; rfl, kB9⟩
        · have KB := fun w' => KJ (rowA x + rowNz x) (8 - (rowA x + rowNz x)) (8 - (rowA x + rowNz x)) w' (by omega)
          clear KJ HA HG hrb
          generalize hJ1 : (⟨(jnH (fun j => grN x (0 + j)) (rowA x)).toArray⟩ : ByteArray) = J1 at *
          generalize hJ2 : (⟨(jnH (fun j => grN x (rowA x + rowNz x + j)) (8 - (rowA x + rowNz x))).toArray⟩ : ByteArray) = J2 at *
          have z1 : J1.size ≤ 40 := by rw [← hJ1]; exact Nat.le_trans L1 (by omega)
          have z2 : J2.size ≤ 40 := by rw [← hJ2]; exact Nat.le_trans L2 (by omega)
          clear hJ1 hJ2 L1 L2
          generalize rowNz x = b at *
          generalize rowA x = a at *
          have s1 : (J1 ++ ⟨#[58, 58]⟩).size = J1.size + 2 := by rw [ByteArray.size_append]; rfl
          have l1 : ¬ 9223372036854775807 < J1.size + 2 := by omega
          have l2 : ¬ 9223372036854775807 < J1.size + 2 + J2.size := by omega
          have ha : (a : Int) ≤ 8 := by omega
          obtain ⟨m, hm⟩ : ∃ m, a + b = m := ⟨_, rfl⟩
          rw [hm] at KB
          have hu : IntKind.i64.wrap ((a : Int) + (b : Int)) = (m : Int) := by rw [IntKind.wrap_i64]; omega
          have hm8 : (m : Int) ≤ 8 := by omega
          have hm9 : ¬ 8 = m := by omega
          clear hm hfull
          have hR2d : RowN w2.drew (w.heap.size + 1) 0 (grN x) 8 := HR2.out
          have kB2d := kB2.drew
          go_wp2_with fail
          refine q_region (C := fun w' => RowN w' (w.heap.size + 1) 0 (grN x) 8 ∧ Below w.heap.size w w') (by kernel_rfl) (by kernel_rfl) ⟨hR2d, kB2d⟩ ?_
          clear hR2d kB2d HR2 kB2 hTk hT
          refine q_run (v := .int .i64 (a : Int)) (by rfl) ?_ ?_
          · (intro w1 hC; obtain ⟨c1, c2⟩ := hC; clear c1 c2; go_simp; first | done | (simp; done) | (simp [*]; done) | omega | (simp; omega) | (rw [IntKind.wrap_i64]; omega) | (intro hx; omega) | rfl)
          simp only [Act.put, List.setIfInBounds_toArray, List.set_cons_zero, List.set_cons_succ]
          refine q_run (v := .slice (some ⟨w.heap.size + 1, 0, none⟩) a 8) (by rfl) ?_ ?_
          · (intro w1 hC; obtain ⟨c1, c2⟩ := hC; clear c1 c2; go_simp; first | done | (simp; done) | (simp [*]; done) | omega | (simp; omega) | (rw [IntKind.wrap_i64]; omega) | (intro hx; omega) | rfl)
          simp only [Act.put, List.setIfInBounds_toArray, List.set_cons_zero, List.set_cons_succ]
          refine q_call (v := .string J1) (f := 89) (args := #[.slice (some ⟨w.heap.size + 1, 0, none⟩) a 8]) (by rfl) ?_ ?_ ?_
          · (intro w1 hC; clear hC; go_simp)
          · exact fun w1 hC => (KA w1 hC.1 hC.2).mono fun e w' ⟨he, hb⟩ => ⟨he, hC.1.below hb, keepb hb hC.2⟩
          simp only [Act.put, List.setIfInBounds_toArray, List.set_cons_zero, List.set_cons_succ]
          refine q_run (v := .string (J1 ++ ⟨#[58, 58]⟩)) (by rfl) ?_ ?_
          · (intro w1 hC; obtain ⟨c1, c2⟩ := hC; clear c1 c2; go_simp; first | done | (simp; done) | (simp [*]; done) | omega | (simp; omega) | (rw [IntKind.wrap_i64]; omega) | (intro hx; omega) | rfl)
          simp only [Act.put, List.setIfInBounds_toArray, List.set_cons_zero, List.set_cons_succ]
          refine q_run (v := .int .i64 (a : Int)) (by rfl) ?_ ?_
          · (intro w1 hC; obtain ⟨c1, c2⟩ := hC; clear c1 c2; go_simp; first | done | (simp; done) | (simp [*]; done) | omega | (simp; omega) | (rw [IntKind.wrap_i64]; omega) | (intro hx; omega) | rfl)
          simp only [Act.put, List.setIfInBounds_toArray, List.set_cons_zero, List.set_cons_succ]
          refine q_run (v := .int .i64 (b : Int)) (by rfl) ?_ ?_
          · (intro w1 hC; obtain ⟨c1, c2⟩ := hC; clear c1 c2; go_simp; first | done | (simp; done) | (simp [*]; done) | omega | (simp; omega) | (rw [IntKind.wrap_i64]; omega) | (intro hx; omega) | rfl)
          simp only [Act.put, List.setIfInBounds_toArray, List.set_cons_zero, List.set_cons_succ]
          refine q_run (v := .int .i64 (m : Int)) (by rfl) ?_ ?_
          · (intro w1 hC; obtain ⟨c1, c2⟩ := hC; clear c1 c2; go_simp; first | done | (simp; done) | (simp [*]; done) | omega | (simp; omega) | (rw [IntKind.wrap_i64]; omega) | (intro hx; omega) | rfl)
          simp only [Act.put, List.setIfInBounds_toArray, List.set_cons_zero, List.set_cons_succ]
          refine q_run (v := .slice (some ⟨w.heap.size + 1, m, none⟩) (8 - m) (8 - m)) (by rfl) ?_ ?_
          · (intro w1 hC; obtain ⟨c1, c2⟩ := hC; clear c1 c2; go_simp; first | done | (simp; done) | (simp [*]; done) | omega | (simp; omega) | (rw [IntKind.wrap_i64]; omega) | (intro hx; omega) | rfl)
          simp only [Act.put, List.setIfInBounds_toArray, List.set_cons_zero, List.set_cons_succ]
          refine q_call (v := .string J2) (f := 89) (args := #[.slice (some ⟨w.heap.size + 1, m, none⟩) (8 - m) (8 - m)]) (by rfl) ?_ ?_ ?_
          · (intro w1 hC; clear hC; go_simp)
          · exact fun w1 hC => (KB w1 hC.1 hC.2).mono fun e w' ⟨he, hb⟩ => ⟨he, hC.1.below hb, keepb hb hC.2⟩
          simp only [Act.put, List.setIfInBounds_toArray, List.set_cons_zero, List.set_cons_succ]
          refine q_run (v := .string (J1 ++ ⟨#[58, 58]⟩ ++ J2)) (by rfl) ?_ ?_
          · (intro w1 hC; obtain ⟨c1, c2⟩ := hC; clear c1 c2; go_simp; first | done | (simp; done) | (simp [*]; done) | omega | (simp; omega) | (rw [IntKind.wrap_i64]; omega) | (intro hx; omega) | rfl)
          simp only [Act.put, List.setIfInBounds_toArray, List.set_cons_zero, List.set_cons_succ]
          refine q_run (v := .string (J1 ++ ⟨#[58, 58]⟩ ++ J2)) (by rfl) ?_ ?_
          · (intro w1 hC; obtain ⟨c1, c2⟩ := hC; clear c1 c2; go_simp; first | done | (simp; done) | (simp [*]; done) | omega | (simp; omega) | (rw [IntKind.wrap_i64]; omega) | (intro hx; omega) | rfl)
          simp only [Act.put, List.setIfInBounds_toArray, List.set_cons_zero, List.set_cons_succ]
          refine wpQuiet_nil ?_
          rintro w9 ⟨-, kB9⟩
          clear KA KB
          go_wp2
          go_ret
          exact ⟨by rw [HV.out]; rfl, kB9⟩
end Go.Proofs.YtpiicdpipjjenaaGreatDoor
namespace Go.Proofs.YtpiicdpipjjenaaGreatDoor
open Go.RowKit
set_option linter.unusedSimpArgs false
set_option linter.unusedVariables false

def ixS (s : ByteArray) : Int := Lib.indexByte s.data.toList 47
theorem indexByte_bd (c : UInt8) : ∀ l : List UInt8, Lib.indexByte l c = -1 ∨ (0 ≤ Lib.indexByte l c ∧ Lib.indexByte l c < l.length) := by
  intro l
  induction l with
  | nil => exact Or.inl rfl
  | cons b l ih =>
    unfold Lib.indexByte
    by_cases h : (b == c) = true
    · rw [if_pos h]; right; simp
    · rw [if_neg h]
      by_cases h1 : (Lib.indexByte l c == -1) = true
      · rw [if_pos h1]; left; rfl
      · rw [if_neg h1]
        rcases ih with e | e
        · simp [e] at h1
        · right; simp; omega
theorem ixS_bd (s : ByteArray) : ixS s = -1 ∨ (0 ≤ ixS s ∧ ixS s < s.size) := indexByte_bd 47 s.data.toList
theorem ixB_any (s : ByteArray) (w : World) :
    Calls Tryz.prog 98 #[.string s, .int .u8 47] w fun e w' => e = .returned (.int .i64 (ixS s)) ∧ w' = w :=
  Any.stringslite_IndexByte Tryz.lays217 s 47 w

def slash : ByteArray := ⟨#[47]⟩
set_option maxHeartbeats 1000000 in
set_option maxRecDepth 20000 in
theorem index1_any (s : ByteArray) (w : World) :
    Calls Tryz.prog 124 #[.string s, .string ⟨#[47]⟩] w fun e w' => e = .returned (.int .i64 (ixS s)) ∧ w' = w := by
  have KI := fun w => ixB_any s w
  cases hb : ([47] == s.toList)
  · go_enter Tryz.func124, Tryz.ntmps124
    go_wp2_with fail
    refine (KI _).mono ?_
    rintro e w1 ⟨rfl, rfl⟩
    go_wp2
    go_ret
    exact ⟨rfl, rfl⟩
  · have h : s = ⟨#[47]⟩ := by
      have h1 := eq_of_beq hb
      apply ByteArray.ext
      apply Array.ext'
      rw [ByteArray.toList_eq] at h1
      exact h1.symm
    subst h
    have hv : ixS ⟨#[47]⟩ = 0 := by decide
    rw [hv]
    clear hb KI hv
    go_enter Tryz.func124, Tryz.ntmps124
    go_wp2
    go_ret
    exact ⟨rfl, rfl⟩

theorem bdrewN {n : Nat} {w W : World} (h : Below n w W) (k : Nat) : Below n w (W.drewN k) := ⟨h.os, h.tape, h.output, h.size, h.block⟩
def headS (s : ByteArray) : ByteArray := if ixS s = -1 then s else s.extract 0 (ixS s).toNat
def tailS (s : ByteArray) : ByteArray := if ixS s = -1 then ⟨#[]⟩ else s.extract ((ixS s).toNat + 1) s.size
set_option maxHeartbeats 1000000 in
theorem lcut_any (s : ByteArray) (w : World) (hs : s.size ≤ maxLen) :
    Calls Tryz.prog 111 #[.string s, .string ⟨#[47]⟩] w fun e w' => e = .returned (.tuple #[.string (headS s), .string (tailS s), .bool (decide (ixS s ≠ -1))]) ∧ Below w.heap.size w w' := by
  have KI := fun w => index1_any s w
  have bd := ixS_bd s
  unfold maxLen at hs
  unfold headS tailS
  generalize ixS s = i at *
  by_cases h : i = -1
  · subst h
    rw [if_pos rfl, if_pos rfl]
    go_enter Tryz.func111, Tryz.ntmps111
    go_wp2_with fail
    refine (KI _).mono ?_
    rintro e w1 ⟨rfl, rfl⟩
    go_wp2
    exact bodyPost_ret (v := .tuple #[.string s, .string ⟨#[]⟩, .bool false]) (by simp [results, Tryz.results111, go_sem]) rfl ⟨by simp, Below.refl _ _⟩
  · obtain ⟨k, rfl⟩ : ∃ k : Nat, i = k := ⟨i.toNat, by omega⟩
    rw [if_neg h, if_neg h]
    have hk : k < s.size := by omega
    have hu : IntKind.i64.wrap ((k : Int) + 1) = (k : Int) + 1 := by rw [IntKind.wrap_i64]; omega
    have hk0 : (0 : Int) ≤ (k : Int) := by omega
    have hk1 : (k : Int) ≤ (s.size : Int) := by omega
    have hk2 : (k : Int) + 1 ≤ (s.size : Int) := by omega
    have hk3 : (0 : Int) ≤ (k : Int) + 1 := by omega
    have ht : ((k : Int) + 1).toNat = k + 1 := by omega
    go_enter Tryz.func111, Tryz.ntmps111
    go_wp2_with fail
    refine (KI _).mono ?_
    rintro e w1 ⟨rfl, rfl⟩
    go_wp2
    go_quiet (fail)
    go_wp2
    exact bodyPost_ret (v := .tuple #[.string (s.extract 0 k), .string (s.extract (k + 1) s.size), .bool true]) (by simp [results, Tryz.results111, go_sem]) rfl ⟨by simp, bdrewN (Below.refl _ _) _⟩
theorem scut_any (s : ByteArray) (w : World) (hs : s.size ≤ maxLen) :
    Calls Tryz.prog 95 #[.string s, .string ⟨#[47]⟩] w fun e w' => e = .returned (.tuple #[.string (headS s), .string (tailS s), .bool (decide (ixS s ≠ -1))]) ∧ Below w.heap.size w w' := by
  go_enter Tryz.func95, Tryz.ntmps95
  go_wp2_with fail
  refine (lcut_any s _ hs).mono ?_
  rintro e w1 ⟨rfl, hb1⟩
  go_wp2
  exact bodyPost_ret (v := .tuple #[.string (headS s), .string (tailS s), .bool (decide (ixS s ≠ -1))]) (by simp [results, Tryz.results95, go_sem]) rfl ⟨rfl, hb1⟩

def lenR (t : ByteArray) : Nat → Nat → Int → Option Int
  | 0, _, n => some n
  | f + 1, k, n => if byteAt t k < 48 ∨ 57 < byteAt t k then none else lenR t f (k + 1) (10 * n + (byteAt t k - 48))
def lenO (t : ByteArray) : Option Int := if t.size = 0 ∨ 3 < t.size ∨ (byteAt t 0 = 48 ∧ 1 < t.size) then none else lenR t t.size 0 0
def lenV (t : ByteArray) : Int := (lenO t).getD 0
def lenB (t : ByteArray) : Bool := (lenO t).isSome
set_option maxHeartbeats 1000000 in
theorem plength_any (t : ByteArray) (w : World) (hs : t.size ≤ maxLen) :
    Calls Tryz.prog 97 #[.string t] w fun e w' => e = .returned (.tuple #[.int .i64 (lenV t), .bool (lenB t)]) ∧ w' = w := by
  unfold maxLen at hs
  by_cases hz : t.size = 0
  · have he : t.toList.isEmpty = true := by rw [empty_is]; simp [hz]
    have HF : Hid (lenV t = 0 ∧ lenB t = false) := by
      show _ ∧ _
      unfold lenV lenB lenO; rw [if_pos (Or.inl hz)]; exact ⟨rfl, rfl⟩
    go_enter Tryz.func97, Tryz.ntmps97
    go_wp2
    go_ret2
    exact ⟨by rw [HF.out.1, HF.out.2]; rfl, rfl⟩
  have he : t.toList.isEmpty = false := by rw [empty_is]; simp [hz]
  by_cases h3 : (3 : Int) < (t.size : Int)
  · have HF : Hid (lenV t = 0 ∧ lenB t = false) := by
      show _ ∧ _
      unfold lenV lenB lenO; rw [if_pos (Or.inr (Or.inl (by omega)))]; exact ⟨rfl, rfl⟩
    go_enter Tryz.func97, Tryz.ntmps97
    go_wp2
    go_ret2
    exact ⟨by rw [HF.out.1, HF.out.2]; rfl, rfl⟩
  have hpos : 0 < t.size := by omega
  have hb0 := byteAt_in t 0 hpos
  by_cases h0 : byteAt t 0 = 48 ∧ 1 < t.size
  · have HF : Hid (lenV t = 0 ∧ lenB t = false) := by
      show _ ∧ _
      unfold lenV lenB lenO; rw [if_pos (Or.inr (Or.inr h0))]; exact ⟨rfl, rfl⟩
    obtain ⟨q1, q2⟩ := h0
    have q2' : (1 : Int) < (t.size : Int) := by omega
    have qb : (byteAt t 0 == 48) = true := by simp [q1]
    generalize byteAt t 0 = c at *
    clear q1
    go_enter Tryz.func97, Tryz.ntmps97
    go_wp2
    go_ret2
    exact ⟨by rw [HF.out.1, HF.out.2]; rfl, rfl⟩
  have HO : Hid (lenO t = lenR t t.size 0 0) := by
    show _ = _
    unfold lenO; rw [if_neg]
    rintro (q | q | q)
    · exact hz q
    · omega
    · exact h0 q
  have hq : ((byteAt t 0 == 48) = false) ∨ ((byteAt t 0 == 48) = true ∧ ¬ (1 : Int) < (t.size : Int)) := by
    by_cases q : byteAt t 0 = 48
    · right; exact ⟨by simp [q], by omega⟩
    · left; simp [q]
  have ht3 : (t.size : Int) ≤ 3 := by omega
  clear h0
  rcases hq with qb | ⟨qb, q2⟩
  all_goals
    go_enter Tryz.func97, Tryz.ntmps97
    go_wp2
    go_loopw [4, 25] (fun a b wr => ∃ (k : Nat) (n : Int), a = .int .i64 n ∧ b = .int .i64 k ∧ k ≤ t.size ∧ 0 ≤ n ∧ n ≤ 999 ∧ Hid ((k = 0 ∧ n = 0) ∨ (k = 1 ∧ n ≤ 9) ∨ (k = 2 ∧ n ≤ 99) ∨ (k = 3 ∧ n ≤ 999)) ∧ Hid (lenR t (t.size - k) k n = lenR t t.size 0 0) ∧ wr = w) (fun _ b _ => t.size - (intOf b).toNat)
    case atStart => exact ⟨0, 0, rfl, rfl, by omega, by omega, by omega, Or.inl ⟨rfl, rfl⟩, rfl, rfl⟩
    case round =>
      obtain ⟨k, n, rfl, rfl, hk, g0, g1, HB, HR, rfl⟩ := hrel
      clear qb hb0 he
      by_cases hlt : k < t.size
      · have hbt := byteAt_in t k hlt
        have bd := byteAt_bd t k
        have HU : Hid (t.size - k = (t.size - (k + 1)) + 1) := by show _ = _; omega
        have HS : Hid (∀ f, lenR t (f + 1) k n = if byteAt t k < 48 ∨ 57 < byteAt t k then none else lenR t f (k + 1) (10 * n + (byteAt t k - 48))) := fun f => rfl
        generalize byteAt t k = c at *
        have hk2 : (k : Int) < (t.size : Int) := by omega
        by_cases d0 : c < 48
        · have HF : Hid (lenV t = 0 ∧ lenB t = false) := by
            show _ ∧ _
            unfold lenV lenB; rw [HO.out, ← HR.out, HU.out, HS.out, if_pos (Or.inl d0)]; exact ⟨rfl, rfl⟩
          clear HS HU HR HO
          go_wp2
          go_ret2
          exact ⟨by rw [HF.out.1, HF.out.2]; rfl, rfl⟩
        by_cases d1 : 57 < c
        · have HF : Hid (lenV t = 0 ∧ lenB t = false) := by
            show _ ∧ _
            unfold lenV lenB; rw [HO.out, ← HR.out, HU.out, HS.out, if_pos (Or.inr d1)]; exact ⟨rfl, rfl⟩
          clear HS HU HR HO
          go_wp2
          go_ret2
          exact ⟨by rw [HF.out.1, HF.out.2]; rfl, rfl⟩
        · have HF : Hid (lenR t (t.size - (k + 1)) (k + 1) (10 * n + (c - 48)) = lenR t t.size 0 0) := by
            show _ = _
            rw [← HR.out, HU.out, HS.out, if_neg (by omega)]
          have hn : 10 * n + (c - 48) ≤ 999 ∧ 0 ≤ 10 * n + (c - 48) := by
            have := HB.out
            omega
          have HB2 : Hid ((k + 1 = 0 ∧ 10 * n + (c - 48) = 0) ∨ (k + 1 = 1 ∧ 10 * n + (c - 48) ≤ 9) ∨ (k + 1 = 2 ∧ 10 * n + (c - 48) ≤ 99) ∨ (k + 1 = 3 ∧ 10 * n + (c - 48) ≤ 999)) := by
            have := HB.out
            show _ ∨ _
            omega
          have u1 : IntKind.u8.wrap (c - 48) = c - 48 := by simp [IntKind.wrap, IntKind.bits, IntKind.signed]; omega
          obtain ⟨hn1, hn2⟩ := hn
          clear HS HU HR HO HB
          go_wp2
          go_roundw
          case rel => exact ⟨k + 1, 10 * n + (c - 48), rfl, by go_num, by omega, hn2, hn1, HB2, HF, trivial⟩
          case measure => simp [intOf]; omega
      · have HF : Hid (lenV t = n ∧ lenB t = true) := by
          show _ ∧ _
          have e : t.size - k = 0 := by omega
          unfold lenV lenB; rw [HO.out, ← HR.out, e]; exact ⟨rfl, rfl⟩
        have hk2 : ¬ (k : Int) < (t.size : Int) := by omega
        clear HR HO HB
        go_wp2
        go_ret2
        exact ⟨by rw [HF.out.1, HF.out.2]; rfl, rfl⟩

def ppE (F : Int) (s : ByteArray) : Int := if apE F (headS s) = 0 then (if lenB (tailS s) = true then checkE F (apV F (headS s)) (lenV (tailS s)) else 12) else apE F (headS s)
def ppV (F : Int) (s : ByteArray) : BitVec 128 := if ppE F s = 0 then apV F (headS s) else 0#128
def ppN (F : Int) (s : ByteArray) : Int := if ppE F s = 0 then lenV (tailS s) else 0
theorem ext_le (s : ByteArray) (a b : Nat) : (s.extract a b).size ≤ s.size := by rw [ByteArray.size_extract]; omega
theorem headS_le (s : ByteArray) : (headS s).size ≤ s.size := by
  unfold headS; split
  · exact Nat.le_refl _
  · exact ext_le _ _ _
theorem tailS_le (s : ByteArray) : (tailS s).size ≤ s.size := by
  unfold tailS; split
  · exact Nat.zero_le _
  · exact ext_le _ _ _
set_option maxHeartbeats 2000000 in
theorem pparse_any (F : Int) (s : ByteArray) (w : World) (hs : s.size ≤ maxLen) :
    Calls Tryz.prog 71 #[.int .i64 F, .string s] w fun e w' => e = .returned (.tuple #[.agg #[.int .u64 (hI (ppV F s)), .int .u64 (lI (ppV F s)), .int .i64 (ppN F s)], .int .i64 (ppE F s)]) ∧ Below w.heap.size w w' := by
  have KU := fun w => scut_any s w hs
  have KA := fun w => aparse_any F (headS s) w (Nat.le_trans (headS_le s) hs)
  have KL := fun w => plength_any (tailS s) w (Nat.le_trans (tailS_le s) hs)
  have KC := fun w => pcheck_any F (apV F (headS s)) (lenV (tailS s)) w
  unfold ppV ppN ppE
  generalize checkE F (apV F (headS s)) (lenV (tailS s)) = c at *
  generalize apE F (headS s) = e0 at *
  generalize apV F (headS s) = x at *
  generalize lenV (tailS s) = n at *
  generalize lenB (tailS s) = b at *
  generalize headS s = h at *
  generalize tailS s = t at *
  generalize decide (ixS s ≠ -1) = i at *
  by_cases h0 : e0 = 0
  · subst h0
    rw [if_pos rfl]
    cases b
    · rw [if_neg (show ¬ (false = true) by decide), if_neg (show ¬ ((12 : Int) = 0) by decide), if_neg (show ¬ ((12 : Int) = 0) by decide), hI_zero, lI_zero]
      go_enter Tryz.func71, Tryz.ntmps71
      go_wp2_with fail
      refine (KU _).mono ?_
      rintro e w1 ⟨rfl, hb1⟩
      have Z1 := (atp_new w w.heap.size 0#128 0 45 rfl).below hb1
      have kB1 := keepb hb1 (bl1 w _)
      clear hb1 KU
      go_wp2_with fail
      refine (KA _).mono ?_
      rintro e w2 ⟨rfl, hb2⟩
      have Z2 := (Z1.below hb2).below (bl1 _ (.cells #[.int .u64 (hI x), .int .u64 (lI x)] 43))
      have kB2 := (keepb hb2 kB1).alloc (keepb hb2 kB1).size (.cells #[.int .u64 (hI x), .int .u64 (lI x)] 43)
      clear hb2 KA Z1 kB1
      go_wp2_with fail
      refine (KL _).mono ?_
      rintro e w3 ⟨rfl, rfl⟩
      obtain ⟨z0, z1, z2, z3, z4, z5⟩ := Z2
      clear KL
      go_wp2
      exact bodyPost_ret (v := .tuple #[.agg #[.int .u64 0, .int .u64 0, .int .i64 0], .int .i64 12]) (by simp [results, Tryz.results71, go_sem, *]) rfl ⟨rfl, bset3 kB2 (Nat.le_refl _) _ _ _⟩
    · rw [if_pos rfl]
      by_cases hc : c = 0
      · subst hc
        rw [if_pos rfl, if_pos rfl]
        go_enter Tryz.func71, Tryz.ntmps71
        go_wp2_with fail
        refine (KU _).mono ?_
        rintro e w1 ⟨rfl, hb1⟩
        have Z1 := (atp_new w w.heap.size 0#128 0 45 rfl).below hb1
        have kB1 := keepb hb1 (bl1 w _)
        clear hb1 KU
        go_wp2_with fail
        refine (KA _).mono ?_
        rintro e w2 ⟨rfl, hb2⟩
        have Z2 := (Z1.below hb2).below (bl1 _ (.cells #[.int .u64 (hI x), .int .u64 (lI x)] 43))
        have kB2 := (keepb hb2 kB1).alloc (keepb hb2 kB1).size (.cells #[.int .u64 (hI x), .int .u64 (lI x)] 43)
        clear hb2 KA Z1 kB1
        go_wp2_with fail
        refine (KL _).mono ?_
        rintro e w3 ⟨rfl, rfl⟩
        clear KL
        have Z3 := Z2.below (bl1 _ (.cells #[.int .u64 (hI x), .int .u64 (lI x), .int .i64 n] 45))
        have C3 := atp_new (w2.alloc (.cells #[.int .u64 (hI x), .int .u64 (lI x)] 43)) (w2.heap.size + 1) x n 45 (by simp)
        have kB3 := kB2.alloc kB2.size (.cells #[.int .u64 (hI x), .int .u64 (lI x), .int .i64 n] 45)
        clear Z2 kB2
        go_wp2_with fail
        refine (KC _).mono ?_
        rintro e w4 ⟨rfl, hb4⟩
        obtain ⟨z0, z1, z2, z3, z4, z5⟩ := Z3.below hb4
        obtain ⟨c0, c1, c2, -, -, -⟩ := C3.below hb4
        have kB4 := keepb hb4 kB3
        clear KC Z3 C3 kB3 hb4
        go_wp2
        exact bodyPost_ret (v := .tuple #[.agg #[.int .u64 (hI x), .int .u64 (lI x), .int .i64 n], .int .i64 0]) (by simp [results, Tryz.results71, go_sem, *]) rfl ⟨rfl, bset3 kB4 (Nat.le_refl _) _ _ _⟩
      · have hcb : (c != 0) = true := by simp [hc]
        rw [if_neg hc, if_neg hc, hI_zero, lI_zero]
        go_enter Tryz.func71, Tryz.ntmps71
        go_wp2_with fail
        refine (KU _).mono ?_
        rintro e w1 ⟨rfl, hb1⟩
        have Z1 := (atp_new w w.heap.size 0#128 0 45 rfl).below hb1
        have kB1 := keepb hb1 (bl1 w _)
        clear hb1 KU
        go_wp2_with fail
        refine (KA _).mono ?_
        rintro e w2 ⟨rfl, hb2⟩
        have Z2 := (Z1.below hb2).below (bl1 _ (.cells #[.int .u64 (hI x), .int .u64 (lI x)] 43))
        have kB2 := (keepb hb2 kB1).alloc (keepb hb2 kB1).size (.cells #[.int .u64 (hI x), .int .u64 (lI x)] 43)
        clear hb2 KA Z1 kB1
        go_wp2_with fail
        refine (KL _).mono ?_
        rintro e w3 ⟨rfl, rfl⟩
        clear KL
        have Z3 := Z2.below (bl1 _ (.cells #[.int .u64 (hI x), .int .u64 (lI x), .int .i64 n] 45))
        have C3 := atp_new (w2.alloc (.cells #[.int .u64 (hI x), .int .u64 (lI x)] 43)) (w2.heap.size + 1) x n 45 (by simp)
        have kB3 := kB2.alloc kB2.size (.cells #[.int .u64 (hI x), .int .u64 (lI x), .int .i64 n] 45)
        clear Z2 kB2
        go_wp2_with fail
        refine (KC _).mono ?_
        rintro e w4 ⟨rfl, hb4⟩
        obtain ⟨z0, z1, z2, z3, z4, z5⟩ := Z3.below hb4
        have kB4 := keepb hb4 kB3
        clear KC Z3 C3 kB3 hb4
        go_wp2
        exact bodyPost_ret (v := .tuple #[.agg #[.int .u64 0, .int .u64 0, .int .i64 0], .int .i64 c]) (by simp [results, Tryz.results71, go_sem, *]) rfl ⟨rfl, bset3 kB4 (Nat.le_refl _) _ _ _⟩
  · have hb : (e0 != 0) = true := by simp [h0]
    rw [if_neg h0, if_neg h0, if_neg h0, hI_zero, lI_zero]
    go_enter Tryz.func71, Tryz.ntmps71
    go_wp2_with fail
    refine (KU _).mono ?_
    rintro e w1 ⟨rfl, hb1⟩
    have Z1 := (atp_new w w.heap.size 0#128 0 45 rfl).below hb1
    have kB1 := keepb hb1 (bl1 w _)
    clear hb1 KU
    go_wp2_with fail
    refine (KA _).mono ?_
    rintro e w2 ⟨rfl, hb2⟩
    obtain ⟨z0, z1, z2, z3, z4, z5⟩ := (Z1.below hb2).below (bl1 _ (.cells #[.int .u64 (hI x), .int .u64 (lI x)] 43))
    have kB2 := (keepb hb2 kB1).alloc (keepb hb2 kB1).size (.cells #[.int .u64 (hI x), .int .u64 (lI x)] 43)
    clear hb2 KA Z1 kB1
    go_wp2
    exact bodyPost_ret (v := .tuple #[.agg #[.int .u64 0, .int .u64 0, .int .i64 0], .int .i64 e0]) (by simp [results, Tryz.results71, go_sem, *]) rfl ⟨rfl, bset3 kB2 (Nat.le_refl _) _ _ _⟩
end Go.Proofs.YtpiicdpipjjenaaGreatDoor
namespace Go.Proofs.YtpiicdpipjjenaaGreatDoor
open Go.RowKit
set_option linter.unusedSimpArgs false
set_option linter.unusedVariables false

set_option maxHeartbeats 1000000 in
theorem atext_four (x : BitVec 128) (w : World) (hP : Pow w) (h : rightE 32 x = 0) :
    Calls Tryz.prog 40 #[.int .i64 32, .agg #[.int .u64 (hI x), .int .u64 (lI x)]] w fun e w' => e = .returned (.tuple #[.string (text4 x), .int .i64 0]) ∧ Below w.heap.size w w' := by
  have KR := fun w => aright_any 32 x w
  rw [h] at KR
  go_enter Tryz.func40, Tryz.ntmps40
  go_wp2_with fail
  refine (KR _).mono ?_
  rintro e w1 ⟨rfl, hb1⟩
  have kB := keepb hb1 (bl1 w _)
  obtain ⟨x0, x1, -, -, -⟩ := (at_new w w.heap.size x 43 rfl).below hb1
  clear hb1 KR
  go_wp2_with fail
  refine (writeFour_any x _ (hP.keep kB)).mono ?_
  rintro e w2 ⟨rfl, hb2⟩
  have kB2 := keepb hb2 kB
  clear hb2 x0 x1
  go_wp2
  go_ret2
  exact ⟨rfl, kB2⟩
set_option maxHeartbeats 1000000 in
theorem atext_err (F : Int) (x : BitVec 128) (w : World) (h : ¬ rightE F x = 0) :
    Calls Tryz.prog 40 #[.int .i64 F, .agg #[.int .u64 (hI x), .int .u64 (lI x)]] w fun e w' => e = .returned (.tuple #[.string ⟨#[]⟩, .int .i64 (rightE F x)]) ∧ Below w.heap.size w w' := by
  have KR := fun w => aright_any F x w
  have hb : (rightE F x != 0) = true := by simp [h]
  generalize rightE F x = r at *
  go_enter Tryz.func40, Tryz.ntmps40
  go_wp2_with fail
  refine (KR _).mono ?_
  rintro e w1 ⟨rfl, hb1⟩
  have kB := keepb hb1 (bl1 w _)
  clear hb1 KR
  go_wp2
  go_ret2
  exact ⟨rfl, kB⟩

def slashed (t : ByteArray) (n : Int) : ByteArray := t ++ ⟨#[47]⟩ ++ ⟨(Lib.itoa n).toArray⟩
def x10 : BitVec 128 := 0x0a000000000000000000000000000000#128
end Go.Proofs.YtpiicdpipjjenaaGreatDoor
namespace Go.Proofs.YtpiicdpipjjenaaGreatDoor
open Go.RowKit
set_option linter.unusedSimpArgs false
set_option linter.unusedVariables false

set_option maxHeartbeats 1000000 in
theorem atext_six (x : BitVec 128) (w : World) (hT : Tab w) (h : rightE 128 x = 0) :
    Calls Tryz.prog 40 #[.int .i64 128, .agg #[.int .u64 (hI x), .int .u64 (lI x)]] w fun e w' => e = .returned (.tuple #[.string (text6 x), .int .i64 0]) ∧ Below w.heap.size w w' := by
  have KR := fun w => aright_any 128 x w
  rw [h] at KR
  go_enter Tryz.func40, Tryz.ntmps40
  go_wp2_with fail
  refine (KR _).mono ?_
  rintro e w1 ⟨rfl, hb1⟩
  have kB := keepb hb1 (bl1 w _)
  obtain ⟨x0, x1, -, -, -⟩ := (at_new w w.heap.size x 43 rfl).below hb1
  clear hb1 KR
  go_wp2_with fail
  refine (writeSix_any x _ (hT.keep kB)).mono ?_
  rintro e w2 ⟨rfl, hb2⟩
  have kB2 := keepb hb2 kB
  clear hb2 x0 x1
  go_wp2
  go_ret2
  exact ⟨rfl, kB2⟩
theorem atext_any (F : Int) (x : BitVec 128) (w : World) (hP : Pow w) (hT : Tab w) :
    Calls Tryz.prog 40 #[.int .i64 F, .agg #[.int .u64 (hI x), .int .u64 (lI x)]] w fun e w' => e = .returned (.tuple #[.string (text2 F x), .int .i64 (rightE F x)]) ∧ Below w.heap.size w w' := by
  unfold text2
  by_cases h : rightE F x = 0
  · rw [if_pos h]
    rcases fam_ways F (right0 F x h).1 with rfl | rfl
    · rw [if_pos rfl, h]
      exact atext_four x w hP h
    · rw [if_neg (by decide), h]
      exact atext_six x w hT h
  · rw [if_neg h]
    exact atext_err F x w h
set_option maxHeartbeats 2000000 in
theorem ptext_of2 (F : Int) (x : BitVec 128) (n : Int) (t : ByteArray) (e0 : Int) (w : World) (hP : Pow w) (hT : Tab w) (hc : checkE F x n = 0) (h0 : 0 ≤ n) (h1 : n ≤ 128) (ht : t.size ≤ 1000)
    (KT : ∀ w, Pow w → Tab w → Calls Tryz.prog 40 #[.int .i64 F, .agg #[.int .u64 (hI x), .int .u64 (lI x)]] w fun e w' => e = .returned (.tuple #[.string t, .int .i64 e0]) ∧ Below w.heap.size w w') :
    Calls Tryz.prog 21 #[.int .i64 F, .agg #[.int .u64 (hI x), .int .u64 (lI x), .int .i64 n]] w fun e w' => e = .returned (.tuple #[.string (slashed t n), .int .i64 0]) ∧ Below w.heap.size w w' := by
  have KC := fun w => pcheck_any F x n w
  rw [hc] at KC
  clear hc
  have KI := fun w hP => itoa_any n (by omega) (by omega) w hP
  have hl := Lib.itoa_length_le n (by omega) (by omega)
  unfold slashed
  generalize hd : (⟨(Lib.itoa n).toArray⟩ : ByteArray) = d at *
  have hds : d.size ≤ 21 := by rw [← hd]; exact hl
  have hts : (t ++ ⟨#[47]⟩).size = t.size + 1 := by rw [ByteArray.size_append]; rfl
  have hlen1 : ¬ 9223372036854775807 < t.size + 1 := by omega
  have hlen2 : ¬ 9223372036854775807 < t.size + 1 + d.size := by omega
  have HS : Hid ((t ++ ⟨#[47]⟩).size = t.size + 1) := hts
  clear hd hl hts
  go_enter Tryz.func21, Tryz.ntmps21
  go_wp2_with fail
  refine (KC _).mono ?_
  rintro e w1 ⟨rfl, hb1⟩
  have P1 := (atp_new w w.heap.size x n 45 rfl).below hb1
  have kB1 := keepb hb1 (bl1 w _)
  clear hb1 KC
  obtain ⟨p0, p1, p2, -, -, -⟩ := id P1
  go_wp2_with fail
  refine (KT _ (hP.keep kB1) (hT.keep kB1)).mono ?_
  rintro e w2 ⟨rfl, hb2⟩
  have kB2 := keepb hb2 kB1
  clear p0 p1 p2
  obtain ⟨p0, p1, p2, -, -, -⟩ := P1.below hb2
  clear hb2 KT kB1 P1
  go_wp2_with fail
  refine (KI _ (hP.keep kB2)).mono ?_
  rintro e w3 ⟨rfl, hb3⟩
  have kB3 := keepb hb3 kB2
  clear hb3 KI kB2
  go_wp2
  go_ret2
  exact ⟨rfl, kB3⟩
end Go.Proofs.YtpiicdpipjjenaaGreatDoor
