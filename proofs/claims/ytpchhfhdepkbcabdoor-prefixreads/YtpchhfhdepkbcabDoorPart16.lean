/-
  Part 16 of the proof: 3 texts, one behind the other.
-/
import Derived.Test.YtpchhfhdepkbcabDoorPart15
import Derived.Test.YtpchhfhdepkbcabDoorPart5
import Derived.Test.YtpchhfhdepkbcabDoorPart2
import Derived.Test.YtpchhfhdepkbcabDoorPart11
/-
  What a call of package addr's writeSix does: the text of an address of the family 128.
-/
namespace Go.Proofs.YtpchhfhdepkbcabDoor
open Go.RowKit
set_option linter.unusedSimpArgs false
set_option linter.unusedVariables false

theorem jnH_jn (g : Nat → Nat) (o : Nat) : ∀ n, jnH (fun j => g (o + j)) n = jn 58 ((List.range' o n).map fun k => hexL (g k)) := by
  intro n
  induction n with
  | zero => rfl
  | succ n ih =>
    rw [List.range'_concat, List.map_append, List.map_cons, List.map_nil, Nat.one_mul]
    show (if n = 0 then [] else jnH (fun j => g (o + j)) n ++ [58]) ++ hexL (g (o + n)) = _
    by_cases h : n = 0
    · subst h; simp [jn]
    · rw [if_neg h, ih, jn_snoc 58 _ _ (by simp [h])]
      simp
def grN (x : BitVec 128) (k : Nat) : Nat := (grpX x k).toNat
theorem grN_bd (x : BitVec 128) (k : Nat) : grN x k < 65536 := by
  have := grpX_any x k
  unfold grN; omega
theorem grN_int (x : BitVec 128) (k : Nat) : ((grN x k : Nat) : Int) = grpX x k := by
  have := grpX_any x k
  unfold grN; omega
theorem set_rowk {W : World} {C k : Nat} {x : BitVec 128} (hc : ∀ j, j < 8 → W.cell? ⟨C, j, none⟩ = some (.int .u64 (if j < k then grpX x j else 0))) (hk : k < 8) :
    ∀ j, j < 8 → (W.setCell ⟨C, k, none⟩ (.int .u64 (grpX x k))).cell? ⟨C, j, none⟩ = some (.int .u64 (if j < k + 1 then grpX x j else 0)) := by
  intro j hj
  by_cases e : j = k
  · subst e
    rw [set_same (hc j hj), if_pos (by omega)]
  · rw [set_other (fun q => e q.symm), hc j hj]
    by_cases q : j < k
    · rw [if_pos q, if_pos (by omega)]
    · rw [if_neg q, if_neg (by omega)]
theorem zero8 (w : World) (o : Obj) (T : TypeId) : ∀ j, j < 8 → ((w.alloc o).alloc (.cells #[.int .u64 0, .int .u64 0, .int .u64 0, .int .u64 0, .int .u64 0, .int .u64 0, .int .u64 0, .int .u64 0] T)).cell? ⟨w.heap.size + 1, j, none⟩ = some (.int .u64 0) := by
  intro j hj
  rw [new_cell]
  rcases j with _ | _ | _ | _ | _ | _ | _ | _ | j
  all_goals first | rfl | omega

set_option maxHeartbeats 8000000 in
set_option maxRecDepth 20000 in
theorem writeSix_any (x : BitVec 128) (w : World) (hT : Tab w) :
    Calls Tryd.prog 71 #[.agg #[.int .u64 (hI x), .int .u64 (lI x)]] w fun e w' => e = .returned (.string (text6 x)) ∧ Below w.heap.size w w' := by
  go_enter Tryd.func71, Tryd.ntmps71
  go_wp2
  go_loopw [7] (fun i wr => ∃ k : Nat, k ≤ 8 ∧ i = .int .i64 k ∧ At wr w.heap.size x ∧ (∀ j, j < 8 → wr.cell? ⟨w.heap.size + 1, j, none⟩ = some (.int .u64 (if j < k then grpX x j else 0))) ∧ (∀ j, j < 8 → wr.frozen? ⟨w.heap.size + 1, j, none⟩ = false) ∧ Below w.heap.size w wr)
    (fun i _ => 8 - (intOf i).toNat)
  case atStart =>
    refine ⟨0, by omega, rfl, (at_new w w.heap.size x 24 rfl).below (bl1 _ _), ?_, ?_, bl2 _ _ _⟩
    · intro j hj
      rw [if_neg (by omega)]
      exact zero8 _ _ _ j hj
    · intro j hj
      rw [new_frozen]
  case round =>
    obtain ⟨k, hk, rfl, hX, hc, hf, hB⟩ := hrel
    by_cases hlt : (k : Int) < 8
    · have hks : k < 8 := by omega
      have KP := fun w => part_any x k 16 w (by omega) (by omega) (by omega) (by omega)
      have e1 : lI ((x <<< (16 * (k : Int)).toNat) >>> ((128 : Int) - 16).toNat) = grpX x k := rfl
      rw [e1] at KP
      clear e1
      have hck := hc k hks
      have hfk := hf k hks
      obtain ⟨x0, x1, -, -, -⟩ := id hX
      have HS : Hid (∀ W : World, (∀ j, j < 8 → W.cell? ⟨w.heap.size + 1, j, none⟩ = some (.int .u64 (if j < k then grpX x j else 0))) → ∀ j, j < 8 → (W.setCell ⟨w.heap.size + 1, k, none⟩ (.int .u64 (grpX x k))).cell? ⟨w.heap.size + 1, j, none⟩ = some (.int .u64 (if j < k + 1 then grpX x j else 0))) := fun W h => set_rowk h hks
      have HC0 : Hid (∀ j, j < 8 → wr.cell? ⟨w.heap.size + 1, j, none⟩ = some (.int .u64 (if j < k then grpX x j else 0))) := hc
      have HF0 : Hid (∀ j, j < 8 → wr.frozen? ⟨w.heap.size + 1, j, none⟩ = false) := hf
      clear hc hf
      go_wp2_with fail
      refine (KP _).mono ?_
      rintro e w1 ⟨rfl, hb1⟩
      have ck := keepc hb1 hck
      have fk := keepf hb1 hck hfk
      have HC : Hid (∀ j, j < 8 → w1.cell? ⟨w.heap.size + 1, j, none⟩ = some (.int .u64 (if j < k then grpX x j else 0))) := fun j hj => keepc hb1 (HC0.out j hj)
      have HF : Hid (∀ j, j < 8 → w1.frozen? ⟨w.heap.size + 1, j, none⟩ = false) := fun j hj => keepf hb1 (HC0.out j hj) (HF0.out j hj)
      have X1 := hX.below hb1
      have kB := keepb hb1 hB
      clear hck hfk x0 x1 hX hB hb1 HC0 HF0 KP
      generalize hg : grpX x k = v at *
      clear hg
      go_wp2
      go_roundw
      case rel =>
        refine ⟨k + 1, by omega, by go_num, ?_, HS.out _ HC.out, ?_, kB.setCell (show w.heap.size ≤ w.heap.size + 1 by omega) _⟩
        · obtain ⟨y0, y1, y2, y3, y4⟩ := X1
          refine ⟨?_, ?_, ?_, ?_, ?_⟩ <;> simp [go_sem, *]
        · intro j hj
          have := HF.out j hj
          simp [go_sem, this]
      case measure => simp [intOf]; omega
    · have hk8 : k = 8 := by omega
      subst hk8
      have hR : ∀ j, j < 8 → wr.cell? ⟨w.heap.size + 1, j, none⟩ = some (.int .u64 (grpX x j)) := fun j hj => by rw [hc j hj, if_pos hj]
      have c0 := hR 0 (by omega)
      have c1 := hR 1 (by omega)
      have c2 := hR 2 (by omega)
      have c3 := hR 3 (by omega)
      have c4 := hR 4 (by omega)
      have c5 := hR 5 (by omega)
      have c6 := hR 6 (by omega)
      have c7 := hR 7 (by omega)
      have HR : Hid (RowN wr (w.heap.size + 1) 0 (grN x) 8) := fun j hj => by rw [grN_int]; simpa using hR j hj
      clear hc hf hX hR
      go_wp2_with fail
      refine (longestRow_any (grpX x) _).mono ?_
      rintro e w2 ⟨rfl, hb2⟩
      have HR2 : Hid (RowN w2 (w.heap.size + 1) 0 (grN x) 8) := HR.out.below hb2
      have kB2 := keepb hb2 hB
      clear c0 c1 c2 c3 c4 c5 c6 c7 HR hB hb2
      have hrb := row_bd x
      have HA : Hid (rowN x < 2 → text6 x = bL (jn 58 ((List.range' 0 8).map (pcX x)))) := text6_flat x
      have HG : Hid (¬ rowN x < 2 → text6 x = bL (jn 58 ((List.range' 0 (rowA x)).map (pcX x)) ++ [58, 58] ++ jn 58 ((List.range' (rowA x + rowN x) (8 - (rowA x + rowN x))).map (pcX x)))) := text6_gap x
      have ea : (bsG (grpX x) 8 0 0 0).1 = rowA x := rfl
      have eb : (bsG (grpX x) 8 0 0 0).2 = rowN x := rfl
      rw [ea, eb]
      clear ea eb
      have hTk := hT.keep kB2
      by_cases h2 : ((rowN x : Nat) : Int) < 2
      · have HV : Hid (text6 x = ⟨(jnH (grN x) 8).toArray⟩) := by
          show _ = _
          rw [HA.out (by omega)]
          have := jnH_jn (grN x) 0 8
          simp only [Nat.zero_add] at this
          rw [this]
          rfl
        have KJ := fun (hr : RowN w2 (w.heap.size + 1) 0 (grN x) 8) => join_any (w.heap.size + 1) 0 8 8 (grN x) w2 (grN_bd x) (by omega) hr hTk
        have KJ2 := KJ HR2.out
        clear KJ HA HG hrb
        generalize rowN x = b at *
        generalize rowA x = a at *
        go_wp2_with fail
        refine KJ2.mono ?_
        rintro e w3 ⟨rfl, hb3⟩
        have kB3 := keepb hb3 kB2
        clear hb3 KJ2 HR2
        go_wp2
        go_ret
        exact ⟨by rw [HV.out]; rfl, kB3⟩
      · have hr8 := hrb (by omega)
        have HV : Hid (text6 x = ⟨(jnH (fun j => grN x (0 + j)) (rowA x)).toArray⟩ ++ ⟨#[58, 58]⟩ ++ ⟨(jnH (fun j => grN x (rowA x + rowN x + j)) (8 - (rowA x + rowN x))).toArray⟩) := by
          show _ = _
          rw [HG.out (by omega), jnH_jn (grN x) 0 (rowA x), jnH_jn (grN x) (rowA x + rowN x)]
          show bL _ = bL _ ++ bL [58, 58] ++ bL _
          rw [bL_cat, bL_cat]
          rfl
        have L1 := jnH_len (fun j => grN x (0 + j)) (fun j => grN_bd x _) (rowA x)
        have L2 := jnH_len (fun j => grN x (rowA x + rowN x + j)) (fun j => grN_bd x _) (8 - (rowA x + rowN x))
        have KJ : ∀ o n cap w', o + n ≤ 8 → RowN w' (w.heap.size + 1) 0 (grN x) 8 → Below w.heap.size w w' → Calls Tryd.prog 100 #[.slice (some ⟨w.heap.size + 1, o, none⟩) n cap] w' fun e w'' => e = .returned (.string ⟨(jnH (fun j => grN x (o + j)) n).toArray⟩) ∧ Below w'.heap.size w' w'' := fun o n cap w' ho hr hb =>
          join_any (w.heap.size + 1) o cap n (fun j => grN x (o + j)) w' (fun j => grN_bd x _) (by omega) (fun j hj => by have := hr (o + j) (by omega); simpa using this) (hT.keep hb)
        have KA := fun w' => KJ 0 (rowA x) 8 w' (by omega)
        by_cases hfull : rowA x + rowN x = 8
        · have KB := fun w' => KJ 0 0 0 w' (by omega)
          have e0 : (⟨(jnH (fun j => grN x (0 + j)) 0).toArray⟩ : ByteArray) = ⟨#[]⟩ := rfl
          have e8 : (⟨(jnH (fun j => grN x (rowA x + rowN x + j)) (8 - (rowA x + rowN x))).toArray⟩ : ByteArray) = ⟨#[]⟩ := by
            rw [show 8 - (rowA x + rowN x) = 0 by omega]; rfl
          rw [e0] at KB
          rw [e8] at HV
          clear KJ HA HG hrb e0 e8 L2
          generalize hJ1 : (⟨(jnH (fun j => grN x (0 + j)) (rowA x)).toArray⟩ : ByteArray) = J1 at *
          have z1 : J1.size ≤ 40 := by rw [← hJ1]; exact Nat.le_trans L1 (by omega)
          clear hJ1 L1
          generalize rowN x = b at *
          generalize rowA x = a at *
          have s1 : (J1 ++ ⟨#[58, 58]⟩).size = J1.size + 2 := by rw [ByteArray.size_append]; rfl
          have l1 : ¬ 9223372036854775807 < J1.size + 2 := by omega
          have ha : (a : Int) ≤ 8 := by omega
          have hu : IntKind.i64.wrap ((a : Int) + (b : Int)) = 8 := by rw [IntKind.wrap_i64]; omega
          clear hfull
          have hR2d : RowN w2.drew (w.heap.size + 1) 0 (grN x) 8 := HR2.out
          have kB2d := kB2.drew
          go_wp2_with fail
          refine q_region (C := fun w' => RowN w' (w.heap.size + 1) 0 (grN x) 8 ∧ Below w.heap.size w w') (by kernel_rfl) (by kernel_rfl) ⟨hR2d, kB2d⟩ ?_
          clear hR2d kB2d HR2 kB2 hTk hT
          refine q_run (v := .int .i64 (a : Int)) (by rfl) ?_ ?_
          · (intro w1 hC; obtain ⟨c1, c2⟩ := hC; clear c1 c2; go_simp; first | done | (simp; done) | (simp [*]; done) | omega | (simp; omega) | (rw [IntKind.wrap_i64]; omega) | (intro hx; omega) | rfl)
          simp only [Act.put, List.setIfInBounds_toArray, List.set_cons_zero, List.set_cons_succ]
          refine q_run (v := .slice (some ⟨w.heap.size + 1, 0, none⟩) a 8) (by rfl) ?_ ?_
          · (intro w1 hC; obtain ⟨c1, c2⟩ := hC; clear c1 c2; go_simp; first | done | (simp; done) | (simp [*]; done) | omega | (simp; omega) | (rw [IntKind.wrap_i64]; omega) | (intro hx; omega) | rfl)
          simp only [Act.put, List.setIfInBounds_toArray, List.set_cons_zero, List.set_cons_succ]
          refine q_call (v := .string J1) (f := 100) (args := #[.slice (some ⟨w.heap.size + 1, 0, none⟩) a 8]) (by rfl) ?_ ?_ ?_
          · (intro w1 hC; clear hC; go_simp)
          · exact fun w1 hC => (KA w1 hC.1 hC.2).mono fun e w' ⟨he, hb⟩ => ⟨he, hC.1.below hb, keepb hb hC.2⟩
          simp only [Act.put, List.setIfInBounds_toArray, List.set_cons_zero, List.set_cons_succ]
          refine q_run (v := .string (J1 ++ ⟨#[58, 58]⟩)) (by rfl) ?_ ?_
          · (intro w1 hC; obtain ⟨c1, c2⟩ := hC; clear c1 c2; go_simp; first | done | (simp; done) | (simp [*]; done) | omega | (simp; omega) | (rw [IntKind.wrap_i64]; omega) | (intro hx; omega) | rfl)
          simp only [Act.put, List.setIfInBounds_toArray, List.set_cons_zero, List.set_cons_succ]
          refine q_run (v := .int .i64 (a : Int)) (by rfl) ?_ ?_
          · (intro w1 hC; obtain ⟨c1, c2⟩ := hC; clear c1 c2; go_simp; first | done | (simp; done) | (simp [*]; done) | omega | (simp; omega) | (rw [IntKind.wrap_i64]; omega) | (intro hx; omega) | rfl)
          simp only [Act.put, List.setIfInBounds_toArray, List.set_cons_zero, List.set_cons_succ]
          refine q_run (v := .int .i64 (b : Int)) (by rfl) ?_ ?_
          · (intro w1 hC; obtain ⟨c1, c2⟩ := hC; clear c1 c2; go_simp; first | done | (simp; done) | (simp [*]; done) | omega | (simp; omega) | (rw [IntKind.wrap_i64]; omega) | (intro hx; omega) | rfl)
          simp only [Act.put, List.setIfInBounds_toArray, List.set_cons_zero, List.set_cons_succ]
          refine q_run (v := .int .i64 8) (by rfl) ?_ ?_
          · (intro w1 hC; obtain ⟨c1, c2⟩ := hC; clear c1 c2; go_simp; first | done | (simp; done) | (simp [*]; done) | omega | (simp; omega) | (rw [IntKind.wrap_i64]; omega) | (intro hx; omega) | rfl)
          simp only [Act.put, List.setIfInBounds_toArray, List.set_cons_zero, List.set_cons_succ]
          refine q_run (v := .slice (some ⟨w.heap.size + 1, 0, none⟩) 0 0) (by rfl) ?_ ?_
          · (intro w1 hC; obtain ⟨c1, c2⟩ := hC; clear c1 c2; go_simp; first | done | (simp; done) | (simp [*]; done) | omega | (simp; omega) | (rw [IntKind.wrap_i64]; omega) | (intro hx; omega) | rfl)
          simp only [Act.put, List.setIfInBounds_toArray, List.set_cons_zero, List.set_cons_succ]
          refine q_call (v := .string ⟨#[]⟩) (f := 100) (args := #[.slice (some ⟨w.heap.size + 1, 0, none⟩) 0 0]) (by rfl) ?_ ?_ ?_
          · (intro w1 hC; clear hC; go_simp)
          · exact fun w1 hC => (KB w1 hC.1 hC.2).mono fun e w' ⟨he, hb⟩ => ⟨he, hC.1.below hb, keepb hb hC.2⟩
          simp only [Act.put, List.setIfInBounds_toArray, List.set_cons_zero, List.set_cons_succ]
          refine q_run (v := .string (J1 ++ ⟨#[58, 58]⟩ ++ ⟨#[]⟩)) (by rfl) ?_ ?_
          · (intro w1 hC; obtain ⟨c1, c2⟩ := hC; clear c1 c2; go_simp; first | done | (simp; done) | (simp [*]; done) | omega | (simp; omega) | (rw [IntKind.wrap_i64]; omega) | (intro hx; omega) | rfl)
          simp only [Act.put, List.setIfInBounds_toArray, List.set_cons_zero, List.set_cons_succ]
          refine q_run (v := .string (J1 ++ ⟨#[58, 58]⟩ ++ ⟨#[]⟩)) (by rfl) ?_ ?_
          · (intro w1 hC; obtain ⟨c1, c2⟩ := hC; clear c1 c2; go_simp; first | done | (simp; done) | (simp [*]; done) | omega | (simp; omega) | (rw [IntKind.wrap_i64]; omega) | (intro hx; omega) | rfl)
          simp only [Act.put, List.setIfInBounds_toArray, List.set_cons_zero, List.set_cons_succ]
          refine wpQuiet_nil ?_
          rintro w9 ⟨-, kB9⟩
          clear KA KB
          go_wp2
          go_ret
          exact ⟨by rw [HV.out]; rfl, kB9⟩
        · have KB := fun w' => KJ (rowA x + rowN x) (8 - (rowA x + rowN x)) (8 - (rowA x + rowN x)) w' (by omega)
          clear KJ HA HG hrb
          generalize hJ1 : (⟨(jnH (fun j => grN x (0 + j)) (rowA x)).toArray⟩ : ByteArray) = J1 at *
          generalize hJ2 : (⟨(jnH (fun j => grN x (rowA x + rowN x + j)) (8 - (rowA x + rowN x))).toArray⟩ : ByteArray) = J2 at *
          have z1 : J1.size ≤ 40 := by rw [← hJ1]; exact Nat.le_trans L1 (by omega)
          have z2 : J2.size ≤ 40 := by rw [← hJ2]; exact Nat.le_trans L2 (by omega)
          clear hJ1 hJ2 L1 L2
          generalize rowN x = b at *
          generalize rowA x = a at *
          have s1 : (J1 ++ ⟨#[58, 58]⟩).size = J1.size + 2 := by rw [ByteArray.size_append]; rfl
          have l1 : ¬ 9223372036854775807 < J1.size + 2 := by omega
          have l2 : ¬ 9223372036854775807 < J1.size + 2 + J2.size := by omega
          have ha : (a : Int) ≤ 8 := by omega
          obtain ⟨m, hm⟩ : ∃ m, a + b = m := ⟨_, rfl⟩
          rw [hm] at KB
          have hu : IntKind.i64.wrap ((a : Int) + (b : Int)) = (m : Int) := by rw [IntKind.wrap_i64]; omega
          have hm8 : (m : Int) ≤ 8 := by omega
          have hm9 : ¬ 8 = m := by omega
          clear hm hfull
          have hR2d : RowN w2.drew (w.heap.size + 1) 0 (grN x) 8 := HR2.out
          have kB2d := kB2.drew
          go_wp2_with fail
          refine q_region (C := fun w' => RowN w' (w.heap.size + 1) 0 (grN x) 8 ∧ Below w.heap.size w w') (by kernel_rfl) (by kernel_rfl) ⟨hR2d, kB2d⟩ ?_
          clear hR2d kB2d HR2 kB2 hTk hT
          refine q_run (v := .int .i64 (a : Int)) (by rfl) ?_ ?_
          · (intro w1 hC; obtain ⟨c1, c2⟩ := hC; clear c1 c2; go_simp; first | done | (simp; done) | (simp [*]; done) | omega | (simp; omega) | (rw [IntKind.wrap_i64]; omega) | (intro hx; omega) | rfl)
          simp only [Act.put, List.setIfInBounds_toArray, List.set_cons_zero, List.set_cons_succ]
          refine q_run (v := .slice (some ⟨w.heap.size + 1, 0, none⟩) a 8) (by rfl) ?_ ?_
          · (intro w1 hC; obtain ⟨c1, c2⟩ := hC; clear c1 c2; go_simp; first | done | (simp; done) | (simp [*]; done) | omega | (simp; omega) | (rw [IntKind.wrap_i64]; omega) | (intro hx; omega) | rfl)
          simp only [Act.put, List.setIfInBounds_toArray, List.set_cons_zero, List.set_cons_succ]
          refine q_call (v := .string J1) (f := 100) (args := #[.slice (some ⟨w.heap.size + 1, 0, none⟩) a 8]) (by rfl) ?_ ?_ ?_
          · (intro w1 hC; clear hC; go_simp)
          · exact fun w1 hC => (KA w1 hC.1 hC.2).mono fun e w' ⟨he, hb⟩ => ⟨he, hC.1.below hb, keepb hb hC.2⟩
          simp only [Act.put, List.setIfInBounds_toArray, List.set_cons_zero, List.set_cons_succ]
          refine q_run (v := .string (J1 ++ ⟨#[58, 58]⟩)) (by rfl) ?_ ?_
          · (intro w1 hC; obtain ⟨c1, c2⟩ := hC; clear c1 c2; go_simp; first | done | (simp; done) | (simp [*]; done) | omega | (simp; omega) | (rw [IntKind.wrap_i64]; omega) | (intro hx; omega) | rfl)
          simp only [Act.put, List.setIfInBounds_toArray, List.set_cons_zero, List.set_cons_succ]
          refine q_run (v := .int .i64 (a : Int)) (by rfl) ?_ ?_
          · (intro w1 hC; obtain ⟨c1, c2⟩ := hC; clear c1 c2; go_simp; first | done | (simp; done) | (simp [*]; done) | omega | (simp; omega) | (rw [IntKind.wrap_i64]; omega) | (intro hx; omega) | rfl)
          simp only [Act.put, List.setIfInBounds_toArray, List.set_cons_zero, List.set_cons_succ]
          refine q_run (v := .int .i64 (b : Int)) (by rfl) ?_ ?_
          · (intro w1 hC; obtain ⟨c1, c2⟩ := hC; clear c1 c2; go_simp; first | done | (simp; done) | (simp [*]; done) | omega | (simp; omega) | (rw [IntKind.wrap_i64]; omega) | (intro hx; omega) | rfl)
          simp only [Act.put, List.setIfInBounds_toArray, List.set_cons_zero, List.set_cons_succ]
          refine q_run (v := .int .i64 (m : Int)) (by rfl) ?_ ?_
          · (intro w1 hC; obtain ⟨c1, c2⟩ := hC; clear c1 c2; go_simp; first | done | (simp; done) | (simp [*]; done) | omega | (simp; omega) | (rw [IntKind.wrap_i64]; omega) | (intro hx; omega) | rfl)
          simp only [Act.put, List.setIfInBounds_toArray, List.set_cons_zero, List.set_cons_succ]
          refine q_run (v := .slice (some ⟨w.heap.size + 1, m, none⟩) (8 - m) (8 - m)) (by rfl) ?_ ?_
          · (intro w1 hC; obtain ⟨c1, c2⟩ := hC; clear c1 c2; go_simp; first | done | (simp; done) | (simp [*]; done) | omega | (simp; omega) | (rw [IntKind.wrap_i64]; omega) | (intro hx; omega) | rfl)
          simp only [Act.put, List.setIfInBounds_toArray, List.set_cons_zero, List.set_cons_succ]
          refine q_call (v := .string J2) (f := 100) (args := #[.slice (some ⟨w.heap.size + 1, m, none⟩) (8 - m) (8 - m)]) (by rfl) ?_ ?_ ?_
          · (intro w1 hC; clear hC; go_simp)
          · exact fun w1 hC => (KB w1 hC.1 hC.2).mono fun e w' ⟨he, hb⟩ => ⟨he, hC.1.below hb, keepb hb hC.2⟩
          simp only [Act.put, List.setIfInBounds_toArray, List.set_cons_zero, List.set_cons_succ]
          refine q_run (v := .string (J1 ++ ⟨#[58, 58]⟩ ++ J2)) (by rfl) ?_ ?_
          · (intro w1 hC; obtain ⟨c1, c2⟩ := hC; clear c1 c2; go_simp; first | done | (simp; done) | (simp [*]; done) | omega | (simp; omega) | (rw [IntKind.wrap_i64]; omega) | (intro hx; omega) | rfl)
          simp only [Act.put, List.setIfInBounds_toArray, List.set_cons_zero, List.set_cons_succ]
          refine q_run (v := .string (J1 ++ ⟨#[58, 58]⟩ ++ J2)) (by rfl) ?_ ?_
          · (intro w1 hC; obtain ⟨c1, c2⟩ := hC; clear c1 c2; go_simp; first | done | (simp; done) | (simp [*]; done) | omega | (simp; omega) | (rw [IntKind.wrap_i64]; omega) | (intro hx; omega) | rfl)
          simp only [Act.put, List.setIfInBounds_toArray, List.set_cons_zero, List.set_cons_succ]
          refine wpQuiet_nil ?_
          rintro w9 ⟨-, kB9⟩
          clear KA KB
          go_wp2
          go_ret
          exact ⟨by rw [HV.out]; rfl, kB9⟩
end Go.Proofs.YtpchhfhdepkbcabDoor
/-
  What the calls of package prefix's cut, bit, First, Has, Within, Check do.
-/
namespace Go.Proofs.YtpchhfhdepkbcabDoor
open Go.RowKit
set_option linter.unusedSimpArgs false
set_option linter.unusedVariables false

def cutW (x : BitVec 128) (n : Int) : BitVec 128 := x &&& maskW n
def bit1 (i : Int) : BitVec 128 := maskW 1 >>> i.toNat
/-- A prefix in memory. -/
def AtP (w : World) (B : Nat) (x : BitVec 128) (n : Int) : Prop := w.cell? ⟨B, 0, none⟩ = some (.int .u64 (hI x)) ∧ w.cell? ⟨B, 1, none⟩ = some (.int .u64 (lI x)) ∧ w.cell? ⟨B, 2, none⟩ = some (.int .i64 n) ∧ w.frozen? ⟨B, 0, none⟩ = false ∧ w.frozen? ⟨B, 1, none⟩ = false ∧ w.frozen? ⟨B, 2, none⟩ = false
theorem AtP.below {w w' : World} {B : Nat} {x : BitVec 128} {n : Int} (h : AtP w B x n) (hb : Below w.heap.size w w') : AtP w' B x n := by
  obtain ⟨h0, h1, h2, h3, h4, h5⟩ := h
  exact ⟨keepc hb h0, keepc hb h1, keepc hb h2, keepf hb h0 h3, keepf hb h1 h4, keepf hb h2 h5⟩
theorem atp_new (w : World) (B : Nat) (x : BitVec 128) (n : Int) (T : TypeId) (h : B = w.heap.size) : AtP (w.alloc (.cells #[.int .u64 (hI x), .int .u64 (lI x), .int .i64 n] T)) B x n := by
  subst h
  refine ⟨?_, ?_, ?_, ?_, ?_, ?_⟩ <;> simp [go_sem]
theorem bset3 {n C : Nat} {w W : World} (h : Below n w W) (hp : n ≤ C) (u v t : Value) : Below n w (((W.setCell ⟨C, 0, none⟩ u).setCell ⟨C, 1, none⟩ v).setCell ⟨C, 2, none⟩ t) := ((h.setCell hp _).setCell hp _).setCell hp _

set_option maxHeartbeats 1000000 in
theorem cut_any (x : BitVec 128) (n : Int) (w : World) :
    Calls Tryd.prog 47 #[.agg #[.int .u64 (hI x), .int .u64 (lI x)], .int .i64 n] w fun e w' => e = .returned (.agg #[.int .u64 (hI (cutW x n)), .int .u64 (lI (cutW x n)), .int .i64 n]) ∧ Below w.heap.size w w' := by
  have hbl := fun o p => (bl2 w o p).drew
  unfold cutW
  go_enter Tryd.func47, Tryd.ntmps47
  go_wp2
  go_region_held3 (fun w' => w'.cell? ⟨w.heap.size, 0, none⟩ = some (.int .u64 (hI x)) ∧ w'.cell? ⟨w.heap.size, 1, none⟩ = some (.int .u64 (lI x)) ∧ w'.cell? ⟨w.heap.size + 1, 0, none⟩ = some (cv w' (w.heap.size + 1) 0) ∧ w'.cell? ⟨w.heap.size + 1, 1, none⟩ = some (cv w' (w.heap.size + 1) 1) ∧ w'.cell? ⟨w.heap.size + 1, 2, none⟩ = some (cv w' (w.heap.size + 1) 2) ∧ w'.frozen? ⟨w.heap.size + 1, 0, none⟩ = false ∧ w'.frozen? ⟨w.heap.size + 1, 1, none⟩ = false ∧ w'.frozen? ⟨w.heap.size + 1, 2, none⟩ = false ∧ Below w.heap.size w w')
    (first
      | (obtain ⟨k1, k2, k3, k4, k5, k6, k7, k8, k9⟩ := ‹_ ∧ _›; exact ⟨keepc hb2 k1, keepc hb2 k2, cv_of (keepc hb2 k3), cv_of (keepc hb2 k4), cv_of (keepc hb2 k5), keepf hb2 k3 k6, keepf hb2 k4 k7, keepf hb2 k5 k8, keepb hb2 k9⟩)
      | (obtain ⟨k1, k2, k3, k4, k5, k6, k7, k8, k9⟩ := ‹_ ∧ _›; exact ⟨keepc hb1 k1, keepc hb1 k2, cv_of (keepc hb1 k3), cv_of (keepc hb1 k4), cv_of (keepc hb1 k5), keepf hb1 k3 k6, keepf hb1 k4 k7, keepf hb1 k5 k8, keepb hb1 k9⟩)
      | (refine ⟨?_, ?_, cv_new ?_, cv_new ?_, cv_new ?_, ?_, ?_, ?_, ?_⟩ <;> first | (simp [go_sem, *]; done) | exact bset3 (by simp [*]) (by simp) _ _ _))
    (first | (go_at_call 53; refine (mask_any _ _).mono ?_; rintro e w1 ⟨rfl, hb1⟩) | (go_at_call 79; refine (and_any _ _ _).mono ?_; rintro e w2 ⟨rfl, hb2⟩))
  obtain ⟨-, -, -, -, -, -, -, -, kB⟩ := ‹_ ∧ _›
  have e0 : w2.cell? ⟨w.heap.size + 1, 0, none⟩ = some (.int .u64 0) := keepc hb2 (keepc hb1 (by simp [go_sem]))
  have e1 : w2.cell? ⟨w.heap.size + 1, 1, none⟩ = some (.int .u64 0) := keepc hb2 (keepc hb1 (by simp [go_sem]))
  have e2 : w2.cell? ⟨w.heap.size + 1, 2, none⟩ = some (.int .i64 0) := keepc hb2 (keepc hb1 (by simp [go_sem]))
  go_wp2
  exact bodyPost_ret (v := .agg #[.int .u64 (hI (x &&& maskW n)), .int .u64 (lI (x &&& maskW n)), .int .i64 n]) (by simp [results, Tryd.results47, go_sem, e0, e1, e2]) rfl ⟨rfl, kB⟩

theorem pbit_any (i : Int) (w : World) :
    Calls Tryd.prog 49 #[.int .i64 i] w fun e w' => e = .returned (.agg #[.int .u64 (hI (bit1 i)), .int .u64 (lI (bit1 i))]) ∧ Below w.heap.size w w' := by
  unfold bit1
  go_enter Tryd.func49, Tryd.ntmps49
  go_wp2_with fail
  refine (mask_any _ _).mono ?_
  rintro e w1 ⟨rfl, hb1⟩
  have hZ := (at_new w w.heap.size 0#128 24 rfl).below hb1
  have kB := keepb hb1 (bl1 w _)
  clear hb1
  go_wp2_with fail
  refine (shr_any _ _ _).mono ?_
  rintro e w2 ⟨rfl, hb2⟩
  obtain ⟨z0, z1, z2, z3, z4⟩ := hZ.below hb2
  have kB := keepb hb2 kB
  clear hb2 hZ
  go_wp2
  exact bodyPost_ret (v := .agg #[.int .u64 (hI (maskW 1 >>> i.toNat)), .int .u64 (lI (maskW 1 >>> i.toNat))]) (by simp [results, Tryd.results49, go_sem, *]) rfl ⟨rfl, bset2 kB (Nat.le_refl _) _ _⟩

theorem eqw (c x : BitVec 128) : ((hI c == hI x) = true ∧ (lI c == lI x) = true ∧ (c == x) = true) ∨ ((hI c == hI x) = false ∧ (c == x) = false) ∨ ((hI c == hI x) = true ∧ (lI c == lI x) = false ∧ (c == x) = false) := by
  rw [← beq_ints c x]
  cases hI c == hI x <;> cases lI c == lI x <;> simp

theorem pfirst_any (x : BitVec 128) (n : Int) (w : World) :
    Calls Tryd.prog 22 #[.agg #[.int .u64 (hI x), .int .u64 (lI x), .int .i64 n]] w fun e w' => e = .returned (.agg #[.int .u64 (hI x), .int .u64 (lI x)]) ∧ Below w.heap.size w w' := by
  go_enter Tryd.func22, Tryd.ntmps22
  go_wp2
  exact bodyPost_ret (v := .agg #[.int .u64 (hI x), .int .u64 (lI x)]) (by simp [results, Tryd.results22, go_sem]) rfl ⟨rfl, bl2 _ _ _⟩

set_option maxHeartbeats 1000000 in
theorem has_any (x : BitVec 128) (n : Int) (y : BitVec 128) (w : World) :
    Calls Tryd.prog 20 #[.agg #[.int .u64 (hI x), .int .u64 (lI x), .int .i64 n], .agg #[.int .u64 (hI y), .int .u64 (lI y)]] w fun e w' => e = .returned (.bool (cutW y n == x)) ∧ Below w.heap.size w w' := by
  have hbl := fun o p => (bl2 w o p).drew
  have KC := fun w => cut_any y n w
  revert KC
  generalize cutW y n = c
  intro KC
  have hnn : (n == n) = true := by simp
  rcases eqw c x with ⟨q1, q2, q3⟩ | ⟨q1, q3⟩ | ⟨q1, q2, q3⟩
  all_goals
    rw [q3]
    clear q3
    go_enter Tryd.func20, Tryd.ntmps20
    go_wp2
    go_region_held3 (fun w' => w'.cell? ⟨w.heap.size, 0, none⟩ = some (.int .u64 (hI x)) ∧ w'.cell? ⟨w.heap.size, 1, none⟩ = some (.int .u64 (lI x)) ∧ w'.cell? ⟨w.heap.size, 2, none⟩ = some (.int .i64 n) ∧ w'.cell? ⟨w.heap.size + 1, 0, none⟩ = some (.int .u64 (hI y)) ∧ w'.cell? ⟨w.heap.size + 1, 1, none⟩ = some (.int .u64 (lI y)) ∧ Below w.heap.size w w')
      (first
        | (obtain ⟨k1, k2, k3, k4, k5, k9⟩ := ‹_ ∧ _›; exact ⟨keepc hb1 k1, keepc hb1 k2, keepc hb1 k3, keepc hb1 k4, keepc hb1 k5, keepb hb1 k9⟩)
        | (refine ⟨?_, ?_, ?_, ?_, ?_, ?_⟩ <;> first | (simp [go_sem, *]; done) | exact hbl _ _))
      (first | (go_at_call 47; refine (KC _).mono ?_; rintro e w1 ⟨rfl, hb1⟩))
    obtain ⟨-, -, -, -, -, kB⟩ := ‹_ ∧ _›
    go_wp2
    go_ret
    exact ⟨rfl, kB⟩
end Go.Proofs.YtpchhfhdepkbcabDoor
/-
  What the calls of package prefix's Within, Check, Of, Parent, Sibling, Meet, Cmp do.
-/
namespace Go.Proofs.YtpchhfhdepkbcabDoor
open Go.RowKit
set_option linter.unusedSimpArgs false
set_option linter.unusedVariables false

def withinB (x : BitVec 128) (n : Int) (y : BitVec 128) (m : Int) : Bool := decide (m ≤ n) && (cutW x m == y)
set_option maxHeartbeats 1000000 in
theorem pwithin_any (x : BitVec 128) (n : Int) (y : BitVec 128) (m : Int) (w : World) :
    Calls Tryd.prog 24 #[.agg #[.int .u64 (hI x), .int .u64 (lI x), .int .i64 n], .agg #[.int .u64 (hI y), .int .u64 (lI y), .int .i64 m]] w fun e w' => e = .returned (.bool (withinB x n y m)) ∧ Below w.heap.size w w' := by
  have KH := fun w => has_any y m x w
  unfold withinB
  generalize (cutW x m == y) = b at *
  by_cases h : m ≤ n
  · simp only [h, decide_true, Bool.true_and]
    go_enter Tryd.func24, Tryd.ntmps24
    go_wp2_with fail
    refine (KH _).mono ?_
    rintro e w1 ⟨rfl, hb1⟩
    have kB := keepb hb1 (bl2 w _ _)
    clear hb1
    go_wp2
    go_ret
    exact ⟨rfl, kB⟩
  · simp only [h, decide_false, Bool.false_and]
    go_enter Tryd.func24, Tryd.ntmps24
    go_wp2
    go_ret
    exact ⟨rfl, bl2 _ _ _⟩

def checkE (F : Int) (x : BitVec 128) (n : Int) : Int := if fam F = true then (if n < 0 then 13 else if F < n then 13 else if (cutW x n == x) = true then 0 else 14) else 11
set_option maxHeartbeats 1000000 in
theorem pcheck_any (F : Int) (x : BitVec 128) (n : Int) (w : World) :
    Calls Tryd.prog 32 #[.int .i64 F, .agg #[.int .u64 (hI x), .int .u64 (lI x), .int .i64 n]] w fun e w' => e = .returned (.int .i64 (checkE F x n)) ∧ Below w.heap.size w w' := by
  have KL := fun w => alast_any F w
  unfold lastV lastE at KL
  unfold checkE
  cases h : fam F
  · rw [if_neg (by simp)]
    rw [h, if_neg (by simp), if_neg (by simp), hI_zero, lI_zero] at KL
    clear h
    go_enter Tryd.func32, Tryd.ntmps32
    go_wp2_with fail
    refine (KL _).mono ?_
    rintro e w1 ⟨rfl, hb1⟩
    have kB := keepb hb1 (bl1 w _)
    clear hb1 KL
    go_wp2
    go_ret
    exact ⟨rfl, kB.alloc (by have := kB.size; omega) _⟩
  · rw [if_pos rfl]
    rw [h, if_pos rfl, if_pos rfl] at KL
    clear h
    generalize maskW F = m at *
    have KC := fun w => cut_any x n w
    revert KC
    generalize cutW x n = c
    intro KC
    have hnn : (n == n) = true := by simp
    by_cases h0 : n < 0
    · rw [if_pos h0]
      go_enter Tryd.func32, Tryd.ntmps32
      go_wp2_with fail
      refine (KL _).mono ?_
      rintro e w1 ⟨rfl, hb1⟩
      have kB := keepb hb1 (bl1 w _)
      obtain ⟨p0, p1, p2, -, -, -⟩ := ((atp_new w w.heap.size x n 26 rfl).below hb1).below (bl1 _ (.cells #[.int .u64 (hI m), .int .u64 (lI m)] 24))
      clear hb1 KL
      go_wp2
      go_ret
      exact ⟨rfl, kB.alloc (by have := kB.size; omega) _⟩
    by_cases h1 : F < n
    · rw [if_neg h0, if_pos h1]
      go_enter Tryd.func32, Tryd.ntmps32
      go_wp2_with fail
      refine (KL _).mono ?_
      rintro e w1 ⟨rfl, hb1⟩
      have kB := keepb hb1 (bl1 w _)
      obtain ⟨p0, p1, p2, -, -, -⟩ := ((atp_new w w.heap.size x n 26 rfl).below hb1).below (bl1 _ (.cells #[.int .u64 (hI m), .int .u64 (lI m)] 24))
      clear hb1 KL
      go_wp2
      go_ret
      exact ⟨rfl, kB.alloc (by have := kB.size; omega) _⟩
    rw [if_neg h0, if_neg h1]
    rcases eqw c x with ⟨q1, q2, q3⟩ | ⟨q1, q3⟩ | ⟨q1, q2, q3⟩
    all_goals
      rw [q3]
      first | rw [if_pos rfl] | rw [if_neg (by simp)]
      clear q3
      go_enter Tryd.func32, Tryd.ntmps32
      go_wp2_with fail
      refine (KL _).mono ?_
      rintro e w1 ⟨rfl, hb1⟩
      have kB := keepb hb1 (bl1 w _)
      obtain ⟨p0, p1, p2, -, -, -⟩ := ((atp_new w w.heap.size x n 26 rfl).below hb1).below (bl1 _ (.cells #[.int .u64 (hI m), .int .u64 (lI m)] 24))
      have kB2 := (kB.alloc (by have := kB.size; omega) (.cells #[.int .u64 (hI m), .int .u64 (lI m)] 24)).drew
      clear hb1 KL kB
      go_wp2_with fail
      go_region_held3 (fun w' => w'.cell? ⟨w.heap.size, 0, none⟩ = some (.int .u64 (hI x)) ∧ w'.cell? ⟨w.heap.size, 1, none⟩ = some (.int .u64 (lI x)) ∧ w'.cell? ⟨w.heap.size, 2, none⟩ = some (.int .i64 n) ∧ Below w.heap.size w w')
        (first
          | (obtain ⟨k1, k2, k3, k9⟩ := ‹_ ∧ _›; exact ⟨keepc hb3 k1, keepc hb3 k2, keepc hb3 k3, keepb hb3 k9⟩)
          | exact ⟨p0, p1, p2, kB2⟩)
        (first | (go_at_call 47; refine (KC _).mono ?_; rintro e w3 ⟨rfl, hb3⟩))
      obtain ⟨-, -, -, kB3⟩ := ‹_ ∧ _›
      go_wp2
      go_ret
      exact ⟨rfl, kB3⟩

def ofE (F : Int) (x : BitVec 128) (n : Int) : Int := if rightE F x = 0 then checkE F (cutW x n) n else rightE F x
def ofV (F : Int) (x : BitVec 128) (n : Int) : BitVec 128 := if ofE F x n = 0 then cutW x n else 0#128
def ofN (F : Int) (x : BitVec 128) (n : Int) : Int := if ofE F x n = 0 then n else 0
end Go.Proofs.YtpchhfhdepkbcabDoor
