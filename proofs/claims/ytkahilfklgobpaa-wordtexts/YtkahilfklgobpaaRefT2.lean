/-
  What a call of the reference's Text does: the walk.
-/
import Derived.Test.YtkahilfklgobpaaRefT
namespace Go.Proofs.Ytkahilfklgobpaa
open Go.RowKit
set_option linter.unusedSimpArgs false
set_option linter.unusedVariables false

theorem own_belowH {base e size n : Nat} {v : Value} {xs : List Value} {W w' : World} (hb : Below W.heap.size W w') (h : Hid (W.ownsRow base e size v n xs)) : Hid (w'.ownsRow base e size v n xs) := own_below hb h.out

theorem news_al (W : World) (v : Value) (t : TypeId) : ∀ j u, [v][j]? = some u → (W.alloc (.cells #[v] t)).cell? ((⟨W.heap.size, 0, none⟩ : Addr).add j) = some u := by
  intro j u hj
  match j, hj with
  | 0, hj => simp at hj; subst hj; simp [Addr.add, go_sem]
theorem one_al (k : IntKind) (n : Int) : ∀ u ∈ [Value.int k n], u.oneCell' = true := by
  intro u hu; simp at hu; subst hu; rfl

set_option maxHeartbeats 4000000 in
theorem rtext_any (x : BitVec 128) (w : World) :
    Calls Try.prog 38 #[.agg #[.int .u64 (hI x), .int .u64 (lI x)]] w fun e w' => e = .returned (.string (txtW x)) ∧ Below w.heap.size w w' := by
  obtain ⟨i0, hi, hz0, hz1, hz2⟩ := info_parts Try.infoB
  go_enter Try.func38, Try.ntmps38
  go_wp2
  go_loopw [3, 4] (fun b i wr => ∃ k : Nat, k ≤ 32 ∧ i = .int .i64 (4 * (k : Int)) ∧ wr.ownsRow (w.heap.size + 1) 5 1 b k (cellsT x k) ∧ wr.cell? ⟨w.heap.size, 0, none⟩ = some (.int .u64 (hI x)) ∧ wr.cell? ⟨w.heap.size, 1, none⟩ = some (.int .u64 (lI x)) ∧ Below w.heap.size w wr)
    (fun _ i _ => 128 - (intOf i).toNat)
  case atStart => exact ⟨0, by omega, rfl, World.ownsRow_nil _ _ _ _, by simp [go_sem], by simp [go_sem], bl1 _ _⟩
  case round =>
    obtain ⟨k, hk, rfl, hown, x0, x1, hB⟩ := hrel
    by_cases hlt : (k : Int) < 32
    · have hks : k < 32 := by omega
      have hs := nib_bits x k hks
      have hn := nib_lt x k
      have HL : Hid (cellsT x (k + 1) = cellsT x k ++ [.int .u8 (chN (nib x k) : Int)]) := cellsT_succ x k
      have C := fun i W => rbit_any x i W
      have v0 : 0 ≤ bitZ x (4 * (k : Int)) ∧ bitZ x (4 * (k : Int)) ≤ 1 := by rcases bitZ_01 x (4 * (k : Int)) with e | e <;> rw [e] <;> decide
      have v1 : 0 ≤ bitZ x (4 * (k : Int) + 1) ∧ bitZ x (4 * (k : Int) + 1) ≤ 1 := by rcases bitZ_01 x (4 * (k : Int) + 1) with e | e <;> rw [e] <;> decide
      have v2 : 0 ≤ bitZ x (4 * (k : Int) + 2) ∧ bitZ x (4 * (k : Int) + 2) ≤ 1 := by rcases bitZ_01 x (4 * (k : Int) + 2) with e | e <;> rw [e] <;> decide
      have v3 : 0 ≤ bitZ x (4 * (k : Int) + 3) ∧ bitZ x (4 * (k : Int) + 3) ≤ 1 := by rcases bitZ_01 x (4 * (k : Int) + 3) with e | e <;> rw [e] <;> decide
      revert hs C v0 v1 v2 v3 HL hn
      generalize bitZ x = B
      generalize nib x k = d
      generalize hI4 : 4 * (k : Int) = i
      rintro hs hn HL C ⟨v0, t0⟩ ⟨v1, t1⟩ ⟨v2, t2⟩ ⟨v3, t3⟩
      have i0' : 0 ≤ i := by omega
      have i1' : i ≤ 124 := by omega
      have HI : Hid (4 * (k : Int) = i) := hI4
      clear hI4 hlt
      have hown : Hid (wr.drew.ownsRow (w.heap.size + 1) 5 1 u3 k (cellsT x k)) := hown.drew
      have i2' : i < 128 := by omega
      have hbl := hB.drew
      have hn' : (d : Int) < 16 := by omega
      have g1 : IntKind.i64.wrap (i + 1) = i + 1 := by rw [IntKind.wrap_i64]; omega
      have g2 : IntKind.i64.wrap (i + 2) = i + 2 := by rw [IntKind.wrap_i64]; omega
      have g3 : IntKind.i64.wrap (i + 3) = i + 3 := by rw [IntKind.wrap_i64]; omega
      have m0 : IntKind.i64.wrap (8 * B i) = 8 * B i := by rw [IntKind.wrap_i64]; omega
      have m1 : IntKind.i64.wrap (4 * B (i + 1)) = 4 * B (i + 1) := by rw [IntKind.wrap_i64]; omega
      have m2 : IntKind.i64.wrap (2 * B (i + 2)) = 2 * B (i + 2) := by rw [IntKind.wrap_i64]; omega
      have a1 : IntKind.i64.wrap (8 * B i + 4 * B (i + 1)) = 8 * B i + 4 * B (i + 1) := by rw [IntKind.wrap_i64]; omega
      have a2 : IntKind.i64.wrap (8 * B i + 4 * B (i + 1) + 2 * B (i + 2)) = 8 * B i + 4 * B (i + 1) + 2 * B (i + 2) := by rw [IntKind.wrap_i64]; omega
      have a3 : IntKind.i64.wrap (d : Int) = (d : Int) := by rw [IntKind.wrap_i64]; omega
      have h47 : (k + 1) * 1 ≤ 140737488355328 := by omega
      have h63 : k + 1 ≤ maxLen := by unfold maxLen; omega
      go_wp2_with fail
      go_region_held3 (fun w' => w'.cell? ⟨w.heap.size, 0, none⟩ = some (.int .u64 (hI x)) ∧ w'.cell? ⟨w.heap.size, 1, none⟩ = some (.int .u64 (lI x)) ∧ Below w.heap.size w w')
        (first
          | exact ⟨x0, x1, hbl⟩
          | (obtain ⟨k1, k2, k9⟩ := ‹_ ∧ _ ∧ Below _ _ _›; exact app_keep (World.ownsRow.alloc hown.out _) hgrow k1 k2 k9)
          | (obtain ⟨k1, k2, k9⟩ := ‹_ ∧ _ ∧ Below _ _ _›; exact al_keep _ k1 k2 k9)
          | (obtain ⟨k1, k2, k9⟩ := ‹_ ∧ _ ∧ Below _ _ _›; exact ⟨k1, k2, k9⟩)
          | (obtain ⟨k1, k2, k9⟩ := ‹_ ∧ _ ∧ Below _ _ _›; exact ⟨keepc hb0 k1, keepc hb0 k2, keepb hb0 k9⟩))
        (first
          | (go_at_call 10; refine (C _ _).mono ?_; rintro e w0 ⟨rfl, hb0⟩; have hown := own_belowH hb0 hown)
          | (refine step_append_lies _ rfl (.tmp 9) (.tmp 32) 59 rfl (w.heap.size + 1) 5 i0 (.int .u8 0) 1 1 Try.underlying59 hi hz0 hz1 hz2 rfl (by decide) _ _ _ rfl (hown.out.alloc _) _ 1 1 [_] rfl rfl (news_al _ _ _) (one_al _ _) (by decide) h63 h47 (cell_in (‹_ ∧ _ ∧ Below _ _ _›).1) _ rfl ?_; intro g cap w4 hown4 hgrow hat hlt))
      obtain ⟨k1, k2, k9⟩ := ‹_ ∧ _ ∧ Below _ _ _›
      have HO : Hid (w4.ownsRow (w.heap.size + 1) 5 1 (.slice (some ⟨g, 0, none⟩) (k + 1) cap) (k + 1) (cellsT x (k + 1))) := by
        show World.ownsRow _ _ _ _ _ _ _
        rw [HL.out, ← dig_tab d hn]
        exact hown4
      have g4 : IntKind.i64.wrap (i + 4) = i + 4 := by rw [IntKind.wrap_i64]; omega
      clear hown4 hgrow hat hlt hown HL x0 x1 hB hbl C hs g1 g2 g3 m0 m1 m2 a1 a2 a3 v0 v1 v2 v3 t0 t1 t2 t3
      go_wp2
      go_roundw
      case rel =>
        have := HI.out
        exact ⟨k + 1, by omega, by go_num, HO.out, k1, k2, k9⟩
      case measure => simp [intOf]; omega
    · have hk8 : k = 32 := by omega
      subst hk8
      obtain ⟨g, cap, rfl, -, -⟩ := hown.form (by omega)
      have hv := txt_convR x wr g cap (fun j hj => by rw [hown.cellAt j (by omega), cellsT_get x 32 j hj])
      clear hown hi hz0 hz1 hz2 x0 x1
      go_wp2
      go_ret
      exact ⟨rfl, hB⟩
end Go.Proofs.Ytkahilfklgobpaa
