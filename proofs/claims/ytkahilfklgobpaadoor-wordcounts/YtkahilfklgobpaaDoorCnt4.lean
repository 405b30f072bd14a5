/-
  What the calls of Ones and Trail do, in turnpikeref1 and in package word.
-/
import Derived.Test.YtkahilfklgobpaaDoorNumQ
import Derived.Test.YtkahilfklgobpaaDoorCnt3
import Derived.Test.YtkahilfklgobpaaDoorRefF
namespace Go.Proofs.YtkahilfklgobpaaDoor
open Go.RowKit
set_option linter.unusedSimpArgs false
set_option linter.unusedVariables false

theorem fs_le (x : BitVec 128) : ∀ k, fs x k ≤ k := by
  intro k
  induction k with
  | zero => exact Nat.le_refl _
  | succ k ih => simp only [fs]; rcases bitZ_01 x (k : Int) with h | h <;> rw [h] <;> simp <;> omega
theorem fs_next (x : BitVec 128) (k : Nat) : ((fs x k : Nat) : Int) + bitZ x (k : Int) = ((fs x (k + 1) : Nat) : Int) := by
  simp only [fs]; rcases bitZ_01 x (k : Int) with h | h <;> rw [h] <;> simp

set_option maxHeartbeats 2000000 in
theorem rones_any (x : BitVec 128) (w : World) :
    Calls Tryd.prog 8 #[.agg #[.int .u64 (hI x), .int .u64 (lI x)]] w fun e w' => e = .returned (.int .i64 ((onesN x : Nat) : Int)) ∧ Below w.heap.size w w' := by
  have HO : Hid (onesN x = fs x 128) := ones_fs x
  go_enter Tryd.func8, Tryd.ntmps8
  go_wp2
  go_loopw [3, 4] (fun n i wr => ∃ k : Nat, k ≤ 128 ∧ n = .int .i64 ((fs x k : Nat) : Int) ∧ i = .int .i64 k ∧ Rd wr w.heap.size x ∧ Below w.heap.size w wr)
    (fun _ i _ => 128 - (intOf i).toNat)
  case atStart => exact ⟨0, by omega, rfl, rfl, Rd.new w x _, bl1 _ _⟩
  case round =>
    obtain ⟨k, hk, rfl, rfl, X, hB⟩ := hrel
    by_cases hlt : (k : Int) < 128
    · obtain ⟨x0, x1⟩ := id X
      have HN : Hid (((fs x k : Nat) : Int) + bitZ x (k : Int) = ((fs x (k + 1) : Nat) : Int)) := fs_next x k
      have hle := fs_le x k
      have h01 := bitZ_01 x (k : Int)
      have hb0 : 0 ≤ bitZ x (k : Int) := by omega
      have hb1 : bitZ x (k : Int) ≤ 1 := by omega
      clear h01
      go_wp2_with fail
      refine (rbit_any _ _ _).mono ?_
      rintro e w1 ⟨rfl, hb⟩
      go_wp2
      go_roundw
      case rel => exact ⟨k + 1, by omega, by rw [← HN.out], by go_num, X.keep hb, keepb hb hB⟩
      case measure => simp [intOf]; omega
    · have hk8 : k = 128 := by omega
      subst hk8
      clear hlt
      go_wp2
      go_ret
      exact ⟨by rw [HO.out]; rfl, hB⟩

set_option maxHeartbeats 2000000 in
theorem rtrail_any (x : BitVec 128) (w : World) :
    Calls Tryd.prog 12 #[.agg #[.int .u64 (hI x), .int .u64 (lI x)]] w fun e w' => e = .returned (.int .i64 ((trailN x : Nat) : Int)) ∧ Below w.heap.size w w' := by
  go_enter Tryd.func12, Tryd.ntmps12
  go_wp2
  go_loopw [3] (fun i wr => ∃ k : Nat, k ≤ 128 ∧ i = .int .i64 k ∧ Hid (x.toNat % 2 ^ k = 0) ∧ Rd wr w.heap.size x ∧ Below w.heap.size w wr)
    (fun i _ => 128 - (intOf i).toNat)
  case atStart => exact ⟨0, by omega, rfl, Nat.mod_one _, Rd.new w x _, bl1 _ _⟩
  case round =>
    obtain ⟨k, hk, rfl, hz, X, hB⟩ := hrel
    have hbl := hB.drew
    by_cases hlt : (k : Int) < 128
    · have hbit := bit_at x (127 - k) (by omega)
      have ee : 127 - (127 - k) = k := by omega
      have ec : (((127 - k : Nat) : Nat) : Int) = 127 - (k : Int) := by omega
      rw [ee, ec] at hbit
      have h01 := bitZ_01 x (127 - (k : Int))
      have hw : IntKind.i64.wrap (127 - (k : Int)) = 127 - k := by rw [IntKind.wrap_i64]; omega
      rcases h01 with c | c
      · rw [c] at hbit
        have hz' : Hid (x.toNat % 2 ^ (k + 1) = 0) := trail_step x k hz.out hbit.symm
        clear hbit ee ec hz
        obtain ⟨x0, x1⟩ := id X
        go_wp2_with fail
        refine (rbit_any _ _ _).mono ?_
        rintro e w1 ⟨rfl, hb1⟩
        have X1 := X.keep hb1
        have kB := keepb hb1 hB
        clear hw
        go_wp2
        go_roundw
        case rel => exact ⟨k + 1, by omega, by go_num, hz', X1, kB⟩
        case measure => simp [intOf]; omega
      · rw [c] at hbit
        have HL : Hid (trailN x = k) := trail_char x k hk hz.out (Or.inr hbit.symm)
        clear hbit ee ec hz
        obtain ⟨x0, x1⟩ := id X
        go_wp2_with fail
        refine (rbit_any _ _ _).mono ?_
        rintro e w1 ⟨rfl, hb1⟩
        have kB := keepb hb1 hB
        clear hw
        go_wp2
        go_ret
        exact ⟨by rw [HL.out]; rfl, kB⟩
    · have hk8 : k = 128 := by omega
      have HL : Hid (trailN x = k) := trail_char x k hk hz.out (Or.inl hk8)
      have hd : decide ((k : Int) < 128) = false := by simpa using hlt
      clear hlt hz hk8
      go_wp2
      go_ret
      exact ⟨by rw [HL.out]; rfl, hB⟩

/-- The library's table lies in its variable. -/
def Tab (w : World) : Prop := ∀ j, j < 64 → w.cell? ⟨0, j, none⟩ = some (.int .u8 ((Lib.deBruijn64tab.getD j 0 : Nat) : Int))
theorem Tab.keep {W w' : World} (h : Tab W) (hb : Below W.heap.size W w') : Tab w' := fun j hj => keepc hb (h j hj)
set_option maxHeartbeats 1000000 in
theorem tz_core (x k idx : Nat) (w : World) (hx0 : ((x : Int) == 0) = false)
    (key : IntKind.u64.wrap (bits BinOp.and IntKind.u64 (x : Int) (IntKind.u64.wrap (-(x : Int))) * 285870213051353865) / 288230376151711744 = (idx : Int))
    (hi : idx < 64) (hk : k < 64) (hcell : w.cell? ⟨0, idx, none⟩ = some (.int .u8 k)) :
    Calls Tryd.prog 21 #[.int .u64 x] w fun e w' => e = .returned (.int .i64 k) ∧ w' = w := by
  go_enter Tryd.func21, Tryd.ntmps21
  go_wp2_with (simp only [key])
  go_ret
  exact ⟨rfl, rfl⟩
theorem tz_zero (w : World) : Calls Tryd.prog 21 #[.int .u64 0] w fun e w' => e = .returned (.int .i64 64) ∧ w' = w := by
  go_enter Tryd.func21, Tryd.ntmps21
  go_wp2
  go_ret
  exact ⟨rfl, rfl⟩
theorem tz_any (v : Int) (w : World) (h0 : 0 ≤ v) (h1 : v < 18446744073709551616) (hn : ¬ v = 0) (hT : Tab w) :
    Calls Tryd.prog 21 #[.int .u64 v] w fun e w' => e = .returned (.int .i64 ((Lib.ctz 64 v.toNat : Nat) : Int)) ∧ w' = w := by
  obtain ⟨x, rfl⟩ := Int.eq_ofNat_of_zero_le h0
  have hx : x < 18446744073709551616 := by omega
  have hx0 : x ≠ 0 := by omega
  obtain ⟨hlow, hk⟩ := Lib.lowest_bit 64 x hx0 hx
  obtain ⟨hi, htab⟩ := Lib.deBruijn64_at _ hk
  have hcell := hT _ hi
  rw [htab] at hcell
  exact tz_core x _ _ w (by simp; omega) (tz_key x _ hx hx0 hlow) hi hk hcell

set_option maxHeartbeats 1000000 in
theorem trail_any (x : BitVec 128) (w : World) (hT : Tab w) :
    Calls Tryd.prog 11 #[.agg #[.int .u64 (hI x), .int .u64 (lI x)]] w fun e w' => e = .returned (.int .i64 ((trailN x : Nat) : Int)) ∧ Below w.heap.size w w' := by
  have hT1 : ∀ o, Tab (w.alloc o) := fun o => hT.keep (bl1 w o)
  clear hT
  by_cases h : lI x = 0
  · by_cases h' : hI x = 0
    · have HE : Hid (trailN x = 128) := trail_0 x h h'
      rw [h, h']
      clear h h'
      go_enter Tryd.func11, Tryd.ntmps11
      go_wp2_with (first | (go_at_call 21; refine (tz_zero _).mono ?_; rintro e w' ⟨rfl, rfl⟩) | go_in)
      go_ret
      exact ⟨by rw [HE.out]; rfl, bl1 _ _⟩
    · have hc := fun o => tz_any (hI x) (w.alloc o) (hI_lo x) (hI_up x) h' (hT1 o)
      have HE : Hid (64 + Lib.ctz 64 (hI x).toNat = trailN x) := trail_hi x h h'
      generalize Lib.ctz 64 (hI x).toNat = a at *
      have ha : Hid (a ≤ 64) := by
        have := HE.out
        have h2 : trailN x ≤ 128 := trail_le x
        show a ≤ 64
        omega
      have a1 : (a : Int) ≤ 64 := by have := ha.out; omega
      rw [h]
      clear h ha hT1
      go_enter Tryd.func11, Tryd.ntmps11
      go_wp2_with (first | (go_at_call 21; refine (hc _).mono ?_; rintro e w' ⟨rfl, rfl⟩) | go_in)
      go_ret
      refine ⟨congrArg Ending.returned (congrArg (Value.int IntKind.i64) ?_), bl1 _ _⟩
      rw [← HE.out]
      show (64 : Int) + (a : Int) = _
      omega
  · have hc := fun o => tz_any (lI x) (w.alloc o) (lI_lo x) (lI_up x) h (hT1 o)
    have HE : Hid (Lib.ctz 64 (lI x).toNat = trailN x) := trail_lo x h
    generalize Lib.ctz 64 (lI x).toNat = a at *
    clear hT1
    go_enter Tryd.func11, Tryd.ntmps11
    go_wp2_with (first | (go_at_call 21; refine (hc _).mono ?_; rintro e w' ⟨rfl, rfl⟩) | go_in)
    go_ret
    exact ⟨by rw [← HE.out]; rfl, bl1 _ _⟩
end Go.Proofs.YtkahilfklgobpaaDoor
