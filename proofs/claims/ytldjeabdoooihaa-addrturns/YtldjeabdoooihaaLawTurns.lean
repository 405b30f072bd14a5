/-
  The law AddrTurns, walked.
-/
import Derived.Test.YtldjeabdoooihaaTurnP
import Derived.Test.YtldjeabdoooihaaLawReads
namespace Go.Proofs.Ytldjeabdoooihaa
open Go.RowKit
set_option linter.unusedSimpArgs false
set_option linter.unusedVariables false

def RowU (W : World) (B : Nat) (l : List UInt8) : Prop := ∀ j (hj : j < l.length), W.cell? ⟨B, j, none⟩ = some (.int .u8 (l[j].toNat : Int))
theorem RowU.below {W W' : World} {B : Nat} {l : List UInt8} (h : RowU W B l) (hb : Below W.heap.size W W') : RowU W' B l := fun j hj => keepc hb (h j hj)
theorem set_row (t : ByteArray) (W : World) (B i : Nat) (v : Int) (hit : i < t.size) (hv0 : 0 ≤ v) (hv1 : v < 256) (h : ∀ j, j < t.size → W.cell? ⟨B, j, none⟩ = some (.int .u8 (byteAt t j)) ∧ W.frozen? ⟨B, j, none⟩ = false) :
    ∃ l : List UInt8, l.length = t.size ∧ RowU (W.setCell ⟨B, i, none⟩ (.int .u8 v)).drew B l := by
  refine ⟨t.data.toList.set i (UInt8.ofNat v.toNat), by simp, ?_⟩
  intro j hj
  have hj' : j < t.size := by simpa using hj
  show (W.setCell ⟨B, i, none⟩ (.int .u8 v)).cell? ⟨B, j, none⟩ = _
  by_cases e : i = j
  · subst e
    rw [World.cell?_setCell_same W ⟨B, i, none⟩ (.int .u8 v) (h i hit).1]
    have : (UInt8.ofNat v.toNat).toNat = v.toNat := by rw [UInt8.toNat_ofNat']; omega
    simp [this]
    omega
  · rw [World.cell?_setCell_other W ⟨B, i, none⟩ ⟨B, j, none⟩ (.int .u8 v) (by simp [e]), (h j hj').1]
    rw [← byteAt_in t j hj']
    simp [List.getElem_set, e]
    rfl

set_option maxHeartbeats 4000000 in
theorem turns_err (F : Int) (x : BitVec 128) (a y c : Int) (m : ByteArray) (w : World) (h : ¬ rightE F x = 0) :
    Calls Try.prog 5 #[.int .i64 F, .agg #[.int .u64 (hI x), .int .u64 (lI x)], .int .i64 a, .int .u8 y, .int .i64 c, .string m] w fun e w' => e = .returned (.bool true) ∧ Below w.heap.size w w' := by
  have KT := fun w => rtext2_any F x w
  have hb : (rightE F x != 0) = true := by simp [h]
  generalize rightE F x = r at *
  generalize text2 F x = t at *
  go_enter Try.func5, Try.ntmps5
  go_wp2_with fail
  refine (known2_any _).mono ?_
  rintro e w1 ⟨rfl, hb1⟩
  have X1 := (at_new w w.heap.size x 24 rfl).below hb1
  have kB1 := keepb hb1 (bl1 w _)
  clear hb1
  obtain ⟨x0, x1, -, -, -⟩ := X1
  go_wp2_with fail
  refine (KT _).mono ?_
  rintro e w2 ⟨rfl, hb2⟩
  have kB2 := keepb hb2 kB1
  clear hb2 kB1 x0 x1 KT
  go_wp2
  go_ret
  exact ⟨rfl, kB2⟩

set_option maxHeartbeats 4000000 in
theorem turns_ok (F : Int) (x : BitVec 128) (a y c : Int) (m m' : ByteArray) (w : World) (h : rightE F x = 0) (hy0 : 0 ≤ y) (hy1 : y ≤ 255) (hF0 : -9223372036854775808 ≤ F) (hF1 : F ≤ 9223372036854775807) (hm : m.size ≤ maxLen) (hmm : (40 < m.size ∧ m' = m.extract 0 40) ∨ (m.size ≤ 40 ∧ m' = m)) :
    Calls Try.prog 5 #[.int .i64 F, .agg #[.int .u64 (hI x), .int .u64 (lI x)], .int .i64 a, .int .u8 y, .int .i64 c, .string m] w fun e w' => e = .returned (.bool true) ∧ Below w.heap.size w w' := by
  have KT := fun w => rtext2_any F x w
  have ts := text2_size F x h
  rw [h] at KT
  clear h
  generalize text2 F x = t at *
  have hm40 : m'.size ≤ 40 := by
    rcases hmm with ⟨h1, rfl⟩ | ⟨h1, rfl⟩
    · simp; omega
    · exact h1
  have HK : Hid (∀ (s : ByteArray) (w : World), s.size ≤ 1000 → Calls Try.prog 3 #[.int .i64 F, .string s] w fun e w' => e = .returned (.bool true) ∧ Below w.heap.size w w') := fun s w hs => addrReads_any F s w hF0 hF1 (by unfold maxLen; omega)
  have KW := fun w => within_any a (t.size : Int) w (by omega) (by omega)
  have KV := fun w => within_any c ((t.size : Int) + 1) w (by omega) (by omega)
  have wa0 := Int.emod_nonneg a (b := (t.size : Int)) (by omega)
  have wa1 := Int.emod_lt_of_pos a (b := (t.size : Int)) (by omega)
  have wc0 := Int.emod_nonneg c (b := (t.size : Int) + 1) (by omega)
  have wc1 := Int.emod_lt_of_pos c (b := (t.size : Int) + 1) (by omega)
  obtain ⟨i, hi⟩ : ∃ i : Nat, a % (t.size : Int) = (i : Int) := Int.eq_ofNat_of_zero_le wa0
  obtain ⟨d, hd⟩ : ∃ d : Nat, c % ((t.size : Int) + 1) = (d : Int) := Int.eq_ofNat_of_zero_le wc0
  rw [hi] at KW wa1
  rw [hd] at KV wc1
  have hit : i < t.size := by omega
  have hdt : d ≤ t.size := by omega
  clear wa0 wc0 hi hd hF0 hF1
  unfold maxLen at hm
  rcases hmm with ⟨hl, hme⟩ | ⟨hl, hme⟩
  all_goals
    first
      | (have hl2 : (40 : Int) < (m.size : Int) := by omega)
      | (have hl2 : ¬ (40 : Int) < (m.size : Int) := by omega)
    have HME : Hid _ := hme
    clear hme
    go_enter Try.func5, Try.ntmps5
    go_wp2_with fail
    refine (known2_any _).mono ?_
    rintro e w1 ⟨rfl, hb1⟩
    have X1 := (at_new w w.heap.size x 24 rfl).below hb1
    have kB1 := keepb hb1 (bl1 w _)
    clear hb1
    obtain ⟨x0, x1, -, -, -⟩ := X1
    go_wp2_with fail
    refine (KT _).mono ?_
    rintro e w2 ⟨rfl, hb2⟩
    have kB2 := keepb hb2 kB1
    clear hb2 kB1 x0 x1 KT
    go_wp2_with fail
    refine (KW _).mono ?_
    rintro e w3 ⟨rfl, hw3⟩
    rw [hw3]; clear hw3 KW w3
    obtain ⟨cap, W, hconv, hcells, hWB, hWs⟩ := str_bytes t w2
    have HC : Hid (∀ j, j < t.size → W.cell? ⟨w2.heap.size, j, none⟩ = some (.int .u8 (byteAt t j)) ∧ W.frozen? ⟨w2.heap.size, j, none⟩ = false) := hcells
    obtain ⟨q0, q1⟩ := hcells i hit
    have bb := byteAt_bd t i
    have kBW := keepb hWB kB2
    have hB2 := kB2.size
    have hi2 : (i : Int) < (t.size : Int) := by omega
    clear hcells hWB kB2
    generalize hbi : byteAt t i = bi at *
    go_wp2_with fail
    have eM : m' = _ := HME
    rw [← eM]
    clear eM HME
    obtain ⟨l, hlen, hR⟩ := set_row t W w2.heap.size i ((bi + y) % 256) hit (by omega) (by omega) HC
    have hRB : Below w.heap.size w (W.setCell ⟨w2.heap.size, i, none⟩ (.int .u8 ((bi + y) % 256))).drew := (kBW.setCell hB2 _).drew
    have hd2 : (d : Int) ≤ (t.size : Int) := by omega
    clear HC kBW hWs q0 q1 bb hbi hconv
    refine q_region (C := fun w' => RowU w' w2.heap.size l ∧ Below w.heap.size w w') (by kernel_rfl) (by kernel_rfl) ⟨hR, hRB⟩ ?_
    clear hR hRB
    refine q_run (v := .int .i64 F) (by rfl) ?_ ?_
    · (intro w1 hC; obtain ⟨c1, c2⟩ := hC; go_simp; first | done | (simp; done) | (simp [*]; done) | omega | (simp; omega) | (rw [IntKind.wrap_i64]; omega) | rfl)
    simp only [Act.put, List.setIfInBounds_toArray, List.set_cons_zero, List.set_cons_succ]
    refine q_run (v := .slice (some ⟨w2.heap.size, 0, none⟩) t.size cap) (by rfl) ?_ ?_
    · (intro w1 hC; obtain ⟨c1, c2⟩ := hC; go_simp; first | done | (simp; done) | (simp [*]; done) | omega | (simp; omega) | (rw [IntKind.wrap_i64]; omega) | rfl)
    simp only [Act.put, List.setIfInBounds_toArray, List.set_cons_zero, List.set_cons_succ]
    refine q_run (v := .string ⟨l.toArray⟩) (by rfl) ?_ ?_
    · (intro w1 hC; have hcv := run_convert_bytes_back (P := Try.prog) w1 40 9 5 ⟨w2.heap.size, 0, none⟩ cap l Try.underlying40 Try.underlying5 Try.underlying9 (fun j hj => by have h7 := hC.1 j hj; simp [Addr.add]; split; (rename_i h0; subst h0; exact h7); exact h7); rw [hlen] at hcv; clear hC HK KV; go_simp; first | done | (simp [hcv]; done))
    simp only [Act.put, List.setIfInBounds_toArray, List.set_cons_zero, List.set_cons_succ]
    refine q_call (v := .bool true) (f := 3) (args := #[.int .i64 F, .string ⟨l.toArray⟩]) (by rfl) ?_ ?_ ?_
    · (intro w1 hC; obtain ⟨c1, c2⟩ := hC; go_simp)
    · exact fun w1 hC => ((HK ⟨l.toArray⟩ w1 (by show l.length ≤ 1000; omega)).mono fun e w' ⟨he, hb⟩ => ⟨he, hC.1.below hb, keepb hb hC.2⟩)
    simp only [Act.put, List.setIfInBounds_toArray, List.set_cons_zero, List.set_cons_succ]
    refine q_run (v := .bool true) (by rfl) ?_ ?_
    · (intro w1 hC; obtain ⟨c1, c2⟩ := hC; go_simp; first | done | (simp; done) | (simp [*]; done) | omega | (simp; omega) | (rw [IntKind.wrap_i64]; omega) | rfl)
    simp only [Act.put, List.setIfInBounds_toArray, List.set_cons_zero, List.set_cons_succ]
    refine q_run (v := .int .i64 F) (by rfl) ?_ ?_
    · (intro w1 hC; obtain ⟨c1, c2⟩ := hC; go_simp; first | done | (simp; done) | (simp [*]; done) | omega | (simp; omega) | (rw [IntKind.wrap_i64]; omega) | rfl)
    simp only [Act.put, List.setIfInBounds_toArray, List.set_cons_zero, List.set_cons_succ]
    refine q_run (v := .string t) (by rfl) ?_ ?_
    · (intro w1 hC; obtain ⟨c1, c2⟩ := hC; go_simp; first | done | (simp; done) | (simp [*]; done) | omega | (simp; omega) | (rw [IntKind.wrap_i64]; omega) | rfl)
    simp only [Act.put, List.setIfInBounds_toArray, List.set_cons_zero, List.set_cons_succ]
    refine q_run (v := .int .i64 c) (by rfl) ?_ ?_
    · (intro w1 hC; obtain ⟨c1, c2⟩ := hC; go_simp; first | done | (simp; done) | (simp [*]; done) | omega | (simp; omega) | (rw [IntKind.wrap_i64]; omega) | rfl)
    simp only [Act.put, List.setIfInBounds_toArray, List.set_cons_zero, List.set_cons_succ]
    refine q_run (v := .string t) (by rfl) ?_ ?_
    · (intro w1 hC; obtain ⟨c1, c2⟩ := hC; go_simp; first | done | (simp; done) | (simp [*]; done) | omega | (simp; omega) | (rw [IntKind.wrap_i64]; omega) | rfl)
    simp only [Act.put, List.setIfInBounds_toArray, List.set_cons_zero, List.set_cons_succ]
    refine q_run (v := .int .i64 (t.size : Int)) (by rfl) ?_ ?_
    · (intro w1 hC; obtain ⟨c1, c2⟩ := hC; go_simp; first | done | (simp; done) | (simp [*]; done) | omega | (simp; omega) | (rw [IntKind.wrap_i64]; omega) | rfl)
    simp only [Act.put, List.setIfInBounds_toArray, List.set_cons_zero, List.set_cons_succ]
    refine q_run (v := .int .i64 ((t.size : Int) + 1)) (by rfl) ?_ ?_
    · (intro w1 hC; clear hC HK KV; go_simp; first | done | (rw [IntKind.wrap_i64]; omega))
    simp only [Act.put, List.setIfInBounds_toArray, List.set_cons_zero, List.set_cons_succ]
    refine q_call (v := .int .i64 (d : Int)) (f := 17) (args := #[.int .i64 c, .int .i64 ((t.size : Int) + 1)]) (by rfl) ?_ ?_ ?_
    · (intro w1 hC; obtain ⟨c1, c2⟩ := hC; go_simp)
    · exact fun w1 hC => ((KV w1).mono fun e w' ⟨he, hb⟩ => ⟨he, hb ▸ hC.1, hb ▸ hC.2⟩)
    simp only [Act.put, List.setIfInBounds_toArray, List.set_cons_zero, List.set_cons_succ]
    refine q_run (v := .string (t.extract 0 d)) (by rfl) ?_ ?_
    · (intro w1 hC; clear hC HK KV; go_simp; first | done | omega | (intro hx; omega) | (simp; done) | (simp [*]; done) | (simp; omega))
    simp only [Act.put, List.setIfInBounds_toArray, List.set_cons_zero, List.set_cons_succ]
    refine q_call (v := .bool true) (f := 3) (args := #[.int .i64 F, .string (t.extract 0 d)]) (by rfl) ?_ ?_ ?_
    · (intro w1 hC; obtain ⟨c1, c2⟩ := hC; go_simp)
    · exact fun w1 hC => ((HK (t.extract 0 d) w1 (by simp; omega)).mono fun e w' ⟨he, hb⟩ => ⟨he, hC.1.below hb, keepb hb hC.2⟩)
    simp only [Act.put, List.setIfInBounds_toArray, List.set_cons_zero, List.set_cons_succ]
    refine q_run (v := .bool true) (by rfl) ?_ ?_
    · (intro w1 hC; obtain ⟨c1, c2⟩ := hC; go_simp; first | done | (simp; done) | (simp [*]; done) | omega | (simp; omega) | (rw [IntKind.wrap_i64]; omega) | rfl)
    simp only [Act.put, List.setIfInBounds_toArray, List.set_cons_zero, List.set_cons_succ]
    refine q_run (v := .bool true) (by rfl) ?_ ?_
    · (intro w1 hC; obtain ⟨c1, c2⟩ := hC; go_simp; first | done | (simp; done) | (simp [*]; done) | omega | (simp; omega) | (rw [IntKind.wrap_i64]; omega) | rfl)
    simp only [Act.put, List.setIfInBounds_toArray, List.set_cons_zero, List.set_cons_succ]
    refine q_run (v := .int .i64 F) (by rfl) ?_ ?_
    · (intro w1 hC; obtain ⟨c1, c2⟩ := hC; go_simp; first | done | (simp; done) | (simp [*]; done) | omega | (simp; omega) | (rw [IntKind.wrap_i64]; omega) | rfl)
    simp only [Act.put, List.setIfInBounds_toArray, List.set_cons_zero, List.set_cons_succ]
    refine q_run (v := .string t) (by rfl) ?_ ?_
    · (intro w1 hC; obtain ⟨c1, c2⟩ := hC; go_simp; first | done | (simp; done) | (simp [*]; done) | omega | (simp; omega) | (rw [IntKind.wrap_i64]; omega) | rfl)
    simp only [Act.put, List.setIfInBounds_toArray, List.set_cons_zero, List.set_cons_succ]
    refine q_run (v := .int .i64 (i : Int)) (by rfl) ?_ ?_
    · (intro w1 hC; obtain ⟨c1, c2⟩ := hC; go_simp; first | done | (simp; done) | (simp [*]; done) | omega | (simp; omega) | (rw [IntKind.wrap_i64]; omega) | rfl)
    simp only [Act.put, List.setIfInBounds_toArray, List.set_cons_zero, List.set_cons_succ]
    refine q_run (v := .string (t.extract 0 i)) (by rfl) ?_ ?_
    · (intro w1 hC; clear hC HK KV; go_simp; first | done | omega | (intro hx; omega) | (simp; done) | (simp [*]; done) | (simp; omega))
    simp only [Act.put, List.setIfInBounds_toArray, List.set_cons_zero, List.set_cons_succ]
    refine q_run (v := .string m') (by rfl) ?_ ?_
    · (intro w1 hC; obtain ⟨c1, c2⟩ := hC; go_simp; first | done | (simp; done) | (simp [*]; done) | omega | (simp; omega) | (rw [IntKind.wrap_i64]; omega) | rfl)
    simp only [Act.put, List.setIfInBounds_toArray, List.set_cons_zero, List.set_cons_succ]
    refine q_run (v := .string (t.extract 0 i ++ m')) (by rfl) ?_ ?_
    · (intro w1 hC; clear hC HK KV; go_simp; first | done | omega | (intro hx; omega) | (simp; done) | (simp [*]; done) | (simp; omega))
    simp only [Act.put, List.setIfInBounds_toArray, List.set_cons_zero, List.set_cons_succ]
    refine q_run (v := .string t) (by rfl) ?_ ?_
    · (intro w1 hC; obtain ⟨c1, c2⟩ := hC; go_simp; first | done | (simp; done) | (simp [*]; done) | omega | (simp; omega) | (rw [IntKind.wrap_i64]; omega) | rfl)
    simp only [Act.put, List.setIfInBounds_toArray, List.set_cons_zero, List.set_cons_succ]
    refine q_run (v := .int .i64 (i : Int)) (by rfl) ?_ ?_
    · (intro w1 hC; obtain ⟨c1, c2⟩ := hC; go_simp; first | done | (simp; done) | (simp [*]; done) | omega | (simp; omega) | (rw [IntKind.wrap_i64]; omega) | rfl)
    simp only [Act.put, List.setIfInBounds_toArray, List.set_cons_zero, List.set_cons_succ]
    refine q_run (v := .string (t.extract i t.size)) (by rfl) ?_ ?_
    · (intro w1 hC; clear hC HK KV; go_simp; first | done | omega | (intro hx; omega) | (simp; done) | (simp [*]; done) | (simp; omega))
    simp only [Act.put, List.setIfInBounds_toArray, List.set_cons_zero, List.set_cons_succ]
    refine q_run (v := .string (t.extract 0 i ++ m' ++ t.extract i t.size)) (by rfl) ?_ ?_
    · (intro w1 hC; clear hC HK KV; go_simp; first | done | omega | (intro hx; omega) | (simp; done) | (simp [*]; done) | (simp; omega))
    simp only [Act.put, List.setIfInBounds_toArray, List.set_cons_zero, List.set_cons_succ]
    refine q_call (v := .bool true) (f := 3) (args := #[.int .i64 F, .string (t.extract 0 i ++ m' ++ t.extract i t.size)]) (by rfl) ?_ ?_ ?_
    · (intro w1 hC; obtain ⟨c1, c2⟩ := hC; go_simp)
    · exact fun w1 hC => ((HK (t.extract 0 i ++ m' ++ t.extract i t.size) w1 (by simp [ByteArray.size_append]; omega)).mono fun e w' ⟨he, hb⟩ => ⟨he, hC.1.below hb, keepb hb hC.2⟩)
    simp only [Act.put, List.setIfInBounds_toArray, List.set_cons_zero, List.set_cons_succ]
    refine q_run (v := .bool true) (by rfl) ?_ ?_
    · (intro w1 hC; obtain ⟨c1, c2⟩ := hC; go_simp; first | done | (simp; done) | (simp [*]; done) | omega | (simp; omega) | (rw [IntKind.wrap_i64]; omega) | rfl)
    simp only [Act.put, List.setIfInBounds_toArray, List.set_cons_zero, List.set_cons_succ]
    refine q_run (v := .bool true) (by rfl) ?_ ?_
    · (intro w1 hC; obtain ⟨c1, c2⟩ := hC; go_simp; first | done | (simp; done) | (simp [*]; done) | omega | (simp; omega) | (rw [IntKind.wrap_i64]; omega) | rfl)
    simp only [Act.put, List.setIfInBounds_toArray, List.set_cons_zero, List.set_cons_succ]
    refine wpQuiet_nil ?_
    intro w4 hC
    obtain ⟨-, kB4⟩ := hC
    clear HK KV
    go_wp2
    go_ret
    exact ⟨rfl, kB4⟩

theorem addrTurns_any (F : Int) (x : BitVec 128) (a y c : Int) (m : ByteArray) (w : World) (hF0 : -9223372036854775808 ≤ F) (hF1 : F ≤ 9223372036854775807) (ha0 : -9223372036854775808 ≤ a) (ha1 : a ≤ 9223372036854775807) (hy0 : 0 ≤ y) (hy1 : y ≤ 255) (hc0 : -9223372036854775808 ≤ c) (hc1 : c ≤ 9223372036854775807) (hm : m.size ≤ maxLen) :
    Calls Try.prog 5 #[.int .i64 F, .agg #[.int .u64 (hI x), .int .u64 (lI x)], .int .i64 a, .int .u8 y, .int .i64 c, .string m] w fun e w' => e = .returned (.bool true) ∧ Below w.heap.size w w' := by
  by_cases h : rightE F x = 0
  · by_cases h4 : 40 < m.size
    · exact turns_ok F x a y c m _ w h hy0 hy1 hF0 hF1 hm (Or.inl ⟨h4, rfl⟩)
    · exact turns_ok F x a y c m _ w h hy0 hy1 hF0 hF1 hm (Or.inr ⟨by omega, rfl⟩)
  · exact turns_err F x a y c m w h
end Go.Proofs.Ytldjeabdoooihaa
