/-
  Part 3 of the proof: 3 texts, one behind the other.
-/
import Derived.Test.YtbamogpbjdobkaaDoorPart2
import Derived.Test.YtbamogpbjdobkaaDoorPart1
import Derived.Deep.AppendLies
namespace Go.Proofs.YtbamogpbjdobkaaDoor
open Go.RowKit
set_option linter.unusedSimpArgs false
set_option linter.unusedVariables false

def TwQI (L : List Int) (e : Ending) : Prop := ∃ b, e = .returned (.bool b) ∧ (b = false ↔ NoTw L)
set_option maxRecDepth 100000 in
set_option maxHeartbeats 8000000 in
theorem twinsI_any (v : Value) (L : List Int) (w : World) (hv : RwX cI w v L) (hl : L.length ≤ 9223372036854775806) :
    Calls Tryd.prog 17 #[v] w fun e w' => TwQI L e ∧ Below w.heap.size w w' := by
  obtain ⟨ao, cc, rfl, -, hv⟩ := hv
  have HV := hid13 hv
  have HL := hid13 hl
  have HB := hid13 (Below.refl w.heap.size w)
  clear hv hl
  go_enter Tryd.func17, Tryd.ntmps17
  go_wp2_with fail
  go_loopg [3] (L.length + 1) (fun g i wr => ∃ k : Nat, 1 ≤ k ∧ k + g = L.length + 2 ∧ i = .int .i64 (k : Int) ∧ Hid (Below w.heap.size w wr) ∧ Hid (∀ j, j + 1 < k → L[j]? ≠ L[j + 1]? ∨ L[j + 1]? = none))
  case atStart => exact ⟨1, by omega, by omega, rfl, HB, fun j hj => by omega⟩
  case round =>
    clear HB
    obtain ⟨k, hk1, hk, rfl, HB, HN⟩ := hrel
    by_cases hlt : k < L.length
    · have hli : (k : Int) < (L.length : Int) := by omega
      obtain ⟨bo, off, rfl, hcell⟩ : ∃ bo off, ao = some ⟨bo, off, none⟩ ∧ ∀ j x, L[j]? = some x → w.cell? ⟨bo, off + j, none⟩ = some (cI x) := by
        rcases HV.out with h | h
        · rw [h] at hlt; simp at hlt
        · exact h
      obtain ⟨j, hj⟩ : ∃ j, k = j + 1 := ⟨k - 1, by omega⟩
      obtain ⟨x, hx⟩ : ∃ x, L[k]? = some x := ⟨L[k], by simp [hlt]⟩
      obtain ⟨y, hy⟩ : ∃ y, L[j]? = some y := ⟨L[j], by simp [show j < L.length by omega]⟩
      have r1 : wr.cell? ⟨bo, off + k, none⟩ = some (.int .i64 x) := keepc HB.out (hcell k x hx)
      have r2 : wr.cell? ⟨bo, off + j, none⟩ = some (.int .i64 y) := keepc HB.out (hcell j y hy)
      have hj1 : (k : Int) - 1 = (j : Int) := by omega
      have hji : (j : Int) < (L.length : Int) := by omega
      have mk : IntKind.i64.wrap ((k : Int) + 1) = (k : Int) + 1 := by have := HL.out; rw [IntKind.wrap_i64]; omega
      have mj : IntKind.i64.wrap (j : Int) = (j : Int) := by have := HL.out; rw [IntKind.wrap_i64]; omega
      have HK : Hid (k + gk = L.length + 2 ∧ k < L.length ∧ 1 ≤ k ∧ k = j + 1 ∧ L[k]? = some x ∧ L[j]? = some y) := ⟨hk, hlt, hk1, hj, hx, hy⟩
      have KS := fun W => sameI_any y x W
      clear hcell hx hy hk hj hk1
      by_cases hxy : y = x
      · have hbq : (y == x) = true := by simp [hxy]
        rw [hbq] at KS
        have HT : Hid (¬ NoTw L) := by
          intro h
          obtain ⟨-, -, -, e, a, b⟩ := HK.out
          rw [e] at a
          exact h j y x b a hxy
        clear hxy hbq HN
        go_wp2_with fail
        refine qw_region (C := fun W => W.cell? ⟨bo, off + j, none⟩ = some (.int .i64 y) ∧ W.cell? ⟨bo, off + k, none⟩ = some (.int .i64 x) ∧ Below w.heap.size w W) (by kernel_rfl) (by kernel_rfl) ⟨r2, r1, HB.out.drew⟩ ?_
        clear r1 r2
        refine qw_run (v := .slice (some ⟨bo, off, none⟩) L.length cc) (by rfl) ?_ ?_
        · (intro w9 hC; clear hC; go_simp; first | done | (simp; done) | (simp [*]; done) | omega | (simp; omega) | (rw [IntKind.wrap_i64]; omega) | rfl)
        simp only [Act.put, List.setIfInBounds_toArray, List.set_cons_zero, List.set_cons_succ]
        refine qw_run (v := .int .i64 (k : Int)) (by rfl) ?_ ?_
        · (intro w9 hC; clear hC; go_simp; first | done | (simp; done) | (simp [*]; done) | omega | (simp; omega) | (rw [IntKind.wrap_i64]; omega) | rfl)
        simp only [Act.put, List.setIfInBounds_toArray, List.set_cons_zero, List.set_cons_succ]
        refine qw_run (v := .int .i64 (j : Int)) (by rfl) ?_ ?_
        · (intro w9 hC; clear hC; go_simp; first | done | (simp; done) | (simp [*]; done) | omega | (simp; omega) | (rw [IntKind.wrap_i64]; omega) | rfl)
        simp only [Act.put, List.setIfInBounds_toArray, List.set_cons_zero, List.set_cons_succ]
        refine qw_run (v := .pointer (some ⟨bo, off + j, none⟩)) (by rfl) ?_ ?_
        · (intro w9 hC; clear hC; go_simp; first | done | (simp; done) | (simp [*]; done) | omega | (simp; omega) | (rw [IntKind.wrap_i64]; omega) | rfl)
        simp only [Act.put, List.setIfInBounds_toArray, List.set_cons_zero, List.set_cons_succ]
        refine qw_run (v := .int .i64 y) (by rfl) ?_ ?_
        · (intro w9 hC; have f0 := hC.1; clear hC; go_simp; first | done | (simp; done) | (simp [*]; done) | omega | (simp; omega) | (rw [IntKind.wrap_i64]; omega) | rfl)
        simp only [Act.put, List.setIfInBounds_toArray, List.set_cons_zero, List.set_cons_succ]
        refine qw_run (v := .slice (some ⟨bo, off, none⟩) L.length cc) (by rfl) ?_ ?_
        · (intro w9 hC; clear hC; go_simp; first | done | (simp; done) | (simp [*]; done) | omega | (simp; omega) | (rw [IntKind.wrap_i64]; omega) | rfl)
        simp only [Act.put, List.setIfInBounds_toArray, List.set_cons_zero, List.set_cons_succ]
        refine qw_run (v := .int .i64 (k : Int)) (by rfl) ?_ ?_
        · (intro w9 hC; clear hC; go_simp; first | done | (simp; done) | (simp [*]; done) | omega | (simp; omega) | (rw [IntKind.wrap_i64]; omega) | rfl)
        simp only [Act.put, List.setIfInBounds_toArray, List.set_cons_zero, List.set_cons_succ]
        refine qw_run (v := .pointer (some ⟨bo, off + k, none⟩)) (by rfl) ?_ ?_
        · (intro w9 hC; clear hC; go_simp; first | done | (simp; done) | (simp [*]; done) | omega | (simp; omega) | (rw [IntKind.wrap_i64]; omega) | rfl)
        simp only [Act.put, List.setIfInBounds_toArray, List.set_cons_zero, List.set_cons_succ]
        refine qw_run (v := .int .i64 x) (by rfl) ?_ ?_
        · (intro w9 hC; have f0 := hC.2.1; clear hC; go_simp; first | done | (simp; done) | (simp [*]; done) | omega | (simp; omega) | (rw [IntKind.wrap_i64]; omega) | rfl)
        simp only [Act.put, List.setIfInBounds_toArray, List.set_cons_zero, List.set_cons_succ]
        refine qw_call (v := .bool true) (f := 14) (args := #[.int .i64 y, .int .i64 x]) (by rfl) ?_ ?_ ?_
        · (intro w9 hC; clear hC; go_simp)
        · exact fun w9 hC => (KS w9).mono fun e w' ⟨he, hb⟩ => ⟨he, keepc hb hC.1, keepc hb hC.2.1, keepb hb hC.2.2⟩
        simp only [Act.put, List.setIfInBounds_toArray, List.set_cons_zero, List.set_cons_succ]
        refine qw_nil ?_
        intro W1 hC
        have HB2 := hid13 hC.2.2
        clear hC
        go_wp2
        go_ret
        exact ⟨⟨true, rfl, (fun h => by cases h), (fun h => absurd h HT.out)⟩, HB2.out⟩
      · have hbq : (y == x) = false := by simp [hxy]
        rw [hbq] at KS
        have HN2 : Hid (∀ j, j + 1 < k + 1 → L[j]? ≠ L[j + 1]? ∨ L[j + 1]? = none) := by
          intro i hi
          obtain ⟨-, -, -, e, a, b⟩ := HK.out
          by_cases c : i + 1 < k
          · exact HN.out i c
          · obtain rfl : i = j := by omega
            rw [← e, a, b]
            exact .inl (fun q => hxy (Option.some.inj q))
        clear hxy hbq HN
        go_wp2_with fail
        refine qw_region (C := fun W => W.cell? ⟨bo, off + j, none⟩ = some (.int .i64 y) ∧ W.cell? ⟨bo, off + k, none⟩ = some (.int .i64 x) ∧ Below w.heap.size w W) (by kernel_rfl) (by kernel_rfl) ⟨r2, r1, HB.out.drew⟩ ?_
        clear r1 r2
        refine qw_run (v := .slice (some ⟨bo, off, none⟩) L.length cc) (by rfl) ?_ ?_
        · (intro w9 hC; clear hC; go_simp; first | done | (simp; done) | (simp [*]; done) | omega | (simp; omega) | (rw [IntKind.wrap_i64]; omega) | rfl)
        simp only [Act.put, List.setIfInBounds_toArray, List.set_cons_zero, List.set_cons_succ]
        refine qw_run (v := .int .i64 (k : Int)) (by rfl) ?_ ?_
        · (intro w9 hC; clear hC; go_simp; first | done | (simp; done) | (simp [*]; done) | omega | (simp; omega) | (rw [IntKind.wrap_i64]; omega) | rfl)
        simp only [Act.put, List.setIfInBounds_toArray, List.set_cons_zero, List.set_cons_succ]
        refine qw_run (v := .int .i64 (j : Int)) (by rfl) ?_ ?_
        · (intro w9 hC; clear hC; go_simp; first | done | (simp; done) | (simp [*]; done) | omega | (simp; omega) | (rw [IntKind.wrap_i64]; omega) | rfl)
        simp only [Act.put, List.setIfInBounds_toArray, List.set_cons_zero, List.set_cons_succ]
        refine qw_run (v := .pointer (some ⟨bo, off + j, none⟩)) (by rfl) ?_ ?_
        · (intro w9 hC; clear hC; go_simp; first | done | (simp; done) | (simp [*]; done) | omega | (simp; omega) | (rw [IntKind.wrap_i64]; omega) | rfl)
        simp only [Act.put, List.setIfInBounds_toArray, List.set_cons_zero, List.set_cons_succ]
        refine qw_run (v := .int .i64 y) (by rfl) ?_ ?_
        · (intro w9 hC; have f0 := hC.1; clear hC; go_simp; first | done | (simp; done) | (simp [*]; done) | omega | (simp; omega) | (rw [IntKind.wrap_i64]; omega) | rfl)
        simp only [Act.put, List.setIfInBounds_toArray, List.set_cons_zero, List.set_cons_succ]
        refine qw_run (v := .slice (some ⟨bo, off, none⟩) L.length cc) (by rfl) ?_ ?_
        · (intro w9 hC; clear hC; go_simp; first | done | (simp; done) | (simp [*]; done) | omega | (simp; omega) | (rw [IntKind.wrap_i64]; omega) | rfl)
        simp only [Act.put, List.setIfInBounds_toArray, List.set_cons_zero, List.set_cons_succ]
        refine qw_run (v := .int .i64 (k : Int)) (by rfl) ?_ ?_
        · (intro w9 hC; clear hC; go_simp; first | done | (simp; done) | (simp [*]; done) | omega | (simp; omega) | (rw [IntKind.wrap_i64]; omega) | rfl)
        simp only [Act.put, List.setIfInBounds_toArray, List.set_cons_zero, List.set_cons_succ]
        refine qw_run (v := .pointer (some ⟨bo, off + k, none⟩)) (by rfl) ?_ ?_
        · (intro w9 hC; clear hC; go_simp; first | done | (simp; done) | (simp [*]; done) | omega | (simp; omega) | (rw [IntKind.wrap_i64]; omega) | rfl)
        simp only [Act.put, List.setIfInBounds_toArray, List.set_cons_zero, List.set_cons_succ]
        refine qw_run (v := .int .i64 x) (by rfl) ?_ ?_
        · (intro w9 hC; have f0 := hC.2.1; clear hC; go_simp; first | done | (simp; done) | (simp [*]; done) | omega | (simp; omega) | (rw [IntKind.wrap_i64]; omega) | rfl)
        simp only [Act.put, List.setIfInBounds_toArray, List.set_cons_zero, List.set_cons_succ]
        refine qw_call (v := .bool false) (f := 14) (args := #[.int .i64 y, .int .i64 x]) (by rfl) ?_ ?_ ?_
        · (intro w9 hC; clear hC; go_simp)
        · exact fun w9 hC => (KS w9).mono fun e w' ⟨he, hb⟩ => ⟨he, keepc hb hC.1, keepc hb hC.2.1, keepb hb hC.2.2⟩
        simp only [Act.put, List.setIfInBounds_toArray, List.set_cons_zero, List.set_cons_succ]
        refine qw_nil ?_
        intro W1 hC
        have HB2 := hid13 hC.2.2
        clear hC
        go_wp2
        go_roundg (gk - 1)
        case measure => have := HK.out; omega
        case rel => exact ⟨k + 1, by omega, by have := HK.out; omega, rfl, HB2, HN2⟩
    · have hli : ¬ (k : Int) < (L.length : Int) := by omega
      have HT : Hid (NoTw L) := by
        intro i x y hx hy
        have hlt2 := (List.getElem?_eq_some_iff.1 hy).1
        rcases HN.out i (by omega) with h | h
        · rw [hx, hy] at h
          exact fun q => h (congrArg some q)
        · rw [h] at hy; cases hy
      go_wp2_with fail
      go_ret
      exact ⟨⟨false, rfl, (fun _ => HT.out), (fun _ => rfl)⟩, HB.out⟩
def UnEI (w W : World) (U : List (BitVec 32)) (n : Int) (L : List Int) (e : Ending) : Prop :=
  (UnQ U n L ∧ ∃ v, e = .returned (.tuple #[v, .int .i64 0]) ∧ W.ownsRow w.heap.size 3 1 v n.toNat ((unR U L n.toNat).map cI)) ∨ (¬ UnQ U n L ∧ e = .returned (.tuple #[.slice none 0 0, .int .i64 (if n < 0 then 1 else 25)]))
def zrI (R : List Int) (n k : Nat) : List Value := (R.take k).map cI ++ List.replicate (n - k) (.int .i64 0)
theorem zrI_set (R : List Int) (n k : Nat) (x : Int) (hk : k < n) (hR : R.length = n) (hx : R[k]? = some x) : (zrI R n k).set k (.int .i64 x) = zrI R n (k + 1) := by
  unfold zrI
  have hl : ((R.take k).map cI).length = k := by rw [List.length_map, List.length_take]; omega
  rw [List.set_append_right _ _ (by omega), hl, Nat.sub_self]
  obtain ⟨j, hj⟩ : ∃ j, n - k = j + 1 := ⟨n - k - 1, by omega⟩
  obtain ⟨h1, h2⟩ := List.getElem?_eq_some_iff.1 hx
  rw [hj, List.replicate_succ, List.set_cons_zero, show n - (k + 1) = j by omega, List.take_succ_eq_append_getElem h1, List.map_append, h2, List.append_assoc]
  rfl
set_option maxRecDepth 100000 in
set_option maxHeartbeats 16000000 in
theorem unfoldI_any (v lv : Value) (U : List (BitVec 32)) (n : Int) (L : List Int) (w : World) (hv : RwX cU w v U) (hL : RwX cI w lv L) (hl : U.length ≤ 3000) (hn0 : -9223372036854775808 ≤ n) (hn1 : n ≤ 9223372036854775807) (hll : L.length ≤ 9223372036854775806) :
    Calls Tryd.prog 6 #[v, .int .i64 n, lv] w fun e w' => UnEI w w' U n L e ∧ Below w.heap.size w w' := by
  obtain ⟨j0, ji, jz0, jz1, jz2⟩ := info13 Tryd.infoI13
  have HV := hid13 hv
  have HW := hid13 hL
  have HL : Hid (U.length ≤ 3000 ∧ L.length ≤ 9223372036854775806) := ⟨hl, hll⟩
  obtain ⟨ao, cc, hvf, -, -⟩ := id hv
  obtain ⟨lo, lc, hlf, -, hlc⟩ := id hL
  subst hvf hlf
  by_cases hneg : n < 0
  · have HQ : Hid (UnEI w w U n L (.returned (.tuple #[.slice none 0 0, .int .i64 1]))) := .inr ⟨fun h => by have := h.1; omega, by rw [if_pos hneg]⟩
    go_enter Tryd.func6, Tryd.ntmps6
    go_wp2_with fail
    exact bodyPost_ret (v := .tuple #[.slice none 0 0, .int .i64 1]) (by simp [results, Tryd.results6, go_sem]) rfl ⟨HQ.out, Below.refl _ _⟩
  obtain ⟨N, rfl⟩ : ∃ N : Nat, n = (N : Int) := ⟨n.toNat, by omega⟩
  have HE : ∀ W, ¬ UnQ U (N : Int) L → UnEI w W U (N : Int) L (.returned (.tuple #[.slice none 0 0, .int .i64 25])) := fun W h => .inr ⟨h, by rw [if_neg hneg]⟩
  have HE' := hid13 HE
  have HLC := hid13 hlc
  have HN := hid13 hn1
  clear hv hL hl hn0 hn1 hll HE hlc
  go_enter Tryd.func6, Tryd.ntmps6
  go_wp2_with fail
  refine (isMap_any _ U N w HV.out (by have := HN.out; omega) (by have := HL.out; omega)).mono ?_
  rintro e w1 ⟨⟨b1, rfl, hb1⟩, hbl1⟩
  have HB1 := hid13 hbl1
  have HM := hid13 hb1
  clear hbl1 hb1
  cases b1
  · have HQ := hid13 (HE'.out w1 (fun h => by have := HM.out.2 h.2.1; simp at this))
    go_wp2_with fail
    exact bodyPost_ret (v := .tuple #[.slice none 0 0, .int .i64 25]) (by simp [results, Tryd.results6, go_sem]) rfl ⟨HQ.out, HB1.out⟩
  go_wp2_with fail
  refine (ones_any _ U w1 (HV.out.below HB1.out) (by have := HL.out; omega)).mono ?_
  rintro e w2 ⟨rfl, hbl2⟩
  have HB2 := hid13 (keepb hbl2 HB1.out)
  clear hbl2 HB1
  by_cases hs : sumW U U.length = L.length
  · rw [hs]
    have hse : ((L.length : Int) != (L.length : Int)) = false := by simp
    have HS := hid13 hs
    clear hs
    go_wp2_with fail
    refine (twinsI_any _ L w2 (HW.out.below HB2.out) HL.out.2).mono ?_
    rintro e w3 ⟨⟨b3, rfl, hb3⟩, hbl3⟩
    have HB3 := hid13 (keepb hbl3 HB2.out)
    have HT := hid13 hb3
    clear hbl3 hb3 HB2
    cases b3
    · have HQ : Hid (UnQ U (N : Int) L) := ⟨by omega, by have := HM.out; simpa using this, HS.out, by have := HT.out; simpa using this⟩
      have hN : N ≤ 96000 := by have h1 := HQ.out.2.1.1; rw [Int.toNat_natCast] at h1; have := HL.out; omega
      have hby : j0.bytes * N ≤ 281474976710656 := by rw [jz2]; omega
      have HR : Hid ((unR U L N).length = N) := by have := unR_len HQ.out N (by rw [Int.toNat_natCast]; exact Nat.le_refl _); exact this
      have HNl : Hid (N ≤ 32 * U.length) := by have h1 := HQ.out.2.1.1; rw [Int.toNat_natCast] at h1; show _ ≤ _; omega
      clear HM HT HS HE' HN
      go_wp2_with (at_make; apply stopHere9)
      refine (show wpList _ _ _ _ _ _ from ?_)
      refine wpList_make_full _ rfl _ _ 22 rfl w3.heap.size 3 j0 (.int .i64 0) 1 Tryd.underlying22 ji jz0 jz1 .i64 .i64 _ _ N rfl rfl rfl rfl hby (by unfold maxLen; omega) (Nat.le_refl _) ?_
      intro w4 ho4 hgrow
      have HB4 := hid13 (HB3.out.grown hgrow HB3.out.size (fun z hz => by cases hz))
      have HO4 : Hid (w4.ownsRow w3.heap.size 3 1 (.slice (some ⟨w3.heap.size, 0, none⟩) N N) N (zrI (unR U L N) N 0)) := by
        have e : zrI (unR U L N) N 0 = (madeCells (Value.cells (.int .i64 0)) (N * 1)).toList := by
          show _ = (madeCells #[.int .i64 0] (N * 1)).toList
          rw [toList_madeCells_one, Nat.mul_one]
          unfold zrI
          rw [List.take_zero]
          rfl
        rw [e]; exact ho4
      have HSZ := hid13 HB3.out.size
      clear ho4 hgrow hby HB3
      go_wp2_with fail
      go_loopg [9, 10, 32] N (fun g fr i10 i wr => ∃ (k : Nat) (c : Nat), k + g = N ∧ i = .int .i64 (k : Int) ∧ fr = .int .i64 ((c : Int) - 1) ∧ c ≤ k ∧ Hid (c = cnt U k) ∧ Hid (wr.ownsRow w3.heap.size 3 1 (.slice (some ⟨w3.heap.size, 0, none⟩) N N) N (zrI (unR U L N) N k) ∧ Below w.heap.size w wr))
      case atStart => exact ⟨0, 0, by omega, rfl, rfl, Nat.le_refl _, rfl, HO4.out, HB4.out⟩
      case round =>
        clear HO4 HB4
        obtain ⟨k, c, hk, rfl, rfl, hck, HC, HS⟩ := hrel
        by_cases hlt : k < N
        · have hli : (k : Int) < (N : Int) := by omega
          have KI := isset_any _ U k wr (HV.out.below HS.out.2) (by have := HNl.out; omega) (by have := HL.out; omega)
          obtain ⟨a1, a2⟩ := un_at HQ.out k (by rw [Int.toNat_natCast]; exact hlt)
          have a3 : cnt U (k + 1) = c + (plc U k).toNat := by simp only [cnt]; rw [HC.out]
          have hLne : 0 < L.length := by omega
          obtain ⟨bo, off, rfl, hcell⟩ : ∃ bo off, lo = some ⟨bo, off, none⟩ ∧ ∀ j x, L[j]? = some x → w.cell? ⟨bo, off + j, none⟩ = some (cI x) := by
            rcases HLC.out with h | h
            · rw [h] at hLne; simp at hLne
            · exact h
          obtain ⟨j, hj⟩ : ∃ j, cnt U (k + 1) = j + 1 := ⟨cnt U (k + 1) - 1, by omega⟩
          obtain ⟨x, hx⟩ : ∃ x, L[j]? = some x := ⟨L[j], by simp [show j < L.length by omega]⟩
          have hun : (unR U L N)[k]? = some x := by
            have := unR_get HQ.out k (by rw [Int.toNat_natCast]; exact hlt)
            rw [Int.toNat_natCast, hj, Nat.add_sub_cancel, hx] at this
            exact this
          have HZ := hid13 (zrI_set (unR U L N) N k x hlt HR.out hun)
          have HX : Hid (w.cell? ⟨bo, off + j, none⟩ = some (.int .i64 x)) := hcell j x hx
          have hji : (j : Int) < (L.length : Int) := by omega
          have mk : IntKind.i64.wrap ((k : Int) + 1) = (k : Int) + 1 := by rw [IntKind.wrap_i64]; omega
          have HK : Hid (k + gk = N ∧ k < N ∧ cnt U (k + 1) = j + 1 ∧ j ≤ k) := ⟨hk, hlt, hj, by have := cnt_le U (k + 1); omega⟩
          have hkb : (k : Int) ≤ 96000 := by omega
          clear hcell hx hun hk
          cases hp : plc U k
          · rw [hp] at KI a3
            simp only [Bool.toNat_false, Nat.add_zero] at a3
            have hcj : (c : Int) - 1 = (j : Int) := by omega
            rw [hcj]
            clear hp a1 a2 a3 hj hck HC
            go_wp2_with fail
            refine KI.mono ?_
            rintro e w5 ⟨rfl, hb5⟩
            have HB5 := hid13 (keepb hb5 HS.out.2)
            have HO5 := hid13 (own_b13 hb5 HS.out.1)
            clear hb5 HS KI
            have r1 := keepc HB5.out HX.out
            have hf := HO5.out.frozenAt k
            obtain ⟨u0, hu0⟩ : ∃ u, w5.cell? ⟨w3.heap.size, k, none⟩ = some u := by
              rw [HO5.out.cellAt k (by have := HK.out; omega)]
              have := HO5.out.1
              exact ⟨_, List.getElem?_eq_getElem (by have := HK.out; omega)⟩
            have HN2 : Hid ((w5.setCell ⟨w3.heap.size, k, none⟩ (.int .i64 x)).ownsRow w3.heap.size 3 1 (.slice (some ⟨w3.heap.size, 0, none⟩) N N) N (zrI (unR U L N) N (k + 1)) ∧ Below w.heap.size w (w5.setCell ⟨w3.heap.size, k, none⟩ (.int .i64 x))) := by
              refine ⟨?_, HB5.out.setCell HSZ.out _⟩
              rw [← HZ.out]
              exact (HO5.out.stored k (.int .i64 x)).1
            clear HO5 HB5 HX
            go_wp2
            go_roundg (gk - 1)
            case measure => have := HK.out; omega
            case rel => exact ⟨k + 1, j + 1, by have := HK.out; omega, rfl, congrArg (Value.int .i64) (by push_cast; omega), by have := HK.out; omega, HK.out.2.2.1.symm, HN2⟩
          · rw [hp] at KI a3
            simp only [Bool.toNat_true] at a3
            have hcj : (c : Int) = (j : Int) := by omega
            rw [hcj]
            have mf0 : IntKind.i64.wrap (j : Int) = (j : Int) := by rw [IntKind.wrap_i64]; omega
            have mf : wrap64 (j : Int) = (j : Int) := by rw [IntKind.wrap_i64] at mf0; unfold wrap64; omega
            clear mf0
            clear hp a1 a2 a3 hj hck HC
            go_wp2_with fail
            refine KI.mono ?_
            rintro e w5 ⟨rfl, hb5⟩
            have HB5 := hid13 (keepb hb5 HS.out.2)
            have HO5 := hid13 (own_b13 hb5 HS.out.1)
            clear hb5 HS KI
            have r1 := keepc HB5.out HX.out
            have hf := HO5.out.frozenAt k
            obtain ⟨u0, hu0⟩ : ∃ u, w5.cell? ⟨w3.heap.size, k, none⟩ = some u := by
              rw [HO5.out.cellAt k (by have := HK.out; omega)]
              have := HO5.out.1
              exact ⟨_, List.getElem?_eq_getElem (by have := HK.out; omega)⟩
            have HN2 : Hid ((w5.setCell ⟨w3.heap.size, k, none⟩ (.int .i64 x)).ownsRow w3.heap.size 3 1 (.slice (some ⟨w3.heap.size, 0, none⟩) N N) N (zrI (unR U L N) N (k + 1)) ∧ Below w.heap.size w (w5.setCell ⟨w3.heap.size, k, none⟩ (.int .i64 x))) := by
              refine ⟨?_, HB5.out.setCell HSZ.out _⟩
              rw [← HZ.out]
              exact (HO5.out.stored k (.int .i64 x)).1
            clear HO5 HB5 HX
            go_wp2
            go_roundg (gk - 1)
            case measure => have := HK.out; omega
            case rel => exact ⟨k + 1, j + 1, by have := HK.out; omega, rfl, congrArg (Value.int .i64) (by push_cast; omega), by have := HK.out; omega, HK.out.2.2.1.symm, HN2⟩
        · have hli : ¬ (k : Int) < (N : Int) := by omega
          obtain rfl : k = N := by omega
          have HF : Hid (UnEI w wr U (k : Int) L (.returned (.tuple #[.slice (some ⟨w3.heap.size, 0, none⟩) k k, .int .i64 0]))) := by
            refine .inl ⟨HQ.out, _, rfl, ?_⟩
            have e : zrI (unR U L k) k k = (unR U L k).map cI := by
              unfold zrI
              rw [List.take_of_length_le (by rw [HR.out]; exact Nat.le_refl _), Nat.sub_self]
              simp
            have := HS.out.1
            rw [e] at this
            rw [Int.toNat_natCast]
            exact own_w13 this HSZ.out
          go_wp2_with fail
          exact bodyPost_ret (v := .tuple #[.slice (some ⟨w3.heap.size, 0, none⟩) k k, .int .i64 0]) (by simp [results, Tryd.results6, go_sem]) rfl ⟨HF.out, HS.out.2⟩
    · have HQ := hid13 (HE'.out w3 (fun h => by have := HT.out.2 h.2.2.2; simp at this))
      go_wp2_with fail
      exact bodyPost_ret (v := .tuple #[.slice none 0 0, .int .i64 25]) (by simp [results, Tryd.results6, go_sem]) rfl ⟨HQ.out, HB3.out⟩
  · have HQ := hid13 (HE'.out w2 (fun h => hs h.2.2.1))
    have hse : (((sumW U U.length : Nat) : Int) != (L.length : Int)) = true := by simp; omega
    generalize ((sumW U U.length : Nat) : Int) = S at hse
    clear hs
    go_wp2_with fail
    exact bodyPost_ret (v := .tuple #[.slice none 0 0, .int .i64 25]) (by simp [results, Tryd.results6, go_sem]) rfl ⟨HQ.out, HB2.out⟩
end Go.Proofs.YtbamogpbjdobkaaDoor
namespace Go.Proofs.YtbamogpbjdobkaaDoor
open Go.RowKit
set_option linter.unusedSimpArgs false
set_option linter.unusedVariables false

def cS (x : List UInt8) : Value := .string ⟨x.toArray⟩
theorem catchS13 (p : Addr) (w : World) :
    CallsD Tryd.prog 24 #[.pointer (some p)] .returning w fun e u' w' => e = .returned (.tuple #[]) ∧ u' = .returning ∧ w' = w := by
  refine callsD_of_wpS Tryd.func24 rfl fun c₀ cs hu => ?_
  apply wpS_seq
  apply wpS_region
  simp [wpOpsS, go_sem, recoverD, hu, Tryd.ntmps24, Exit.thenS]
  refine wpS_cond (t := false) (by simp [Act.eval, Array.replicate]) ?_
  simp only [Bool.false_eq_true, if_false]
  refine wpS_of_wp (wp_skip ?_)
  cases c₀
  simp_all [bodyPostS, results, Tryd.results24]
theorem sameS_any (a b : List UInt8) (w : World) :
    Calls Tryd.prog 20 #[.string ⟨a.toArray⟩, .string ⟨b.toArray⟩] w fun e w' => e = .returned (.bool (a == b)) ∧ Below w.heap.size w w' := by
  have hmf : ∀ (fn : Fn) (first cap : Array Value) (w : World), (Instr.makeFunc fn first cap).run Tryd.prog w = .ok (.func fn first cap) w := fun _ _ _ _ => rfl
  go_enter_defers Tryd.func20, Tryd.ntmps20
  go_wp2
  refine leaves_cons (f := 24) (args := #[.pointer (some ⟨w.heap.size, 0, none⟩)]) (by simp) (by simp [go_sem]) ?_
  refine (catchS13 ⟨w.heap.size, 0, none⟩ _).mono ?_
  rintro e u' w'' ⟨rfl, rfl, rfl⟩
  have hb : Below w.heap.size w (w.alloc (.cells #[.bool (a == b)] 4)) := bl1 w _
  simp [Leaves, settle, results, Tryd.results20, go_sem]
  exact hb
end Go.Proofs.YtbamogpbjdobkaaDoor
namespace Go.Proofs.YtbamogpbjdobkaaDoor
open Go.RowKit
set_option linter.unusedSimpArgs false
set_option linter.unusedVariables false

theorem Tryd.infoS13 : (Tryd.prog.info? 9).map (fun i => (i.zero, i.size, i.bytes)) = some (some (.string ⟨#[]⟩), 1, 16) := by kernel_rfl
structure FoS (w W : World) (nw : Nat) (vf : Value) (U : List (BitVec 32)) (R : List (List UInt8)) : Prop where
  b : Below w.heap.size w W
  m : W.ownsRow w.heap.size 42 1 (.slice (some ⟨w.heap.size, 0, none⟩) nw nw) nw (U.map cU)
  r : W.ownsRow (w.heap.size + 1) 9 1 vf R.length (R.map cS)
  s : w.heap.size + 1 ≤ W.heap.size
section
variable {w W W' : World} {nw : Nat} {vf : Value} {U : List (BitVec 32)} {R : List (List UInt8)}
theorem FoS.below (h : FoS w W nw vf U R) (hb : Below W.heap.size W W') : FoS w W' nw vf U R :=
  ⟨keepb hb h.b, own_b13 hb h.m, own_b13 hb h.r, Nat.le_trans h.s hb.size⟩
theorem FoS.ul (h : FoS w W nw vf U R) : U.length = nw := by have := h.m.1; simpa using this
theorem FoS.cell (h : FoS w W nw vf U R) (k : Nat) (hk : k / 32 < nw) : W.cell? ⟨w.heap.size, k / 32, none⟩ = some (.int .u32 (uI (U.getD (k / 32) 0#32))) ∧ W.frozen? ⟨w.heap.size, k / 32, none⟩ = false := by
  have hl := h.ul
  refine ⟨?_, h.m.frozenAt _⟩
  rw [h.m.cellAt (k / 32) (by omega), List.getElem?_map, List.getD_eq_getElem?_getD, List.getElem?_eq_getElem (by omega)]
  rfl
theorem FoS.set (h : FoS w W nw vf U R) (k : Nat) (hk : k / 32 < nw) : FoS w (W.setCell ⟨w.heap.size, k / 32, none⟩ (.int .u32 (uI (U.getD (k / 32) 0#32 ||| (cOne >>> (k % 32)))))).drew nw vf (setP U k) R := by
  have hs := (h.m.stored (k / 32) (.int .u32 (uI (U.getD (k / 32) 0#32 ||| (cOne >>> (k % 32)))))).1
  have e : (setP U k).map cU = (U.map cU).set (k / 32) (.int .u32 (uI (U.getD (k / 32) 0#32 ||| (cOne >>> (k % 32))))) := by
    unfold setP
    rw [List.map_set]; rfl
  refine ⟨(h.b.setCell (Nat.le_refl _) _).drew, ?_, ?_, ?_⟩
  · rw [e]; exact own_b13 (below_drewN (Below.refl _ _) 1) hs
  · exact own_b13 (below_drewN (Below.refl _ _) 1) (ownsRow_setCell_below h.r (Nat.lt_succ_self _) _)
  · have : (W.setCell ⟨w.heap.size, k / 32, none⟩ (.int .u32 (uI (U.getD (k / 32) 0#32 ||| (cOne >>> (k % 32)))))).drew.heap.size = W.heap.size := by simp [World.setCell, World.drew]
    rw [this]; exact h.s
theorem FoS.grown (h : FoS w W nw vf U R) {v' : Value} {x : (List UInt8)} (ho : W'.ownsRow (w.heap.size + 1) 9 1 v' (R.length + 1) (R.map cS ++ [cS x])) (hg : W.grownBy W' vf.ownBlock) : FoS w W' nw v' U (R ++ [x]) := by
  refine ⟨h.b.grown hg (by have := h.s; omega) (fun k e => by have := (h.r.lt k e).1; omega), h.m.kept hg ?_, ?_, Nat.le_trans h.s hg.size⟩
  · cases e : vf.ownBlock with
    | none => exact .inr (by simp [Value.ownBlock])
    | some k => exact .inr (by have := (h.r.lt k e).1; simp only [Value.ownBlock, ne_eq, Option.some.injEq]; omega)
  · rw [List.length_append, List.map_append]
    exact ho
end
set_option maxRecDepth 100000 in
set_option maxHeartbeats 16000000 in
theorem foldS_any (v : Value) (l : List (List UInt8)) (w : World) (hv : RwX cS w v l) (hl : l.length * 16 ≤ 140737488355328) :
    Calls Tryd.prog 9 #[v] w fun e w' => ∃ vf, e = .returned (.tuple #[.slice (some ⟨w.heap.size, 0, none⟩) ((l.length + 31) / 32) ((l.length + 31) / 32), vf]) ∧ FoS w w' ((l.length + 31) / 32) vf (fdU l l.length) (fdR l l.length) := by
  obtain ⟨ao, cc, rfl, hc, hv⟩ := hv
  obtain ⟨i0, hi, hz0, hz1, hz2⟩ := info13 Tryd.infoU13
  obtain ⟨j0, ji, jz0, jz1, jz2⟩ := info13 Tryd.infoS13
  obtain ⟨nw, hnw⟩ : ∃ nw, nw = (l.length + 31) / 32 := ⟨_, rfl⟩
  have hwd := words13 l.length (by omega)
  rw [← hnw] at hwd ⊢
  have HV := hid13 hv
  have HL := hid13 hl
  have HW := hid13 hnw
  have hby : i0.bytes * nw ≤ 281474976710656 := by rw [hz2]; omega
  have hmx : nw ≤ maxLen := by unfold maxLen; omega
  clear hv hc hnw hl
  go_enter Tryd.func9, Tryd.ntmps9
  go_wp2_with (first | (go_at_call 13; refine (hwd _).mono ?_; rintro e w1 ⟨rfl, hw1⟩; replace hw1 := hw1.symm; subst hw1) | (at_make; apply stopHere9))
  refine (show wpList _ _ _ _ _ _ from ?_)
  refine wpList_make_full _ rfl _ _ 24 rfl w.heap.size 42 i0 (.int .u32 0) 1 Tryd.underlying24 hi hz0 hz1 .i64 .i64 _ _ nw rfl rfl rfl rfl hby hmx (Nat.le_refl _) ?_
  intro w2 hown2 hgrow
  have HS0 : Hid (FoS w w2 nw (.slice none 0 0) (fdU l 0) (fdR l 0)) := by
    refine ⟨(Below.refl _ _).grown hgrow (Nat.le_refl _) (fun z hz => by cases hz), ?_, World.ownsRow_nil _ _ _ _, ?_⟩
    · have e : (fdU l 0).map cU = (madeCells (Value.int .u32 0).cells (nw * 1)).toList := by
        show _ = (madeCells #[Value.int .u32 0] (nw * 1)).toList
        rw [toList_madeCells_one, Nat.mul_one]
        simp only [fdU]
        rw [List.map_replicate, ← HW.out]
        unfold cU
        rw [uI_zero]
      rw [e]; exact hown2
    · have := (hown2.lt w.heap.size rfl).2; omega
  clear hown2 hgrow hby hwd
  go_wp2_with fail
  go_loopg [5, 6, 7, 14] l.length (fun g vf i6 x7 i wr => ∃ (k : Nat) (U : List (BitVec 32)) (R : List (List UInt8)), k + g = l.length ∧ i = .int .i64 (k : Int) ∧ Hid (FoS w wr nw vf U R) ∧ Hid (U = fdU l k ∧ R = fdR l k))
  case atStart => exact ⟨0, _, _, by omega, rfl, HS0, rfl, rfl⟩
  case round =>
    clear HS0
    obtain ⟨k, U, R, hk, rfl, HS, HE⟩ := hrel
    by_cases hlt : k < l.length
    · have hli : (k : Int) < (l.length : Int) := by omega
      obtain ⟨bo, off, rfl, hcell⟩ : ∃ bo off, ao = some ⟨bo, off, none⟩ ∧ ∀ j x, l[j]? = some x → w.cell? ⟨bo, off + j, none⟩ = some (cS x) := by
        rcases HV.out with h | h
        · rw [h] at hlt; simp at hlt
        · exact h
      have HR : Hid (R.length < l.length ∧ l.length * 16 ≤ 140737488355328) := by
        have := fdR_len l k
        rw [← HE.out.2] at this
        exact ⟨by omega, HL.out⟩
      have hq : k / 32 < nw := by have := HW.out; omega
      have hq2 : k < nw * 32 := by omega
      have hn2 : nw ≤ 140737488355328 := by have := HW.out; have := HL.out; omega
      obtain ⟨x, hx⟩ : ∃ x, l[k]? = some x := ⟨l[k], by simp [hlt]⟩
      have hrd : wr.cell? ⟨bo, off + k, none⟩ = some (.string ⟨(x).toArray⟩) := keepc HS.out.b (hcell k x hx)
      have mk : IntKind.i64.wrap ((k : Int) + 1) = (k : Int) + 1 := by have := HL.out; rw [IntKind.wrap_i64]; omega
      have HX := hid13 hx
      have HK : Hid (k + gk = l.length ∧ k < l.length) := ⟨hk, hlt⟩
      have HC := hid13 hcell
      clear hx hcell
      by_cases k0 : k = 0
      · subst k0
        rw [Nat.add_zero] at hrd
        have hfy := hid13 (fd_yes l 0 x HX.out (flg_zero l))
        have HS1 := HS
        clear HS
        go_wp2_with (first | (go_at_call 15; refine (set_any w.heap.size nw nw (0) _ _ hq2 hn2 (HS1.out.cell (0) hq).1 (HS1.out.cell (0) hq).2).mono ?_; rintro e w3 ⟨rfl, hw3⟩; have HH := hid13 (HS1.out.set (0) hq); rw [← hw3] at HH; clear hw3 HS1) | (at_builtin; apply stopHere9))
        refine (show wpList _ _ _ _ _ _ from ?_)
        have h63 : R.length + 1 ≤ maxLen := by have := HR.out; unfold maxLen; omega
        have h47 : (R.length + 1) * 16 ≤ 140737488355328 := by have := HR.out; omega
        have q9 := bl1 w3 (.cells #[.string ⟨(x).toArray⟩] 9)
        have HO9 := hid13 (own_b13 q9 HH.out.r)
        have HB9 := hid13 (keepb q9 HH.out.b)
        have HS9 : Hid (w.heap.size + 1 ≤ (w3.alloc (.cells #[.string ⟨(x).toArray⟩] 9)).heap.size) := hid13 (Nat.le_trans HH.out.s q9.size)
        refine wpList_append_lies _ rfl _ _ 32 rfl (w.heap.size + 1) 9 j0 (.string ⟨#[]⟩) 1 16 Tryd.underlying32 ji jz0 jz1 jz2 rfl (by decide) _ _ _ rfl HO9.out ⟨w3.heap.size, 0, none⟩ 1 1 [.string ⟨(x).toArray⟩] rfl rfl (news13 (by simp [go_sem])) (by intro u hu; simp at hu; subst hu; rfl) (by decide) h63 h47 HS9.out _ rfl ?_
        intro g4 cap4 w4 hown4 hgrow hat hlt4
        have HZ := hid13 ((HH.out.below q9).grown hown4 hgrow)
        clear hgrow hat hown4 hlt4 h63 h47 q9 HO9 HB9 HS9 HH
        go_wp2
        go_roundg (gk - 1)
        case measure => have := HK.out; omega
        case rel => exact ⟨1, _, _, by have := HK.out; omega, rfl, HZ, by rw [hfy.out.1, HE.out.1], by rw [hfy.out.2, HE.out.2]⟩
      · obtain ⟨j, rfl⟩ : ∃ j, k = j + 1 := ⟨k - 1, by omega⟩
        obtain ⟨y, hy⟩ : ∃ y, l[j]? = some y := ⟨l[j], by simp [show j < l.length by omega]⟩
        have hrd1 : wr.cell? ⟨bo, off + j, none⟩ = some (.string ⟨(y).toArray⟩) := keepc HS.out.b (HC.out j y hy)
        have hfs := hid13 (flg_succ l j x y HX.out hy)
        clear hy k0
        have wm : IntKind.i64.wrap (((j : Int) + 1) - 1) = (j : Int) := by have := HL.out; rw [IntKind.wrap_i64]; omega
        have hj0 : ((j : Int) + 1 == 0) = false := by simp; omega
        by_cases hxy : x = y
        · have hbq : (x == y) = true := by simp [hxy]
          have hfn := hid13 (fd_no l (j + 1) (by rw [hfs.out]; simp [hxy]))
          clear hfs hxy
          go_wp2_with (go_at_call 20; refine (sameS_any x y _).mono ?_; rintro e w1 ⟨rfl, hb1⟩; have HS1 := hid13 (HS.out.below hb1); clear hb1 HS hrd hrd1)
          go_roundg (gk - 1)
          case measure => have := HK.out; omega
          case rel => exact ⟨j + 1 + 1, _, _, by have := HK.out; omega, rfl, HS1, by rw [hfn.out.1, HE.out.1], by rw [hfn.out.2, HE.out.2]⟩
        · have hbq : (x == y) = false := by simp [hxy]
          have hfy := hid13 (fd_yes l (j + 1) x HX.out (by rw [hfs.out]; simp [hxy]))
          clear hfs hxy
          go_wp2_with (first | (go_at_call 20; refine (sameS_any x y _).mono ?_; rintro e w1 ⟨rfl, hb1⟩; have HS1 := hid13 (HS.out.below hb1); clear hb1 HS hrd hrd1) | (go_at_call 15; refine (set_any w.heap.size nw nw (j + 1) _ _ hq2 hn2 (HS1.out.cell (j + 1) hq).1 (HS1.out.cell (j + 1) hq).2).mono ?_; rintro e w3 ⟨rfl, hw3⟩; have HH := hid13 (HS1.out.set (j + 1) hq); rw [← hw3] at HH; clear hw3 HS1) | (at_builtin; apply stopHere9))
          refine (show wpList _ _ _ _ _ _ from ?_)
          have h63 : R.length + 1 ≤ maxLen := by have := HR.out; unfold maxLen; omega
          have h47 : (R.length + 1) * 16 ≤ 140737488355328 := by have := HR.out; omega
          have q9 := bl1 w3 (.cells #[.string ⟨(x).toArray⟩] 9)
          have HO9 := hid13 (own_b13 q9 HH.out.r)
          have HB9 := hid13 (keepb q9 HH.out.b)
          have HS9 : Hid (w.heap.size + 1 ≤ (w3.alloc (.cells #[.string ⟨(x).toArray⟩] 9)).heap.size) := hid13 (Nat.le_trans HH.out.s q9.size)
          refine wpList_append_lies _ rfl _ _ 32 rfl (w.heap.size + 1) 9 j0 (.string ⟨#[]⟩) 1 16 Tryd.underlying32 ji jz0 jz1 jz2 rfl (by decide) _ _ _ rfl HO9.out ⟨w3.heap.size, 0, none⟩ 1 1 [.string ⟨(x).toArray⟩] rfl rfl (news13 (by simp [go_sem])) (by intro u hu; simp at hu; subst hu; rfl) (by decide) h63 h47 HS9.out _ rfl ?_
          intro g4 cap4 w4 hown4 hgrow hat hlt4
          have HZ := hid13 ((HH.out.below q9).grown hown4 hgrow)
          clear hgrow hat hown4 hlt4 h63 h47 q9 HO9 HB9 HS9 HH
          go_wp2
          go_roundg (gk - 1)
          case measure => have := HK.out; omega
          case rel => exact ⟨j + 1 + 1, _, _, by have := HK.out; omega, rfl, HZ, by rw [hfy.out.1, HE.out.1], by rw [hfy.out.2, HE.out.2]⟩
    · have hli : ¬ (k : Int) < (l.length : Int) := by omega
      have e : k = l.length := by omega
      subst e
      have HF : Hid (FoS w wr nw u5 (fdU l l.length) (fdR l l.length)) := by have := HS.out; rw [HE.out.1, HE.out.2] at this; exact this
      go_wp2_with fail
      exact bodyPost_ret (v := .tuple #[.slice (some ⟨w.heap.size, 0, none⟩) nw nw, u5]) (by simp [results, Tryd.results9, go_sem]) rfl ⟨_, rfl, HF.out⟩
end Go.Proofs.YtbamogpbjdobkaaDoor
