/-
  What package wire's hasTwins and Unfold at string do.
-/
import Derived.Test.YtbamogpbjdobkaaDoorN13
import Derived.Test.YtbamogpbjdobkaaDoorG13S
import Derived.Test.YtbamogpbjdobkaaDoorQw
namespace Go.Proofs.YtbamogpbjdobkaaDoor
open Go.RowKit
set_option linter.unusedSimpArgs false
set_option linter.unusedVariables false

def TwQS (L : List (List UInt8)) (e : Ending) : Prop := ∃ b, e = .returned (.bool b) ∧ (b = false ↔ NoTw L)
set_option maxRecDepth 100000 in
set_option maxHeartbeats 8000000 in
theorem twinsS_any (v : Value) (L : List (List UInt8)) (w : World) (hv : RwX cS w v L) (hl : L.length ≤ 9223372036854775806) :
    Calls Tryd.prog 21 #[v] w fun e w' => TwQS L e ∧ Below w.heap.size w w' := by
  obtain ⟨ao, cc, rfl, -, hv⟩ := hv
  have HV := hid13 hv
  have HL := hid13 hl
  have HB := hid13 (Below.refl w.heap.size w)
  clear hv hl
  go_enter Tryd.func21, Tryd.ntmps21
  go_wp2_with fail
  go_loopg [3] (L.length + 1) (fun g i wr => ∃ k : Nat, 1 ≤ k ∧ k + g = L.length + 2 ∧ i = .int .i64 (k : Int) ∧ Hid (Below w.heap.size w wr) ∧ Hid (∀ j, j + 1 < k → L[j]? ≠ L[j + 1]? ∨ L[j + 1]? = none))
  case atStart => exact ⟨1, by omega, by omega, rfl, HB, fun j hj => by omega⟩
  case round =>
    clear HB
    obtain ⟨k, hk1, hk, rfl, HB, HN⟩ := hrel
    by_cases hlt : k < L.length
    · have hli : (k : Int) < (L.length : Int) := by omega
      obtain ⟨bo, off, rfl, hcell⟩ : ∃ bo off, ao = some ⟨bo, off, none⟩ ∧ ∀ j x, L[j]? = some x → w.cell? ⟨bo, off + j, none⟩ = some (cS x) := by
        rcases HV.out with h | h
        · rw [h] at hlt; simp at hlt
        · exact h
      obtain ⟨j, hj⟩ : ∃ j, k = j + 1 := ⟨k - 1, by omega⟩
      obtain ⟨x, hx⟩ : ∃ x, L[k]? = some x := ⟨L[k], by simp [hlt]⟩
      obtain ⟨y, hy⟩ : ∃ y, L[j]? = some y := ⟨L[j], by simp [show j < L.length by omega]⟩
      have r1 : wr.cell? ⟨bo, off + k, none⟩ = some (.string ⟨(x).toArray⟩) := keepc HB.out (hcell k x hx)
      have r2 : wr.cell? ⟨bo, off + j, none⟩ = some (.string ⟨(y).toArray⟩) := keepc HB.out (hcell j y hy)
      have hj1 : (k : Int) - 1 = (j : Int) := by omega
      have hji : (j : Int) < (L.length : Int) := by omega
      have mk : IntKind.i64.wrap ((k : Int) + 1) = (k : Int) + 1 := by have := HL.out; rw [IntKind.wrap_i64]; omega
      have mj : IntKind.i64.wrap (j : Int) = (j : Int) := by have := HL.out; rw [IntKind.wrap_i64]; omega
      have HK : Hid (k + gk = L.length + 2 ∧ k < L.length ∧ 1 ≤ k ∧ k = j + 1 ∧ L[k]? = some x ∧ L[j]? = some y) := ⟨hk, hlt, hk1, hj, hx, hy⟩
      have KS := fun W => sameS_any y x W
      clear hcell hx hy hk hj hk1
      by_cases hxy : y = x
      · have hbq : (y == x) = true := by simp [hxy]
        rw [hbq] at KS
        have HT : Hid (¬ NoTw L) := by
          intro h
          obtain ⟨-, -, -, e, a, b⟩ := HK.out
          rw [e] at a
          exact h j y x b a hxy
        clear hxy hbq HN
        go_wp2_with fail
        refine qw_region (C := fun W => W.cell? ⟨bo, off + j, none⟩ = some (.string ⟨(y).toArray⟩) ∧ W.cell? ⟨bo, off + k, none⟩ = some (.string ⟨(x).toArray⟩) ∧ Below w.heap.size w W) (by kernel_rfl) (by kernel_rfl) ⟨r2, r1, HB.out.drew⟩ ?_
        clear r1 r2
        refine qw_run (v := .slice (some ⟨bo, off, none⟩) L.length cc) (by rfl) ?_ ?_
        · (intro w9 hC; clear hC; go_simp; first | done | (simp; done) | (simp [*]; done) | omega | (simp; omega) | (rw [IntKind.wrap_i64]; omega) | rfl)
        simp only [Act.put, List.setIfInBounds_toArray, List.set_cons_zero, List.set_cons_succ]
        refine qw_run (v := .int .i64 (k : Int)) (by rfl) ?_ ?_
        · (intro w9 hC; clear hC; go_simp; first | done | (simp; done) | (simp [*]; done) | omega | (simp; omega) | (rw [IntKind.wrap_i64]; omega) | rfl)
        simp only [Act.put, List.setIfInBounds_toArray, List.set_cons_zero, List.set_cons_succ]
        refine qw_run (v := .int .i64 (j : Int)) (by rfl) ?_ ?_
        · (intro w9 hC; clear hC; go_simp; first | done | (simp; done) | (simp [*]; done) | omega | (simp; omega) | (rw [IntKind.wrap_i64]; omega) | rfl)
        simp only [Act.put, List.setIfInBounds_toArray, List.set_cons_zero, List.set_cons_succ]
        refine qw_run (v := .pointer (some ⟨bo, off + j, none⟩)) (by rfl) ?_ ?_
        · (intro w9 hC; clear hC; go_simp; first | done | (simp; done) | (simp [*]; done) | omega | (simp; omega) | (rw [IntKind.wrap_i64]; omega) | rfl)
        simp only [Act.put, List.setIfInBounds_toArray, List.set_cons_zero, List.set_cons_succ]
        refine qw_run (v := .string ⟨(y).toArray⟩) (by rfl) ?_ ?_
        · (intro w9 hC; have f0 := hC.1; clear hC; go_simp; first | done | (simp; done) | (simp [*]; done) | omega | (simp; omega) | (rw [IntKind.wrap_i64]; omega) | rfl)
        simp only [Act.put, List.setIfInBounds_toArray, List.set_cons_zero, List.set_cons_succ]
        refine qw_run (v := .slice (some ⟨bo, off, none⟩) L.length cc) (by rfl) ?_ ?_
        · (intro w9 hC; clear hC; go_simp; first | done | (simp; done) | (simp [*]; done) | omega | (simp; omega) | (rw [IntKind.wrap_i64]; omega) | rfl)
        simp only [Act.put, List.setIfInBounds_toArray, List.set_cons_zero, List.set_cons_succ]
        refine qw_run (v := .int .i64 (k : Int)) (by rfl) ?_ ?_
        · (intro w9 hC; clear hC; go_simp; first | done | (simp; done) | (simp [*]; done) | omega | (simp; omega) | (rw [IntKind.wrap_i64]; omega) | rfl)
        simp only [Act.put, List.setIfInBounds_toArray, List.set_cons_zero, List.set_cons_succ]
        refine qw_run (v := .pointer (some ⟨bo, off + k, none⟩)) (by rfl) ?_ ?_
        · (intro w9 hC; clear hC; go_simp; first | done | (simp; done) | (simp [*]; done) | omega | (simp; omega) | (rw [IntKind.wrap_i64]; omega) | rfl)
        simp only [Act.put, List.setIfInBounds_toArray, List.set_cons_zero, List.set_cons_succ]
        refine qw_run (v := .string ⟨(x).toArray⟩) (by rfl) ?_ ?_
        · (intro w9 hC; have f0 := hC.2.1; clear hC; go_simp; first | done | (simp; done) | (simp [*]; done) | omega | (simp; omega) | (rw [IntKind.wrap_i64]; omega) | rfl)
        simp only [Act.put, List.setIfInBounds_toArray, List.set_cons_zero, List.set_cons_succ]
        refine qw_call (v := .bool true) (f := 20) (args := #[.string ⟨(y).toArray⟩, .string ⟨(x).toArray⟩]) (by rfl) ?_ ?_ ?_
        · (intro w9 hC; clear hC; go_simp)
        · exact fun w9 hC => (KS w9).mono fun e w' ⟨he, hb⟩ => ⟨he, keepc hb hC.1, keepc hb hC.2.1, keepb hb hC.2.2⟩
        simp only [Act.put, List.setIfInBounds_toArray, List.set_cons_zero, List.set_cons_succ]
        refine qw_nil ?_
        intro W1 hC
        have HB2 := hid13 hC.2.2
        clear hC
        go_wp2
        go_ret
        exact ⟨⟨true, rfl, (fun h => by cases h), (fun h => absurd h HT.out)⟩, HB2.out⟩
      · have hbq : (y == x) = false := by simp [hxy]
        rw [hbq] at KS
        have HN2 : Hid (∀ j, j + 1 < k + 1 → L[j]? ≠ L[j + 1]? ∨ L[j + 1]? = none) := by
          intro i hi
          obtain ⟨-, -, -, e, a, b⟩ := HK.out
          by_cases c : i + 1 < k
          · exact HN.out i c
          · obtain rfl : i = j := by omega
            rw [← e, a, b]
            exact .inl (fun q => hxy (Option.some.inj q))
        clear hxy hbq HN
        go_wp2_with fail
        refine qw_region (C := fun W => W.cell? ⟨bo, off + j, none⟩ = some (.string ⟨(y).toArray⟩) ∧ W.cell? ⟨bo, off + k, none⟩ = some (.string ⟨(x).toArray⟩) ∧ Below w.heap.size w W) (by kernel_rfl) (by kernel_rfl) ⟨r2, r1, HB.out.drew⟩ ?_
        clear r1 r2
        refine qw_run (v := .slice (some ⟨bo, off, none⟩) L.length cc) (by rfl) ?_ ?_
        · (intro w9 hC; clear hC; go_simp; first | done | (simp; done) | (simp [*]; done) | omega | (simp; omega) | (rw [IntKind.wrap_i64]; omega) | rfl)
        simp only [Act.put, List.setIfInBounds_toArray, List.set_cons_zero, List.set_cons_succ]
        refine qw_run (v := .int .i64 (k : Int)) (by rfl) ?_ ?_
        · (intro w9 hC; clear hC; go_simp; first | done | (simp; done) | (simp [*]; done) | omega | (simp; omega) | (rw [IntKind.wrap_i64]; omega) | rfl)
        simp only [Act.put, List.setIfInBounds_toArray, List.set_cons_zero, List.set_cons_succ]
        refine qw_run (v := .int .i64 (j : Int)) (by rfl) ?_ ?_
        · (intro w9 hC; clear hC; go_simp; first | done | (simp; done) | (simp [*]; done) | omega | (simp; omega) | (rw [IntKind.wrap_i64]; omega) | rfl)
        simp only [Act.put, List.setIfInBounds_toArray, List.set_cons_zero, List.set_cons_succ]
        refine qw_run (v := .pointer (some ⟨bo, off + j, none⟩)) (by rfl) ?_ ?_
        · (intro w9 hC; clear hC; go_simp; first | done | (simp; done) | (simp [*]; done) | omega | (simp; omega) | (rw [IntKind.wrap_i64]; omega) | rfl)
        simp only [Act.put, List.setIfInBounds_toArray, List.set_cons_zero, List.set_cons_succ]
        refine qw_run (v := .string ⟨(y).toArray⟩) (by rfl) ?_ ?_
        · (intro w9 hC; have f0 := hC.1; clear hC; go_simp; first | done | (simp; done) | (simp [*]; done) | omega | (simp; omega) | (rw [IntKind.wrap_i64]; omega) | rfl)
        simp only [Act.put, List.setIfInBounds_toArray, List.set_cons_zero, List.set_cons_succ]
        refine qw_run (v := .slice (some ⟨bo, off, none⟩) L.length cc) (by rfl) ?_ ?_
        · (intro w9 hC; clear hC; go_simp; first | done | (simp; done) | (simp [*]; done) | omega | (simp; omega) | (rw [IntKind.wrap_i64]; omega) | rfl)
        simp only [Act.put, List.setIfInBounds_toArray, List.set_cons_zero, List.set_cons_succ]
        refine qw_run (v := .int .i64 (k : Int)) (by rfl) ?_ ?_
        · (intro w9 hC; clear hC; go_simp; first | done | (simp; done) | (simp [*]; done) | omega | (simp; omega) | (rw [IntKind.wrap_i64]; omega) | rfl)
        simp only [Act.put, List.setIfInBounds_toArray, List.set_cons_zero, List.set_cons_succ]
        refine qw_run (v := .pointer (some ⟨bo, off + k, none⟩)) (by rfl) ?_ ?_
        · (intro w9 hC; clear hC; go_simp; first | done | (simp; done) | (simp [*]; done) | omega | (simp; omega) | (rw [IntKind.wrap_i64]; omega) | rfl)
        simp only [Act.put, List.setIfInBounds_toArray, List.set_cons_zero, List.set_cons_succ]
        refine qw_run (v := .string ⟨(x).toArray⟩) (by rfl) ?_ ?_
        · (intro w9 hC; have f0 := hC.2.1; clear hC; go_simp; first | done | (simp; done) | (simp [*]; done) | omega | (simp; omega) | (rw [IntKind.wrap_i64]; omega) | rfl)
        simp only [Act.put, List.setIfInBounds_toArray, List.set_cons_zero, List.set_cons_succ]
        refine qw_call (v := .bool false) (f := 20) (args := #[.string ⟨(y).toArray⟩, .string ⟨(x).toArray⟩]) (by rfl) ?_ ?_ ?_
        · (intro w9 hC; clear hC; go_simp)
        · exact fun w9 hC => (KS w9).mono fun e w' ⟨he, hb⟩ => ⟨he, keepc hb hC.1, keepc hb hC.2.1, keepb hb hC.2.2⟩
        simp only [Act.put, List.setIfInBounds_toArray, List.set_cons_zero, List.set_cons_succ]
        refine qw_nil ?_
        intro W1 hC
        have HB2 := hid13 hC.2.2
        clear hC
        go_wp2
        go_roundg (gk - 1)
        case measure => have := HK.out; omega
        case rel => exact ⟨k + 1, by omega, by have := HK.out; omega, rfl, HB2, HN2⟩
    · have hli : ¬ (k : Int) < (L.length : Int) := by omega
      have HT : Hid (NoTw L) := by
        intro i x y hx hy
        have hlt2 := (List.getElem?_eq_some_iff.1 hy).1
        rcases HN.out i (by omega) with h | h
        · rw [hx, hy] at h
          exact fun q => h (congrArg some q)
        · rw [h] at hy; cases hy
      go_wp2_with fail
      go_ret
      exact ⟨⟨false, rfl, (fun _ => HT.out), (fun _ => rfl)⟩, HB.out⟩
/-- What Unfold tells. -/
def UnES (w W : World) (U : List (BitVec 32)) (n : Int) (L : List (List UInt8)) (e : Ending) : Prop :=
  (UnQ U n L ∧ ∃ v, e = .returned (.tuple #[v, .int .i64 0]) ∧ W.ownsRow w.heap.size 9 1 v n.toNat ((unR U L n.toNat).map cS)) ∨ (¬ UnQ U n L ∧ e = .returned (.tuple #[.slice none 0 0, .int .i64 (if n < 0 then 1 else 25)]))
def zrS (R : List (List UInt8)) (n k : Nat) : List Value := (R.take k).map cS ++ List.replicate (n - k) (.string ⟨#[]⟩)
theorem zrS_set (R : List (List UInt8)) (n k : Nat) (x : (List UInt8)) (hk : k < n) (hR : R.length = n) (hx : R[k]? = some x) : (zrS R n k).set k (.string ⟨(x).toArray⟩) = zrS R n (k + 1) := by
  unfold zrS
  have hl : ((R.take k).map cS).length = k := by rw [List.length_map, List.length_take]; omega
  rw [List.set_append_right _ _ (by omega), hl, Nat.sub_self]
  obtain ⟨j, hj⟩ : ∃ j, n - k = j + 1 := ⟨n - k - 1, by omega⟩
  obtain ⟨h1, h2⟩ := List.getElem?_eq_some_iff.1 hx
  rw [hj, List.replicate_succ, List.set_cons_zero, show n - (k + 1) = j by omega, List.take_succ_eq_append_getElem h1, List.map_append, h2, List.append_assoc]
  rfl
set_option maxRecDepth 100000 in
set_option maxHeartbeats 16000000 in
theorem unfoldS_any (v lv : Value) (U : List (BitVec 32)) (n : Int) (L : List (List UInt8)) (w : World) (hv : RwX cU w v U) (hL : RwX cS w lv L) (hl : U.length ≤ 3000) (hn0 : -9223372036854775808 ≤ n) (hn1 : n ≤ 9223372036854775807) (hll : L.length ≤ 9223372036854775806) :
    Calls Tryd.prog 10 #[v, .int .i64 n, lv] w fun e w' => UnES w w' U n L e ∧ Below w.heap.size w w' := by
  obtain ⟨j0, ji, jz0, jz1, jz2⟩ := info13 Tryd.infoS13
  have HV := hid13 hv
  have HW := hid13 hL
  have HL : Hid (U.length ≤ 3000 ∧ L.length ≤ 9223372036854775806) := ⟨hl, hll⟩
  obtain ⟨ao, cc, hvf, -, -⟩ := id hv
  obtain ⟨lo, lc, hlf, -, hlc⟩ := id hL
  subst hvf hlf
  by_cases hneg : n < 0
  · have HQ : Hid (UnES w w U n L (.returned (.tuple #[.slice none 0 0, .int .i64 1]))) := .inr ⟨fun h => by have := h.1; omega, by rw [if_pos hneg]⟩
    go_enter Tryd.func10, Tryd.ntmps10
    go_wp2_with fail
    exact bodyPost_ret (v := .tuple #[.slice none 0 0, .int .i64 1]) (by simp [results, Tryd.results10, go_sem]) rfl ⟨HQ.out, Below.refl _ _⟩
  obtain ⟨N, rfl⟩ : ∃ N : Nat, n = (N : Int) := ⟨n.toNat, by omega⟩
  have HE : ∀ W, ¬ UnQ U (N : Int) L → UnES w W U (N : Int) L (.returned (.tuple #[.slice none 0 0, .int .i64 25])) := fun W h => .inr ⟨h, by rw [if_neg hneg]⟩
  have HE' := hid13 HE
  have HLC := hid13 hlc
  have HN := hid13 hn1
  clear hv hL hl hn0 hn1 hll HE hlc
  go_enter Tryd.func10, Tryd.ntmps10
  go_wp2_with fail
  refine (isMap_any _ U N w HV.out (by have := HN.out; omega) (by have := HL.out; omega)).mono ?_
  rintro e w1 ⟨⟨b1, rfl, hb1⟩, hbl1⟩
  have HB1 := hid13 hbl1
  have HM := hid13 hb1
  clear hbl1 hb1
  cases b1
  · have HQ := hid13 (HE'.out w1 (fun h => by have := HM.out.2 h.2.1; simp at this))
    go_wp2_with fail
    exact bodyPost_ret (v := .tuple #[.slice none 0 0, .int .i64 25]) (by simp [results, Tryd.results10, go_sem]) rfl ⟨HQ.out, HB1.out⟩
  go_wp2_with fail
  refine (ones_any _ U w1 (HV.out.below HB1.out) (by have := HL.out; omega)).mono ?_
  rintro e w2 ⟨rfl, hbl2⟩
  have HB2 := hid13 (keepb hbl2 HB1.out)
  clear hbl2 HB1
  by_cases hs : sumW U U.length = L.length
  · rw [hs]
    have hse : ((L.length : Int) != (L.length : Int)) = false := by simp
    have HS := hid13 hs
    clear hs
    go_wp2_with fail
    refine (twinsS_any _ L w2 (HW.out.below HB2.out) HL.out.2).mono ?_
    rintro e w3 ⟨⟨b3, rfl, hb3⟩, hbl3⟩
    have HB3 := hid13 (keepb hbl3 HB2.out)
    have HT := hid13 hb3
    clear hbl3 hb3 HB2
    cases b3
    · have HQ : Hid (UnQ U (N : Int) L) := ⟨by omega, by have := HM.out; simpa using this, HS.out, by have := HT.out; simpa using this⟩
      have hN : N ≤ 96000 := by have h1 := HQ.out.2.1.1; rw [Int.toNat_natCast] at h1; have := HL.out; omega
      have hby : j0.bytes * N ≤ 281474976710656 := by rw [jz2]; omega
      have HR : Hid ((unR U L N).length = N) := by have := unR_len HQ.out N (by rw [Int.toNat_natCast]; exact Nat.le_refl _); exact this
      have HNl : Hid (N ≤ 32 * U.length) := by have h1 := HQ.out.2.1.1; rw [Int.toNat_natCast] at h1; show _ ≤ _; omega
      clear HM HT HS HE' HN
      go_wp2_with (at_make; apply stopHere9)
      refine (show wpList _ _ _ _ _ _ from ?_)
      refine wpList_make_full _ rfl _ _ 32 rfl w3.heap.size 9 j0 (.string ⟨#[]⟩) 1 Tryd.underlying32 ji jz0 jz1 .i64 .i64 _ _ N rfl rfl rfl rfl hby (by unfold maxLen; omega) (Nat.le_refl _) ?_
      intro w4 ho4 hgrow
      have HB4 := hid13 (HB3.out.grown hgrow HB3.out.size (fun z hz => by cases hz))
      have HO4 : Hid (w4.ownsRow w3.heap.size 9 1 (.slice (some ⟨w3.heap.size, 0, none⟩) N N) N (zrS (unR U L N) N 0)) := by
        have e : zrS (unR U L N) N 0 = (madeCells (Value.cells (.string ⟨#[]⟩)) (N * 1)).toList := by
          show _ = (madeCells #[.string ⟨#[]⟩] (N * 1)).toList
          rw [toList_madeCells_one, Nat.mul_one]
          unfold zrS
          rw [List.take_zero]
          rfl
        rw [e]; exact ho4
      have HSZ := hid13 HB3.out.size
      clear ho4 hgrow hby HB3
      go_wp2_with fail
      go_loopg [9, 10, 32] N (fun g fr i10 i wr => ∃ (k : Nat) (c : Nat), k + g = N ∧ i = .int .i64 (k : Int) ∧ fr = .int .i64 ((c : Int) - 1) ∧ c ≤ k ∧ Hid (c = cnt U k) ∧ Hid (wr.ownsRow w3.heap.size 9 1 (.slice (some ⟨w3.heap.size, 0, none⟩) N N) N (zrS (unR U L N) N k) ∧ Below w.heap.size w wr))
      case atStart => exact ⟨0, 0, by omega, rfl, rfl, Nat.le_refl _, rfl, HO4.out, HB4.out⟩
      case round =>
        clear HO4 HB4
        obtain ⟨k, c, hk, rfl, rfl, hck, HC, HS⟩ := hrel
        by_cases hlt : k < N
        · have hli : (k : Int) < (N : Int) := by omega
          have KI := isset_any _ U k wr (HV.out.below HS.out.2) (by have := HNl.out; omega) (by have := HL.out; omega)
          obtain ⟨a1, a2⟩ := un_at HQ.out k (by rw [Int.toNat_natCast]; exact hlt)
          have a3 : cnt U (k + 1) = c + (plc U k).toNat := by simp only [cnt]; rw [HC.out]
          have hLne : 0 < L.length := by omega
          obtain ⟨bo, off, rfl, hcell⟩ : ∃ bo off, lo = some ⟨bo, off, none⟩ ∧ ∀ j x, L[j]? = some x → w.cell? ⟨bo, off + j, none⟩ = some (cS x) := by
            rcases HLC.out with h | h
            · rw [h] at hLne; simp at hLne
            · exact h
          obtain ⟨j, hj⟩ : ∃ j, cnt U (k + 1) = j + 1 := ⟨cnt U (k + 1) - 1, by omega⟩
          obtain ⟨x, hx⟩ : ∃ x, L[j]? = some x := ⟨L[j], by simp [show j < L.length by omega]⟩
          have hun : (unR U L N)[k]? = some x := by
            have := unR_get HQ.out k (by rw [Int.toNat_natCast]; exact hlt)
            rw [Int.toNat_natCast, hj, Nat.add_sub_cancel, hx] at this
            exact this
          have HZ := hid13 (zrS_set (unR U L N) N k x hlt HR.out hun)
          have HX : Hid (w.cell? ⟨bo, off + j, none⟩ = some (.string ⟨(x).toArray⟩)) := hcell j x hx
          have hji : (j : Int) < (L.length : Int) := by omega
          have mk : IntKind.i64.wrap ((k : Int) + 1) = (k : Int) + 1 := by rw [IntKind.wrap_i64]; omega
          have HK : Hid (k + gk = N ∧ k < N ∧ cnt U (k + 1) = j + 1 ∧ j ≤ k) := ⟨hk, hlt, hj, by have := cnt_le U (k + 1); omega⟩
          have hkb : (k : Int) ≤ 96000 := by omega
          clear hcell hx hun hk
          cases hp : plc U k
          · rw [hp] at KI a3
            simp only [Bool.toNat_false, Nat.add_zero] at a3
            have hcj : (c : Int) - 1 = (j : Int) := by omega
            rw [hcj]
            clear hp a1 a2 a3 hj hck HC
            go_wp2_with fail
            refine KI.mono ?_
            rintro e w5 ⟨rfl, hb5⟩
            have HB5 := hid13 (keepb hb5 HS.out.2)
            have HO5 := hid13 (own_b13 hb5 HS.out.1)
            clear hb5 HS KI
            have r1 := keepc HB5.out HX.out
            have hf := HO5.out.frozenAt k
            obtain ⟨u0, hu0⟩ : ∃ u, w5.cell? ⟨w3.heap.size, k, none⟩ = some u := by
              rw [HO5.out.cellAt k (by have := HK.out; omega)]
              have := HO5.out.1
              exact ⟨_, List.getElem?_eq_getElem (by have := HK.out; omega)⟩
            have HN2 : Hid ((w5.setCell ⟨w3.heap.size, k, none⟩ (.string ⟨(x).toArray⟩)).ownsRow w3.heap.size 9 1 (.slice (some ⟨w3.heap.size, 0, none⟩) N N) N (zrS (unR U L N) N (k + 1)) ∧ Below w.heap.size w (w5.setCell ⟨w3.heap.size, k, none⟩ (.string ⟨(x).toArray⟩))) := by
              refine ⟨?_, HB5.out.setCell HSZ.out _⟩
              rw [← HZ.out]
              exact (HO5.out.stored k (.string ⟨(x).toArray⟩)).1
            clear HO5 HB5 HX
            go_wp2
            go_roundg (gk - 1)
            case measure => have := HK.out; omega
            case rel => exact ⟨k + 1, j + 1, by have := HK.out; omega, rfl, congrArg (Value.int .i64) (by push_cast; omega), by have := HK.out; omega, HK.out.2.2.1.symm, HN2⟩
          · rw [hp] at KI a3
            simp only [Bool.toNat_true] at a3
            have hcj : (c : Int) = (j : Int) := by omega
            rw [hcj]
            have mf0 : IntKind.i64.wrap (j : Int) = (j : Int) := by rw [IntKind.wrap_i64]; omega
            have mf : wrap64 (j : Int) = (j : Int) := by rw [IntKind.wrap_i64] at mf0; unfold wrap64; omega
            clear mf0
            clear hp a1 a2 a3 hj hck HC
            go_wp2_with fail
            refine KI.mono ?_
            rintro e w5 ⟨rfl, hb5⟩
            have HB5 := hid13 (keepb hb5 HS.out.2)
            have HO5 := hid13 (own_b13 hb5 HS.out.1)
            clear hb5 HS KI
            have r1 := keepc HB5.out HX.out
            have hf := HO5.out.frozenAt k
            obtain ⟨u0, hu0⟩ : ∃ u, w5.cell? ⟨w3.heap.size, k, none⟩ = some u := by
              rw [HO5.out.cellAt k (by have := HK.out; omega)]
              have := HO5.out.1
              exact ⟨_, List.getElem?_eq_getElem (by have := HK.out; omega)⟩
            have HN2 : Hid ((w5.setCell ⟨w3.heap.size, k, none⟩ (.string ⟨(x).toArray⟩)).ownsRow w3.heap.size 9 1 (.slice (some ⟨w3.heap.size, 0, none⟩) N N) N (zrS (unR U L N) N (k + 1)) ∧ Below w.heap.size w (w5.setCell ⟨w3.heap.size, k, none⟩ (.string ⟨(x).toArray⟩))) := by
              refine ⟨?_, HB5.out.setCell HSZ.out _⟩
              rw [← HZ.out]
              exact (HO5.out.stored k (.string ⟨(x).toArray⟩)).1
            clear HO5 HB5 HX
            go_wp2
            go_roundg (gk - 1)
            case measure => have := HK.out; omega
            case rel => exact ⟨k + 1, j + 1, by have := HK.out; omega, rfl, congrArg (Value.int .i64) (by push_cast; omega), by have := HK.out; omega, HK.out.2.2.1.symm, HN2⟩
        · have hli : ¬ (k : Int) < (N : Int) := by omega
          obtain rfl : k = N := by omega
          have HF : Hid (UnES w wr U (k : Int) L (.returned (.tuple #[.slice (some ⟨w3.heap.size, 0, none⟩) k k, .int .i64 0]))) := by
            refine .inl ⟨HQ.out, _, rfl, ?_⟩
            have e : zrS (unR U L k) k k = (unR U L k).map cS := by
              unfold zrS
              rw [List.take_of_length_le (by rw [HR.out]; exact Nat.le_refl _), Nat.sub_self]
              simp
            have := HS.out.1
            rw [e] at this
            rw [Int.toNat_natCast]
            exact own_w13 this HSZ.out
          go_wp2_with fail
          exact bodyPost_ret (v := .tuple #[.slice (some ⟨w3.heap.size, 0, none⟩) k k, .int .i64 0]) (by simp [results, Tryd.results10, go_sem]) rfl ⟨HF.out, HS.out.2⟩
    · have HQ := hid13 (HE'.out w3 (fun h => by have := HT.out.2 h.2.2.2; simp at this))
      go_wp2_with fail
      exact bodyPost_ret (v := .tuple #[.slice none 0 0, .int .i64 25]) (by simp [results, Tryd.results10, go_sem]) rfl ⟨HQ.out, HB3.out⟩
  · have HQ := hid13 (HE'.out w2 (fun h => hs h.2.2.1))
    have hse : (((sumW U U.length : Nat) : Int) != (L.length : Int)) = true := by simp; omega
    generalize ((sumW U U.length : Nat) : Int) = S at hse
    clear hs
    go_wp2_with fail
    exact bodyPost_ret (v := .tuple #[.slice none 0 0, .int .i64 25]) (by simp [results, Tryd.results10, go_sem]) rfl ⟨HQ.out, HB2.out⟩
end Go.Proofs.YtbamogpbjdobkaaDoor
