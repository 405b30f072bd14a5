/-
  Part 4 of the proof: 4 texts, one behind the other.
-/
import Derived.Test.YtbamogpbjdobkaaDoorPart2
import Derived.Test.YtbamogpbjdobkaaDoorPart3
import Derived.Test.YtbamogpbjdobkaaDoorPart1
import Derived.WalkMore
import Derived.ScopeJumps
import Derived.Lib.SlBytesConst
namespace Go.Proofs.YtbamogpbjdobkaaDoor
open Go.RowKit
set_option linter.unusedSimpArgs false
set_option linter.unusedVariables false

def TwQS (L : List (List UInt8)) (e : Ending) : Prop := ∃ b, e = .returned (.bool b) ∧ (b = false ↔ NoTw L)
set_option maxRecDepth 100000 in
set_option maxHeartbeats 8000000 in
theorem twinsS_any (v : Value) (L : List (List UInt8)) (w : World) (hv : RwX cS w v L) (hl : L.length ≤ 9223372036854775806) :
    Calls Tryd.prog 21 #[v] w fun e w' => TwQS L e ∧ Below w.heap.size w w' := by
  obtain ⟨ao, cc, rfl, -, hv⟩ := hv
  have HV := hid13 hv
  have HL := hid13 hl
  have HB := hid13 (Below.refl w.heap.size w)
  clear hv hl
  go_enter Tryd.func21, Tryd.ntmps21
  go_wp2_with fail
  go_loopg [3] (L.length + 1) (fun g i wr => ∃ k : Nat, 1 ≤ k ∧ k + g = L.length + 2 ∧ i = .int .i64 (k : Int) ∧ Hid (Below w.heap.size w wr) ∧ Hid (∀ j, j + 1 < k → L[j]? ≠ L[j + 1]? ∨ L[j + 1]? = none))
  case atStart => exact ⟨1, by omega, by omega, rfl, HB, fun j hj => by omega⟩
  case round =>
    clear HB
    obtain ⟨k, hk1, hk, rfl, HB, HN⟩ := hrel
    by_cases hlt : k < L.length
    · have hli : (k : Int) < (L.length : Int) := by omega
      obtain ⟨bo, off, rfl, hcell⟩ : ∃ bo off, ao = some ⟨bo, off, none⟩ ∧ ∀ j x, L[j]? = some x → w.cell? ⟨bo, off + j, none⟩ = some (cS x) := by
        rcases HV.out with h | h
        · rw [h] at hlt; simp at hlt
        · exact h
      obtain ⟨j, hj⟩ : ∃ j, k = j + 1 := ⟨k - 1, by omega⟩
      obtain ⟨x, hx⟩ : ∃ x, L[k]? = some x := ⟨L[k], by simp [hlt]⟩
      obtain ⟨y, hy⟩ : ∃ y, L[j]? = some y := ⟨L[j], by simp [show j < L.length by omega]⟩
      have r1 : wr.cell? ⟨bo, off + k, none⟩ = some (.string ⟨(x).toArray⟩) := keepc HB.out (hcell k x hx)
      have r2 : wr.cell? ⟨bo, off + j, none⟩ = some (.string ⟨(y).toArray⟩) := keepc HB.out (hcell j y hy)
      have hj1 : (k : Int) - 1 = (j : Int) := by omega
      have hji : (j : Int) < (L.length : Int) := by omega
      have mk : IntKind.i64.wrap ((k : Int) + 1) = (k : Int) + 1 := by have := HL.out; rw [IntKind.wrap_i64]; omega
      have mj : IntKind.i64.wrap (j : Int) = (j : Int) := by have := HL.out; rw [IntKind.wrap_i64]; omega
      have HK : Hid (k + gk = L.length + 2 ∧ k < L.length ∧ 1 ≤ k ∧ k = j + 1 ∧ L[k]? = some x ∧ L[j]? = some y) := ⟨hk, hlt, hk1, hj, hx, hy⟩
      have KS := fun W => sameS_any y x W
      clear hcell hx hy hk hj hk1
      by_cases hxy : y = x
      · have hbq : (y == x) = true := by simp [hxy]
        rw [hbq] at KS
        have HT : Hid (¬ NoTw L) := by
          intro h
          obtain ⟨-, -, -, e, a, b⟩ := HK.out
          rw [e] at a
          exact h j y x b a hxy
        clear hxy hbq HN
        go_wp2_with fail
        refine qw_region (C := fun W => W.cell? ⟨bo, off + j, none⟩ = some (.string ⟨(y).toArray⟩) ∧ W.cell? ⟨bo, off + k, none⟩ = some (.string ⟨(x).toArray⟩) ∧ Below w.heap.size w W) (by kernel_rfl) (by kernel_rfl) ⟨r2, r1, HB.out.drew⟩ ?_
        clear r1 r2
        refine qw_run (v := .slice (some ⟨bo, off, none⟩) L.length cc) (by rfl) ?_ ?_
        · (intro w9 hC; clear hC; go_simp; first | done | (simp; done) | (simp [*]; done) | omega | (simp; omega) | (rw [IntKind.wrap_i64]; omega) | rfl)
        simp only [Act.put, List.setIfInBounds_toArray, List.set_cons_zero, List.set_cons_succ]
        refine qw_run (v := .int .i64 (k : Int)) (by rfl) ?_ ?_
        · (intro w9 hC; clear hC; go_simp; first | done | (simp; done) | (simp [*]; done) | omega | (simp; omega) | (rw [IntKind.wrap_i64]; omega) | rfl)
        simp only [Act.put, List.setIfInBounds_toArray, List.set_cons_zero, List.set_cons_succ]
        refine qw_run (v := .int .i64 (j : Int)) (by rfl) ?_ ?_
        · (intro w9 hC; clear hC; go_simp; first | done | (simp; done) | (simp [*]; done) | omega | (simp; omega) | (rw [IntKind.wrap_i64]; omega) | rfl)
        simp only [Act.put, List.setIfInBounds_toArray, List.set_cons_zero, List.set_cons_succ]
        refine qw_run (v := .pointer (some ⟨bo, off + j, none⟩)) (by rfl) ?_ ?_
        · (intro w9 hC; clear hC; go_simp; first | done | (simp; done) | (simp [*]; done) | omega | (simp; omega) | (rw [IntKind.wrap_i64]; omega) | rfl)
        simp only [Act.put, List.setIfInBounds_toArray, List.set_cons_zero, List.set_cons_succ]
        refine qw_run (v := .string ⟨(y).toArray⟩) (by rfl) ?_ ?_
        · (intro w9 hC; have f0 := hC.1; clear hC; go_simp; first | done | (simp; done) | (simp [*]; done) | omega | (simp; omega) | (rw [IntKind.wrap_i64]; omega) | rfl)
        simp only [Act.put, List.setIfInBounds_toArray, List.set_cons_zero, List.set_cons_succ]
        refine qw_run (v := .slice (some ⟨bo, off, none⟩) L.length cc) (by rfl) ?_ ?_
        · (intro w9 hC; clear hC; go_simp; first | done | (simp; done) | (simp [*]; done) | omega | (simp; omega) | (rw [IntKind.wrap_i64]; omega) | rfl)
        simp only [Act.put, List.setIfInBounds_toArray, List.set_cons_zero, List.set_cons_succ]
        refine qw_run (v := .int .i64 (k : Int)) (by rfl) ?_ ?_
        · (intro w9 hC; clear hC; go_simp; first | done | (simp; done) | (simp [*]; done) | omega | (simp; omega) | (rw [IntKind.wrap_i64]; omega) | rfl)
        simp only [Act.put, List.setIfInBounds_toArray, List.set_cons_zero, List.set_cons_succ]
        refine qw_run (v := .pointer (some ⟨bo, off + k, none⟩)) (by rfl) ?_ ?_
        · (intro w9 hC; clear hC; go_simp; first | done | (simp; done) | (simp [*]; done) | omega | (simp; omega) | (rw [IntKind.wrap_i64]; omega) | rfl)
        simp only [Act.put, List.setIfInBounds_toArray, List.set_cons_zero, List.set_cons_succ]
        refine qw_run (v := .string ⟨(x).toArray⟩) (by rfl) ?_ ?_
        · (intro w9 hC; have f0 := hC.2.1; clear hC; go_simp; first | done | (simp; done) | (simp [*]; done) | omega | (simp; omega) | (rw [IntKind.wrap_i64]; omega) | rfl)
        simp only [Act.put, List.setIfInBounds_toArray, List.set_cons_zero, List.set_cons_succ]
        refine qw_call (v := .bool true) (f := 20) (args := #[.string ⟨(y).toArray⟩, .string ⟨(x).toArray⟩]) (by rfl) ?_ ?_ ?_
        · (intro w9 hC; clear hC; go_simp)
        · exact fun w9 hC => (KS w9).mono fun e w' ⟨he, hb⟩ => ⟨he, keepc hb hC.1, keepc hb hC.2.1, keepb hb hC.2.2⟩
        simp only [Act.put, List.setIfInBounds_toArray, List.set_cons_zero, List.set_cons_succ]
        refine qw_nil ?_
        intro W1 hC
        have HB2 := hid13 hC.2.2
        clear hC
        go_wp2
        go_ret
        exact ⟨⟨true, rfl, (fun h => by cases h), (fun h => absurd h HT.out)⟩, HB2.out⟩
      · have hbq : (y == x) = false := by simp [hxy]
        rw [hbq] at KS
        have HN2 : Hid (∀ j, j + 1 < k + 1 → L[j]? ≠ L[j + 1]? ∨ L[j + 1]? = none) := by
          intro i hi
          obtain ⟨-, -, -, e, a, b⟩ := HK.out
          by_cases c : i + 1 < k
          · exact HN.out i c
          · obtain rfl : i = j := by omega
            rw [← e, a, b]
            exact .inl (fun q => hxy (Option.some.inj q))
        clear hxy hbq HN
        go_wp2_with fail
        refine qw_region (C := fun W => W.cell? ⟨bo, off + j, none⟩ = some (.string ⟨(y).toArray⟩) ∧ W.cell? ⟨bo, off + k, none⟩ = some (.string ⟨(x).toArray⟩) ∧ Below w.heap.size w W) (by kernel_rfl) (by kernel_rfl) ⟨r2, r1, HB.out.drew⟩ ?_
        clear r1 r2
        refine qw_run (v := .slice (some ⟨bo, off, none⟩) L.length cc) (by rfl) ?_ ?_
        · (intro w9 hC; clear hC; go_simp; first | done | (simp; done) | (simp [*]; done) | omega | (simp; omega) | (rw [IntKind.wrap_i64]; omega) | rfl)
        simp only [Act.put, List.setIfInBounds_toArray, List.set_cons_zero, List.set_cons_succ]
        refine qw_run (v := .int .i64 (k : Int)) (by rfl) ?_ ?_
        · (intro w9 hC; clear hC; go_simp; first | done | (simp; done) | (simp [*]; done) | omega | (simp; omega) | (rw [IntKind.wrap_i64]; omega) | rfl)
        simp only [Act.put, List.setIfInBounds_toArray, List.set_cons_zero, List.set_cons_succ]
        refine qw_run (v := .int .i64 (j : Int)) (by rfl) ?_ ?_
        · (intro w9 hC; clear hC; go_simp; first | done | (simp; done) | (simp [*]; done) | omega | (simp; omega) | (rw [IntKind.wrap_i64]; omega) | rfl)
        simp only [Act.put, List.setIfInBounds_toArray, List.set_cons_zero, List.set_cons_succ]
        refine qw_run (v := .pointer (some ⟨bo, off + j, none⟩)) (by rfl) ?_ ?_
        · (intro w9 hC; clear hC; go_simp; first | done | (simp; done) | (simp [*]; done) | omega | (simp; omega) | (rw [IntKind.wrap_i64]; omega) | rfl)
        simp only [Act.put, List.setIfInBounds_toArray, List.set_cons_zero, List.set_cons_succ]
        refine qw_run (v := .string ⟨(y).toArray⟩) (by rfl) ?_ ?_
        · (intro w9 hC; have f0 := hC.1; clear hC; go_simp; first | done | (simp; done) | (simp [*]; done) | omega | (simp; omega) | (rw [IntKind.wrap_i64]; omega) | rfl)
        simp only [Act.put, List.setIfInBounds_toArray, List.set_cons_zero, List.set_cons_succ]
        refine qw_run (v := .slice (some ⟨bo, off, none⟩) L.length cc) (by rfl) ?_ ?_
        · (intro w9 hC; clear hC; go_simp; first | done | (simp; done) | (simp [*]; done) | omega | (simp; omega) | (rw [IntKind.wrap_i64]; omega) | rfl)
        simp only [Act.put, List.setIfInBounds_toArray, List.set_cons_zero, List.set_cons_succ]
        refine qw_run (v := .int .i64 (k : Int)) (by rfl) ?_ ?_
        · (intro w9 hC; clear hC; go_simp; first | done | (simp; done) | (simp [*]; done) | omega | (simp; omega) | (rw [IntKind.wrap_i64]; omega) | rfl)
        simp only [Act.put, List.setIfInBounds_toArray, List.set_cons_zero, List.set_cons_succ]
        refine qw_run (v := .pointer (some ⟨bo, off + k, none⟩)) (by rfl) ?_ ?_
        · (intro w9 hC; clear hC; go_simp; first | done | (simp; done) | (simp [*]; done) | omega | (simp; omega) | (rw [IntKind.wrap_i64]; omega) | rfl)
        simp only [Act.put, List.setIfInBounds_toArray, List.set_cons_zero, List.set_cons_succ]
        refine qw_run (v := .string ⟨(x).toArray⟩) (by rfl) ?_ ?_
        · (intro w9 hC; have f0 := hC.2.1; clear hC; go_simp; first | done | (simp; done) | (simp [*]; done) | omega | (simp; omega) | (rw [IntKind.wrap_i64]; omega) | rfl)
        simp only [Act.put, List.setIfInBounds_toArray, List.set_cons_zero, List.set_cons_succ]
        refine qw_call (v := .bool false) (f := 20) (args := #[.string ⟨(y).toArray⟩, .string ⟨(x).toArray⟩]) (by rfl) ?_ ?_ ?_
        · (intro w9 hC; clear hC; go_simp)
        · exact fun w9 hC => (KS w9).mono fun e w' ⟨he, hb⟩ => ⟨he, keepc hb hC.1, keepc hb hC.2.1, keepb hb hC.2.2⟩
        simp only [Act.put, List.setIfInBounds_toArray, List.set_cons_zero, List.set_cons_succ]
        refine qw_nil ?_
        intro W1 hC
        have HB2 := hid13 hC.2.2
        clear hC
        go_wp2
        go_roundg (gk - 1)
        case measure => have := HK.out; omega
        case rel => exact ⟨k + 1, by omega, by have := HK.out; omega, rfl, HB2, HN2⟩
    · have hli : ¬ (k : Int) < (L.length : Int) := by omega
      have HT : Hid (NoTw L) := by
        intro i x y hx hy
        have hlt2 := (List.getElem?_eq_some_iff.1 hy).1
        rcases HN.out i (by omega) with h | h
        · rw [hx, hy] at h
          exact fun q => h (congrArg some q)
        · rw [h] at hy; cases hy
      go_wp2_with fail
      go_ret
      exact ⟨⟨false, rfl, (fun _ => HT.out), (fun _ => rfl)⟩, HB.out⟩
def UnES (w W : World) (U : List (BitVec 32)) (n : Int) (L : List (List UInt8)) (e : Ending) : Prop :=
  (UnQ U n L ∧ ∃ v, e = .returned (.tuple #[v, .int .i64 0]) ∧ W.ownsRow w.heap.size 9 1 v n.toNat ((unR U L n.toNat).map cS)) ∨ (¬ UnQ U n L ∧ e = .returned (.tuple #[.slice none 0 0, .int .i64 (if n < 0 then 1 else 25)]))
def zrS (R : List (List UInt8)) (n k : Nat) : List Value := (R.take k).map cS ++ List.replicate (n - k) (.string ⟨#[]⟩)
theorem zrS_set (R : List (List UInt8)) (n k : Nat) (x : (List UInt8)) (hk : k < n) (hR : R.length = n) (hx : R[k]? = some x) : (zrS R n k).set k (.string ⟨(x).toArray⟩) = zrS R n (k + 1) := by
  unfold zrS
  have hl : ((R.take k).map cS).length = k := by rw [List.length_map, List.length_take]; omega
  rw [List.set_append_right _ _ (by omega), hl, Nat.sub_self]
  obtain ⟨j, hj⟩ : ∃ j, n - k = j + 1 := ⟨n - k - 1, by omega⟩
  obtain ⟨h1, h2⟩ := List.getElem?_eq_some_iff.1 hx
  rw [hj, List.replicate_succ, List.set_cons_zero, show n - (k + 1) = j by omega, List.take_succ_eq_append_getElem h1, List.map_append, h2, List.append_assoc]
  rfl
set_option maxRecDepth 100000 in
set_option maxHeartbeats 16000000 in
theorem unfoldS_any (v lv : Value) (U : List (BitVec 32)) (n : Int) (L : List (List UInt8)) (w : World) (hv : RwX cU w v U) (hL : RwX cS w lv L) (hl : U.length ≤ 3000) (hn0 : -9223372036854775808 ≤ n) (hn1 : n ≤ 9223372036854775807) (hll : L.length ≤ 9223372036854775806) :
    Calls Tryd.prog 10 #[v, .int .i64 n, lv] w fun e w' => UnES w w' U n L e ∧ Below w.heap.size w w' := by
  obtain ⟨j0, ji, jz0, jz1, jz2⟩ := info13 Tryd.infoS13
  have HV := hid13 hv
  have HW := hid13 hL
  have HL : Hid (U.length ≤ 3000 ∧ L.length ≤ 9223372036854775806) := ⟨hl, hll⟩
  obtain ⟨ao, cc, hvf, -, -⟩ := id hv
  obtain ⟨lo, lc, hlf, -, hlc⟩ := id hL
  subst hvf hlf
  by_cases hneg : n < 0
  · have HQ : Hid (UnES w w U n L (.returned (.tuple #[.slice none 0 0, .int .i64 1]))) := .inr ⟨fun h => by have := h.1; omega, by rw [if_pos hneg]⟩
    go_enter Tryd.func10, Tryd.ntmps10
    go_wp2_with fail
    exact bodyPost_ret (v := .tuple #[.slice none 0 0, .int .i64 1]) (by simp [results, Tryd.results10, go_sem]) rfl ⟨HQ.out, Below.refl _ _⟩
  obtain ⟨N, rfl⟩ : ∃ N : Nat, n = (N : Int) := ⟨n.toNat, by omega⟩
  have HE : ∀ W, ¬ UnQ U (N : Int) L → UnES w W U (N : Int) L (.returned (.tuple #[.slice none 0 0, .int .i64 25])) := fun W h => .inr ⟨h, by rw [if_neg hneg]⟩
  have HE' := hid13 HE
  have HLC := hid13 hlc
  have HN := hid13 hn1
  clear hv hL hl hn0 hn1 hll HE hlc
  go_enter Tryd.func10, Tryd.ntmps10
  go_wp2_with fail
  refine (isMap_any _ U N w HV.out (by have := HN.out; omega) (by have := HL.out; omega)).mono ?_
  rintro e w1 ⟨⟨b1, rfl, hb1⟩, hbl1⟩
  have HB1 := hid13 hbl1
  have HM := hid13 hb1
  clear hbl1 hb1
  cases b1
  · have HQ := hid13 (HE'.out w1 (fun h => by have := HM.out.2 h.2.1; simp at this))
    go_wp2_with fail
    exact bodyPost_ret (v := .tuple #[.slice none 0 0, .int .i64 25]) (by simp [results, Tryd.results10, go_sem]) rfl ⟨HQ.out, HB1.out⟩
  go_wp2_with fail
  refine (ones_any _ U w1 (HV.out.below HB1.out) (by have := HL.out; omega)).mono ?_
  rintro e w2 ⟨rfl, hbl2⟩
  have HB2 := hid13 (keepb hbl2 HB1.out)
  clear hbl2 HB1
  by_cases hs : sumW U U.length = L.length
  · rw [hs]
    have hse : ((L.length : Int) != (L.length : Int)) = false := by simp
    have HS := hid13 hs
    clear hs
    go_wp2_with fail
    refine (twinsS_any _ L w2 (HW.out.below HB2.out) HL.out.2).mono ?_
    rintro e w3 ⟨⟨b3, rfl, hb3⟩, hbl3⟩
    have HB3 := hid13 (keepb hbl3 HB2.out)
    have HT := hid13 hb3
    clear hbl3 hb3 HB2
    cases b3
    · have HQ : Hid (UnQ U (N : Int) L) := ⟨by omega, by have := HM.out; simpa using this, HS.out, by have := HT.out; simpa using this⟩
      have hN : N ≤ 96000 := by have h1 := HQ.out.2.1.1; rw [Int.toNat_natCast] at h1; have := HL.out; omega
      have hby : j0.bytes * N ≤ 281474976710656 := by rw [jz2]; omega
      have HR : Hid ((unR U L N).length = N) := by have := unR_len HQ.out N (by rw [Int.toNat_natCast]; exact Nat.le_refl _); exact this
      have HNl : Hid (N ≤ 32 * U.length) := by have h1 := HQ.out.2.1.1; rw [Int.toNat_natCast] at h1; show _ ≤ _; omega
      clear HM HT HS HE' HN
      go_wp2_with (at_make; apply stopHere9)
      refine (show wpList _ _ _ _ _ _ from ?_)
      refine wpList_make_full _ rfl _ _ 32 rfl w3.heap.size 9 j0 (.string ⟨#[]⟩) 1 Tryd.underlying32 ji jz0 jz1 .i64 .i64 _ _ N rfl rfl rfl rfl hby (by unfold maxLen; omega) (Nat.le_refl _) ?_
      intro w4 ho4 hgrow
      have HB4 := hid13 (HB3.out.grown hgrow HB3.out.size (fun z hz => by cases hz))
      have HO4 : Hid (w4.ownsRow w3.heap.size 9 1 (.slice (some ⟨w3.heap.size, 0, none⟩) N N) N (zrS (unR U L N) N 0)) := by
        have e : zrS (unR U L N) N 0 = (madeCells (Value.cells (.string ⟨#[]⟩)) (N * 1)).toList := by
          show _ = (madeCells #[.string ⟨#[]⟩] (N * 1)).toList
          rw [toList_madeCells_one, Nat.mul_one]
          unfold zrS
          rw [List.take_zero]
          rfl
        rw [e]; exact ho4
      have HSZ := hid13 HB3.out.size
      clear ho4 hgrow hby HB3
      go_wp2_with fail
      go_loopg [9, 10, 32] N (fun g fr i10 i wr => ∃ (k : Nat) (c : Nat), k + g = N ∧ i = .int .i64 (k : Int) ∧ fr = .int .i64 ((c : Int) - 1) ∧ c ≤ k ∧ Hid (c = cnt U k) ∧ Hid (wr.ownsRow w3.heap.size 9 1 (.slice (some ⟨w3.heap.size, 0, none⟩) N N) N (zrS (unR U L N) N k) ∧ Below w.heap.size w wr))
      case atStart => exact ⟨0, 0, by omega, rfl, rfl, Nat.le_refl _, rfl, HO4.out, HB4.out⟩
      case round =>
        clear HO4 HB4
        obtain ⟨k, c, hk, rfl, rfl, hck, HC, HS⟩ := hrel
        by_cases hlt : k < N
        · have hli : (k : Int) < (N : Int) := by omega
          have KI := isset_any _ U k wr (HV.out.below HS.out.2) (by have := HNl.out; omega) (by have := HL.out; omega)
          obtain ⟨a1, a2⟩ := un_at HQ.out k (by rw [Int.toNat_natCast]; exact hlt)
          have a3 : cnt U (k + 1) = c + (plc U k).toNat := by simp only [cnt]; rw [HC.out]
          have hLne : 0 < L.length := by omega
          obtain ⟨bo, off, rfl, hcell⟩ : ∃ bo off, lo = some ⟨bo, off, none⟩ ∧ ∀ j x, L[j]? = some x → w.cell? ⟨bo, off + j, none⟩ = some (cS x) := by
            rcases HLC.out with h | h
            · rw [h] at hLne; simp at hLne
            · exact h
          obtain ⟨j, hj⟩ : ∃ j, cnt U (k + 1) = j + 1 := ⟨cnt U (k + 1) - 1, by omega⟩
          obtain ⟨x, hx⟩ : ∃ x, L[j]? = some x := ⟨L[j], by simp [show j < L.length by omega]⟩
          have hun : (unR U L N)[k]? = some x := by
            have := unR_get HQ.out k (by rw [Int.toNat_natCast]; exact hlt)
            rw [Int.toNat_natCast, hj, Nat.add_sub_cancel, hx] at this
            exact this
          have HZ := hid13 (zrS_set (unR U L N) N k x hlt HR.out hun)
          have HX : Hid (w.cell? ⟨bo, off + j, none⟩ = some (.string ⟨(x).toArray⟩)) := hcell j x hx
          have hji : (j : Int) < (L.length : Int) := by omega
          have mk : IntKind.i64.wrap ((k : Int) + 1) = (k : Int) + 1 := by rw [IntKind.wrap_i64]; omega
          have HK : Hid (k + gk = N ∧ k < N ∧ cnt U (k + 1) = j + 1 ∧ j ≤ k) := ⟨hk, hlt, hj, by have := cnt_le U (k + 1); omega⟩
          have hkb : (k : Int) ≤ 96000 := by omega
          clear hcell hx hun hk
          cases hp : plc U k
          · rw [hp] at KI a3
            simp only [Bool.toNat_false, Nat.add_zero] at a3
            have hcj : (c : Int) - 1 = (j : Int) := by omega
            rw [hcj]
            clear hp a1 a2 a3 hj hck HC
            go_wp2_with fail
            refine KI.mono ?_
            rintro e w5 ⟨rfl, hb5⟩
            have HB5 := hid13 (keepb hb5 HS.out.2)
            have HO5 := hid13 (own_b13 hb5 HS.out.1)
            clear hb5 HS KI
            have r1 := keepc HB5.out HX.out
            have hf := HO5.out.frozenAt k
            obtain ⟨u0, hu0⟩ : ∃ u, w5.cell? ⟨w3.heap.size, k, none⟩ = some u := by
              rw [HO5.out.cellAt k (by have := HK.out; omega)]
              have := HO5.out.1
              exact ⟨_, List.getElem?_eq_getElem (by have := HK.out; omega)⟩
            have HN2 : Hid ((w5.setCell ⟨w3.heap.size, k, none⟩ (.string ⟨(x).toArray⟩)).ownsRow w3.heap.size 9 1 (.slice (some ⟨w3.heap.size, 0, none⟩) N N) N (zrS (unR U L N) N (k + 1)) ∧ Below w.heap.size w (w5.setCell ⟨w3.heap.size, k, none⟩ (.string ⟨(x).toArray⟩))) := by
              refine ⟨?_, HB5.out.setCell HSZ.out _⟩
              rw [← HZ.out]
              exact (HO5.out.stored k (.string ⟨(x).toArray⟩)).1
            clear HO5 HB5 HX
            go_wp2
            go_roundg (gk - 1)
            case measure => have := HK.out; omega
            case rel => exact ⟨k + 1, j + 1, by have := HK.out; omega, rfl, congrArg (Value.int .i64) (by push_cast; omega), by have := HK.out; omega, HK.out.2.2.1.symm, HN2⟩
          · rw [hp] at KI a3
            simp only [Bool.toNat_true] at a3
            have hcj : (c : Int) = (j : Int) := by omega
            rw [hcj]
            have mf0 : IntKind.i64.wrap (j : Int) = (j : Int) := by rw [IntKind.wrap_i64]; omega
            have mf : wrap64 (j : Int) = (j : Int) := by rw [IntKind.wrap_i64] at mf0; unfold wrap64; omega
            clear mf0
            clear hp a1 a2 a3 hj hck HC
            go_wp2_with fail
            refine KI.mono ?_
            rintro e w5 ⟨rfl, hb5⟩
            have HB5 := hid13 (keepb hb5 HS.out.2)
            have HO5 := hid13 (own_b13 hb5 HS.out.1)
            clear hb5 HS KI
            have r1 := keepc HB5.out HX.out
            have hf := HO5.out.frozenAt k
            obtain ⟨u0, hu0⟩ : ∃ u, w5.cell? ⟨w3.heap.size, k, none⟩ = some u := by
              rw [HO5.out.cellAt k (by have := HK.out; omega)]
              have := HO5.out.1
              exact ⟨_, List.getElem?_eq_getElem (by have := HK.out; omega)⟩
            have HN2 : Hid ((w5.setCell ⟨w3.heap.size, k, none⟩ (.string ⟨(x).toArray⟩)).ownsRow w3.heap.size 9 1 (.slice (some ⟨w3.heap.size, 0, none⟩) N N) N (zrS (unR U L N) N (k + 1)) ∧ Below w.heap.size w (w5.setCell ⟨w3.heap.size, k, none⟩ (.string ⟨(x).toArray⟩))) := by
              refine ⟨?_, HB5.out.setCell HSZ.out _⟩
              rw [← HZ.out]
              exact (HO5.out.stored k (.string ⟨(x).toArray⟩)).1
            clear HO5 HB5 HX
            go_wp2
            go_roundg (gk - 1)
            case measure => have := HK.out; omega
            case rel => exact ⟨k + 1, j + 1, by have := HK.out; omega, rfl, congrArg (Value.int .i64) (by push_cast; omega), by have := HK.out; omega, HK.out.2.2.1.symm, HN2⟩
        · have hli : ¬ (k : Int) < (N : Int) := by omega
          obtain rfl : k = N := by omega
          have HF : Hid (UnES w wr U (k : Int) L (.returned (.tuple #[.slice (some ⟨w3.heap.size, 0, none⟩) k k, .int .i64 0]))) := by
            refine .inl ⟨HQ.out, _, rfl, ?_⟩
            have e : zrS (unR U L k) k k = (unR U L k).map cS := by
              unfold zrS
              rw [List.take_of_length_le (by rw [HR.out]; exact Nat.le_refl _), Nat.sub_self]
              simp
            have := HS.out.1
            rw [e] at this
            rw [Int.toNat_natCast]
            exact own_w13 this HSZ.out
          go_wp2_with fail
          exact bodyPost_ret (v := .tuple #[.slice (some ⟨w3.heap.size, 0, none⟩) k k, .int .i64 0]) (by simp [results, Tryd.results10, go_sem]) rfl ⟨HF.out, HS.out.2⟩
    · have HQ := hid13 (HE'.out w3 (fun h => by have := HT.out.2 h.2.2.2; simp at this))
      go_wp2_with fail
      exact bodyPost_ret (v := .tuple #[.slice none 0 0, .int .i64 25]) (by simp [results, Tryd.results10, go_sem]) rfl ⟨HQ.out, HB3.out⟩
  · have HQ := hid13 (HE'.out w2 (fun h => hs h.2.2.1))
    have hse : (((sumW U U.length : Nat) : Int) != (L.length : Int)) = true := by simp; omega
    generalize ((sumW U U.length : Nat) : Int) = S at hse
    clear hs
    go_wp2_with fail
    exact bodyPost_ret (v := .tuple #[.slice none 0 0, .int .i64 25]) (by simp [results, Tryd.results10, go_sem]) rfl ⟨HQ.out, HB2.out⟩
end Go.Proofs.YtbamogpbjdobkaaDoor
namespace Go.Proofs.YtbamogpbjdobkaaDoor
open Go.RowKit
set_option linter.unusedSimpArgs false
set_option linter.unusedVariables false

set_option maxRecDepth 100000 in
set_option maxHeartbeats 8000000 in
theorem sameInts_any (v1 v2 : Value) (l : List Int) (w : World) (h1 : RwX cI w v1 l) (h2 : RwX cI w v2 l) (hl : l.length ≤ 9223372036854775806) :
    Calls Tryd.prog 7 #[v1, v2] w fun e w' => e = .returned (.bool true) ∧ Below w.heap.size w w' := by
  obtain ⟨ao, cc, rfl, -, hv1⟩ := h1
  obtain ⟨ao2, cc2, rfl, -, hv2⟩ := h2
  have HV1 := hid13 hv1
  have HV2 := hid13 hv2
  have HL := hid13 hl
  have HB := hid13 (Below.refl w.heap.size w)
  clear hv1 hv2 hl
  go_enter Tryd.func7, Tryd.ntmps7
  go_wp2_with fail
  go_loopg [5] l.length (fun g i wr => ∃ k : Nat, k + g = l.length ∧ i = .int .i64 (k : Int) ∧ Hid (Below w.heap.size w wr))
  case atStart => exact ⟨0, by omega, rfl, HB⟩
  case round =>
    clear HB
    obtain ⟨k, hk, rfl, HB⟩ := hrel
    by_cases hlt : k < l.length
    · have hli : (k : Int) < (l.length : Int) := by omega
      obtain ⟨bo, off, rfl, hc1⟩ : ∃ bo off, ao = some ⟨bo, off, none⟩ ∧ ∀ j x, l[j]? = some x → w.cell? ⟨bo, off + j, none⟩ = some (cI x) := by
        rcases HV1.out with h | h
        · rw [h] at hlt; simp at hlt
        · exact h
      obtain ⟨bo2, off2, rfl, hc2⟩ : ∃ bo off, ao2 = some ⟨bo, off, none⟩ ∧ ∀ j x, l[j]? = some x → w.cell? ⟨bo, off + j, none⟩ = some (cI x) := by
        rcases HV2.out with h | h
        · rw [h] at hlt; simp at hlt
        · exact h
      obtain ⟨x, hx⟩ : ∃ x, l[k]? = some x := ⟨l[k], by simp [hlt]⟩
      have r1 : wr.cell? ⟨bo, off + k, none⟩ = some (.int .i64 x) := keepc HB.out (hc1 k x hx)
      have r2 : wr.cell? ⟨bo2, off2 + k, none⟩ = some (.int .i64 x) := keepc HB.out (hc2 k x hx)
      have mk : IntKind.i64.wrap ((k : Int) + 1) = (k : Int) + 1 := by have := HL.out; rw [IntKind.wrap_i64]; omega
      have HK : Hid (k + gk = l.length ∧ k < l.length) := ⟨hk, hlt⟩
      have HB2 := hid13 HB.out.drew
      clear hc1 hc2 hx hk
      go_wp2_with fail
      go_region
      go_wp2
      go_roundg (gk - 1)
      case measure => have := HK.out; omega
      case rel => exact ⟨k + 1, by have := HK.out; omega, rfl, HB2⟩
    · have hli : ¬ (k : Int) < (l.length : Int) := by omega
      go_wp2_with fail
      go_ret
      exact ⟨rfl, HB.out⟩
end Go.Proofs.YtbamogpbjdobkaaDoor
namespace Go.Proofs.YtbamogpbjdobkaaDoor
open Go.RowKit
set_option linter.unusedSimpArgs false
set_option linter.unusedVariables false

def Hf (w : World) : Prop := ∀ j, j < 16 → w.cell? ⟨0, j, none⟩ = some (.int .u32 (uI (cT j)))
theorem Hf.below {w w' : World} (h : Hf w) (hb : Below w.heap.size w w') : Hf w' := fun j hj => keepc hb (h j hj)
theorem nib32 (x : BitVec 32) : bits .and .u32 (uI x) 15 = ((x.toNat % 16 : Nat) : Int) := by
  have e : (15 : Int) = uI 15#32 := lit32 15 (by decide)
  have h : bits .and .u32 (uI x) (uI 15#32) = ((x.toNat % 16 : Nat) : Int) := by
    rw [and32, and15, uI_of _ (by omega)]
  rw [← e] at h
  exact h
theorem sh4 (x : BitVec 32) : uI x / (16 : Int) = uI (x >>> 4) := by have := shr32 x 4; simpa using this
theorem byX (c : BitVec 32) (b : Nat) (h : b < 256) : bits .xor .u32 (uI c) (b : Int) = uI (c ^^^ BitVec.ofNat 32 b) := by
  rw [← xor32, uI_of b (by omega)]
theorem stp_4 (c : BitVec 32) (b : Nat) : hbN 4 (hbN 4 (c ^^^ BitVec.ofNat 32 b)) = stp c b := by
  unfold stp; rw [← hbN_add]
def intOf13 : Value → Int | .int _ q => q | _ => 0
theorem crF_at {l : List Nat} {k : Nat} (hk : k < l.length) (C : BitVec 32) : crF C (l.drop k) = crF (stp C (l[k])) (l.drop (k + 1)) := by
  rw [List.drop_eq_getElem_cons hk, crF_cons]
theorem nibF {w : World} (hT : Hf w) (x : BitVec 32) : ∃ d : Nat, ∃ t : Int, d < 16 ∧ bits .and .u32 (uI x) 15 = (d : Int) ∧ w.cell? ⟨0, d, none⟩ = some (.int .u32 t) ∧ bits .xor .u32 (uI x / (16 : Int)) t = uI (hbN 4 x) := by
  refine ⟨x.toNat % 16, uI (cT (x.toNat % 16)), by omega, nib32 x, hT _ (by omega), ?_⟩
  rw [sh4, xor32, hb_four]
def AlI (l : List Nat) (ao : Option Addr) (cc : Nat) (c : BitVec 32) (a' : Act) : Prop := ∃ (k : Nat) (C : BitVec 32) (u6 u7 u8 u9 u10 u11 u12 u13 u14 u15 u16 u17 u18 u19 u20 u21 u22 u23 u24 u25 u26 u27 u28 u29 u30 u31 u32 u33 : Value), a' = { tmps := #[.int .u32 (uI C), .slice ao l.length cc, undef, undef, .int .u32 0, .int .i64 (k : Int), u6, u7, u8, u9, u10, u11, u12, u13, u14, u15, u16, u17, u18, u19, u20, u21, u22, u23, u24, u25, u26, u27, u28, u29, u30, u31, u32, u33], defers := [] } ∧ k ≤ l.length ∧ Hid (crF C (l.drop k) = crF c l)
theorem AlI.mk {l : List Nat} {ao : Option Addr} {cc : Nat} {c : BitVec 32} (k : Nat) (C : BitVec 32) (u6 u7 u8 u9 u10 u11 u12 u13 u14 u15 u16 u17 u18 u19 u20 u21 u22 u23 u24 u25 u26 u27 u28 u29 u30 u31 u32 u33 : Value) (hk : k ≤ l.length) (h : Hid (crF C (l.drop k) = crF c l)) : AlI l ao cc c { tmps := #[.int .u32 (uI C), .slice ao l.length cc, undef, undef, .int .u32 0, .int .i64 (k : Int), u6, u7, u8, u9, u10, u11, u12, u13, u14, u15, u16, u17, u18, u19, u20, u21, u22, u23, u24, u25, u26, u27, u28, u29, u30, u31, u32, u33], defers := [] } := ⟨k, C, u6, u7, u8, u9, u10, u11, u12, u13, u14, u15, u16, u17, u18, u19, u20, u21, u22, u23, u24, u25, u26, u27, u28, u29, u30, u31, u32, u33, rfl, hk, h⟩
def AlM (l : List Nat) (a' : Act) : Nat := l.length - (intOf13 (a'.tmps.getD 5 undef)).toNat
set_option maxRecDepth 1000000 in
set_option maxHeartbeats 8000000 in
theorem along_any (c : BitVec 32) (v : Value) (l : List Nat) (w : World) (hv : RwX cB w v l) (hl : l.length ≤ 9223372036854775806) (hb : ∀ b ∈ l, b < 256) (hT : Hf w) :
    Calls Tryd.prog 22 #[.int .u32 (uI c), v] w fun e w' => e = .returned (.int .u32 (uI (crF c l))) ∧ w' = w := by
  obtain ⟨ao, cc, rfl, hc, hv⟩ := hv
  have HV := hid13 hv
  have HT := hid13 hT
  have HB := hid13 hb
  have HL := hid13 hl
  clear hv hT hb hc hl
  go_enter Tryd.func22, Tryd.ntmps22
  go_wp2
  refine wp_scope_jumps 0 (fun a' w' => w' = w ∧ AlI l ao cc c a') (fun a' _ => AlM l a') rfl ?_ ?_
  · have HC : Hid (crF c (l.drop 0) = crF c l) := by show crF c (l.drop 0) = crF c l; simp
    by_cases hlt : 0 < l.length
    · have hne : ¬ ((0 : Int) = (l.length : Int)) := by omega
      obtain ⟨b, hb0⟩ : ∃ b, b = l[0]'hlt := ⟨_, rfl⟩
      have hb1 : b < 256 := HB.out b (by rw [hb0]; exact List.getElem_mem hlt)
      obtain ⟨bo, off, rfl, hcell⟩ : ∃ bo off, ao = some ⟨bo, off, none⟩ ∧ ∀ j x, l[j]? = some x → w.cell? ⟨bo, off + j, none⟩ = some (cB x) := by
        rcases HV.out with h | h
        · rw [h] at hlt; simp at hlt
        · exact h
      have hrd : w.cell? ⟨bo, off + 0, none⟩ = some (.int .u8 (b : Int)) := by
        have := hcell 0 b (by rw [hb0]; simp [hlt])
        exact this
      clear hcell HV
      have hx := byX c b hb1
      have HE : Hid (crF (hbN 4 (hbN 4 (c ^^^ BitVec.ofNat 32 b))) (l.drop (0 + 1)) = crF c l) := by
        show _ = _
        rw [stp_4, hb0, ← crF_at hlt]; exact HC.out
      obtain ⟨X, hX⟩ : ∃ X, X = c ^^^ BitVec.ofNat 32 b := ⟨_, rfl⟩
      rw [← hX] at hx HE
      obtain ⟨d, t, hd, f1, f2, f3⟩ := nibF HT.out X
      obtain ⟨Y, hY⟩ : ∃ Y, Y = hbN 4 X := ⟨_, rfl⟩
      rw [← hY] at f3 HE
      obtain ⟨d2, t2, hd2, g1, g2, g3⟩ := nibF HT.out Y
      have hd' : ((d : Nat) : Int) < 16 := by omega
      have hd2' : ((d2 : Nat) : Int) < 16 := by omega
      have hbi : ((b : Nat) : Int) < 256 := by omega
      have mk : IntKind.i64.wrap ((0 : Int) + 1) = (0 : Int) + 1 := by have := HL.out; rw [IntKind.wrap_i64]; omega
      have HLT := hid13 hlt
      have HB0 := hid13 hb0
      clear hX hY HC hb0
      rw [Nat.add_zero] at hrd
      clear mk
      go_wp2
      go_step3
      go_wp2
      go_step3
      exact ⟨rfl, rfl, AlI.mk 1 (hbN 4 Y) _ _ _ _ _ _ _ _ _ _ _ _ _ _ _ _ _ _ _ _ _ _ _ _ _ _ _ _ HLT.out HE⟩
    · have h0 : l = [] := List.eq_nil_of_length_eq_zero (by omega)
      subst h0
      go_wp2
      go_step3
      go_wp2
      simp only [Exit.jump]
      go_ret
      exact ⟨rfl, rfl⟩
  · rintro a' w' ⟨rfl, k, C, u6, u7, u8, u9, u10, u11, u12, u13, u14, u15, u16, u17, u18, u19, u20, u21, u22, u23, u24, u25, u26, u27, u28, u29, u30, u31, u32, u33, rfl, hk, HC⟩
    by_cases hlt : k < l.length
    · have hne : ¬ ((k : Int) = (l.length : Int)) := by omega
      obtain ⟨b, hb0⟩ : ∃ b, b = l[k]'hlt := ⟨_, rfl⟩
      have hb1 : b < 256 := HB.out b (by rw [hb0]; exact List.getElem_mem hlt)
      obtain ⟨bo, off, rfl, hcell⟩ : ∃ bo off, ao = some ⟨bo, off, none⟩ ∧ ∀ j x, l[j]? = some x → w'.cell? ⟨bo, off + j, none⟩ = some (cB x) := by
        rcases HV.out with h | h
        · rw [h] at hlt; simp at hlt
        · exact h
      have hrd : w'.cell? ⟨bo, off + k, none⟩ = some (.int .u8 (b : Int)) := by
        have := hcell k b (by rw [hb0]; simp [hlt])
        exact this
      clear hcell HV
      have hx := byX C b hb1
      have HE : Hid (crF (hbN 4 (hbN 4 (C ^^^ BitVec.ofNat 32 b))) (l.drop (k + 1)) = crF c l) := by
        show _ = _
        rw [stp_4, hb0, ← crF_at hlt]; exact HC.out
      obtain ⟨X, hX⟩ : ∃ X, X = C ^^^ BitVec.ofNat 32 b := ⟨_, rfl⟩
      rw [← hX] at hx HE
      obtain ⟨d, t, hd, f1, f2, f3⟩ := nibF HT.out X
      obtain ⟨Y, hY⟩ : ∃ Y, Y = hbN 4 X := ⟨_, rfl⟩
      rw [← hY] at f3 HE
      obtain ⟨d2, t2, hd2, g1, g2, g3⟩ := nibF HT.out Y
      have hd' : ((d : Nat) : Int) < 16 := by omega
      have hd2' : ((d2 : Nat) : Int) < 16 := by omega
      have hbi : ((b : Nat) : Int) < 256 := by omega
      have mk : IntKind.i64.wrap ((k : Int) + 1) = (k : Int) + 1 := by have := HL.out; rw [IntKind.wrap_i64]; omega
      have HLT := hid13 hlt
      have HB0 := hid13 hb0
      clear hX hY HC hb0
      go_wp2
      go_step3
      refine ⟨rfl, ⟨rfl, AlI.mk (k + 1) (hbN 4 Y) _ _ _ _ _ _ _ _ _ _ _ _ _ _ _ _ _ _ _ _ _ _ _ _ _ _ _ _ HLT.out HE⟩, ?_⟩
      show l.length - ((k : Int) + 1).toNat < l.length - (k : Int).toNat
      have := HLT.out
      omega
    · have hq : (k : Int) = (l.length : Int) := by omega
      have HE : Hid (C = crF c l) := by
        have := HC.out
        rw [List.drop_eq_nil_of_le (by omega), crF_nil] at this
        exact this
      go_wp2
      simp only [Exit.jump]
      go_ret
      exact ⟨by rw [← HE.out]; rfl, rfl⟩

theorem flat_at {P : List (Value × List Nat)} {k : Nat} (hk : k < P.length) (C : BitVec 32) : crF C ((P.drop k).map (·.2)).flatten = crF (crF C (P[k].2)) ((P.drop (k + 1)).map (·.2)).flatten := by
  rw [List.drop_eq_getElem_cons hk, List.map_cons, List.flatten_cons, crF_app]
theorem notU (x : BitVec 32) : bits .xor .u32 IntKind.u32.max (uI x) = uI (~~~ x) := by
  have e : IntKind.u32.max = uI (BitVec.allOnes 32) := by rw [uI_eq]; decide
  rw [e, xor32, not_xor]
set_option maxRecDepth 100000 in
set_option maxHeartbeats 8000000 in
theorem sum_any (v : Value) (P : List (Value × List Nat)) (w : World) (hv : RwX (fun p : Value × List Nat => p.1) w v P) (hP : ∀ p ∈ P, RwX cB w p.1 p.2 ∧ p.2.length ≤ 9223372036854775806 ∧ ∀ b ∈ p.2, b < 256) (hl : P.length ≤ 9223372036854775806) (hT : Hf w) :
    Calls Tryd.prog 12 #[v] w fun e w' => e = .returned (.int .u32 (uI (crS (P.map (·.2)).flatten))) ∧ w' = w := by
  obtain ⟨ao, cc, rfl, hc, hv⟩ := hv
  have HV := hid13 hv
  have HT := hid13 hT
  have HP := hid13 hP
  have HL := hid13 hl
  have hs : ¬ IntKind.u32.signed = true := by decide
  clear hv hT hP hc hl
  go_enter Tryd.func12, Tryd.ntmps12
  go_wp2_with fail
  go_loopg [3, 5, 8] P.length (fun g a b i wr => wr = w ∧ ∃ (k : Nat) (C : BitVec 32), k + g = P.length ∧ a = .int .u32 (uI C) ∧ i = .int .i64 (k : Int) ∧ Hid (crF C ((P.drop k).map (·.2)).flatten = crF (BitVec.allOnes 32) (P.map (·.2)).flatten))
  case atStart =>
    refine ⟨rfl, 0, BitVec.allOnes 32, by omega, ?_, rfl, rfl⟩
    exact congrArg (Value.int .u32) (by rw [uI_eq]; decide)
  case round =>
    obtain ⟨rfl, k, C, hk, rfl, rfl, HC⟩ := hrel
    by_cases hlt : k < P.length
    · have hli : (k : Int) < (P.length : Int) := by omega
      obtain ⟨bo, off, rfl, hcell⟩ : ∃ bo off, ao = some ⟨bo, off, none⟩ ∧ ∀ j x, P[j]? = some x → wr.cell? ⟨bo, off + j, none⟩ = some x.1 := by
        rcases HV.out with h | h
        · rw [h] at hlt; simp at hlt
        · exact h
      obtain ⟨q, hq⟩ : ∃ q, q = P[k] := ⟨_, rfl⟩
      have hrd : wr.cell? ⟨bo, off + k, none⟩ = some q.1 := hcell k q (by rw [hq]; simp [hlt])
      have hq2 := hid13 (HP.out q (by rw [hq]; exact List.getElem_mem hlt))
      have HE : Hid (crF (crF C q.2) ((P.drop (k + 1)).map (·.2)).flatten = crF (BitVec.allOnes 32) (P.map (·.2)).flatten) := by
        show _ = _
        rw [hq, ← flat_at hlt]; exact HC.out
      have mk : IntKind.i64.wrap ((k : Int) + 1) = (k : Int) + 1 := by have := HL.out; rw [IntKind.wrap_i64]; omega
      have HK := hid13 hk
      have HLT := hid13 hlt
      clear hq hcell HC hk
      obtain ⟨qv, ql⟩ := q
      go_wp2_with (go_at_call 22; refine (along_any C qv ql _ hq2.out.1 hq2.out.2.1 hq2.out.2.2 HT.out).mono ?_; rintro e w1 ⟨rfl, rfl⟩)
      go_roundg (gk - 1)
      case measure => have := HK.out; have := HLT.out; omega
      case rel => exact ⟨rfl, k + 1, _, by have := HK.out; have := HLT.out; omega, rfl, rfl, HE⟩
    · have hli : ¬ (k : Int) < (P.length : Int) := by omega
      have HE : Hid (~~~ C = crS (P.map (·.2)).flatten) := by
        have := HC.out
        rw [List.drop_eq_nil_of_le (by omega), List.map_nil, List.flatten_nil, crF_nil] at this
        show ~~~ C = crS _
        unfold crS
        rw [this]
      have hn := notU C
      go_wp2_with fail
      go_ret
      exact ⟨congrArg Ending.returned (congrArg (Value.int .u32) (by first | exact congrArg uI HE.out | (rw [← HE.out]; exact hn))), rfl⟩
end Go.Proofs.YtbamogpbjdobkaaDoor
namespace Go.Proofs.YtbamogpbjdobkaaDoor
open Go.RowKit
set_option linter.unusedSimpArgs false
set_option linter.unusedVariables false

theorem known_sum : crS [49, 50, 51, 52, 53, 54, 55, 56, 57] = 3808858755#32 := by decide +kernel
theorem known_U : fdU [(5 : Int), 5, 7, 5] 4 = [2952790016#32] := by decide +kernel
theorem known_R : fdR [(5 : Int), 5, 7, 5] 4 = [5, 7, 5] := by decide +kernel
theorem lit_rwx {α : Type} {f : α → Value} (w : World) (cs : Array Value) (T : TypeId) (fr : Nat × Nat) (l : List α) (h : cs.toList = l.map f) : RwX f (w.alloc (.cells cs T fr)) (.slice (some ⟨w.heap.size, 0, none⟩) l.length l.length) l := by
  refine ⟨_, _, rfl, Nat.le_refl _, .inr ⟨w.heap.size, 0, rfl, fun j x hj => ?_⟩⟩
  have e : (w.alloc (.cells cs T fr)).heap[w.heap.size]? = some (.cells cs T fr) := by
    show (w.heap.push _)[w.heap.size]? = _
    simp
  have hc : cs[j]? = some (f x) := by
    rw [← Array.getElem?_toList, h, List.getElem?_map, hj]; rfl
  rw [Nat.zero_add]
  rw [cell_of_row _ _ _ _ _ _ e]; exact hc
set_option maxRecDepth 100000 in
set_option maxHeartbeats 16000000 in
theorem known13 (w : World) (hT : Hf w) :
    Calls Tryd.prog 4 #[] w fun e w' => e = .returned (.bool true) ∧ Below w.heap.size w w' := by
  have HT := hid13 hT
  clear hT
  have q1 := bl1 w (.cells #[.int .i64 5, .int .i64 5, .int .i64 7, .int .i64 5] 3)
  have HB1 := hid13 q1
  have HV1 := hid13 (lit_rwx (f := cI) w #[.int .i64 5, .int .i64 5, .int .i64 7, .int .i64 5] 3 (0, 0) [5, 5, 7, 5] rfl)
  clear q1
  go_enter Tryd.func4, Tryd.ntmps4
  go_wp2_with fail
  refine (foldI_any _ [5, 5, 7, 5] _ HV1.out (by decide)).mono ?_
  rintro e w1 ⟨vf, rfl, hF⟩
  have hB : Below w.heap.size w w1 := keepb hF.b HB1.out
  rw [show ([5, 5, 7, 5] : List Int).length = 4 from rfl, known_U, known_R] at hF
  have hs1 : (w.alloc (.cells #[.int .i64 5, .int .i64 5, .int .i64 7, .int .i64 5] 3)).heap.size = w.heap.size + 1 := by simp
  rw [hs1, show (([5, 5, 7, 5] : List Int).length + 31) / 32 = 1 from rfl]
  have hm0 : w1.cell? ⟨w.heap.size + 1, 0, none⟩ = some (.int .u32 2952790016) := by
    have := (hF.cell 0 (by decide)).1
    rw [show ([2952790016#32] : List (BitVec 32)).getD (0 / 32) 0#32 = 2952790016#32 from rfl, uI_of 2952790016 (by decide)] at this
    rw [hs1] at this
    exact this
  obtain ⟨gf, cf, rfl, hr1⟩ : ∃ gf cf, vf = .slice (some ⟨gf, 0, none⟩) 3 cf ∧ w1.cell? ⟨gf, 1, none⟩ = some (.int .i64 7) := by
    have hr := hF.r
    rcases hr.2 with ⟨-, h⟩ | ⟨g, cap, cur, rfl, -⟩
    · cases h
    · exact ⟨g, cap, rfl, by rw [hr.cellAt 1 (by decide)]; rfl⟩
  have HT1 := hid13 (HT.out.below hB)
  have HB := hid13 hB
  clear hF hB HB1 HV1 hs1 HT
  have q2 := bl1 w1 (.cells #[.int .u8 49, .int .u8 50, .int .u8 51, .int .u8 52] 5 (4, 5))
  have r2 := lit_rwx (f := cB) w1 #[.int .u8 49, .int .u8 50, .int .u8 51, .int .u8 52] 5 (4, 5) [49, 50, 51, 52] rfl
  obtain ⟨w2, hw2⟩ : ∃ w2, w2 = w1.alloc (.cells #[.int .u8 49, .int .u8 50, .int .u8 51, .int .u8 52] 5 (4, 5)) := ⟨_, rfl⟩
  have e2 : w2.heap.size = w1.heap.size + 1 := by rw [hw2]; simp
  rw [← hw2] at q2 r2
  have q3 := bl1 w2 (.cells #[.int .u8 53, .int .u8 54, .int .u8 55, .int .u8 56, .int .u8 57] 5 (5, 6))
  have r3 := lit_rwx (f := cB) w2 #[.int .u8 53, .int .u8 54, .int .u8 55, .int .u8 56, .int .u8 57] 5 (5, 6) [53, 54, 55, 56, 57] rfl
  obtain ⟨w3, hw3⟩ : ∃ w3, w3 = w2.alloc (.cells #[.int .u8 53, .int .u8 54, .int .u8 55, .int .u8 56, .int .u8 57] 5 (5, 6)) := ⟨_, rfl⟩
  have e3 : w3.heap.size = w1.heap.size + 2 := by rw [hw3, ← Nat.add_right_comm w1.heap.size 1 1, ← e2]; simp
  rw [← hw3] at q3 r3
  rw [e2] at r3
  have q4 := bl1 w3 (.cells #[.slice (some ⟨w1.heap.size, 0, none⟩) 4 4, .slice (some ⟨w1.heap.size + 1, 0, none⟩) 5 5] 34)
  have r4 := lit_rwx (f := fun p : Value × List Nat => p.1) w3 #[.slice (some ⟨w1.heap.size, 0, none⟩) 4 4, .slice (some ⟨w1.heap.size + 1, 0, none⟩) 5 5] 34 (0, 0) [(.slice (some ⟨w1.heap.size, 0, none⟩) 4 4, [49, 50, 51, 52]), (.slice (some ⟨w1.heap.size + 1, 0, none⟩) 5 5, [53, 54, 55, 56, 57])] rfl
  rw [e3] at r4
  have HS := sum_any _ _ _ r4 (by
    intro p hp
    simp only [List.mem_cons, List.mem_nil_iff, or_false] at hp
    rcases hp with rfl | rfl
    · exact ⟨(r2.below q3).below q4, by show 4 ≤ _; decide, by show ∀ b ∈ [49, 50, 51, 52], b < 256; decide⟩
    · exact ⟨r3.below q4, by show 5 ≤ _; decide, by show ∀ b ∈ [53, 54, 55, 56, 57], b < 256; decide⟩) (by show 2 ≤ _; decide) (((HT1.out.below q2).below q3).below q4)
  have HB4 := hid13 (keepb q4 (keepb q3 (keepb q2 HB.out)))
  have hsum : uI (crS (([(.slice (some ⟨w1.heap.size, 0, none⟩) 4 4, [49, 50, 51, 52]), (.slice (some ⟨w1.heap.size + 1, 0, none⟩) 5 5, [53, 54, 55, 56, 57])] : List (Value × List Nat)).map (·.2)).flatten) = 3808858755 := by
    show uI (crS [49, 50, 51, 52, 53, 54, 55, 56, 57]) = 3808858755
    rw [known_sum, uI_of 3808858755 (by decide)]
    rfl
  rw [hsum] at HS
  have hm4 := keepc q4 (keepc q3 (keepc q2 hm0))
  have hr4 := keepc q4 (keepc q3 (keepc q2 hr1))
  rw [hw3, hw2] at HS HB4 hm4 hr4
  have HS' := hid13 HS
  have HM4 := hid13 hm4
  have HR4 := hid13 hr4
  clear q2 r2 q3 r3 q4 r4 HS hsum hm0 hr1 e2 e3 hw2 hw3 w2 w3 HB HT1 hm4 hr4
  have kc := fun (w : World) (C : Array Value) (n c : Nat) => Lib.run_convert_bytes_const (P := Tryd.prog) w 34 5 C n c Tryd.underlying34 Tryd.underlying5
  have kc2 := kc (w1.alloc (.cells #[.int .u8 49, .int .u8 50, .int .u8 51, .int .u8 52] 5 (4, 5))) #[.int .u8 53, .int .u8 54, .int .u8 55, .int .u8 56, .int .u8 57] 5 5
  rw [show (w1.alloc (.cells #[.int .u8 49, .int .u8 50, .int .u8 51, .int .u8 52] 5 (4, 5))).heap.size = w1.heap.size + 1 by simp] at kc2
  go_wp2_with fail
  refine HS'.out.mono ?_
  rintro e w5 ⟨rfl, hw5⟩
  rw [← hw5] at HM4 HR4 HB4
  have hm5 := HM4.out
  have hr5 := HR4.out
  clear HS' hw5 HM4 HR4 kc kc2
  go_wp2
  go_ret
  exact ⟨rfl, HB4.out⟩
end Go.Proofs.YtbamogpbjdobkaaDoor
