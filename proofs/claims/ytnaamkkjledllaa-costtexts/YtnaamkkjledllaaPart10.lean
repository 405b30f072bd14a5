/-
  Part 10 of the proof: 1 texts, one behind the other.
-/
import Derived.Test.YtnaamkkjledllaaPart9
/-
  What the call of the document's Parse of a number of 192 bits does.
-/
namespace Go.Proofs.Ytnaamkkjledllaa
open Go.RowKit
set_option linter.unusedSimpArgs false
set_option linter.unusedVariables false

structure RT9 (V : World) (upd : World → World) (S m : Nat) (f : Nat → Bool) (W : World) : Prop where
  all : f S = true → ∀ j, j < m → f j = true
  bel : f S = false → Below V.heap.size V W
  fin : f S = true → ∃ V0, Below V.heap.size V V0 ∧ W = upd V0
section
variable {V : World} {upd : World → World} {S m : Nat} {f f' : Nat → Bool} {W W' : World} {i : Nat}
theorem RT9.start (h : Below V.heap.size V W) (hf : ∀ j, f j = false) : RT9 V upd S m f W := ⟨fun q => (by rw [hf] at q; cases q), fun _ => h, fun q => (by rw [hf] at q; cases q)⟩
theorem RT9.now (k : RT9 V upd S m f W) (hi : i < m) (hun : f i = false) : f S = false := by
  cases h : f S with
  | false => rfl
  | true => have := k.all h i hi; rw [hun] at this; cases this
theorem RT9.quiet (k : RT9 V upd S m f W) (hi : i ≠ S) (hs : f' i = true) (ho : ∀ j, j ≠ i → f' j = f j) : RT9 V upd S m f' W := by
  have e := ho S (Ne.symm hi)
  refine ⟨fun h j hj => ?_, fun h => k.bel (by rwa [← e]), fun h => k.fin (by rwa [← e])⟩
  by_cases q : j = i
  · rw [q]; exact hs
  · rw [ho j q]; exact k.all (by rwa [← e]) j hj
theorem RT9.call (k : RT9 V upd S m f W) (hi : i < m) (hne : i ≠ S) (hun : f i = false) (hs : f' i = true) (ho : ∀ j, j ≠ i → f' j = f j) (hb : Below W.heap.size W W') : RT9 V upd S m f' W' := by
  have e := ho S (Ne.symm hne)
  have n := k.now hi hun
  exact ⟨fun h => (by rw [e, n] at h; cases h), fun _ => keepb hb (k.bel n), fun h => (by rw [e, n] at h; cases h)⟩
theorem RT9.st (k : RT9 V upd S m f W) (hun : f S = false) (hs : f' S = true) (ho : ∀ j, j ≠ S → f' j = f j) (hall : ∀ j, j < m → f j = true) : RT9 V upd S m f' (upd W) := by
  refine ⟨fun _ j hj => ?_, fun h => (by rw [hs] at h; cases h), fun _ => ⟨W, k.bel hun, rfl⟩⟩
  by_cases q : j = S
  · rw [q]; exact hs
  · rw [ho j q]; exact hall j hj
end
theorem rof_cost (d : Nat) (h : d < 18446744073709551616) : (.agg #[.int .u64 0, .int .u64 0, .int .u64 (d : Int)] : Value) = costV d := by
  unfold costV cost0 cost1 cost2
  have a : d / 340282366920938463463374607431768211456 = 0 := by omega
  have b : d / 18446744073709551616 % 18446744073709551616 = 0 := by omega
  have c : d % 18446744073709551616 = d := by omega
  rw [a, b, c]; rfl
/-- What is refused as no number. -/
theorem rnum9 (s : ByteArray) : (s.size = 0 ∧ num9 s = false) ∨ (¬ s.size = 0 ∧ 1 < s.size ∧ bAt9 s 0 = 48 ∧ num9 s = false) ∨ (¬ s.size = 0 ∧ ¬ (1 < s.size ∧ bAt9 s 0 = 48) ∧ num9 s = all9 s s.size) := by
  unfold num9
  by_cases h : s.size = 0
  · left; exact ⟨h, by simp [h]⟩
  · right
    by_cases g : 1 < s.size ∧ bAt9 s 0 = 48
    · left
      refine ⟨h, g.1, g.2, ?_⟩
      rw [decide_eq_false (show ¬ (¬ s.size = 0 ∧ (bAt9 s 0 = 48 → s.size = 1)) from fun q => by have := q.2 g.2; omega)]
      rfl
    · right
      refine ⟨h, g, ?_⟩
      rw [decide_eq_true (show ¬ s.size = 0 ∧ (bAt9 s 0 = 48 → s.size = 1) from ⟨h, fun q => by
        apply Classical.byContradiction; intro r; exact g ⟨by omega, q⟩⟩)]
      rfl
set_option maxRecDepth 20000 in
set_option maxHeartbeats 8000000 in
theorem rparse9_any (s : ByteArray) (w : World) (hs : s.size ≤ maxLen) :
    Calls Try.prog 23 #[.string s] w fun e w' => e = .returned (.tuple #[costV (par9N s), .int .i64 (par9E s)]) ∧ Below w.heap.size w w' := by
  unfold maxLen at hs
  have B0 := hid9 (bl1 w (.cells #[.int .u64 0, .int .u64 0, .int .u64 0] 24))
  have A0 := hid9 (atc_new w w.heap.size 0 0 0 24 rfl)
  have HP0 : Hid (num9 s = false → par9N s = 0 ∧ par9E s = 12) := fun h => by unfold par9N par9E; rw [h]; exact ⟨rfl, rfl⟩
  have HB := hid9 (fun k (hk : k < s.size) => bAt9_in s k hk)
  rcases rnum9 s with ⟨h0, hn⟩ | ⟨h0, h1, h2, hn⟩ | ⟨h0, h1, hn⟩
  · have HV := hid9 (HP0.out hn)
    have hz : (s.size : Int) = 0 := by omega
    clear hn HP0
    go_enter Try.func23, Try.ntmps23
    go_wp2
    exact bodyPost_ret (v := .tuple #[.agg #[.int .u64 0, .int .u64 0, .int .u64 0], .int .i64 12]) (by simp [results, Try.results23, go_sem]) rfl ⟨by rw [HV.out.1, HV.out.2, costV_zero], B0.out⟩
  · have HV := hid9 (HP0.out hn)
    have hb0 := HB.out 0 (by omega)
    rw [h2] at hb0
    have hz : ((s.size : Int) == 0) = false := by rw [beq_eq_false_iff_ne]; omega
    have h1' : (1 : Int) < s.size := by omega
    have hp : 0 < s.size := by omega
    clear hn HP0 HB
    go_enter Try.func23, Try.ntmps23
    go_wp2
    exact bodyPost_ret (v := .tuple #[.agg #[.int .u64 0, .int .u64 0, .int .u64 0], .int .i64 12]) (by simp [results, Try.results23, go_sem]) rfl ⟨by rw [HV.out.1, HV.out.2, costV_zero], B0.out⟩
  · have HNm := hid9 hn
    have hp : 0 < s.size := Nat.pos_of_ne_zero h0
    have hb0 := HB.out 0 hp
    have hz : ((s.size : Int) == 0) = false := by rw [beq_eq_false_iff_ne]; omega
    have hway : ¬ (1 : Int) < s.size ∨ ((1 : Int) < s.size ∧ (bAt9 s 0 == 48) = false) := by
      by_cases q : 1 < s.size
      · right; exact ⟨by omega, by simpa using fun r => h1 ⟨q, r⟩⟩
      · left; omega
    clear hn h1
    rcases hway with hw1 | ⟨hw1, hw2⟩
    · go_enter Try.func23, Try.ntmps23
      go_wp2_with fail
      go_loopw [4] (fun i wr => ∃ k : Nat, k ≤ s.size ∧ i = .int .i64 k ∧ Hid (all9 s k = true) ∧ wr = w.alloc (.cells #[.int .u64 0, .int .u64 0, .int .u64 0] 24)) (fun i _ => s.size - (intOf i).toNat)
      case atStart => exact ⟨0, by omega, rfl, rfl, rfl⟩
      case round =>
        clear hw1 hb0
        obtain ⟨k, hk, rfl, HA, rfl⟩ := hrel
        by_cases hlt : (k : Int) < (s.size : Int)
        · have hks : k < s.size := by omega
          have hbt := HB.out k hks
          have bd := bAt9_bd s k
          have HP : Hid (all9 s (k + 1) = (all9 s k && dig9 (bAt9 s k))) := rfl
          have mk : IntKind.i64.wrap ((k : Int) + 1) = (k : Int) + 1 := by rw [IntKind.wrap_i64]; omega
          generalize bAt9 s k = c at *
          by_cases c1 : c < 48
          · have HV : Hid (par9N s = 0 ∧ par9E s = 12) := by
              have q : all9 s (k + 1) = false := by rw [HP.out, show dig9 c = false from decide_eq_false (by omega)]; simp
              refine HP0.out ?_
              rw [HNm.out]
              cases e : all9 s s.size with
              | false => rfl
              | true => have := all9_le s (k + 1) s.size (by omega) e; rw [q] at this; cases this
            clear HP
            go_wp2
            exact bodyPost_ret (v := .tuple #[.agg #[.int .u64 0, .int .u64 0, .int .u64 0], .int .i64 12]) (by simp [results, Try.results23, go_sem]) rfl ⟨by rw [HV.out.1, HV.out.2, costV_zero], B0.out⟩
          · by_cases c2 : 57 < c
            · have HV : Hid (par9N s = 0 ∧ par9E s = 12) := by
                have q : all9 s (k + 1) = false := by rw [HP.out, show dig9 c = false from decide_eq_false (by omega)]; simp
                refine HP0.out ?_
                rw [HNm.out]
                cases e : all9 s s.size with
                | false => rfl
                | true => have := all9_le s (k + 1) s.size (by omega) e; rw [q] at this; cases this
              clear HP
              go_wp2
              exact bodyPost_ret (v := .tuple #[.agg #[.int .u64 0, .int .u64 0, .int .u64 0], .int .i64 12]) (by simp [results, Try.results23, go_sem]) rfl ⟨by rw [HV.out.1, HV.out.2, costV_zero], B0.out⟩
            · have HA2 : Hid (all9 s (k + 1) = true) := by show _ = _; rw [HP.out, HA.out, show dig9 c = true from decide_eq_true (by omega)]; rfl
              clear HP HA
              go_wp2
              go_roundw
              case rel => exact ⟨k + 1, by omega, by go_num, HA2, by first | rfl | trivial⟩
              case measure => simp [intOf]; omega
        · have hk8 : k = s.size := by omega
          have HP : Hid (par9N s = fitN (val9 s s.size) ∧ par9E s = fitE9 (val9 s s.size)) := by
            have hn : num9 s = true := by rw [HNm.out, ← hk8]; exact HA.out
            show _ ∧ _; unfold par9N par9E; rw [if_pos hn, if_pos hn]; exact ⟨rfl, rfl⟩
          have HD : Hid (∀ k, k < s.size → 48 ≤ bAt9 s k ∧ bAt9 s k ≤ 57) := by
            intro k' hk'
            have h := all9_le s (k' + 1) k (by omega) HA.out
            simp only [all9, Bool.and_eq_true] at h
            exact of_decide_eq_true h.2
          have hd : decide ((k : Int) < (s.size : Int)) = false := by simpa using hlt
          have hd2 : ¬ k < s.size := by omega
          clear hk8 HA HNm HP0 hlt
          have A1 := hid9 (atc_new (w.alloc (.cells #[.int .u64 0, .int .u64 0, .int .u64 0] 24)) (w.heap.size + 1) 0 0 0 24 (by simp))
          have B1 := hid9 (bl1 (w.alloc (.cells #[.int .u64 0, .int .u64 0, .int .u64 0] 24)) (.cells #[.int .u64 0, .int .u64 0, .int .u64 0] 24))
          go_wp2_with fail
          go_loopw [6] (fun i wr => ∃ k : Nat, k ≤ s.size ∧ i = .int .i64 k ∧ val9 s k < 6277101735386680763835789423207666416102355444464034512896 ∧ Hid (AtC wr (w.heap.size + 1) (cost0 (val9 s k)) (cost1 (val9 s k)) (cost2 (val9 s k)) ∧ AtC wr w.heap.size 0 0 0 ∧ Below w.heap.size w wr)) (fun i _ => s.size - (intOf i).toNat)
          case atStart => exact ⟨0, by omega, rfl, by simp [val9], ⟨by simp only [val9]; rw [cost_zero.1, cost_zero.2.1, cost_zero.2.2]; exact A1.out, A0.out.below B1.out, keepb B1.out B0.out⟩⟩
          case round =>
            clear A0 B0 A1 B1 hd hd2
            obtain ⟨k, hk, rfl, hv, HE⟩ := hrel
            by_cases hlt : (k : Int) < (s.size : Int)
            · have hks : k < s.size := by omega
              have hbt := HB.out k hks
              have bd := HD.out k hks
              have HV : Hid (val9 s (k + 1) = val9 s k * 10 + (bAt9 s k - 48).toNat) := rfl
              have mk : IntKind.i64.wrap ((k : Int) + 1) = (k : Int) + 1 := by rw [IntKind.wrap_i64]; omega
              have HK := hid9 hk
              have KM := fun w => rmul9_any (val9 s k) 10 w hv (by decide)
              rw [show ((10 : Nat) : Int) = 10 from rfl] at KM
              by_cases cm : val9 s k * 10 < 6277101735386680763835789423207666416102355444464034512896
              · rw [(fit_in cm).1, (fit_in cm).2] at KM
                have ed : ((bAt9 s k - 48).toNat : Int) = bAt9 s k - 48 := by omega
                have KO := fun w => rof9_any (bAt9 s k - 48) w
                have KA := fun w => raddc_any (val9 s k * 10) (bAt9 s k - 48).toNat w cm (by omega)
                rw [← HV.out, ← rof_cost (bAt9 s k - 48).toNat (by omega), ed] at KA
                have w8 : IntKind.u8.wrap (bAt9 s k - 48) = bAt9 s k - 48 := by rw [IntKind.wrap_u8]; omega
                have w9 : IntKind.u64.wrap (bAt9 s k - 48) = bAt9 s k - 48 := by rw [IntKind.wrap_u64]; omega
                generalize hc : bAt9 s k = c at *
                have Hc := hid9 hc
                clear HD HB hv hk ed hc
                generalize hd : c - 48 = d at *
                have w7 : IntKind.u8.wrap (c - 48) = d := by rw [hd]; exact w8
                clear hd w8
                unfold costV at KM KA
                obtain ⟨ea, hea⟩ : ∃ q, q = fitE9 (val9 s (k + 1)) := ⟨_, rfl⟩
                obtain ⟨t0, ht0⟩ : ∃ q, q = cost0 (fitN (val9 s (k + 1))) := ⟨_, rfl⟩
                obtain ⟨t1, ht1⟩ : ∃ q, q = cost1 (fitN (val9 s (k + 1))) := ⟨_, rfl⟩
                obtain ⟨t2, ht2⟩ : ∃ q, q = cost2 (fitN (val9 s (k + 1))) := ⟨_, rfl⟩
                rw [← hea, ← ht0, ← ht1, ← ht2] at KA
                have HT := hid9 (And.intro hea (And.intro ht0 (And.intro ht1 ht2)))
                clear hea ht0 ht1 ht2 cm
                generalize cost0 (val9 s k * 10) = p0 at *
                generalize cost1 (val9 s k * 10) = p1 at *
                generalize cost2 (val9 s k * 10) = p2 at *
                generalize cost0 (val9 s k) = x0 at *
                generalize cost1 (val9 s k) = x1 at *
                generalize cost2 (val9 s k) = x2 at *
                obtain ⟨⟨y0, y1, y2, -, -, -⟩, -, -⟩ := HE.out
                go_wp2_with fail
                refine (KM _).mono ?_
                rintro e v7 ⟨rfl, hb⟩
                have q7 := bl1 v7 (.cells #[.int .u64 p0, .int .u64 p1, .int .u64 p2] 24)
                have HX := hid9 ((HE.out.1.below hb).below q7)
                have HR := hid9 ((HE.out.2.1.below hb).below q7)
                have HBb := hid9 (keepb q7 (keepb hb HE.out.2.2))
                have HN := hid9 (atc_new v7 v7.heap.size p0 p1 p2 24 rfl)
                have Hlt : Hid (w.heap.size + 1 < v7.heap.size) := (HE.out.1.below hb).lt
                clear HE hb q7 y0 y1 y2 KM
                go_wp2_with fail
                revert HX HR HBb HN Hlt
                generalize v7.alloc (.cells #[.int .u64 p0, .int .u64 p1, .int .u64 p2] 24) = V7
                generalize v7.heap.size = N7
                intro HX HR HBb HN Hlt
                have HC : Hid (∀ X, Below V7.heap.size V7 X → AtC X N7 p0 p1 p2) := fun X hb => HN.out.below hb
                refine gh_region (γ := Unit) (qpOk 13 13 (by decide) (fun N => by kernel_rfl) (by kernel_rfl) (by kernel_rfl) (by kernel_rfl) (by kernel_rfl)) (by kernel_rfl) (by kernel_rfl) [some 54, some 55, some 56, some 57, some 58, some 59, some 60, some 61, some 53, some 62, some 63, none, some 8] (fun g => [.agg #[.int .u64 p0, .int .u64 p1, .int .u64 p2], .string s, .int .i64 (k : Int), .int .u8 c, .int .u8 d, .int .u64 d, .agg #[.int .u64 0, .int .u64 0, .int .u64 d], .tuple #[.agg #[.int .u64 t0, .int .u64 t1, .int .u64 t2], .int .i64 ea], .tuple #[.agg #[.int .u64 t0, .int .u64 t1, .int .u64 t2], .int .i64 ea], .agg #[.int .u64 t0, .int .u64 t1, .int .u64 t2], .int .i64 ea, undef, .int .i64 ea]) (by kernel_rfl) (by simp) (fun lp g X => RT9 V7 (fun X => ((X.setCell ⟨N7, 0, none⟩ (.int .u64 t0)).setCell ⟨N7, 1, none⟩ (.int .u64 t1)).setCell ⟨N7, 2, none⟩ (.int .u64 t2)) 11 10 (fun j => lp.getD j false) X) () (RT9.start (below_drewN (Below.refl _ _) 1) (fun j => by simp [Array.getElem?_replicate]; split <;> rfl)) ?step ?fin
                case step =>
                  intro q o lp g w' a' ho hsz hun hdep hR hS K Q' hK
                  have hfl : ∀ j, j ≠ q → (lp.setIfInBounds q true).getD j false = lp.getD j false := fun j hj => by rw [Array.getD_eq_getD_getElem?, Array.getD_eq_getD_getElem?, Array.getElem?_setIfInBounds_ne (by omega)]
                  have hq : q < 13 := (List.getElem?_eq_some_iff.mp ho).1
                  have hft : (lp.setIfInBounds q true).getD q false = true := getD_set_same (by rw [hsz]; exact hq)
                  match q, ho, hun, hdep, hK, hfl, hft, hq with
                  | 0, ho, hun, hdep, hK, hfl, hft, _ =>
                    obtain rfl := Option.some.inj ho
                    have o7 : a'.tmps[7]? = some (.pointer (some ⟨N7, 0, none⟩)) := (hS.old9 7 (by simp)).trans rfl
                    obtain ⟨p0', p1', p2', -, -, -⟩ := HC.out w' (hR.bel (hR.now (i := 0) (by decide) hun))
                    have hK' := hK g w' (fun _ _ _ _ _ _ => rfl) (hR.quiet (i := 0) (by decide) hft hfl) (.agg #[.int .u64 p0, .int .u64 p1, .int .u64 p2]) (by simp only [valO, Option.bind_some]; simp only [putAll, Act.put, List.setIfInBounds_toArray, List.set_cons_zero, List.set_cons_succ]; rfl)
                    clear hS hdep hR
                    refine gh_quiet9 (v := .agg #[.int .u64 p0, .int .u64 p1, .int .u64 p2]) ?_ ?_
                    · (simp only [execOp, Act.eval, o7]; go_simp; first | done | (simp; done) | (simp [*]; done) | omega | (simp; omega))
                    · exact hK'
                  | 1, ho, hun, hdep, hK, hfl, hft, _ =>
                    obtain rfl := Option.some.inj ho
                    have o0 : a'.tmps[0]? = some (.string s) := (hS.old9 0 (by simp)).trans rfl
                    obtain ⟨p0', p1', p2', -, -, -⟩ := HC.out w' (hR.bel (hR.now (i := 1) (by decide) hun))
                    have hK' := hK g w' (fun _ _ _ _ _ _ => rfl) (hR.quiet (i := 1) (by decide) hft hfl) (.string s) (by simp only [valO, Option.bind_some]; simp only [putAll, Act.put, List.setIfInBounds_toArray, List.set_cons_zero, List.set_cons_succ]; rfl)
                    clear hS hdep hR
                    refine gh_quiet9 (v := .string s) ?_ ?_
                    · (simp only [execOp, Act.eval, o0]; go_simp; first | done | (simp; done) | (simp [*]; done) | omega | (simp; omega))
                    · exact hK'
                  | 2, ho, hun, hdep, hK, hfl, hft, _ =>
                    obtain rfl := Option.some.inj ho
                    have o6 : a'.tmps[6]? = some (.int .i64 (k : Int)) := (hS.old9 6 (by simp)).trans rfl
                    obtain ⟨p0', p1', p2', -, -, -⟩ := HC.out w' (hR.bel (hR.now (i := 2) (by decide) hun))
                    have hK' := hK g w' (fun _ _ _ _ _ _ => rfl) (hR.quiet (i := 2) (by decide) hft hfl) (.int .i64 (k : Int)) (by simp only [valO, Option.bind_some]; simp only [putAll, Act.put, List.setIfInBounds_toArray, List.set_cons_zero, List.set_cons_succ]; rfl)
                    clear hS hdep hR
                    refine gh_quiet9 (v := .int .i64 (k : Int)) ?_ ?_
                    · (simp only [execOp, Act.eval, o6]; go_simp; first | done | (simp; done) | (simp [*]; done) | omega | (simp; omega))
                    · exact hK'
                  | 3, ho, hun, hdep, hK, hfl, hft, _ =>
                    obtain rfl := Option.some.inj ho
                    have d1 : lp.getD 1 false = true := hdep { on := 1, ground := .data } (by simp) rfl
                    have e55 : a'.tmps[55]? = some (.string s) := (hS.don 1 _ 55 rfl d1 rfl).trans (by simp only [putAll, Act.put, List.setIfInBounds_toArray, List.set_cons_zero, List.set_cons_succ]; rfl)
                    have d2 : lp.getD 2 false = true := hdep { on := 2, ground := .data } (by simp) rfl
                    have e56 : a'.tmps[56]? = some (.int .i64 (k : Int)) := (hS.don 2 _ 56 rfl d2 rfl).trans (by simp only [putAll, Act.put, List.setIfInBounds_toArray, List.set_cons_zero, List.set_cons_succ]; rfl)
                    obtain ⟨p0', p1', p2', -, -, -⟩ := HC.out w' (hR.bel (hR.now (i := 3) (by decide) hun))
                    have hK' := hK g w' (fun _ _ _ _ _ _ => rfl) (hR.quiet (i := 3) (by decide) hft hfl) (.int .u8 c) (by simp only [valO, Option.bind_some]; simp only [putAll, Act.put, List.setIfInBounds_toArray, List.set_cons_zero, List.set_cons_succ]; rfl)
                    clear hS hdep hR
                    refine gh_quiet9 (v := .int .u8 c) ?_ ?_
                    · (simp only [execOp, Act.eval, e55, e56]; go_simp; first | done | (simp; done) | (simp [*]; done) | omega | (simp; omega))
                    · exact hK'
                  | 4, ho, hun, hdep, hK, hfl, hft, _ =>
                    obtain rfl := Option.some.inj ho
                    have d3 : lp.getD 3 false = true := hdep { on := 3, ground := .data } (by simp) rfl
                    have e57 : a'.tmps[57]? = some (.int .u8 c) := (hS.don 3 _ 57 rfl d3 rfl).trans (by simp only [putAll, Act.put, List.setIfInBounds_toArray, List.set_cons_zero, List.set_cons_succ]; rfl)
                    obtain ⟨p0', p1', p2', -, -, -⟩ := HC.out w' (hR.bel (hR.now (i := 4) (by decide) hun))
                    have hK' := hK g w' (fun _ _ _ _ _ _ => rfl) (hR.quiet (i := 4) (by decide) hft hfl) (.int .u8 d) (by simp only [valO, Option.bind_some]; simp only [putAll, Act.put, List.setIfInBounds_toArray, List.set_cons_zero, List.set_cons_succ]; rfl)
                    clear hS hdep hR
                    refine gh_quiet9 (v := .int .u8 d) ?_ ?_
                    · (simp only [execOp, Act.eval, e57]; go_simp; first | done | (simp; done) | (simp [*]; done) | omega | (simp; omega))
                    · exact hK'
                  | 5, ho, hun, hdep, hK, hfl, hft, _ =>
                    obtain rfl := Option.some.inj ho
                    have d4 : lp.getD 4 false = true := hdep { on := 4, ground := .data } (by simp) rfl
                    have e58 : a'.tmps[58]? = some (.int .u8 d) := (hS.don 4 _ 58 rfl d4 rfl).trans (by simp only [putAll, Act.put, List.setIfInBounds_toArray, List.set_cons_zero, List.set_cons_succ]; rfl)
                    obtain ⟨p0', p1', p2', -, -, -⟩ := HC.out w' (hR.bel (hR.now (i := 5) (by decide) hun))
                    have hK' := hK g w' (fun _ _ _ _ _ _ => rfl) (hR.quiet (i := 5) (by decide) hft hfl) (.int .u64 d) (by simp only [valO, Option.bind_some]; simp only [putAll, Act.put, List.setIfInBounds_toArray, List.set_cons_zero, List.set_cons_succ]; rfl)
                    clear hS hdep hR
                    refine gh_quiet9 (v := .int .u64 d) ?_ ?_
                    · (simp only [execOp, Act.eval, e58]; go_simp; first | done | (simp; done) | (simp [*]; done) | omega | (simp; omega))
                    · exact hK'
                  | 6, ho, hun, hdep, hK, hfl, hft, _ =>
                    obtain rfl := Option.some.inj ho
                    have d5 : lp.getD 5 false = true := hdep { on := 5, ground := .data } (by simp) rfl
                    have e59 : a'.tmps[59]? = some (.int .u64 d) := (hS.don 5 _ 59 rfl d5 rfl).trans (by simp only [putAll, Act.put, List.setIfInBounds_toArray, List.set_cons_zero, List.set_cons_succ]; rfl)
                    have KE := KO w'
                    clear hdep
                    unfold Oper.wp
                    simp only [execOp, Act.eval]
                    simp [go_sem, e59, Oper.upon]
                    refine KE.mono ?_
                    rintro e W2 ⟨rfl, hb2⟩
                    exact hK g W2 (fun _ _ _ _ _ _ => rfl) (hR.call (i := 6) (by decide) (by decide) hun hft hfl hb2) _ (by simp only [valO, Option.bind_some]; simp only [putAll, Act.put, List.setIfInBounds_toArray, List.set_cons_zero, List.set_cons_succ]; rfl)
                  | 7, ho, hun, hdep, hK, hfl, hft, _ =>
                    obtain rfl := Option.some.inj ho
                    have d0 : lp.getD 0 false = true := hdep { on := 0, ground := .data } (by simp) rfl
                    have e54 : a'.tmps[54]? = some (.agg #[.int .u64 p0, .int .u64 p1, .int .u64 p2]) := (hS.don 0 _ 54 rfl d0 rfl).trans (by simp only [putAll, Act.put, List.setIfInBounds_toArray, List.set_cons_zero, List.set_cons_succ]; rfl)
                    have d6 : lp.getD 6 false = true := hdep { on := 6, ground := .data } (by simp) rfl
                    have e60 : a'.tmps[60]? = some (.agg #[.int .u64 0, .int .u64 0, .int .u64 d]) := (hS.don 6 _ 60 rfl d6 rfl).trans (by simp only [putAll, Act.put, List.setIfInBounds_toArray, List.set_cons_zero, List.set_cons_succ]; rfl)
                    have KE := KA w'
                    clear hdep
                    unfold Oper.wp
                    simp only [execOp, Act.eval]
                    simp [go_sem, e54, e60, Oper.upon]
                    refine KE.mono ?_
                    rintro e W2 ⟨rfl, hb2⟩
                    exact hK g W2 (fun _ _ _ _ _ _ => rfl) (hR.call (i := 7) (by decide) (by decide) hun hft hfl hb2) _ (by simp only [valO, Option.bind_some]; simp only [putAll, Act.put, List.setIfInBounds_toArray, List.set_cons_zero, List.set_cons_succ]; rfl)
                  | 8, ho, hun, hdep, hK, hfl, hft, _ =>
                    obtain rfl := Option.some.inj ho
                    have d7 : lp.getD 7 false = true := hdep { on := 7, ground := .data } (by simp) rfl
                    have e61 : a'.tmps[61]? = some (.tuple #[.agg #[.int .u64 t0, .int .u64 t1, .int .u64 t2], .int .i64 ea]) := (hS.don 7 _ 61 rfl d7 rfl).trans (by simp only [putAll, Act.put, List.setIfInBounds_toArray, List.set_cons_zero, List.set_cons_succ]; rfl)
                    obtain ⟨p0', p1', p2', -, -, -⟩ := HC.out w' (hR.bel (hR.now (i := 8) (by decide) hun))
                    have hK' := hK g w' (fun _ _ _ _ _ _ => rfl) (hR.quiet (i := 8) (by decide) hft hfl) (.tuple #[.agg #[.int .u64 t0, .int .u64 t1, .int .u64 t2], .int .i64 ea]) (by simp only [valO, Option.bind_some]; simp only [putAll, Act.put, List.setIfInBounds_toArray, List.set_cons_zero, List.set_cons_succ]; rfl)
                    clear hS hdep hR
                    refine gh_quiet9 (v := .tuple #[.agg #[.int .u64 t0, .int .u64 t1, .int .u64 t2], .int .i64 ea]) ?_ ?_
                    · (simp only [execOp, Act.eval, e61]; go_simp; first | done | (simp; done) | (simp [*]; done) | omega | (simp; omega))
                    · exact hK'
                  | 9, ho, hun, hdep, hK, hfl, hft, _ =>
                    obtain rfl := Option.some.inj ho
                    have d8 : lp.getD 8 false = true := hdep { on := 8, ground := .data } (by simp) rfl
                    have e53 : a'.tmps[53]? = some (.tuple #[.agg #[.int .u64 t0, .int .u64 t1, .int .u64 t2], .int .i64 ea]) := (hS.don 8 _ 53 rfl d8 rfl).trans (by simp only [putAll, Act.put, List.setIfInBounds_toArray, List.set_cons_zero, List.set_cons_succ]; rfl)
                    obtain ⟨p0', p1', p2', -, -, -⟩ := HC.out w' (hR.bel (hR.now (i := 9) (by decide) hun))
                    have hK' := hK g w' (fun _ _ _ _ _ _ => rfl) (hR.quiet (i := 9) (by decide) hft hfl) (.agg #[.int .u64 t0, .int .u64 t1, .int .u64 t2]) (by simp only [valO, Option.bind_some]; simp only [putAll, Act.put, List.setIfInBounds_toArray, List.set_cons_zero, List.set_cons_succ]; rfl)
                    clear hS hdep hR
                    refine gh_quiet9 (v := .agg #[.int .u64 t0, .int .u64 t1, .int .u64 t2]) ?_ ?_
                    · (simp only [execOp, Act.eval, e53]; go_simp; first | done | (simp; done) | (simp [*]; done) | omega | (simp; omega))
                    · exact hK'
                  | 10, ho, hun, hdep, hK, hfl, hft, _ =>
                    obtain rfl := Option.some.inj ho
                    have d8 : lp.getD 8 false = true := hdep { on := 8, ground := .data } (by simp) rfl
                    have e53 : a'.tmps[53]? = some (.tuple #[.agg #[.int .u64 t0, .int .u64 t1, .int .u64 t2], .int .i64 ea]) := (hS.don 8 _ 53 rfl d8 rfl).trans (by simp only [putAll, Act.put, List.setIfInBounds_toArray, List.set_cons_zero, List.set_cons_succ]; rfl)
                    have hK' := hK g w' (fun _ _ _ _ _ _ => rfl) (hR.quiet (i := 10) (by decide) hft hfl) (.int .i64 ea) (by simp only [valO, Option.bind_some]; simp only [putAll, Act.put, List.setIfInBounds_toArray, List.set_cons_zero, List.set_cons_succ]; rfl)
                    clear hS hdep hR
                    refine gh_quiet9 (v := .int .i64 ea) ?_ ?_
                    · (simp only [execOp, Act.eval, e53]; go_simp; first | done | (simp; done) | (simp [*]; done) | omega | (simp; omega))
                    · exact hK'
                  | 11, ho, hun, hdep, hK, hfl, hft, _ =>
                    obtain rfl := Option.some.inj ho
                    have d9 : lp.getD 9 false = true := hdep { on := 9, ground := .data } (by simp) rfl
                    have e62 : a'.tmps[62]? = some (.agg #[.int .u64 t0, .int .u64 t1, .int .u64 t2]) := (hS.don 9 _ 62 rfl d9 rfl).trans (by simp only [putAll, Act.put, List.setIfInBounds_toArray, List.set_cons_zero, List.set_cons_succ]; rfl)
                    have o7 : a'.tmps[7]? = some (.pointer (some ⟨N7, 0, none⟩)) := (hS.old9 7 (by simp)).trans rfl
                    have hall : ∀ j, j < 10 → lp.getD j false = true := by
                      intro j hj
                      match j, hj with
                      | 0, _ => exact hdep { on := 0, ground := .phase } (by simp) rfl
                      | 1, _ => exact hdep { on := 1, ground := .phase } (by simp) rfl
                      | 2, _ => exact hdep { on := 2, ground := .phase } (by simp) rfl
                      | 3, _ => exact hdep { on := 3, ground := .phase } (by simp) rfl
                      | 4, _ => exact hdep { on := 4, ground := .phase } (by simp) rfl
                      | 5, _ => exact hdep { on := 5, ground := .phase } (by simp) rfl
                      | 6, _ => exact hdep { on := 6, ground := .phase } (by simp) rfl
                      | 7, _ => exact hdep { on := 7, ground := .phase } (by simp) rfl
                      | 8, _ => exact hdep { on := 8, ground := .phase } (by simp) rfl
                      | 9, _ => exact hdep { on := 9, ground := .phase } (by simp) rfl
                      | n + 10, h => exact absurd h (by omega)
                    obtain ⟨z0, z1, z2, k0, k1, k2⟩ := HC.out w' (hR.bel hun)
                    have hK' := hK g _ (fun _ _ _ _ _ _ => rfl) (hR.st hun hft hfl hall) undef rfl
                    clear hS hdep hR
                    unfold Oper.wp
                    simp [execOp, Act.eval, e62, o7, go_sem, z0, z1, z2, k0, k1, k2, Oper.upon]
                    exact hK'
                  | 12, ho, hun, hdep, hK, hfl, hft, _ =>
                    obtain rfl := Option.some.inj ho
                    have d10 : lp.getD 10 false = true := hdep { on := 10, ground := .data } (by simp) rfl
                    have e63 : a'.tmps[63]? = some (.int .i64 ea) := (hS.don 10 _ 63 rfl d10 rfl).trans (by simp only [putAll, Act.put, List.setIfInBounds_toArray, List.set_cons_zero, List.set_cons_succ]; rfl)
                    have hK' := hK g w' (fun _ _ _ _ _ _ => rfl) (hR.quiet (i := 12) (by decide) hft hfl) (.int .i64 ea) (by simp only [valO, Option.bind_some]; simp only [putAll, Act.put, List.setIfInBounds_toArray, List.set_cons_zero, List.set_cons_succ]; rfl)
                    clear hS hdep hR
                    refine gh_quiet9 (v := .int .i64 ea) ?_ ?_
                    · (simp only [execOp, Act.eval, e63]; go_simp; first | done | (simp; done) | (simp [*]; done) | omega | (simp; omega))
                    · exact hK'
                  | n + 13, ho, hun, hdep, hK, hfl, hft, hq => exact absurd hq (by omega)
                case fin =>
                  intro g X1 hR
                  obtain ⟨X0, hb0, hX1⟩ := hR.fin (by simp)
                  simp only [putAll, Act.put, List.setIfInBounds_toArray, List.set_cons_zero, List.set_cons_succ]
                  clear hR
                  subst hX1
                  have HX2 := hid9 ((((HX.out.below hb0).oth0 (C := N7) (by have := Hlt.out; omega) t0).oth1 (C := N7) (by have := Hlt.out; omega) t1).oth2 (C := N7) (by have := Hlt.out; omega) t2)
                  have HR2 := hid9 ((((HR.out.below hb0).oth0 (C := N7) (by have := Hlt.out; omega) t0).oth1 (C := N7) (by have := Hlt.out; omega) t1).oth2 (C := N7) (by have := Hlt.out; omega) t2)
                  have HB2 := hid9 (bset3c (keepb hb0 HBb.out) (show w.heap.size ≤ N7 by have := Hlt.out; omega) (.int .u64 t0) (.int .u64 t1) (.int .u64 t2))
                  have HN2 := hid9 ((HN.out.below hb0).set t0 t1 t2)
                  clear HC KA KO HX HR HBb HN hb0
                  revert HX2 HR2 HB2 HN2
                  generalize ((X0.setCell ⟨N7, 0, none⟩ (.int .u64 t0)).setCell ⟨N7, 1, none⟩ (.int .u64 t1)).setCell ⟨N7, 2, none⟩ (.int .u64 t2) = X3
                  intro HX2 HR2 HB2 HN2
                  by_cases ho : val9 s (k + 1) < 6277101735386680763835789423207666416102355444464034512896
                  · have hea : ea = 0 := HT.out.1.trans (fit_in ho).2
                    subst hea
                    have HF := hid9 (fit_in ho).1
                    obtain ⟨l0, l1, l2, -, -, -⟩ := HN2.out
                    obtain ⟨u0, u1, u2, f0, f1, f2⟩ := HX2.out
                    have HX3 := hid9 (HX2.out.set t0 t1 t2)
                    have HR3 := hid9 (((HR2.out.oth0 (C := w.heap.size + 1) (by omega) t0).oth1 (C := w.heap.size + 1) (by omega) t1).oth2 (C := w.heap.size + 1) (by omega) t2)
                    have HB3 := hid9 (bset3c HB2.out (show w.heap.size ≤ w.heap.size + 1 by omega) (.int .u64 t0) (.int .u64 t1) (.int .u64 t2))
                    clear HB2 HX2 HR2 HN2
                    have Hho := hid9 ho
                    clear ho
                    refine wl_nil9 (P := Try.prog) (ops := #[]) ?_
                    go_wp2
                    go_roundw
                    case rel =>
                      refine ⟨k + 1, by omega, by go_num, Hho.out, ⟨?_, HR3.out, HB3.out⟩⟩
                      rw [← HF.out, ← HT.out.2.1, ← HT.out.2.2.1, ← HT.out.2.2.2]
                      exact HX3.out
                    case measure => simp [intOf]; omega
                  · have hea : ea = 6 := HT.out.1.trans (fit_out ho).2
                    subst hea
                    have HF : Hid (par9N s = 0 ∧ par9E s = 6) := by
                      have q2 : ¬ val9 s s.size < 6277101735386680763835789423207666416102355444464034512896 := by
                        have := val9_le s (k + 1) s.size (by omega)
                        omega
                      show _ ∧ _
                      rw [HP.out.1, HP.out.2]
                      exact fit_out q2
                    have HR3 := hid9 (HR2.out.set 0 0 0)
                    have HB3 := hid9 (bset3c HB2.out (Nat.le_refl _) (.int .u64 0) (.int .u64 0) (.int .u64 0))
                    obtain ⟨u0, u1, u2, f0, f1, f2⟩ := HR2.out
                    clear HB2 HX2 HR2 HN2 ho
                    refine wl_nil9 (P := Try.prog) (ops := #[]) ?_
                    go_wp2
                    obtain ⟨g0, g1, g2, -, -, -⟩ := HR3.out
                    exact bodyPost_ret (v := .tuple #[.agg #[.int .u64 0, .int .u64 0, .int .u64 0], .int .i64 6]) (by simp [results, Try.results23, go_sem, g0, g1, g2]) rfl ⟨by rw [HF.out.1, HF.out.2, costV_zero], HB3.out⟩
              · rw [(fit_out cm).1, (fit_out cm).2, costV_zero] at KM
                have HF : Hid (par9N s = 0 ∧ par9E s = 6) := by
                  have q2 : ¬ val9 s s.size < 6277101735386680763835789423207666416102355444464034512896 := by
                    have := val9_le s (k + 1) s.size (by omega)
                    have := HV.out
                    omega
                  show _ ∧ _
                  rw [HP.out.1, HP.out.2]
                  exact fit_out q2
                clear HD HB hv hk cm HV bd hbt
                unfold costV at KM
                generalize cost0 (val9 s k) = x0 at *
                generalize cost1 (val9 s k) = x1 at *
                generalize cost2 (val9 s k) = x2 at *
                obtain ⟨⟨y0, y1, y2, -, -, -⟩, -, -⟩ := HE.out
                go_wp2_with fail
                refine (KM _).mono ?_
                rintro e v7 ⟨rfl, hb⟩
                have q7 := bl1 v7 (.cells #[.int .u64 0, .int .u64 0, .int .u64 0] 24)
                have HR := hid9 ((HE.out.2.1.below hb).below q7)
                have HBb := hid9 (keepb q7 (keepb hb HE.out.2.2))
                have HR3 := hid9 (HR.out.set 0 0 0)
                have HB3 := hid9 (bset3c HBb.out (Nat.le_refl _) (.int .u64 0) (.int .u64 0) (.int .u64 0))
                obtain ⟨u0, u1, u2, f0, f1, f2⟩ := HR.out
                clear HE hb q7 y0 y1 y2 KM HR HBb
                go_wp2
                obtain ⟨g0, g1, g2, -, -, -⟩ := HR3.out
                exact bodyPost_ret (v := .tuple #[.agg #[.int .u64 0, .int .u64 0, .int .u64 0], .int .i64 6]) (by simp [results, Try.results23, go_sem, g0, g1, g2]) rfl ⟨by rw [HF.out.1, HF.out.2, costV_zero], HB3.out⟩
            · have hk8 : k = s.size := by omega
              have hd : decide ((k : Int) < (s.size : Int)) = false := by simpa using hlt
              have HF : Hid (par9N s = val9 s k ∧ par9E s = 0) := by
                show _ ∧ _
                rw [HP.out.1, HP.out.2, ← hk8]
                exact fit_in hv
              generalize hx0 : cost0 (val9 s k) = x0 at *
              generalize hx1 : cost1 (val9 s k) = x1 at *
              generalize hx2 : cost2 (val9 s k) = x2 at *
              have HG : Hid (costV (val9 s k) = .agg #[.int .u64 x0, .int .u64 x1, .int .u64 x2]) := by show _ = _; unfold costV; rw [hx0, hx1, hx2]
              clear hx0 hx1 hx2 hk8 hv
              obtain ⟨⟨y0, y1, y2, -, -, -⟩, hR, -⟩ := HE.out
              have HR3 := hid9 (hR.set x0 x1 x2)
              have HB3 := hid9 (bset3c HE.out.2.2 (Nat.le_refl _) (.int .u64 x0) (.int .u64 x1) (.int .u64 x2))
              obtain ⟨u0, u1, u2, v0, v1, v2⟩ := hR
              clear HE HB HD HP
              go_wp2
              obtain ⟨f0, f1, f2, -, -, -⟩ := HR3.out
              exact bodyPost_ret (v := .tuple #[.agg #[.int .u64 x0, .int .u64 x1, .int .u64 x2], .int .i64 0]) (by simp [results, Try.results23, go_sem, f0, f1, f2]) rfl ⟨by rw [HF.out.1, HF.out.2, HG.out], HB3.out⟩
    · go_enter Try.func23, Try.ntmps23
      go_wp2_with fail
      go_loopw [4] (fun i wr => ∃ k : Nat, k ≤ s.size ∧ i = .int .i64 k ∧ Hid (all9 s k = true) ∧ wr = w.alloc (.cells #[.int .u64 0, .int .u64 0, .int .u64 0] 24)) (fun i _ => s.size - (intOf i).toNat)
      case atStart => exact ⟨0, by omega, rfl, rfl, rfl⟩
      case round =>
        clear hw1 hw2 hb0
        obtain ⟨k, hk, rfl, HA, rfl⟩ := hrel
        by_cases hlt : (k : Int) < (s.size : Int)
        · have hks : k < s.size := by omega
          have hbt := HB.out k hks
          have bd := bAt9_bd s k
          have HP : Hid (all9 s (k + 1) = (all9 s k && dig9 (bAt9 s k))) := rfl
          have mk : IntKind.i64.wrap ((k : Int) + 1) = (k : Int) + 1 := by rw [IntKind.wrap_i64]; omega
          generalize bAt9 s k = c at *
          by_cases c1 : c < 48
          · have HV : Hid (par9N s = 0 ∧ par9E s = 12) := by
              have q : all9 s (k + 1) = false := by rw [HP.out, show dig9 c = false from decide_eq_false (by omega)]; simp
              refine HP0.out ?_
              rw [HNm.out]
              cases e : all9 s s.size with
              | false => rfl
              | true => have := all9_le s (k + 1) s.size (by omega) e; rw [q] at this; cases this
            clear HP
            go_wp2
            exact bodyPost_ret (v := .tuple #[.agg #[.int .u64 0, .int .u64 0, .int .u64 0], .int .i64 12]) (by simp [results, Try.results23, go_sem]) rfl ⟨by rw [HV.out.1, HV.out.2, costV_zero], B0.out⟩
          · by_cases c2 : 57 < c
            · have HV : Hid (par9N s = 0 ∧ par9E s = 12) := by
                have q : all9 s (k + 1) = false := by rw [HP.out, show dig9 c = false from decide_eq_false (by omega)]; simp
                refine HP0.out ?_
                rw [HNm.out]
                cases e : all9 s s.size with
                | false => rfl
                | true => have := all9_le s (k + 1) s.size (by omega) e; rw [q] at this; cases this
              clear HP
              go_wp2
              exact bodyPost_ret (v := .tuple #[.agg #[.int .u64 0, .int .u64 0, .int .u64 0], .int .i64 12]) (by simp [results, Try.results23, go_sem]) rfl ⟨by rw [HV.out.1, HV.out.2, costV_zero], B0.out⟩
            · have HA2 : Hid (all9 s (k + 1) = true) := by show _ = _; rw [HP.out, HA.out, show dig9 c = true from decide_eq_true (by omega)]; rfl
              clear HP HA
              go_wp2
              go_roundw
              case rel => exact ⟨k + 1, by omega, by go_num, HA2, by first | rfl | trivial⟩
              case measure => simp [intOf]; omega
        · have hk8 : k = s.size := by omega
          have HP : Hid (par9N s = fitN (val9 s s.size) ∧ par9E s = fitE9 (val9 s s.size)) := by
            have hn : num9 s = true := by rw [HNm.out, ← hk8]; exact HA.out
            show _ ∧ _; unfold par9N par9E; rw [if_pos hn, if_pos hn]; exact ⟨rfl, rfl⟩
          have HD : Hid (∀ k, k < s.size → 48 ≤ bAt9 s k ∧ bAt9 s k ≤ 57) := by
            intro k' hk'
            have h := all9_le s (k' + 1) k (by omega) HA.out
            simp only [all9, Bool.and_eq_true] at h
            exact of_decide_eq_true h.2
          have hd : decide ((k : Int) < (s.size : Int)) = false := by simpa using hlt
          have hd2 : ¬ k < s.size := by omega
          clear hk8 HA HNm HP0 hlt
          have A1 := hid9 (atc_new (w.alloc (.cells #[.int .u64 0, .int .u64 0, .int .u64 0] 24)) (w.heap.size + 1) 0 0 0 24 (by simp))
          have B1 := hid9 (bl1 (w.alloc (.cells #[.int .u64 0, .int .u64 0, .int .u64 0] 24)) (.cells #[.int .u64 0, .int .u64 0, .int .u64 0] 24))
          go_wp2_with fail
          go_loopw [6] (fun i wr => ∃ k : Nat, k ≤ s.size ∧ i = .int .i64 k ∧ val9 s k < 6277101735386680763835789423207666416102355444464034512896 ∧ Hid (AtC wr (w.heap.size + 1) (cost0 (val9 s k)) (cost1 (val9 s k)) (cost2 (val9 s k)) ∧ AtC wr w.heap.size 0 0 0 ∧ Below w.heap.size w wr)) (fun i _ => s.size - (intOf i).toNat)
          case atStart => exact ⟨0, by omega, rfl, by simp [val9], ⟨by simp only [val9]; rw [cost_zero.1, cost_zero.2.1, cost_zero.2.2]; exact A1.out, A0.out.below B1.out, keepb B1.out B0.out⟩⟩
          case round =>
            clear A0 B0 A1 B1 hd hd2
            obtain ⟨k, hk, rfl, hv, HE⟩ := hrel
            by_cases hlt : (k : Int) < (s.size : Int)
            · have hks : k < s.size := by omega
              have hbt := HB.out k hks
              have bd := HD.out k hks
              have HV : Hid (val9 s (k + 1) = val9 s k * 10 + (bAt9 s k - 48).toNat) := rfl
              have mk : IntKind.i64.wrap ((k : Int) + 1) = (k : Int) + 1 := by rw [IntKind.wrap_i64]; omega
              have HK := hid9 hk
              have KM := fun w => rmul9_any (val9 s k) 10 w hv (by decide)
              rw [show ((10 : Nat) : Int) = 10 from rfl] at KM
              by_cases cm : val9 s k * 10 < 6277101735386680763835789423207666416102355444464034512896
              · rw [(fit_in cm).1, (fit_in cm).2] at KM
                have ed : ((bAt9 s k - 48).toNat : Int) = bAt9 s k - 48 := by omega
                have KO := fun w => rof9_any (bAt9 s k - 48) w
                have KA := fun w => raddc_any (val9 s k * 10) (bAt9 s k - 48).toNat w cm (by omega)
                rw [← HV.out, ← rof_cost (bAt9 s k - 48).toNat (by omega), ed] at KA
                have w8 : IntKind.u8.wrap (bAt9 s k - 48) = bAt9 s k - 48 := by rw [IntKind.wrap_u8]; omega
                have w9 : IntKind.u64.wrap (bAt9 s k - 48) = bAt9 s k - 48 := by rw [IntKind.wrap_u64]; omega
                generalize hc : bAt9 s k = c at *
                have Hc := hid9 hc
                clear HD HB hv hk ed hc
                generalize hd : c - 48 = d at *
                have w7 : IntKind.u8.wrap (c - 48) = d := by rw [hd]; exact w8
                clear hd w8
                unfold costV at KM KA
                obtain ⟨ea, hea⟩ : ∃ q, q = fitE9 (val9 s (k + 1)) := ⟨_, rfl⟩
                obtain ⟨t0, ht0⟩ : ∃ q, q = cost0 (fitN (val9 s (k + 1))) := ⟨_, rfl⟩
                obtain ⟨t1, ht1⟩ : ∃ q, q = cost1 (fitN (val9 s (k + 1))) := ⟨_, rfl⟩
                obtain ⟨t2, ht2⟩ : ∃ q, q = cost2 (fitN (val9 s (k + 1))) := ⟨_, rfl⟩
                rw [← hea, ← ht0, ← ht1, ← ht2] at KA
                have HT := hid9 (And.intro hea (And.intro ht0 (And.intro ht1 ht2)))
                clear hea ht0 ht1 ht2 cm
                generalize cost0 (val9 s k * 10) = p0 at *
                generalize cost1 (val9 s k * 10) = p1 at *
                generalize cost2 (val9 s k * 10) = p2 at *
                generalize cost0 (val9 s k) = x0 at *
                generalize cost1 (val9 s k) = x1 at *
                generalize cost2 (val9 s k) = x2 at *
                obtain ⟨⟨y0, y1, y2, -, -, -⟩, -, -⟩ := HE.out
                go_wp2_with fail
                refine (KM _).mono ?_
                rintro e v7 ⟨rfl, hb⟩
                have q7 := bl1 v7 (.cells #[.int .u64 p0, .int .u64 p1, .int .u64 p2] 24)
                have HX := hid9 ((HE.out.1.below hb).below q7)
                have HR := hid9 ((HE.out.2.1.below hb).below q7)
                have HBb := hid9 (keepb q7 (keepb hb HE.out.2.2))
                have HN := hid9 (atc_new v7 v7.heap.size p0 p1 p2 24 rfl)
                have Hlt : Hid (w.heap.size + 1 < v7.heap.size) := (HE.out.1.below hb).lt
                clear HE hb q7 y0 y1 y2 KM
                go_wp2_with fail
                revert HX HR HBb HN Hlt
                generalize v7.alloc (.cells #[.int .u64 p0, .int .u64 p1, .int .u64 p2] 24) = V7
                generalize v7.heap.size = N7
                intro HX HR HBb HN Hlt
                have HC : Hid (∀ X, Below V7.heap.size V7 X → AtC X N7 p0 p1 p2) := fun X hb => HN.out.below hb
                refine gh_region (γ := Unit) (qpOk 13 13 (by decide) (fun N => by kernel_rfl) (by kernel_rfl) (by kernel_rfl) (by kernel_rfl) (by kernel_rfl)) (by kernel_rfl) (by kernel_rfl) [some 54, some 55, some 56, some 57, some 58, some 59, some 60, some 61, some 53, some 62, some 63, none, some 8] (fun g => [.agg #[.int .u64 p0, .int .u64 p1, .int .u64 p2], .string s, .int .i64 (k : Int), .int .u8 c, .int .u8 d, .int .u64 d, .agg #[.int .u64 0, .int .u64 0, .int .u64 d], .tuple #[.agg #[.int .u64 t0, .int .u64 t1, .int .u64 t2], .int .i64 ea], .tuple #[.agg #[.int .u64 t0, .int .u64 t1, .int .u64 t2], .int .i64 ea], .agg #[.int .u64 t0, .int .u64 t1, .int .u64 t2], .int .i64 ea, undef, .int .i64 ea]) (by kernel_rfl) (by simp) (fun lp g X => RT9 V7 (fun X => ((X.setCell ⟨N7, 0, none⟩ (.int .u64 t0)).setCell ⟨N7, 1, none⟩ (.int .u64 t1)).setCell ⟨N7, 2, none⟩ (.int .u64 t2)) 11 10 (fun j => lp.getD j false) X) () (RT9.start (below_drewN (Below.refl _ _) 1) (fun j => by simp [Array.getElem?_replicate]; split <;> rfl)) ?step ?fin
                case step =>
                  intro q o lp g w' a' ho hsz hun hdep hR hS K Q' hK
                  have hfl : ∀ j, j ≠ q → (lp.setIfInBounds q true).getD j false = lp.getD j false := fun j hj => by rw [Array.getD_eq_getD_getElem?, Array.getD_eq_getD_getElem?, Array.getElem?_setIfInBounds_ne (by omega)]
                  have hq : q < 13 := (List.getElem?_eq_some_iff.mp ho).1
                  have hft : (lp.setIfInBounds q true).getD q false = true := getD_set_same (by rw [hsz]; exact hq)
                  match q, ho, hun, hdep, hK, hfl, hft, hq with
                  | 0, ho, hun, hdep, hK, hfl, hft, _ =>
                    obtain rfl := Option.some.inj ho
                    have o7 : a'.tmps[7]? = some (.pointer (some ⟨N7, 0, none⟩)) := (hS.old9 7 (by simp)).trans rfl
                    obtain ⟨p0', p1', p2', -, -, -⟩ := HC.out w' (hR.bel (hR.now (i := 0) (by decide) hun))
                    have hK' := hK g w' (fun _ _ _ _ _ _ => rfl) (hR.quiet (i := 0) (by decide) hft hfl) (.agg #[.int .u64 p0, .int .u64 p1, .int .u64 p2]) (by simp only [valO, Option.bind_some]; simp only [putAll, Act.put, List.setIfInBounds_toArray, List.set_cons_zero, List.set_cons_succ]; rfl)
                    clear hS hdep hR
                    refine gh_quiet9 (v := .agg #[.int .u64 p0, .int .u64 p1, .int .u64 p2]) ?_ ?_
                    · (simp only [execOp, Act.eval, o7]; go_simp; first | done | (simp; done) | (simp [*]; done) | omega | (simp; omega))
                    · exact hK'
                  | 1, ho, hun, hdep, hK, hfl, hft, _ =>
                    obtain rfl := Option.some.inj ho
                    have o0 : a'.tmps[0]? = some (.string s) := (hS.old9 0 (by simp)).trans rfl
                    obtain ⟨p0', p1', p2', -, -, -⟩ := HC.out w' (hR.bel (hR.now (i := 1) (by decide) hun))
                    have hK' := hK g w' (fun _ _ _ _ _ _ => rfl) (hR.quiet (i := 1) (by decide) hft hfl) (.string s) (by simp only [valO, Option.bind_some]; simp only [putAll, Act.put, List.setIfInBounds_toArray, List.set_cons_zero, List.set_cons_succ]; rfl)
                    clear hS hdep hR
                    refine gh_quiet9 (v := .string s) ?_ ?_
                    · (simp only [execOp, Act.eval, o0]; go_simp; first | done | (simp; done) | (simp [*]; done) | omega | (simp; omega))
                    · exact hK'
                  | 2, ho, hun, hdep, hK, hfl, hft, _ =>
                    obtain rfl := Option.some.inj ho
                    have o6 : a'.tmps[6]? = some (.int .i64 (k : Int)) := (hS.old9 6 (by simp)).trans rfl
                    obtain ⟨p0', p1', p2', -, -, -⟩ := HC.out w' (hR.bel (hR.now (i := 2) (by decide) hun))
                    have hK' := hK g w' (fun _ _ _ _ _ _ => rfl) (hR.quiet (i := 2) (by decide) hft hfl) (.int .i64 (k : Int)) (by simp only [valO, Option.bind_some]; simp only [putAll, Act.put, List.setIfInBounds_toArray, List.set_cons_zero, List.set_cons_succ]; rfl)
                    clear hS hdep hR
                    refine gh_quiet9 (v := .int .i64 (k : Int)) ?_ ?_
                    · (simp only [execOp, Act.eval, o6]; go_simp; first | done | (simp; done) | (simp [*]; done) | omega | (simp; omega))
                    · exact hK'
                  | 3, ho, hun, hdep, hK, hfl, hft, _ =>
                    obtain rfl := Option.some.inj ho
                    have d1 : lp.getD 1 false = true := hdep { on := 1, ground := .data } (by simp) rfl
                    have e55 : a'.tmps[55]? = some (.string s) := (hS.don 1 _ 55 rfl d1 rfl).trans (by simp only [putAll, Act.put, List.setIfInBounds_toArray, List.set_cons_zero, List.set_cons_succ]; rfl)
                    have d2 : lp.getD 2 false = true := hdep { on := 2, ground := .data } (by simp) rfl
                    have e56 : a'.tmps[56]? = some (.int .i64 (k : Int)) := (hS.don 2 _ 56 rfl d2 rfl).trans (by simp only [putAll, Act.put, List.setIfInBounds_toArray, List.set_cons_zero, List.set_cons_succ]; rfl)
                    obtain ⟨p0', p1', p2', -, -, -⟩ := HC.out w' (hR.bel (hR.now (i := 3) (by decide) hun))
                    have hK' := hK g w' (fun _ _ _ _ _ _ => rfl) (hR.quiet (i := 3) (by decide) hft hfl) (.int .u8 c) (by simp only [valO, Option.bind_some]; simp only [putAll, Act.put, List.setIfInBounds_toArray, List.set_cons_zero, List.set_cons_succ]; rfl)
                    clear hS hdep hR
                    refine gh_quiet9 (v := .int .u8 c) ?_ ?_
                    · (simp only [execOp, Act.eval, e55, e56]; go_simp; first | done | (simp; done) | (simp [*]; done) | omega | (simp; omega))
                    · exact hK'
                  | 4, ho, hun, hdep, hK, hfl, hft, _ =>
                    obtain rfl := Option.some.inj ho
                    have d3 : lp.getD 3 false = true := hdep { on := 3, ground := .data } (by simp) rfl
                    have e57 : a'.tmps[57]? = some (.int .u8 c) := (hS.don 3 _ 57 rfl d3 rfl).trans (by simp only [putAll, Act.put, List.setIfInBounds_toArray, List.set_cons_zero, List.set_cons_succ]; rfl)
                    obtain ⟨p0', p1', p2', -, -, -⟩ := HC.out w' (hR.bel (hR.now (i := 4) (by decide) hun))
                    have hK' := hK g w' (fun _ _ _ _ _ _ => rfl) (hR.quiet (i := 4) (by decide) hft hfl) (.int .u8 d) (by simp only [valO, Option.bind_some]; simp only [putAll, Act.put, List.setIfInBounds_toArray, List.set_cons_zero, List.set_cons_succ]; rfl)
                    clear hS hdep hR
                    refine gh_quiet9 (v := .int .u8 d) ?_ ?_
                    · (simp only [execOp, Act.eval, e57]; go_simp; first | done | (simp; done) | (simp [*]; done) | omega | (simp; omega))
                    · exact hK'
                  | 5, ho, hun, hdep, hK, hfl, hft, _ =>
                    obtain rfl := Option.some.inj ho
                    have d4 : lp.getD 4 false = true := hdep { on := 4, ground := .data } (by simp) rfl
                    have e58 : a'.tmps[58]? = some (.int .u8 d) := (hS.don 4 _ 58 rfl d4 rfl).trans (by simp only [putAll, Act.put, List.setIfInBounds_toArray, List.set_cons_zero, List.set_cons_succ]; rfl)
                    obtain ⟨p0', p1', p2', -, -, -⟩ := HC.out w' (hR.bel (hR.now (i := 5) (by decide) hun))
                    have hK' := hK g w' (fun _ _ _ _ _ _ => rfl) (hR.quiet (i := 5) (by decide) hft hfl) (.int .u64 d) (by simp only [valO, Option.bind_some]; simp only [putAll, Act.put, List.setIfInBounds_toArray, List.set_cons_zero, List.set_cons_succ]; rfl)
                    clear hS hdep hR
                    refine gh_quiet9 (v := .int .u64 d) ?_ ?_
                    · (simp only [execOp, Act.eval, e58]; go_simp; first | done | (simp; done) | (simp [*]; done) | omega | (simp; omega))
                    · exact hK'
                  | 6, ho, hun, hdep, hK, hfl, hft, _ =>
                    obtain rfl := Option.some.inj ho
                    have d5 : lp.getD 5 false = true := hdep { on := 5, ground := .data } (by simp) rfl
                    have e59 : a'.tmps[59]? = some (.int .u64 d) := (hS.don 5 _ 59 rfl d5 rfl).trans (by simp only [putAll, Act.put, List.setIfInBounds_toArray, List.set_cons_zero, List.set_cons_succ]; rfl)
                    have KE := KO w'
                    clear hdep
                    unfold Oper.wp
                    simp only [execOp, Act.eval]
                    simp [go_sem, e59, Oper.upon]
                    refine KE.mono ?_
                    rintro e W2 ⟨rfl, hb2⟩
                    exact hK g W2 (fun _ _ _ _ _ _ => rfl) (hR.call (i := 6) (by decide) (by decide) hun hft hfl hb2) _ (by simp only [valO, Option.bind_some]; simp only [putAll, Act.put, List.setIfInBounds_toArray, List.set_cons_zero, List.set_cons_succ]; rfl)
                  | 7, ho, hun, hdep, hK, hfl, hft, _ =>
                    obtain rfl := Option.some.inj ho
                    have d0 : lp.getD 0 false = true := hdep { on := 0, ground := .data } (by simp) rfl
                    have e54 : a'.tmps[54]? = some (.agg #[.int .u64 p0, .int .u64 p1, .int .u64 p2]) := (hS.don 0 _ 54 rfl d0 rfl).trans (by simp only [putAll, Act.put, List.setIfInBounds_toArray, List.set_cons_zero, List.set_cons_succ]; rfl)
                    have d6 : lp.getD 6 false = true := hdep { on := 6, ground := .data } (by simp) rfl
                    have e60 : a'.tmps[60]? = some (.agg #[.int .u64 0, .int .u64 0, .int .u64 d]) := (hS.don 6 _ 60 rfl d6 rfl).trans (by simp only [putAll, Act.put, List.setIfInBounds_toArray, List.set_cons_zero, List.set_cons_succ]; rfl)
                    have KE := KA w'
                    clear hdep
                    unfold Oper.wp
                    simp only [execOp, Act.eval]
                    simp [go_sem, e54, e60, Oper.upon]
                    refine KE.mono ?_
                    rintro e W2 ⟨rfl, hb2⟩
                    exact hK g W2 (fun _ _ _ _ _ _ => rfl) (hR.call (i := 7) (by decide) (by decide) hun hft hfl hb2) _ (by simp only [valO, Option.bind_some]; simp only [putAll, Act.put, List.setIfInBounds_toArray, List.set_cons_zero, List.set_cons_succ]; rfl)
                  | 8, ho, hun, hdep, hK, hfl, hft, _ =>
                    obtain rfl := Option.some.inj ho
                    have d7 : lp.getD 7 false = true := hdep { on := 7, ground := .data } (by simp) rfl
                    have e61 : a'.tmps[61]? = some (.tuple #[.agg #[.int .u64 t0, .int .u64 t1, .int .u64 t2], .int .i64 ea]) := (hS.don 7 _ 61 rfl d7 rfl).trans (by simp only [putAll, Act.put, List.setIfInBounds_toArray, List.set_cons_zero, List.set_cons_succ]; rfl)
                    obtain ⟨p0', p1', p2', -, -, -⟩ := HC.out w' (hR.bel (hR.now (i := 8) (by decide) hun))
                    have hK' := hK g w' (fun _ _ _ _ _ _ => rfl) (hR.quiet (i := 8) (by decide) hft hfl) (.tuple #[.agg #[.int .u64 t0, .int .u64 t1, .int .u64 t2], .int .i64 ea]) (by simp only [valO, Option.bind_some]; simp only [putAll, Act.put, List.setIfInBounds_toArray, List.set_cons_zero, List.set_cons_succ]; rfl)
                    clear hS hdep hR
                    refine gh_quiet9 (v := .tuple #[.agg #[.int .u64 t0, .int .u64 t1, .int .u64 t2], .int .i64 ea]) ?_ ?_
                    · (simp only [execOp, Act.eval, e61]; go_simp; first | done | (simp; done) | (simp [*]; done) | omega | (simp; omega))
                    · exact hK'
                  | 9, ho, hun, hdep, hK, hfl, hft, _ =>
                    obtain rfl := Option.some.inj ho
                    have d8 : lp.getD 8 false = true := hdep { on := 8, ground := .data } (by simp) rfl
                    have e53 : a'.tmps[53]? = some (.tuple #[.agg #[.int .u64 t0, .int .u64 t1, .int .u64 t2], .int .i64 ea]) := (hS.don 8 _ 53 rfl d8 rfl).trans (by simp only [putAll, Act.put, List.setIfInBounds_toArray, List.set_cons_zero, List.set_cons_succ]; rfl)
                    obtain ⟨p0', p1', p2', -, -, -⟩ := HC.out w' (hR.bel (hR.now (i := 9) (by decide) hun))
                    have hK' := hK g w' (fun _ _ _ _ _ _ => rfl) (hR.quiet (i := 9) (by decide) hft hfl) (.agg #[.int .u64 t0, .int .u64 t1, .int .u64 t2]) (by simp only [valO, Option.bind_some]; simp only [putAll, Act.put, List.setIfInBounds_toArray, List.set_cons_zero, List.set_cons_succ]; rfl)
                    clear hS hdep hR
                    refine gh_quiet9 (v := .agg #[.int .u64 t0, .int .u64 t1, .int .u64 t2]) ?_ ?_
                    · (simp only [execOp, Act.eval, e53]; go_simp; first | done | (simp; done) | (simp [*]; done) | omega | (simp; omega))
                    · exact hK'
                  | 10, ho, hun, hdep, hK, hfl, hft, _ =>
                    obtain rfl := Option.some.inj ho
                    have d8 : lp.getD 8 false = true := hdep { on := 8, ground := .data } (by simp) rfl
                    have e53 : a'.tmps[53]? = some (.tuple #[.agg #[.int .u64 t0, .int .u64 t1, .int .u64 t2], .int .i64 ea]) := (hS.don 8 _ 53 rfl d8 rfl).trans (by simp only [putAll, Act.put, List.setIfInBounds_toArray, List.set_cons_zero, List.set_cons_succ]; rfl)
                    have hK' := hK g w' (fun _ _ _ _ _ _ => rfl) (hR.quiet (i := 10) (by decide) hft hfl) (.int .i64 ea) (by simp only [valO, Option.bind_some]; simp only [putAll, Act.put, List.setIfInBounds_toArray, List.set_cons_zero, List.set_cons_succ]; rfl)
                    clear hS hdep hR
                    refine gh_quiet9 (v := .int .i64 ea) ?_ ?_
                    · (simp only [execOp, Act.eval, e53]; go_simp; first | done | (simp; done) | (simp [*]; done) | omega | (simp; omega))
                    · exact hK'
                  | 11, ho, hun, hdep, hK, hfl, hft, _ =>
                    obtain rfl := Option.some.inj ho
                    have d9 : lp.getD 9 false = true := hdep { on := 9, ground := .data } (by simp) rfl
                    have e62 : a'.tmps[62]? = some (.agg #[.int .u64 t0, .int .u64 t1, .int .u64 t2]) := (hS.don 9 _ 62 rfl d9 rfl).trans (by simp only [putAll, Act.put, List.setIfInBounds_toArray, List.set_cons_zero, List.set_cons_succ]; rfl)
                    have o7 : a'.tmps[7]? = some (.pointer (some ⟨N7, 0, none⟩)) := (hS.old9 7 (by simp)).trans rfl
                    have hall : ∀ j, j < 10 → lp.getD j false = true := by
                      intro j hj
                      match j, hj with
                      | 0, _ => exact hdep { on := 0, ground := .phase } (by simp) rfl
                      | 1, _ => exact hdep { on := 1, ground := .phase } (by simp) rfl
                      | 2, _ => exact hdep { on := 2, ground := .phase } (by simp) rfl
                      | 3, _ => exact hdep { on := 3, ground := .phase } (by simp) rfl
                      | 4, _ => exact hdep { on := 4, ground := .phase } (by simp) rfl
                      | 5, _ => exact hdep { on := 5, ground := .phase } (by simp) rfl
                      | 6, _ => exact hdep { on := 6, ground := .phase } (by simp) rfl
                      | 7, _ => exact hdep { on := 7, ground := .phase } (by simp) rfl
                      | 8, _ => exact hdep { on := 8, ground := .phase } (by simp) rfl
                      | 9, _ => exact hdep { on := 9, ground := .phase } (by simp) rfl
                      | n + 10, h => exact absurd h (by omega)
                    obtain ⟨z0, z1, z2, k0, k1, k2⟩ := HC.out w' (hR.bel hun)
                    have hK' := hK g _ (fun _ _ _ _ _ _ => rfl) (hR.st hun hft hfl hall) undef rfl
                    clear hS hdep hR
                    unfold Oper.wp
                    simp [execOp, Act.eval, e62, o7, go_sem, z0, z1, z2, k0, k1, k2, Oper.upon]
                    exact hK'
                  | 12, ho, hun, hdep, hK, hfl, hft, _ =>
                    obtain rfl := Option.some.inj ho
                    have d10 : lp.getD 10 false = true := hdep { on := 10, ground := .data } (by simp) rfl
                    have e63 : a'.tmps[63]? = some (.int .i64 ea) := (hS.don 10 _ 63 rfl d10 rfl).trans (by simp only [putAll, Act.put, List.setIfInBounds_toArray, List.set_cons_zero, List.set_cons_succ]; rfl)
                    have hK' := hK g w' (fun _ _ _ _ _ _ => rfl) (hR.quiet (i := 12) (by decide) hft hfl) (.int .i64 ea) (by simp only [valO, Option.bind_some]; simp only [putAll, Act.put, List.setIfInBounds_toArray, List.set_cons_zero, List.set_cons_succ]; rfl)
                    clear hS hdep hR
                    refine gh_quiet9 (v := .int .i64 ea) ?_ ?_
                    · (simp only [execOp, Act.eval, e63]; go_simp; first | done | (simp; done) | (simp [*]; done) | omega | (simp; omega))
                    · exact hK'
                  | n + 13, ho, hun, hdep, hK, hfl, hft, hq => exact absurd hq (by omega)
                case fin =>
                  intro g X1 hR
                  obtain ⟨X0, hb0, hX1⟩ := hR.fin (by simp)
                  simp only [putAll, Act.put, List.setIfInBounds_toArray, List.set_cons_zero, List.set_cons_succ]
                  clear hR
                  subst hX1
                  have HX2 := hid9 ((((HX.out.below hb0).oth0 (C := N7) (by have := Hlt.out; omega) t0).oth1 (C := N7) (by have := Hlt.out; omega) t1).oth2 (C := N7) (by have := Hlt.out; omega) t2)
                  have HR2 := hid9 ((((HR.out.below hb0).oth0 (C := N7) (by have := Hlt.out; omega) t0).oth1 (C := N7) (by have := Hlt.out; omega) t1).oth2 (C := N7) (by have := Hlt.out; omega) t2)
                  have HB2 := hid9 (bset3c (keepb hb0 HBb.out) (show w.heap.size ≤ N7 by have := Hlt.out; omega) (.int .u64 t0) (.int .u64 t1) (.int .u64 t2))
                  have HN2 := hid9 ((HN.out.below hb0).set t0 t1 t2)
                  clear HC KA KO HX HR HBb HN hb0
                  revert HX2 HR2 HB2 HN2
                  generalize ((X0.setCell ⟨N7, 0, none⟩ (.int .u64 t0)).setCell ⟨N7, 1, none⟩ (.int .u64 t1)).setCell ⟨N7, 2, none⟩ (.int .u64 t2) = X3
                  intro HX2 HR2 HB2 HN2
                  by_cases ho : val9 s (k + 1) < 6277101735386680763835789423207666416102355444464034512896
                  · have hea : ea = 0 := HT.out.1.trans (fit_in ho).2
                    subst hea
                    have HF := hid9 (fit_in ho).1
                    obtain ⟨l0, l1, l2, -, -, -⟩ := HN2.out
                    obtain ⟨u0, u1, u2, f0, f1, f2⟩ := HX2.out
                    have HX3 := hid9 (HX2.out.set t0 t1 t2)
                    have HR3 := hid9 (((HR2.out.oth0 (C := w.heap.size + 1) (by omega) t0).oth1 (C := w.heap.size + 1) (by omega) t1).oth2 (C := w.heap.size + 1) (by omega) t2)
                    have HB3 := hid9 (bset3c HB2.out (show w.heap.size ≤ w.heap.size + 1 by omega) (.int .u64 t0) (.int .u64 t1) (.int .u64 t2))
                    clear HB2 HX2 HR2 HN2
                    have Hho := hid9 ho
                    clear ho
                    refine wl_nil9 (P := Try.prog) (ops := #[]) ?_
                    go_wp2
                    go_roundw
                    case rel =>
                      refine ⟨k + 1, by omega, by go_num, Hho.out, ⟨?_, HR3.out, HB3.out⟩⟩
                      rw [← HF.out, ← HT.out.2.1, ← HT.out.2.2.1, ← HT.out.2.2.2]
                      exact HX3.out
                    case measure => simp [intOf]; omega
                  · have hea : ea = 6 := HT.out.1.trans (fit_out ho).2
                    subst hea
                    have HF : Hid (par9N s = 0 ∧ par9E s = 6) := by
                      have q2 : ¬ val9 s s.size < 6277101735386680763835789423207666416102355444464034512896 := by
                        have := val9_le s (k + 1) s.size (by omega)
                        omega
                      show _ ∧ _
                      rw [HP.out.1, HP.out.2]
                      exact fit_out q2
                    have HR3 := hid9 (HR2.out.set 0 0 0)
                    have HB3 := hid9 (bset3c HB2.out (Nat.le_refl _) (.int .u64 0) (.int .u64 0) (.int .u64 0))
                    obtain ⟨u0, u1, u2, f0, f1, f2⟩ := HR2.out
                    clear HB2 HX2 HR2 HN2 ho
                    refine wl_nil9 (P := Try.prog) (ops := #[]) ?_
                    go_wp2
                    obtain ⟨g0, g1, g2, -, -, -⟩ := HR3.out
                    exact bodyPost_ret (v := .tuple #[.agg #[.int .u64 0, .int .u64 0, .int .u64 0], .int .i64 6]) (by simp [results, Try.results23, go_sem, g0, g1, g2]) rfl ⟨by rw [HF.out.1, HF.out.2, costV_zero], HB3.out⟩
              · rw [(fit_out cm).1, (fit_out cm).2, costV_zero] at KM
                have HF : Hid (par9N s = 0 ∧ par9E s = 6) := by
                  have q2 : ¬ val9 s s.size < 6277101735386680763835789423207666416102355444464034512896 := by
                    have := val9_le s (k + 1) s.size (by omega)
                    have := HV.out
                    omega
                  show _ ∧ _
                  rw [HP.out.1, HP.out.2]
                  exact fit_out q2
                clear HD HB hv hk cm HV bd hbt
                unfold costV at KM
                generalize cost0 (val9 s k) = x0 at *
                generalize cost1 (val9 s k) = x1 at *
                generalize cost2 (val9 s k) = x2 at *
                obtain ⟨⟨y0, y1, y2, -, -, -⟩, -, -⟩ := HE.out
                go_wp2_with fail
                refine (KM _).mono ?_
                rintro e v7 ⟨rfl, hb⟩
                have q7 := bl1 v7 (.cells #[.int .u64 0, .int .u64 0, .int .u64 0] 24)
                have HR := hid9 ((HE.out.2.1.below hb).below q7)
                have HBb := hid9 (keepb q7 (keepb hb HE.out.2.2))
                have HR3 := hid9 (HR.out.set 0 0 0)
                have HB3 := hid9 (bset3c HBb.out (Nat.le_refl _) (.int .u64 0) (.int .u64 0) (.int .u64 0))
                obtain ⟨u0, u1, u2, f0, f1, f2⟩ := HR.out
                clear HE hb q7 y0 y1 y2 KM HR HBb
                go_wp2
                obtain ⟨g0, g1, g2, -, -, -⟩ := HR3.out
                exact bodyPost_ret (v := .tuple #[.agg #[.int .u64 0, .int .u64 0, .int .u64 0], .int .i64 6]) (by simp [results, Try.results23, go_sem, g0, g1, g2]) rfl ⟨by rw [HF.out.1, HF.out.2, costV_zero], HB3.out⟩
            · have hk8 : k = s.size := by omega
              have hd : decide ((k : Int) < (s.size : Int)) = false := by simpa using hlt
              have HF : Hid (par9N s = val9 s k ∧ par9E s = 0) := by
                show _ ∧ _
                rw [HP.out.1, HP.out.2, ← hk8]
                exact fit_in hv
              generalize hx0 : cost0 (val9 s k) = x0 at *
              generalize hx1 : cost1 (val9 s k) = x1 at *
              generalize hx2 : cost2 (val9 s k) = x2 at *
              have HG : Hid (costV (val9 s k) = .agg #[.int .u64 x0, .int .u64 x1, .int .u64 x2]) := by show _ = _; unfold costV; rw [hx0, hx1, hx2]
              clear hx0 hx1 hx2 hk8 hv
              obtain ⟨⟨y0, y1, y2, -, -, -⟩, hR, -⟩ := HE.out
              have HR3 := hid9 (hR.set x0 x1 x2)
              have HB3 := hid9 (bset3c HE.out.2.2 (Nat.le_refl _) (.int .u64 x0) (.int .u64 x1) (.int .u64 x2))
              obtain ⟨u0, u1, u2, v0, v1, v2⟩ := hR
              clear HE HB HD HP
              go_wp2
              obtain ⟨f0, f1, f2, -, -, -⟩ := HR3.out
              exact bodyPost_ret (v := .tuple #[.agg #[.int .u64 x0, .int .u64 x1, .int .u64 x2], .int .i64 0]) (by simp [results, Try.results23, go_sem, f0, f1, f2]) rfl ⟨by rw [HF.out.1, HF.out.2, HG.out], HB3.out⟩
end Go.Proofs.Ytnaamkkjledllaa
