/-
  Part 7 of the proof: 5 texts, one behind the other.
-/
import Derived.Test.YtbgoclfifhdonaaPart6
import Derived.Test.YtbgoclfifhdonaaPart2
import Derived.Test.YtbgoclfifhdonaaPart3
import Derived.Test.YtbgoclfifhdonaaPart5
namespace Go.Proofs.Ytbgoclfifhdonaa
open Go.RowKit
set_option linter.unusedSimpArgs false
set_option linter.unusedVariables false

def DX (w : World) (B : Nat) (F : Int) (vc : Value) (x : BitVec 128) (m : Mc) (W : World) : Prop := MV W B F vc x m ∧ KM B w W
theorem DX.below {w W W' : World} {B : Nat} {F : Int} {vc : Value} {x : BitVec 128} {m : Mc} (h : DX w B F vc x m W) (hB : B < w.heap.size) (hb : Below W.heap.size W W') : DX w B F vc x m W' := ⟨h.1.below hb, h.2.below hB hb⟩
def AtW (W : World) (N : Nat) (y : BitVec 128) : Prop := W.heap[N]? = some (.cells #[.int .u64 (hI y), .int .u64 (lI y)] 25)
theorem AtW.below {W W' : World} {N : Nat} {y : BitVec 128} (h : AtW W N y) (hb : Below W.heap.size W W') : AtW W' N y := (hb.block N (lt_16 h)).trans h
theorem AtW.put {W : World} {N : Nat} {y : BitVec 128} (h : AtW W N y) (z : BitVec 128) : AtW ((W.setCell ⟨N, 0, none⟩ (.int .u64 (hI z))).setCell ⟨N, 1, none⟩ (.int .u64 (lI z))) N z := by
  unfold AtW; rw [set_16 (set_16 h _) _]; rfl
theorem far_km {B N : Nat} {a b : World} {y : BitVec 128} (h : KM B a b) (g : AtW a N y) (hn : N ≠ B) : AtW b N y := (h.ot.2 N (lt_16 g) hn).trans g
structure RX8 (B : Nat) (F : Int) (vc : Value) (x : BitVec 128) (w : World) (N : Nat) (y : BitVec 128) (m : Mc) (n : Int) (f4 f5 fc : Bool) (X : World) : Prop where
  d0 : fc = false → MV X B F vc x { m with ex := m.ex + 1, bt := m.bt + n }
  d1 : fc = true → MV X B F vc x { m with ex := m.ex + 1, bt := m.bt + n, pl := m.pl + 1, hb := n, hn := fdN x m.bt n }
  k : KM B w X
  aw : AtW X N y
  p1 : fc = true → f5 = true
  p2 : f5 = true → f4 = true
set_option maxRecDepth 20000 in
set_option maxHeartbeats 8000000 in
theorem extract19 (B : Nat) (F : Int) (vc : Value) (x : BitVec 128) (m : Mc) (n : Int) (w : World) (h : MV w B F vc x m) (hF : F ≤ 128) (hb0 : 0 ≤ m.bt) (hb1 : m.bt ≤ F) (hn0 : 0 ≤ n) (hn1 : n ≤ 24) (he : 0 ≤ m.ex ∧ m.ex ≤ 4611686018427387904) (hp : 0 ≤ m.pl ∧ m.pl ≤ 4611686018427387904) :
    Calls Try.prog 46 #[.pointer (some ⟨B, 0, none⟩), .int .i64 n] w fun r w' => r = .returned (.int .i64 (exE F m n)) ∧ MV w' B F vc x (exM F x m n) ∧ KM B w w' := by
  have HM := hid13 h
  have HB := hid13 h.lt
  have HF2 : Hid (lI (readW x m.bt n) < 18446744073709551616 ∧ fdN x m.bt n < 16777217 ∧ 0 ≤ fdN x m.bt n) := by
    refine ⟨lI_up _, ?_, fdN_lo _ _ _⟩
    have h1 := fdN_hi x m.bt n hn0 hn1
    have h2 : (2 : Int) ^ n.toNat ≤ 16777216 := by
      have h3 : 2 ^ n.toNat ≤ 2 ^ 24 := Nat.pow_le_pow_right (by decide) (by omega)
      have h4 : ((2 ^ n.toNat : Nat) : Int) ≤ ((2 ^ 24 : Nat) : Int) := Int.ofNat_le.2 h3
      have h5 : ((2 ^ n.toNat : Nat) : Int) = 2 ^ n.toNat := by norm_cast
      rw [h5] at h4
      exact h4
    omega
  have K1 := fun (hq : n ≤ F - m.bt) (W : World) => field_in x m.bt n W hb0 (by omega) hn0 (by omega)
  have m1 : IntKind.i64.wrap (F - m.bt) = F - m.bt := by rw [IntKind.wrap_i64]; omega
  have m2 : IntKind.i64.wrap (m.ex + 1) = m.ex + 1 := by rw [IntKind.wrap_i64]; omega
  have m3 : IntKind.i64.wrap (m.pl + 1) = m.pl + 1 := by rw [IntKind.wrap_i64]; omega
  have m4 : n ≤ F - m.bt → IntKind.i64.wrap (m.bt + n) = m.bt + n := fun q => by rw [IntKind.wrap_i64]; omega
  have m5 : IntKind.i64.wrap (lI (readW x m.bt n)) = fdN x m.bt n := by
    have h1 := HF2.out
    unfold fdN at h1 ⊢
    rw [IntKind.wrap_i64]; omega
  have HX : Hid (exE F m n = (if n > F - m.bt then 27 else 0) ∧ exM F x m n = if n > F - m.bt then m else { m with ex := m.ex + 1, bt := m.bt + n, pl := m.pl + 1, hb := n, hn := fdN x m.bt n }) := ⟨rfl, rfl⟩
  have c0 := h.c0
  have c2 := h.c2
  have c3 := h.c3
  have c11 := h.c11
  obtain ⟨y, hy⟩ : ∃ y, y = readW x m.bt n := ⟨_, rfl⟩
  have K2 : ∀ (hq : n ≤ F - m.bt) (W : World), Calls Try.prog 56 #[.agg #[.int .u64 (hI x), .int .u64 (lI x)], .int .i64 m.bt, .int .i64 n] W fun e w' => e = .returned (.tuple #[.agg #[.int .u64 (hI y), .int .u64 (lI y)], .int .i64 0]) ∧ Below W.heap.size W w' := fun hq W => by rw [hy]; exact K1 hq W
  rw [← hy] at m5
  have HY := hid13 hy
  clear hy K1 h HF2 hF hb0 hb1 hn0 hn1 he hp
  by_cases hq : n ≤ F - m.bt
  · have t1 : ¬ (F - m.bt < n) := by omega
    have t2 : (decide (n > F - m.bt)) = false := by simp; omega
    have mb := m4 hq
    have KC := K2 hq
    have HR : Hid (exE F m n = 0 ∧ exM F x m n = { m with ex := m.ex + 1, bt := m.bt + n, pl := m.pl + 1, hb := n, hn := fdN x m.bt n }) := by
      show _ ∧ _
      rw [HX.out.1, HX.out.2, if_neg (by omega), if_neg (by omega)]
      exact ⟨rfl, rfl⟩
    have HD0 : Hid (DX w B F vc x m w.drew) := hid13 ⟨HM.out.below (Below.refl _ _).drew, (KM.refl B w).below HB.out (Below.refl _ _).drew⟩
    clear HX m4 K2 hq
    go_enter Try.func46, Try.ntmps46
    go_wp2_with fail
    go_quiet (fail)
    go_wp2_with fail
    refine two_region 16 14 15 (alOk (qpOk 16 14 (by decide) (fun N => by kernel_rfl) (by kernel_rfl) (by kernel_rfl) (by kernel_rfl) (by kernel_rfl)) (by decide) rfl rfl (by kernel_rfl)) (alOk (qpOk 16 15 (by decide) (fun N => by kernel_rfl) (by kernel_rfl) (by kernel_rfl) (by kernel_rfl) (by kernel_rfl)) (by decide) rfl rfl (by kernel_rfl)) (by decide) (by kernel_rfl) rfl (D := DX w B F vc x m) (C1 := fun N W => DX w B F vc x m W ∧ AtW W N 0#128 ∧ w.heap.size ≤ N) (C2 := fun N W => DX w B F vc x m W ∧ AtW W N y ∧ w.heap.size ≤ N) (obj := .cells #[.int .u64 0, .int .u64 0] 25) [some 20, some 21, some 22, some 23, some 24, some 25, some 26, some 27, some 28, some 29, some 30, some 19, some 31, some 32, some 5, none] (fun N => [.pointer (some ⟨B, 0, none⟩), .pointer (some ⟨B, 0, none⟩), .pointer (some ⟨B, 2, none⟩), .agg #[.int .u64 (hI x), .int .u64 (lI x)], .pointer (some ⟨B, 0, none⟩), .pointer (some ⟨B, 0, none⟩), .pointer (some ⟨B, 6, none⟩), .pointer (some ⟨B, 11, none⟩), .int .i64 m.bt, .int .i64 n, .tuple #[.agg #[.int .u64 (hI y), .int .u64 (lI y)], .int .i64 0], .tuple #[.agg #[.int .u64 (hI y), .int .u64 (lI y)], .int .i64 0], .agg #[.int .u64 (hI y), .int .u64 (lI y)], .int .i64 0, .pointer (some ⟨N, 0, none⟩), undef]) 5 [5, 31] (by kernel_rfl) (fun N => by kernel_rfl) rfl ?hA3 ?hAd3 (by kernel_rfl) ?hal3 ?hC3 ?hst3 ?hD3 ?walk3 ?fin3
    case hD3 => exact ⟨HM.out.below (below_drewN (Below.refl _ _) _).drew, (KM.refl B w).below HB.out (below_drewN (Below.refl _ _) _).drew⟩
    case hA3 => intro N; simp only [putAll, Act.put, List.setIfInBounds_toArray, List.set_cons_zero, List.set_cons_succ]; rfl
    case hAd3 => intro N; simp only [putAll, Act.put, List.setIfInBounds_toArray, List.set_cons_zero, List.set_cons_succ]; rfl
    case hal3 => intro W a _; go_simp
    case hC3 => intro W h; exact ⟨h.below HB.out (bl1 W _), by unfold AtW; rw [hI_zero, lI_zero]; exact new_16 _ _, h.2.ot.1⟩
    case hst3 =>
      intro N W a' hC hr K Q' hK
      have e5 : a'.tmps[5]? = some (.pointer (some ⟨N, 0, none⟩)) := (hr 5 (by simp)).trans (by simp only [putAll, Act.put, List.setIfInBounds_toArray, List.set_cons_zero, List.set_cons_succ]; rfl)
      have e31 : a'.tmps[31]? = some (.agg #[.int .u64 (hI y), .int .u64 (lI y)]) := (hr 31 (by simp)).trans (by simp only [putAll, Act.put, List.setIfInBounds_toArray, List.set_cons_zero, List.set_cons_succ]; rfl)
      obtain ⟨hE, hZ, hN⟩ := hC
      have z0 := at_16 hZ 0 _ rfl
      have z1 := at_16 hZ 1 _ rfl
      have z2 := fr_16 (j := 0) hZ
      have z3 := fr_16 (j := 1) hZ
      have hBN : B ≠ N := by have := HB.out; omega
      have hK' := hK _ ⟨⟨(hE.1.far hBN _).far hBN _, (hE.2.setN HB.out hN _).setN HB.out hN _⟩, hZ.put y, hN⟩
      unfold Oper.wp
      simp [execOp, e5, e31, go_sem, z0, z1, z2, z3, Oper.upon]
      exact hK'
    case walk3 =>
      intro N X hX
      have hXD : ∀ W, X W → DX w B F vc x m W := by
        rcases hX with rfl | rfl | rfl
        · exact fun W h => h
        · exact fun W h => h.1
        · exact fun W h => h.1
      have hXb : ∀ W W', X W → Below W.heap.size W W' → X W' := by
        rcases hX with rfl | rfl | rfl
        · exact fun W W' h hb => h.below HB.out hb
        · exact fun W W' h hb => ⟨h.1.below HB.out hb, h.2.1.below hb, h.2.2⟩
        · exact fun W W' h hb => ⟨h.1.below HB.out hb, h.2.1.below hb, h.2.2⟩
      clear hX HD0
      dsimp only [rep, List.take, List.modify, List.modifyTailIdx, List.modifyTailIdx.go, List.modifyHead]
      refine q_run (v := .pointer (some ⟨B, 0, none⟩)) (by rfl) ?_ ?_
      · (intro w1 hC; have k2 := (hXD w1 hC).1.c2; have k3 := (hXD w1 hC).1.c3; have k11 := (hXD w1 hC).1.c11; clear hC; go_simp; first | done | (simp; done) | (simp [*]; done) | omega | (simp; omega) | (rw [IntKind.wrap_i64]; omega) | (intro hx; omega) | rfl)
      simp only [putAll, Act.put, List.setIfInBounds_toArray, List.set_cons_zero, List.set_cons_succ]
      refine q_run (v := .pointer (some ⟨B, 0, none⟩)) (by rfl) ?_ ?_
      · (intro w1 hC; have k2 := (hXD w1 hC).1.c2; have k3 := (hXD w1 hC).1.c3; have k11 := (hXD w1 hC).1.c11; clear hC; go_simp; first | done | (simp; done) | (simp [*]; done) | omega | (simp; omega) | (rw [IntKind.wrap_i64]; omega) | (intro hx; omega) | rfl)
      simp only [putAll, Act.put, List.setIfInBounds_toArray, List.set_cons_zero, List.set_cons_succ]
      refine q_run (v := .pointer (some ⟨B, 2, none⟩)) (by rfl) ?_ ?_
      · (intro w1 hC; have k2 := (hXD w1 hC).1.c2; have k3 := (hXD w1 hC).1.c3; have k11 := (hXD w1 hC).1.c11; clear hC; go_simp; first | done | (simp; done) | (simp [*]; done) | omega | (simp; omega) | (rw [IntKind.wrap_i64]; omega) | (intro hx; omega) | rfl)
      simp only [putAll, Act.put, List.setIfInBounds_toArray, List.set_cons_zero, List.set_cons_succ]
      refine q_run (v := .agg #[.int .u64 (hI x), .int .u64 (lI x)]) (by rfl) ?_ ?_
      · (intro w1 hC; have k2 := (hXD w1 hC).1.c2; have k3 := (hXD w1 hC).1.c3; have k11 := (hXD w1 hC).1.c11; clear hC; go_simp; first | done | (simp; done) | (simp [*]; done) | omega | (simp; omega) | (rw [IntKind.wrap_i64]; omega) | (intro hx; omega) | rfl)
      simp only [putAll, Act.put, List.setIfInBounds_toArray, List.set_cons_zero, List.set_cons_succ]
      refine q_run (v := .pointer (some ⟨B, 0, none⟩)) (by rfl) ?_ ?_
      · (intro w1 hC; have k2 := (hXD w1 hC).1.c2; have k3 := (hXD w1 hC).1.c3; have k11 := (hXD w1 hC).1.c11; clear hC; go_simp; first | done | (simp; done) | (simp [*]; done) | omega | (simp; omega) | (rw [IntKind.wrap_i64]; omega) | (intro hx; omega) | rfl)
      simp only [putAll, Act.put, List.setIfInBounds_toArray, List.set_cons_zero, List.set_cons_succ]
      refine q_run (v := .pointer (some ⟨B, 0, none⟩)) (by rfl) ?_ ?_
      · (intro w1 hC; have k2 := (hXD w1 hC).1.c2; have k3 := (hXD w1 hC).1.c3; have k11 := (hXD w1 hC).1.c11; clear hC; go_simp; first | done | (simp; done) | (simp [*]; done) | omega | (simp; omega) | (rw [IntKind.wrap_i64]; omega) | (intro hx; omega) | rfl)
      simp only [putAll, Act.put, List.setIfInBounds_toArray, List.set_cons_zero, List.set_cons_succ]
      refine q_run (v := .pointer (some ⟨B, 6, none⟩)) (by rfl) ?_ ?_
      · (intro w1 hC; have k2 := (hXD w1 hC).1.c2; have k3 := (hXD w1 hC).1.c3; have k11 := (hXD w1 hC).1.c11; clear hC; go_simp; first | done | (simp; done) | (simp [*]; done) | omega | (simp; omega) | (rw [IntKind.wrap_i64]; omega) | (intro hx; omega) | rfl)
      simp only [putAll, Act.put, List.setIfInBounds_toArray, List.set_cons_zero, List.set_cons_succ]
      refine q_run (v := .pointer (some ⟨B, 11, none⟩)) (by rfl) ?_ ?_
      · (intro w1 hC; have k2 := (hXD w1 hC).1.c2; have k3 := (hXD w1 hC).1.c3; have k11 := (hXD w1 hC).1.c11; clear hC; go_simp; first | done | (simp; done) | (simp [*]; done) | omega | (simp; omega) | (rw [IntKind.wrap_i64]; omega) | (intro hx; omega) | rfl)
      simp only [putAll, Act.put, List.setIfInBounds_toArray, List.set_cons_zero, List.set_cons_succ]
      refine q_run (v := .int .i64 m.bt) (by rfl) ?_ ?_
      · (intro w1 hC; have k2 := (hXD w1 hC).1.c2; have k3 := (hXD w1 hC).1.c3; have k11 := (hXD w1 hC).1.c11; clear hC; go_simp; first | done | (simp; done) | (simp [*]; done) | omega | (simp; omega) | (rw [IntKind.wrap_i64]; omega) | (intro hx; omega) | rfl)
      simp only [putAll, Act.put, List.setIfInBounds_toArray, List.set_cons_zero, List.set_cons_succ]
      refine q_run (v := .int .i64 n) (by rfl) ?_ ?_
      · (intro w1 hC; have k2 := (hXD w1 hC).1.c2; have k3 := (hXD w1 hC).1.c3; have k11 := (hXD w1 hC).1.c11; clear hC; go_simp; first | done | (simp; done) | (simp [*]; done) | omega | (simp; omega) | (rw [IntKind.wrap_i64]; omega) | (intro hx; omega) | rfl)
      simp only [putAll, Act.put, List.setIfInBounds_toArray, List.set_cons_zero, List.set_cons_succ]
      refine q_call (v := .tuple #[.agg #[.int .u64 (hI y), .int .u64 (lI y)], .int .i64 0]) (f := 56) (args := #[.agg #[.int .u64 (hI x), .int .u64 (lI x)], .int .i64 m.bt, .int .i64 n]) (by rfl) ?_ ?_ ?_
      · (intro w1 hC; clear hC; go_simp)
      · exact fun w1 hC => (KC w1).mono fun e w' ⟨he, hb⟩ => ⟨he, hXb w1 _ hC hb⟩
      simp only [putAll, Act.put, List.setIfInBounds_toArray, List.set_cons_zero, List.set_cons_succ]
      refine q_run (v := .tuple #[.agg #[.int .u64 (hI y), .int .u64 (lI y)], .int .i64 0]) (by rfl) ?_ ?_
      · (intro w1 hC; have k2 := (hXD w1 hC).1.c2; have k3 := (hXD w1 hC).1.c3; have k11 := (hXD w1 hC).1.c11; clear hC; go_simp; first | done | (simp; done) | (simp [*]; done) | omega | (simp; omega) | (rw [IntKind.wrap_i64]; omega) | (intro hx; omega) | rfl)
      simp only [putAll, Act.put, List.setIfInBounds_toArray, List.set_cons_zero, List.set_cons_succ]
      refine q_run (v := .agg #[.int .u64 (hI y), .int .u64 (lI y)]) (by rfl) ?_ ?_
      · (intro w1 hC; have k2 := (hXD w1 hC).1.c2; have k3 := (hXD w1 hC).1.c3; have k11 := (hXD w1 hC).1.c11; clear hC; go_simp; first | done | (simp; done) | (simp [*]; done) | omega | (simp; omega) | (rw [IntKind.wrap_i64]; omega) | (intro hx; omega) | rfl)
      simp only [putAll, Act.put, List.setIfInBounds_toArray, List.set_cons_zero, List.set_cons_succ]
      refine q_run (v := .int .i64 0) (by rfl) ?_ ?_
      · (intro w1 hC; have k2 := (hXD w1 hC).1.c2; have k3 := (hXD w1 hC).1.c3; have k11 := (hXD w1 hC).1.c11; clear hC; go_simp; first | done | (simp; done) | (simp [*]; done) | omega | (simp; omega) | (rw [IntKind.wrap_i64]; omega) | (intro hx; omega) | rfl)
      simp only [putAll, Act.put, List.setIfInBounds_toArray, List.set_cons_zero, List.set_cons_succ]
      refine q_run (v := .pointer (some ⟨N, 0, none⟩)) (by rfl) ?_ ?_
      · (intro w1 hC; go_simp)
      simp only [putAll, Act.put, List.setIfInBounds_toArray, List.set_cons_zero, List.set_cons_succ]
      refine q_run (v := undef) (by rfl) ?_ ?_
      · (intro w1 hC; go_simp)
      refine wpQuiet_nil ?_
      simp only [putAll, Act.put, List.setIfInBounds_toArray, List.set_cons_zero, List.set_cons_succ]
    case fin3 =>
      intro N W hC
      have HE := hid13 hC
      clear hC HD0
      simp only [putAll, Act.put, List.setIfInBounds_toArray, List.set_cons_zero, List.set_cons_succ]
      dsimp only [List.drop]
      have g9 := HE.out.1.1.c9
      have r9 := HE.out.1.1.fr 9
      have g11 := HE.out.1.1.c11
      have r11 := HE.out.1.1.fr 11
      clear c0 c2 c3 c11
      go_wp2_with fail
      have HV : Hid (MV ((W.setCell ⟨B, 9, none⟩ (.int .i64 (m.ex + 1))).setCell ⟨B, 11, none⟩ (.int .i64 (m.bt + n))) B F vc x { m with ex := m.ex + 1, bt := m.bt + n } ∧ KM B w ((W.setCell ⟨B, 9, none⟩ (.int .i64 (m.ex + 1))).setCell ⟨B, 11, none⟩ (.int .i64 (m.bt + n))) ∧ AtW ((W.setCell ⟨B, 9, none⟩ (.int .i64 (m.ex + 1))).setCell ⟨B, 11, none⟩ (.int .i64 (m.bt + n))) N y) := by
        have hN : N ≠ B := by have := HB.out; have := HE.out.2.2; omega
        exact ⟨(HE.out.1.1.s9 _).s11 _, (HE.out.1.2.set _).set _, (far_16 hN).trans ((far_16 hN).trans HE.out.2.1)⟩
      generalize (W.setCell ⟨B, 9, none⟩ (.int .i64 (m.ex + 1))).setCell ⟨B, 11, none⟩ (.int .i64 (m.bt + n)) = V at HV ⊢
      have HZ : Hid (w.heap.size ≤ N) := HE.out.2.2
      clear HE g9 r9 g11 r11 mb m2
      have HN : Hid (N ≠ B) := by have := HB.out; have := HZ.out; show _ ≠ _; omega
      have HR0 : Hid (RX8 B F vc x w N y m n false false false V.drew) := ⟨fun _ => HV.out.1.below (Below.refl _ _).drew, fun q => (by cases q), HV.out.2.1.below HB.out (Below.refl _ _).drew, HV.out.2.2.below (Below.refl _ _).drew, fun q => (by cases q), fun q => (by cases q)⟩
      refine gh_region (γ := Unit) (qpOk 12 12 (by decide) (fun N => by kernel_rfl) (by kernel_rfl) (by kernel_rfl) (by kernel_rfl) (by kernel_rfl)) (by kernel_rfl) (by kernel_rfl) [some 55, some 56, some 57, some 58, some 59, some 60, some 61, some 62, some 63, some 64, some 65, some 66] (fun g => [.pointer (some ⟨B, 0, none⟩), .pointer (some ⟨B, 0, none⟩), .pointer (some ⟨B, 0, none⟩), .pointer (some ⟨B, 4, none⟩), .int .i64 m.pl, .int .i64 (m.pl + 1), .int .i64 n, .pointer (some ⟨N, 1, none⟩), .int .u64 (lI y), .int .i64 (fdN x m.bt n), .agg #[.int .i64 n, .int .i64 (fdN x m.bt n)], .tuple #[]]) (by kernel_rfl) (by simp) (fun lp g X => RX8 B F vc x w N y m n (lp.getD 4 false) (lp.getD 5 false) (lp.getD 11 false) X) () HR0.out ?step8 ?fin8
      case step8 =>
        intro q o lp g w' a' ho hsz hun hdep hR hS K Q' hK
        have hfl : ∀ j, j ≠ q → (lp.setIfInBounds q true).getD j false = lp.getD j false := fun j hj => by rw [Array.getD_eq_getD_getElem?, Array.getD_eq_getD_getElem?, Array.getElem?_setIfInBounds_ne (by omega)]
        have hq : q < 12 := (List.getElem?_eq_some_iff.mp ho).1
        match q, ho, hun, hdep, hK, hfl, hq with
        | 0, ho, hun, hdep, hK, hfl, _ =>
          obtain rfl := Option.some.inj ho
          have o0 : a'.tmps[0]? = some (.pointer (some ⟨B, 0, none⟩)) := (hS.old14 0 (by simp)).trans rfl
          have hK' := hK g w' (fun _ _ _ _ _ _ => rfl) (by rw [hfl 4 (by decide), hfl 5 (by decide), hfl 11 (by decide)]; exact hR) (.pointer (some ⟨B, 0, none⟩)) (by simp only [valO, Option.bind_some]; (try simp only [putAll, Act.put, List.setIfInBounds_toArray, List.set_cons_zero, List.set_cons_succ]); (try rfl))
          clear hS hdep hR
          refine gh_quiet14 (v := .pointer (some ⟨B, 0, none⟩)) ?_ ?_
          · (simp only [execOp, Act.eval, o0]; go_simp; first | done | (simp; done) | (simp [*]; done) | omega | (rw [IntKind.wrap_i64]; omega))
          · exact hK'
        | 1, ho, hun, hdep, hK, hfl, _ =>
          obtain rfl := Option.some.inj ho
          have o0 : a'.tmps[0]? = some (.pointer (some ⟨B, 0, none⟩)) := (hS.old14 0 (by simp)).trans rfl
          have hK' := hK g w' (fun _ _ _ _ _ _ => rfl) (by rw [hfl 4 (by decide), hfl 5 (by decide), hfl 11 (by decide)]; exact hR) (.pointer (some ⟨B, 0, none⟩)) (by simp only [valO, Option.bind_some]; (try simp only [putAll, Act.put, List.setIfInBounds_toArray, List.set_cons_zero, List.set_cons_succ]); (try rfl))
          clear hS hdep hR
          refine gh_quiet14 (v := .pointer (some ⟨B, 0, none⟩)) ?_ ?_
          · (simp only [execOp, Act.eval, o0]; go_simp; first | done | (simp; done) | (simp [*]; done) | omega | (rw [IntKind.wrap_i64]; omega))
          · exact hK'
        | 2, ho, hun, hdep, hK, hfl, _ =>
          obtain rfl := Option.some.inj ho
          have d1 : lp.getD 1 false = true := hdep { on := 1, ground := .data } (by simp) rfl
          have e56 : a'.tmps[56]? = some (.pointer (some ⟨B, 0, none⟩)) := (hS.don 1 _ 56 rfl d1 rfl).trans (by simp only [putAll, Act.put, List.setIfInBounds_toArray, List.set_cons_zero, List.set_cons_succ]; rfl)
          have hK' := hK g w' (fun _ _ _ _ _ _ => rfl) (by rw [hfl 4 (by decide), hfl 5 (by decide), hfl 11 (by decide)]; exact hR) (.pointer (some ⟨B, 0, none⟩)) (by simp only [valO, Option.bind_some]; (try simp only [putAll, Act.put, List.setIfInBounds_toArray, List.set_cons_zero, List.set_cons_succ]); (try rfl))
          clear hS hdep hR
          refine gh_quiet14 (v := .pointer (some ⟨B, 0, none⟩)) ?_ ?_
          · (simp only [execOp, Act.eval, e56]; go_simp; first | done | (simp; done) | (simp [*]; done) | omega | (rw [IntKind.wrap_i64]; omega))
          · exact hK'
        | 3, ho, hun, hdep, hK, hfl, _ =>
          obtain rfl := Option.some.inj ho
          have d2 : lp.getD 2 false = true := hdep { on := 2, ground := .data } (by simp) rfl
          have e57 : a'.tmps[57]? = some (.pointer (some ⟨B, 0, none⟩)) := (hS.don 2 _ 57 rfl d2 rfl).trans (by simp only [putAll, Act.put, List.setIfInBounds_toArray, List.set_cons_zero, List.set_cons_succ]; rfl)
          have hK' := hK g w' (fun _ _ _ _ _ _ => rfl) (by rw [hfl 4 (by decide), hfl 5 (by decide), hfl 11 (by decide)]; exact hR) (.pointer (some ⟨B, 4, none⟩)) (by simp only [valO, Option.bind_some]; (try simp only [putAll, Act.put, List.setIfInBounds_toArray, List.set_cons_zero, List.set_cons_succ]); (try rfl))
          clear hS hdep hR
          refine gh_quiet14 (v := .pointer (some ⟨B, 4, none⟩)) ?_ ?_
          · (simp only [execOp, Act.eval, e57]; go_simp; first | done | (simp; done) | (simp [*]; done) | omega | (rw [IntKind.wrap_i64]; omega))
          · exact hK'
        | 4, ho, hun, hdep, hK, hfl, _ =>
          obtain rfl := Option.some.inj ho
          have d3 : lp.getD 3 false = true := hdep { on := 3, ground := .data } (by simp) rfl
          have e58 : a'.tmps[58]? = some (.pointer (some ⟨B, 4, none⟩)) := (hS.don 3 _ 58 rfl d3 rfl).trans (by simp only [putAll, Act.put, List.setIfInBounds_toArray, List.set_cons_zero, List.set_cons_succ]; rfl)
          have c4 : lp.getD 11 false = false := by
            cases h : lp.getD 11 false with
            | false => rfl
            | true => have := hR.p2 (hR.p1 h); rw [hun] at this; cases this
          have k4 := (hR.d0 c4).c4
          have hK' := hK g w' (fun _ _ _ _ _ _ => rfl) (by rw [hfl 5 (by decide), hfl 11 (by decide), getD_set_same (by rw [hsz]; decide)]; exact ⟨hR.d0, hR.d1, hR.k, hR.aw, hR.p1, fun _ => rfl⟩) (.int .i64 m.pl) (by simp only [valO, Option.bind_some]; (try simp only [putAll, Act.put, List.setIfInBounds_toArray, List.set_cons_zero, List.set_cons_succ]); (try rfl))
          clear hS hdep hR
          refine gh_quiet14 (v := .int .i64 m.pl) ?_ ?_
          · (simp only [execOp, Act.eval, e58]; go_simp; first | done | (simp; done) | (simp [*]; done) | omega | (rw [IntKind.wrap_i64]; omega))
          · exact hK'
        | 5, ho, hun, hdep, hK, hfl, _ =>
          obtain rfl := Option.some.inj ho
          have d4 : lp.getD 4 false = true := hdep { on := 4, ground := .data } (by simp) rfl
          have e59 : a'.tmps[59]? = some (.int .i64 m.pl) := (hS.don 4 _ 59 rfl d4 rfl).trans (by simp only [putAll, Act.put, List.setIfInBounds_toArray, List.set_cons_zero, List.set_cons_succ]; rfl)
          have hK' := hK g w' (fun _ _ _ _ _ _ => rfl) (by rw [hfl 4 (by decide), hfl 11 (by decide), getD_set_same (by rw [hsz]; decide)]; exact ⟨hR.d0, hR.d1, hR.k, hR.aw, fun _ => rfl, fun _ => d4⟩) (.int .i64 (m.pl + 1)) (by simp only [valO, Option.bind_some]; (try simp only [putAll, Act.put, List.setIfInBounds_toArray, List.set_cons_zero, List.set_cons_succ]); (try rfl))
          clear hS hdep hR
          refine gh_quiet14 (v := .int .i64 (m.pl + 1)) ?_ ?_
          · (simp only [execOp, Act.eval, e59]; go_simp; first | done | (simp; done) | (simp [*]; done) | omega | (rw [IntKind.wrap_i64]; omega))
          · exact hK'
        | 6, ho, hun, hdep, hK, hfl, _ =>
          obtain rfl := Option.some.inj ho
          have o1 : a'.tmps[1]? = some (.int .i64 n) := (hS.old14 1 (by simp)).trans rfl
          have hK' := hK g w' (fun _ _ _ _ _ _ => rfl) (by rw [hfl 4 (by decide), hfl 5 (by decide), hfl 11 (by decide)]; exact hR) (.int .i64 n) (by simp only [valO, Option.bind_some]; (try simp only [putAll, Act.put, List.setIfInBounds_toArray, List.set_cons_zero, List.set_cons_succ]); (try rfl))
          clear hS hdep hR
          refine gh_quiet14 (v := .int .i64 n) ?_ ?_
          · (simp only [execOp, Act.eval, o1]; go_simp; first | done | (simp; done) | (simp [*]; done) | omega | (rw [IntKind.wrap_i64]; omega))
          · exact hK'
        | 7, ho, hun, hdep, hK, hfl, _ =>
          obtain rfl := Option.some.inj ho
          have o5 : a'.tmps[5]? = some (.pointer (some ⟨N, 0, none⟩)) := (hS.old14 5 (by simp)).trans rfl
          have hK' := hK g w' (fun _ _ _ _ _ _ => rfl) (by rw [hfl 4 (by decide), hfl 5 (by decide), hfl 11 (by decide)]; exact hR) (.pointer (some ⟨N, 1, none⟩)) (by simp only [valO, Option.bind_some]; (try simp only [putAll, Act.put, List.setIfInBounds_toArray, List.set_cons_zero, List.set_cons_succ]); (try rfl))
          clear hS hdep hR
          refine gh_quiet14 (v := .pointer (some ⟨N, 1, none⟩)) ?_ ?_
          · (simp only [execOp, Act.eval, o5]; go_simp; first | done | (simp; done) | (simp [*]; done) | omega | (rw [IntKind.wrap_i64]; omega))
          · exact hK'
        | 8, ho, hun, hdep, hK, hfl, _ =>
          obtain rfl := Option.some.inj ho
          have d7 : lp.getD 7 false = true := hdep { on := 7, ground := .data } (by simp) rfl
          have e62 : a'.tmps[62]? = some (.pointer (some ⟨N, 1, none⟩)) := (hS.don 7 _ 62 rfl d7 rfl).trans (by simp only [putAll, Act.put, List.setIfInBounds_toArray, List.set_cons_zero, List.set_cons_succ]; rfl)
          have z1 := at_16 hR.aw 1 _ rfl
          have hK' := hK g w' (fun _ _ _ _ _ _ => rfl) (by rw [hfl 4 (by decide), hfl 5 (by decide), hfl 11 (by decide)]; exact hR) (.int .u64 (lI y)) (by simp only [valO, Option.bind_some]; (try simp only [putAll, Act.put, List.setIfInBounds_toArray, List.set_cons_zero, List.set_cons_succ]); (try rfl))
          clear hS hdep hR
          refine gh_quiet14 (v := .int .u64 (lI y)) ?_ ?_
          · (simp only [execOp, Act.eval, e62]; go_simp; first | done | (simp; done) | (simp [*]; done) | omega | (rw [IntKind.wrap_i64]; omega))
          · exact hK'
        | 9, ho, hun, hdep, hK, hfl, _ =>
          obtain rfl := Option.some.inj ho
          have d8 : lp.getD 8 false = true := hdep { on := 8, ground := .data } (by simp) rfl
          have e63 : a'.tmps[63]? = some (.int .u64 (lI y)) := (hS.don 8 _ 63 rfl d8 rfl).trans (by simp only [putAll, Act.put, List.setIfInBounds_toArray, List.set_cons_zero, List.set_cons_succ]; rfl)
          have hK' := hK g w' (fun _ _ _ _ _ _ => rfl) (by rw [hfl 4 (by decide), hfl 5 (by decide), hfl 11 (by decide)]; exact hR) (.int .i64 (fdN x m.bt n)) (by simp only [valO, Option.bind_some]; (try simp only [putAll, Act.put, List.setIfInBounds_toArray, List.set_cons_zero, List.set_cons_succ]); (try rfl))
          clear hS hdep hR
          refine gh_quiet14 (v := .int .i64 (fdN x m.bt n)) ?_ ?_
          · (simp only [execOp, Act.eval, e63]; go_simp; first | done | (simp; done) | (simp [*]; done) | omega | (rw [IntKind.wrap_i64]; omega))
          · exact hK'
        | 10, ho, hun, hdep, hK, hfl, _ =>
          obtain rfl := Option.some.inj ho
          have d6 : lp.getD 6 false = true := hdep { on := 6, ground := .data } (by simp) rfl
          have e61 : a'.tmps[61]? = some (.int .i64 n) := (hS.don 6 _ 61 rfl d6 rfl).trans (by simp only [putAll, Act.put, List.setIfInBounds_toArray, List.set_cons_zero, List.set_cons_succ]; rfl)
          have d9 : lp.getD 9 false = true := hdep { on := 9, ground := .data } (by simp) rfl
          have e64 : a'.tmps[64]? = some (.int .i64 (fdN x m.bt n)) := (hS.don 9 _ 64 rfl d9 rfl).trans (by simp only [putAll, Act.put, List.setIfInBounds_toArray, List.set_cons_zero, List.set_cons_succ]; rfl)
          have hK' := hK g w' (fun _ _ _ _ _ _ => rfl) (by rw [hfl 4 (by decide), hfl 5 (by decide), hfl 11 (by decide)]; exact hR) (.agg #[.int .i64 n, .int .i64 (fdN x m.bt n)]) (by simp only [valO, Option.bind_some]; (try simp only [putAll, Act.put, List.setIfInBounds_toArray, List.set_cons_zero, List.set_cons_succ]); (try rfl))
          clear hS hdep hR
          refine gh_quiet14 (v := .agg #[.int .i64 n, .int .i64 (fdN x m.bt n)]) ?_ ?_
          · (simp only [execOp, Act.eval, e61, e64]; go_simp; first | done | (simp; done) | (simp [*]; done) | omega | (rw [IntKind.wrap_i64]; omega))
          · exact hK'
        | 11, ho, hun, hdep, hK, hfl, _ =>
          obtain rfl := Option.some.inj ho
          have d0 : lp.getD 0 false = true := hdep { on := 0, ground := .data } (by simp) rfl
          have e55 : a'.tmps[55]? = some (.pointer (some ⟨B, 0, none⟩)) := (hS.don 0 _ 55 rfl d0 rfl).trans (by simp only [putAll, Act.put, List.setIfInBounds_toArray, List.set_cons_zero, List.set_cons_succ]; rfl)
          have d5 : lp.getD 5 false = true := hdep { on := 5, ground := .data } (by simp) rfl
          have e60 : a'.tmps[60]? = some (.int .i64 (m.pl + 1)) := (hS.don 5 _ 60 rfl d5 rfl).trans (by simp only [putAll, Act.put, List.setIfInBounds_toArray, List.set_cons_zero, List.set_cons_succ]; rfl)
          have d10 : lp.getD 10 false = true := hdep { on := 10, ground := .data } (by simp) rfl
          have e65 : a'.tmps[65]? = some (.agg #[.int .i64 n, .int .i64 (fdN x m.bt n)]) := (hS.don 10 _ 65 rfl d10 rfl).trans (by simp only [putAll, Act.put, List.setIfInBounds_toArray, List.set_cons_zero, List.set_cons_succ]; rfl)
          have KC := moveTo19 B F vc x _ (m.pl + 1) n (fdN x m.bt n) w' (hR.d0 hun)
          clear hdep
          unfold Oper.wp
          simp only [execOp, Act.eval, Array.getD_eq_getD_getElem?]
          simp [go_sem, e55, e60, e65, Oper.upon]
          refine KC.mono ?_
          rintro e W2 ⟨rfl, hb⟩
          exact hK g W2 (fun _ _ _ _ _ _ => rfl) (by rw [hfl 4 (by decide), hfl 5 (by decide), getD_set_same (by rw [hsz]; decide)]; exact ⟨fun q => (by cases q), fun _ => hb.1, hR.k.trans hb.2, (far_km hb.2 hR.aw HN.out), fun _ => d5, hR.p2⟩) _ (by simp only [valO, Option.bind_some]; simp only [putAll, Act.put, List.setIfInBounds_toArray, List.set_cons_zero, List.set_cons_succ]; rfl)
        | n + 12, ho, hun, hdep, hK, hfl, hq => exact absurd hq (by omega)
      case fin8 =>
        intro g X hX
        clear HV
        have HXq : Hid (MV X B F vc x { m with ex := m.ex + 1, bt := m.bt + n, pl := m.pl + 1, hb := n, hn := fdN x m.bt n } ∧ KM B w X) := ⟨hX.d1 rfl, hX.k⟩
        clear hX
        simp only [putAll, Act.put, List.setIfInBounds_toArray, List.set_cons_zero, List.set_cons_succ]
        go_wp2
        go_ret
        rw [HR.out.1, HR.out.2]
        exact HXq.out.elim (fun a b => ⟨rfl, a, b⟩)
  · have t1 : F - m.bt < n := by omega
    have HR : Hid (exE F m n = 27 ∧ exM F x m n = m) := by
      show _ ∧ _
      rw [HX.out.1, HX.out.2, if_pos (by omega), if_pos (by omega)]
      exact ⟨rfl, rfl⟩
    clear HX m4 K2 hq m2 m3 m5
    go_enter Try.func46, Try.ntmps46
    go_wp2_with fail
    go_quiet (fail)
    go_wp2
    go_ret
    rw [HR.out.1, HR.out.2]
    exact ⟨rfl, HM.out.below (below_drewN (Below.refl _ _) _), (KM.refl B w).below HB.out (below_drewN (Below.refl _ _) _)⟩
end Go.Proofs.Ytbgoclfifhdonaa
namespace Go.Proofs.Ytbgoclfifhdonaa
open Go.RowKit
set_option linter.unusedSimpArgs false
set_option linter.unusedVariables false

end Go.Proofs.Ytbgoclfifhdonaa
namespace Go.Proofs.Ytbgoclfifhdonaa
open Go.RowKit Go.Shelf
set_option linter.unusedSimpArgs false
set_option linter.unusedVariables false
attribute [local go_sem] Oper.semAt_some

def wdB (o k : Nat) (m : List (BitVec 32)) : List Nat := (fstW o k :: m).flatMap fun x => by4 x.toNat
theorem fm_len : ∀ (m : List (BitVec 32)), (m.flatMap fun x => by4 x.toNat).length = 4 * m.length
  | [] => rfl
  | x :: m => by rw [List.flatMap_cons, List.length_append, fm_len m, List.length_cons]; show 4 + _ = _; omega
theorem wdB_len (o k : Nat) (m : List (BitVec 32)) : (wdB o k m).length = 4 * (1 + m.length) := by
  unfold wdB; rw [fm_len, List.length_cons]; omega
theorem chk_zero {o n : Int} {m : List (BitVec 32)} (h : chkE o n m = 0) : (1 ≤ o ∧ o ≤ 4) ∧ (0 ≤ n ∧ n ≤ 16777215) ∧ m.length ≤ 524288 := by
  unfold chkE at h
  by_cases h1 : isOp o = true
  · rw [if_pos h1] at h
    by_cases h2 : (decide (kLo o ≤ n) && decide (n ≤ kHi o)) = true
    · rw [if_pos h2] at h
      simp only [Bool.and_eq_true, decide_eq_true_eq] at h2
      have ho : 1 ≤ o ∧ o ≤ 4 := by unfold isOp at h1; simpa using h1
      have hn0 : 0 ≤ n := by have := h2.1; unfold kLo at this; split at this <;> omega
      have hn1 : n ≤ 16777215 := by have := h2.2; unfold kHi at this; split at this; omega; split at this <;> omega
      refine ⟨ho, ⟨hn0, hn1⟩, ?_⟩
      by_cases h3 : o = 2
      · rw [if_pos h3] at h
        have hk : n ≤ 24 := by have := h2.2; rw [h3] at this; exact this
        by_cases h4 : isMapB m n.toNat = true
        · unfold isMapB at h4
          simp only [Bool.and_eq_true, decide_eq_true_eq] at h4
          rw [h4.1]
          exact mwN_hi _ (by omega)
        · rw [if_neg h4] at h; omega
      · rw [if_neg h3] at h
        by_cases h4 : m = []
        · rw [h4]; simp
        · rw [if_neg h4] at h; omega
    · rw [if_neg h2] at h; omega
  · rw [if_neg h1] at h; omega
theorem AtI.grown {W W' : World} {B : Nat} {o n : Int} {v : Value} {row : Option Nat} (h : AtI W B o n v) (hg : W.grownBy W' row) (hne : some B ≠ row) : AtI W' B o n v := ⟨hg.cell h.1 hne, hg.cell h.2.1 hne, hg.cell h.2.2 hne⟩
end Go.Proofs.Ytbgoclfifhdonaa
namespace Go.Proofs.Ytbgoclfifhdonaa
set_option linter.unusedSimpArgs false
set_option linter.unusedVariables false

theorem numN_by4 (x : BitVec 32) : numN13 (by4 x.toNat) = x.toNat := num4 _ x.isLt
theorem wdV_zero (x : BitVec 32) (z : List Nat) : wdV (by4 x.toNat ++ z) 0 = x := by
  unfold wdV
  have e : (((by4 x.toNat ++ z).drop (4 * 0)).take 4) = by4 x.toNat := by
    rw [Nat.mul_zero, List.drop_zero]
    exact List.take_left' rfl
  rw [e, numN_by4]
  simp
theorem wdV_app (l X : List Nat) (a j : Nat) (h : l.length = 4 * a) : wdV (l ++ X) (a + j) = wdV X j := by
  unfold wdV
  rw [Nat.mul_add, ← h, ← List.drop_drop, List.drop_left]
theorem wdV_succ (x : BitVec 32) (z : List Nat) (j : Nat) : wdV (by4 x.toNat ++ z) (j + 1) = wdV z j := by
  rw [Nat.add_comm j 1]
  exact wdV_app (by4 x.toNat) z 1 j rfl
theorem wdV_fm : ∀ (ws : List (BitVec 32)) (z : List Nat) (j : Nat) (x : BitVec 32), ws[j]? = some x → wdV ((ws.flatMap fun x => by4 x.toNat) ++ z) j = x
  | [], z, j, x, h => by simp at h
  | y :: ws, z, 0, x, h => by
    simp at h
    subst h
    rw [List.flatMap_cons, List.append_assoc]
    exact wdV_zero y _
  | y :: ws, z, j + 1, x, h => by
    rw [List.flatMap_cons, List.append_assoc, wdV_succ]
    exact wdV_fm ws z j x (by simpa using h)
theorem kHi_Rm (o : Int) : kHi o ≤ kRm o := by
  unfold kHi kRm
  split
  · omega
  · split <;> omega
theorem dec_enc (l z : List Nat) (a : Nat) (o n : Int) (m : List (BitVec 32)) (hl : l.length = 4 * a) (h : chkE o n m = 0) :
    dcE (l ++ wdB o.toNat n.toNat m ++ z) (a : Int) = 0 ∧ dcI (l ++ wdB o.toNat n.toNat m ++ z) (a : Int) = ⟨o, n, m⟩ ∧ dcZ (l ++ wdB o.toNat n.toNat m ++ z) (a : Int) = 1 + (m.length : Int) := by
  obtain ⟨ho, hn, hm⟩ := chk_zero h
  obtain ⟨O, rfl⟩ : ∃ O : Nat, o = (O : Int) := ⟨o.toNat, by omega⟩
  obtain ⟨N, rfl⟩ : ∃ N : Nat, n = (N : Int) := ⟨n.toNat, by omega⟩
  rw [Int.toNat_natCast, Int.toNat_natCast]
  obtain ⟨L, hL⟩ : ∃ L, L = l ++ wdB O N m ++ z := ⟨_, rfl⟩
  rw [← hL]
  have hlen : L.length = 4 * a + 4 * (1 + m.length) + z.length := by rw [hL, List.length_append, List.length_append, hl, wdB_len]
  have hw : ∀ j x, (fstW O N :: m)[j]? = some x → wdV L (a + j) = x := by
    intro j x hj
    rw [hL, List.append_assoc, wdV_app l _ a j hl]
    exact wdV_fm _ z j x hj
  have h0 : wdV L a = fstW O N := hw 0 _ rfl
  have hu : uI (wdV L a) = ((O * 16777216 + N : Nat) : Int) := by rw [h0]; exact fst_uI O N (by omega) (by omega)
  have hO : insO L a = (O : Int) := by unfold insO; rw [hu]; omega
  have hN : insN L a = (N : Int) := by unfold insN; rw [hu]; omega
  have hs : stB L.length (a : Int) 1 = true := by unfold stB; simp; omega
  have hop : isOp (O : Int) = true := by unfold isOp; simp; omega
  have htk : tkB (O : Int) (N : Int) = true := by
    unfold tkB
    unfold chkE at h
    rw [if_pos hop] at h
    by_cases c : (decide (kLo (O : Int) ≤ (N : Int)) && decide ((N : Int) ≤ kHi (O : Int))) = true
    · exact c
    · rw [if_neg c] at h; omega
  have hrm : (N : Int) ≤ kRm (O : Int) := by
    unfold tkB at htk
    simp only [Bool.and_eq_true, decide_eq_true_eq] at htk
    exact Int.le_trans htk.2 (kHi_Rm _)
  have hr : rdP L a = (m, 0) := by
    unfold rdP
    rw [hO, hN, if_pos hop, if_pos hrm, if_pos htk, Int.toNat_natCast]
    unfold chkE at h
    have htk' := htk
    unfold tkB at htk'
    rw [if_pos hop, if_pos htk'] at h
    by_cases c : (O : Int) = 2
    · rw [if_pos c] at h ⊢
      rw [Int.toNat_natCast] at h
      have hmp : isMapB m N = true := by
        by_cases c2 : isMapB m N = true
        · exact c2
        · rw [if_neg c2] at h; omega
      have hml : m.length = mwN N := by
        unfold isMapB at hmp
        simp only [Bool.and_eq_true, decide_eq_true_eq] at hmp
        exact hmp.1
      have hmL : mpL L (a + 1) (mwN N) = m := by
        apply List.ext_getElem?
        intro j
        by_cases hj : j < m.length
        · unfold mpL
          rw [List.getElem?_map, List.getElem?_range (by omega), List.getElem?_eq_getElem hj]
          simp only [Option.map_some, Option.some.injEq]
          rw [Nat.add_assoc, Nat.add_comm 1 j]
          exact hw (j + 1) _ (by simp [hj])
        · rw [List.getElem?_eq_none (by rw [mpL_len]; omega), List.getElem?_eq_none (by omega)]
      unfold rmP
      rw [if_pos (by omega), hmL, if_pos hmp]
    · rw [if_neg c] at h ⊢
      by_cases c2 : m = []
      · rw [c2]
      · rw [if_neg c2] at h; omega
  have hE : dcE L (a : Int) = 0 := by unfold dcE; rw [if_pos hs, Int.toNat_natCast, hr]
  have hI : dcI L (a : Int) = ⟨(O : Int), (N : Int), m⟩ := by unfold dcI; rw [if_pos hE, Int.toNat_natCast, hO, hN, hr]
  exact ⟨hE, hI, by unfold dcZ; rw [if_pos hE, hI]⟩
theorem dcE_stand {l : List Nat} {a : Int} (h : dcE l a = 0) : 0 ≤ a ∧ a.toNat < l.length / 4 ∧ (rdP l a.toNat).2 = 0 := by
  unfold dcE at h
  by_cases c : stB l.length a 1 = true
  · rw [if_pos c] at h
    unfold stB at c
    simp at c
    exact ⟨c.1, by omega, h⟩
  · rw [if_neg c] at h; omega
end Go.Proofs.Ytbgoclfifhdonaa
namespace Go.Proofs.Ytbgoclfifhdonaa
open Go.RowKit
set_option linter.unusedSimpArgs false
set_option linter.unusedVariables false

theorem top_ones18 (m : List (BitVec 32)) (P : Nat) (h : topB (m.headD 0#32) P = true) (hl : 1 ≤ m.length) : 1 ≤ sumW m m.length := by
  rw [← cnt_words]
  refine Nat.le_trans ?_ (cnt_mono m 1 (32 * m.length) (by omega))
  unfold topB at h
  simp only [Bool.and_eq_true] at h
  have h1 : plc m 0 = true := by
    unfold plc bt
    cases m with
    | nil => simp at hl
    | cons x t => exact h.1
  show 1 ≤ cnt m (0 + 1)
  unfold cnt
  rw [h1]
  simp
structure DcF (l : List Nat) (a : Int) : Prop where
  a0 : 0 ≤ a
  a1 : a < ((l.length / 4 : Nat) : Int)
  op : (dcI l a).op = 1 ∨ (dcI l a).op = 2 ∨ (dcI l a).op = 3 ∨ (dcI l a).op = 4
  n0 : 0 ≤ (dcI l a).n
  n1 : (dcI l a).n ≤ 16777215
  m0 : (dcI l a).op ≠ 2 → (dcI l a).m = []
  m2 : (dcI l a).op = 2 → a + 1 + ((dcI l a).m.length : Int) ≤ ((l.length / 4 : Nat) : Int) ∧ 1 ≤ (dcI l a).m.length ∧ 1 ≤ sumW (dcI l a).m (dcI l a).m.length
  nx : (dcI l a).op ≠ 3 → (dcI l a).op ≠ 4 → 1 ≤ (dcI l a).n ∧ (dcI l a).n ≤ 24
theorem dcF {l : List Nat} {a : Int} (h : dcE l a = 0) : DcF l a := by
  obtain ⟨h1, h2, h3⟩ := dcE_stand h
  obtain ⟨k, rfl⟩ : ∃ k : Nat, a = (k : Int) := ⟨a.toNat, by omega⟩
  rw [Int.toNat_natCast] at h2 h3
  have hI : dcI l (k : Int) = ⟨insO l k, insN l k, (rdP l k).1⟩ := by unfold dcI; rw [if_pos h, Int.toNat_natCast]
  rw [show rdP l k = rdP l k from rfl] at h3
  unfold rdP at h3
  split at h3
  case isFalse => cases h3
  rename_i hop
  split at h3
  case isFalse => cases h3
  rename_i hrm
  split at h3
  case isFalse => cases h3
  rename_i htk
  have hr : rdP l k = if insO l k = 2 then rmP l (k + 1) (insN l k).toNat else ([], 0) := by
    unfold rdP; rw [if_pos hop, if_pos hrm, if_pos htk]
  have hc := isOp_cases hop
  have htk' := htk
  unfold tkB at htk'
  simp only [Bool.and_eq_true, decide_eq_true_eq] at htk'
  have hb : 0 ≤ insN l k ∧ insN l k ≤ 16777215 := by
    have e1 := htk'.1
    have e2 := htk'.2
    unfold kLo at e1
    unfold kHi at e2
    constructor
    · split at e1 <;> omega
    · split at e2
      · omega
      · split at e2 <;> omega
  refine ⟨by omega, by omega, by rw [hI]; exact hc, by rw [hI]; exact hb.1, by rw [hI]; exact hb.2, fun q => ?_, fun q => ?_, fun q1 q2 => ?_⟩
  · rw [hI] at q ⊢
    dsimp only at q ⊢
    rw [hr, if_neg q]
  · rw [hI] at q ⊢
    dsimp only at q ⊢
    rw [if_pos q] at h3 hr
    rw [hr]
    unfold rmP at h3 ⊢
    split at h3
    case isFalse => cases h3
    rename_i hs
    split at h3
    case isFalse => cases h3
    rename_i ht
    rw [if_pos hs, if_pos ht]
    dsimp only
    rw [mpL_len]
    have hl := mwN_lo (insN l k).toNat
    refine ⟨?_, hl, ?_⟩
    · push_cast
      omega
    · have e := ht
      unfold isMapB at e
      simp only [Bool.and_eq_true] at e
      have := top_ones18 _ _ e.2 (by rw [mpL_len]; exact hl)
      rwa [mpL_len] at this
  · rw [hI] at q1 q2 ⊢
    dsimp only at q1 q2 ⊢
    have e1 := htk'.1
    have e2 := htk'.2
    unfold kLo at e1
    unfold kHi at e2
    rw [if_neg q2] at e1
    rw [if_neg q1, if_neg q2] at e2
    exact ⟨e1, e2⟩
end Go.Proofs.Ytbgoclfifhdonaa
