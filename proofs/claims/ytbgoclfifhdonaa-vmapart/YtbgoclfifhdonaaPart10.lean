/-
  Part 10 of the proof: 5 texts, one behind the other.
-/
import Derived.Test.YtbgoclfifhdonaaPart9
import Derived.Test.YtbgoclfifhdonaaPart1
import Derived.Deep.Slices
import Derived.Carry
import Derived.SizedLaws
import Derived.ProofKit
import Derived.Lib.SmallJoins
import Derived.Test.YtbgoclfifhdonaaPart3
import Derived.Deep.Strs
namespace Go.Proofs.Ytbgoclfifhdonaa
open Go.RowKit
set_option linter.unusedSimpArgs false
set_option linter.unusedVariables false

theorem cb_own {W : World} {base e B : Nat} {v : Value} {l : List Nat} (h : W.ownsRow base e 1 v l.length (l.map cB)) (hb : ∀ g, v.ownBlock = some g → g ≠ B) : CB B v l := by
  rcases h.2 with ⟨-, h2⟩ | ⟨g, cap, cur, rfl, -⟩
  · exact .inl (List.length_eq_zero_iff.1 h2)
  · exact .inr ⟨g, 0, cap, l.length, rfl, hb g rfl⟩
structure Ap9 (V : World) (F : Int) (x u : BitVec 128) (l c : List Nat) (B C : Nat) (vb vc : Value) (mB mC : Mc) (W : World) : Prop where
  lo : Below V.heap.size V W
  m : MV W B F vb x mB
  n : MV W C F vc u mC
  r : RwX cB W vb l
  s : RwX cB W vc c
structure Ap9C (V : World) (l c : List Nat) (B C : Nat) (vb vc : Value) : Prop where
  zb : V.heap.size ≤ B
  zc : V.heap.size ≤ C
  bc : B ≠ C
  bb : CB B vb l
  cb : CB C vb l
  cc : CB C vc c
  bv : CB B vc c
theorem Ap9.below {V W W' : World} {F : Int} {x u : BitVec 128} {l c : List Nat} {B C : Nat} {vb vc : Value} {mB mC : Mc} (h : Ap9 V F x u l c B C vb vc mB mC W) (hb : Below W.heap.size W W') : Ap9 V F x u l c B C vb vc mB mC W' :=
  ⟨h.lo.trans (hb.mono h.lo.size), h.m.below hb, h.n.below hb, h.r.below hb, h.s.below hb⟩
theorem Ap9.one {V W W' : World} {F : Int} {x u : BitVec 128} {l c : List Nat} {B C : Nat} {vb vc : Value} {mB mC mB' : Mc} (h : Ap9 V F x u l c B C vb vc mB mC W) (hC : Ap9C V l c B C vb vc) (h1 : MV W' B F vb x mB') (hk : KM B W W') : Ap9 V F x u l c B C vb vc mB' mC W' :=
  ⟨h.lo.trans (hk.lo.mono hC.zb), h1, (hk.ot.2 C h.n.lt (fun q => hC.bc q.symm)).trans h.n, rwx_km h.r hC.bb hk, rwx_km h.s hC.bv hk⟩
theorem Ap9.two {V W W' : World} {F : Int} {x u : BitVec 128} {l c : List Nat} {B C : Nat} {vb vc : Value} {mB mC mC' : Mc} (h : Ap9 V F x u l c B C vb vc mB mC W) (hC : Ap9C V l c B C vb vc) (h1 : MV W' C F vc u mC') (hk : KM C W W') : Ap9 V F x u l c B C vb vc mB mC' W' :=
  ⟨h.lo.trans (hk.lo.mono hC.zc), (hk.ot.2 B h.m.lt hC.bc).trans h.m, h1, rwx_km h.r hC.cb hk, rwx_km h.s hC.cc hk⟩
theorem ptr_nil19 (B : Nat) (w : World) : (binOp BinOp.eql 32 (.pointer (some ⟨B, 0, none⟩)) (.pointer none)).run Try.prog w = .ok (.bool false) w := by
  first | kernel_rfl | (unfold Try.ptrM19; go_simp)
set_option maxRecDepth 20000 in
set_option maxHeartbeats 16000000 in
theorem vmApart_any (F : Int) (v : Value) (l : List Nat) (vq : Value) (c : List Nat) (x u : BitVec 128) (w : World) (hF0 : -9223372036854775808 ≤ F) (hF1 : F ≤ 9223372036854775807) (hA : RowA w 1 v l.length (l.map cB)) (hR : RwX cB w v l) (hx : ∀ b ∈ l, b < 256) (hB : RowA w 1 vq c.length (c.map cB)) (hS : RwX cB w vq c) (hy : ∀ b ∈ c, b < 256) :
    Calls Try.prog 8 #[.int .i64 F, v, vq, .agg #[.int .u64 (hI x), .int .u64 (lI x)], .agg #[.int .u64 (hI u), .int .u64 (lI u)]] w fun e w' => e = .returned (.bool true) ∧ Below w.heap.size w w' := by
  obtain ⟨ao, cc, rfl, -⟩ := id hR
  obtain ⟨bo, bc, rfl, -⟩ := id hS
  obtain ⟨V, hV⟩ : ∃ V, V = (w.alloc (.cells #[.int .u64 (hI x), .int .u64 (lI x)] 25)).alloc (.cells #[.int .u64 (hI u), .int .u64 (lI u)] 25) := ⟨_, rfl⟩
  have q1 := bl1 w (.cells #[.int .u64 (hI x), .int .u64 (lI x)] 25)
  have hs : (w.alloc (.cells #[.int .u64 (hI x), .int .u64 (lI x)] 25)).heap.size = w.heap.size + 1 := by simp
  have HQ : Hid (Below w.heap.size w V) := by rw [hV]; exact keepb (bl1 _ _) q1
  have HW1 : Hid (V.heap[w.heap.size]? = some (.cells #[.int .u64 (hI x), .int .u64 (lI x)] 25)) := by rw [hV]; exact old_16 _ (new_16 _ _)
  have HW2 : Hid (V.heap[w.heap.size + 1]? = some (.cells #[.int .u64 (hI u), .int .u64 (lI u)] 25)) := by rw [hV]; unfold Hid; rw [← hs]; exact new_16 _ _
  have K0 := known19 V
  have HA := hid13 (And.intro hA (And.intro hR hx))
  have HK := hid13 (And.intro hB (And.intro hS hy))
  clear q1 hs hA hR hx hB hS hy
  by_cases hl : l.length ≤ 4096
  · by_cases hk : c.length ≤ 4096
    · have n1 : ¬ ((l.length : Int) > 4096) := by omega
      have n2 : ¬ ((c.length : Int) > 4096) := by omega
      have n1' : ¬ (4096 < (l.length : Int)) := by omega
      have n2' : ¬ (4096 < (c.length : Int)) := by omega
      have HL : Hid (l.length ≤ 4096 ∧ c.length ≤ 4096) := ⟨hl, hk⟩
      have KN1 := fun W (hW : RowA W 1 (.slice ao l.length cc) l.length (l.map cB)) => new19 F (.slice ao l.length cc) x l W hW (by omega)
      have KN2 := fun W (hW : RowA W 1 (.slice bo c.length bc) c.length (c.map cB)) => new19 F (.slice bo c.length bc) u c W hW (by omega)
      unfold NwQ at KN1 KN2
      clear hl hk
      go_enter Try.func8, Try.ntmps8
      go_wp2_with fail
      rw [← hV]
      clear hV
      refine K0.mono ?_
      rintro e W0 ⟨rfl, hb0⟩
      have h1 := (hb0.block _ (lt_16 HW1.out)).trans HW1.out
      have a0 := at_16 h1 0 _ rfl
      have a1 := at_16 h1 1 _ rfl
      have K1 := KN1 W0 ((HA.out.1.below HQ.out).below hb0)
      have HB0 := hid13 hb0
      clear K0 KN1 hb0 h1
      go_wp2_with fail
      refine K1.mono ?_
      rintro e W1 ⟨B, vb, rfl, hB, hmB, hoB, hgB, hb1⟩
      have hB1 := HB0.out.trans (hb1.mono HB0.out.size)
      have h2 := (hB1.block _ (lt_16 HW2.out)).trans HW2.out
      have b0 := at_16 h2 0 _ rfl
      have b1 := at_16 h2 1 _ rfl
      have K2 := KN2 W1 ((HK.out.1.below HQ.out).below hB1)
      have H1 : Hid (MV W1 B F vb x (mc0 (rightE F x)) ∧ W1.ownsRow W0.heap.size 5 1 vb l.length (l.map cB) ∧ (∀ g, vb.ownBlock = some g → g < B) ∧ Below V.heap.size V W1 ∧ V.heap.size ≤ B) := ⟨hmB, hoB, hgB, hB1, Nat.le_trans HB0.out.size hB⟩
      clear K1 KN2 hB hmB hoB hgB hb1 hB1 h2 a0 a1 HB0
      go_wp2_with fail
      refine K2.mono ?_
      rintro e W2 ⟨C, vc, rfl, hC, hmC, hoC, hgC, hb2⟩
      have HP : Hid (Ap9C V l c B C vb vc) := by
        have hlt := H1.out.1.lt
        refine ⟨H1.out.2.2.2.2, Nat.le_trans H1.out.2.2.2.1.size hC, by omega, cb_own H1.out.2.1 (fun g hg => by have := H1.out.2.2.1 g hg; omega), cb_own H1.out.2.1 (fun g hg => by have := H1.out.2.2.1 g hg; omega), cb_own hoC (fun g hg => by have := hgC g hg; omega), cb_own hoC (fun g hg => by have := hoC.lt g hg; omega)⟩
      have HS0 : Hid (Ap9 V F x u l c B C vb vc (mc0 (rightE F x)) (mc0 (rightE F u)) W2) := ⟨H1.out.2.2.2.1.trans (hb2.mono H1.out.2.2.2.1.size), H1.out.1.below hb2, hmC, (own_rwx H1.out.2.1).below hb2, own_rwx hoC⟩
      have p1 := ptr_nil19 B
      have p2 := ptr_nil19 C
      have HOB : Hid (MOk F ((l.length / 4 : Nat) : Int) (mc0 (rightE F x))) := mc0_ok (by omega) fam_right
      have HOC : Hid (MOk F ((c.length / 4 : Nat) : Int) (mc0 (rightE F u))) := mc0_ok (by omega) fam_right
      have HEq : Hid (rightE F x = rightE F x ∧ rightE F u = rightE F u) := ⟨rfl, rfl⟩
      clear K2 hC hmC hoC hgC hb2 b0 b1 H1
      go_wp2_with fail
      go_loopw [13] (fun iv wr => ∃ k : Nat, k ≤ 3000 ∧ iv = .int .i64 k ∧ Hid (Ap9 V F x u l c B C vb vc (goM F x l k (mc0 (rightE F x))) (goM F u c k (mc0 (rightE F u))) wr)) (fun iv _ => 3000 - (intOf iv).toNat)
      case atStart => exact ⟨0, by omega, rfl, HS0⟩
      case round =>
        clear HS0
        obtain ⟨k, hk, rfl, HS⟩ := hrel
        by_cases hlt : (k : Int) < 3000
        · have K1 := step19 B F vb x _ l wr HS.out.m HP.out.bb HS.out.r (by have := HL.out; omega) HA.out.2.2 (goM_mok rfl k _ HOB.out)
          have HK2 : Hid (∀ W, Ap9 V F x u l c B C vb vc (goM F x l (k + 1) (mc0 (rightE F x))) (goM F u c k (mc0 (rightE F u))) W → Calls Try.prog 16 #[.pointer (some ⟨C, 0, none⟩)] W fun r w' => r = .returned (.bool (decide ((goM F u c k (mc0 (rightE F u))).st < (goM F u c (k + 1) (mc0 (rightE F u))).st))) ∧ MV w' C F vc u (goM F u c (k + 1) (mc0 (rightE F u))) ∧ KM C W w') := hid13 (fun W hW => by
            have := step19 C F vc u _ c W hW.n HP.out.cc hW.s (by have := HL.out; omega) HK.out.2.2 (goM_mok rfl k _ HOC.out)
            rw [goM_one] at this
            exact this)
          rw [goM_one] at K1
          obtain ⟨bx, hbx⟩ : ∃ bx, bx = decide ((goM F x l k (mc0 (rightE F x))).st < (goM F x l (k + 1) (mc0 (rightE F x))).st) := ⟨_, rfl⟩
          obtain ⟨by', hby⟩ : ∃ by', by' = decide ((goM F u c k (mc0 (rightE F u))).st < (goM F u c (k + 1) (mc0 (rightE F u))).st) := ⟨_, rfl⟩
          rw [← hbx] at K1
          rw [← hby] at HK2
          have HE : Hid (bx = false → by' = false → (goM F x l (k + 1) (mc0 (rightE F x))).en = true ∧ (goM F u c (k + 1) (mc0 (rightE F u))).en = true) := hid13 (by
            intro q1 q2
            rw [hbx] at q1; rw [hby] at q2
            have r1 := of_decide_eq_false q1
            have r2 := of_decide_eq_false q2
            rw [← goM_one] at r1 r2 ⊢
            rw [← goM_one F u c k]
            exact ⟨step_false r1, step_false r2⟩)
          have hk2 : IntKind.i64.wrap ((k : Int) + 1) = ((k + 1 : Nat) : Int) := by rw [IntKind.wrap_i64]; omega
          clear hbx hby
          go_wp2_with fail
          refine K1.mono ?_
          rintro e W3 ⟨rfl, h1, h2⟩
          have HS3 := hid13 (HS.out.one HP.out h1 h2)
          have K2 := HK2.out W3 HS3.out
          clear K1 HK2 h1 h2 HS
          go_wp2_with fail
          refine K2.mono ?_
          rintro e W4 ⟨rfl, h1, h2⟩
          have HS4 := hid13 (HS3.out.two HP.out h1 h2)
          clear K2 h1 h2 HS3
          by_cases hq : bx = false ∧ by' = false
          · have HEn := hid13 (HE.out hq.1 hq.2)
            obtain ⟨rfl, rfl⟩ := hq
            have HKK : Hid (k + 1 ≤ 1048576) := hid13 (by omega)
            clear HE hlt hk
            go_wp2_with fail
            have HB : Hid (∀ X, Below V.heap.size V X → RwX cB X (.slice ao l.length cc) l ∧ RwX cB X (.slice bo c.length bc) c) := hid13 (fun X hX => ⟨(HA.out.2.1.below HQ.out).below hX, (HK.out.2.1.below HQ.out).below hX⟩)
            have HRB : Hid (∀ X, Below V.heap.size V X → Calls Try.prog 10 #[.int .i64 F, .slice ao l.length cc, .agg #[.int .u64 (hI x), .int .u64 (lI x)], .int .i64 1048576] X fun r w' => r = .returned (rsV (goM F x l (k + 1) (mc0 (rightE F x)))) ∧ Below X.heap.size X w') := hid13 (fun X hX => by
              have := run19 F (.slice ao l.length cc) x 1048576 l X (HB.out X hX).1 (by have := HL.out; omega) HA.out.2.2 (by decide)
              rw [show (1048576 : Int).toNat = 1048576 from rfl, ru_done HEn.out.1 HKK.out] at this
              exact this)
            have HRC : Hid (∀ X, Below V.heap.size V X → Calls Try.prog 10 #[.int .i64 F, .slice bo c.length bc, .agg #[.int .u64 (hI u), .int .u64 (lI u)], .int .i64 1048576] X fun r w' => r = .returned (rsV (goM F u c (k + 1) (mc0 (rightE F u)))) ∧ Below X.heap.size X w') := hid13 (fun X hX => by
              have := run19 F (.slice bo c.length bc) u 1048576 c X (HB.out X hX).2 (by have := HL.out; omega) HK.out.2.2 (by decide)
              rw [show (1048576 : Int).toNat = 1048576 from rfl, ru_done HEn.out.2 HKK.out] at this
              exact this)
            generalize goM F x l (k + 1) (mc0 (rightE F x)) = mB at *
            generalize goM F u c (k + 1) (mc0 (rightE F u)) = mC at *
            have hqB := fun W => eqR_run mB.hop mB.err mB.st mB.ex mB.ix mB.bt mB.hop mB.err mB.st mB.ex mB.ix mB.bt W
            have hqC := fun W => eqR_run mC.hop mC.err mC.st mC.ex mC.ix mC.bt mC.hop mC.err mC.st mC.ex mC.ix mC.bt W
            simp only [beq_self_eq_true, Bool.and_true, Bool.and_self] at hqB hqC
            unfold rsV at HRB HRC
            clear HB HEn HKK HL HA HK HOB HOC HEq
            refine qw_region (C := Ap9 V F x u l c B C vb vc mB mC) (by kernel_rfl) (by kernel_rfl) (HS4.out.below (Below.refl _ _).drew) ?_
            refine qw_run (v := .pointer (some ⟨B, 0, none⟩)) (by rfl) ?_ ?_
            · (intro w9 hC; clear hC; go_simp; first | done | (simp; done) | (simp [*]; done) | omega | (simp; omega) | (rw [IntKind.wrap_i64]; omega) | (intro hx; omega) | rfl)
            simp only [Act.put, List.setIfInBounds_toArray, List.set_cons_zero, List.set_cons_succ]
            refine qw_call (v := .agg #[.int .i64 mB.hop, .int .i64 mB.err, .int .i64 mB.st, .int .i64 mB.ex, .int .i64 mB.ix, .int .i64 mB.bt]) (f := 14) (args := #[.pointer (some ⟨B, 0, none⟩)]) (by rfl) ?_ ?_ ?_
            · (intro w9 hC; clear hC; go_simp; first | done | (simp; done) | rfl)
            · exact fun w9 hC => (result19 B F vb x mB w9 hC.m).mono fun e w' ⟨he, hb⟩ => ⟨he, hC.below hb⟩
            simp only [Act.put, List.setIfInBounds_toArray, List.set_cons_zero, List.set_cons_succ]
            refine qw_run (v := .int .i64 F) (by rfl) ?_ ?_
            · (intro w9 hC; clear hC; go_simp; first | done | (simp; done) | (simp [*]; done) | omega | (simp; omega) | (rw [IntKind.wrap_i64]; omega) | (intro hx; omega) | rfl)
            simp only [Act.put, List.setIfInBounds_toArray, List.set_cons_zero, List.set_cons_succ]
            refine qw_run (v := .slice ao l.length cc) (by rfl) ?_ ?_
            · (intro w9 hC; clear hC; go_simp; first | done | (simp; done) | (simp [*]; done) | omega | (simp; omega) | (rw [IntKind.wrap_i64]; omega) | (intro hx; omega) | rfl)
            simp only [Act.put, List.setIfInBounds_toArray, List.set_cons_zero, List.set_cons_succ]
            refine qw_run (v := .agg #[.int .u64 (hI x), .int .u64 (lI x)]) (by rfl) ?_ ?_
            · (intro w9 hC; have hw := (hC.lo.block _ (lt_16 HW1.out)).trans HW1.out; have z0 := at_16 hw 0 _ rfl; have z1 := at_16 hw 1 _ rfl; clear hC; go_simp; first | done | (simp; done) | (simp [*]; done) | omega | (simp; omega) | (rw [IntKind.wrap_i64]; omega) | (intro hx; omega) | rfl)
            simp only [Act.put, List.setIfInBounds_toArray, List.set_cons_zero, List.set_cons_succ]
            refine qw_call (v := .agg #[.int .i64 mB.hop, .int .i64 mB.err, .int .i64 mB.st, .int .i64 mB.ex, .int .i64 mB.ix, .int .i64 mB.bt]) (f := 10) (args := #[.int .i64 F, .slice ao l.length cc, .agg #[.int .u64 (hI x), .int .u64 (lI x)], .int .i64 1048576]) (by rfl) ?_ ?_ ?_
            · (intro w9 hC; clear hC; go_simp; first | done | (simp; done) | rfl)
            · exact fun w9 hC => (HRB.out w9 hC.lo).mono fun e w' ⟨he, hb⟩ => ⟨he, hC.below hb⟩
            simp only [Act.put, List.setIfInBounds_toArray, List.set_cons_zero, List.set_cons_succ]
            refine qw_run (v := .bool true) (by rfl) ?_ ?_
            · (intro w9 hC; clear hC; go_simp; first | done | (simp; done) | (simp [*]; done) | omega | (simp; omega) | (rw [IntKind.wrap_i64]; omega) | (intro hx; omega) | rfl)
            simp only [Act.put, List.setIfInBounds_toArray, List.set_cons_zero, List.set_cons_succ]
            refine qw_run (v := .bool true) (by rfl) ?_ ?_
            · (intro w9 hC; clear hC; go_simp; first | done | (simp; done) | (simp [*]; done) | omega | (simp; omega) | (rw [IntKind.wrap_i64]; omega) | (intro hx; omega) | rfl)
            simp only [Act.put, List.setIfInBounds_toArray, List.set_cons_zero, List.set_cons_succ]
            refine qw_run (v := .pointer (some ⟨C, 0, none⟩)) (by rfl) ?_ ?_
            · (intro w9 hC; clear hC; go_simp; first | done | (simp; done) | (simp [*]; done) | omega | (simp; omega) | (rw [IntKind.wrap_i64]; omega) | (intro hx; omega) | rfl)
            simp only [Act.put, List.setIfInBounds_toArray, List.set_cons_zero, List.set_cons_succ]
            refine qw_call (v := .agg #[.int .i64 mC.hop, .int .i64 mC.err, .int .i64 mC.st, .int .i64 mC.ex, .int .i64 mC.ix, .int .i64 mC.bt]) (f := 14) (args := #[.pointer (some ⟨C, 0, none⟩)]) (by rfl) ?_ ?_ ?_
            · (intro w9 hC; clear hC; go_simp; first | done | (simp; done) | rfl)
            · exact fun w9 hC => (result19 C F vc u mC w9 hC.n).mono fun e w' ⟨he, hb⟩ => ⟨he, hC.below hb⟩
            simp only [Act.put, List.setIfInBounds_toArray, List.set_cons_zero, List.set_cons_succ]
            refine qw_run (v := .int .i64 F) (by rfl) ?_ ?_
            · (intro w9 hC; clear hC; go_simp; first | done | (simp; done) | (simp [*]; done) | omega | (simp; omega) | (rw [IntKind.wrap_i64]; omega) | (intro hx; omega) | rfl)
            simp only [Act.put, List.setIfInBounds_toArray, List.set_cons_zero, List.set_cons_succ]
            refine qw_run (v := .slice bo c.length bc) (by rfl) ?_ ?_
            · (intro w9 hC; clear hC; go_simp; first | done | (simp; done) | (simp [*]; done) | omega | (simp; omega) | (rw [IntKind.wrap_i64]; omega) | (intro hx; omega) | rfl)
            simp only [Act.put, List.setIfInBounds_toArray, List.set_cons_zero, List.set_cons_succ]
            refine qw_run (v := .agg #[.int .u64 (hI u), .int .u64 (lI u)]) (by rfl) ?_ ?_
            · (intro w9 hC; have hw := (hC.lo.block _ (lt_16 HW2.out)).trans HW2.out; have z0 := at_16 hw 0 _ rfl; have z1 := at_16 hw 1 _ rfl; clear hC; go_simp; first | done | (simp; done) | (simp [*]; done) | omega | (simp; omega) | (rw [IntKind.wrap_i64]; omega) | (intro hx; omega) | rfl)
            simp only [Act.put, List.setIfInBounds_toArray, List.set_cons_zero, List.set_cons_succ]
            refine qw_call (v := .agg #[.int .i64 mC.hop, .int .i64 mC.err, .int .i64 mC.st, .int .i64 mC.ex, .int .i64 mC.ix, .int .i64 mC.bt]) (f := 10) (args := #[.int .i64 F, .slice bo c.length bc, .agg #[.int .u64 (hI u), .int .u64 (lI u)], .int .i64 1048576]) (by rfl) ?_ ?_ ?_
            · (intro w9 hC; clear hC; go_simp; first | done | (simp; done) | rfl)
            · exact fun w9 hC => (HRC.out w9 hC.lo).mono fun e w' ⟨he, hb⟩ => ⟨he, hC.below hb⟩
            simp only [Act.put, List.setIfInBounds_toArray, List.set_cons_zero, List.set_cons_succ]
            refine qw_run (v := .bool true) (by rfl) ?_ ?_
            · (intro w9 hC; clear hC; go_simp; first | done | (simp; done) | (simp [*]; done) | omega | (simp; omega) | (rw [IntKind.wrap_i64]; omega) | (intro hx; omega) | rfl)
            simp only [Act.put, List.setIfInBounds_toArray, List.set_cons_zero, List.set_cons_succ]
            refine qw_run (v := .bool true) (by rfl) ?_ ?_
            · (intro w9 hC; clear hC; go_simp; first | done | (simp; done) | (simp [*]; done) | omega | (simp; omega) | (rw [IntKind.wrap_i64]; omega) | (intro hx; omega) | rfl)
            simp only [Act.put, List.setIfInBounds_toArray, List.set_cons_zero, List.set_cons_succ]
            refine qw_run (v := .bool true) (by rfl) ?_ ?_
            · (intro w9 hC; clear hC; go_simp; first | done | (simp; done) | (simp [*]; done) | omega | (simp; omega) | (rw [IntKind.wrap_i64]; omega) | (intro hx; omega) | rfl)
            simp only [Act.put, List.setIfInBounds_toArray, List.set_cons_zero, List.set_cons_succ]
            refine qw_nil ?_
            intro X hX
            have HX : Hid (Below w.heap.size w X) := HQ.out.trans (hX.lo.mono HQ.out.size)
            clear hX
            go_wp2
            go_ret
            exact ⟨rfl, HX.out⟩
          · have hq2 : (bx && true || by' && true) = true := by
              cases bx <;> cases by' <;> simp at hq ⊢
            clear HE
            cases bx with
            | true =>
              go_wp2
              go_roundw
              case rel => exact ⟨k + 1, by omega, by push_cast; rfl, HS4⟩
              case measure => simp only [intOf]; omega
            | false =>
              cases by' with
              | true =>
                go_wp2
                go_roundw
                case rel => exact ⟨k + 1, by omega, by push_cast; rfl, HS4⟩
                case measure => simp only [intOf]; omega
              | false => exact absurd ⟨rfl, rfl⟩ hq
        · obtain rfl : k = 3000 := by omega
          have HEn : Hid ((goM F x l 3000 (mc0 (rightE F x))).en = true ∧ (goM F u c 3000 (mc0 (rightE F u))).en = true) := ⟨goM_ends rfl HOB.out 3000 (by have := HL.out; omega), goM_ends rfl HOC.out 3000 (by have := HL.out; omega)⟩
          have HS4 := HS
          have HKK : Hid (3000 ≤ 1048576) := hid13 (by omega)
          clear HS hlt hk
          go_wp2_with fail
          have HB : Hid (∀ X, Below V.heap.size V X → RwX cB X (.slice ao l.length cc) l ∧ RwX cB X (.slice bo c.length bc) c) := hid13 (fun X hX => ⟨(HA.out.2.1.below HQ.out).below hX, (HK.out.2.1.below HQ.out).below hX⟩)
          have HRB : Hid (∀ X, Below V.heap.size V X → Calls Try.prog 10 #[.int .i64 F, .slice ao l.length cc, .agg #[.int .u64 (hI x), .int .u64 (lI x)], .int .i64 1048576] X fun r w' => r = .returned (rsV (goM F x l 3000 (mc0 (rightE F x)))) ∧ Below X.heap.size X w') := hid13 (fun X hX => by
            have := run19 F (.slice ao l.length cc) x 1048576 l X (HB.out X hX).1 (by have := HL.out; omega) HA.out.2.2 (by decide)
            rw [show (1048576 : Int).toNat = 1048576 from rfl, ru_done HEn.out.1 HKK.out] at this
            exact this)
          have HRC : Hid (∀ X, Below V.heap.size V X → Calls Try.prog 10 #[.int .i64 F, .slice bo c.length bc, .agg #[.int .u64 (hI u), .int .u64 (lI u)], .int .i64 1048576] X fun r w' => r = .returned (rsV (goM F u c 3000 (mc0 (rightE F u)))) ∧ Below X.heap.size X w') := hid13 (fun X hX => by
            have := run19 F (.slice bo c.length bc) u 1048576 c X (HB.out X hX).2 (by have := HL.out; omega) HK.out.2.2 (by decide)
            rw [show (1048576 : Int).toNat = 1048576 from rfl, ru_done HEn.out.2 HKK.out] at this
            exact this)
          generalize goM F x l 3000 (mc0 (rightE F x)) = mB at *
          generalize goM F u c 3000 (mc0 (rightE F u)) = mC at *
          have hqB := fun W => eqR_run mB.hop mB.err mB.st mB.ex mB.ix mB.bt mB.hop mB.err mB.st mB.ex mB.ix mB.bt W
          have hqC := fun W => eqR_run mC.hop mC.err mC.st mC.ex mC.ix mC.bt mC.hop mC.err mC.st mC.ex mC.ix mC.bt W
          simp only [beq_self_eq_true, Bool.and_true, Bool.and_self] at hqB hqC
          unfold rsV at HRB HRC
          clear HB HEn HKK HL HA HK HOB HOC HEq
          refine qw_region (C := Ap9 V F x u l c B C vb vc mB mC) (by kernel_rfl) (by kernel_rfl) (HS4.out.below (Below.refl _ _).drew) ?_
          refine qw_run (v := .pointer (some ⟨B, 0, none⟩)) (by rfl) ?_ ?_
          · (intro w9 hC; clear hC; go_simp; first | done | (simp; done) | (simp [*]; done) | omega | (simp; omega) | (rw [IntKind.wrap_i64]; omega) | (intro hx; omega) | rfl)
          simp only [Act.put, List.setIfInBounds_toArray, List.set_cons_zero, List.set_cons_succ]
          refine qw_call (v := .agg #[.int .i64 mB.hop, .int .i64 mB.err, .int .i64 mB.st, .int .i64 mB.ex, .int .i64 mB.ix, .int .i64 mB.bt]) (f := 14) (args := #[.pointer (some ⟨B, 0, none⟩)]) (by rfl) ?_ ?_ ?_
          · (intro w9 hC; clear hC; go_simp; first | done | (simp; done) | rfl)
          · exact fun w9 hC => (result19 B F vb x mB w9 hC.m).mono fun e w' ⟨he, hb⟩ => ⟨he, hC.below hb⟩
          simp only [Act.put, List.setIfInBounds_toArray, List.set_cons_zero, List.set_cons_succ]
          refine qw_run (v := .int .i64 F) (by rfl) ?_ ?_
          · (intro w9 hC; clear hC; go_simp; first | done | (simp; done) | (simp [*]; done) | omega | (simp; omega) | (rw [IntKind.wrap_i64]; omega) | (intro hx; omega) | rfl)
          simp only [Act.put, List.setIfInBounds_toArray, List.set_cons_zero, List.set_cons_succ]
          refine qw_run (v := .slice ao l.length cc) (by rfl) ?_ ?_
          · (intro w9 hC; clear hC; go_simp; first | done | (simp; done) | (simp [*]; done) | omega | (simp; omega) | (rw [IntKind.wrap_i64]; omega) | (intro hx; omega) | rfl)
          simp only [Act.put, List.setIfInBounds_toArray, List.set_cons_zero, List.set_cons_succ]
          refine qw_run (v := .agg #[.int .u64 (hI x), .int .u64 (lI x)]) (by rfl) ?_ ?_
          · (intro w9 hC; have hw := (hC.lo.block _ (lt_16 HW1.out)).trans HW1.out; have z0 := at_16 hw 0 _ rfl; have z1 := at_16 hw 1 _ rfl; clear hC; go_simp; first | done | (simp; done) | (simp [*]; done) | omega | (simp; omega) | (rw [IntKind.wrap_i64]; omega) | (intro hx; omega) | rfl)
          simp only [Act.put, List.setIfInBounds_toArray, List.set_cons_zero, List.set_cons_succ]
          refine qw_call (v := .agg #[.int .i64 mB.hop, .int .i64 mB.err, .int .i64 mB.st, .int .i64 mB.ex, .int .i64 mB.ix, .int .i64 mB.bt]) (f := 10) (args := #[.int .i64 F, .slice ao l.length cc, .agg #[.int .u64 (hI x), .int .u64 (lI x)], .int .i64 1048576]) (by rfl) ?_ ?_ ?_
          · (intro w9 hC; clear hC; go_simp; first | done | (simp; done) | rfl)
          · exact fun w9 hC => (HRB.out w9 hC.lo).mono fun e w' ⟨he, hb⟩ => ⟨he, hC.below hb⟩
          simp only [Act.put, List.setIfInBounds_toArray, List.set_cons_zero, List.set_cons_succ]
          refine qw_run (v := .bool true) (by rfl) ?_ ?_
          · (intro w9 hC; clear hC; go_simp; first | done | (simp; done) | (simp [*]; done) | omega | (simp; omega) | (rw [IntKind.wrap_i64]; omega) | (intro hx; omega) | rfl)
          simp only [Act.put, List.setIfInBounds_toArray, List.set_cons_zero, List.set_cons_succ]
          refine qw_run (v := .bool true) (by rfl) ?_ ?_
          · (intro w9 hC; clear hC; go_simp; first | done | (simp; done) | (simp [*]; done) | omega | (simp; omega) | (rw [IntKind.wrap_i64]; omega) | (intro hx; omega) | rfl)
          simp only [Act.put, List.setIfInBounds_toArray, List.set_cons_zero, List.set_cons_succ]
          refine qw_run (v := .pointer (some ⟨C, 0, none⟩)) (by rfl) ?_ ?_
          · (intro w9 hC; clear hC; go_simp; first | done | (simp; done) | (simp [*]; done) | omega | (simp; omega) | (rw [IntKind.wrap_i64]; omega) | (intro hx; omega) | rfl)
          simp only [Act.put, List.setIfInBounds_toArray, List.set_cons_zero, List.set_cons_succ]
          refine qw_call (v := .agg #[.int .i64 mC.hop, .int .i64 mC.err, .int .i64 mC.st, .int .i64 mC.ex, .int .i64 mC.ix, .int .i64 mC.bt]) (f := 14) (args := #[.pointer (some ⟨C, 0, none⟩)]) (by rfl) ?_ ?_ ?_
          · (intro w9 hC; clear hC; go_simp; first | done | (simp; done) | rfl)
          · exact fun w9 hC => (result19 C F vc u mC w9 hC.n).mono fun e w' ⟨he, hb⟩ => ⟨he, hC.below hb⟩
          simp only [Act.put, List.setIfInBounds_toArray, List.set_cons_zero, List.set_cons_succ]
          refine qw_run (v := .int .i64 F) (by rfl) ?_ ?_
          · (intro w9 hC; clear hC; go_simp; first | done | (simp; done) | (simp [*]; done) | omega | (simp; omega) | (rw [IntKind.wrap_i64]; omega) | (intro hx; omega) | rfl)
          simp only [Act.put, List.setIfInBounds_toArray, List.set_cons_zero, List.set_cons_succ]
          refine qw_run (v := .slice bo c.length bc) (by rfl) ?_ ?_
          · (intro w9 hC; clear hC; go_simp; first | done | (simp; done) | (simp [*]; done) | omega | (simp; omega) | (rw [IntKind.wrap_i64]; omega) | (intro hx; omega) | rfl)
          simp only [Act.put, List.setIfInBounds_toArray, List.set_cons_zero, List.set_cons_succ]
          refine qw_run (v := .agg #[.int .u64 (hI u), .int .u64 (lI u)]) (by rfl) ?_ ?_
          · (intro w9 hC; have hw := (hC.lo.block _ (lt_16 HW2.out)).trans HW2.out; have z0 := at_16 hw 0 _ rfl; have z1 := at_16 hw 1 _ rfl; clear hC; go_simp; first | done | (simp; done) | (simp [*]; done) | omega | (simp; omega) | (rw [IntKind.wrap_i64]; omega) | (intro hx; omega) | rfl)
          simp only [Act.put, List.setIfInBounds_toArray, List.set_cons_zero, List.set_cons_succ]
          refine qw_call (v := .agg #[.int .i64 mC.hop, .int .i64 mC.err, .int .i64 mC.st, .int .i64 mC.ex, .int .i64 mC.ix, .int .i64 mC.bt]) (f := 10) (args := #[.int .i64 F, .slice bo c.length bc, .agg #[.int .u64 (hI u), .int .u64 (lI u)], .int .i64 1048576]) (by rfl) ?_ ?_ ?_
          · (intro w9 hC; clear hC; go_simp; first | done | (simp; done) | rfl)
          · exact fun w9 hC => (HRC.out w9 hC.lo).mono fun e w' ⟨he, hb⟩ => ⟨he, hC.below hb⟩
          simp only [Act.put, List.setIfInBounds_toArray, List.set_cons_zero, List.set_cons_succ]
          refine qw_run (v := .bool true) (by rfl) ?_ ?_
          · (intro w9 hC; clear hC; go_simp; first | done | (simp; done) | (simp [*]; done) | omega | (simp; omega) | (rw [IntKind.wrap_i64]; omega) | (intro hx; omega) | rfl)
          simp only [Act.put, List.setIfInBounds_toArray, List.set_cons_zero, List.set_cons_succ]
          refine qw_run (v := .bool true) (by rfl) ?_ ?_
          · (intro w9 hC; clear hC; go_simp; first | done | (simp; done) | (simp [*]; done) | omega | (simp; omega) | (rw [IntKind.wrap_i64]; omega) | (intro hx; omega) | rfl)
          simp only [Act.put, List.setIfInBounds_toArray, List.set_cons_zero, List.set_cons_succ]
          refine qw_run (v := .bool true) (by rfl) ?_ ?_
          · (intro w9 hC; clear hC; go_simp; first | done | (simp; done) | (simp [*]; done) | omega | (simp; omega) | (rw [IntKind.wrap_i64]; omega) | (intro hx; omega) | rfl)
          simp only [Act.put, List.setIfInBounds_toArray, List.set_cons_zero, List.set_cons_succ]
          refine qw_nil ?_
          intro X hX
          have HX : Hid (Below w.heap.size w X) := HQ.out.trans (hX.lo.mono HQ.out.size)
          clear hX
          go_wp2
          go_ret
          exact ⟨rfl, HX.out⟩
    · have n1 : ¬ ((l.length : Int) > 4096) := by omega
      have n1' : ¬ (4096 < (l.length : Int)) := by omega
      have n2 : ((c.length : Int) > 4096) := by omega
      have n2' : (4096 < (c.length : Int)) := by omega
      clear hl hk HA HK
      go_enter Try.func8, Try.ntmps8
      go_wp2_with fail
      rw [← hV]
      clear hV
      refine K0.mono ?_
      rintro e W1 ⟨rfl, hb1⟩
      have HB1 : Hid (Below w.heap.size w W1) := HQ.out.trans (hb1.mono HQ.out.size)
      clear K0 hb1 HQ HW1 HW2
      go_wp2
      go_ret
      exact ⟨rfl, HB1.out⟩
  · have n1 : ((l.length : Int) > 4096) := by omega
    have n1' : (4096 < (l.length : Int)) := by omega
    clear hl HA HK
    go_enter Try.func8, Try.ntmps8
    go_wp2_with fail
    rw [← hV]
    clear hV
    refine K0.mono ?_
    rintro e W1 ⟨rfl, hb1⟩
    have HB1 : Hid (Below w.heap.size w W1) := HQ.out.trans (hb1.mono HQ.out.size)
    clear K0 hb1 HQ HW1 HW2
    go_wp2
    go_ret
    exact ⟨rfl, HB1.out⟩
end Go.Proofs.Ytbgoclfifhdonaa
namespace Go.Proofs.Ytbgoclfifhdonaa
open Go.ChangeShapes Go.WideShapes Go.ChangeAt Go.RowKit Go.Joins
set_option linter.unusedSimpArgs false
set_option linter.unusedVariables false

theorem Try.laidOut : laidOutB Try.prog = true := by kernel_rfl
section
variable {H : Type} {enc : TypeId × Value → H} {w : World} {spare : Nat → Bool} {held : Bool}
theorem RwX.map13 {α β : Type} {f : α → Value} {g : β → Value} (h : α → β) {v : Value} {l : List α} (hr : RwX f w v l) (he : ∀ x ∈ l, f x = g (h x)) : RwX g w v (l.map h) := by
  obtain ⟨ao, c, e, hc, hr⟩ := hr
  refine ⟨ao, c, by rw [List.length_map]; exact e, by rw [List.length_map]; exact hc, ?_⟩
  rcases hr with hr | ⟨b, off, e, hr⟩
  · exact .inl (by rw [hr]; rfl)
  · refine .inr ⟨b, off, e, fun j x hj => ?_⟩
    rw [List.getElem?_map] at hj
    cases hx : l[j]? with
    | none => rw [hx] at hj; cases hj
    | some y =>
      rw [hx] at hj
      simp only [Option.map_some, Option.some.injEq] at hj
      rw [hr j y hx, he y (List.mem_of_getElem? hx), hj]
set_option maxRecDepth 100000 in
theorem open_ints13 {t e : TypeId} {k : IntKind} (ht : Try.prog.underlying t = some (.slice e)) (he : Try.prog.underlying e = some (.int k)) (hce : Try.prog.cellsOf e = 1) {r : Reach} {b0 : Nat} {v : Value} {d : DataW H} {p : List MemPlace} (hv : Value.okWide Try.prog w r b0 t v) (h : DataW.Trod enc Try.prog w 0 (fun _ => true) held t v d p) :
    ∃ l : List Int, RowA w 1 v l.length (l.map fun a => .int k a) ∧ RwX (fun a => Value.int k a) w v l ∧ (∀ a ∈ l, (Lit.int k a).wf = true) ∧ (l = [] ∨ ∃ el sp, d = .slice el sp ∧ el.length = l.length) := by
  obtain ⟨a0, len, cap, rfl⟩ := okWide_slice ht hv
  obtain ⟨fuel, hf⟩ := h
  rcases Deep.open_slice ht hf with ⟨hcs, hx⟩ | ⟨a, len', cap', m, n, D, Pl, hcs, _, hl, hm, hmm, hx, hel⟩
  · simp [Value.cells] at hcs
    obtain ⟨rfl, rfl, rfl⟩ := hcs
    exact ⟨[], ⟨rfl, none, 0, rfl, Nat.le_refl _, .inl ⟨rfl, rfl, rfl⟩⟩, ⟨none, 0, rfl, Nat.le_refl _, .inl rfl⟩, (fun _ h => by cases h), .inl rfl⟩
  · simp [Value.cells] at hcs
    obtain ⟨rfl, rfl, rfl⟩ := hcs
    simp at hmm
    subst hmm
    rw [hce] at hel
    obtain ⟨f, hf⟩ := Deep.choose_lt (α := Int) (n := len) (p := fun i x => w.cell? (a.add i) = some (.int k x) ∧ (Lit.int k x).wf = true) (fun i hi => by
      obtain ⟨cs', h1, h2⟩ := hel i (by omega)
      obtain ⟨_, hlen, hc⟩ := World.cells?_some h1
      match cs', hlen with
      | [c0], _ =>
        obtain ⟨x, ex, -, wx⟩ := DataW.trod_int he h2
        simp at ex
        subst ex
        refine ⟨x, ?_, wx⟩
        have := hc 0 (by omega)
        simpa [Addr.add] using this)
    have hlen : ((List.range len).map f).length = len := by simp
    have hcells : ∀ j x, ((List.range len).map f)[j]? = some x → w.cell? (a.add j) = some (.int k x) := by
      intro j x hj
      have hlt : j < len := by have := (List.getElem?_eq_some_iff.1 hj).1; simpa using this
      rw [List.getElem?_map, List.getElem?_range hlt] at hj
      simp only [Option.map_some, Option.some.injEq] at hj
      rw [← hj]; exact (hf j hlt).1
    refine ⟨(List.range len).map f, ⟨by simp, some a, m, by rw [hlen], by rw [hlen]; exact hl, .inr ⟨a, rfl, fun j u hj => ?_⟩⟩, ⟨some a, m, by rw [hlen], by rw [hlen]; exact hl, ?_⟩, ?_, ?_⟩
    · rw [List.getElem?_map] at hj
      cases hx : ((List.range len).map f)[j]? with
      | none => rw [hx] at hj; cases hj
      | some y =>
        rw [hx] at hj
        simp only [Option.map_some, Option.some.injEq] at hj
        rw [← hj]; exact hcells j y hx
    · by_cases hz : len = 0
      · subst hz
        exact .inl (by simp)
      · have h00 := (hf 0 (by omega)).1
        have ea : a = ⟨a.block, a.off, none⟩ := by
          have : a.add 0 = a := by simp [Addr.add]
          rw [this] at h00
          exact spot9 h00
        refine .inr ⟨a.block, a.off, by rw [← ea], fun j u hj => ?_⟩
        have := hcells j u hj
        rw [ea, addA] at this
        exact this
    · intro x hx
      simp only [List.mem_map, List.mem_range] at hx
      obtain ⟨i, hi, rfl⟩ := hx
      exact (hf i hi).2
    · simp only [Prod.mk.injEq] at hx
      exact .inr ⟨_, _, hx.1, by simp⟩
end
end Go.Proofs.Ytbgoclfifhdonaa
namespace Go.Proofs.Ytbgoclfifhdonaa
open Go.ChangeShapes Go.WideShapes Go.ChangeAt Go.RowKit Go.Joins
set_option linter.unusedSimpArgs false
set_option linter.unusedVariables false

section
variable {H : Type} {enc : TypeId × Value → H} {w : World} {spare : Nat → Bool} {held : Bool}
theorem i64_bd14 {a : Int} (h : (Lit.int .i64 a).wf = true) : -9223372036854775808 ≤ a ∧ a ≤ 9223372036854775807 := by
  simp [Lit.wf, IntKind.min, IntKind.max, IntKind.signed, IntKind.bits] at h; omega
end
end Go.Proofs.Ytbgoclfifhdonaa
namespace Go.Proofs.Ytbgoclfifhdonaa
open Go.ChangeShapes Go.WideShapes Go.ChangeAt Go.RowKit Go.Joins
set_option linter.unusedSimpArgs false
set_option linter.unusedVariables false

section
variable {P : Program} {H : Type} {enc : TypeId × Value → H} {w : World} {base : Nat} {spare : Nat → Bool} {held : Bool}
theorem tr5 {t0 t1 t2 t3 t4 : TypeId} {args : Array Value} {ds : List (DataW H)} {ps : List MemPlace} (h : DataW.TrodAll enc P w base spare held [t0, t1, t2, t3, t4] args.toList ds ps) :
    ∃ v0 v1 v2 v3 v4 d0 d1 d2 d3 d4 p0 p1 p2 p3 p4, args = #[v0, v1, v2, v3, v4] ∧ ds = [d0, d1, d2, d3, d4] ∧ ps = p0 ++ p1 ++ p2 ++ p3 ++ p4 ∧ DataW.Trod enc P w base spare held t0 v0 d0 p0 ∧ DataW.Trod enc P w base spare held t1 v1 d1 p1 ∧ DataW.Trod enc P w base spare held t2 v2 d2 p2 ∧ DataW.Trod enc P w base spare held t3 v3 d3 p3 ∧ DataW.Trod enc P w base spare held t4 v4 d4 p4 := by
  obtain ⟨v0, vs0, d0, ds0, p0, q0, hargs, rfl, rfl, hd0, hr0⟩ := trodAll_cons h
  obtain ⟨v1, vs1, d1, ds1, p1, q1, rfl, rfl, rfl, hd1, hr1⟩ := trodAll_cons hr0
  obtain ⟨v2, vs2, d2, ds2, p2, q2, rfl, rfl, rfl, hd2, hr2⟩ := trodAll_cons hr1
  obtain ⟨v3, vs3, d3, ds3, p3, q3, rfl, rfl, rfl, hd3, hr3⟩ := trodAll_cons hr2
  obtain ⟨v4, vs4, d4, ds4, p4, q4, rfl, rfl, rfl, hd4, hr4⟩ := trodAll_cons hr3
  obtain ⟨rfl, rfl, rfl⟩ := trodAll_nil hr4
  exact ⟨v0, v1, v2, v3, v4, d0, d1, d2, d3, d4, p0, p1, p2, p3, p4, by cases args; simp_all, rfl, by simp, hd0, hd1, hd2, hd3, hd4⟩
theorem mk5 {t0 t1 t2 t3 t4 : TypeId} {v0 v1 v2 v3 v4 : Value} {d0 d1 d2 d3 d4 : DataW H} {p0 p1 p2 p3 p4 : List MemPlace} (h0 : DataW.Trod enc P w base spare held t0 v0 d0 p0) (h1 : DataW.Trod enc P w base spare held t1 v1 d1 p1) (h2 : DataW.Trod enc P w base spare held t2 v2 d2 p2) (h3 : DataW.Trod enc P w base spare held t3 v3 d3 p3) (h4 : DataW.Trod enc P w base spare held t4 v4 d4 p4) : DataW.TrodAll enc P w base spare held [t0, t1, t2, t3, t4] [v0, v1, v2, v3, v4] [d0, d1, d2, d3, d4] (p0 ++ (p1 ++ (p2 ++ (p3 ++ (p4))))) :=
  ⟨_, _, h0, trodAll_mk4 h1 h2 h3 h4, rfl⟩
end
end Go.Proofs.Ytbgoclfifhdonaa
namespace Go.Proofs.Ytbgoclfifhdonaa
open Go.RowKit
theorem Try.cellsW : Try.prog.cellsOf 25 = 2 := by kernel_rfl
theorem u64_bd19 {a : Int} (h : (Lit.int .u64 a).wf = true) : 0 ≤ a ∧ a < 18446744073709551616 := by
  simp [Lit.wf, IntKind.min, IntKind.max, IntKind.signed, IntKind.bits] at h; omega
end Go.Proofs.Ytbgoclfifhdonaa
