/-
  Part 15 of the proof: 4 texts, one behind the other.
-/
import Derived.Test.YtbgoclfifhdonaaPart14
import Derived.Test.YtbgoclfifhdonaaPart2
import Derived.Deep.Slices
import Derived.Carry
import Derived.SizedLaws
import Derived.ProofKit
import Derived.Lib.SmallJoins
import Derived.Test.YtbgoclfifhdonaaPart3
import Derived.Deep.Strs
namespace Go.Proofs.Ytbgoclfifhdonaa
open Go.RowKit
set_option linter.unusedSimpArgs false
set_option linter.unusedVariables false

structure Sp9 (w : World) (F : Int) (x : BitVec 128) (l : List Nat) (g B C : Nat) (vb vc : Value) (m : Mc) (W : World) : Prop where
  lo : Below w.heap.size w W
  a : MV W B F vb x m
  n : RM9 W C F vc x m
  r : RwX cB W vb l
  s : RwX cB W vc l
  row : l = [] ∨ ∃ cs, W.heap[g]? = some (.cells cs 5) ∧ l.length ≤ cs.size
structure Sp9C (w : World) (l : List Nat) (g B C : Nat) (vb vc : Value) : Prop where
  zg : w.heap.size ≤ g
  zb : w.heap.size ≤ B
  zc : w.heap.size ≤ C
  gb : g ≠ B
  gc : g ≠ C
  bc : B ≠ C
  b1 : CB g vb l
  b2 : CB B vb l
  b3 : CB C vb l
  c1 : CB g vc l
  c2 : CB B vc l
  c3 : CB C vc l
section
variable {w W W' : World} {F : Int} {x : BitVec 128} {l : List Nat} {g B C : Nat} {vb vc : Value} {m m' : Mc}
theorem Sp9.below (h : Sp9 w F x l g B C vb vc m W) (hb : Below W.heap.size W W') : Sp9 w F x l g B C vb vc m W' :=
  ⟨h.lo.trans (hb.mono h.lo.size), h.a.below hb, h.n.below hb, h.r.below hb, h.s.below hb, h.row.imp id (fun ⟨cs, a, b⟩ => ⟨cs, (hb.block _ (lt_16 a)).trans a, b⟩)⟩
theorem Sp9.write (h : Sp9 w F x l g B C vb vc m W) (hC : Sp9C w l g B C vb vc) (k : Nat) (u : Value) : Sp9 w F x l g B C vb vc m (W.setCell ⟨g, k, none⟩ u) := by
  have hk : KM g W (W.setCell ⟨g, k, none⟩ u) := (KM.refl g W).set u
  exact ⟨h.lo.setCell (p := ⟨g, k, none⟩) hC.zg _, (hk.ot.2 B h.a.lt (fun q => hC.gb q.symm)).trans h.a, h.n.keep hk (fun q => hC.gc q.symm), rwx_km h.r hC.b1 hk, rwx_km h.s hC.c1 hk, h.row.imp id (fun ⟨cs, a, b⟩ => ⟨_, set_16 a _, by simpa using b⟩)⟩
end
structure Sp9H (w : World) (F : Int) (x : BitVec 128) (l : List Nat) (g B C : Nat) (vb vc : Value) (m m' : Mc) (W : World) : Prop where
  lo : Below w.heap.size w W
  a : MV W B F vb x m'
  n : RM9 W C F vc x m
  r : RwX cB W vb l
  s : RwX cB W vc l
  row : l = [] ∨ ∃ cs, W.heap[g]? = some (.cells cs 5) ∧ l.length ≤ cs.size
section
variable {w W W' : World} {F : Int} {x : BitVec 128} {l : List Nat} {g B C : Nat} {vb vc : Value} {m m' : Mc}
theorem Sp9.one (h : Sp9 w F x l g B C vb vc m W) (hC : Sp9C w l g B C vb vc) (h1 : MV W' B F vb x m') (hk : KM B W W') : Sp9H w F x l g B C vb vc m m' W' :=
  ⟨h.lo.trans (hk.lo.mono hC.zb), h1, h.n.keep hk (fun q => hC.bc q.symm), rwx_km h.r hC.b2 hk, rwx_km h.s hC.c2 hk, h.row.imp id (fun ⟨cs, a, b⟩ => ⟨cs, (hk.ot.2 _ (lt_16 a) hC.gb).trans a, b⟩)⟩
theorem Sp9H.two (h : Sp9H w F x l g B C vb vc m m' W) (hC : Sp9C w l g B C vb vc) (h1 : RM9 W' C F vc x m') (hk : KM C W W') : Sp9 w F x l g B C vb vc m' W' :=
  ⟨h.lo.trans (hk.lo.mono hC.zc), (hk.ot.2 B h.a.lt hC.bc).trans h.a, h1, rwx_km h.r hC.b3 hk, rwx_km h.s hC.c3 hk, h.row.imp id (fun ⟨cs, a, b⟩ => ⟨cs, (hk.ot.2 _ (lt_16 a) hC.gc).trans a, b⟩)⟩
end
set_option maxRecDepth 20000 in
set_option maxHeartbeats 16000000 in
theorem vmSteps_any (F : Int) (v : Value) (l : List Nat) (x : BitVec 128) (w : World) (hF0 : -9223372036854775808 ≤ F) (hF1 : F ≤ 9223372036854775807) (hA : RowA w 1 v l.length (l.map cB)) (hR : RwX cB w v l) (hx : ∀ b ∈ l, b < 256) :
    Calls Try.prog 4 #[.int .i64 F, v, .agg #[.int .u64 (hI x), .int .u64 (lI x)]] w fun e w' => e = .returned (.bool true) ∧ Below w.heap.size w w' := by
  obtain ⟨i0, ji, jz0, jz1, jz2⟩ := info13 Try.infoB13
  obtain ⟨ao, cc, rfl, -⟩ := id hR
  have hsz : (w.alloc (.cells #[.int .u64 (hI x), .int .u64 (lI x)] 25)).heap[w.heap.size]? = some (.cells #[.int .u64 (hI x), .int .u64 (lI x)] 25) := new_16 _ _
  have q1 := bl1 w (.cells #[.int .u64 (hI x), .int .u64 (lI x)] 25)
  obtain ⟨V, hV⟩ : ∃ V, V = w.alloc (.cells #[.int .u64 (hI x), .int .u64 (lI x)] 25) := ⟨_, rfl⟩
  rw [← hV] at hsz q1
  have HQ := hid13 q1
  have HW := hid13 hsz
  have K0 := known19 V
  have HA := hid13 (And.intro hA (And.intro hR hx))
  clear q1 hsz hA hR hx hF0 hF1
  by_cases hl : l.length ≤ 4096
  · have n1 : ¬ ((l.length : Int) > 4096) := by omega
    have n1' : ¬ (4096 < (l.length : Int)) := by omega
    have HL := hid13 hl
    have HNew : Hid (∀ v W, RowA W 1 v l.length (l.map cB) → Calls Try.prog 12 #[.int .i64 F, v, .agg #[.int .u64 (hI x), .int .u64 (lI x)]] W (NwQ W F x l)) := hid13 (fun v W hW => new19 F v x l W hW (by have := HL.out; omega))
    have HRew : Hid (∀ v W, RowA W 1 v l.length (l.map cB) → Calls Try.prog 13 #[.int .i64 F, v, .agg #[.int .u64 (hI x), .int .u64 (lI x)]] W (RnQ9 W F x l)) := hid13 (fun v W hW => rnew19 F v x l W hW (by have := HL.out; omega))
    have HOB : Hid (MOk F ((l.length / 4 : Nat) : Int) (mc0 (rightE F x))) := mc0_ok (by omega) fam_right
    clear hl
    go_enter Try.func4, Try.ntmps4
    go_wp2_with fail
    rw [← hV]
    clear hV
    refine K0.mono ?_
    rintro e W0 ⟨rfl, hb0⟩
    have q0 := bl1 W0 (.cells #[] 5)
    have H0 : Hid (Below w.heap.size w W0) := HQ.out.trans (hb0.mono HQ.out.size)
    have HV0 : Hid (Below w.heap.size w (W0.alloc (.cells #[] 5))) := H0.out.trans (q0.mono H0.out.size)
    have HO0 : Hid ((W0.alloc (.cells #[] 5)).ownsRow W0.heap.size 5 1 (.slice (some ⟨W0.heap.size, 0, none⟩) 0 0) 0 []) := World.ownsRow_made W0 #[] 0 (Nat.le_refl _) (by unfold maxLen; omega) (by simp)
    have HSz : Hid (W0.heap.size ≤ (W0.alloc (.cells #[] 5)).heap.size) := q0.size
    have HB0 := hid13 hb0
    clear K0 hb0 q0
    go_wp2_with (at_builtin; apply stopHere9)
    refine (show wpList _ _ _ _ _ _ from ?_)
    refine wpList_append_rowA rfl _ _ 22 rfl W0.heap.size 5 i0 (.int .u8 0) 1 1 Try.underlying22 ji jz0 jz1 jz2 rfl (by decide) _ 0 [] rfl HO0.out _ l.length (l.map cB) rfl (HA.out.1.below HV0.out) (cB_one l) (by have := HL.out; unfold maxLen; omega) (by have := HL.out; omega) HSz.out ?_
    intro mo mc W1 hO1 hg1
    rw [Nat.zero_add, List.nil_append] at hO1
    rw [Nat.zero_add]
    have hb1 : Below W0.heap.size W0 W1 := (bl1 W0 (.cells #[] 5)).grown hg1 HSz.out (fun z hz => (HO0.out.lt z hz).1)
    have HB1 : Hid (Below w.heap.size w W1 ∧ W1.heap[w.heap.size]? = some (.cells #[.int .u64 (hI x), .int .u64 (lI x)] 25)) := ⟨H0.out.trans (hb1.mono H0.out.size), (hb1.block _ (Nat.lt_of_lt_of_le (lt_16 HW.out) HB0.out.size)).trans ((HB0.out.block _ (lt_16 HW.out)).trans HW.out)⟩
    obtain ⟨g, HGm⟩ : ∃ g, Hid (w.heap.size ≤ g ∧ g < W1.heap.size ∧ (l = [] ∨ ∃ cs, mo = some ⟨g, 0, none⟩ ∧ W1.heap[g]? = some (.cells cs 5) ∧ l.length ≤ cs.size)) := by
      rcases hO1.2 with ⟨-, h2⟩ | ⟨g, cap, cur, h1, h2, h3, h4, h5, h6, -⟩
      · exact ⟨w.heap.size, hid13 ⟨Nat.le_refl _, lt_16 HB1.out.2, .inl (List.length_eq_zero_iff.1 h2)⟩⟩
      · injection h1 with h1 _ _
        exact ⟨g, hid13 ⟨Nat.le_trans H0.out.size h2, lt_16 h3, .inr ⟨cur, h1, h3, by rw [h6]; omega⟩⟩⟩
    have HM1 : Hid (RowA W1 1 (.slice mo l.length mc) l.length (l.map cB)) := own_rowA hO1
    have a0 := at_16 HB1.out.2 0 _ rfl
    have a1 := at_16 HB1.out.2 1 _ rfl
    have K1 := HNew.out (.slice mo l.length mc) W1 HM1.out
    unfold NwQ at K1
    clear hO1 hg1 hb1 HV0 HO0 HSz H0 HB0 HQ HW HNew
    go_wp2_with fail
    refine K1.mono ?_
    rintro e W2 ⟨B, vb, rfl, hB, hmB, hoB, hgB, hb2⟩
    have H2 : Hid (Below w.heap.size w W2 ∧ W2.heap[w.heap.size]? = some (.cells #[.int .u64 (hI x), .int .u64 (lI x)] 25)) := ⟨HB1.out.1.trans (hb2.mono HB1.out.1.size), (hb2.block _ (lt_16 HB1.out.2)).trans HB1.out.2⟩
    have HG2 : Hid (w.heap.size ≤ g ∧ g < W1.heap.size ∧ (l = [] ∨ ∃ cs, mo = some ⟨g, 0, none⟩ ∧ W2.heap[g]? = some (.cells cs 5) ∧ l.length ≤ cs.size)) := ⟨HGm.out.1, HGm.out.2.1, HGm.out.2.2.imp id (fun ⟨cs, a, b, c⟩ => ⟨cs, a, (hb2.block _ (lt_16 b)).trans b, c⟩)⟩
    have HB2 : Hid (W1.heap.size ≤ B ∧ MV W2 B F vb x (mc0 (rightE F x)) ∧ W2.ownsRow W1.heap.size 5 1 vb l.length (l.map cB) ∧ (∀ g, vb.ownBlock = some g → g < B)) := ⟨hB, hmB, hoB, hgB⟩
    have b0 := at_16 H2.out.2 0 _ rfl
    have b1 := at_16 H2.out.2 1 _ rfl
    have K2 := HRew.out (.slice ao l.length cc) W2 (HA.out.1.below H2.out.1)
    unfold RnQ9 at K2
    clear K1 hB hmB hoB hgB hb2 HB1 HGm a0 a1 HRew HM1
    go_wp2_with fail
    refine K2.mono ?_
    rintro e W3 ⟨C, vc, rfl, hC, hmC, hoC, hgC, hb3⟩
    have HP : Hid (Sp9C w l g B C vb vc) := by
      have h1 := HG2.out.1
      have h2 := HG2.out.2.1
      have h3 := HB2.out.1
      have h4 := HB2.out.2.1.lt
      refine ⟨h1, by omega, by have := H2.out.1.size; omega, by omega, by omega, by omega, cb_own HB2.out.2.2.1 (fun z hz => by have := HB2.out.2.2.1.lt z hz; omega), cb_own HB2.out.2.2.1 (fun z hz => by have := HB2.out.2.2.2 z hz; omega), cb_own HB2.out.2.2.1 (fun z hz => by have := HB2.out.2.2.2 z hz; omega), cb_own hoC (fun z hz => by have := hoC.lt z hz; omega), cb_own hoC (fun z hz => by have := hoC.lt z hz; omega), cb_own hoC hgC⟩
    have HS0 : Hid (Sp9 w F x l g B C vb vc (mc0 (rightE F x)) W3) := ⟨H2.out.1.trans (hb3.mono H2.out.1.size), HB2.out.2.1.below hb3, hmC, (own_rwx HB2.out.2.2.1).below hb3, own_rwx hoC, HG2.out.2.2.imp id (fun ⟨cs, a, b, c⟩ => ⟨cs, (hb3.block _ (lt_16 b)).trans b, c⟩)⟩
    have HMo : Hid (l = [] ∨ mo = some ⟨g, 0, none⟩) := HG2.out.2.2.imp id (fun ⟨cs, a, b, c⟩ => a)
    have p1 := ptr_nil19 B
    clear K2 hC hmC hoC hgC hb3 H2 HG2 HB2 b0 b1
    go_wp2_with fail
    go_loopw [10] (fun iv wr => ∃ k : Nat, k ≤ l.length ∧ iv = .int .i64 k ∧ Hid (Sp9 w F x l g B C vb vc (mc0 (rightE F x)) wr)) (fun iv _ => l.length - (intOf iv).toNat)
    case atStart => exact ⟨0, Nat.zero_le _, rfl, HS0⟩
    case round =>
      clear HS0
      obtain ⟨k, hk, rfl, HS⟩ := hrel
      by_cases hlt : (k : Int) < (l.length : Int)
      · have hlt2 : k < l.length := by omega
        have hne : l ≠ [] := fun q => by rw [q] at hlt2; simp at hlt2
        obtain rfl : mo = some ⟨g, 0, none⟩ := HMo.out.resolve_left hne
        obtain ⟨cs, hcs, hcl⟩ := HS.out.row.resolve_left hne
        obtain ⟨u, hu⟩ : ∃ u, cs[k]? = some u := ⟨cs[k], by simp [show k < cs.size by omega]⟩
        have ck := at_16 hcs k u hu
        have fk := fr_16 (j := k) hcs
        have h0 : (0 : Int) ≤ (k : Int) := by omega
        have hk2 : IntKind.i64.wrap ((k : Int) + 1) = ((k + 1 : Nat) : Int) := by rw [IntKind.wrap_i64]; have := HL.out; omega
        have HS2 := hid13 (HS.out.write HP.out k (.int .u8 4))
        clear hne hcs hcl hu HS
        go_wp2
        go_roundw
        case rel => exact ⟨k + 1, by omega, by push_cast; rfl, HS2⟩
        case measure => simp only [intOf]; omega
      · have hlt2 : ¬ ((k : Int) < (l.length : Int)) := hlt
        have hke : (l.length : Int) ≤ (k : Int) := by omega
        go_wp2_with fail
        obtain ⟨wo, hwo⟩ : ∃ wo : World, wo = wr := ⟨_, rfl⟩
        rw [← hwo] at HS ⊢
        clear hwo
        go_loopw [11] (fun iv wr => ∃ k : Nat, k ≤ 400 ∧ iv = .int .i64 k ∧ Hid (Sp9 w F x l g B C vb vc (goM F x l k (mc0 (rightE F x))) wr)) (fun iv _ => 400 - (intOf iv).toNat)
        case atStart => exact ⟨0, by omega, rfl, HS⟩
        case round =>
          clear HS
          obtain ⟨j, hj, rfl, HS⟩ := hrel
          have HOj : Hid (MOk F ((l.length / 4 : Nat) : Int) (goM F x l j (mc0 (rightE F x)))) := goM_mok rfl j _ HOB.out
          by_cases hjl : (j : Int) < 400
          · have HK1 : Hid (∀ W, Sp9 w F x l g B C vb vc (goM F x l j (mc0 (rightE F x))) W → Calls Try.prog 16 #[.pointer (some ⟨B, 0, none⟩)] W fun r w' => r = .returned (.bool (decide ((goM F x l j (mc0 (rightE F x))).st < (goM F x l (j + 1) (mc0 (rightE F x))).st))) ∧ MV w' B F vb x (goM F x l (j + 1) (mc0 (rightE F x))) ∧ KM B W w') := hid13 (fun W hW => by
              have := step19 B F vb x _ l W hW.a HP.out.b2 hW.r (by have := HL.out; omega) HA.out.2.2 HOj.out
              rw [goM_one] at this
              exact this)
            have HK2 : Hid (∀ W, Sp9H w F x l g B C vb vc (goM F x l j (mc0 (rightE F x))) (goM F x l (j + 1) (mc0 (rightE F x))) W → Calls Try.prog 17 #[.pointer (some ⟨C, 0, none⟩)] W fun r w' => r = .returned (.bool (decide ((goM F x l j (mc0 (rightE F x))).st < (goM F x l (j + 1) (mc0 (rightE F x))).st))) ∧ RM9 w' C F vc x (goM F x l (j + 1) (mc0 (rightE F x))) ∧ KM C W w') := hid13 (fun W hW => by
              have := rstep19 C F vc x _ l W hW.n HP.out.c3 hW.s (by have := HL.out; omega) HA.out.2.2 HOj.out
              rw [goM_one] at this
              exact this)
            obtain ⟨bs, hbs⟩ : ∃ bs, bs = decide ((goM F x l j (mc0 (rightE F x))).st < (goM F x l (j + 1) (mc0 (rightE F x))).st) := ⟨_, rfl⟩
            rw [← hbs] at HK1 HK2
            obtain ⟨m, hm⟩ : ∃ m, m = goM F x l j (mc0 (rightE F x)) := ⟨_, rfl⟩
            rw [← hm] at HK1 HK2 HS
            have hqR := fun W => eqR_run m.hop m.err m.st m.ex m.ix m.bt m.hop m.err m.st m.ex m.ix m.bt W
            simp only [beq_self_eq_true, Bool.and_true, Bool.and_self] at hqR
            have hpp : (m.pl != m.pl) = false := by simp
            have hj2 : IntKind.i64.wrap ((j : Int) + 1) = ((j + 1 : Nat) : Int) := by rw [IntKind.wrap_i64]; omega
            clear hbs hm HOj
            go_wp2_with fail
            refine qw_region (C := (Sp9 w F x l g B C vb vc m)) (by kernel_rfl) (by kernel_rfl) (HS.out.below (Below.refl _ _).drew) ?_
            refine qw_run (v := .pointer (some ⟨B, 0, none⟩)) (by rfl) ?_ ?_
            · (intro w9 hC; clear hC; go_simp; first | done | (simp; done) | (simp [*]; done) | omega | (simp; omega) | (rw [IntKind.wrap_i64]; omega) | (intro hx; omega) | rfl)
            simp only [Act.put, List.setIfInBounds_toArray, List.set_cons_zero, List.set_cons_succ]
            refine qw_call (v := .agg #[.int .i64 m.hop, .int .i64 m.err, .int .i64 m.st, .int .i64 m.ex, .int .i64 m.ix, .int .i64 m.bt]) (f := 14) (args := #[.pointer (some ⟨B, 0, none⟩)]) (by rfl) ?_ ?_ ?_
            · (intro w9 hC; clear hC; go_simp; first | done | (simp; done) | rfl)
            · exact fun w9 hC => (result19 B F vb x m w9 hC.a).mono fun e w' ⟨he, hb⟩ => ⟨he, hC.below hb⟩
            simp only [Act.put, List.setIfInBounds_toArray, List.set_cons_zero, List.set_cons_succ]
            refine qw_run (v := .pointer (some ⟨C, 0, none⟩)) (by rfl) ?_ ?_
            · (intro w9 hC; clear hC; go_simp; first | done | (simp; done) | (simp [*]; done) | omega | (simp; omega) | (rw [IntKind.wrap_i64]; omega) | (intro hx; omega) | rfl)
            simp only [Act.put, List.setIfInBounds_toArray, List.set_cons_zero, List.set_cons_succ]
            refine qw_run (v := .pointer (some ⟨C, 0, none⟩)) (by rfl) ?_ ?_
            · (intro w9 hC; clear hC; go_simp; first | done | (simp; done) | (simp [*]; done) | omega | (simp; omega) | (rw [IntKind.wrap_i64]; omega) | (intro hx; omega) | rfl)
            simp only [Act.put, List.setIfInBounds_toArray, List.set_cons_zero, List.set_cons_succ]
            refine qw_run (v := .pointer (some ⟨C, 9, none⟩)) (by rfl) ?_ ?_
            · (intro w9 hC; clear hC; go_simp; first | done | (simp; done) | (simp [*]; done) | omega | (simp; omega) | (rw [IntKind.wrap_i64]; omega) | (intro hx; omega) | rfl)
            simp only [Act.put, List.setIfInBounds_toArray, List.set_cons_zero, List.set_cons_succ]
            refine qw_run (v := .agg #[.int .i64 m.hop, .int .i64 m.err, .int .i64 m.st, .int .i64 m.ex, .int .i64 m.ix, .int .i64 m.bt]) (by rfl) ?_ ?_
            · (intro w9 hC; obtain ⟨yy, hbb, hv, -⟩ := hC.n; have z4 : w9.cell? ⟨C, 4, none⟩ = some (.int .i64 m.pl) := hv.c4; have z9 : w9.cell? ⟨C, 9, none⟩ = some (.int .i64 m.hop) := hv.c9; have z10 : w9.cell? ⟨C, 10, none⟩ = some (.int .i64 m.err) := hv.c10; have z11 : w9.cell? ⟨C, 11, none⟩ = some (.int .i64 m.st) := hv.c11; have z12 : w9.cell? ⟨C, 12, none⟩ = some (.int .i64 m.ex) := hv.c12; have z13 : w9.cell? ⟨C, 13, none⟩ = some (.int .i64 m.ix) := hv.c13; have z14 : w9.cell? ⟨C, 14, none⟩ = some (.int .i64 m.bt) := hv.c14; clear hC; go_simp; first | done | (simp; done) | (simp [*]; done) | omega | (simp; omega) | (rw [IntKind.wrap_i64]; omega) | (intro hx; omega) | rfl)
            simp only [Act.put, List.setIfInBounds_toArray, List.set_cons_zero, List.set_cons_succ]
            refine qw_run (v := .bool false) (by rfl) ?_ ?_
            · (intro w9 hC; have hq := hqR w9; clear hC; go_simp; first | done | (simp; done) | (simp [*]; done) | omega | (simp; omega) | (rw [IntKind.wrap_i64]; omega) | (intro hx; omega) | rfl)
            simp only [Act.put, List.setIfInBounds_toArray, List.set_cons_zero, List.set_cons_succ]
            refine qw_run (v := .bool false) (by rfl) ?_ ?_
            · (intro w9 hC; clear hC; go_simp; first | done | (simp; done) | (simp [*]; done) | omega | (simp; omega) | (rw [IntKind.wrap_i64]; omega) | (intro hx; omega) | rfl)
            simp only [Act.put, List.setIfInBounds_toArray, List.set_cons_zero, List.set_cons_succ]
            refine qw_run (v := .pointer (some ⟨B, 0, none⟩)) (by rfl) ?_ ?_
            · (intro w9 hC; clear hC; go_simp; first | done | (simp; done) | (simp [*]; done) | omega | (simp; omega) | (rw [IntKind.wrap_i64]; omega) | (intro hx; omega) | rfl)
            simp only [Act.put, List.setIfInBounds_toArray, List.set_cons_zero, List.set_cons_succ]
            refine qw_call (v := .int .i64 m.pl) (f := 15) (args := #[.pointer (some ⟨B, 0, none⟩)]) (by rfl) ?_ ?_ ?_
            · (intro w9 hC; clear hC; go_simp; first | done | (simp; done) | rfl)
            · exact fun w9 hC => (place19 B F vb x m w9 hC.a).mono fun e w' ⟨he, hb⟩ => ⟨he, by rw [hb]; exact hC⟩
            simp only [Act.put, List.setIfInBounds_toArray, List.set_cons_zero, List.set_cons_succ]
            refine qw_run (v := .pointer (some ⟨C, 0, none⟩)) (by rfl) ?_ ?_
            · (intro w9 hC; clear hC; go_simp; first | done | (simp; done) | (simp [*]; done) | omega | (simp; omega) | (rw [IntKind.wrap_i64]; omega) | (intro hx; omega) | rfl)
            simp only [Act.put, List.setIfInBounds_toArray, List.set_cons_zero, List.set_cons_succ]
            refine qw_run (v := .pointer (some ⟨C, 0, none⟩)) (by rfl) ?_ ?_
            · (intro w9 hC; clear hC; go_simp; first | done | (simp; done) | (simp [*]; done) | omega | (simp; omega) | (rw [IntKind.wrap_i64]; omega) | (intro hx; omega) | rfl)
            simp only [Act.put, List.setIfInBounds_toArray, List.set_cons_zero, List.set_cons_succ]
            refine qw_run (v := .pointer (some ⟨C, 4, none⟩)) (by rfl) ?_ ?_
            · (intro w9 hC; clear hC; go_simp; first | done | (simp; done) | (simp [*]; done) | omega | (simp; omega) | (rw [IntKind.wrap_i64]; omega) | (intro hx; omega) | rfl)
            simp only [Act.put, List.setIfInBounds_toArray, List.set_cons_zero, List.set_cons_succ]
            refine qw_run (v := .int .i64 m.pl) (by rfl) ?_ ?_
            · (intro w9 hC; obtain ⟨yy, hbb, hv, -⟩ := hC.n; have z4 : w9.cell? ⟨C, 4, none⟩ = some (.int .i64 m.pl) := hv.c4; have z9 : w9.cell? ⟨C, 9, none⟩ = some (.int .i64 m.hop) := hv.c9; have z10 : w9.cell? ⟨C, 10, none⟩ = some (.int .i64 m.err) := hv.c10; have z11 : w9.cell? ⟨C, 11, none⟩ = some (.int .i64 m.st) := hv.c11; have z12 : w9.cell? ⟨C, 12, none⟩ = some (.int .i64 m.ex) := hv.c12; have z13 : w9.cell? ⟨C, 13, none⟩ = some (.int .i64 m.ix) := hv.c13; have z14 : w9.cell? ⟨C, 14, none⟩ = some (.int .i64 m.bt) := hv.c14; clear hC; go_simp; first | done | (simp; done) | (simp [*]; done) | omega | (simp; omega) | (rw [IntKind.wrap_i64]; omega) | (intro hx; omega) | rfl)
            simp only [Act.put, List.setIfInBounds_toArray, List.set_cons_zero, List.set_cons_succ]
            refine qw_run (v := .bool false) (by rfl) ?_ ?_
            · (intro w9 hC; clear hC; go_simp; first | done | (simp; done) | (simp [*]; done) | omega | (simp; omega) | (rw [IntKind.wrap_i64]; omega) | (intro hx; omega) | rfl)
            simp only [Act.put, List.setIfInBounds_toArray, List.set_cons_zero, List.set_cons_succ]
            refine qw_run (v := .bool false) (by rfl) ?_ ?_
            · (intro w9 hC; clear hC; go_simp; first | done | (simp; done) | (simp [*]; done) | omega | (simp; omega) | (rw [IntKind.wrap_i64]; omega) | (intro hx; omega) | rfl)
            simp only [Act.put, List.setIfInBounds_toArray, List.set_cons_zero, List.set_cons_succ]
            refine qw_nil ?_
            intro X hX
            have HX := hid13 hX
            have K1 := HK1.out X HX.out
            clear hX HS HK1 hqR hpp
            go_wp2_with fail
            refine K1.mono ?_
            rintro e W5 ⟨rfl, h1, h2⟩
            have HH := hid13 (HX.out.one HP.out h1 h2)
            have K2 := HK2.out W5 HH.out
            clear K1 h1 h2 HX HK2
            go_wp2_with fail
            refine K2.mono ?_
            rintro e W6 ⟨rfl, h1, h2⟩
            have HS6 := hid13 (HH.out.two HP.out h1 h2)
            clear K2 h1 h2 HH
            cases bs with
            | true =>
              go_wp2
              go_roundw
              case rel => exact ⟨j + 1, by omega, by push_cast; rfl, HS6⟩
              case measure => simp only [intOf]; omega
            | false =>
              by_cases h3 : (3 : Int) < (j : Int)
              · generalize goM F x l (j + 1) (mc0 (rightE F x)) = m at HS6
                have hqR := fun W => eqR_run m.hop m.err m.st m.ex m.ix m.bt m.hop m.err m.st m.ex m.ix m.bt W
                simp only [beq_self_eq_true, Bool.and_true, Bool.and_self] at hqR
                have hpp : (m.pl == m.pl) = true := by simp
                clear hjl hj hj2
                go_wp2_with fail
                refine qw_region (C := (Sp9 w F x l g B C vb vc m)) (by kernel_rfl) (by kernel_rfl) (HS6.out.below (Below.refl _ _).drew) ?_
                refine qw_run (v := .pointer (some ⟨B, 0, none⟩)) (by rfl) ?_ ?_
                · (intro w9 hC; clear hC; go_simp; first | done | (simp; done) | (simp [*]; done) | omega | (simp; omega) | (rw [IntKind.wrap_i64]; omega) | (intro hx; omega) | rfl)
                simp only [Act.put, List.setIfInBounds_toArray, List.set_cons_zero, List.set_cons_succ]
                refine qw_call (v := .agg #[.int .i64 m.hop, .int .i64 m.err, .int .i64 m.st, .int .i64 m.ex, .int .i64 m.ix, .int .i64 m.bt]) (f := 14) (args := #[.pointer (some ⟨B, 0, none⟩)]) (by rfl) ?_ ?_ ?_
                · (intro w9 hC; clear hC; go_simp; first | done | (simp; done) | rfl)
                · exact fun w9 hC => (result19 B F vb x m w9 hC.a).mono fun e w' ⟨he, hb⟩ => ⟨he, hC.below hb⟩
                simp only [Act.put, List.setIfInBounds_toArray, List.set_cons_zero, List.set_cons_succ]
                refine qw_run (v := .pointer (some ⟨C, 0, none⟩)) (by rfl) ?_ ?_
                · (intro w9 hC; clear hC; go_simp; first | done | (simp; done) | (simp [*]; done) | omega | (simp; omega) | (rw [IntKind.wrap_i64]; omega) | (intro hx; omega) | rfl)
                simp only [Act.put, List.setIfInBounds_toArray, List.set_cons_zero, List.set_cons_succ]
                refine qw_run (v := .pointer (some ⟨C, 0, none⟩)) (by rfl) ?_ ?_
                · (intro w9 hC; clear hC; go_simp; first | done | (simp; done) | (simp [*]; done) | omega | (simp; omega) | (rw [IntKind.wrap_i64]; omega) | (intro hx; omega) | rfl)
                simp only [Act.put, List.setIfInBounds_toArray, List.set_cons_zero, List.set_cons_succ]
                refine qw_run (v := .pointer (some ⟨C, 9, none⟩)) (by rfl) ?_ ?_
                · (intro w9 hC; clear hC; go_simp; first | done | (simp; done) | (simp [*]; done) | omega | (simp; omega) | (rw [IntKind.wrap_i64]; omega) | (intro hx; omega) | rfl)
                simp only [Act.put, List.setIfInBounds_toArray, List.set_cons_zero, List.set_cons_succ]
                refine qw_run (v := .agg #[.int .i64 m.hop, .int .i64 m.err, .int .i64 m.st, .int .i64 m.ex, .int .i64 m.ix, .int .i64 m.bt]) (by rfl) ?_ ?_
                · (intro w9 hC; obtain ⟨yy, hbb, hv, -⟩ := hC.n; have z4 : w9.cell? ⟨C, 4, none⟩ = some (.int .i64 m.pl) := hv.c4; have z9 : w9.cell? ⟨C, 9, none⟩ = some (.int .i64 m.hop) := hv.c9; have z10 : w9.cell? ⟨C, 10, none⟩ = some (.int .i64 m.err) := hv.c10; have z11 : w9.cell? ⟨C, 11, none⟩ = some (.int .i64 m.st) := hv.c11; have z12 : w9.cell? ⟨C, 12, none⟩ = some (.int .i64 m.ex) := hv.c12; have z13 : w9.cell? ⟨C, 13, none⟩ = some (.int .i64 m.ix) := hv.c13; have z14 : w9.cell? ⟨C, 14, none⟩ = some (.int .i64 m.bt) := hv.c14; clear hC; go_simp; first | done | (simp; done) | (simp [*]; done) | omega | (simp; omega) | (rw [IntKind.wrap_i64]; omega) | (intro hx; omega) | rfl)
                simp only [Act.put, List.setIfInBounds_toArray, List.set_cons_zero, List.set_cons_succ]
                refine qw_run (v := .bool true) (by rfl) ?_ ?_
                · (intro w9 hC; have hq := hqR w9; clear hC; go_simp; first | done | (simp; done) | (simp [*]; done) | omega | (simp; omega) | (rw [IntKind.wrap_i64]; omega) | (intro hx; omega) | rfl)
                simp only [Act.put, List.setIfInBounds_toArray, List.set_cons_zero, List.set_cons_succ]
                refine qw_run (v := .bool true) (by rfl) ?_ ?_
                · (intro w9 hC; clear hC; go_simp; first | done | (simp; done) | (simp [*]; done) | omega | (simp; omega) | (rw [IntKind.wrap_i64]; omega) | (intro hx; omega) | rfl)
                simp only [Act.put, List.setIfInBounds_toArray, List.set_cons_zero, List.set_cons_succ]
                refine qw_run (v := .pointer (some ⟨B, 0, none⟩)) (by rfl) ?_ ?_
                · (intro w9 hC; clear hC; go_simp; first | done | (simp; done) | (simp [*]; done) | omega | (simp; omega) | (rw [IntKind.wrap_i64]; omega) | (intro hx; omega) | rfl)
                simp only [Act.put, List.setIfInBounds_toArray, List.set_cons_zero, List.set_cons_succ]
                refine qw_call (v := .int .i64 m.pl) (f := 15) (args := #[.pointer (some ⟨B, 0, none⟩)]) (by rfl) ?_ ?_ ?_
                · (intro w9 hC; clear hC; go_simp; first | done | (simp; done) | rfl)
                · exact fun w9 hC => (place19 B F vb x m w9 hC.a).mono fun e w' ⟨he, hb⟩ => ⟨he, by rw [hb]; exact hC⟩
                simp only [Act.put, List.setIfInBounds_toArray, List.set_cons_zero, List.set_cons_succ]
                refine qw_run (v := .pointer (some ⟨C, 0, none⟩)) (by rfl) ?_ ?_
                · (intro w9 hC; clear hC; go_simp; first | done | (simp; done) | (simp [*]; done) | omega | (simp; omega) | (rw [IntKind.wrap_i64]; omega) | (intro hx; omega) | rfl)
                simp only [Act.put, List.setIfInBounds_toArray, List.set_cons_zero, List.set_cons_succ]
                refine qw_run (v := .pointer (some ⟨C, 0, none⟩)) (by rfl) ?_ ?_
                · (intro w9 hC; clear hC; go_simp; first | done | (simp; done) | (simp [*]; done) | omega | (simp; omega) | (rw [IntKind.wrap_i64]; omega) | (intro hx; omega) | rfl)
                simp only [Act.put, List.setIfInBounds_toArray, List.set_cons_zero, List.set_cons_succ]
                refine qw_run (v := .pointer (some ⟨C, 4, none⟩)) (by rfl) ?_ ?_
                · (intro w9 hC; clear hC; go_simp; first | done | (simp; done) | (simp [*]; done) | omega | (simp; omega) | (rw [IntKind.wrap_i64]; omega) | (intro hx; omega) | rfl)
                simp only [Act.put, List.setIfInBounds_toArray, List.set_cons_zero, List.set_cons_succ]
                refine qw_run (v := .int .i64 m.pl) (by rfl) ?_ ?_
                · (intro w9 hC; obtain ⟨yy, hbb, hv, -⟩ := hC.n; have z4 : w9.cell? ⟨C, 4, none⟩ = some (.int .i64 m.pl) := hv.c4; have z9 : w9.cell? ⟨C, 9, none⟩ = some (.int .i64 m.hop) := hv.c9; have z10 : w9.cell? ⟨C, 10, none⟩ = some (.int .i64 m.err) := hv.c10; have z11 : w9.cell? ⟨C, 11, none⟩ = some (.int .i64 m.st) := hv.c11; have z12 : w9.cell? ⟨C, 12, none⟩ = some (.int .i64 m.ex) := hv.c12; have z13 : w9.cell? ⟨C, 13, none⟩ = some (.int .i64 m.ix) := hv.c13; have z14 : w9.cell? ⟨C, 14, none⟩ = some (.int .i64 m.bt) := hv.c14; clear hC; go_simp; first | done | (simp; done) | (simp [*]; done) | omega | (simp; omega) | (rw [IntKind.wrap_i64]; omega) | (intro hx; omega) | rfl)
                simp only [Act.put, List.setIfInBounds_toArray, List.set_cons_zero, List.set_cons_succ]
                refine qw_run (v := .bool true) (by rfl) ?_ ?_
                · (intro w9 hC; clear hC; go_simp; first | done | (simp; done) | (simp [*]; done) | omega | (simp; omega) | (rw [IntKind.wrap_i64]; omega) | (intro hx; omega) | rfl)
                simp only [Act.put, List.setIfInBounds_toArray, List.set_cons_zero, List.set_cons_succ]
                refine qw_run (v := .bool true) (by rfl) ?_ ?_
                · (intro w9 hC; clear hC; go_simp; first | done | (simp; done) | (simp [*]; done) | omega | (simp; omega) | (rw [IntKind.wrap_i64]; omega) | (intro hx; omega) | rfl)
                simp only [Act.put, List.setIfInBounds_toArray, List.set_cons_zero, List.set_cons_succ]
                refine qw_run (v := .bool true) (by rfl) ?_ ?_
                · (intro w9 hC; clear hC; go_simp; first | done | (simp; done) | (simp [*]; done) | omega | (simp; omega) | (rw [IntKind.wrap_i64]; omega) | (intro hx; omega) | rfl)
                simp only [Act.put, List.setIfInBounds_toArray, List.set_cons_zero, List.set_cons_succ]
                refine qw_nil ?_
                intro X9 hX9
                have HX9 : Hid (Below w.heap.size w X9) := hX9.lo
                clear hX9
                go_wp2
                go_ret
                exact ⟨rfl, HX9.out⟩
              · have h3' : (j : Int) ≤ 3 := by omega
                go_wp2
                go_roundw
                case rel => exact ⟨j + 1, by omega, by push_cast; rfl, HS6⟩
                case measure => simp only [intOf]; omega
          · have hjl' : (400 : Int) ≤ (j : Int) := by omega
            generalize goM F x l j (mc0 (rightE F x)) = m at HS
            have HS6 := HS
            have hqR := fun W => eqR_run m.hop m.err m.st m.ex m.ix m.bt m.hop m.err m.st m.ex m.ix m.bt W
            simp only [beq_self_eq_true, Bool.and_true, Bool.and_self] at hqR
            have hpp : (m.pl == m.pl) = true := by simp
            clear HS HOj
            go_wp2_with fail
            refine qw_region (C := (Sp9 w F x l g B C vb vc m)) (by kernel_rfl) (by kernel_rfl) (HS6.out.below (Below.refl _ _).drew) ?_
            refine qw_run (v := .pointer (some ⟨B, 0, none⟩)) (by rfl) ?_ ?_
            · (intro w9 hC; clear hC; go_simp; first | done | (simp; done) | (simp [*]; done) | omega | (simp; omega) | (rw [IntKind.wrap_i64]; omega) | (intro hx; omega) | rfl)
            simp only [Act.put, List.setIfInBounds_toArray, List.set_cons_zero, List.set_cons_succ]
            refine qw_call (v := .agg #[.int .i64 m.hop, .int .i64 m.err, .int .i64 m.st, .int .i64 m.ex, .int .i64 m.ix, .int .i64 m.bt]) (f := 14) (args := #[.pointer (some ⟨B, 0, none⟩)]) (by rfl) ?_ ?_ ?_
            · (intro w9 hC; clear hC; go_simp; first | done | (simp; done) | rfl)
            · exact fun w9 hC => (result19 B F vb x m w9 hC.a).mono fun e w' ⟨he, hb⟩ => ⟨he, hC.below hb⟩
            simp only [Act.put, List.setIfInBounds_toArray, List.set_cons_zero, List.set_cons_succ]
            refine qw_run (v := .pointer (some ⟨C, 0, none⟩)) (by rfl) ?_ ?_
            · (intro w9 hC; clear hC; go_simp; first | done | (simp; done) | (simp [*]; done) | omega | (simp; omega) | (rw [IntKind.wrap_i64]; omega) | (intro hx; omega) | rfl)
            simp only [Act.put, List.setIfInBounds_toArray, List.set_cons_zero, List.set_cons_succ]
            refine qw_run (v := .pointer (some ⟨C, 0, none⟩)) (by rfl) ?_ ?_
            · (intro w9 hC; clear hC; go_simp; first | done | (simp; done) | (simp [*]; done) | omega | (simp; omega) | (rw [IntKind.wrap_i64]; omega) | (intro hx; omega) | rfl)
            simp only [Act.put, List.setIfInBounds_toArray, List.set_cons_zero, List.set_cons_succ]
            refine qw_run (v := .pointer (some ⟨C, 9, none⟩)) (by rfl) ?_ ?_
            · (intro w9 hC; clear hC; go_simp; first | done | (simp; done) | (simp [*]; done) | omega | (simp; omega) | (rw [IntKind.wrap_i64]; omega) | (intro hx; omega) | rfl)
            simp only [Act.put, List.setIfInBounds_toArray, List.set_cons_zero, List.set_cons_succ]
            refine qw_run (v := .agg #[.int .i64 m.hop, .int .i64 m.err, .int .i64 m.st, .int .i64 m.ex, .int .i64 m.ix, .int .i64 m.bt]) (by rfl) ?_ ?_
            · (intro w9 hC; obtain ⟨yy, hbb, hv, -⟩ := hC.n; have z4 : w9.cell? ⟨C, 4, none⟩ = some (.int .i64 m.pl) := hv.c4; have z9 : w9.cell? ⟨C, 9, none⟩ = some (.int .i64 m.hop) := hv.c9; have z10 : w9.cell? ⟨C, 10, none⟩ = some (.int .i64 m.err) := hv.c10; have z11 : w9.cell? ⟨C, 11, none⟩ = some (.int .i64 m.st) := hv.c11; have z12 : w9.cell? ⟨C, 12, none⟩ = some (.int .i64 m.ex) := hv.c12; have z13 : w9.cell? ⟨C, 13, none⟩ = some (.int .i64 m.ix) := hv.c13; have z14 : w9.cell? ⟨C, 14, none⟩ = some (.int .i64 m.bt) := hv.c14; clear hC; go_simp; first | done | (simp; done) | (simp [*]; done) | omega | (simp; omega) | (rw [IntKind.wrap_i64]; omega) | (intro hx; omega) | rfl)
            simp only [Act.put, List.setIfInBounds_toArray, List.set_cons_zero, List.set_cons_succ]
            refine qw_run (v := .bool true) (by rfl) ?_ ?_
            · (intro w9 hC; have hq := hqR w9; clear hC; go_simp; first | done | (simp; done) | (simp [*]; done) | omega | (simp; omega) | (rw [IntKind.wrap_i64]; omega) | (intro hx; omega) | rfl)
            simp only [Act.put, List.setIfInBounds_toArray, List.set_cons_zero, List.set_cons_succ]
            refine qw_run (v := .bool true) (by rfl) ?_ ?_
            · (intro w9 hC; clear hC; go_simp; first | done | (simp; done) | (simp [*]; done) | omega | (simp; omega) | (rw [IntKind.wrap_i64]; omega) | (intro hx; omega) | rfl)
            simp only [Act.put, List.setIfInBounds_toArray, List.set_cons_zero, List.set_cons_succ]
            refine qw_run (v := .pointer (some ⟨B, 0, none⟩)) (by rfl) ?_ ?_
            · (intro w9 hC; clear hC; go_simp; first | done | (simp; done) | (simp [*]; done) | omega | (simp; omega) | (rw [IntKind.wrap_i64]; omega) | (intro hx; omega) | rfl)
            simp only [Act.put, List.setIfInBounds_toArray, List.set_cons_zero, List.set_cons_succ]
            refine qw_call (v := .int .i64 m.pl) (f := 15) (args := #[.pointer (some ⟨B, 0, none⟩)]) (by rfl) ?_ ?_ ?_
            · (intro w9 hC; clear hC; go_simp; first | done | (simp; done) | rfl)
            · exact fun w9 hC => (place19 B F vb x m w9 hC.a).mono fun e w' ⟨he, hb⟩ => ⟨he, by rw [hb]; exact hC⟩
            simp only [Act.put, List.setIfInBounds_toArray, List.set_cons_zero, List.set_cons_succ]
            refine qw_run (v := .pointer (some ⟨C, 0, none⟩)) (by rfl) ?_ ?_
            · (intro w9 hC; clear hC; go_simp; first | done | (simp; done) | (simp [*]; done) | omega | (simp; omega) | (rw [IntKind.wrap_i64]; omega) | (intro hx; omega) | rfl)
            simp only [Act.put, List.setIfInBounds_toArray, List.set_cons_zero, List.set_cons_succ]
            refine qw_run (v := .pointer (some ⟨C, 0, none⟩)) (by rfl) ?_ ?_
            · (intro w9 hC; clear hC; go_simp; first | done | (simp; done) | (simp [*]; done) | omega | (simp; omega) | (rw [IntKind.wrap_i64]; omega) | (intro hx; omega) | rfl)
            simp only [Act.put, List.setIfInBounds_toArray, List.set_cons_zero, List.set_cons_succ]
            refine qw_run (v := .pointer (some ⟨C, 4, none⟩)) (by rfl) ?_ ?_
            · (intro w9 hC; clear hC; go_simp; first | done | (simp; done) | (simp [*]; done) | omega | (simp; omega) | (rw [IntKind.wrap_i64]; omega) | (intro hx; omega) | rfl)
            simp only [Act.put, List.setIfInBounds_toArray, List.set_cons_zero, List.set_cons_succ]
            refine qw_run (v := .int .i64 m.pl) (by rfl) ?_ ?_
            · (intro w9 hC; obtain ⟨yy, hbb, hv, -⟩ := hC.n; have z4 : w9.cell? ⟨C, 4, none⟩ = some (.int .i64 m.pl) := hv.c4; have z9 : w9.cell? ⟨C, 9, none⟩ = some (.int .i64 m.hop) := hv.c9; have z10 : w9.cell? ⟨C, 10, none⟩ = some (.int .i64 m.err) := hv.c10; have z11 : w9.cell? ⟨C, 11, none⟩ = some (.int .i64 m.st) := hv.c11; have z12 : w9.cell? ⟨C, 12, none⟩ = some (.int .i64 m.ex) := hv.c12; have z13 : w9.cell? ⟨C, 13, none⟩ = some (.int .i64 m.ix) := hv.c13; have z14 : w9.cell? ⟨C, 14, none⟩ = some (.int .i64 m.bt) := hv.c14; clear hC; go_simp; first | done | (simp; done) | (simp [*]; done) | omega | (simp; omega) | (rw [IntKind.wrap_i64]; omega) | (intro hx; omega) | rfl)
            simp only [Act.put, List.setIfInBounds_toArray, List.set_cons_zero, List.set_cons_succ]
            refine qw_run (v := .bool true) (by rfl) ?_ ?_
            · (intro w9 hC; clear hC; go_simp; first | done | (simp; done) | (simp [*]; done) | omega | (simp; omega) | (rw [IntKind.wrap_i64]; omega) | (intro hx; omega) | rfl)
            simp only [Act.put, List.setIfInBounds_toArray, List.set_cons_zero, List.set_cons_succ]
            refine qw_run (v := .bool true) (by rfl) ?_ ?_
            · (intro w9 hC; clear hC; go_simp; first | done | (simp; done) | (simp [*]; done) | omega | (simp; omega) | (rw [IntKind.wrap_i64]; omega) | (intro hx; omega) | rfl)
            simp only [Act.put, List.setIfInBounds_toArray, List.set_cons_zero, List.set_cons_succ]
            refine qw_run (v := .bool true) (by rfl) ?_ ?_
            · (intro w9 hC; clear hC; go_simp; first | done | (simp; done) | (simp [*]; done) | omega | (simp; omega) | (rw [IntKind.wrap_i64]; omega) | (intro hx; omega) | rfl)
            simp only [Act.put, List.setIfInBounds_toArray, List.set_cons_zero, List.set_cons_succ]
            refine qw_nil ?_
            intro X9 hX9
            have HX9 : Hid (Below w.heap.size w X9) := hX9.lo
            clear hX9
            go_wp2
            go_ret
            exact ⟨rfl, HX9.out⟩
  · have n1 : ((l.length : Int) > 4096) := by omega
    have n1' : (4096 < (l.length : Int)) := by omega
    clear hl HA
    go_enter Try.func4, Try.ntmps4
    go_wp2_with fail
    rw [← hV]
    clear hV
    refine K0.mono ?_
    rintro e W1 ⟨rfl, hb1⟩
    have HB1 : Hid (Below w.heap.size w W1) := HQ.out.trans (hb1.mono HQ.out.size)
    clear K0 hb1 HQ HW
    go_wp2
    go_ret
    exact ⟨rfl, HB1.out⟩
end Go.Proofs.Ytbgoclfifhdonaa
namespace Go.Proofs.Ytbgoclfifhdonaa
open Go.ChangeShapes Go.WideShapes Go.ChangeAt Go.RowKit Go.Joins
set_option linter.unusedSimpArgs false
set_option linter.unusedVariables false

theorem Try.laidOut : laidOutB Try.prog = true := by kernel_rfl
section
variable {H : Type} {enc : TypeId × Value → H} {w : World} {spare : Nat → Bool} {held : Bool}
theorem RwX.map13 {α β : Type} {f : α → Value} {g : β → Value} (h : α → β) {v : Value} {l : List α} (hr : RwX f w v l) (he : ∀ x ∈ l, f x = g (h x)) : RwX g w v (l.map h) := by
  obtain ⟨ao, c, e, hc, hr⟩ := hr
  refine ⟨ao, c, by rw [List.length_map]; exact e, by rw [List.length_map]; exact hc, ?_⟩
  rcases hr with hr | ⟨b, off, e, hr⟩
  · exact .inl (by rw [hr]; rfl)
  · refine .inr ⟨b, off, e, fun j x hj => ?_⟩
    rw [List.getElem?_map] at hj
    cases hx : l[j]? with
    | none => rw [hx] at hj; cases hj
    | some y =>
      rw [hx] at hj
      simp only [Option.map_some, Option.some.injEq] at hj
      rw [hr j y hx, he y (List.mem_of_getElem? hx), hj]
set_option maxRecDepth 100000 in
theorem open_ints13 {t e : TypeId} {k : IntKind} (ht : Try.prog.underlying t = some (.slice e)) (he : Try.prog.underlying e = some (.int k)) (hce : Try.prog.cellsOf e = 1) {r : Reach} {b0 : Nat} {v : Value} {d : DataW H} {p : List MemPlace} (hv : Value.okWide Try.prog w r b0 t v) (h : DataW.Trod enc Try.prog w 0 (fun _ => true) held t v d p) :
    ∃ l : List Int, RowA w 1 v l.length (l.map fun a => .int k a) ∧ RwX (fun a => Value.int k a) w v l ∧ (∀ a ∈ l, (Lit.int k a).wf = true) ∧ (l = [] ∨ ∃ el sp, d = .slice el sp ∧ el.length = l.length) := by
  obtain ⟨a0, len, cap, rfl⟩ := okWide_slice ht hv
  obtain ⟨fuel, hf⟩ := h
  rcases Deep.open_slice ht hf with ⟨hcs, hx⟩ | ⟨a, len', cap', m, n, D, Pl, hcs, _, hl, hm, hmm, hx, hel⟩
  · simp [Value.cells] at hcs
    obtain ⟨rfl, rfl, rfl⟩ := hcs
    exact ⟨[], ⟨rfl, none, 0, rfl, Nat.le_refl _, .inl ⟨rfl, rfl, rfl⟩⟩, ⟨none, 0, rfl, Nat.le_refl _, .inl rfl⟩, (fun _ h => by cases h), .inl rfl⟩
  · simp [Value.cells] at hcs
    obtain ⟨rfl, rfl, rfl⟩ := hcs
    simp at hmm
    subst hmm
    rw [hce] at hel
    obtain ⟨f, hf⟩ := Deep.choose_lt (α := Int) (n := len) (p := fun i x => w.cell? (a.add i) = some (.int k x) ∧ (Lit.int k x).wf = true) (fun i hi => by
      obtain ⟨cs', h1, h2⟩ := hel i (by omega)
      obtain ⟨_, hlen, hc⟩ := World.cells?_some h1
      match cs', hlen with
      | [c0], _ =>
        obtain ⟨x, ex, -, wx⟩ := DataW.trod_int he h2
        simp at ex
        subst ex
        refine ⟨x, ?_, wx⟩
        have := hc 0 (by omega)
        simpa [Addr.add] using this)
    have hlen : ((List.range len).map f).length = len := by simp
    have hcells : ∀ j x, ((List.range len).map f)[j]? = some x → w.cell? (a.add j) = some (.int k x) := by
      intro j x hj
      have hlt : j < len := by have := (List.getElem?_eq_some_iff.1 hj).1; simpa using this
      rw [List.getElem?_map, List.getElem?_range hlt] at hj
      simp only [Option.map_some, Option.some.injEq] at hj
      rw [← hj]; exact (hf j hlt).1
    refine ⟨(List.range len).map f, ⟨by simp, some a, m, by rw [hlen], by rw [hlen]; exact hl, .inr ⟨a, rfl, fun j u hj => ?_⟩⟩, ⟨some a, m, by rw [hlen], by rw [hlen]; exact hl, ?_⟩, ?_, ?_⟩
    · rw [List.getElem?_map] at hj
      cases hx : ((List.range len).map f)[j]? with
      | none => rw [hx] at hj; cases hj
      | some y =>
        rw [hx] at hj
        simp only [Option.map_some, Option.some.injEq] at hj
        rw [← hj]; exact hcells j y hx
    · by_cases hz : len = 0
      · subst hz
        exact .inl (by simp)
      · have h00 := (hf 0 (by omega)).1
        have ea : a = ⟨a.block, a.off, none⟩ := by
          have : a.add 0 = a := by simp [Addr.add]
          rw [this] at h00
          exact spot9 h00
        refine .inr ⟨a.block, a.off, by rw [← ea], fun j u hj => ?_⟩
        have := hcells j u hj
        rw [ea, addA] at this
        exact this
    · intro x hx
      simp only [List.mem_map, List.mem_range] at hx
      obtain ⟨i, hi, rfl⟩ := hx
      exact (hf i hi).2
    · simp only [Prod.mk.injEq] at hx
      exact .inr ⟨_, _, hx.1, by simp⟩
end
end Go.Proofs.Ytbgoclfifhdonaa
namespace Go.Proofs.Ytbgoclfifhdonaa
open Go.ChangeShapes Go.WideShapes Go.ChangeAt Go.RowKit Go.Joins
set_option linter.unusedSimpArgs false
set_option linter.unusedVariables false

section
variable {H : Type} {enc : TypeId × Value → H} {w : World} {spare : Nat → Bool} {held : Bool}
theorem i64_bd14 {a : Int} (h : (Lit.int .i64 a).wf = true) : -9223372036854775808 ≤ a ∧ a ≤ 9223372036854775807 := by
  simp [Lit.wf, IntKind.min, IntKind.max, IntKind.signed, IntKind.bits] at h; omega
end
end Go.Proofs.Ytbgoclfifhdonaa
namespace Go.Proofs.Ytbgoclfifhdonaa
open Go.ChangeShapes Go.WideShapes Go.ChangeAt Go.RowKit Go.Joins
set_option linter.unusedSimpArgs false
set_option linter.unusedVariables false

section
variable {P : Program} {H : Type} {enc : TypeId × Value → H} {w : World} {base : Nat} {spare : Nat → Bool} {held : Bool}
end
end Go.Proofs.Ytbgoclfifhdonaa
