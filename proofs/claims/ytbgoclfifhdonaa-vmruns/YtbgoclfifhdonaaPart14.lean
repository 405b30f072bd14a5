/-
  Part 14 of the proof: 6 texts, one behind the other.
-/
import Derived.Test.YtbgoclfifhdonaaPart13
import Derived.Test.YtbgoclfifhdonaaPart2
import Derived.Deep.Slices
import Derived.Carry
import Derived.SizedLaws
import Derived.ProofKit
import Derived.Lib.SmallJoins
import Derived.Test.YtbgoclfifhdonaaPart3
import Derived.Deep.Strs
import Derived.Test.YtbgoclfifhdonaaPart1
namespace Go.Proofs.Ytbgoclfifhdonaa
open Go.RowKit
set_option linter.unusedSimpArgs false
set_option linter.unusedVariables false

def stA19 (B : Nat) (W : World) : Nat := (intOf13 ((W.cell? ⟨B, 11, none⟩).getD undef)).toNat
def boolOf19 : Value → Bool | .bool b => b | _ => false
def enA19 (B : Nat) (W : World) : Nat := if boolOf19 ((W.cell? ⟨B, 15, none⟩).getD undef) = true then 0 else 1
def muA19 (n B : Nat) (W : World) : Nat := 2 * (n - stA19 B W) + enA19 B W
theorem muA_eq {W : World} {n B : Nat} {F : Int} {vc : Value} {x : BitVec 128} {m : Mc} (h : RM9 W B F vc x m) : muA19 n B W = 2 * (n - m.st.toNat) + (if m.en = true then 0 else 1) := by
  obtain ⟨y, hb, h1, -⟩ := h
  have e1 : W.cell? ⟨B, 11, none⟩ = some (.int .i64 m.st) := h1.c11
  have e2 : W.cell? ⟨B, 15, none⟩ = some (.bool m.en) := h1.c15
  unfold muA19 stA19 enA19
  rw [e1, e2]
  rfl
structure Rn9 (w : World) (B R : Nat) (F : Int) (vc : Value) (x : BitVec 128) (l : List Nat) (m : Mc) (W : World) : Prop where
  lo : Below w.heap.size w W
  m : RM9 W B F vc x m
  c : RwX cB W vc l
  r : W.heap[R]? = some (.cells #[.int .i64 0, .int .i64 0, .int .i64 0, .int .i64 0, .int .i64 0, .int .i64 0] 29)
theorem Rn9.step {w W W' : World} {B R : Nat} {F : Int} {vc : Value} {x : BitVec 128} {l : List Nat} {m m' : Mc} (h : Rn9 w B R F vc x l m W) (h1 : w.heap.size ≤ B) (h2 : R ≠ B) (hc : CB B vc l) (hm : RM9 W' B F vc x m') (hk : KM B W W') : Rn9 w B R F vc x l m' W' :=
  ⟨h.lo.trans (hk.lo.mono h1), hm, rwx_km h.c hc hk, (hk.ot.2 _ (lt_16 h.r) h2).trans h.r⟩
set_option maxRecDepth 20000 in
set_option maxHeartbeats 16000000 in
theorem rrun19 (F : Int) (v : Value) (x : BitVec 128) (n : Int) (l : List Nat) (w : World) (hA : RowA w 1 v l.length (l.map cB)) (hl : l.length ≤ 100000) (hx : ∀ b ∈ l, b < 256) (hn : n ≤ 9223372036854775807) :
    Calls Try.prog 11 #[.int .i64 F, v, .agg #[.int .u64 (hI x), .int .u64 (lI x)], .int .i64 n] w fun r w' => r = .returned (rsV (ruM F x l (rightE F x) n.toNat)) ∧ Below w.heap.size w w' := by
  obtain ⟨-, ao, cc, hvf, -⟩ := id hA
  subst hvf
  obtain ⟨V, hV⟩ : ∃ V, V = (w.alloc (.cells #[.int .u64 (hI x), .int .u64 (lI x)] 25)).alloc (.cells #[.int .i64 0, .int .i64 0, .int .i64 0, .int .i64 0, .int .i64 0, .int .i64 0] 29) := ⟨_, rfl⟩
  have q1 := bl1 w (.cells #[.int .u64 (hI x), .int .u64 (lI x)] 25)
  have hs : (w.alloc (.cells #[.int .u64 (hI x), .int .u64 (lI x)] 25)).heap.size = w.heap.size + 1 := by simp
  have HQ : Hid (Below w.heap.size w V) := by rw [hV]; exact keepb (bl1 _ _) q1
  have HS : Hid (V.heap.size = w.heap.size + 2) := by rw [hV]; show _ = _; simp
  have HR : Hid (V.heap[w.heap.size + 1]? = some (.cells #[.int .i64 0, .int .i64 0, .int .i64 0, .int .i64 0, .int .i64 0, .int .i64 0] 29)) := by rw [hV]; unfold Hid; rw [← hs]; exact new_16 _ _
  have HW : Hid (V.heap[w.heap.size]? = some (.cells #[.int .u64 (hI x), .int .u64 (lI x)] 25)) := by rw [hV]; exact old_16 _ (new_16 _ _)
  have w0 := at_16 HW.out 0 _ rfl
  have w1 := at_16 HW.out 1 _ rfl
  have K1 := rnew19 F (.slice ao l.length cc) x l V (hA.below HQ.out) hl
  have HL := hid13 (And.intro hl hx)
  have HN := hid13 hn
  have HOK : Hid (MOk F ((l.length / 4 : Nat) : Int) (mc0 (rightE F x))) := mc0_ok (by omega) fam_right
  obtain ⟨mE, hmE⟩ : ∃ mE, mE = ruM F x l (rightE F x) n.toNat := ⟨_, rfl⟩
  have HmE := hid13 hmE
  rw [← hmE]
  unfold RnQ9 at K1
  unfold rsV
  generalize rightE F x = E at K1 HOK HmE
  clear q1 hs hA hl hx hn hmE
  go_enter Try.func11, Try.ntmps11
  go_wp2_with fail
  rw [← hV]
  clear hV
  refine K1.mono ?_
  rintro r X ⟨B, vc, rfl, hB, hM, hO, hg, hb⟩
  have HP : Hid (w.heap.size ≤ B ∧ w.heap.size + 1 ≠ B ∧ CB B vc l) := ⟨by have := HS.out; omega, by have := HS.out; omega, cb_own hO hg⟩
  have HS0 : Hid (Rn9 w B (w.heap.size + 1) F vc x l (mc0 E) X) := ⟨HQ.out.trans (hb.mono HQ.out.size), hM, own_rwx hO, (hb.block _ (lt_16 HR.out)).trans HR.out⟩
  have HT0 : Hid ((mc0 E).en = false → (mc0 E).st = ((0 : Nat) : Int)) := hid13 (fun _ => by unfold mc0; split <;> rfl)
  clear K1 hB hM hO hg hb w0 w1 HW HR HQ HS
  go_wp2_with fail
  go_loopw [] (fun wr => ∃ k : Nat, Hid (k ≤ n.toNat) ∧ Hid ((goM F x l k (mc0 E)).en = false → (goM F x l k (mc0 E)).st = (k : Int)) ∧ Hid (Rn9 w B (w.heap.size + 1) F vc x l (goM F x l k (mc0 E)) wr)) (fun wr => muA19 n.toNat B wr)
  case atStart => exact ⟨0, hid13 (Nat.zero_le _), HT0, HS0⟩
  case round =>
    clear HS0 HT0
    obtain ⟨k, Hk, HT, HS⟩ := hrel
    obtain ⟨m, hm⟩ : ∃ m, m = goM F x l k (mc0 E) := ⟨_, rfl⟩
    have Hm := hid13 hm
    have HOk : Hid (MOk F ((l.length / 4 : Nat) : Int) m) := by rw [hm]; exact goM_mok rfl k _ HOK.out
    rw [← hm] at HT HS
    obtain ⟨y, hb, hv, -⟩ := id HS.out.m
    have c9 : wr.cell? ⟨B, 9, none⟩ = some (.int .i64 m.hop) := hv.c9
    have c10 : wr.cell? ⟨B, 10, none⟩ = some (.int .i64 m.err) := hv.c10
    have c11 : wr.cell? ⟨B, 11, none⟩ = some (.int .i64 m.st) := hv.c11
    have c12 : wr.cell? ⟨B, 12, none⟩ = some (.int .i64 m.ex) := hv.c12
    have c13 : wr.cell? ⟨B, 13, none⟩ = some (.int .i64 m.ix) := hv.c13
    have c14 : wr.cell? ⟨B, 14, none⟩ = some (.int .i64 m.bt) := hv.c14
    have c15 : wr.cell? ⟨B, 15, none⟩ = some (.bool m.en) := hv.c15
    have HV := hid13 hv
    clear hv hm
    cases he : m.en with
    | true =>
      rw [he] at c15
      have HF : Hid (mE = m) := by rw [HmE.out]; show _ = _; rw [Hm.out] at he ⊢; exact ru_done he Hk.out
      obtain ⟨z0, z1, z2, z3, z4, z5⟩ : wr.cell? ⟨w.heap.size + 1, 0, none⟩ = some (.int .i64 0) ∧ wr.cell? ⟨w.heap.size + 1, 1, none⟩ = some (.int .i64 0) ∧ wr.cell? ⟨w.heap.size + 1, 2, none⟩ = some (.int .i64 0) ∧ wr.cell? ⟨w.heap.size + 1, 3, none⟩ = some (.int .i64 0) ∧ wr.cell? ⟨w.heap.size + 1, 4, none⟩ = some (.int .i64 0) ∧ wr.cell? ⟨w.heap.size + 1, 5, none⟩ = some (.int .i64 0) := ⟨at_16 HS.out.r 0 _ rfl, at_16 HS.out.r 1 _ rfl, at_16 HS.out.r 2 _ rfl, at_16 HS.out.r 3 _ rfl, at_16 HS.out.r 4 _ rfl, at_16 HS.out.r 5 _ rfl⟩
      have y0 := fr_16 (j := 0) HS.out.r
      have y1 := fr_16 (j := 1) HS.out.r
      have y2 := fr_16 (j := 2) HS.out.r
      have y3 := fr_16 (j := 3) HS.out.r
      have y4 := fr_16 (j := 4) HS.out.r
      have y5 := fr_16 (j := 5) HS.out.r
      have HBZ : Hid (Below w.heap.size w wr) := HS.out.lo
      have hne := HP.out.2.1
      have hne2 : ¬ B = w.heap.size + 1 := fun q => hne q.symm
      clear Hk HT HS HV he Hm HOk HmE
      go_wp2
      refine bodyPost_ret (v := .agg #[.int .i64 m.hop, .int .i64 m.err, .int .i64 m.st, .int .i64 m.ex, .int .i64 m.ix, .int .i64 m.bt]) (by simp [results, Try.results11, go_sem, *]) rfl ⟨by rw [HF.out], ?_⟩
      exact (((((HBZ.out.setCell (p := ⟨w.heap.size + 1, 0, none⟩) (Nat.le_succ _) _).setCell (p := ⟨w.heap.size + 1, 1, none⟩) (Nat.le_succ _) _).setCell (p := ⟨w.heap.size + 1, 2, none⟩) (Nat.le_succ _) _).setCell (p := ⟨w.heap.size + 1, 3, none⟩) (Nat.le_succ _) _).setCell (p := ⟨w.heap.size + 1, 4, none⟩) (Nat.le_succ _) _).setCell (p := ⟨w.heap.size + 1, 5, none⟩) (Nat.le_succ _) _
    | false =>
      rw [he] at c15
      by_cases hf : n ≤ m.st
      · have hst := HT.out he
        have HF : Hid (mE = { m with en := true, err := 29 }) := by
          have hk : k = n.toNat := by have := Hk.out; omega
          rw [HmE.out]
          show _ = _
          unfold ruM
          rw [← hk, ← Hm.out, he]
          rfl
        have hf2 : ¬ m.st < n := by omega
        have K2 := fun Z hZ => rfail19 B F vc x y { rqO m with hb := hb } 29 Z hZ
        have hz0 := HS.out.r
        have HLo := hid13 HS.out.lo
        have HZ0 := hid13 hz0
        clear Hk HT HS he Hm HOk HmE c9 c10 c12 c13 c14 hst hz0
        go_wp2_with fail
        refine (K2 _ HV.out).mono ?_
        rintro e W3 ⟨rfl, h1, h2⟩
        have d9 : W3.cell? ⟨B, 9, none⟩ = some (.int .i64 m.hop) := h1.c9
        have d10 : W3.cell? ⟨B, 10, none⟩ = some (.int .i64 29) := h1.c10
        have d11 : W3.cell? ⟨B, 11, none⟩ = some (.int .i64 m.st) := h1.c11
        have d12 : W3.cell? ⟨B, 12, none⟩ = some (.int .i64 m.ex) := h1.c12
        have d13 : W3.cell? ⟨B, 13, none⟩ = some (.int .i64 m.ix) := h1.c13
        have d14 : W3.cell? ⟨B, 14, none⟩ = some (.int .i64 m.bt) := h1.c14
        have hz := (h2.ot.2 _ (lt_16 HZ0.out) HP.out.2.1).trans HZ0.out
        have z0 := at_16 hz 0 _ rfl
        have z1 := at_16 hz 1 _ rfl
        have z2 := at_16 hz 2 _ rfl
        have z3 := at_16 hz 3 _ rfl
        have z4 := at_16 hz 4 _ rfl
        have z5 := at_16 hz 5 _ rfl
        have y0 := fr_16 (j := 0) hz
        have y1 := fr_16 (j := 1) hz
        have y2 := fr_16 (j := 2) hz
        have y3 := fr_16 (j := 3) hz
        have y4 := fr_16 (j := 4) hz
        have y5 := fr_16 (j := 5) hz
        have HBZ : Hid (Below w.heap.size w W3) := HLo.out.trans (h2.lo.mono HP.out.1)
        have hne := HP.out.2.1
        have hne2 : ¬ B = w.heap.size + 1 := fun q => hne q.symm
        clear K2 h1 h2 hz HV HZ0 HLo c11 c15
        go_wp2
        refine bodyPost_ret (v := .agg #[.int .i64 m.hop, .int .i64 29, .int .i64 m.st, .int .i64 m.ex, .int .i64 m.ix, .int .i64 m.bt]) (by simp [results, Try.results11, go_sem, *]) rfl ⟨by rw [HF.out], ?_⟩
        exact (((((HBZ.out.setCell (p := ⟨w.heap.size + 1, 0, none⟩) (Nat.le_succ _) _).setCell (p := ⟨w.heap.size + 1, 1, none⟩) (Nat.le_succ _) _).setCell (p := ⟨w.heap.size + 1, 2, none⟩) (Nat.le_succ _) _).setCell (p := ⟨w.heap.size + 1, 3, none⟩) (Nat.le_succ _) _).setCell (p := ⟨w.heap.size + 1, 4, none⟩) (Nat.le_succ _) _).setCell (p := ⟨w.heap.size + 1, 5, none⟩) (Nat.le_succ _) _
      · have hst := HT.out he
        have hf2 : m.st < n := by omega
        have K2 := rstep19 B F vc x m l wr HS.out.m HP.out.2.2 HS.out.c HL.out.1 HL.out.2 HOk.out
        have HT2 : Hid ((goM F x l (k + 1) (mc0 E)).en = false → (goM F x l (k + 1) (mc0 E)).st = ((k + 1 : Nat) : Int)) := hid13 (fun q => by
          have := (goM_cnt (k + 1) _ q)
          have h0 : (mc0 E).st = 0 := by unfold mc0; split <;> rfl
          rw [this.2, h0]; omega)
        have HG : Hid (goM F x l 1 m = goM F x l (k + 1) (mc0 E)) := by rw [Hm.out]; exact goM_one F x l k _
        have HMu : Hid (∀ W, RM9 W B F vc x (goM F x l (k + 1) (mc0 E)) → muA19 n.toNat B W < muA19 n.toNat B wr) := hid13 (fun W hW => by
          rw [muA_eq hW, muA_eq HS.out.m, he]
          have h1 := (goM_ex 1 m (F := F) (x := x) (l := l)).2
          rw [HG.out] at h1
          cases q : (goM F x l (k + 1) (mc0 E)).en with
          | true => simp; omega
          | false =>
            have h2 := HT2.out q
            simp
            omega)
        rw [HG.out] at K2
        have Hk2 : Hid (k + 1 ≤ n.toNat) := hid13 (by omega)
        clear HT he Hm HOk HmE c9 c10 c12 c13 c14 hst hf HV HG
        go_wp2_with fail
        refine K2.mono ?_
        rintro e W3 ⟨rfl, h1, h2⟩
        have HS3 := hid13 (HS.out.step HP.out.1 HP.out.2.1 HP.out.2.2 h1 h2)
        clear K2 h1 h2 HS
        go_wp2
        go_roundw
        case rel => exact ⟨k + 1, Hk2, HT2, HS3⟩
        case measure => exact HMu.out _ HS3.out.m
end Go.Proofs.Ytbgoclfifhdonaa
namespace Go.Proofs.Ytbgoclfifhdonaa
open Go.RowKit
set_option linter.unusedSimpArgs false
set_option linter.unusedVariables false

set_option maxRecDepth 20000 in
set_option maxHeartbeats 16000000 in
theorem vmRuns_any (F : Int) (v : Value) (l : List Nat) (x : BitVec 128) (n : Int) (w : World) (hF0 : -9223372036854775808 ≤ F) (hF1 : F ≤ 9223372036854775807) (hA : RowA w 1 v l.length (l.map cB)) (hR : RwX cB w v l) (hx : ∀ b ∈ l, b < 256) (hn0 : -9223372036854775808 ≤ n) (hn1 : n ≤ 9223372036854775807) :
    Calls Try.prog 3 #[.int .i64 F, v, .agg #[.int .u64 (hI x), .int .u64 (lI x)], .int .i64 n] w fun e w' => e = .returned (.bool true) ∧ Below w.heap.size w w' := by
  obtain ⟨i0, ji, jz0, jz1, jz2⟩ := info13 Try.infoB13
  obtain ⟨ao, cc, rfl, -⟩ := id hR
  have hsz : (w.alloc (.cells #[.int .u64 (hI x), .int .u64 (lI x)] 25)).heap[w.heap.size]? = some (.cells #[.int .u64 (hI x), .int .u64 (lI x)] 25) := new_16 _ _
  have q1 := bl1 w (.cells #[.int .u64 (hI x), .int .u64 (lI x)] 25)
  obtain ⟨V, hV⟩ : ∃ V, V = w.alloc (.cells #[.int .u64 (hI x), .int .u64 (lI x)] 25) := ⟨_, rfl⟩
  rw [← hV] at hsz q1
  have HQ := hid13 q1
  have HW := hid13 hsz
  have K0 := known19 V
  have HA := hid13 (And.intro hA (And.intro hR hx))
  clear q1 hsz hA hR hx hF0 hF1 hn0
  by_cases hl : l.length ≤ 32768
  · have n1 : ¬ ((l.length : Int) > 32768) := by omega
    have n1' : ¬ (32768 < (l.length : Int)) := by omega
    have HL := hid13 hl
    have HRun : Hid (∀ v W, RwX cB W v l → Calls Try.prog 10 #[.int .i64 F, v, .agg #[.int .u64 (hI x), .int .u64 (lI x)], .int .i64 n] W fun r w' => r = .returned (rsV (ruM F x l (rightE F x) n.toNat)) ∧ Below W.heap.size W w') := hid13 (fun v W hW => run19 F v x n l W hW (by have := HL.out; omega) HA.out.2.2 hn1)
    have HRef : Hid (∀ W, Below w.heap.size w W → Calls Try.prog 11 #[.int .i64 F, .slice ao l.length cc, .agg #[.int .u64 (hI x), .int .u64 (lI x)], .int .i64 n] W fun r w' => r = .returned (rsV (ruM F x l (rightE F x) n.toNat)) ∧ Below W.heap.size W w') := hid13 (fun W hW => rrun19 F (.slice ao l.length cc) x n l W (HA.out.1.below hW) (by have := HL.out; omega) HA.out.2.2 hn1)
    generalize ruM F x l (rightE F x) n.toNat = m at HRun HRef
    unfold rsV at HRun HRef
    clear hl
    go_enter Try.func3, Try.ntmps3
    go_wp2_with fail
    rw [← hV]
    clear hV
    refine K0.mono ?_
    rintro e W0 ⟨rfl, hb0⟩
    have q0 := bl1 W0 (.cells #[] 5)
    have H0 : Hid (Below w.heap.size w W0) := HQ.out.trans (hb0.mono HQ.out.size)
    have HV0 : Hid (Below V.heap.size V (W0.alloc (.cells #[] 5)) ∧ Below w.heap.size w (W0.alloc (.cells #[] 5))) := ⟨hb0.trans (q0.mono hb0.size), H0.out.trans (q0.mono H0.out.size)⟩
    have HO0 : Hid ((W0.alloc (.cells #[] 5)).ownsRow W0.heap.size 5 1 (.slice (some ⟨W0.heap.size, 0, none⟩) 0 0) 0 []) := World.ownsRow_made W0 #[] 0 (Nat.le_refl _) (by unfold maxLen; omega) (by simp)
    have HSz : Hid (W0.heap.size ≤ (W0.alloc (.cells #[] 5)).heap.size) := q0.size
    have HB0 := hid13 hb0
    clear K0 hb0 q0
    go_wp2_with (at_builtin; apply stopHere9)
    refine (show wpList _ _ _ _ _ _ from ?_)
    refine wpList_append_rowA rfl _ _ 22 rfl W0.heap.size 5 i0 (.int .u8 0) 1 1 Try.underlying22 ji jz0 jz1 jz2 rfl (by decide) _ 0 [] rfl HO0.out _ l.length (l.map cB) rfl (HA.out.1.below HV0.out.2) (cB_one l) (by have := HL.out; unfold maxLen; omega) (by have := HL.out; omega) HSz.out ?_
    intro mo mc W1 hO1 hg1
    rw [Nat.zero_add, List.nil_append] at hO1
    rw [Nat.zero_add]
    have hb1 : Below W0.heap.size W0 W1 := (bl1 W0 (.cells #[] 5)).grown hg1 HSz.out (fun z hz => (HO0.out.lt z hz).1)
    have HB1 : Hid (Below w.heap.size w W1 ∧ W1.heap[w.heap.size]? = some (.cells #[.int .u64 (hI x), .int .u64 (lI x)] 25)) := ⟨H0.out.trans (hb1.mono H0.out.size), (hb1.block _ (Nat.lt_of_lt_of_le (lt_16 HW.out) HB0.out.size)).trans ((HB0.out.block _ (lt_16 HW.out)).trans HW.out)⟩
    have HM1 : Hid (RwX cB W1 (.slice mo l.length mc) l) := own_rwx hO1
    have a0 := at_16 HB1.out.2 0 _ rfl
    have a1 := at_16 HB1.out.2 1 _ rfl
    have K1 := HRun.out (.slice mo l.length mc) W1 HM1.out
    clear hO1 hg1 hb1 HV0 HO0 HSz H0 HB0 HQ HW HRun
    go_wp2_with fail
    refine K1.mono ?_
    rintro e W2 ⟨rfl, hb2⟩
    have q3 := bl1 W2 (.cells #[.int .i64 m.hop, .int .i64 m.err, .int .i64 m.st, .int .i64 m.ex, .int .i64 m.ix, .int .i64 m.bt] 29)
    have HC : Hid (Below w.heap.size w (W2.alloc (.cells #[.int .i64 m.hop, .int .i64 m.err, .int .i64 m.st, .int .i64 m.ex, .int .i64 m.ix, .int .i64 m.bt] 29)) ∧ (W2.alloc (.cells #[.int .i64 m.hop, .int .i64 m.err, .int .i64 m.st, .int .i64 m.ex, .int .i64 m.ix, .int .i64 m.bt] 29)).heap[w.heap.size]? = some (.cells #[.int .u64 (hI x), .int .u64 (lI x)] 25) ∧ RwX cB (W2.alloc (.cells #[.int .i64 m.hop, .int .i64 m.err, .int .i64 m.st, .int .i64 m.ex, .int .i64 m.ix, .int .i64 m.bt] 29)) (.slice mo l.length mc) l ∧ (W2.alloc (.cells #[.int .i64 m.hop, .int .i64 m.err, .int .i64 m.st, .int .i64 m.ex, .int .i64 m.ix, .int .i64 m.bt] 29)).heap[W2.heap.size]? = some (.cells #[.int .i64 m.hop, .int .i64 m.err, .int .i64 m.st, .int .i64 m.ex, .int .i64 m.ix, .int .i64 m.bt] 29)) :=
      ⟨(HB1.out.1.trans (hb2.mono HB1.out.1.size)).trans (q3.mono (Nat.le_trans HB1.out.1.size hb2.size)), (q3.block _ (Nat.lt_of_lt_of_le (lt_16 HB1.out.2) hb2.size)).trans ((hb2.block _ (lt_16 HB1.out.2)).trans HB1.out.2), (HM1.out.below hb2).below q3, new_16 _ _⟩
    have hqR := fun W => eqR_run m.hop m.err m.st m.ex m.ix m.bt m.hop m.err m.st m.ex m.ix m.bt W
    simp only [beq_self_eq_true, Bool.and_true, Bool.and_self] at hqR
    clear K1 hb2 q3 HB1 HM1 a0 a1
    go_wp2_with fail
    refine qw_region (C := (fun X => Below w.heap.size w X ∧ X.heap[w.heap.size]? = some (.cells #[.int .u64 (hI x), .int .u64 (lI x)] 25) ∧ RwX cB X (.slice mo l.length mc) l ∧ X.heap[W2.heap.size]? = some (.cells #[.int .i64 m.hop, .int .i64 m.err, .int .i64 m.st, .int .i64 m.ex, .int .i64 m.ix, .int .i64 m.bt] 29))) (by kernel_rfl) (by kernel_rfl) ⟨HC.out.1.drew, HC.out.2.1, HC.out.2.2.1.below (Below.refl _ _).drew, HC.out.2.2.2⟩ ?_
    refine qw_run (v := .slice mo l.length mc) (by rfl) ?_ ?_
    · (intro w9 hC; clear hC; go_simp; first | done | (simp; done) | (simp [*]; done) | omega | (simp; omega) | (rw [IntKind.wrap_i64]; omega) | (intro hx; omega) | rfl)
    simp only [Act.put, List.setIfInBounds_toArray, List.set_cons_zero, List.set_cons_succ]
    refine qw_run (v := .string (bsA l)) (by rfl) ?_ ?_
    · (intro w9 hC; have hcv := conv13 hC.2.2.1 HA.out.2.2; clear hC; go_simp; first | done | (simp; done) | (simp [*]; done) | omega | (simp; omega) | (rw [IntKind.wrap_i64]; omega) | (intro hx; omega) | rfl)
    simp only [Act.put, List.setIfInBounds_toArray, List.set_cons_zero, List.set_cons_succ]
    refine qw_run (v := .slice ao l.length cc) (by rfl) ?_ ?_
    · (intro w9 hC; clear hC; go_simp; first | done | (simp; done) | (simp [*]; done) | omega | (simp; omega) | (rw [IntKind.wrap_i64]; omega) | (intro hx; omega) | rfl)
    simp only [Act.put, List.setIfInBounds_toArray, List.set_cons_zero, List.set_cons_succ]
    refine qw_run (v := .string (bsA l)) (by rfl) ?_ ?_
    · (intro w9 hC; have hcv := conv13 (HA.out.2.1.below hC.1) HA.out.2.2; clear hC; go_simp; first | done | (simp; done) | (simp [*]; done) | omega | (simp; omega) | (rw [IntKind.wrap_i64]; omega) | (intro hx; omega) | rfl)
    simp only [Act.put, List.setIfInBounds_toArray, List.set_cons_zero, List.set_cons_succ]
    refine qw_run (v := .bool true) (by rfl) ?_ ?_
    · (intro w9 hC; clear hC; go_simp; first | done | (simp; done) | (simp [*]; done) | omega | (simp; omega) | (rw [IntKind.wrap_i64]; omega) | (intro hx; omega) | rfl)
    simp only [Act.put, List.setIfInBounds_toArray, List.set_cons_zero, List.set_cons_succ]
    refine qw_run (v := .bool true) (by rfl) ?_ ?_
    · (intro w9 hC; clear hC; go_simp; first | done | (simp; done) | (simp [*]; done) | omega | (simp; omega) | (rw [IntKind.wrap_i64]; omega) | (intro hx; omega) | rfl)
    simp only [Act.put, List.setIfInBounds_toArray, List.set_cons_zero, List.set_cons_succ]
    refine qw_run (v := .agg #[.int .i64 m.hop, .int .i64 m.err, .int .i64 m.st, .int .i64 m.ex, .int .i64 m.ix, .int .i64 m.bt]) (by rfl) ?_ ?_
    · (intro w9 hC; have z0 := at_16 hC.2.2.2 0 _ rfl; have z1 := at_16 hC.2.2.2 1 _ rfl; have z2 := at_16 hC.2.2.2 2 _ rfl; have z3 := at_16 hC.2.2.2 3 _ rfl; have z4 := at_16 hC.2.2.2 4 _ rfl; have z5 := at_16 hC.2.2.2 5 _ rfl; clear hC; go_simp; first | done | (simp; done) | (simp [*]; done) | omega | (simp; omega) | (rw [IntKind.wrap_i64]; omega) | (intro hx; omega) | rfl)
    simp only [Act.put, List.setIfInBounds_toArray, List.set_cons_zero, List.set_cons_succ]
    refine qw_run (v := .int .i64 F) (by rfl) ?_ ?_
    · (intro w9 hC; clear hC; go_simp; first | done | (simp; done) | (simp [*]; done) | omega | (simp; omega) | (rw [IntKind.wrap_i64]; omega) | (intro hx; omega) | rfl)
    simp only [Act.put, List.setIfInBounds_toArray, List.set_cons_zero, List.set_cons_succ]
    refine qw_run (v := .slice ao l.length cc) (by rfl) ?_ ?_
    · (intro w9 hC; clear hC; go_simp; first | done | (simp; done) | (simp [*]; done) | omega | (simp; omega) | (rw [IntKind.wrap_i64]; omega) | (intro hx; omega) | rfl)
    simp only [Act.put, List.setIfInBounds_toArray, List.set_cons_zero, List.set_cons_succ]
    refine qw_run (v := .agg #[.int .u64 (hI x), .int .u64 (lI x)]) (by rfl) ?_ ?_
    · (intro w9 hC; have z0 := at_16 hC.2.1 0 _ rfl; have z1 := at_16 hC.2.1 1 _ rfl; clear hC; go_simp; first | done | (simp; done) | (simp [*]; done) | omega | (simp; omega) | (rw [IntKind.wrap_i64]; omega) | (intro hx; omega) | rfl)
    simp only [Act.put, List.setIfInBounds_toArray, List.set_cons_zero, List.set_cons_succ]
    refine qw_run (v := .int .i64 n) (by rfl) ?_ ?_
    · (intro w9 hC; clear hC; go_simp; first | done | (simp; done) | (simp [*]; done) | omega | (simp; omega) | (rw [IntKind.wrap_i64]; omega) | (intro hx; omega) | rfl)
    simp only [Act.put, List.setIfInBounds_toArray, List.set_cons_zero, List.set_cons_succ]
    refine qw_call (v := .agg #[.int .i64 m.hop, .int .i64 m.err, .int .i64 m.st, .int .i64 m.ex, .int .i64 m.ix, .int .i64 m.bt]) (f := 11) (args := #[.int .i64 F, .slice ao l.length cc, .agg #[.int .u64 (hI x), .int .u64 (lI x)], .int .i64 n]) (by rfl) ?_ ?_ ?_
    · (intro w9 hC; clear hC; go_simp; first | done | (simp; done) | rfl)
    · exact fun w9 hC => (HRef.out w9 hC.1).mono fun e w' ⟨he, hb⟩ => ⟨he, ⟨hC.1.trans (hb.mono hC.1.size), (hb.block _ (lt_16 hC.2.1)).trans hC.2.1, hC.2.2.1.below hb, (hb.block _ (lt_16 hC.2.2.2)).trans hC.2.2.2⟩⟩
    simp only [Act.put, List.setIfInBounds_toArray, List.set_cons_zero, List.set_cons_succ]
    refine qw_run (v := .bool true) (by rfl) ?_ ?_
    · (intro w9 hC; have hq := hqR w9; clear hC; go_simp; first | done | (simp; done) | (simp [*]; done) | omega | (simp; omega) | (rw [IntKind.wrap_i64]; omega) | (intro hx; omega) | rfl)
    simp only [Act.put, List.setIfInBounds_toArray, List.set_cons_zero, List.set_cons_succ]
    refine qw_run (v := .bool true) (by rfl) ?_ ?_
    · (intro w9 hC; clear hC; go_simp; first | done | (simp; done) | (simp [*]; done) | omega | (simp; omega) | (rw [IntKind.wrap_i64]; omega) | (intro hx; omega) | rfl)
    simp only [Act.put, List.setIfInBounds_toArray, List.set_cons_zero, List.set_cons_succ]
    refine qw_run (v := .bool true) (by rfl) ?_ ?_
    · (intro w9 hC; clear hC; go_simp; first | done | (simp; done) | (simp [*]; done) | omega | (simp; omega) | (rw [IntKind.wrap_i64]; omega) | (intro hx; omega) | rfl)
    simp only [Act.put, List.setIfInBounds_toArray, List.set_cons_zero, List.set_cons_succ]
    refine qw_nil ?_
    intro X hX
    have HX : Hid (Below w.heap.size w X) := hX.1
    clear hX
    go_wp2
    go_ret
    exact ⟨rfl, HX.out⟩
  · have n1 : ((l.length : Int) > 32768) := by omega
    have n1' : (32768 < (l.length : Int)) := by omega
    clear hl HA
    go_enter Try.func3, Try.ntmps3
    go_wp2_with fail
    rw [← hV]
    clear hV
    refine K0.mono ?_
    rintro e W1 ⟨rfl, hb1⟩
    have HB1 : Hid (Below w.heap.size w W1) := HQ.out.trans (hb1.mono HQ.out.size)
    clear K0 hb1 HQ HW
    go_wp2
    go_ret
    exact ⟨rfl, HB1.out⟩
end Go.Proofs.Ytbgoclfifhdonaa
namespace Go.Proofs.Ytbgoclfifhdonaa
open Go.ChangeShapes Go.WideShapes Go.ChangeAt Go.RowKit Go.Joins
set_option linter.unusedSimpArgs false
set_option linter.unusedVariables false

theorem Try.laidOut : laidOutB Try.prog = true := by kernel_rfl
section
variable {H : Type} {enc : TypeId × Value → H} {w : World} {spare : Nat → Bool} {held : Bool}
theorem RwX.map13 {α β : Type} {f : α → Value} {g : β → Value} (h : α → β) {v : Value} {l : List α} (hr : RwX f w v l) (he : ∀ x ∈ l, f x = g (h x)) : RwX g w v (l.map h) := by
  obtain ⟨ao, c, e, hc, hr⟩ := hr
  refine ⟨ao, c, by rw [List.length_map]; exact e, by rw [List.length_map]; exact hc, ?_⟩
  rcases hr with hr | ⟨b, off, e, hr⟩
  · exact .inl (by rw [hr]; rfl)
  · refine .inr ⟨b, off, e, fun j x hj => ?_⟩
    rw [List.getElem?_map] at hj
    cases hx : l[j]? with
    | none => rw [hx] at hj; cases hj
    | some y =>
      rw [hx] at hj
      simp only [Option.map_some, Option.some.injEq] at hj
      rw [hr j y hx, he y (List.mem_of_getElem? hx), hj]
set_option maxRecDepth 100000 in
theorem open_ints13 {t e : TypeId} {k : IntKind} (ht : Try.prog.underlying t = some (.slice e)) (he : Try.prog.underlying e = some (.int k)) (hce : Try.prog.cellsOf e = 1) {r : Reach} {b0 : Nat} {v : Value} {d : DataW H} {p : List MemPlace} (hv : Value.okWide Try.prog w r b0 t v) (h : DataW.Trod enc Try.prog w 0 (fun _ => true) held t v d p) :
    ∃ l : List Int, RowA w 1 v l.length (l.map fun a => .int k a) ∧ RwX (fun a => Value.int k a) w v l ∧ (∀ a ∈ l, (Lit.int k a).wf = true) ∧ (l = [] ∨ ∃ el sp, d = .slice el sp ∧ el.length = l.length) := by
  obtain ⟨a0, len, cap, rfl⟩ := okWide_slice ht hv
  obtain ⟨fuel, hf⟩ := h
  rcases Deep.open_slice ht hf with ⟨hcs, hx⟩ | ⟨a, len', cap', m, n, D, Pl, hcs, _, hl, hm, hmm, hx, hel⟩
  · simp [Value.cells] at hcs
    obtain ⟨rfl, rfl, rfl⟩ := hcs
    exact ⟨[], ⟨rfl, none, 0, rfl, Nat.le_refl _, .inl ⟨rfl, rfl, rfl⟩⟩, ⟨none, 0, rfl, Nat.le_refl _, .inl rfl⟩, (fun _ h => by cases h), .inl rfl⟩
  · simp [Value.cells] at hcs
    obtain ⟨rfl, rfl, rfl⟩ := hcs
    simp at hmm
    subst hmm
    rw [hce] at hel
    obtain ⟨f, hf⟩ := Deep.choose_lt (α := Int) (n := len) (p := fun i x => w.cell? (a.add i) = some (.int k x) ∧ (Lit.int k x).wf = true) (fun i hi => by
      obtain ⟨cs', h1, h2⟩ := hel i (by omega)
      obtain ⟨_, hlen, hc⟩ := World.cells?_some h1
      match cs', hlen with
      | [c0], _ =>
        obtain ⟨x, ex, -, wx⟩ := DataW.trod_int he h2
        simp at ex
        subst ex
        refine ⟨x, ?_, wx⟩
        have := hc 0 (by omega)
        simpa [Addr.add] using this)
    have hlen : ((List.range len).map f).length = len := by simp
    have hcells : ∀ j x, ((List.range len).map f)[j]? = some x → w.cell? (a.add j) = some (.int k x) := by
      intro j x hj
      have hlt : j < len := by have := (List.getElem?_eq_some_iff.1 hj).1; simpa using this
      rw [List.getElem?_map, List.getElem?_range hlt] at hj
      simp only [Option.map_some, Option.some.injEq] at hj
      rw [← hj]; exact (hf j hlt).1
    refine ⟨(List.range len).map f, ⟨by simp, some a, m, by rw [hlen], by rw [hlen]; exact hl, .inr ⟨a, rfl, fun j u hj => ?_⟩⟩, ⟨some a, m, by rw [hlen], by rw [hlen]; exact hl, ?_⟩, ?_, ?_⟩
    · rw [List.getElem?_map] at hj
      cases hx : ((List.range len).map f)[j]? with
      | none => rw [hx] at hj; cases hj
      | some y =>
        rw [hx] at hj
        simp only [Option.map_some, Option.some.injEq] at hj
        rw [← hj]; exact hcells j y hx
    · by_cases hz : len = 0
      · subst hz
        exact .inl (by simp)
      · have h00 := (hf 0 (by omega)).1
        have ea : a = ⟨a.block, a.off, none⟩ := by
          have : a.add 0 = a := by simp [Addr.add]
          rw [this] at h00
          exact spot9 h00
        refine .inr ⟨a.block, a.off, by rw [← ea], fun j u hj => ?_⟩
        have := hcells j u hj
        rw [ea, addA] at this
        exact this
    · intro x hx
      simp only [List.mem_map, List.mem_range] at hx
      obtain ⟨i, hi, rfl⟩ := hx
      exact (hf i hi).2
    · simp only [Prod.mk.injEq] at hx
      exact .inr ⟨_, _, hx.1, by simp⟩
end
end Go.Proofs.Ytbgoclfifhdonaa
namespace Go.Proofs.Ytbgoclfifhdonaa
open Go.ChangeShapes Go.WideShapes Go.ChangeAt Go.RowKit Go.Joins
set_option linter.unusedSimpArgs false
set_option linter.unusedVariables false

section
variable {H : Type} {enc : TypeId × Value → H} {w : World} {spare : Nat → Bool} {held : Bool}
theorem i64_bd14 {a : Int} (h : (Lit.int .i64 a).wf = true) : -9223372036854775808 ≤ a ∧ a ≤ 9223372036854775807 := by
  simp [Lit.wf, IntKind.min, IntKind.max, IntKind.signed, IntKind.bits] at h; omega
end
end Go.Proofs.Ytbgoclfifhdonaa
namespace Go.Proofs.Ytbgoclfifhdonaa
open Go.ChangeShapes Go.WideShapes Go.ChangeAt Go.RowKit Go.Joins
set_option linter.unusedSimpArgs false
set_option linter.unusedVariables false

section
variable {P : Program} {H : Type} {enc : TypeId × Value → H} {w : World} {base : Nat} {spare : Nat → Bool} {held : Bool}
end
end Go.Proofs.Ytbgoclfifhdonaa
namespace Go.Proofs.Ytbgoclfifhdonaa
open Go.RowKit
theorem Try.cellsW : Try.prog.cellsOf 25 = 2 := by kernel_rfl
theorem u64_bd19 {a : Int} (h : (Lit.int .u64 a).wf = true) : 0 ≤ a ∧ a < 18446744073709551616 := by
  simp [Lit.wf, IntKind.min, IntKind.max, IntKind.signed, IntKind.bits] at h; omega
end Go.Proofs.Ytbgoclfifhdonaa
