/-
  Part 16 of the proof: 9 texts, one behind the other.
-/
import Derived.Test.YtdpmhpmnkollaaaPart12
import Derived.Test.YtdpmhpmnkollaaaPart15
import Derived.Test.YtdpmhpmnkollaaaPart5
import Derived.Test.YtdpmhpmnkollaaaPart1
import Derived.Deep.RegionHeld3
import Derived.BigQuiet
import Derived.WalkMore
import Derived.Deep.LoopGhost
namespace Go.Proofs.Ytdpmhpmnkollaaa
open Go.RowKit
set_option linter.unusedSimpArgs false
set_option linter.unusedVariables false
attribute [local go_sem] Oper.semAt_some

set_option maxRecDepth 20000 in
set_option maxHeartbeats 4000000 in
theorem alone18 (O N : Int) (v : Value) (vo : Option Addr) (n c : Nat) (w : World) (hn : n ≤ 4194304) :
    Calls Try.prog 48 #[.agg #[.int .i64 O, .int .i64 N, v], .int .i64 1, .slice vo n c] w fun e w' => e = .returned (.tuple #[.agg #[.slice none 0 0, .int .i64 0, .int .i64 (if 4 < n then 0 else N)], .int .i64 (if 4 < n then 1 else 0), .int .i64 (if 4 < n then 31 else 0)]) ∧ Below w.heap.size w w' := by
  by_cases h : 4 < n
  · have h' : (4 : Int) < (n : Int) := by omega
    simp only [h, if_true]
    have HQ := hid13 (bl2 w (.cells #[.int .i64 O, .int .i64 N, v] 67) (.cells #[.slice none 0 0, .int .i64 0, .int .i64 0] 81))
    clear h hn
    go_enter Try.func48, Try.ntmps48
    go_wp2
    exact bodyPost_ret (v := .tuple #[.agg #[.slice none 0 0, .int .i64 0, .int .i64 0], .int .i64 1, .int .i64 31]) (by simp [results, Try.results48, go_sem]) rfl ⟨rfl, HQ.out⟩
  · have h' : ¬ (4 : Int) < (n : Int) := by omega
    simp only [h, if_false]
    have HQ := hid13 (bl2 w (.cells #[.int .i64 O, .int .i64 N, v] 67) (.cells #[.slice none 0 0, .int .i64 0, .int .i64 N] 81))
    clear h hn
    go_enter Try.func48, Try.ntmps48
    go_wp2
    exact bodyPost_ret (v := .tuple #[.agg #[.slice none 0 0, .int .i64 0, .int .i64 N], .int .i64 0, .int .i64 0]) (by simp [results, Try.results48, go_sem]) rfl ⟨rfl, HQ.out⟩
def RbQ (w : World) (F : Int) (l : List Nat) (e : Ending) (W' : World) : Prop :=
  ∃ vb, e = .returned (.tuple #[.agg #[vb, .int .i64 (vfB F l).1, .int .i64 0], .int .i64 (vfB F l).2.1, .int .i64 (vfB F l).2.2]) ∧ Below w.heap.size w W' ∧ ((vfB F l).2.2 ≠ 0 → vb = .slice none 0 0) ∧ ((vfB F l).2.2 = 0 → ∃ L, BsV W' w.heap.size vb L (vfP l) ∧ 0 < (vfP l).length)
theorem RbQ.no {w W' : World} {F : Int} {l : List Nat} {a e : Int} (h : vfB F l = (0, a, e)) (h0 : e ≠ 0) (hb : Below w.heap.size w W') : RbQ w F l (.returned (.tuple #[.agg #[.slice none 0 0, .int .i64 0, .int .i64 0], .int .i64 a, .int .i64 e])) W' := by
  unfold RbQ
  rw [h]
  exact ⟨_, rfl, hb, fun _ => rfl, fun q => absurd q h0⟩
theorem own_weak18 {W : World} {b1 b2 e size n : Nat} {v : Value} {xs : List Value} (h : W.ownsRow b1 e size v n xs) (hb : b2 ≤ b1) : W.ownsRow b2 e size v n xs := by
  refine ⟨h.1, ?_⟩
  rcases h.2 with hn | ⟨g, cap, cur, e0, h1, rest⟩
  · exact .inl hn
  · exact .inr ⟨g, cap, cur, e0, Nat.le_trans hb h1, rest⟩
theorem BsV.weak {W : World} {b1 b2 : Nat} {vb : Value} {L : List Bv} {P : List PB} (h : BsV W b1 vb L P) (hb : b2 ≤ b1) : BsV W b2 vb L P :=
  ⟨own_weak18 h.o hb, h.l, fun k x p q1 q2 => by have := h.m k x p q1 q2; exact ⟨this.1, this.2.1, own_weak18 this.2.2.1 hb, own_weak18 this.2.2.2 hb⟩, h.d⟩
theorem pw_len18 : ∀ (q : List Int) (lo hi : Int), q.Pairwise (· < ·) → (∀ x ∈ q, lo ≤ x ∧ x < hi) → lo ≤ hi → (q.length : Int) ≤ hi - lo
  | [], lo, hi, _, _, h => by simp; omega
  | x :: t, lo, hi, hp, hb, h => by
    rw [List.pairwise_cons] at hp
    have hx := hb x (by simp)
    have := pw_len18 t (x + 1) hi hp.2 (fun y hy => by have := hp.1 y hy; have := hb y (by simp [hy]); omega) (by omega)
    simp
    omega
theorem PbF.len {l : List Nat} {P : List PB} (h : PbF l P) : (P.length : Int) ≤ wds l := by
  have := pw_len18 (P.map PB.a) 0 (wds l) h.s (fun x hx => by obtain ⟨b, hb, rfl⟩ := List.mem_map.mp hx; have := h.b b hb; omega) (by unfold wds; omega)
  rw [List.length_map] at this
  omega
theorem st3_18 {W : World} {z : Nat} {x y u a b c : Value} {T : TypeId} (h : W.heap[z]? = some (.cells #[x, y, u] T)) : (((W.setCell ⟨z, 0, none⟩ a).setCell ⟨z, 1, none⟩ b).setCell ⟨z, 2, none⟩ c).heap[z]? = some (.cells #[a, b, c] T) := by
  rw [set_16 (set_16 (set_16 h _) _)]
  rfl
theorem st3b_18 {w W : World} {z n : Nat} {a b c : Value} (h : Below n w W) (hz : n ≤ z) : Below n w (((W.setCell ⟨z, 0, none⟩ a).setCell ⟨z, 1, none⟩ b).setCell ⟨z, 2, none⟩ c) :=
  ((h.setCell (p := ⟨z, 0, none⟩) hz _).setCell (p := ⟨z, 1, none⟩) hz _).setCell (p := ⟨z, 2, none⟩) hz _
theorem BsV.st3 {W : World} {base z : Nat} {vb : Value} {L : List Bv} {P : List PB} {x y u a b c : Value} (h : BsV W base vb L P) (hz : W.heap[z]? = some (.cells #[x, y, u] 81)) : BsV (((W.setCell ⟨z, 0, none⟩ a).setCell ⟨z, 1, none⟩ b).setCell ⟨z, 2, none⟩ c) base vb L P :=
  ((h.far hz (by decide) (by decide) (by decide) _).far (set_16 hz _) (by decide) (by decide) (by decide) _).far (set_16 (set_16 hz _) _) (by decide) (by decide) (by decide) _
set_option maxRecDepth 20000 in
set_option maxHeartbeats 16000000 in
theorem blocks18 (w : World) (F : Int) (co : Option Addr) (cc : Nat) (lb : List Nat) (hF : F = 32 ∨ F = 128) (hcode : RwX cB w (.slice co lb.length cc) lb) (hlb : lb.length ≤ 4194304) (hxb : ∀ b ∈ lb, b < 256) (hw1 : 0 < lb.length / 4) :
    Calls Try.prog 49 #[.int .i64 F, .slice co lb.length cc] w (RbQ w F lb) := by
  obtain ⟨wA, hwA⟩ : ∃ wA, wA = w.alloc (.cells #[.slice none 0 0, .int .i64 0, .int .i64 0] 81) := ⟨_, rfl⟩
  have qA := bl1 w (.cells #[.slice none 0 0, .int .i64 0, .int .i64 0] 81)
  rw [← hwA] at qA
  have sA : wA.heap.size = w.heap.size + 1 := by rw [hwA, World.size_alloc]
  have gA : wA.heap[w.heap.size]? = some (.cells #[.slice none 0 0, .int .i64 0, .int .i64 0] 81) := by rw [hwA]; exact new_16 _ _
  obtain ⟨wB, hwB⟩ : ∃ wB, wB = wA.alloc (.cells #[.slice co lb.length cc, .int .i64 0, .slice none 0 0, .int .i64 0] 127) := ⟨_, rfl⟩
  have qB := bl1 wA (.cells #[.slice co lb.length cc, .int .i64 0, .slice none 0 0, .int .i64 0] 127)
  rw [← hwB] at qB
  have gB : wB.heap[w.heap.size + 1]? = some (.cells #[.slice co lb.length cc, .int .i64 0, .slice none 0 0, .int .i64 0] 127) := by rw [hwB, ← sA]; exact new_16 _ _
  have KT := through_any18 wA wB (w.heap.size + 1) (w.heap.size + 1) co cc lb sA (by rw [← sA]; exact qB) (hcode.below qA) hlb hxb hw1 ⟨gB, ⟨World.ownsRow_nil _ _ _ _, rfl, fun k x p h => (by simp at h), fun j k x y z h => (by simp at h)⟩, Nat.le_refl _⟩
  obtain ⟨R, hR⟩ : ∃ R, R = bsG lb (lb.length / 4) 0 [] := ⟨_, rfl⟩
  rw [← hR] at KT
  have HR := hid13 hR
  have HVf : Hid (vfB F lb = if R.2.2 ≠ 0 then (0, R.2) else if (lkR (R.1.map PB.a) R.1).2 ≠ 0 then (0, lkR (R.1.map PB.a) R.1) else if (usR (vfP lb)).2 ≠ 0 then (0, usR (vfP lb)) else msR F (vfP lb)) := hid13 (by rw [hR]; rfl)
  have HVp : Hid (vfP lb = R.1.map (lkB (R.1.map PB.a))) := hid13 (by rw [hR]; rfl)
  have HOk : Hid (R.2.2 = 0 → PbF lb R.1 ∧ 0 < R.1.length) := hid13 (fun q => by
    rw [hR] at q ⊢
    exact bsG_ok lb (lb.length / 4) 0 [] (by omega) (by unfold wds; omega) (by unfold wds; omega) ⟨by simp, fun b hb => (by simp at hb)⟩ (fun b hb => (by simp at hb)) q)
  have HA : Hid (Below w.heap.size w wA ∧ Below (w.heap.size + 1) wA wB ∧ wA.heap[w.heap.size]? = some (.cells #[.slice none 0 0, .int .i64 0, .int .i64 0] 81)) := ⟨qA, by rw [← sA]; exact qB, gA⟩
  have HW : Hid (wds lb ≤ 4194304) := by show _ ≤ _; unfold wds; omega
  have HFF : Hid (0 ≤ F ∧ F ≤ 1000) := by show _ ∧ _; omega
  clear hcode hlb hxb hw1 qA sA gA qB gB hR hF
  go_enter Try.func49, Try.ntmps49
  go_wp2_with fail
  rw [← hwA, ← hwB]
  clear hwA hwB
  refine KT.mono ?_
  rintro e W1 ⟨rfl, ⟨a, l, P, ⟨vb, L, hrd⟩, hP, ha⟩, hb1, hk1⟩
  have HB1 := hid13 (HA.out.2.1.trans hb1)
  have HP0 : Hid (W1.heap[w.heap.size]? = some (.cells #[.slice none 0 0, .int .i64 0, .int .i64 0] 81)) := hid13 ((HB1.out.block _ (by omega)).trans HA.out.2.2)
  have HRd := hid13 hrd
  clear KT hb1 hk1 hrd
  have p0 := at_16 HP0.out 0 _ rfl
  have p1 := at_16 HP0.out 1 _ rfl
  have p2 := at_16 HP0.out 2 _ rfl
  have f0 := fr_16 (j := 0) HP0.out
  have f1 := fr_16 (j := 1) HP0.out
  have f2 := fr_16 (j := 2) HP0.out
  obtain ⟨er, her⟩ : ∃ er, er = R.2.2 := ⟨_, rfl⟩
  rw [← her]
  have HBw : Hid (∀ X, Below (w.heap.size + 1) wA X → Below w.heap.size w X ∧ X.heap[w.heap.size]? = some (.cells #[.slice none 0 0, .int .i64 0, .int .i64 0] 81)) := hid13 (fun X hX => ⟨HA.out.1.trans (hX.mono (by omega)), (hX.block _ (by omega)).trans HA.out.2.2⟩)
  by_cases h1 : er = 0
  · obtain ⟨ao, vc, hvb⟩ := own_form HRd.out.b.o
    subst hvb
    obtain ⟨ln, hln⟩ : ∃ ln, ln = L.length := ⟨_, rfl⟩
    rw [← hln] at HRd
    clear hln
    have hR0 : R.2.2 = 0 := by rw [← her]; exact h1
    have hPR := hP hR0
    obtain ⟨ok1, ok2⟩ := HOk.out hR0
    have c2 := HRd.out.c2
    have hbq : w.heap.size + 1 ≤ W1.heap.size := Nat.le_of_lt (Nat.lt_of_le_of_lt HRd.out.bG (lt_16 HRd.out.g))
    obtain ⟨W2, hW2⟩ : ∃ W2, W2 = W1.alloc (.cells #[.slice ao ln vc, .int .i64 0, .int .i64 0] 81) := ⟨_, rfl⟩
    have q2 := bl1 W1 (.cells #[.slice ao ln vc, .int .i64 0, .int .i64 0] 81)
    rw [← hW2] at q2
    have hpg : PgV W2 W2 (w.heap.size + 1) W1.heap.size (.slice ao ln vc) 0 0 L R.1 := ⟨by rw [hW2]; exact new_16 _ _, by rw [← hPR]; exact HRd.out.b.below q2, hbq, Below.refl _ _⟩
    have hB2 : Below (w.heap.size + 1) wA W2 := HB1.out.trans (q2.mono hbq)
    have hlen := ok1.len
    have KL := link18 W2 (w.heap.size + 1) W1.heap.size (.slice ao ln vc) L R.1 hpg (R.1.map PB.a) rfl ok1.s ok2 (by have := HW.out; omega) (fun b hb => by have := ok1.b b hb; have := HW.out; omega)
    have HR2 : Hid (R.2.2 = 0 ∧ PbF lb R.1 ∧ 0 < R.1.length ∧ (R.1.length : Int) ≤ wds lb) := ⟨hR0, ok1, ok2, hlen⟩
    have HB2 := hid13 hB2
    subst h1
    clear her hP ha hpg hlen ok1 ok2 q2 hB2 hR0 hPR HRd HP0 p0 p1 p2 f0 f1 f2 HB1 hbq
    go_wp2_with fail
    rw [← hW2]
    clear c2
    refine KL.mono ?_
    rintro e W3 ⟨rfl, hl1, hl2⟩
    have HB3 := hid13 (HB2.out.trans hl2)
    clear KL
    obtain ⟨la, hla⟩ : ∃ y, y = (lkR (R.1.map PB.a) R.1).1 := ⟨_, rfl⟩
    obtain ⟨le, hle⟩ : ∃ y, y = (lkR (R.1.map PB.a) R.1).2 := ⟨_, rfl⟩
    rw [← hla, ← hle]
    by_cases h2 : le = 0
    · subst h2
      have hlk := lk_ok HR2.out.2.1 hle.symm
      have HPg := hid13 (hl1 hle.symm)
      rw [← HVp.out] at hlk HPg
      have hpl : (vfP lb).length = R.1.length := by rw [HVp.out, List.length_map]
      have KU := used18 W2 W3 (w.heap.size + 1) W1.heap.size (.slice ao ln vc) L (vfP lb) HPg.out (by rw [hpl]; exact HR2.out.2.2.1) (by have := HR2.out.2.2.2; have := HW.out; omega) (fun b hb => by have h9 := hlk b hb; have := HW.out; exact ⟨by omega, h9.2.2⟩)
      have HLk : Hid (∀ b ∈ vfP lb, (0 ≤ b.t ∧ b.t ≤ 1000) ∧ b.es.length ≤ 100000000 ∧ ∀ e ∈ b.es, e.1 = true → 0 ≤ e.2 ∧ e.2 < (vfP lb).length) := hid13 (fun b hb => by have h9 := hlk b hb; have := HW.out; exact ⟨by omega, by omega, h9.2.2⟩)
      have HPl := hid13 hpl
      have HLe : Hid ((lkR (R.1.map PB.a) R.1).2 = 0) := hid13 hle.symm
      clear hl1 hl2 hlk hpl hla hle HPg
      go_wp2_with fail
      refine KU.mono ?_
      rintro e W4 ⟨rfl, hu⟩
      have HB4 := hid13 (HB2.out.trans hu.lo)
      have HPg := hid13 hu
      clear KU hu
      obtain ⟨ua, hua⟩ : ∃ y, y = (usR (vfP lb)).1 := ⟨_, rfl⟩
      obtain ⟨ue, hue⟩ : ∃ y, y = (usR (vfP lb)).2 := ⟨_, rfl⟩
      rw [← hua, ← hue]
      by_cases h3 : ue = 0
      · subst h3
        have KM := measure18 W2 W4 (w.heap.size + 1) W1.heap.size (.slice ao ln vc) L (vfP lb) F HPg.out HFF.out (by rw [HPl.out]; exact HR2.out.2.2.1) (by have := HR2.out.2.2.2; have := HW.out; have := HPl.out; omega) HLk.out
        have HUe : Hid ((usR (vfP lb)).2 = 0) := hid13 hue.symm
        clear hua hue
        go_wp2_with fail
        refine KM.mono ?_
        rintro e W5 ⟨rfl, hm1, hm2⟩
        have HB5 := hid13 (HB2.out.trans hm2)
        have HM1 := hid13 hm1
        clear KM hm2 hm1
        obtain ⟨hBw, hP0⟩ := HBw.out W5 HB5.out
        have HBW := hid13 hBw
        have HP0 := hid13 hP0
        have p0 := at_16 hP0 0 _ rfl
        have p1 := at_16 hP0 1 _ rfl
        have p2 := at_16 hP0 2 _ rfl
        have f0 := fr_16 (j := 0) hP0
        have f1 := fr_16 (j := 1) hP0
        have f2 := fr_16 (j := 2) hP0
        have HVe : Hid (vfB F lb = msR F (vfP lb)) := hid13 (by rw [HVf.out, if_neg (by simp [HR2.out.1]), if_neg (by simp [HLe.out]), if_neg (by simp [HUe.out])])
        obtain ⟨ma, hma⟩ : ∃ y, y = (msR F (vfP lb)).2.1 := ⟨_, rfl⟩
        obtain ⟨me, hme⟩ : ∃ y, y = (msR F (vfP lb)).2.2 := ⟨_, rfl⟩
        rw [← hma, ← hme]
        by_cases h4 : me = 0
        · subst h4
          have hpg := HM1.out hme.symm
          have HPg5 := hid13 hpg
          obtain ⟨md, hmd⟩ : ∃ y, y = (msR F (vfP lb)).1 := ⟨_, rfl⟩
          rw [← hmd] at hpg HPg5
          have s0 := hpg.c0
          have s1 := hpg.c1.1
          have s2 := at_16 hpg.g 2 _ rfl
          have hQn : ¬ W1.heap.size = w.heap.size := by have := hpg.bQ; omega
          have hm0 : (msR F (vfP lb)).2.1 = 0 := msG_word F _ _ _ _ hme.symm
          have HV : Hid (vfB F lb = (md, 0, 0)) := hid13 (by rw [HVe.out]; exact Prod.ext hmd.symm (Prod.ext hm0 hme.symm))
          clear hBw hP0 hma hme hpg hmd hm0 HPg
          go_wp2
          have h9 := st3_18 (a := .slice ao ln vc) (b := .int .i64 md) (c := .int .i64 0) HP0.out
          have n0 := at_16 h9 0 _ rfl
          have n1 := at_16 h9 1 _ rfl
          have n2 := at_16 h9 2 _ rfl
          refine bodyPost_ret (v := .tuple #[.agg #[.slice ao ln vc, .int .i64 md, .int .i64 0], .int .i64 0, .int .i64 0]) (by simp [results, Try.results49, go_sem, p0, p1, p2]) rfl ?_
          refine ⟨.slice ao ln vc, by rw [HV.out], st3b_18 HBW.out (Nat.le_refl _), fun q => absurd (by rw [HV.out]) q, fun _ => ⟨L, (HPg5.out.b.st3 HP0.out).weak (Nat.le_succ _), by rw [HPl.out]; exact HR2.out.2.2.1⟩⟩
        · have HE : Hid (vfB F lb = (0, ma, me)) := hid13 (by rw [HVe.out, hma, hme]; exact Prod.ext (msG_err F _ _ _ _ (by rw [hme] at h4; exact h4)) rfl)
          clear hBw hP0 hma hme HPg
          go_wp2
          exact bodyPost_ret (v := .tuple #[.agg #[.slice none 0 0, .int .i64 0, .int .i64 0], .int .i64 ma, .int .i64 me]) (by simp [results, Try.results49, go_sem, p0, p1, p2]) rfl (RbQ.no HE.out h4 (st3b_18 HBW.out (Nat.le_refl _)))
      · have HE : Hid (vfB F lb = (0, ua, ue)) := hid13 (by rw [HVf.out, if_neg (by simp [HR2.out.1]), if_neg (by simp [HLe.out]), if_pos (by rw [← hue]; exact h3), hua, hue])
        obtain ⟨hBw, hP0⟩ := HBw.out W4 HB4.out
        have HBW := hid13 hBw
        have p0 := at_16 hP0 0 _ rfl
        have p1 := at_16 hP0 1 _ rfl
        have p2 := at_16 hP0 2 _ rfl
        have f0 := fr_16 (j := 0) hP0
        have f1 := fr_16 (j := 1) hP0
        have f2 := fr_16 (j := 2) hP0
        clear hua hue hBw hP0
        go_wp2
        exact bodyPost_ret (v := .tuple #[.agg #[.slice none 0 0, .int .i64 0, .int .i64 0], .int .i64 ua, .int .i64 ue]) (by simp [results, Try.results49, go_sem, p0, p1, p2]) rfl (RbQ.no HE.out h3 (st3b_18 HBW.out (Nat.le_refl _)))
    · have HE : Hid (vfB F lb = (0, la, le)) := hid13 (by rw [HVf.out, if_neg (by simp [HR2.out.1]), if_pos (by rw [← hle]; exact h2), hla, hle])
      obtain ⟨hBw, hP0⟩ := HBw.out W3 HB3.out
      have HBW := hid13 hBw
      have p0 := at_16 hP0 0 _ rfl
      have p1 := at_16 hP0 1 _ rfl
      have p2 := at_16 hP0 2 _ rfl
      have f0 := fr_16 (j := 0) hP0
      have f1 := fr_16 (j := 1) hP0
      have f2 := fr_16 (j := 2) hP0
      clear hla hle hBw hP0 hl1 hl2
      go_wp2
      exact bodyPost_ret (v := .tuple #[.agg #[.slice none 0 0, .int .i64 0, .int .i64 0], .int .i64 la, .int .i64 le]) (by simp [results, Try.results49, go_sem, p0, p1, p2]) rfl (RbQ.no HE.out h2 (st3b_18 HBW.out (Nat.le_refl _)))
  · have HE : Hid (vfB F lb = (0, a, er)) := hid13 (by rw [HVf.out, if_pos (by rw [← her]; exact h1), ha (by rw [← her]; exact h1), her])
    have c1 := HRd.out.c1
    have HBW := hid13 (HBw.out W1 HB1.out).1
    clear her hP ha
    go_wp2_with fail
    go_region
    go_wp2
    exact bodyPost_ret (v := .tuple #[.agg #[.slice none 0 0, .int .i64 0, .int .i64 0], .int .i64 a, .int .i64 er]) (by simp [results, Try.results49, go_sem, p0, p1, p2]) rfl (RbQ.no HE.out h1 (by first | exact st3b_18 HBW.out (Nat.le_refl _) | exact (st3b_18 HBW.out (Nat.le_refl _)).drew | exact st3b_18 HBW.out.drew (Nat.le_refl _)))
end Go.Proofs.Ytdpmhpmnkollaaa
namespace Go.Proofs.Ytdpmhpmnkollaaa
open Go.RowKit
set_option linter.unusedSimpArgs false
set_option linter.unusedVariables false
attribute [local go_sem] Oper.semAt_some

noncomputable def vfN (F : Int) (l : List Nat) : Int := if dcE l 0 = 0 ∧ (dcI l 0).op = 4 ∧ (vfR F l).2.2 = 0 then (dcI l 0).n else 0
def ReQ (w : World) (F : Int) (l : List Nat) (e : Ending) (W' : World) : Prop :=
  ∃ vb, e = .returned (.tuple #[.agg #[vb, .int .i64 (vfR F l).1, .int .i64 (vfN F l)], .int .i64 (vfR F l).2.1, .int .i64 (vfR F l).2.2]) ∧ Below w.heap.size w W' ∧ ((vfR F l).2.2 ≠ 0 ∨ (dcE l 0 = 0 ∧ (dcI l 0).op = 4) → vb = .slice none 0 0) ∧ ((vfR F l).2.2 = 0 → ¬ (dcE l 0 = 0 ∧ (dcI l 0).op = 4) → ∃ L, BsV W' w.heap.size vb L (vfP l) ∧ 0 < (vfP l).length)
theorem ReQ.no {w W' : World} {F : Int} {l : List Nat} {a e : Int} (h : vfR F l = (0, a, e)) (h0 : e ≠ 0) (hb : Below w.heap.size w W') : ReQ w F l (.returned (.tuple #[.agg #[.slice none 0 0, .int .i64 0, .int .i64 0], .int .i64 a, .int .i64 e])) W' := by
  have hn : vfN F l = 0 := by unfold vfN; rw [if_neg (fun q => h0 (by rw [h] at q; exact q.2.2))]
  refine ⟨.slice none 0 0, by rw [h, hn], hb, fun _ => rfl, fun q => absurd (by rw [h] at q; exact q) h0⟩
set_option maxRecDepth 20000 in
set_option maxHeartbeats 16000000 in
theorem read18 (w : World) (F : Int) (co : Option Addr) (cc : Nat) (lb : List Nat) (hcode : RwX cB w (.slice co lb.length cc) lb) (hlb : lb.length ≤ 4194304) (hxb : ∀ b ∈ lb, b < 256) :
    Calls Try.prog 31 #[.int .i64 F, .slice co lb.length cc] w (ReQ w F lb) := by
  obtain ⟨wA, hwA⟩ : ∃ wA, wA = w.alloc (.cells #[.slice none 0 0, .int .i64 0, .int .i64 0] 81) := ⟨_, rfl⟩
  have qA := bl1 w (.cells #[.slice none 0 0, .int .i64 0, .int .i64 0] 81)
  rw [← hwA] at qA
  have sA : wA.heap.size = w.heap.size + 1 := by rw [hwA, World.size_alloc]
  have gA : wA.heap[w.heap.size]? = some (.cells #[.slice none 0 0, .int .i64 0, .int .i64 0] 81) := by rw [hwA]; exact new_16 _ _
  have HA : Hid (Below w.heap.size w wA ∧ wA.heap.size = w.heap.size + 1) := ⟨qA, sA⟩
  have HBw : Hid (∀ X, Below wA.heap.size wA X → Below w.heap.size w X ∧ X.heap[w.heap.size]? = some (.cells #[.slice none 0 0, .int .i64 0, .int .i64 0] 81)) := hid13 (fun X hX => ⟨qA.trans (hX.mono (by omega)), (hX.block _ (by omega)).trans gA⟩)
  have HC : Hid (RwX cB wA (.slice co lb.length cc) lb ∧ lb.length ≤ 4194304 ∧ ∀ b ∈ lb, b < 256) := ⟨hcode.below qA, hlb, hxb⟩
  by_cases hF : F ≠ 32 ∧ F ≠ 128
  · have HE : Hid (vfR F lb = (0, 0, 11)) := hid13 (by unfold vfR; rw [if_pos hF])
    have h1 : (F != 32) = true := by simpa using hF.1
    have h2 : (F != 128) = true := by simpa using hF.2
    have HQ := hid13 qA
    clear hF
    clear hcode hlb hxb qA sA gA HA HBw HC
    go_enter Try.func31, Try.ntmps31
    go_wp2
    rw [← hwA]
    exact bodyPost_ret (v := .tuple #[.agg #[.slice none 0 0, .int .i64 0, .int .i64 0], .int .i64 0, .int .i64 11]) (by rw [hwA]; simp [results, Try.results31, go_sem]) rfl (ReQ.no HE.out (by decide) HQ.out)
  by_cases hL : lb.length = 0 ∨ lb.length % 4 ≠ 0
  · have HE : Hid (vfR F lb = (0, 0, 22)) := hid13 (by unfold vfR; rw [if_neg hF, if_pos hL])
    have hF2 : F = 32 ∨ F = 128 := by omega
    have HQ := hid13 qA
    obtain ⟨n, hn⟩ : ∃ n, n = lb.length := ⟨_, rfl⟩
    rw [← hn] at hL ⊢
    have hL2 : ((n : Int) == 0) = true ∨ ((n : Int) == 0) = false ∧ ((n : Int) % 4 != 0) = true := by
      by_cases q : n = 0
      · left; simp [q]
      · right
        refine ⟨by simp; exact q, ?_⟩
        simp
        omega
    clear hcode hlb hxb qA sA gA HA HBw HC hF hL hn
    rcases hF2 with rfl | rfl <;> rcases hL2 with hL2 | ⟨hL2, hL3⟩
    · go_enter Try.func31, Try.ntmps31
      go_wp2
      rw [← hwA]
      exact bodyPost_ret (v := .tuple #[.agg #[.slice none 0 0, .int .i64 0, .int .i64 0], .int .i64 0, .int .i64 22]) (by rw [hwA]; simp [results, Try.results31, go_sem]) rfl (ReQ.no HE.out (by decide) HQ.out)
    · go_enter Try.func31, Try.ntmps31
      go_wp2
      rw [← hwA]
      exact bodyPost_ret (v := .tuple #[.agg #[.slice none 0 0, .int .i64 0, .int .i64 0], .int .i64 0, .int .i64 22]) (by rw [hwA]; simp [results, Try.results31, go_sem]) rfl (ReQ.no HE.out (by decide) HQ.out)
    · go_enter Try.func31, Try.ntmps31
      go_wp2
      rw [← hwA]
      exact bodyPost_ret (v := .tuple #[.agg #[.slice none 0 0, .int .i64 0, .int .i64 0], .int .i64 0, .int .i64 22]) (by rw [hwA]; simp [results, Try.results31, go_sem]) rfl (ReQ.no HE.out (by decide) HQ.out)
    · go_enter Try.func31, Try.ntmps31
      go_wp2
      rw [← hwA]
      exact bodyPost_ret (v := .tuple #[.agg #[.slice none 0 0, .int .i64 0, .int .i64 0], .int .i64 0, .int .i64 22]) (by rw [hwA]; simp [results, Try.results31, go_sem]) rfl (ReQ.no HE.out (by decide) HQ.out)
  have hF2 : F = 32 ∨ F = 128 := by omega
  obtain ⟨n, hn⟩ : ∃ n, n = lb.length := ⟨_, rfl⟩
  have hL0 : ((n : Int) == 0) = false := by simp; omega
  have hL4 : ((n : Int) % 4 != 0) = false := by simp; omega
  have KD := decode_any (.slice co n cc) lb 0 wA (by rw [hn]; exact HC.out.1) (by omega) hxb
  have HR : Hid (vfR F lb = if dcE lb 0 = 0 ∧ (dcI lb 0).op = 4 then (if 4 < n then (0, 1, 31) else (0, 0, 0)) else vfB F lb) := hid13 (by unfold vfR; rw [if_neg hF, if_neg hL, hn])
  have HN : Hid (n = lb.length ∧ 0 < n / 4 ∧ n ≤ 4194304) := ⟨hn, by omega, by omega⟩
  have HFF := hid13 hF2
  rw [← hn]
  have hfb : (F != 32 && F != 128) = false := by rcases hF2 with rfl | rfl <;> rfl
  clear hcode hlb hxb qA sA gA hF hL hn
  unfold insV at KD
  obtain ⟨dE, hdE⟩ : ∃ y, y = dcE lb 0 := ⟨_, rfl⟩
  obtain ⟨dO, hdO⟩ : ∃ y, y = (dcI lb 0).op := ⟨_, rfl⟩
  obtain ⟨dN, hdN⟩ : ∃ y, y = (dcI lb 0).n := ⟨_, rfl⟩
  obtain ⟨dZ, hdZ⟩ : ∃ y, y = dcZ lb 0 := ⟨_, rfl⟩
  rw [← hdE, ← hdO, ← hdN, ← hdZ] at KD
  rw [← hdE, ← hdO] at HR
  have HDD : Hid (dE = dcE lb 0 ∧ dO = (dcI lb 0).op ∧ dN = (dcI lb 0).n ∧ dZ = dcZ lb 0) := ⟨hdE, hdO, hdN, hdZ⟩
  clear hdE hdO hdN hdZ
  go_enter Try.func31, Try.ntmps31
  rcases hF2 with rfl | rfl
  · go_wp2_with fail
    rw [← hwA]
    clear hwA
    refine KD.mono ?_
    rintro e W1 ⟨v', rfl, ho, hb1⟩
    obtain ⟨mo, mc, hv'⟩ := own_form ho
    obtain ⟨mn, hmn⟩ : ∃ mn, mn = (dcI lb 0).m.length := ⟨_, rfl⟩
    rw [← hmn] at hv'
    subst hv'
    clear ho hmn
    have q2 := bl1 W1 (.cells #[.int .i64 dO, .int .i64 dN, .slice mo mn mc] 67)
    have HB2 := hid13 (keepb q2 hb1)
    have HRw : Hid (RwX cB (W1.alloc (.cells #[.int .i64 dO, .int .i64 dN, .slice mo mn mc] 67)) (.slice co n cc) lb) := hid13 (by rw [HN.out.1]; exact HC.out.1.below (keepb q2 hb1))
    have HN0 : Hid ((W1.alloc (.cells #[.int .i64 dO, .int .i64 dN, .slice mo mn mc] 67)).heap[W1.heap.size]? = some (.cells #[.int .i64 dO, .int .i64 dN, .slice mo mn mc] 67)) := hid13 (new_16 _ _)
    clear KD hb1 q2
    have c0 := at_16 HN0.out 0 _ rfl
    have c1 := at_16 HN0.out 1 _ rfl
    have c2 := at_16 HN0.out 2 _ rfl
    obtain ⟨W2, hW2⟩ : ∃ W2, W2 = W1.alloc (.cells #[.int .i64 dO, .int .i64 dN, .slice mo mn mc] 67) := ⟨_, rfl⟩
    rw [← hW2] at HB2 HRw HN0 c0 c1 c2
    by_cases hd : dE = 0 ∧ dO = 4
    · obtain ⟨hd1, hd2⟩ := hd
      subst hd1 hd2
      have hz : dZ = 1 := by
        rw [HDD.out.2.2.2, dcZ_zero HDD.out.1.symm, (dcF HDD.out.1.symm).m0 (by rw [← HDD.out.2.1]; decide)]; rfl
      subst hz
      have HV : Hid (vfR 32 lb = if 4 < n then (0, 1, 31) else (0, 0, 0)) := hid13 (by rw [HR.out, if_pos ⟨rfl, rfl⟩])
      have K1 := alone18 4 dN (.slice mo mn mc) co n cc W2 HN.out.2.2
      go_wp2_with fail
      rw [← hW2]
      clear hW2
      refine K1.mono ?_
      rintro e W3 ⟨rfl, hb3⟩
      obtain ⟨hBw, hP0⟩ := HBw.out W3 (keepb hb3 HB2.out)
      have HBW := hid13 hBw
      have p0 := at_16 hP0 0 _ rfl
      have p1 := at_16 hP0 1 _ rfl
      have p2 := at_16 hP0 2 _ rfl
      have f0 := fr_16 (j := 0) hP0
      have f1 := fr_16 (j := 1) hP0
      have f2 := fr_16 (j := 2) hP0
      have HX : Hid (∀ X, Below w.heap.size w X → ReQ w 32 lb (.returned (.tuple #[.agg #[.slice none 0 0, .int .i64 0, .int .i64 (if 4 < n then 0 else dN)], .int .i64 (if 4 < n then 1 else 0), .int .i64 (if 4 < n then 31 else 0)])) X) := hid13 (fun X hX => by
        refine ⟨.slice none 0 0, ?_, hX, fun _ => rfl, fun _ q => absurd ⟨HDD.out.1.symm, HDD.out.2.1.symm⟩ q⟩
        unfold vfN
        rw [HV.out]
        by_cases q : 4 < n
        · simp [q]
        · simp only [q, if_false]
          rw [if_pos ⟨HDD.out.1.symm, HDD.out.2.1.symm, by first | exact trivial | rfl⟩, ← HDD.out.2.2.1])
      generalize (if 4 < n then (0 : Int) else dN) = x1 at *
      generalize (if 4 < n then (1 : Int) else 0) = x2 at *
      generalize (if 4 < n then (31 : Int) else 0) = x3 at *
      clear K1 hb3 hBw hP0 c0 c1 c2 HV
      go_wp2
      exact bodyPost_ret (v := .tuple #[.agg #[.slice none 0 0, .int .i64 0, .int .i64 x1], .int .i64 x2, .int .i64 x3]) (by simp [results, Try.results31, go_sem, p0, p1, p2]) rfl (HX.out _ (st3b_18 HBW.out (Nat.le_refl _)))
    · have HV : Hid (vfR 32 lb = vfB 32 lb) := hid13 (by rw [HR.out, if_neg hd])
      have K1 := blocks18 W2 32 co cc lb (.inl rfl) (by rw [← HN.out.1]; exact HRw.out) HC.out.2.1 HC.out.2.2 (by rw [← HN.out.1]; exact HN.out.2.1)
      rw [← HN.out.1] at K1
      have hb4 : (dE == 0 && dO == 4) = false := by simpa using hd
      have HND : Hid (¬ (dcE lb 0 = 0 ∧ (dcI lb 0).op = 4)) := hid13 (by rw [← HDD.out.1, ← HDD.out.2.1]; exact hd)
      have HS2 : Hid (w.heap.size ≤ W2.heap.size) := hid13 (by have := HB2.out.size; have := HA.out.2; omega)
      by_cases hd1 : dE = 0
      · have hd2 : (dO == 4) = false := by simp; exact fun q => hd ⟨hd1, q⟩
        subst hd1
        clear hd hb4
        go_wp2_with fail
        rw [← hW2]
        clear hW2
        refine K1.mono ?_
        rintro e W3 ⟨vb, rfl, hb3, hq1, hq2⟩
        obtain ⟨hBw, hP0⟩ := HBw.out W3 (keepb hb3 HB2.out)
        have HBW := hid13 hBw
        have HP0 := hid13 hP0
        have p0 := at_16 hP0 0 _ rfl
        have p1 := at_16 hP0 1 _ rfl
        have p2 := at_16 hP0 2 _ rfl
        have f0 := fr_16 (j := 0) hP0
        have f1 := fr_16 (j := 1) hP0
        have f2 := fr_16 (j := 2) hP0
        obtain ⟨ao, vn, vc, hvb⟩ : ∃ ao vn vc, vb = .slice ao vn vc := by
          by_cases q : (vfB 32 lb).2.2 = 0
          · obtain ⟨L, hL, -⟩ := hq2 q
            obtain ⟨ao, vc, h9⟩ := own_form hL.o
            exact ⟨ao, L.length, vc, h9⟩
          · exact ⟨none, 0, 0, hq1 q⟩
        subst hvb
        have HX : Hid (∀ b c, ReQ w 32 lb (.returned (.tuple #[.agg #[.slice ao vn vc, .int .i64 (vfB 32 lb).1, .int .i64 0], .int .i64 (vfB 32 lb).2.1, .int .i64 (vfB 32 lb).2.2])) (((W3.setCell ⟨w.heap.size, 0, none⟩ (.slice ao vn vc)).setCell ⟨w.heap.size, 1, none⟩ b).setCell ⟨w.heap.size, 2, none⟩ c)) := hid13 (fun b c => by
          refine ⟨.slice ao vn vc, ?_, st3b_18 HBW.out (Nat.le_refl _), fun q => ?_, fun q _ => ?_⟩
          · have hn : vfN 32 lb = 0 := by unfold vfN; rw [if_neg (fun q => HND.out ⟨q.1, q.2.1⟩)]
            rw [hn, HV.out]
          · rcases q with q | q
            · rw [HV.out] at q; exact hq1 q
            · exact absurd q HND.out
          · rw [HV.out] at q
            obtain ⟨L, hL, h0⟩ := hq2 q
            exact ⟨L, (hL.st3 HP0.out).weak HS2.out, h0⟩)
        generalize (vfB 32 lb).1 = x1 at *
        generalize (vfB 32 lb).2.1 = x2 at *
        generalize (vfB 32 lb).2.2 = x3 at *
        clear K1 hb3 hBw hP0 c0 c1 c2 HV hq1 hq2
        go_wp2
        exact bodyPost_ret (v := .tuple #[.agg #[.slice ao vn vc, .int .i64 x1, .int .i64 0], .int .i64 x2, .int .i64 x3]) (by simp [results, Try.results31, go_sem, p0, p1, p2]) rfl (HX.out _ _)
      · have hd2 : (dE == 0) = false := by simp; exact hd1
        clear hd hb4 hd1
        go_wp2_with fail
        rw [← hW2]
        clear hW2
        refine K1.mono ?_
        rintro e W3 ⟨vb, rfl, hb3, hq1, hq2⟩
        obtain ⟨hBw, hP0⟩ := HBw.out W3 (keepb hb3 HB2.out)
        have HBW := hid13 hBw
        have HP0 := hid13 hP0
        have p0 := at_16 hP0 0 _ rfl
        have p1 := at_16 hP0 1 _ rfl
        have p2 := at_16 hP0 2 _ rfl
        have f0 := fr_16 (j := 0) hP0
        have f1 := fr_16 (j := 1) hP0
        have f2 := fr_16 (j := 2) hP0
        obtain ⟨ao, vn, vc, hvb⟩ : ∃ ao vn vc, vb = .slice ao vn vc := by
          by_cases q : (vfB 32 lb).2.2 = 0
          · obtain ⟨L, hL, -⟩ := hq2 q
            obtain ⟨ao, vc, h9⟩ := own_form hL.o
            exact ⟨ao, L.length, vc, h9⟩
          · exact ⟨none, 0, 0, hq1 q⟩
        subst hvb
        have HX : Hid (∀ b c, ReQ w 32 lb (.returned (.tuple #[.agg #[.slice ao vn vc, .int .i64 (vfB 32 lb).1, .int .i64 0], .int .i64 (vfB 32 lb).2.1, .int .i64 (vfB 32 lb).2.2])) (((W3.setCell ⟨w.heap.size, 0, none⟩ (.slice ao vn vc)).setCell ⟨w.heap.size, 1, none⟩ b).setCell ⟨w.heap.size, 2, none⟩ c)) := hid13 (fun b c => by
          refine ⟨.slice ao vn vc, ?_, st3b_18 HBW.out (Nat.le_refl _), fun q => ?_, fun q _ => ?_⟩
          · have hn : vfN 32 lb = 0 := by unfold vfN; rw [if_neg (fun q => HND.out ⟨q.1, q.2.1⟩)]
            rw [hn, HV.out]
          · rcases q with q | q
            · rw [HV.out] at q; exact hq1 q
            · exact absurd q HND.out
          · rw [HV.out] at q
            obtain ⟨L, hL, h0⟩ := hq2 q
            exact ⟨L, (hL.st3 HP0.out).weak HS2.out, h0⟩)
        generalize (vfB 32 lb).1 = x1 at *
        generalize (vfB 32 lb).2.1 = x2 at *
        generalize (vfB 32 lb).2.2 = x3 at *
        clear K1 hb3 hBw hP0 c0 c1 c2 HV hq1 hq2
        go_wp2
        exact bodyPost_ret (v := .tuple #[.agg #[.slice ao vn vc, .int .i64 x1, .int .i64 0], .int .i64 x2, .int .i64 x3]) (by simp [results, Try.results31, go_sem, p0, p1, p2]) rfl (HX.out _ _)
  · go_wp2_with fail
    rw [← hwA]
    clear hwA
    refine KD.mono ?_
    rintro e W1 ⟨v', rfl, ho, hb1⟩
    obtain ⟨mo, mc, hv'⟩ := own_form ho
    obtain ⟨mn, hmn⟩ : ∃ mn, mn = (dcI lb 0).m.length := ⟨_, rfl⟩
    rw [← hmn] at hv'
    subst hv'
    clear ho hmn
    have q2 := bl1 W1 (.cells #[.int .i64 dO, .int .i64 dN, .slice mo mn mc] 67)
    have HB2 := hid13 (keepb q2 hb1)
    have HRw : Hid (RwX cB (W1.alloc (.cells #[.int .i64 dO, .int .i64 dN, .slice mo mn mc] 67)) (.slice co n cc) lb) := hid13 (by rw [HN.out.1]; exact HC.out.1.below (keepb q2 hb1))
    have HN0 : Hid ((W1.alloc (.cells #[.int .i64 dO, .int .i64 dN, .slice mo mn mc] 67)).heap[W1.heap.size]? = some (.cells #[.int .i64 dO, .int .i64 dN, .slice mo mn mc] 67)) := hid13 (new_16 _ _)
    clear KD hb1 q2
    have c0 := at_16 HN0.out 0 _ rfl
    have c1 := at_16 HN0.out 1 _ rfl
    have c2 := at_16 HN0.out 2 _ rfl
    obtain ⟨W2, hW2⟩ : ∃ W2, W2 = W1.alloc (.cells #[.int .i64 dO, .int .i64 dN, .slice mo mn mc] 67) := ⟨_, rfl⟩
    rw [← hW2] at HB2 HRw HN0 c0 c1 c2
    by_cases hd : dE = 0 ∧ dO = 4
    · obtain ⟨hd1, hd2⟩ := hd
      subst hd1 hd2
      have hz : dZ = 1 := by
        rw [HDD.out.2.2.2, dcZ_zero HDD.out.1.symm, (dcF HDD.out.1.symm).m0 (by rw [← HDD.out.2.1]; decide)]; rfl
      subst hz
      have HV : Hid (vfR 128 lb = if 4 < n then (0, 1, 31) else (0, 0, 0)) := hid13 (by rw [HR.out, if_pos ⟨rfl, rfl⟩])
      have K1 := alone18 4 dN (.slice mo mn mc) co n cc W2 HN.out.2.2
      go_wp2_with fail
      rw [← hW2]
      clear hW2
      refine K1.mono ?_
      rintro e W3 ⟨rfl, hb3⟩
      obtain ⟨hBw, hP0⟩ := HBw.out W3 (keepb hb3 HB2.out)
      have HBW := hid13 hBw
      have p0 := at_16 hP0 0 _ rfl
      have p1 := at_16 hP0 1 _ rfl
      have p2 := at_16 hP0 2 _ rfl
      have f0 := fr_16 (j := 0) hP0
      have f1 := fr_16 (j := 1) hP0
      have f2 := fr_16 (j := 2) hP0
      have HX : Hid (∀ X, Below w.heap.size w X → ReQ w 128 lb (.returned (.tuple #[.agg #[.slice none 0 0, .int .i64 0, .int .i64 (if 4 < n then 0 else dN)], .int .i64 (if 4 < n then 1 else 0), .int .i64 (if 4 < n then 31 else 0)])) X) := hid13 (fun X hX => by
        refine ⟨.slice none 0 0, ?_, hX, fun _ => rfl, fun _ q => absurd ⟨HDD.out.1.symm, HDD.out.2.1.symm⟩ q⟩
        unfold vfN
        rw [HV.out]
        by_cases q : 4 < n
        · simp [q]
        · simp only [q, if_false]
          rw [if_pos ⟨HDD.out.1.symm, HDD.out.2.1.symm, by first | exact trivial | rfl⟩, ← HDD.out.2.2.1])
      generalize (if 4 < n then (0 : Int) else dN) = x1 at *
      generalize (if 4 < n then (1 : Int) else 0) = x2 at *
      generalize (if 4 < n then (31 : Int) else 0) = x3 at *
      clear K1 hb3 hBw hP0 c0 c1 c2 HV
      go_wp2
      exact bodyPost_ret (v := .tuple #[.agg #[.slice none 0 0, .int .i64 0, .int .i64 x1], .int .i64 x2, .int .i64 x3]) (by simp [results, Try.results31, go_sem, p0, p1, p2]) rfl (HX.out _ (st3b_18 HBW.out (Nat.le_refl _)))
    · have HV : Hid (vfR 128 lb = vfB 128 lb) := hid13 (by rw [HR.out, if_neg hd])
      have K1 := blocks18 W2 128 co cc lb (.inr rfl) (by rw [← HN.out.1]; exact HRw.out) HC.out.2.1 HC.out.2.2 (by rw [← HN.out.1]; exact HN.out.2.1)
      rw [← HN.out.1] at K1
      have hb4 : (dE == 0 && dO == 4) = false := by simpa using hd
      have HND : Hid (¬ (dcE lb 0 = 0 ∧ (dcI lb 0).op = 4)) := hid13 (by rw [← HDD.out.1, ← HDD.out.2.1]; exact hd)
      have HS2 : Hid (w.heap.size ≤ W2.heap.size) := hid13 (by have := HB2.out.size; have := HA.out.2; omega)
      by_cases hd1 : dE = 0
      · have hd2 : (dO == 4) = false := by simp; exact fun q => hd ⟨hd1, q⟩
        subst hd1
        clear hd hb4
        go_wp2_with fail
        rw [← hW2]
        clear hW2
        refine K1.mono ?_
        rintro e W3 ⟨vb, rfl, hb3, hq1, hq2⟩
        obtain ⟨hBw, hP0⟩ := HBw.out W3 (keepb hb3 HB2.out)
        have HBW := hid13 hBw
        have HP0 := hid13 hP0
        have p0 := at_16 hP0 0 _ rfl
        have p1 := at_16 hP0 1 _ rfl
        have p2 := at_16 hP0 2 _ rfl
        have f0 := fr_16 (j := 0) hP0
        have f1 := fr_16 (j := 1) hP0
        have f2 := fr_16 (j := 2) hP0
        obtain ⟨ao, vn, vc, hvb⟩ : ∃ ao vn vc, vb = .slice ao vn vc := by
          by_cases q : (vfB 128 lb).2.2 = 0
          · obtain ⟨L, hL, -⟩ := hq2 q
            obtain ⟨ao, vc, h9⟩ := own_form hL.o
            exact ⟨ao, L.length, vc, h9⟩
          · exact ⟨none, 0, 0, hq1 q⟩
        subst hvb
        have HX : Hid (∀ b c, ReQ w 128 lb (.returned (.tuple #[.agg #[.slice ao vn vc, .int .i64 (vfB 128 lb).1, .int .i64 0], .int .i64 (vfB 128 lb).2.1, .int .i64 (vfB 128 lb).2.2])) (((W3.setCell ⟨w.heap.size, 0, none⟩ (.slice ao vn vc)).setCell ⟨w.heap.size, 1, none⟩ b).setCell ⟨w.heap.size, 2, none⟩ c)) := hid13 (fun b c => by
          refine ⟨.slice ao vn vc, ?_, st3b_18 HBW.out (Nat.le_refl _), fun q => ?_, fun q _ => ?_⟩
          · have hn : vfN 128 lb = 0 := by unfold vfN; rw [if_neg (fun q => HND.out ⟨q.1, q.2.1⟩)]
            rw [hn, HV.out]
          · rcases q with q | q
            · rw [HV.out] at q; exact hq1 q
            · exact absurd q HND.out
          · rw [HV.out] at q
            obtain ⟨L, hL, h0⟩ := hq2 q
            exact ⟨L, (hL.st3 HP0.out).weak HS2.out, h0⟩)
        generalize (vfB 128 lb).1 = x1 at *
        generalize (vfB 128 lb).2.1 = x2 at *
        generalize (vfB 128 lb).2.2 = x3 at *
        clear K1 hb3 hBw hP0 c0 c1 c2 HV hq1 hq2
        go_wp2
        exact bodyPost_ret (v := .tuple #[.agg #[.slice ao vn vc, .int .i64 x1, .int .i64 0], .int .i64 x2, .int .i64 x3]) (by simp [results, Try.results31, go_sem, p0, p1, p2]) rfl (HX.out _ _)
      · have hd2 : (dE == 0) = false := by simp; exact hd1
        clear hd hb4 hd1
        go_wp2_with fail
        rw [← hW2]
        clear hW2
        refine K1.mono ?_
        rintro e W3 ⟨vb, rfl, hb3, hq1, hq2⟩
        obtain ⟨hBw, hP0⟩ := HBw.out W3 (keepb hb3 HB2.out)
        have HBW := hid13 hBw
        have HP0 := hid13 hP0
        have p0 := at_16 hP0 0 _ rfl
        have p1 := at_16 hP0 1 _ rfl
        have p2 := at_16 hP0 2 _ rfl
        have f0 := fr_16 (j := 0) hP0
        have f1 := fr_16 (j := 1) hP0
        have f2 := fr_16 (j := 2) hP0
        obtain ⟨ao, vn, vc, hvb⟩ : ∃ ao vn vc, vb = .slice ao vn vc := by
          by_cases q : (vfB 128 lb).2.2 = 0
          · obtain ⟨L, hL, -⟩ := hq2 q
            obtain ⟨ao, vc, h9⟩ := own_form hL.o
            exact ⟨ao, L.length, vc, h9⟩
          · exact ⟨none, 0, 0, hq1 q⟩
        subst hvb
        have HX : Hid (∀ b c, ReQ w 128 lb (.returned (.tuple #[.agg #[.slice ao vn vc, .int .i64 (vfB 128 lb).1, .int .i64 0], .int .i64 (vfB 128 lb).2.1, .int .i64 (vfB 128 lb).2.2])) (((W3.setCell ⟨w.heap.size, 0, none⟩ (.slice ao vn vc)).setCell ⟨w.heap.size, 1, none⟩ b).setCell ⟨w.heap.size, 2, none⟩ c)) := hid13 (fun b c => by
          refine ⟨.slice ao vn vc, ?_, st3b_18 HBW.out (Nat.le_refl _), fun q => ?_, fun q _ => ?_⟩
          · have hn : vfN 128 lb = 0 := by unfold vfN; rw [if_neg (fun q => HND.out ⟨q.1, q.2.1⟩)]
            rw [hn, HV.out]
          · rcases q with q | q
            · rw [HV.out] at q; exact hq1 q
            · exact absurd q HND.out
          · rw [HV.out] at q
            obtain ⟨L, hL, h0⟩ := hq2 q
            exact ⟨L, (hL.st3 HP0.out).weak HS2.out, h0⟩)
        generalize (vfB 128 lb).1 = x1 at *
        generalize (vfB 128 lb).2.1 = x2 at *
        generalize (vfB 128 lb).2.2 = x3 at *
        clear K1 hb3 hBw hP0 c0 c1 c2 HV hq1 hq2
        go_wp2
        exact bodyPost_ret (v := .tuple #[.agg #[.slice ao vn vc, .int .i64 x1, .int .i64 0], .int .i64 x2, .int .i64 x3]) (by simp [results, Try.results31, go_sem, p0, p1, p2]) rfl (HX.out _ _)
end Go.Proofs.Ytdpmhpmnkollaaa
namespace Go.Proofs.Ytdpmhpmnkollaaa
open Go.RowKit
set_option linter.unusedSimpArgs false
set_option linter.unusedVariables false

end Go.Proofs.Ytdpmhpmnkollaaa
namespace Go.Proofs.Ytdpmhpmnkollaaa
open Go.RowKit
set_option linter.unusedSimpArgs false
set_option linter.unusedVariables false

set_option maxHeartbeats 400000 in
theorem rbit_any (x : BitVec 128) (i : Int) (w : World) :
    Calls Try.prog 67 #[.agg #[.int .u64 (hI x), .int .u64 (lI x)], .int .i64 i] w fun e w' => e = .returned (.int .i64 (bitZ x i)) ∧ Below w.heap.size w w' := by
  by_cases h0 : i < 0
  · rw [bitZ_out x i (Or.inl h0)]
    go_enter Try.func67, Try.ntmps67
    go_wp2
    go_ret
    exact ⟨rfl, bl1 _ _⟩
  by_cases h1 : 127 < i
  · rw [bitZ_out x i (Or.inr h1)]
    go_enter Try.func67, Try.ntmps67
    go_wp2
    go_ret
    exact ⟨rfl, bl1 _ _⟩
  by_cases h2 : i < 64
  · rw [← bit_hi x i (by omega) h2]
    go_enter Try.func67, Try.ntmps67
    go_wp2
    go_ret
    exact ⟨rfl, bl1 _ _⟩
  · rw [← bit_lo x i (by omega) (by omega)]
    go_enter Try.func67, Try.ntmps67
    go_wp2
    go_ret
    exact ⟨rfl, bl1 _ _⟩

def At (w : World) (B : Nat) (x : BitVec 128) : Prop := w.cell? ⟨B, 0, none⟩ = some (.int .u64 (hI x)) ∧ w.cell? ⟨B, 1, none⟩ = some (.int .u64 (lI x)) ∧ w.frozen? ⟨B, 0, none⟩ = false ∧ w.frozen? ⟨B, 1, none⟩ = false ∧ B < w.heap.size
theorem At.below {w w' : World} {B : Nat} {x : BitVec 128} (h : At w B x) (hb : Below w.heap.size w w') : At w' B x := by
  obtain ⟨h0, h1, h2, h3, h4⟩ := h
  obtain ⟨hc, hf⟩ := bcell hb
  exact ⟨by rw [hc _ _ h4]; exact h0, by rw [hc _ _ h4]; exact h1, by rw [hf _ _ h4]; exact h2, by rw [hf _ _ h4]; exact h3, Nat.lt_of_lt_of_le h4 hb.size⟩
theorem At.set {w : World} {B : Nat} {x : BitVec 128} (y : BitVec 128) (h : At w B x) : At ((w.setCell ⟨B, 0, none⟩ (.int .u64 (hI y))).setCell ⟨B, 1, none⟩ (.int .u64 (lI y))) B y := by
  obtain ⟨h0, h1, h2, h3, h4⟩ := h
  refine ⟨?_, ?_, ?_, ?_, ?_⟩ <;> simp [go_sem, *]

set_option maxHeartbeats 400000 in
theorem rcmp_any (x y : BitVec 128) (w : World) :
    Calls Try.prog 34 #[.agg #[.int .u64 (hI x), .int .u64 (lI x)], .agg #[.int .u64 (hI y), .int .u64 (lI y)]] w fun e w' => e = .returned (.int .i64 (cmpZ x y)) ∧ Below w.heap.size w w' := by
  rcases cmp_ways x y with ⟨h, c⟩ | ⟨h, g, c⟩ | ⟨h, c⟩ | ⟨h, c⟩ | ⟨h, g, c⟩
  · rw [c]; clear c
    go_enter Try.func34, Try.ntmps34
    go_wp2
    go_ret
    exact ⟨rfl, bl2 _ _ _⟩
  · rw [c, h]; clear c h
    go_enter Try.func34, Try.ntmps34
    go_wp2
    go_ret
    exact ⟨rfl, bl2 _ _ _⟩
  · rw [c]; clear c; subst h
    go_enter Try.func34, Try.ntmps34
    go_wp2
    go_ret
    exact ⟨rfl, bl2 _ _ _⟩
  · rw [c]; clear c
    have ne : ¬ hI x = hI y := by omega
    go_enter Try.func34, Try.ntmps34
    go_wp2
    go_ret
    exact ⟨rfl, bl2 _ _ _⟩
  · rw [c, h]; clear c h
    have ne : ¬ lI x = lI y := by omega
    go_enter Try.func34, Try.ntmps34
    go_wp2
    go_ret
    exact ⟨rfl, bl2 _ _ _⟩
end Go.Proofs.Ytdpmhpmnkollaaa
namespace Go.Proofs.Ytdpmhpmnkollaaa
open Go.RowKit
set_option linter.unusedSimpArgs false
set_option linter.unusedVariables false

end Go.Proofs.Ytdpmhpmnkollaaa
namespace Go.Proofs.Ytdpmhpmnkollaaa
open Go.RowKit
set_option linter.unusedSimpArgs false
set_option linter.unusedVariables false

end Go.Proofs.Ytdpmhpmnkollaaa
namespace Go.Proofs.Ytdpmhpmnkollaaa
open Go.RowKit
set_option linter.unusedSimpArgs false
set_option linter.unusedVariables false

end Go.Proofs.Ytdpmhpmnkollaaa
namespace Go.Proofs.Ytdpmhpmnkollaaa
open Go.RowKit
set_option linter.unusedSimpArgs false
set_option linter.unusedVariables false

def fam (F : Int) : Bool := decide (F = 32) || decide (F = 128)
theorem fam_ways (F : Int) (h : fam F = true) : F = 32 ∨ F = 128 := by unfold fam at h; simpa using h
end Go.Proofs.Ytdpmhpmnkollaaa
namespace Go.Proofs.Ytdpmhpmnkollaaa
open Go.RowKit
set_option linter.unusedSimpArgs false
set_option linter.unusedVariables false

end Go.Proofs.Ytdpmhpmnkollaaa
