/-
  Part 10 of the proof: 1 texts, one behind the other.
-/
import Derived.Test.YtbgoclfifhdonaaPart9
import Derived.Laws.IdiomStrings
namespace Go.Proofs.Ytbgoclfifhdonaa
open Go.RowKit
set_option linter.unusedSimpArgs false
set_option linter.unusedVariables false

theorem tmod_ways19 (a n : Int) (h : 0 < n) : (a.tmod n < 0 ∧ a.tmod n + n = a % n) ∨ (0 ≤ a.tmod n ∧ a.tmod n = a % n) := by
  by_cases h0 : 0 ≤ a
  · right
    have : a.tmod n = a % n := Int.tmod_eq_emod_of_nonneg h0
    exact ⟨by rw [this]; exact Int.emod_nonneg _ (by omega), this⟩
  · have e := Int.tmod_eq_emod (a := a) (b := n)
    have b1 := Int.emod_nonneg a (b := n) (by omega)
    have b2 := Int.emod_lt_of_pos a h
    split at e
    · right; omega
    · left
      have : (n.natAbs : Int) = n := by omega
      omega
set_option maxHeartbeats 1000000 in
theorem within19 (a n : Int) (w : World) (h0 : 0 < n) (h1 : n ≤ 9223372036854775807) :
    Calls Try.prog 18 #[.int .i64 a, .int .i64 n] w fun e w' => e = .returned (.int .i64 (a % n)) ∧ w' = w := by
  have b1 := Int.emod_nonneg a (b := n) (by omega)
  have b2 := Int.emod_lt_of_pos a h0
  have hn0 : ¬ n = 0 := by omega
  have hnb : (n == 0) = false := by simp; omega
  rcases tmod_ways19 a n h0 with ⟨c, e⟩ | ⟨c, e⟩
  · have hw : IntKind.i64.wrap (a.tmod n) = a.tmod n := by rw [IntKind.wrap_i64]; omega
    have hw2 : IntKind.i64.wrap (a.tmod n + n) = a.tmod n + n := by rw [IntKind.wrap_i64]; omega
    rw [← e]
    clear e b1 b2
    go_enter Try.func18, Try.ntmps18
    go_wp2
    go_ret
    exact ⟨rfl, rfl⟩
  · have hw : IntKind.i64.wrap (a.tmod n) = a.tmod n := by rw [IntKind.wrap_i64]; omega
    rw [← e]
    clear e b1 b2
    go_enter Try.func18, Try.ntmps18
    go_wp2
    go_ret
    exact ⟨rfl, rfl⟩
structure Ev9 (w : World) (F : Int) (x : BitVec 128) (l : List Nat) (R : Nat) (r : Mc) (B : Nat) (vb : Value) (mk : Mc) (W : World) : Prop where
  lo : Below w.heap.size w W
  a : W.heap[w.heap.size]? = some (.cells #[.int .u64 (hI x), .int .u64 (lI x)] 25)
  rr : W.heap[R]? = some (.cells #[.int .i64 r.hop, .int .i64 r.err, .int .i64 r.st, .int .i64 r.ex, .int .i64 r.ix, .int .i64 r.bt] 29)
  m : MV W B F vb x mk
  c : RwX cB W vb l
theorem Ev9.below {w W W' : World} {F : Int} {x : BitVec 128} {l : List Nat} {R B : Nat} {r mk : Mc} {vb : Value} (h : Ev9 w F x l R r B vb mk W) (hb : Below W.heap.size W W') : Ev9 w F x l R r B vb mk W' :=
  ⟨h.lo.trans (hb.mono h.lo.size), (hb.block _ (lt_16 h.a)).trans h.a, (hb.block _ (lt_16 h.rr)).trans h.rr, h.m.below hb, h.c.below hb⟩
theorem Ev9.step {w W W' : World} {F : Int} {x : BitVec 128} {l : List Nat} {R B : Nat} {r mk mk' : Mc} {vb : Value} (h : Ev9 w F x l R r B vb mk W) (h1 : w.heap.size < B) (h2 : R < B) (hc : CB B vb l) (hm : MV W' B F vb x mk') (hk : KM B W W') : Ev9 w F x l R r B vb mk' W' :=
  ⟨h.lo.trans (hk.lo.mono (by omega)), (hk.ot.2 _ (lt_16 h.a) (by omega)).trans h.a, (hk.ot.2 _ (lt_16 h.rr) (by omega)).trans h.rr, hm, rwx_km h.c hc hk⟩
set_option maxRecDepth 20000 in
set_option maxHeartbeats 32000000 in
theorem vmEnds_any (F : Int) (v : Value) (l : List Nat) (x : BitVec 128) (fu : Int) (w : World) (hF0 : -9223372036854775808 ≤ F) (hF1 : F ≤ 9223372036854775807) (hA : RowA w 1 v l.length (l.map cB)) (hR : RwX cB w v l) (hx : ∀ b ∈ l, b < 256) (hf0 : -9223372036854775808 ≤ fu) (hf1 : fu ≤ 9223372036854775807) :
    Calls Try.prog 5 #[.int .i64 F, v, .agg #[.int .u64 (hI x), .int .u64 (lI x)], .int .i64 fu] w fun e w' => e = .returned (.bool true) ∧ Below w.heap.size w w' := by
  obtain ⟨ao, cc, rfl, -⟩ := id hR
  have hsz : (w.alloc (.cells #[.int .u64 (hI x), .int .u64 (lI x)] 25)).heap[w.heap.size]? = some (.cells #[.int .u64 (hI x), .int .u64 (lI x)] 25) := new_16 _ _
  have q1 := bl1 w (.cells #[.int .u64 (hI x), .int .u64 (lI x)] 25)
  obtain ⟨V, hV⟩ : ∃ V, V = w.alloc (.cells #[.int .u64 (hI x), .int .u64 (lI x)] 25) := ⟨_, rfl⟩
  rw [← hV] at hsz q1
  have HQ := hid13 q1
  have HW := hid13 hsz
  have K0 := known19 V
  have HA := hid13 (And.intro hA (And.intro hR hx))
  clear q1 hsz hA hR hx hF0 hF1 hf0 hf1
  by_cases hl : l.length ≤ 32768
  · have n1 : ¬ ((l.length : Int) > 32768) := by omega
    have n1' : ¬ (32768 < (l.length : Int)) := by omega
    obtain ⟨Q, hQ⟩ : ∃ Q : Nat, Q = l.length / 4 := ⟨_, rfl⟩
    have q4 : (l.length : Int) / 4 = (Q : Int) := by omega
    have hQ2 : Q ≤ 8192 := by omega
    have ma : IntKind.i64.wrap ((Q : Int) + 1) = (Q : Int) + 1 := by rw [IntKind.wrap_i64]; omega
    have HL : Hid (l.length ≤ 32768 ∧ Q = l.length / 4) := ⟨hl, hQ⟩
    have HRun : Hid (∀ (n : Nat) W, n ≤ 100000 → Below w.heap.size w W → Calls Try.prog 10 #[.int .i64 F, .slice ao l.length cc, .agg #[.int .u64 (hI x), .int .u64 (lI x)], .int .i64 (n : Int)] W fun r w' => r = .returned (rsV (ruM F x l (rightE F x) n)) ∧ Below W.heap.size W w') := hid13 (fun n W hn hW => by
      have := run19 F (.slice ao l.length cc) x (n : Int) l W (HA.out.2.1.below hW) (by have := HL.out.1; omega) HA.out.2.2 (by omega)
      rw [Int.toNat_natCast] at this
      exact this)
    have HN : Hid (∀ W, Below w.heap.size w W → Calls Try.prog 12 #[.int .i64 F, .slice ao l.length cc, .agg #[.int .u64 (hI x), .int .u64 (lI x)]] W (NwQ W F x l)) := hid13 (fun W hW => new19 F (.slice ao l.length cc) x l W (HA.out.1.below hW) (by have := HL.out.1; omega))
    obtain ⟨r, hr⟩ : ∃ r, r = ruM F x l (rightE F x) (l.length / 4 + 1) := ⟨_, rfl⟩
    have HE := hid13 (ends_any F x l r hr)
    rw [← hQ] at hr
    have HRr : Hid (ruM F x l (rightE F x) (Q + 1) = r) := hr.symm
    have f0 := HE.out.s0
    have f1 : r.st ≤ (Q : Int) := by have := HE.out.s1; rw [← hQ] at this; exact this
    have f1' : ¬ ((Q : Int) < r.st) := by omega
    have f2 : (r.err == 29) = false := by have := HE.out.e29; simpa using this
    have f3 : r.ex + r.ix ≤ r.st := HE.out.ei
    have f3' : ¬ (r.st < r.ex + r.ix) := by omega
    have f3w : IntKind.i64.wrap (r.ex + r.ix) = r.ex + r.ix := by rw [IntKind.wrap_i64]; have := HE.out.e0; have := HE.out.i0; omega
    have f4 : ¬ (r.hop < 0) := by have := HE.out.o0; omega
    have f4' : 0 ≤ r.hop := HE.out.o0
    have f5 : ¬ (65535 < r.hop) := by have := HE.out.o1; omega
    have f5' : r.hop ≤ 65535 := HE.out.o1
    have K1 := fun W hW => HRun.out (Q + 1) W (by omega) hW
    rw [HRr.out] at K1
    rw [show (((Q + 1 : Nat)) : Int) = (Q : Int) + 1 by push_cast; rfl] at K1
    unfold rsV at K1
    clear hl hQ hr
    go_enter Try.func5, Try.ntmps5
    go_wp2_with fail
    rw [← hV]
    clear hV
    refine K0.mono ?_
    rintro e W0 ⟨rfl, hb0⟩
    have H0 : Hid (Below w.heap.size w W0 ∧ W0.heap[w.heap.size]? = some (.cells #[.int .u64 (hI x), .int .u64 (lI x)] 25)) := ⟨HQ.out.trans (hb0.mono HQ.out.size), (hb0.block _ (lt_16 HW.out)).trans HW.out⟩
    have a0 := at_16 H0.out.2 0 _ rfl
    have a1 := at_16 H0.out.2 1 _ rfl
    clear K0 hb0 HQ HW
    go_wp2_with fail
    refine (K1 _ H0.out.1).mono ?_
    rintro e W1 ⟨rfl, hb1⟩
    have q3 := bl1 W1 (.cells #[.int .i64 r.hop, .int .i64 r.err, .int .i64 r.st, .int .i64 r.ex, .int .i64 r.ix, .int .i64 r.bt] 29)
    have H1 : Hid (Below w.heap.size w (W1.alloc (.cells #[.int .i64 r.hop, .int .i64 r.err, .int .i64 r.st, .int .i64 r.ex, .int .i64 r.ix, .int .i64 r.bt] 29)) ∧ (W1.alloc (.cells #[.int .i64 r.hop, .int .i64 r.err, .int .i64 r.st, .int .i64 r.ex, .int .i64 r.ix, .int .i64 r.bt] 29)).heap[w.heap.size]? = some (.cells #[.int .u64 (hI x), .int .u64 (lI x)] 25) ∧ (W1.alloc (.cells #[.int .i64 r.hop, .int .i64 r.err, .int .i64 r.st, .int .i64 r.ex, .int .i64 r.ix, .int .i64 r.bt] 29)).heap[W1.heap.size]? = some (.cells #[.int .i64 r.hop, .int .i64 r.err, .int .i64 r.st, .int .i64 r.ex, .int .i64 r.ix, .int .i64 r.bt] 29)) :=
      ⟨(H0.out.1.trans (hb1.mono H0.out.1.size)).trans (q3.mono (Nat.le_trans H0.out.1.size hb1.size)), (q3.block _ (Nat.lt_of_lt_of_le (lt_16 H0.out.2) hb1.size)).trans ((hb1.block _ (lt_16 H0.out.2)).trans H0.out.2), new_16 _ _⟩
    have w0 := at_16 H1.out.2.1 0 _ rfl
    have w1 := at_16 H1.out.2.1 1 _ rfl
    clear K1 hb1 q3 H0 a0 a1
    by_cases he : r.err = 0
    · have he1 : (r.err != 0) = false := by simpa using he
      clear he
      go_wp2_with fail
      clear w0 w1
      have HSz : Hid (W1.heap.size < (W1.alloc (.cells #[.int .i64 r.hop, .int .i64 r.err, .int .i64 r.st, .int .i64 r.ex, .int .i64 r.ix, .int .i64 r.bt] 29)).heap.size) := hid13 (by simp)
      obtain ⟨Rb, hRb⟩ : ∃ Rb, Rb = W1.heap.size := ⟨_, rfl⟩
      rw [← hRb] at H1 HSz ⊢
      generalize W1.alloc (.cells #[.int .i64 r.hop, .int .i64 r.err, .int .i64 r.st, .int .i64 r.ex, .int .i64 r.ix, .int .i64 r.bt] 29) = Wc at *
      clear hRb f0 f2 f3 f3' f3w f4 f4' f5 f5' he1 
      have KN := HN.out Wc H1.out.1
      unfold NwQ at KN
      refine KN.mono ?_
      rintro e W2 ⟨B, vb, rfl, hB, hmB, hoB, hgB, hb2⟩
      have HP : Hid (w.heap.size < B ∧ Rb < B ∧ CB B vb l) := ⟨Nat.lt_of_lt_of_le (lt_16 H1.out.2.1) hB, Nat.lt_of_lt_of_le HSz.out hB, cb_own hoB (fun g hg => by have := hgB g hg; omega)⟩
      have HS0 : Hid (Ev9 w F x l Rb r B vb (mc0 (rightE F x)) W2) := ⟨H1.out.1.trans (hb2.mono H1.out.1.size), (hb2.block _ (lt_16 H1.out.2.1)).trans H1.out.2.1, (hb2.block _ (lt_16 H1.out.2.2)).trans H1.out.2.2, hmB, own_rwx hoB⟩
      have p1 := ptr_nil19 B
      have HOB : Hid (MOk F ((l.length / 4 : Nat) : Int) (mc0 (rightE F x))) := mc0_ok (by omega) fam_right
      have HSame := hid13 HE.out.same
      have HG0 : Hid ((goM F x l 0 (mc0 (rightE F x))).en = true ∨ (-1 : Int) < (goM F x l 0 (mc0 (rightE F x))).pl) := hid13 (.inr (by show (-1 : Int) < (mc0 (rightE F x)).pl; unfold mc0; split <;> simp))
      have HT0 : Hid ((goM F x l 0 (mc0 (rightE F x))).st = ((0 : Nat) : Int)) := hid13 (by show (mc0 (rightE F x)).st = 0; unfold mc0; split <;> rfl)
      clear KN hB hmB hoB hgB hb2 H1 HSz HN
      go_wp2_with fail
      go_loopw [12, 13] (fun lv iv wr => ∃ (k : Nat) (la : Int), k ≤ Q + 2 ∧ iv = .int .i64 k ∧ lv = .int .i64 la ∧ Hid ((goM F x l k (mc0 (rightE F x))).en = true ∨ la < (goM F x l k (mc0 (rightE F x))).pl) ∧ Hid ((goM F x l k (mc0 (rightE F x))).st = (k : Int)) ∧ Hid (Ev9 w F x l Rb r B vb (goM F x l k (mc0 (rightE F x))) wr)) (fun lv iv _ => Q + 2 - (intOf iv).toNat)
      case atStart => exact ⟨0, -1, by omega, rfl, rfl, HG0, HT0, HS0⟩
      case round =>
        clear HS0 HG0 HT0
        obtain ⟨k, la, hk, rfl, rfl, HG, HT, HS⟩ := hrel
        have hkQ : k ≤ Q := by
          have h1 := (goM_mok (F := F) (x := x) (l := l) rfl k _ HOB.out).s1
          have h2 := HT.out
          have h3 := HL.out.2
          omega
        have hlt : (k : Int) ≤ (Q : Int) + 1 := by omega
        have hk2 : IntKind.i64.wrap ((k : Int) + 1) = ((k + 1 : Nat) : Int) := by rw [IntKind.wrap_i64]; omega
        have KP := place19 B F vb x _ wr HS.out.m
        have KS := step19 B F vb x _ l wr HS.out.m HP.out.2.2 HS.out.c (by have := HL.out.1; omega) HA.out.2.2 (goM_mok rfl k _ HOB.out)
        rw [goM_one] at KS
        obtain ⟨bs, hbs⟩ : ∃ bs, bs = decide ((goM F x l k (mc0 (rightE F x))).st < (goM F x l (k + 1) (mc0 (rightE F x))).st) := ⟨_, rfl⟩
        obtain ⟨pl, hpl⟩ : ∃ pl, pl = (goM F x l k (mc0 (rightE F x))).pl := ⟨_, rfl⟩
        rw [← hbs] at KS
        rw [← hpl] at KP HG
        cases hb : bs with
        | true =>
          have hst := of_decide_eq_true (hbs.symm.trans hb)
          have hen : (goM F x l k (mc0 (rightE F x))).en = false := by
            cases q : (goM F x l k (mc0 (rightE F x))).en with
            | false => rfl
            | true =>
              rw [goM_add F x l k 1, goM_en q] at hst
              exact absurd hst (Int.lt_irrefl _)
          have e1 : goM F x l (k + 1) (mc0 (rightE F x)) = stM F x l (goM F x l k (mc0 (rightE F x))) := by
            rw [goM_add F x l k 1, show (1 : Nat) = 0 + 1 from rfl, goM_go hen]; rfl
          have hla : la < pl := by
            rcases HG.out with q | q
            · rw [hen] at q; cases q
            · exact q
          have hla2 : ¬ (pl ≤ la) := by omega
          have HG2 : Hid ((goM F x l (k + 1) (mc0 (rightE F x))).en = true ∨ pl < (goM F x l (k + 1) (mc0 (rightE F x))).pl) := hid13 (by
            rw [e1, hpl]
            exact step_grow (goM_mok (F := F) (x := x) (l := l) rfl k _ HOB.out).n0 (by rw [← e1]; exact hst))
          have HT2 : Hid ((goM F x l (k + 1) (mc0 (rightE F x))).st = ((k + 1 : Nat) : Int)) := hid13 (by
            rcases stM_st (F := F) (x := x) (l := l) hen with ⟨q, -⟩ | ⟨q, -⟩
            · rw [e1, q, HT.out]; push_cast; rfl
            · rw [e1, q] at hst; exact absurd hst (Int.lt_irrefl _))
          subst hb
          clear hbs hpl hst hen e1 HG HT
          go_wp2_with fail
          refine KP.mono ?_
          rintro e W3 ⟨rfl, hw3⟩
          replace hw3 := hw3.symm
          subst hw3
          clear KP
          go_wp2_with fail
          refine KS.mono ?_
          rintro e W4 ⟨rfl, h1, h2⟩
          have HS4 := hid13 (HS.out.step HP.out.1 HP.out.2.1 HP.out.2.2 h1 h2)
          clear KS h1 h2 HS
          go_wp2
          go_roundw
          case rel => exact ⟨k + 1, pl, by omega, by push_cast; rfl, rfl, HG2, HT2, HS4⟩
          case measure => simp only [intOf]; omega
        | false =>
          have hst := of_decide_eq_false (hbs.symm.trans hb)
          have hen : (goM F x l (k + 1) (mc0 (rightE F x))).en = true := by
            rw [← goM_one] at hst ⊢
            exact step_false hst
          have hsm := HSame.out (k + 1) hen
          rw [hsm] at KS
          subst hb
          clear hbs hpl hst hen HG HT
          go_wp2_with fail
          refine KP.mono ?_
          rintro e W3 ⟨rfl, hw3⟩
          replace hw3 := hw3.symm
          subst hw3
          clear KP
          go_wp2_with fail
          refine KS.mono ?_
          rintro e W4 ⟨rfl, h1, h2⟩
          have HS4 := hid13 (HS.out.step HP.out.1 HP.out.2.1 HP.out.2.2 h1 h2)
          clear KS h1 h2 HS hsm p1 hlt hk2 hkQ hk
          have HKS : Hid (∀ W, Ev9 w F x l Rb r B vb r W → Calls Try.prog 16 #[.pointer (some ⟨B, 0, none⟩)] W fun e w' => e = .returned (.bool false) ∧ Ev9 w F x l Rb r B vb r w') := hid13 (fun W hW => by
            have hok : MOk F ((l.length / 4 : Nat) : Int) r := by
              have h9 := HE.out.same (l.length / 4 + 1) (goM_ends rfl HOB.out _ (by omega))
              rw [← h9]
              exact goM_mok rfl _ _ HOB.out
            have := step19 B F vb x r l W hW.m HP.out.2.2 hW.c (by have := HL.out.1; omega) HA.out.2.2 hok
            rw [goM_en HE.out.en] at this
            refine this.mono ?_
            rintro e W9 ⟨rfl, h1, h2⟩
            exact ⟨by rw [decide_eq_false (Int.lt_irrefl _)], hW.step HP.out.1 HP.out.2.1 HP.out.2.2 h1 h2⟩)
          have hqR := fun W => eqR_run r.hop r.err r.st r.ex r.ix r.bt r.hop r.err r.st r.ex r.ix r.bt W
          simp only [beq_self_eq_true, Bool.and_true, Bool.and_self] at hqR
          go_wp2_with fail
          refine qw_region (C := (Ev9 w F x l Rb r B vb r)) (by kernel_rfl) (by kernel_rfl) (HS4.out.below (Below.refl _ _).drew) ?_
          refine qw_run (v := .pointer (some ⟨B, 0, none⟩)) (by rfl) ?_ ?_
          · (intro w9 hC; clear hC; go_simp; first | done | (simp; done) | (simp [*]; done) | omega | (simp; omega) | (rw [IntKind.wrap_i64]; omega) | (intro hx; omega) | rfl)
          simp only [Act.put, List.setIfInBounds_toArray, List.set_cons_zero, List.set_cons_succ]
          refine qw_call (v := .bool false) (f := 16) (args := #[.pointer (some ⟨B, 0, none⟩)]) (by rfl) ?_ ?_ ?_
          · (intro w9 hC; clear hC; go_simp; first | done | (simp; done) | rfl)
          · exact fun w9 hC => HKS.out w9 hC
          simp only [Act.put, List.setIfInBounds_toArray, List.set_cons_zero, List.set_cons_succ]
          refine qw_run (v := .bool false) (by rfl) ?_ ?_
          · (intro w9 hC; clear hC; go_simp; first | done | (simp; done) | (simp [*]; done) | omega | (simp; omega) | (rw [IntKind.wrap_i64]; omega) | (intro hx; omega) | rfl)
          simp only [Act.put, List.setIfInBounds_toArray, List.set_cons_zero, List.set_cons_succ]
          refine qw_run (v := .pointer (some ⟨B, 0, none⟩)) (by rfl) ?_ ?_
          · (intro w9 hC; clear hC; go_simp; first | done | (simp; done) | (simp [*]; done) | omega | (simp; omega) | (rw [IntKind.wrap_i64]; omega) | (intro hx; omega) | rfl)
          simp only [Act.put, List.setIfInBounds_toArray, List.set_cons_zero, List.set_cons_succ]
          refine qw_call (v := .agg #[.int .i64 r.hop, .int .i64 r.err, .int .i64 r.st, .int .i64 r.ex, .int .i64 r.ix, .int .i64 r.bt]) (f := 14) (args := #[.pointer (some ⟨B, 0, none⟩)]) (by rfl) ?_ ?_ ?_
          · (intro w9 hC; clear hC; go_simp; first | done | (simp; done) | rfl)
          · exact fun w9 hC => (result19 B F vb x r w9 hC.m).mono fun e w' ⟨he, hb⟩ => ⟨he, hC.below hb⟩
          simp only [Act.put, List.setIfInBounds_toArray, List.set_cons_zero, List.set_cons_succ]
          refine qw_run (v := .agg #[.int .i64 r.hop, .int .i64 r.err, .int .i64 r.st, .int .i64 r.ex, .int .i64 r.ix, .int .i64 r.bt]) (by rfl) ?_ ?_
          · (intro w9 hC; have z0 := at_16 hC.rr 0 _ rfl; have z1 := at_16 hC.rr 1 _ rfl; have z2 := at_16 hC.rr 2 _ rfl; have z3 := at_16 hC.rr 3 _ rfl; have z4 := at_16 hC.rr 4 _ rfl; have z5 := at_16 hC.rr 5 _ rfl; clear hC; go_simp; first | done | (simp; done) | (simp [*]; done) | omega | (simp; omega) | (rw [IntKind.wrap_i64]; omega) | (intro hx; omega) | rfl)
          simp only [Act.put, List.setIfInBounds_toArray, List.set_cons_zero, List.set_cons_succ]
          refine qw_run (v := .bool false) (by rfl) ?_ ?_
          · (intro w9 hC; have hq := hqR w9; clear hC; go_simp; first | done | (simp; done) | (simp [*]; done) | omega | (simp; omega) | (rw [IntKind.wrap_i64]; omega) | (intro hx; omega) | rfl)
          simp only [Act.put, List.setIfInBounds_toArray, List.set_cons_zero, List.set_cons_succ]
          refine qw_run (v := .bool false) (by rfl) ?_ ?_
          · (intro w9 hC; clear hC; go_simp; first | done | (simp; done) | (simp [*]; done) | omega | (simp; omega) | (rw [IntKind.wrap_i64]; omega) | (intro hx; omega) | rfl)
          simp only [Act.put, List.setIfInBounds_toArray, List.set_cons_zero, List.set_cons_succ]
          refine qw_nil ?_
          intro W5 hW5
          have HS5 := hid13 hW5
          clear hW5 HS4 HKS
          have hz : IntKind.i64.wrap ((Q : Int) + 1 + 1) = (Q : Int) + 1 + 1 := by rw [IntKind.wrap_i64]; omega
          have KW := within19 fu ((Q : Int) + 1 + 1) W5 (by omega) (by omega)
          obtain ⟨j, hj⟩ : ∃ j : Nat, (j : Int) = fu % ((Q : Int) + 1 + 1) := ⟨(fu % ((Q : Int) + 1 + 1)).toNat, by have := Int.emod_nonneg fu (b := (Q : Int) + 1 + 1) (by omega); omega⟩
          have hj2 : j ≤ Q + 1 := by have := Int.emod_lt_of_pos fu (b := (Q : Int) + 1 + 1) (by omega); omega
          rw [← hj] at KW
          have K6 := HRun.out j W5 (by omega) HS5.out.lo
          have HM := hid13 (HE.out.more j (by have := HL.out.2; omega))
          have HNo := hid13 (HE.out.none j)
          have HLe := hid13 (HE.out.less j (by have := HL.out.2; omega))
          have HWi := hid13 HE.out.wide
          have HS0 := hid13 HE.out.s0
          obtain ⟨s, hs⟩ : ∃ s, s = ruM F x l (rightE F x) j := ⟨_, rfl⟩
          rw [← hs] at K6 HM HNo HLe
          unfold rsV at K6
          have k0 := at_16 HS5.out.a 0 _ rfl
          have k1 := at_16 HS5.out.a 1 _ rfl
          clear hj hs HOB HSame HL HRun HA HRr HP HE
          go_wp2_with fail
          refine KW.mono ?_
          rintro e W6 ⟨rfl, hw6⟩
          replace hw6 := hw6.symm
          subst hw6
          clear KW hz
          go_wp2_with fail
          refine K6.mono ?_
          rintro e W7 ⟨rfl, hb7⟩
          have q7 := bl1 W7 (.cells #[.int .i64 s.hop, .int .i64 s.err, .int .i64 s.st, .int .i64 s.ex, .int .i64 s.ix, .int .i64 s.bt] 29)
          have H7 := hid13 ((HS5.out.below hb7).below q7)
          have r0 : (W7.alloc (.cells #[.int .i64 s.hop, .int .i64 s.err, .int .i64 s.st, .int .i64 s.ex, .int .i64 s.ix, .int .i64 s.bt] 29)).cell? ⟨Rb, 0, none⟩ = some (.int .i64 r.hop) := at_16 H7.out.rr 0 _ rfl
          have r1 : (W7.alloc (.cells #[.int .i64 s.hop, .int .i64 s.err, .int .i64 s.st, .int .i64 s.ex, .int .i64 s.ix, .int .i64 s.bt] 29)).cell? ⟨Rb, 1, none⟩ = some (.int .i64 r.err) := at_16 H7.out.rr 1 _ rfl
          have r2 : (W7.alloc (.cells #[.int .i64 s.hop, .int .i64 s.err, .int .i64 s.st, .int .i64 s.ex, .int .i64 s.ix, .int .i64 s.bt] 29)).cell? ⟨Rb, 2, none⟩ = some (.int .i64 r.st) := at_16 H7.out.rr 2 _ rfl
          have r3 : (W7.alloc (.cells #[.int .i64 s.hop, .int .i64 s.err, .int .i64 s.st, .int .i64 s.ex, .int .i64 s.ix, .int .i64 s.bt] 29)).cell? ⟨Rb, 3, none⟩ = some (.int .i64 r.ex) := at_16 H7.out.rr 3 _ rfl
          have r4 : (W7.alloc (.cells #[.int .i64 s.hop, .int .i64 s.err, .int .i64 s.st, .int .i64 s.ex, .int .i64 s.ix, .int .i64 s.bt] 29)).cell? ⟨Rb, 4, none⟩ = some (.int .i64 r.ix) := at_16 H7.out.rr 4 _ rfl
          have r5 : (W7.alloc (.cells #[.int .i64 s.hop, .int .i64 s.err, .int .i64 s.st, .int .i64 s.ex, .int .i64 s.ix, .int .i64 s.bt] 29)).cell? ⟨Rb, 5, none⟩ = some (.int .i64 r.bt) := at_16 H7.out.rr 5 _ rfl
          have ms : IntKind.i64.wrap (r.st + 1) = r.st + 1 := by rw [IntKind.wrap_i64]; have := HS0.out; omega
          clear K6 hb7 q7 HS5 k0 k1
          by_cases A1 : r.st + 1 ≤ (j : Int)
          · have hsr := HM.out (.inl A1)
            subst hsr
            clear HM HNo HLe HWi
            go_wp2
            go_ret
            exact ⟨rfl, H7.out.lo⟩
          · have A1' : (j : Int) < r.st + 1 := by omega
            by_cases A2 : (j : Int) = r.st
            · have A2' : ((j : Int) == r.st) = true := by simpa using A2
              by_cases A3 : r.err = 0
              · have A3' : (r.err == 0) = true := by simpa using A3
                have hsr := HM.out (.inr ⟨A2, A3⟩)
                subst hsr
                clear HM HNo HLe HWi A2 A3
                go_wp2
                go_ret
                exact ⟨rfl, H7.out.lo⟩
              · have A3' : (r.err == 0) = false := by simpa using A3
                have hnot : ¬ (r.st + 1 ≤ (j : Int) ∨ (j : Int) = r.st ∧ r.err = 0) := fun q => by rcases q with q | q; exact A1 q; exact A3 q.2
                clear HM A2 A3
                by_cases B0 : F ≠ 32 ∧ F ≠ 128
                · have hsr := HNo.out (.inl B0)
                  have b1 : (F != 32) = true := by simpa using B0.1
                  have b2 : (F != 128) = true := by simpa using B0.2
                  subst hsr
                  clear HNo HLe HWi B0 hnot
                  go_wp2
                  go_ret
                  exact ⟨rfl, H7.out.lo⟩
                · by_cases B6 : r.err = 6
                  · have hst := HWi.out B6
                    have hsr := HNo.out (.inr ⟨B6, hst⟩)
                    have c6 : (r.err == 6) = true := by simpa using B6
                    have c0 : (r.st == 0) = true := by simpa using hst
                    subst hsr
                    clear HNo HLe HWi B6 hst hnot
                    by_cases B1 : F = 32
                    · have b1 : (F != 32) = false := by simpa using B1
                      clear B0 B1
                      go_wp2
                      go_ret
                      exact ⟨rfl, H7.out.lo⟩
                    · have b1 : (F != 32) = true := by simpa using B1
                      have b2 : (F != 128) = false := by
                        have : F = 128 := by
                          by_cases q : F = 128
                          · exact q
                          · exact absurd ⟨B1, q⟩ B0
                        simpa using this
                      clear B0 B1
                      go_wp2
                      go_ret
                      exact ⟨rfl, H7.out.lo⟩
                  · have c6 : (r.err == 6) = false := by simpa using B6
                    obtain ⟨s1, s2, s3, s4, s5⟩ := HLe.out hnot (fun q => by rcases q with q | q; exact B0 q; exact B6 q.1)
                    have s1' : (s.err == 29) = true := by simpa using s1
                    have s2' : (s.st == (j : Int)) = true := by simpa using s2
                    have s3' : (s.hop == 0) = true := by simpa using s3
                    clear HNo HLe HWi B6 hnot s1 s2 s3
                    by_cases B1 : F = 32
                    · have b1 : (F != 32) = false := by simpa using B1
                      clear B0 B1
                      go_wp2
                      go_ret
                      exact ⟨rfl, H7.out.lo⟩
                    · have b1 : (F != 32) = true := by simpa using B1
                      have b2 : (F != 128) = false := by
                        have : F = 128 := by
                          by_cases q : F = 128
                          · exact q
                          · exact absurd ⟨B1, q⟩ B0
                        simpa using this
                      clear B0 B1
                      go_wp2
                      go_ret
                      exact ⟨rfl, H7.out.lo⟩
            · have A2' : ((j : Int) == r.st) = false := by simpa using A2
              have hnot : ¬ (r.st + 1 ≤ (j : Int) ∨ (j : Int) = r.st ∧ r.err = 0) := fun q => by rcases q with q | q; exact A1 q; exact A2 q.1
              clear HM A2
              by_cases B0 : F ≠ 32 ∧ F ≠ 128
              · have hsr := HNo.out (.inl B0)
                have b1 : (F != 32) = true := by simpa using B0.1
                have b2 : (F != 128) = true := by simpa using B0.2
                subst hsr
                clear HNo HLe HWi B0 hnot
                go_wp2
                go_ret
                exact ⟨rfl, H7.out.lo⟩
              · by_cases B6 : r.err = 6
                · have hst := HWi.out B6
                  have hsr := HNo.out (.inr ⟨B6, hst⟩)
                  have c6 : (r.err == 6) = true := by simpa using B6
                  have c0 : (r.st == 0) = true := by simpa using hst
                  subst hsr
                  clear HNo HLe HWi B6 hst hnot
                  by_cases B1 : F = 32
                  · have b1 : (F != 32) = false := by simpa using B1
                    clear B0 B1
                    go_wp2
                    go_ret
                    exact ⟨rfl, H7.out.lo⟩
                  · have b1 : (F != 32) = true := by simpa using B1
                    have b2 : (F != 128) = false := by
                      have : F = 128 := by
                        by_cases q : F = 128
                        · exact q
                        · exact absurd ⟨B1, q⟩ B0
                      simpa using this
                    clear B0 B1
                    go_wp2
                    go_ret
                    exact ⟨rfl, H7.out.lo⟩
                · have c6 : (r.err == 6) = false := by simpa using B6
                  obtain ⟨s1, s2, s3, s4, s5⟩ := HLe.out hnot (fun q => by rcases q with q | q; exact B0 q; exact B6 q.1)
                  have s1' : (s.err == 29) = true := by simpa using s1
                  have s2' : (s.st == (j : Int)) = true := by simpa using s2
                  have s3' : (s.hop == 0) = true := by simpa using s3
                  clear HNo HLe HWi B6 hnot s1 s2 s3
                  by_cases B1 : F = 32
                  · have b1 : (F != 32) = false := by simpa using B1
                    clear B0 B1
                    go_wp2
                    go_ret
                    exact ⟨rfl, H7.out.lo⟩
                  · have b1 : (F != 32) = true := by simpa using B1
                    have b2 : (F != 128) = false := by
                      have : F = 128 := by
                        by_cases q : F = 128
                        · exact q
                        · exact absurd ⟨B1, q⟩ B0
                      simpa using this
                    clear B0 B1
                    go_wp2
                    go_ret
                    exact ⟨rfl, H7.out.lo⟩
    · have he1 : (r.err != 0) = true := by simpa using he
      have he2 : (r.hop != 0) = false := by simpa using HE.out.er he
      clear he
      go_wp2_with fail
      clear w0 w1
      have HSz : Hid (W1.heap.size < (W1.alloc (.cells #[.int .i64 r.hop, .int .i64 r.err, .int .i64 r.st, .int .i64 r.ex, .int .i64 r.ix, .int .i64 r.bt] 29)).heap.size) := hid13 (by simp)
      obtain ⟨Rb, hRb⟩ : ∃ Rb, Rb = W1.heap.size := ⟨_, rfl⟩
      rw [← hRb] at H1 HSz ⊢
      generalize W1.alloc (.cells #[.int .i64 r.hop, .int .i64 r.err, .int .i64 r.st, .int .i64 r.ex, .int .i64 r.ix, .int .i64 r.bt] 29) = Wc at *
      clear hRb f0 f2 f3 f3' f3w f4 f4' f5 f5' he1 he2
      have KN := HN.out Wc H1.out.1
      unfold NwQ at KN
      refine KN.mono ?_
      rintro e W2 ⟨B, vb, rfl, hB, hmB, hoB, hgB, hb2⟩
      have HP : Hid (w.heap.size < B ∧ Rb < B ∧ CB B vb l) := ⟨Nat.lt_of_lt_of_le (lt_16 H1.out.2.1) hB, Nat.lt_of_lt_of_le HSz.out hB, cb_own hoB (fun g hg => by have := hgB g hg; omega)⟩
      have HS0 : Hid (Ev9 w F x l Rb r B vb (mc0 (rightE F x)) W2) := ⟨H1.out.1.trans (hb2.mono H1.out.1.size), (hb2.block _ (lt_16 H1.out.2.1)).trans H1.out.2.1, (hb2.block _ (lt_16 H1.out.2.2)).trans H1.out.2.2, hmB, own_rwx hoB⟩
      have p1 := ptr_nil19 B
      have HOB : Hid (MOk F ((l.length / 4 : Nat) : Int) (mc0 (rightE F x))) := mc0_ok (by omega) fam_right
      have HSame := hid13 HE.out.same
      have HG0 : Hid ((goM F x l 0 (mc0 (rightE F x))).en = true ∨ (-1 : Int) < (goM F x l 0 (mc0 (rightE F x))).pl) := hid13 (.inr (by show (-1 : Int) < (mc0 (rightE F x)).pl; unfold mc0; split <;> simp))
      have HT0 : Hid ((goM F x l 0 (mc0 (rightE F x))).st = ((0 : Nat) : Int)) := hid13 (by show (mc0 (rightE F x)).st = 0; unfold mc0; split <;> rfl)
      clear KN hB hmB hoB hgB hb2 H1 HSz HN
      go_wp2_with fail
      go_loopw [12, 13] (fun lv iv wr => ∃ (k : Nat) (la : Int), k ≤ Q + 2 ∧ iv = .int .i64 k ∧ lv = .int .i64 la ∧ Hid ((goM F x l k (mc0 (rightE F x))).en = true ∨ la < (goM F x l k (mc0 (rightE F x))).pl) ∧ Hid ((goM F x l k (mc0 (rightE F x))).st = (k : Int)) ∧ Hid (Ev9 w F x l Rb r B vb (goM F x l k (mc0 (rightE F x))) wr)) (fun lv iv _ => Q + 2 - (intOf iv).toNat)
      case atStart => exact ⟨0, -1, by omega, rfl, rfl, HG0, HT0, HS0⟩
      case round =>
        clear HS0 HG0 HT0
        obtain ⟨k, la, hk, rfl, rfl, HG, HT, HS⟩ := hrel
        have hkQ : k ≤ Q := by
          have h1 := (goM_mok (F := F) (x := x) (l := l) rfl k _ HOB.out).s1
          have h2 := HT.out
          have h3 := HL.out.2
          omega
        have hlt : (k : Int) ≤ (Q : Int) + 1 := by omega
        have hk2 : IntKind.i64.wrap ((k : Int) + 1) = ((k + 1 : Nat) : Int) := by rw [IntKind.wrap_i64]; omega
        have KP := place19 B F vb x _ wr HS.out.m
        have KS := step19 B F vb x _ l wr HS.out.m HP.out.2.2 HS.out.c (by have := HL.out.1; omega) HA.out.2.2 (goM_mok rfl k _ HOB.out)
        rw [goM_one] at KS
        obtain ⟨bs, hbs⟩ : ∃ bs, bs = decide ((goM F x l k (mc0 (rightE F x))).st < (goM F x l (k + 1) (mc0 (rightE F x))).st) := ⟨_, rfl⟩
        obtain ⟨pl, hpl⟩ : ∃ pl, pl = (goM F x l k (mc0 (rightE F x))).pl := ⟨_, rfl⟩
        rw [← hbs] at KS
        rw [← hpl] at KP HG
        cases hb : bs with
        | true =>
          have hst := of_decide_eq_true (hbs.symm.trans hb)
          have hen : (goM F x l k (mc0 (rightE F x))).en = false := by
            cases q : (goM F x l k (mc0 (rightE F x))).en with
            | false => rfl
            | true =>
              rw [goM_add F x l k 1, goM_en q] at hst
              exact absurd hst (Int.lt_irrefl _)
          have e1 : goM F x l (k + 1) (mc0 (rightE F x)) = stM F x l (goM F x l k (mc0 (rightE F x))) := by
            rw [goM_add F x l k 1, show (1 : Nat) = 0 + 1 from rfl, goM_go hen]; rfl
          have hla : la < pl := by
            rcases HG.out with q | q
            · rw [hen] at q; cases q
            · exact q
          have hla2 : ¬ (pl ≤ la) := by omega
          have HG2 : Hid ((goM F x l (k + 1) (mc0 (rightE F x))).en = true ∨ pl < (goM F x l (k + 1) (mc0 (rightE F x))).pl) := hid13 (by
            rw [e1, hpl]
            exact step_grow (goM_mok (F := F) (x := x) (l := l) rfl k _ HOB.out).n0 (by rw [← e1]; exact hst))
          have HT2 : Hid ((goM F x l (k + 1) (mc0 (rightE F x))).st = ((k + 1 : Nat) : Int)) := hid13 (by
            rcases stM_st (F := F) (x := x) (l := l) hen with ⟨q, -⟩ | ⟨q, -⟩
            · rw [e1, q, HT.out]; push_cast; rfl
            · rw [e1, q] at hst; exact absurd hst (Int.lt_irrefl _))
          subst hb
          clear hbs hpl hst hen e1 HG HT
          go_wp2_with fail
          refine KP.mono ?_
          rintro e W3 ⟨rfl, hw3⟩
          replace hw3 := hw3.symm
          subst hw3
          clear KP
          go_wp2_with fail
          refine KS.mono ?_
          rintro e W4 ⟨rfl, h1, h2⟩
          have HS4 := hid13 (HS.out.step HP.out.1 HP.out.2.1 HP.out.2.2 h1 h2)
          clear KS h1 h2 HS
          go_wp2
          go_roundw
          case rel => exact ⟨k + 1, pl, by omega, by push_cast; rfl, rfl, HG2, HT2, HS4⟩
          case measure => simp only [intOf]; omega
        | false =>
          have hst := of_decide_eq_false (hbs.symm.trans hb)
          have hen : (goM F x l (k + 1) (mc0 (rightE F x))).en = true := by
            rw [← goM_one] at hst ⊢
            exact step_false hst
          have hsm := HSame.out (k + 1) hen
          rw [hsm] at KS
          subst hb
          clear hbs hpl hst hen HG HT
          go_wp2_with fail
          refine KP.mono ?_
          rintro e W3 ⟨rfl, hw3⟩
          replace hw3 := hw3.symm
          subst hw3
          clear KP
          go_wp2_with fail
          refine KS.mono ?_
          rintro e W4 ⟨rfl, h1, h2⟩
          have HS4 := hid13 (HS.out.step HP.out.1 HP.out.2.1 HP.out.2.2 h1 h2)
          clear KS h1 h2 HS hsm p1 hlt hk2 hkQ hk
          have HKS : Hid (∀ W, Ev9 w F x l Rb r B vb r W → Calls Try.prog 16 #[.pointer (some ⟨B, 0, none⟩)] W fun e w' => e = .returned (.bool false) ∧ Ev9 w F x l Rb r B vb r w') := hid13 (fun W hW => by
            have hok : MOk F ((l.length / 4 : Nat) : Int) r := by
              have h9 := HE.out.same (l.length / 4 + 1) (goM_ends rfl HOB.out _ (by omega))
              rw [← h9]
              exact goM_mok rfl _ _ HOB.out
            have := step19 B F vb x r l W hW.m HP.out.2.2 hW.c (by have := HL.out.1; omega) HA.out.2.2 hok
            rw [goM_en HE.out.en] at this
            refine this.mono ?_
            rintro e W9 ⟨rfl, h1, h2⟩
            exact ⟨by rw [decide_eq_false (Int.lt_irrefl _)], hW.step HP.out.1 HP.out.2.1 HP.out.2.2 h1 h2⟩)
          have hqR := fun W => eqR_run r.hop r.err r.st r.ex r.ix r.bt r.hop r.err r.st r.ex r.ix r.bt W
          simp only [beq_self_eq_true, Bool.and_true, Bool.and_self] at hqR
          go_wp2_with fail
          refine qw_region (C := (Ev9 w F x l Rb r B vb r)) (by kernel_rfl) (by kernel_rfl) (HS4.out.below (Below.refl _ _).drew) ?_
          refine qw_run (v := .pointer (some ⟨B, 0, none⟩)) (by rfl) ?_ ?_
          · (intro w9 hC; clear hC; go_simp; first | done | (simp; done) | (simp [*]; done) | omega | (simp; omega) | (rw [IntKind.wrap_i64]; omega) | (intro hx; omega) | rfl)
          simp only [Act.put, List.setIfInBounds_toArray, List.set_cons_zero, List.set_cons_succ]
          refine qw_call (v := .bool false) (f := 16) (args := #[.pointer (some ⟨B, 0, none⟩)]) (by rfl) ?_ ?_ ?_
          · (intro w9 hC; clear hC; go_simp; first | done | (simp; done) | rfl)
          · exact fun w9 hC => HKS.out w9 hC
          simp only [Act.put, List.setIfInBounds_toArray, List.set_cons_zero, List.set_cons_succ]
          refine qw_run (v := .bool false) (by rfl) ?_ ?_
          · (intro w9 hC; clear hC; go_simp; first | done | (simp; done) | (simp [*]; done) | omega | (simp; omega) | (rw [IntKind.wrap_i64]; omega) | (intro hx; omega) | rfl)
          simp only [Act.put, List.setIfInBounds_toArray, List.set_cons_zero, List.set_cons_succ]
          refine qw_run (v := .pointer (some ⟨B, 0, none⟩)) (by rfl) ?_ ?_
          · (intro w9 hC; clear hC; go_simp; first | done | (simp; done) | (simp [*]; done) | omega | (simp; omega) | (rw [IntKind.wrap_i64]; omega) | (intro hx; omega) | rfl)
          simp only [Act.put, List.setIfInBounds_toArray, List.set_cons_zero, List.set_cons_succ]
          refine qw_call (v := .agg #[.int .i64 r.hop, .int .i64 r.err, .int .i64 r.st, .int .i64 r.ex, .int .i64 r.ix, .int .i64 r.bt]) (f := 14) (args := #[.pointer (some ⟨B, 0, none⟩)]) (by rfl) ?_ ?_ ?_
          · (intro w9 hC; clear hC; go_simp; first | done | (simp; done) | rfl)
          · exact fun w9 hC => (result19 B F vb x r w9 hC.m).mono fun e w' ⟨he, hb⟩ => ⟨he, hC.below hb⟩
          simp only [Act.put, List.setIfInBounds_toArray, List.set_cons_zero, List.set_cons_succ]
          refine qw_run (v := .agg #[.int .i64 r.hop, .int .i64 r.err, .int .i64 r.st, .int .i64 r.ex, .int .i64 r.ix, .int .i64 r.bt]) (by rfl) ?_ ?_
          · (intro w9 hC; have z0 := at_16 hC.rr 0 _ rfl; have z1 := at_16 hC.rr 1 _ rfl; have z2 := at_16 hC.rr 2 _ rfl; have z3 := at_16 hC.rr 3 _ rfl; have z4 := at_16 hC.rr 4 _ rfl; have z5 := at_16 hC.rr 5 _ rfl; clear hC; go_simp; first | done | (simp; done) | (simp [*]; done) | omega | (simp; omega) | (rw [IntKind.wrap_i64]; omega) | (intro hx; omega) | rfl)
          simp only [Act.put, List.setIfInBounds_toArray, List.set_cons_zero, List.set_cons_succ]
          refine qw_run (v := .bool false) (by rfl) ?_ ?_
          · (intro w9 hC; have hq := hqR w9; clear hC; go_simp; first | done | (simp; done) | (simp [*]; done) | omega | (simp; omega) | (rw [IntKind.wrap_i64]; omega) | (intro hx; omega) | rfl)
          simp only [Act.put, List.setIfInBounds_toArray, List.set_cons_zero, List.set_cons_succ]
          refine qw_run (v := .bool false) (by rfl) ?_ ?_
          · (intro w9 hC; clear hC; go_simp; first | done | (simp; done) | (simp [*]; done) | omega | (simp; omega) | (rw [IntKind.wrap_i64]; omega) | (intro hx; omega) | rfl)
          simp only [Act.put, List.setIfInBounds_toArray, List.set_cons_zero, List.set_cons_succ]
          refine qw_nil ?_
          intro W5 hW5
          have HS5 := hid13 hW5
          clear hW5 HS4 HKS
          have hz : IntKind.i64.wrap ((Q : Int) + 1 + 1) = (Q : Int) + 1 + 1 := by rw [IntKind.wrap_i64]; omega
          have KW := within19 fu ((Q : Int) + 1 + 1) W5 (by omega) (by omega)
          obtain ⟨j, hj⟩ : ∃ j : Nat, (j : Int) = fu % ((Q : Int) + 1 + 1) := ⟨(fu % ((Q : Int) + 1 + 1)).toNat, by have := Int.emod_nonneg fu (b := (Q : Int) + 1 + 1) (by omega); omega⟩
          have hj2 : j ≤ Q + 1 := by have := Int.emod_lt_of_pos fu (b := (Q : Int) + 1 + 1) (by omega); omega
          rw [← hj] at KW
          have K6 := HRun.out j W5 (by omega) HS5.out.lo
          have HM := hid13 (HE.out.more j (by have := HL.out.2; omega))
          have HNo := hid13 (HE.out.none j)
          have HLe := hid13 (HE.out.less j (by have := HL.out.2; omega))
          have HWi := hid13 HE.out.wide
          have HS0 := hid13 HE.out.s0
          obtain ⟨s, hs⟩ : ∃ s, s = ruM F x l (rightE F x) j := ⟨_, rfl⟩
          rw [← hs] at K6 HM HNo HLe
          unfold rsV at K6
          have k0 := at_16 HS5.out.a 0 _ rfl
          have k1 := at_16 HS5.out.a 1 _ rfl
          clear hj hs HOB HSame HL HRun HA HRr HP HE
          go_wp2_with fail
          refine KW.mono ?_
          rintro e W6 ⟨rfl, hw6⟩
          replace hw6 := hw6.symm
          subst hw6
          clear KW hz
          go_wp2_with fail
          refine K6.mono ?_
          rintro e W7 ⟨rfl, hb7⟩
          have q7 := bl1 W7 (.cells #[.int .i64 s.hop, .int .i64 s.err, .int .i64 s.st, .int .i64 s.ex, .int .i64 s.ix, .int .i64 s.bt] 29)
          have H7 := hid13 ((HS5.out.below hb7).below q7)
          have r0 : (W7.alloc (.cells #[.int .i64 s.hop, .int .i64 s.err, .int .i64 s.st, .int .i64 s.ex, .int .i64 s.ix, .int .i64 s.bt] 29)).cell? ⟨Rb, 0, none⟩ = some (.int .i64 r.hop) := at_16 H7.out.rr 0 _ rfl
          have r1 : (W7.alloc (.cells #[.int .i64 s.hop, .int .i64 s.err, .int .i64 s.st, .int .i64 s.ex, .int .i64 s.ix, .int .i64 s.bt] 29)).cell? ⟨Rb, 1, none⟩ = some (.int .i64 r.err) := at_16 H7.out.rr 1 _ rfl
          have r2 : (W7.alloc (.cells #[.int .i64 s.hop, .int .i64 s.err, .int .i64 s.st, .int .i64 s.ex, .int .i64 s.ix, .int .i64 s.bt] 29)).cell? ⟨Rb, 2, none⟩ = some (.int .i64 r.st) := at_16 H7.out.rr 2 _ rfl
          have r3 : (W7.alloc (.cells #[.int .i64 s.hop, .int .i64 s.err, .int .i64 s.st, .int .i64 s.ex, .int .i64 s.ix, .int .i64 s.bt] 29)).cell? ⟨Rb, 3, none⟩ = some (.int .i64 r.ex) := at_16 H7.out.rr 3 _ rfl
          have r4 : (W7.alloc (.cells #[.int .i64 s.hop, .int .i64 s.err, .int .i64 s.st, .int .i64 s.ex, .int .i64 s.ix, .int .i64 s.bt] 29)).cell? ⟨Rb, 4, none⟩ = some (.int .i64 r.ix) := at_16 H7.out.rr 4 _ rfl
          have r5 : (W7.alloc (.cells #[.int .i64 s.hop, .int .i64 s.err, .int .i64 s.st, .int .i64 s.ex, .int .i64 s.ix, .int .i64 s.bt] 29)).cell? ⟨Rb, 5, none⟩ = some (.int .i64 r.bt) := at_16 H7.out.rr 5 _ rfl
          have ms : IntKind.i64.wrap (r.st + 1) = r.st + 1 := by rw [IntKind.wrap_i64]; have := HS0.out; omega
          clear K6 hb7 q7 HS5 k0 k1
          by_cases A1 : r.st + 1 ≤ (j : Int)
          · have hsr := HM.out (.inl A1)
            subst hsr
            clear HM HNo HLe HWi
            go_wp2
            go_ret
            exact ⟨rfl, H7.out.lo⟩
          · have A1' : (j : Int) < r.st + 1 := by omega
            by_cases A2 : (j : Int) = r.st
            · have A2' : ((j : Int) == r.st) = true := by simpa using A2
              by_cases A3 : r.err = 0
              · have A3' : (r.err == 0) = true := by simpa using A3
                have hsr := HM.out (.inr ⟨A2, A3⟩)
                subst hsr
                clear HM HNo HLe HWi A2 A3
                go_wp2
                go_ret
                exact ⟨rfl, H7.out.lo⟩
              · have A3' : (r.err == 0) = false := by simpa using A3
                have hnot : ¬ (r.st + 1 ≤ (j : Int) ∨ (j : Int) = r.st ∧ r.err = 0) := fun q => by rcases q with q | q; exact A1 q; exact A3 q.2
                clear HM A2 A3
                by_cases B0 : F ≠ 32 ∧ F ≠ 128
                · have hsr := HNo.out (.inl B0)
                  have b1 : (F != 32) = true := by simpa using B0.1
                  have b2 : (F != 128) = true := by simpa using B0.2
                  subst hsr
                  clear HNo HLe HWi B0 hnot
                  go_wp2
                  go_ret
                  exact ⟨rfl, H7.out.lo⟩
                · by_cases B6 : r.err = 6
                  · have hst := HWi.out B6
                    have hsr := HNo.out (.inr ⟨B6, hst⟩)
                    have c6 : (r.err == 6) = true := by simpa using B6
                    have c0 : (r.st == 0) = true := by simpa using hst
                    subst hsr
                    clear HNo HLe HWi B6 hst hnot
                    by_cases B1 : F = 32
                    · have b1 : (F != 32) = false := by simpa using B1
                      clear B0 B1
                      go_wp2
                      go_ret
                      exact ⟨rfl, H7.out.lo⟩
                    · have b1 : (F != 32) = true := by simpa using B1
                      have b2 : (F != 128) = false := by
                        have : F = 128 := by
                          by_cases q : F = 128
                          · exact q
                          · exact absurd ⟨B1, q⟩ B0
                        simpa using this
                      clear B0 B1
                      go_wp2
                      go_ret
                      exact ⟨rfl, H7.out.lo⟩
                  · have c6 : (r.err == 6) = false := by simpa using B6
                    obtain ⟨s1, s2, s3, s4, s5⟩ := HLe.out hnot (fun q => by rcases q with q | q; exact B0 q; exact B6 q.1)
                    have s1' : (s.err == 29) = true := by simpa using s1
                    have s2' : (s.st == (j : Int)) = true := by simpa using s2
                    have s3' : (s.hop == 0) = true := by simpa using s3
                    clear HNo HLe HWi B6 hnot s1 s2 s3
                    by_cases B1 : F = 32
                    · have b1 : (F != 32) = false := by simpa using B1
                      clear B0 B1
                      go_wp2
                      go_ret
                      exact ⟨rfl, H7.out.lo⟩
                    · have b1 : (F != 32) = true := by simpa using B1
                      have b2 : (F != 128) = false := by
                        have : F = 128 := by
                          by_cases q : F = 128
                          · exact q
                          · exact absurd ⟨B1, q⟩ B0
                        simpa using this
                      clear B0 B1
                      go_wp2
                      go_ret
                      exact ⟨rfl, H7.out.lo⟩
            · have A2' : ((j : Int) == r.st) = false := by simpa using A2
              have hnot : ¬ (r.st + 1 ≤ (j : Int) ∨ (j : Int) = r.st ∧ r.err = 0) := fun q => by rcases q with q | q; exact A1 q; exact A2 q.1
              clear HM A2
              by_cases B0 : F ≠ 32 ∧ F ≠ 128
              · have hsr := HNo.out (.inl B0)
                have b1 : (F != 32) = true := by simpa using B0.1
                have b2 : (F != 128) = true := by simpa using B0.2
                subst hsr
                clear HNo HLe HWi B0 hnot
                go_wp2
                go_ret
                exact ⟨rfl, H7.out.lo⟩
              · by_cases B6 : r.err = 6
                · have hst := HWi.out B6
                  have hsr := HNo.out (.inr ⟨B6, hst⟩)
                  have c6 : (r.err == 6) = true := by simpa using B6
                  have c0 : (r.st == 0) = true := by simpa using hst
                  subst hsr
                  clear HNo HLe HWi B6 hst hnot
                  by_cases B1 : F = 32
                  · have b1 : (F != 32) = false := by simpa using B1
                    clear B0 B1
                    go_wp2
                    go_ret
                    exact ⟨rfl, H7.out.lo⟩
                  · have b1 : (F != 32) = true := by simpa using B1
                    have b2 : (F != 128) = false := by
                      have : F = 128 := by
                        by_cases q : F = 128
                        · exact q
                        · exact absurd ⟨B1, q⟩ B0
                      simpa using this
                    clear B0 B1
                    go_wp2
                    go_ret
                    exact ⟨rfl, H7.out.lo⟩
                · have c6 : (r.err == 6) = false := by simpa using B6
                  obtain ⟨s1, s2, s3, s4, s5⟩ := HLe.out hnot (fun q => by rcases q with q | q; exact B0 q; exact B6 q.1)
                  have s1' : (s.err == 29) = true := by simpa using s1
                  have s2' : (s.st == (j : Int)) = true := by simpa using s2
                  have s3' : (s.hop == 0) = true := by simpa using s3
                  clear HNo HLe HWi B6 hnot s1 s2 s3
                  by_cases B1 : F = 32
                  · have b1 : (F != 32) = false := by simpa using B1
                    clear B0 B1
                    go_wp2
                    go_ret
                    exact ⟨rfl, H7.out.lo⟩
                  · have b1 : (F != 32) = true := by simpa using B1
                    have b2 : (F != 128) = false := by
                      have : F = 128 := by
                        by_cases q : F = 128
                        · exact q
                        · exact absurd ⟨B1, q⟩ B0
                      simpa using this
                    clear B0 B1
                    go_wp2
                    go_ret
                    exact ⟨rfl, H7.out.lo⟩
  · have n1 : ((l.length : Int) > 32768) := by omega
    have n1' : (32768 < (l.length : Int)) := by omega
    clear hl HA
    go_enter Try.func5, Try.ntmps5
    go_wp2_with fail
    rw [← hV]
    clear hV
    refine K0.mono ?_
    rintro e W1 ⟨rfl, hb1⟩
    have HB1 : Hid (Below w.heap.size w W1) := HQ.out.trans (hb1.mono HQ.out.size)
    clear K0 hb1 HQ HW
    go_wp2
    go_ret
    exact ⟨rfl, HB1.out⟩
end Go.Proofs.Ytbgoclfifhdonaa
