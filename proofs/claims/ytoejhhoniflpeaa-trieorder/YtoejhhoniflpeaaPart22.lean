/-
  Part 22 of the proof: 1 texts, one behind the other.
-/
import Derived.Test.YtoejhhoniflpeaaPart21
/-
  The law TrieOrder.
-/
namespace Go.Proofs.Ytoejhhoniflpeaa
open Go.RowKit Go.Shelf
set_option linter.unusedSimpArgs false
set_option linter.unusedVariables false

theorem AtP.put3 {W : World} {P Q : Nat} {x : BitVec 128} {n : Int} (k : AtP W Q x n) (h : Q ≠ P) (a b c : Value) : AtP (((W.setCell ⟨P, 0, none⟩ a).setCell ⟨P, 1, none⟩ b).setCell ⟨P, 2, none⟩ c) Q x n := by
  have e : (((W.setCell ⟨P, 0, none⟩ a).setCell ⟨P, 1, none⟩ b).setCell ⟨P, 2, none⟩ c).heap[Q]? = W.heap[Q]? := by rw [setB _ h, setB _ h, setB _ h]
  unfold AtP at k ⊢
  simpa only [cellB e, frozB e] using k
theorem CT8.put3 {w X : World} {F : Int} {v : Value} {B g cap wg wc P : Nat} {L : List Nd} {ws : List (BitVec 128)} (k : CT8 w F v B g cap wg wc L ws X) (hP : w.heap.size ≤ P) (hn : P ≠ w.heap.size ∧ P ≠ B ∧ P ≠ g ∧ P ≠ wg) (a b c : Value) : CT8 w F v B g cap wg wc L ws (((X.setCell ⟨P, 0, none⟩ a).setCell ⟨P, 1, none⟩ b).setCell ⟨P, 2, none⟩ c) := by
  have e : ∀ z, z ≠ P → (((X.setCell ⟨P, 0, none⟩ a).setCell ⟨P, 1, none⟩ b).setCell ⟨P, 2, none⟩ c).heap[z]? = X.heap[z]? := fun z h => by rw [setB _ h, setB _ h, setB _ h]
  have e1 := e w.heap.size (Ne.symm hn.1)
  have e2 := e B (Ne.symm hn.2.1)
  have e3 := e g (Ne.symm hn.2.2.1)
  have e4 := e wg (Ne.symm hn.2.2.2)
  refine ⟨⟨k.1.tn.heap e2 e3, fun j hj => ?_⟩, ?_, bset3 k.2.2 hP a b c⟩
  · rw [cellB e4, cellB e4]; exact k.1.wd j hj
  · unfold AtT
    rw [cellB e1, cellB e1]; exact k.2.1
theorem tfindR2_any {F : Int} {l : List Rte} {ws : List (BitVec 128)} {L : List Nd} (c : Ctx F l ws L) (B g cap wg wc : Nat) (r : Rte) (hr : r ∈ l) (i : Nat) (h1 : i < L.length) (h2 : ln L i = r.1.2) (h3 : InN ws L r.1.1 i) (w : World) (h : TrT w B F g cap wg wc L ws) :
    Calls Try.prog 23 #[.pointer (some ⟨B, 0, none⟩), .agg #[.int .u64 (hI r.1.1), .int .u64 (lI r.1.1), .int .i64 r.1.2]] w fun e w' => e = .returned (.int .i64 (i : Int)) ∧ Below w.heap.size w w' := by
  have hp : pfA ws L i = r.1.1 := by
    unfold InN at h3
    unfold pfA
    rw [← h3, h2, (c.rr r hr).1.2.2]
  have := tfindAt_any c B g cap wg wc i w h h1
  rw [hp, h2] at this
  exact this
set_option maxRecDepth 100000 in
set_option maxHeartbeats 16000000 in
theorem trieOrder_any (F : Int) (v : Value) (l : List Rte) (w : World) (hv : RwR w v l) :
    Calls Try.prog 6 #[.agg #[.int .i64 F, v]] w fun e w' => e = .returned (.bool true) ∧ Below w.heap.size w w' := by
  have q0 := bl1 w (.cells #[.int .i64 F, v] 24)
  have KK := known8_any (w.alloc (.cells #[.int .i64 F, v] 24))
  have HT := hidR (att_new w w.heap.size F v 24 rfl)
  have HV0 := hidR (hv.below q0)
  have HB0 := hidR q0
  have HVw := hidR hv
  obtain ⟨ao, c, rfl, -⟩ := hv
  clear q0
  go_enter Try.func6, Try.ntmps6
  go_wp2_with fail
  refine KK.mono ?_
  rintro e w1 ⟨rfl, hb⟩
  have HT1 := hidR (HT.out.below hb)
  have HV1 := hidR (HV0.out.below hb)
  have HB1 := hidR (keepb hb HB0.out)
  have KM := made8_any F (.slice ao l.length c) l w1 HV1.out
  obtain ⟨t0, t1⟩ := HT1.out
  clear KK hb HT HV0 HB0
  go_wp2_with fail
  refine KM.mono ?_
  rintro e w2 ⟨hM, hb⟩
  have HT2 := hidR (HT1.out.below hb)
  have HV2 := hidR (HV1.out.below hb)
  have HB2 := hidR (keepb hb HB1.out)
  clear KM hb HT1 HV1 HB1 t0 t1
  obtain ⟨t0, t1⟩ := HT2.out
  rcases hM with ⟨hn, rfl⟩ | ⟨⟨hR, hl3⟩, B, g, cap, wg, wc, ws, L, rfl, k1, k2, hBw, hgw, hww⟩
  · have KR := rightI_any F (.slice ao l.length c) l w2 HV2.out
    go_wp2_with fail
    refine KR.mono ?_
    rintro e w3 ⟨⟨r, hr, rfl⟩, hb⟩
    have HT3 := hidR (HT2.out.below hb)
    have HB3 := hidR (keepb hb HB2.out)
    clear KR hb HT2 HV2 HB2 t0 t1
    obtain ⟨t0, t1⟩ := HT3.out
    cases r with
    | false =>
      go_wp2
      exact bodyPost_ret (v := .bool true) (by simp [results, Try.results6, go_sem]) rfl ⟨rfl, HB3.out⟩
    | true =>
      have hl : (300 : Int) < (l.length : Int) := by
        have := hr.mp rfl
        apply Classical.byContradiction; intro q
        exact hn ⟨this, by omega⟩
      clear hr hn
      go_wp2
      exact bodyPost_ret (v := .bool true) (by simp [results, Try.results6, go_sem, hl]) rfl ⟨rfl, HB3.out⟩
  · have HC := hidR (show CT8 w F (.slice ao l.length c) B g cap wg wc L ws w2 from ⟨k1, HT2.out, HB2.out⟩)
    have Hx := hidR (Ctx.of k2 (right_zero hR))
    have hLl : L.length ≤ 38401 := by have := k2.nl; omega
    clear k1 k2 HT2 HV2 HB2 t0 t1 hR
    have KL := tlen_any B F g cap (.slice (some ⟨wg, 0, none⟩) ws.length wc) L w2 HC.out.1.tn
    obtain ⟨M, hM⟩ : ∃ M : Int, M = F * (l.length : Int) := ⟨_, rfl⟩
    have hn1 : (L.length : Int) ≤ 1 + M := by rw [hM]; exact (Hx.out.t.nf F Hx.out.F0.1 (fun r hr => (Hx.out.rr r hr).1.2.1)).1
    have hM0 : 0 ≤ M := by rw [hM]; exact Int.mul_nonneg Hx.out.F0.1 (by omega)
    have hM1 : M ≤ 38400 := by
      rw [hM]
      rcases Hx.out.fm with h | h
      · rw [h]; omega
      · rw [h]; omega
    have wM : IntKind.i64.wrap (F * (l.length : Int)) = M := by rw [← hM, IntKind.wrap_i64]; omega
    have wM1 : IntKind.i64.wrap (1 + M) = 1 + M := by rw [IntKind.wrap_i64]; omega
    have hn2 : ¬ 1 + M < (L.length : Int) := by omega
    have hn3 : ¬ (L.length : Int) < 1 := by have := Hx.out.t.pos; omega
    obtain ⟨t0, t1⟩ := HC.out.2.1
    have q0 := bl1 w2 (.cells #[.int .u64 0, .int .u64 0, .int .i64 0] 39)
    have A0 := atp_new w2 w2.heap.size 0#128 0 39 rfl
    rw [hI_zero, lI_zero] at A0
    have HA0 := hidR A0
    have HC0 := hidR (HC.out.below q0)
    have HPw : Hid (w.heap.size ≤ w2.heap.size) := hidR HC.out.2.2.size
    have Hne : Hid (w2.heap.size ≠ w.heap.size ∧ w2.heap.size ≠ B ∧ w2.heap.size ≠ g ∧ w2.heap.size ≠ wg) := hidR ⟨by have := cell_in HC.out.2.1.1; omega, by have := cell_in HC.out.1.tn.w; omega, by have := cell_in (HC.out.1.tn.row 0 Hx.out.t.pos).1; omega, by have := cell_in (HC.out.1.wd 0 (by rw [Hx.out.t.wl]; omega)).1; omega⟩
    clear hM q0 A0 HC
    go_wp2_with fail
    refine KL.mono ?_
    rintro e w3 ⟨rfl, rfl⟩
    clear KL
    go_wp2_with fail
    clear t0 t1 wM wM1 hn2 hn3 hn1 hM0 hM1
    revert HA0 HC0 HPw Hne
    generalize w3.alloc (.cells #[.int .u64 0, .int .u64 0, .int .i64 0] 39) = W4
    generalize w3.heap.size = P
    intro HA0 HC0 HPw Hne
    go_loopw [6] (fun i wr => ∃ (k : Nat) (lx : BitVec 128) (ll : Int), k ≤ L.length ∧ i = .int .i64 k ∧ Hid (CT8 w F (.slice ao l.length c) B g cap wg wc L ws wr) ∧ Hid (AtP wr P lx ll) ∧ Hid ((k = 0 → lx = 0#128 ∧ ll = 0) ∧ ∀ j, k = j + 1 → lx = pfA ws L j ∧ ll = ln L j)) (fun i _ => L.length - (intOf i).toNat)
    case atStart => exact ⟨0, 0#128, 0, by omega, rfl, HC0, HA0, hidR ⟨fun _ => ⟨rfl, rfl⟩, fun j h => by omega⟩⟩
    case round =>
      clear HA0 HC0
      obtain ⟨k, lx, ll, hk, rfl, HC, HP, HL⟩ := hrel
      by_cases hlt : (k : Int) < (L.length : Int)
      · have hks : k < L.length := by omega
        have Hks := hidR hks
        have KX := tat8_any Hx.out B g cap wg wc k _ HC.out.1 hks
        go_wp2_with fail
        refine KX.mono ?_
        rintro e w4 ⟨rfl, hb⟩
        have HC4 := hidR (HC.out.below hb)
        have HP4 := hidR (HP.out.below hb)
        clear KX hb HC HP
        have u0 := bl1 w4 (.cells #[.int .u64 (hI (pfA ws L k)), .int .u64 (lI (pfA ws L k)), .int .i64 (ln L k)] 39)
        have HQ4 := hidR (atp_new w4 w4.heap.size (pfA ws L k) (ln L k) 39 rfl)
        have HC5 := hidR (HC4.out.below u0)
        have HP5 := hidR (HP4.out.below u0)
        have HQP : Hid (w4.heap.size ≠ P ∧ w.heap.size ≤ w4.heap.size) := hidR ⟨by have := cell_in HP4.out.1; omega, HC4.out.2.2.size⟩
        have hwl : w.heap.size < w4.heap.size := cell_in HC4.out.2.1.1
        obtain ⟨t0, t1⟩ := HC4.out.2.1
        have KX := rcheck_any F (pfA ws L k) (ln L k) (w4.alloc (.cells #[.int .u64 (hI (pfA ws L k)), .int .u64 (lI (pfA ws L k)), .int .i64 (ln L k)] 39))
        rw [Hx.out.chk hks] at KX
        clear u0 HC4 HP4
        go_wp2_with fail
        clear t0 t1 hwl
        revert HC5 HP5 HQ4 HQP KX
        generalize w4.alloc (.cells #[.int .u64 (hI (pfA ws L k)), .int .u64 (lI (pfA ws L k)), .int .i64 (ln L k)] 39) = V
        generalize w4.heap.size = Q
        intro HQ4 HC5 HP5 HQP KX
        have HD : Hid (∀ X, Below V.heap.size V X → CT8 w F (.slice ao l.length c) B g cap wg wc L ws X ∧ AtP X P lx ll ∧ AtP X Q (pfA ws L k) (ln L k)) := hidR (fun X hb => ⟨HC5.out.below hb, HP5.out.below hb, HQ4.out.below hb⟩)
        refine KX.mono ?_
        rintro e w5 ⟨rfl, hb⟩
        have HB := hidR hb
        clear KX hb HC5 HP5 HQ4
        by_cases hk0 : k = 0
        · obtain ⟨e1, e2⟩ := HL.out.1 hk0
          have hpf : pfA ws L k = lx := by rw [e1, hk0]; unfold pfA; rw [Hx.out.t.ln0, cut_zero]
          have hln : ln L k = ll := by rw [e2, hk0, Hx.out.t.ln0]
          have E1 : ∀ w, (Op.equalIn 10000 39 (.agg #[.int .u64 (hI (pfA ws L k)), .int .u64 (lI (pfA ws L k)), .int .i64 (ln L k)]) (.agg #[.int .u64 (hI lx), .int .u64 (lI lx), .int .i64 ll])).run Try.prog w = .ok true w := fun w => by have := eqP_run (pfA ws L k) (ln L k) lx ll w; rw [hpf, hln] at this; rw [hpf, hln]; simpa using this
          have g3 : ¬ (0 : Int) < (k : Int) := by omega
          have g4 : (k : Int) = 0 := by omega
          have Hk0 := hidR hk0
          have Hk0i := hidR g4
          clear hk0 e1 e2 hpf hln
          have KFd := fun w h => tfindAt_any Hx.out B g cap wg wc k w h hks
          have KX := KFd _ (HD.out _ HB.out).1.1
          obtain ⟨⟨-, ⟨t0, t1⟩, -⟩, ⟨p0, p1, p2, -, -, -⟩, ⟨q0, q1, q2, -, -, -⟩⟩ := HD.out _ HB.out
          go_wp2_with fail
          refine KX.mono ?_
          rintro e w5 ⟨rfl, hb⟩
          replace HB := hidR (keepb hb HB.out)
          clear KX hb t0 t1 p0 p1 p2 q0 q1 q2
          obtain ⟨hc, ⟨p0, p1, p2, f0, f1, f2⟩, ⟨q0, q1, q2, -, -, -⟩⟩ := HD.out _ HB.out
          have HP9 := hidR ((HD.out _ HB.out).2.1.set8 (pfA ws L k) (ln L k))
          have HS9 := hidR (bset3 (C := P) ((HD.out _ HB.out).1.2.2) HPw.out (.int .u64 (hI (pfA ws L k))) (.int .u64 (lI (pfA ws L k))) (.int .i64 (ln L k)))
          have HC9 := hidR (CT8.put3 hc HPw.out Hne.out (.int .u64 (hI (pfA ws L k))) (.int .u64 (lI (pfA ws L k))) (.int .i64 (ln L k)))
          have HQ9 := hidR (AtP.put3 (HD.out _ HB.out).2.2 HQP.out.1 (.int .u64 (hI (pfA ws L k))) (.int .u64 (lI (pfA ws L k))) (.int .i64 (ln L k)))
          clear hc HD HB E1
          go_wp2_with fail
          clear p0 p1 p2 f0 f1 f2 q0 q1 q2
          revert HP9 HC9 HQ9
          generalize ((w5.setCell ⟨P, 0, none⟩ (.int .u64 (hI (pfA ws L k)))).setCell ⟨P, 1, none⟩ (.int .u64 (lI (pfA ws L k)))).setCell ⟨P, 2, none⟩ (.int .i64 (ln L k)) = W9
          intro HP9 HC9 HQ9
          clear g3 g4
          go_loopw [9] (fun i wr => ∃ b : Nat, b ≤ 2 ∧ i = .int .i64 b ∧ Hid (CT8 w F (.slice ao l.length c) B g cap wg wc L ws wr) ∧ Hid (AtP wr P (pfA ws L k) (ln L k)) ∧ Hid (AtP wr Q (pfA ws L k) (ln L k))) (fun i _ => 2 - (intOf i).toNat)
          case atStart => exact ⟨0, by omega, rfl, HC9, HP9, HQ9⟩
          case round =>
            clear HC9 HP9 HQ9
            obtain ⟨b, hb2, rfl, HCi, HPi, HQi⟩ := hrel
            obtain ⟨en, hE, -, -⟩ := Hx.out.t.node Hks.out
            obtain ⟨ka, kb, kq⟩ := Hx.out.t.kidq hE
            have Hq := hidR (And.intro kq hE)
            have hk0 := kq.k0
            have hk1 := kq.k1
            clear kq hE
            have HkA := hidR hk0
            have HkB := hidR hk1
            clear hk0 hk1
            by_cases hb0 : b = 0
            · subst hb0
              have KX := tkid_any B F g cap (.slice (some ⟨wg, 0, none⟩) ws.length wc) L (k : Int) 0 _ HCi.out.1.tn Hx.out.ok (by have := Hx.out.len; omega)
              rw [HkA.out, Hk0i.out] at KX
              go_wp2_with fail
              refine KX.mono ?_
              rintro e w5 ⟨rfl, hb⟩
              replace HCi := hidR (HCi.out.below hb)
              replace HPi := hidR (HPi.out.below hb)
              replace HQi := hidR (HQi.out.below hb)
              clear KX hb
              rcases Hq.out.1.ca with hka | ⟨hka, h1, h2, h3⟩
              · rw [hka]
                go_wp2
                go_roundw
                case rel => exact ⟨1, by omega, rfl, HCi, HPi, HQi⟩
                case measure => simp [intOf]
              · obtain ⟨m, hm⟩ : ∃ m, m = k + 1 := ⟨_, rfl⟩
                rw [← hm] at hka h1 h2 h3
                have h0 : k < m := by omega
                rw [hka]
                have heL := Hq.out.2.2.1
                have hcut := fun j a b => Hx.out.t.cut Hq.out.2 j a b
                have hlk := (Hx.out.lnF Hks.out).1
                have hmL : m < L.length := by omega
                have hpv : parentV (pfA ws L m) (ln L m) = pfA ws L k := by
                  unfold parentV pfA
                  rw [if_neg (by omega), h2, show ln L k + 1 - 1 = ln L k by omega, cut_cut _ _ _ hlk (by omega)]
                  exact hcut m (by omega) h1
                have hpn : parentN (ln L m) = ln L k := by unfold parentN; rw [if_neg (by omega), h2]; omega
                have g1 : ¬ (m : Int) ≤ 0 := by omega
                have g2 : ¬ (m : Int) < 0 := by omega
                have Hm := hidR hm
                have Hpv := hidR (And.intro hpv hpn)
                have Hm2 := hidR (And.intro h1 h2)
                have Hb4 := hidR hlk
                clear hcut heL h3 hka hpv hpn h1 h2 hlk hm
                have KX := tat8_any Hx.out B g cap wg wc m _ HCi.out.1 hmL
                go_wp2_with fail
                refine KX.mono ?_
                rintro e w5 ⟨rfl, hb⟩
                clear KX
                have HC5 := hidR (HCi.out.below hb)
                have HP5 := hidR (HPi.out.below hb)
                have HQ5 := hidR (HQi.out.below hb)
                clear hb HCi HPi HQi
                have u0 := bl1 w5 (.cells #[.int .u64 (hI (pfA ws L m)), .int .u64 (lI (pfA ws L m)), .int .i64 (ln L m)] 39)
                have HC6 := hidR (HC5.out.below u0)
                have HP6 := hidR (HP5.out.below u0)
                have HQ6 := hidR (HQ5.out.below u0)
                have KX := rparent_any (pfA ws L m) (ln L m) (w5.alloc (.cells #[.int .u64 (hI (pfA ws L m)), .int .u64 (lI (pfA ws L m)), .int .i64 (ln L m)] 39)) (by have := Hm2.out.2; have := Hb4.out; omega) (by have := (Hx.out.t.ln128 hmL).2; omega)
                rw [Hpv.out.1, Hpv.out.2] at KX
                clear u0 HC5 HP5 HQ5
                go_wp2_with fail
                revert HC6 HP6 HQ6 KX
                generalize w5.alloc (.cells #[.int .u64 (hI (pfA ws L m)), .int .u64 (lI (pfA ws L m)), .int .i64 (ln L m)] 39) = W6
                intro HC6 HP6 HQ6 KX
                refine KX.mono ?_
                rintro e w7 ⟨rfl, hb⟩
                clear KX
                have HC7 := hidR (HC6.out.below hb)
                have HP7 := hidR (HP6.out.below hb)
                have HQ7 := hidR (HQ6.out.below hb)
                clear hb HC6 HP6 HQ6
                have u0 := bl1 w7 (.cells #[.int .u64 (hI (pfA ws L k)), .int .u64 (lI (pfA ws L k)), .int .i64 (ln L k)] 39)
                have HC8 := hidR (HC7.out.below u0)
                have HP8 := hidR (HP7.out.below u0)
                have HQ8 := hidR (HQ7.out.below u0)
                obtain ⟨z0, z1, z2, -, -, -⟩ := HQ7.out
                have hQl : Q < w7.heap.size := cell_in z0
                have E1 : ∀ w, (Op.equalIn 10000 39 (.agg #[.int .u64 (hI (pfA ws L k)), .int .u64 (lI (pfA ws L k)), .int .i64 (ln L k)]) (.agg #[.int .u64 (hI (pfA ws L k)), .int .u64 (lI (pfA ws L k)), .int .i64 (ln L k)])).run Try.prog w = .ok true w := fun w => by simpa using eqP_run (pfA ws L k) (ln L k) (pfA ws L k) (ln L k) w
                clear u0 HC7 HP7 HQ7
                have w9 : (m : Int) = 1 := by have := Hm.out; have := Hk0.out; omega
                go_wp2
                go_roundw
                case rel => exact ⟨1, by omega, rfl, HC8, HP8, HQ8⟩
                case measure => simp [intOf]
            · by_cases hb1 : b = 1
              · subst hb1
                have KX := tkid_any B F g cap (.slice (some ⟨wg, 0, none⟩) ws.length wc) L (k : Int) 1 _ HCi.out.1.tn Hx.out.ok (by have := Hx.out.len; omega)
                rw [HkB.out, Hk0i.out] at KX
                go_wp2_with fail
                refine KX.mono ?_
                rintro e w5 ⟨rfl, hb⟩
                replace HCi := hidR (HCi.out.below hb)
                replace HPi := hidR (HPi.out.below hb)
                replace HQi := hidR (HQi.out.below hb)
                clear KX hb
                rcases Hq.out.1.cb with hka | ⟨m, hka, h0, h1, h2, h3, -, -, -⟩
                · rw [hka]
                  go_wp2
                  go_roundw
                  case rel => exact ⟨2, by omega, rfl, HCi, HPi, HQi⟩
                  case measure => simp [intOf]
                · have hm0 : True := trivial
                  rw [hka]
                  have heL := Hq.out.2.2.1
                  have hcut := fun j a b => Hx.out.t.cut Hq.out.2 j a b
                  have hlk := (Hx.out.lnF Hks.out).1
                  have hmL : m < L.length := by omega
                  have hpv : parentV (pfA ws L m) (ln L m) = pfA ws L k := by
                    unfold parentV pfA
                    rw [if_neg (by omega), h2, show ln L k + 1 - 1 = ln L k by omega, cut_cut _ _ _ hlk (by omega)]
                    exact hcut m (by omega) h1
                  have hpn : parentN (ln L m) = ln L k := by unfold parentN; rw [if_neg (by omega), h2]; omega
                  have g1 : ¬ (m : Int) ≤ 0 := by omega
                  have g2 : ¬ (m : Int) < 0 := by omega
                  have Hpv := hidR (And.intro hpv hpn)
                  have Hm2 := hidR (And.intro h1 h2)
                  have Hb4 := hidR hlk
                  clear hcut heL h3 hka hpv hpn h1 h2 hlk
                  have KX := tat8_any Hx.out B g cap wg wc m _ HCi.out.1 hmL
                  go_wp2_with fail
                  refine KX.mono ?_
                  rintro e w5 ⟨rfl, hb⟩
                  clear KX
                  have HC5 := hidR (HCi.out.below hb)
                  have HP5 := hidR (HPi.out.below hb)
                  have HQ5 := hidR (HQi.out.below hb)
                  clear hb HCi HPi HQi
                  have u0 := bl1 w5 (.cells #[.int .u64 (hI (pfA ws L m)), .int .u64 (lI (pfA ws L m)), .int .i64 (ln L m)] 39)
                  have HC6 := hidR (HC5.out.below u0)
                  have HP6 := hidR (HP5.out.below u0)
                  have HQ6 := hidR (HQ5.out.below u0)
                  have KX := rparent_any (pfA ws L m) (ln L m) (w5.alloc (.cells #[.int .u64 (hI (pfA ws L m)), .int .u64 (lI (pfA ws L m)), .int .i64 (ln L m)] 39)) (by have := Hm2.out.2; have := Hb4.out; omega) (by have := (Hx.out.t.ln128 hmL).2; omega)
                  rw [Hpv.out.1, Hpv.out.2] at KX
                  clear u0 HC5 HP5 HQ5
                  go_wp2_with fail
                  revert HC6 HP6 HQ6 KX
                  generalize w5.alloc (.cells #[.int .u64 (hI (pfA ws L m)), .int .u64 (lI (pfA ws L m)), .int .i64 (ln L m)] 39) = W6
                  intro HC6 HP6 HQ6 KX
                  refine KX.mono ?_
                  rintro e w7 ⟨rfl, hb⟩
                  clear KX
                  have HC7 := hidR (HC6.out.below hb)
                  have HP7 := hidR (HP6.out.below hb)
                  have HQ7 := hidR (HQ6.out.below hb)
                  clear hb HC6 HP6 HQ6
                  have u0 := bl1 w7 (.cells #[.int .u64 (hI (pfA ws L k)), .int .u64 (lI (pfA ws L k)), .int .i64 (ln L k)] 39)
                  have HC8 := hidR (HC7.out.below u0)
                  have HP8 := hidR (HP7.out.below u0)
                  have HQ8 := hidR (HQ7.out.below u0)
                  obtain ⟨z0, z1, z2, -, -, -⟩ := HQ7.out
                  have hQl : Q < w7.heap.size := cell_in z0
                  have E1 : ∀ w, (Op.equalIn 10000 39 (.agg #[.int .u64 (hI (pfA ws L k)), .int .u64 (lI (pfA ws L k)), .int .i64 (ln L k)]) (.agg #[.int .u64 (hI (pfA ws L k)), .int .u64 (lI (pfA ws L k)), .int .i64 (ln L k)])).run Try.prog w = .ok true w := fun w => by simpa using eqP_run (pfA ws L k) (ln L k) (pfA ws L k) (ln L k) w
                  clear u0 HC7 HP7 HQ7
                  go_wp2
                  go_roundw
                  case rel => exact ⟨2, by omega, rfl, HC8, HP8, HQ8⟩
                  case measure => simp [intOf]
              · have hbe : b = 2 := by omega
                subst hbe
                have w10 : IntKind.i64.wrap ((k : Int) + 1) = ((k + 1 : Nat) : Int) := by rw [IntKind.wrap_i64]; push_cast; omega
                go_wp2
                go_roundw
                case rel => exact ⟨k + 1, pfA ws L k, ln L k, by have := Hks.out; omega, by rw [Hk0.out]; rfl, HCi, HPi, hidR ⟨fun h => by omega, fun j h => (by obtain rfl : k = j := Nat.succ.inj h; exact ⟨rfl, rfl⟩)⟩⟩
                case measure => simp [intOf]; have := Hks.out; have := Hk0.out; omega
        · obtain ⟨j, hj⟩ : ∃ j, k = j + 1 := ⟨k - 1, by omega⟩
          obtain ⟨e1, e2⟩ := HL.out.2 j hj
          have hcm : pcmpZ lx ll (pfA ws L k) (ln L k) < 0 := by
            rw [e1, e2, hj]
            exact Hx.out.t.adj (by omega)
          have g3 : (0 : Int) < (k : Int) := by omega
          have g4 : ¬ (k : Int) = 0 := by omega
          have KC := fun w (_ : TrT w B F g cap wg wc L ws) => rpcmp_any lx ll (pfA ws L k) (ln L k) w
          revert KC hcm
          generalize pcmpZ lx ll (pfA ws L k) (ln L k) = cm
          intro hcm KC
          have g5 : ¬ 0 ≤ cm := by omega
          clear hk0 e1 e2 hj hcm
          have KX := KC _ (HD.out _ HB.out).1.1
          obtain ⟨⟨-, ⟨t0, t1⟩, -⟩, ⟨p0, p1, p2, -, -, -⟩, ⟨q0, q1, q2, -, -, -⟩⟩ := HD.out _ HB.out
          go_wp2_with fail
          refine KX.mono ?_
          rintro e w5 ⟨rfl, hb⟩
          replace HB := hidR (keepb hb HB.out)
          clear KX hb t0 t1 p0 p1 p2 q0 q1 q2
          have KFd := fun w h => tfindAt_any Hx.out B g cap wg wc k w h hks
          have KX := KFd _ (HD.out _ HB.out).1.1
          obtain ⟨⟨-, ⟨t0, t1⟩, -⟩, ⟨p0, p1, p2, -, -, -⟩, ⟨q0, q1, q2, -, -, -⟩⟩ := HD.out _ HB.out
          go_wp2_with fail
          refine KX.mono ?_
          rintro e w5 ⟨rfl, hb⟩
          replace HB := hidR (keepb hb HB.out)
          clear KX hb t0 t1 p0 p1 p2 q0 q1 q2
          obtain ⟨hc, ⟨p0, p1, p2, f0, f1, f2⟩, ⟨q0, q1, q2, -, -, -⟩⟩ := HD.out _ HB.out
          have HP9 := hidR ((HD.out _ HB.out).2.1.set8 (pfA ws L k) (ln L k))
          have HS9 := hidR (bset3 (C := P) ((HD.out _ HB.out).1.2.2) HPw.out (.int .u64 (hI (pfA ws L k))) (.int .u64 (lI (pfA ws L k))) (.int .i64 (ln L k)))
          have HC9 := hidR (CT8.put3 hc HPw.out Hne.out (.int .u64 (hI (pfA ws L k))) (.int .u64 (lI (pfA ws L k))) (.int .i64 (ln L k)))
          have HQ9 := hidR (AtP.put3 (HD.out _ HB.out).2.2 HQP.out.1 (.int .u64 (hI (pfA ws L k))) (.int .u64 (lI (pfA ws L k))) (.int .i64 (ln L k)))
          clear hc HD HB
          go_wp2_with fail
          clear p0 p1 p2 f0 f1 f2 q0 q1 q2
          revert HP9 HC9 HQ9
          generalize ((w5.setCell ⟨P, 0, none⟩ (.int .u64 (hI (pfA ws L k)))).setCell ⟨P, 1, none⟩ (.int .u64 (lI (pfA ws L k)))).setCell ⟨P, 2, none⟩ (.int .i64 (ln L k)) = W9
          intro HP9 HC9 HQ9
          clear g3 g4
          go_loopw [9] (fun i wr => ∃ b : Nat, b ≤ 2 ∧ i = .int .i64 b ∧ Hid (CT8 w F (.slice ao l.length c) B g cap wg wc L ws wr) ∧ Hid (AtP wr P (pfA ws L k) (ln L k)) ∧ Hid (AtP wr Q (pfA ws L k) (ln L k))) (fun i _ => 2 - (intOf i).toNat)
          case atStart => exact ⟨0, by omega, rfl, HC9, HP9, HQ9⟩
          case round =>
            clear HC9 HP9 HQ9
            obtain ⟨b, hb2, rfl, HCi, HPi, HQi⟩ := hrel
            obtain ⟨en, hE, -, -⟩ := Hx.out.t.node Hks.out
            obtain ⟨ka, kb, kq⟩ := Hx.out.t.kidq hE
            have Hq := hidR (And.intro kq hE)
            have hk0 := kq.k0
            have hk1 := kq.k1
            clear kq hE
            have HkA := hidR hk0
            have HkB := hidR hk1
            clear hk0 hk1
            by_cases hb0 : b = 0
            · subst hb0
              have KX := tkid_any B F g cap (.slice (some ⟨wg, 0, none⟩) ws.length wc) L (k : Int) 0 _ HCi.out.1.tn Hx.out.ok (by have := Hx.out.len; omega)
              rw [HkA.out] at KX
              go_wp2_with fail
              refine KX.mono ?_
              rintro e w5 ⟨rfl, hb⟩
              replace HCi := hidR (HCi.out.below hb)
              replace HPi := hidR (HPi.out.below hb)
              replace HQi := hidR (HQi.out.below hb)
              clear KX hb
              rcases Hq.out.1.ca with hka | ⟨hka, h1, h2, h3⟩
              · rw [hka]
                go_wp2
                go_roundw
                case rel => exact ⟨1, by omega, rfl, HCi, HPi, HQi⟩
                case measure => simp [intOf]
              · obtain ⟨m, hm⟩ : ∃ m, m = k + 1 := ⟨_, rfl⟩
                rw [← hm] at hka h1 h2 h3
                have h0 : k < m := by omega
                rw [hka]
                have heL := Hq.out.2.2.1
                have hcut := fun j a b => Hx.out.t.cut Hq.out.2 j a b
                have hlk := (Hx.out.lnF Hks.out).1
                have hmL : m < L.length := by omega
                have hpv : parentV (pfA ws L m) (ln L m) = pfA ws L k := by
                  unfold parentV pfA
                  rw [if_neg (by omega), h2, show ln L k + 1 - 1 = ln L k by omega, cut_cut _ _ _ hlk (by omega)]
                  exact hcut m (by omega) h1
                have hpn : parentN (ln L m) = ln L k := by unfold parentN; rw [if_neg (by omega), h2]; omega
                have g1 : ¬ (m : Int) ≤ (k : Int) := by omega
                have g2 : ¬ (m : Int) < 0 := by omega
                have Hm := hidR hm
                have w9 : IntKind.i64.wrap ((k : Int) + 1) = (m : Int) := by rw [IntKind.wrap_i64]; omega
                have Hpv := hidR (And.intro hpv hpn)
                have Hm2 := hidR (And.intro h1 h2)
                have Hb4 := hidR hlk
                clear hcut heL h3 hka hpv hpn h1 h2 hlk hm
                have KX := tat8_any Hx.out B g cap wg wc m _ HCi.out.1 hmL
                go_wp2_with fail
                refine KX.mono ?_
                rintro e w5 ⟨rfl, hb⟩
                clear KX
                have HC5 := hidR (HCi.out.below hb)
                have HP5 := hidR (HPi.out.below hb)
                have HQ5 := hidR (HQi.out.below hb)
                clear hb HCi HPi HQi
                have u0 := bl1 w5 (.cells #[.int .u64 (hI (pfA ws L m)), .int .u64 (lI (pfA ws L m)), .int .i64 (ln L m)] 39)
                have HC6 := hidR (HC5.out.below u0)
                have HP6 := hidR (HP5.out.below u0)
                have HQ6 := hidR (HQ5.out.below u0)
                have KX := rparent_any (pfA ws L m) (ln L m) (w5.alloc (.cells #[.int .u64 (hI (pfA ws L m)), .int .u64 (lI (pfA ws L m)), .int .i64 (ln L m)] 39)) (by have := Hm2.out.2; have := Hb4.out; omega) (by have := (Hx.out.t.ln128 hmL).2; omega)
                rw [Hpv.out.1, Hpv.out.2] at KX
                clear u0 HC5 HP5 HQ5
                go_wp2_with fail
                revert HC6 HP6 HQ6 KX
                generalize w5.alloc (.cells #[.int .u64 (hI (pfA ws L m)), .int .u64 (lI (pfA ws L m)), .int .i64 (ln L m)] 39) = W6
                intro HC6 HP6 HQ6 KX
                refine KX.mono ?_
                rintro e w7 ⟨rfl, hb⟩
                clear KX
                have HC7 := hidR (HC6.out.below hb)
                have HP7 := hidR (HP6.out.below hb)
                have HQ7 := hidR (HQ6.out.below hb)
                clear hb HC6 HP6 HQ6
                have u0 := bl1 w7 (.cells #[.int .u64 (hI (pfA ws L k)), .int .u64 (lI (pfA ws L k)), .int .i64 (ln L k)] 39)
                have HC8 := hidR (HC7.out.below u0)
                have HP8 := hidR (HP7.out.below u0)
                have HQ8 := hidR (HQ7.out.below u0)
                obtain ⟨z0, z1, z2, -, -, -⟩ := HQ7.out
                have hQl : Q < w7.heap.size := cell_in z0
                have E1 : ∀ w, (Op.equalIn 10000 39 (.agg #[.int .u64 (hI (pfA ws L k)), .int .u64 (lI (pfA ws L k)), .int .i64 (ln L k)]) (.agg #[.int .u64 (hI (pfA ws L k)), .int .u64 (lI (pfA ws L k)), .int .i64 (ln L k)])).run Try.prog w = .ok true w := fun w => by simpa using eqP_run (pfA ws L k) (ln L k) (pfA ws L k) (ln L k) w
                clear u0 HC7 HP7 HQ7
                go_wp2
                go_roundw
                case rel => exact ⟨1, by omega, rfl, HC8, HP8, HQ8⟩
                case measure => simp [intOf]
            · by_cases hb1 : b = 1
              · subst hb1
                have KX := tkid_any B F g cap (.slice (some ⟨wg, 0, none⟩) ws.length wc) L (k : Int) 1 _ HCi.out.1.tn Hx.out.ok (by have := Hx.out.len; omega)
                rw [HkB.out] at KX
                go_wp2_with fail
                refine KX.mono ?_
                rintro e w5 ⟨rfl, hb⟩
                replace HCi := hidR (HCi.out.below hb)
                replace HPi := hidR (HPi.out.below hb)
                replace HQi := hidR (HQi.out.below hb)
                clear KX hb
                rcases Hq.out.1.cb with hka | ⟨m, hka, h0, h1, h2, h3, -, -, -⟩
                · rw [hka]
                  go_wp2
                  go_roundw
                  case rel => exact ⟨2, by omega, rfl, HCi, HPi, HQi⟩
                  case measure => simp [intOf]
                · have hm0 : True := trivial
                  rw [hka]
                  have heL := Hq.out.2.2.1
                  have hcut := fun j a b => Hx.out.t.cut Hq.out.2 j a b
                  have hlk := (Hx.out.lnF Hks.out).1
                  have hmL : m < L.length := by omega
                  have hpv : parentV (pfA ws L m) (ln L m) = pfA ws L k := by
                    unfold parentV pfA
                    rw [if_neg (by omega), h2, show ln L k + 1 - 1 = ln L k by omega, cut_cut _ _ _ hlk (by omega)]
                    exact hcut m (by omega) h1
                  have hpn : parentN (ln L m) = ln L k := by unfold parentN; rw [if_neg (by omega), h2]; omega
                  have g1 : ¬ (m : Int) ≤ (k : Int) := by omega
                  have g2 : ¬ (m : Int) < 0 := by omega
                  have Hpv := hidR (And.intro hpv hpn)
                  have Hm2 := hidR (And.intro h1 h2)
                  have Hb4 := hidR hlk
                  clear hcut heL h3 hka hpv hpn h1 h2 hlk
                  have KX := tat8_any Hx.out B g cap wg wc m _ HCi.out.1 hmL
                  go_wp2_with fail
                  refine KX.mono ?_
                  rintro e w5 ⟨rfl, hb⟩
                  clear KX
                  have HC5 := hidR (HCi.out.below hb)
                  have HP5 := hidR (HPi.out.below hb)
                  have HQ5 := hidR (HQi.out.below hb)
                  clear hb HCi HPi HQi
                  have u0 := bl1 w5 (.cells #[.int .u64 (hI (pfA ws L m)), .int .u64 (lI (pfA ws L m)), .int .i64 (ln L m)] 39)
                  have HC6 := hidR (HC5.out.below u0)
                  have HP6 := hidR (HP5.out.below u0)
                  have HQ6 := hidR (HQ5.out.below u0)
                  have KX := rparent_any (pfA ws L m) (ln L m) (w5.alloc (.cells #[.int .u64 (hI (pfA ws L m)), .int .u64 (lI (pfA ws L m)), .int .i64 (ln L m)] 39)) (by have := Hm2.out.2; have := Hb4.out; omega) (by have := (Hx.out.t.ln128 hmL).2; omega)
                  rw [Hpv.out.1, Hpv.out.2] at KX
                  clear u0 HC5 HP5 HQ5
                  go_wp2_with fail
                  revert HC6 HP6 HQ6 KX
                  generalize w5.alloc (.cells #[.int .u64 (hI (pfA ws L m)), .int .u64 (lI (pfA ws L m)), .int .i64 (ln L m)] 39) = W6
                  intro HC6 HP6 HQ6 KX
                  refine KX.mono ?_
                  rintro e w7 ⟨rfl, hb⟩
                  clear KX
                  have HC7 := hidR (HC6.out.below hb)
                  have HP7 := hidR (HP6.out.below hb)
                  have HQ7 := hidR (HQ6.out.below hb)
                  clear hb HC6 HP6 HQ6
                  have u0 := bl1 w7 (.cells #[.int .u64 (hI (pfA ws L k)), .int .u64 (lI (pfA ws L k)), .int .i64 (ln L k)] 39)
                  have HC8 := hidR (HC7.out.below u0)
                  have HP8 := hidR (HP7.out.below u0)
                  have HQ8 := hidR (HQ7.out.below u0)
                  obtain ⟨z0, z1, z2, -, -, -⟩ := HQ7.out
                  have hQl : Q < w7.heap.size := cell_in z0
                  have E1 : ∀ w, (Op.equalIn 10000 39 (.agg #[.int .u64 (hI (pfA ws L k)), .int .u64 (lI (pfA ws L k)), .int .i64 (ln L k)]) (.agg #[.int .u64 (hI (pfA ws L k)), .int .u64 (lI (pfA ws L k)), .int .i64 (ln L k)])).run Try.prog w = .ok true w := fun w => by simpa using eqP_run (pfA ws L k) (ln L k) (pfA ws L k) (ln L k) w
                  clear u0 HC7 HP7 HQ7
                  go_wp2
                  go_roundw
                  case rel => exact ⟨2, by omega, rfl, HC8, HP8, HQ8⟩
                  case measure => simp [intOf]
              · have hbe : b = 2 := by omega
                subst hbe
                have w10 : IntKind.i64.wrap ((k : Int) + 1) = ((k + 1 : Nat) : Int) := by rw [IntKind.wrap_i64]; push_cast; omega
                go_wp2
                go_roundw
                case rel => exact ⟨k + 1, pfA ws L k, ln L k, by have := Hks.out; omega, rfl, HCi, HPi, hidR ⟨fun h => by omega, fun j h => (by obtain rfl : k = j := Nat.succ.inj h; exact ⟨rfl, rfl⟩)⟩⟩
                case measure => simp [intOf]; have := Hks.out;  omega
      · have hd : decide ((k : Int) < (L.length : Int)) = false := decide_eq_false hlt
        clear HL HP
        go_wp2_with fail
        go_loopw [15] (fun i wr => ∃ j : Nat, j ≤ l.length ∧ i = .int .i64 j ∧ Hid (CT8 w F (.slice ao l.length c) B g cap wg wc L ws wr)) (fun i _ => l.length - (intOf i).toNat)
        case atStart => exact ⟨0, by omega, rfl, HC⟩
        case round =>
          clear HC
          obtain ⟨j, hj, rfl, HC⟩ := hrel
          obtain ⟨t0, t1⟩ := HC.out.2.1
          by_cases hlt2 : (j : Int) < (l.length : Int)
          · have hjs : j < l.length := by omega
            obtain ⟨ao2, c2, he, hrow⟩ := HVw.out
            have he1 : ao = ao2 := by injection he
            subst he1
            rcases hrow with h | ⟨b, off, rfl, hrow⟩
            · rw [h] at hjs; simp at hjs
            · have hmem := List.getElem_mem hjs
              obtain ⟨x0, x1, x2, x3⟩ := rwr_cells hrow j hjs
              obtain ⟨i, i1, i2, i3⟩ := Hx.out.t.hasr hmem
              have KF := fun w h => tfindR2_any Hx.out B g cap wg wc l[j] hmem i i1 i2 i3 w h
              have KH := fun w h => thop_any B F g cap (.slice (some ⟨wg, 0, none⟩) ws.length wc) L (i : Int) w h Hx.out.ok
              have hop : (ndAt L (i : Int)).hop = l[j].2 := by rw [nd8_at i1]; exact Hx.out.t.route hmem i1 i2 i3
              rw [hop] at KH
              have Hjs := hidR hjs
              have w10 : IntKind.i64.wrap ((j : Int) + 1) = ((j + 1 : Nat) : Int) := by rw [IntKind.wrap_i64]; push_cast; omega
              have hji : (j : Int) < (l.length : Int) := by omega
              have hj0 : 0 ≤ (j : Int) := by omega
              revert x0 x1 x2 x3 KF KH
              generalize l[j].1.1 = rx
              generalize l[j].1.2 = rn
              generalize l[j].2 = rh
              intro x0 x1 x2 x3 KF KH
              clear hmem hop i2 i3 hrow he
              go_wp2_with fail
              clear t0 t1
              refine qw_region (C := CT8 w F (.slice (some ⟨b, off, none⟩) l.length c) B g cap wg wc L ws) (by kernel_rfl) (by kernel_rfl) (HC.out.below (below_drewN (Below.refl _ _) 1)) ?_
              clear HC
              refine qw_run (v := .pointer (some ⟨B, 0, none⟩)) (by rfl) ?_ ?_
              · (intro w9 hC; obtain ⟨t0, t1⟩ := hC.2.1; have y0 := keepc hC.2.2 x0; have y1 := keepc hC.2.2 x1; have y2 := keepc hC.2.2 x2; have y3 := keepc hC.2.2 x3; clear hC; go_simp; first | done | (simp; done) | (simp [*]; done) | omega | (simp; omega) | (intro hx; omega) | rfl)
              simp only [Act.put, List.setIfInBounds_toArray, List.set_cons_zero, List.set_cons_succ]
              refine qw_run (v := .pointer (some ⟨B, 0, none⟩)) (by rfl) ?_ ?_
              · (intro w9 hC; obtain ⟨t0, t1⟩ := hC.2.1; have y0 := keepc hC.2.2 x0; have y1 := keepc hC.2.2 x1; have y2 := keepc hC.2.2 x2; have y3 := keepc hC.2.2 x3; clear hC; go_simp; first | done | (simp; done) | (simp [*]; done) | omega | (simp; omega) | (intro hx; omega) | rfl)
              simp only [Act.put, List.setIfInBounds_toArray, List.set_cons_zero, List.set_cons_succ]
              refine qw_run (v := .pointer (some ⟨w.heap.size, 1, none⟩)) (by rfl) ?_ ?_
              · (intro w9 hC; obtain ⟨t0, t1⟩ := hC.2.1; have y0 := keepc hC.2.2 x0; have y1 := keepc hC.2.2 x1; have y2 := keepc hC.2.2 x2; have y3 := keepc hC.2.2 x3; clear hC; go_simp; first | done | (simp; done) | (simp [*]; done) | omega | (simp; omega) | (intro hx; omega) | rfl)
              simp only [Act.put, List.setIfInBounds_toArray, List.set_cons_zero, List.set_cons_succ]
              refine qw_run (v := .slice (some ⟨b, off, none⟩) l.length c) (by rfl) ?_ ?_
              · (intro w9 hC; obtain ⟨t0, t1⟩ := hC.2.1; have y0 := keepc hC.2.2 x0; have y1 := keepc hC.2.2 x1; have y2 := keepc hC.2.2 x2; have y3 := keepc hC.2.2 x3; clear hC; go_simp; first | done | (simp; done) | (simp [*]; done) | omega | (simp; omega) | (intro hx; omega) | rfl)
              simp only [Act.put, List.setIfInBounds_toArray, List.set_cons_zero, List.set_cons_succ]
              refine qw_run (v := .int .i64 (j : Int)) (by rfl) ?_ ?_
              · (intro w9 hC; obtain ⟨t0, t1⟩ := hC.2.1; have y0 := keepc hC.2.2 x0; have y1 := keepc hC.2.2 x1; have y2 := keepc hC.2.2 x2; have y3 := keepc hC.2.2 x3; clear hC; go_simp; first | done | (simp; done) | (simp [*]; done) | omega | (simp; omega) | (intro hx; omega) | rfl)
              simp only [Act.put, List.setIfInBounds_toArray, List.set_cons_zero, List.set_cons_succ]
              refine qw_run (v := .pointer (some ⟨b, off + j * 4, none⟩)) (by rfl) ?_ ?_
              · (intro w9 hC; obtain ⟨t0, t1⟩ := hC.2.1; have y0 := keepc hC.2.2 x0; have y1 := keepc hC.2.2 x1; have y2 := keepc hC.2.2 x2; have y3 := keepc hC.2.2 x3; clear hC; go_simp; first | done | (simp; done) | (simp [*]; done) | omega | (simp; omega) | (intro hx; omega) | rfl)
              simp only [Act.put, List.setIfInBounds_toArray, List.set_cons_zero, List.set_cons_succ]
              refine qw_run (v := .pointer (some ⟨b, off + j * 4, none⟩)) (by rfl) ?_ ?_
              · (intro w9 hC; obtain ⟨t0, t1⟩ := hC.2.1; have y0 := keepc hC.2.2 x0; have y1 := keepc hC.2.2 x1; have y2 := keepc hC.2.2 x2; have y3 := keepc hC.2.2 x3; clear hC; go_simp; first | done | (simp; done) | (simp [*]; done) | omega | (simp; omega) | (intro hx; omega) | rfl)
              simp only [Act.put, List.setIfInBounds_toArray, List.set_cons_zero, List.set_cons_succ]
              refine qw_run (v := .agg #[.int .u64 (hI rx), .int .u64 (lI rx), .int .i64 rn]) (by rfl) ?_ ?_
              · (intro w9 hC; obtain ⟨t0, t1⟩ := hC.2.1; have y0 := keepc hC.2.2 x0; have y1 := keepc hC.2.2 x1; have y2 := keepc hC.2.2 x2; have y3 := keepc hC.2.2 x3; clear hC; go_simp; first | done | (simp; done) | (simp [*]; done) | omega | (simp; omega) | (intro hx; omega) | rfl)
              simp only [Act.put, List.setIfInBounds_toArray, List.set_cons_zero, List.set_cons_succ]
              refine qw_call (v := .int .i64 (i : Int)) (f := 23) (args := #[.pointer (some ⟨B, 0, none⟩), .agg #[.int .u64 (hI rx), .int .u64 (lI rx), .int .i64 rn]]) (by rfl) ?_ ?_ ?_
              · (intro w9 hC; clear hC; go_simp)
              · exact fun w9 hC => (KF w9 hC.1).mono fun e w' ⟨he, hb⟩ => ⟨he, hC.below hb⟩
              simp only [Act.put, List.setIfInBounds_toArray, List.set_cons_zero, List.set_cons_succ]
              refine qw_call (v := .int .i64 rh) (f := 14) (args := #[.pointer (some ⟨B, 0, none⟩), .int .i64 (i : Int)]) (by rfl) ?_ ?_ ?_
              · (intro w9 hC; clear hC; go_simp)
              · exact fun w9 hC => (KH w9 hC.1.tn).mono fun e w' ⟨he, hb⟩ => ⟨he, hC.below hb⟩
              simp only [Act.put, List.setIfInBounds_toArray, List.set_cons_zero, List.set_cons_succ]
              refine qw_run (v := .pointer (some ⟨w.heap.size, 1, none⟩)) (by rfl) ?_ ?_
              · (intro w9 hC; obtain ⟨t0, t1⟩ := hC.2.1; have y0 := keepc hC.2.2 x0; have y1 := keepc hC.2.2 x1; have y2 := keepc hC.2.2 x2; have y3 := keepc hC.2.2 x3; clear hC; go_simp; first | done | (simp; done) | (simp [*]; done) | omega | (simp; omega) | (intro hx; omega) | rfl)
              simp only [Act.put, List.setIfInBounds_toArray, List.set_cons_zero, List.set_cons_succ]
              refine qw_run (v := .slice (some ⟨b, off, none⟩) l.length c) (by rfl) ?_ ?_
              · (intro w9 hC; obtain ⟨t0, t1⟩ := hC.2.1; have y0 := keepc hC.2.2 x0; have y1 := keepc hC.2.2 x1; have y2 := keepc hC.2.2 x2; have y3 := keepc hC.2.2 x3; clear hC; go_simp; first | done | (simp; done) | (simp [*]; done) | omega | (simp; omega) | (intro hx; omega) | rfl)
              simp only [Act.put, List.setIfInBounds_toArray, List.set_cons_zero, List.set_cons_succ]
              refine qw_run (v := .int .i64 (j : Int)) (by rfl) ?_ ?_
              · (intro w9 hC; obtain ⟨t0, t1⟩ := hC.2.1; have y0 := keepc hC.2.2 x0; have y1 := keepc hC.2.2 x1; have y2 := keepc hC.2.2 x2; have y3 := keepc hC.2.2 x3; clear hC; go_simp; first | done | (simp; done) | (simp [*]; done) | omega | (simp; omega) | (intro hx; omega) | rfl)
              simp only [Act.put, List.setIfInBounds_toArray, List.set_cons_zero, List.set_cons_succ]
              refine qw_run (v := .pointer (some ⟨b, off + j * 4, none⟩)) (by rfl) ?_ ?_
              · (intro w9 hC; obtain ⟨t0, t1⟩ := hC.2.1; have y0 := keepc hC.2.2 x0; have y1 := keepc hC.2.2 x1; have y2 := keepc hC.2.2 x2; have y3 := keepc hC.2.2 x3; clear hC; go_simp; first | done | (simp; done) | (simp [*]; done) | omega | (simp; omega) | (intro hx; omega) | rfl)
              simp only [Act.put, List.setIfInBounds_toArray, List.set_cons_zero, List.set_cons_succ]
              refine qw_run (v := .pointer (some ⟨b, off + j * 4 + 3, none⟩)) (by rfl) ?_ ?_
              · (intro w9 hC; obtain ⟨t0, t1⟩ := hC.2.1; have y0 := keepc hC.2.2 x0; have y1 := keepc hC.2.2 x1; have y2 := keepc hC.2.2 x2; have y3 := keepc hC.2.2 x3; clear hC; go_simp; first | done | (simp; done) | (simp [*]; done) | omega | (simp; omega) | (intro hx; omega) | rfl)
              simp only [Act.put, List.setIfInBounds_toArray, List.set_cons_zero, List.set_cons_succ]
              refine qw_run (v := .int .i64 rh) (by rfl) ?_ ?_
              · (intro w9 hC; obtain ⟨t0, t1⟩ := hC.2.1; have y0 := keepc hC.2.2 x0; have y1 := keepc hC.2.2 x1; have y2 := keepc hC.2.2 x2; have y3 := keepc hC.2.2 x3; clear hC; go_simp; first | done | (simp; done) | (simp [*]; done) | omega | (simp; omega) | (intro hx; omega) | rfl)
              simp only [Act.put, List.setIfInBounds_toArray, List.set_cons_zero, List.set_cons_succ]
              refine qw_run (v := .bool false) (by rfl) ?_ ?_
              · (intro w9 hC; obtain ⟨t0, t1⟩ := hC.2.1; have y0 := keepc hC.2.2 x0; have y1 := keepc hC.2.2 x1; have y2 := keepc hC.2.2 x2; have y3 := keepc hC.2.2 x3; clear hC; go_simp; first | done | (simp; done) | (simp [*]; done) | omega | (simp; omega) | (intro hx; omega) | rfl)
              simp only [Act.put, List.setIfInBounds_toArray, List.set_cons_zero, List.set_cons_succ]
              refine qw_nil ?_
              intro W hC
              have HC := hidR hC
              clear hC KF KH x0 x1 x2 x3
              go_wp2
              go_roundw
              case rel => exact ⟨j + 1, by have := Hjs.out; omega, rfl, HC⟩
              case measure => simp [intOf]; have := Hjs.out; omega
          · have hd2 : decide ((j : Int) < (l.length : Int)) = false := decide_eq_false hlt2
            go_wp2
            exact bodyPost_ret (v := .bool true) (by simp [results, Try.results6, go_sem]) rfl ⟨rfl, HC.out.2.2⟩
end Go.Proofs.Ytoejhhoniflpeaa
