/-
  Part 19 of the proof: 6 texts, one behind the other.
-/
import Derived.Test.YtmemnjcpoggdhaaPart11
import Derived.Test.YtmemnjcpoggdhaaPart5
import Derived.Test.YtmemnjcpoggdhaaPart17
import Derived.Test.YtmemnjcpoggdhaaPart18
import Derived.Test.YtmemnjcpoggdhaaPart15
import Derived.Test.YtmemnjcpoggdhaaPart16
namespace Go.Proofs.Ytmemnjcpoggdhaa
open Go.RowKit Go.Shelf
set_option linter.unusedSimpArgs false
set_option linter.unusedVariables false
attribute [local go_sem] Oper.semAt_some

def wdsE (d : Nde) : Int := if bitsB d.b = true then (if ioB d = true then (if d.b ≤ 24 then 0 else 18) else 19) else 1
def wdsN (d : Nde) : Int := if wdsE d = 0 then (szN d : Int) else 0
end Go.Proofs.Ytmemnjcpoggdhaa
namespace Go.Proofs.Ytmemnjcpoggdhaa
open Go.RowKit Go.Shelf
set_option linter.unusedSimpArgs false
set_option linter.unusedVariables false
attribute [local go_sem] Oper.semAt_some

end Go.Proofs.Ytmemnjcpoggdhaa
namespace Go.Proofs.Ytmemnjcpoggdhaa
open Go.RowKit
set_option linter.unusedSimpArgs false
set_option linter.unusedVariables false

theorem rmapWords_any (n : Nat) (h : n ≤ 24) (w : World) :
    Calls Try.prog 63 #[.int .i64 (n : Int)] w fun e w' => e = .returned (.int .i64 (mwN n : Int)) ∧ w' = w := by
  by_cases c : n < 5
  · have c1 : (n : Int) < 5 := by omega
    have e : Hid (mwN n = 1) := by show _ = _; unfold mwN; rw [if_pos c]
    clear c h
    go_enter Try.func63, Try.ntmps63
    go_wp2
    go_ret
    exact ⟨by rw [e.out]; rfl, rfl⟩
  · have c1 : ¬ (n : Int) < 5 := by omega
    obtain ⟨j, hj⟩ : ∃ j, j = n - 5 := ⟨_, rfl⟩
    have hs := sh64 j (by omega)
    obtain ⟨P, hP⟩ : ∃ P : Nat, P = 2 ^ j := ⟨_, rfl⟩
    rw [← hP] at hs
    have e : Hid (mwN n = P) := by show _ = _; unfold mwN; rw [if_neg c, hP, hj]
    have hw : IntKind.i64.wrap ((n : Int) - 5) = (j : Int) := by rw [IntKind.wrap_i64]; omega
    clear c h hP hj
    go_enter Try.func63, Try.ntmps63
    go_wp2
    go_ret
    exact ⟨by rw [e.out]; rfl, rfl⟩
end Go.Proofs.Ytmemnjcpoggdhaa
namespace Go.Proofs.Ytmemnjcpoggdhaa
open Go.RowKit
set_option linter.unusedSimpArgs false
set_option linter.unusedVariables false
attribute [local go_sem] Oper.semAt_some

set_option maxRecDepth 100000 in
set_option maxHeartbeats 8000000 in
theorem rwords_any (b : Int) (v : Value) (l : List Rn) (w : World) (hv : RwN w v l) (hl : l.length ≤ 1000000) :
    Calls Try.prog 36 #[.agg #[.int .i64 b, v]] w fun e w' => e = .returned (.tuple #[.int .i64 (wdsN ⟨b, l⟩), .int .i64 (wdsE ⟨b, l⟩)]) ∧ Below w.heap.size w w' := by
  obtain ⟨ao, c, hvf, -⟩ := id hv
  subst hvf
  have q1 := bl1 w (.cells #[.int .i64 b, .slice ao l.length c] 71)
  have HD := hid13 (atd_new w b (.slice ao l.length c) 71)
  have HB := hid13 q1
  have HV := hid13 (hv.below q1)
  clear hv q1
  by_cases hlo : b < 0
  · have HN : Hid (wdsN ⟨b, l⟩ = 0 ∧ wdsE ⟨b, l⟩ = 1) := by
      have e : wdsE ⟨b, l⟩ = 1 := by unfold wdsE bitsB; rw [if_neg (by simp; omega)]
      exact ⟨by unfold wdsN; rw [e]; rfl, e⟩
    generalize wdsN ⟨b, l⟩ = rn at *
    generalize wdsE ⟨b, l⟩ = re at *
    go_enter Try.func36, Try.ntmps36
    go_wp2
    refine bodyPost_ret (v := .tuple #[.int .i64 (0), .int .i64 (1)]) (by simp [results, Try.results36, go_sem]) rfl ⟨by rw [HN.out.1, HN.out.2], HB.out⟩
  · by_cases hhi : 128 < b
    · have HN : Hid (wdsN ⟨b, l⟩ = 0 ∧ wdsE ⟨b, l⟩ = 1) := by
        have e : wdsE ⟨b, l⟩ = 1 := by unfold wdsE bitsB; rw [if_neg (by simp; omega)]
        exact ⟨by unfold wdsN; rw [e]; rfl, e⟩
      generalize wdsN ⟨b, l⟩ = rn at *
      generalize wdsE ⟨b, l⟩ = re at *
      go_enter Try.func36, Try.ntmps36
      go_wp2
      refine bodyPost_ret (v := .tuple #[.int .i64 (0), .int .i64 (1)]) (by simp [results, Try.results36, go_sem]) rfl ⟨by rw [HN.out.1, HN.out.2], HB.out⟩
    · have hbb : bitsB b = true := by unfold bitsB; simp; omega
      have KR := rruns_any b _ l _ HV.out hl (by omega) (by omega)
      have HE : Hid (wdsE ⟨b, l⟩ = (if ioB ⟨b, l⟩ = true then (if b ≤ 24 then 0 else 18) else 19) ∧ wdsN ⟨b, l⟩ = if wdsE ⟨b, l⟩ = 0 then (szN ⟨b, l⟩ : Int) else 0) := ⟨by unfold wdsE; rw [if_pos hbb], rfl⟩
      have HSz : Hid (szN ⟨b, l⟩ = if b = 0 then 1 else 2 + mwN b.toNat + l.length) := rfl
      generalize wdsN ⟨b, l⟩ = rn at *
      generalize wdsE ⟨b, l⟩ = re at *
      generalize szN ⟨b, l⟩ = sz at *
      generalize ioB ⟨b, l⟩ = io at *
      clear hbb
      go_enter Try.func36, Try.ntmps36
      go_wp2_with fail
      refine KR.mono ?_
      rintro e w2 ⟨rfl, hb2⟩
      have HB2 := hid13 (keepb hb2 HB.out)
      have HD2 := hid13 (HD.out.below hb2)
      obtain ⟨a0, a1⟩ := HD2.out
      clear KR hb2
      cases io with
      | false =>
        have HN : Hid (rn = 0 ∧ re = 19) := by
          have e : re = 19 := HE.out.1
          exact ⟨by rw [HE.out.2, e]; rfl, e⟩
        clear HE
        go_wp2
        refine bodyPost_ret (v := .tuple #[.int .i64 (0), .int .i64 (19)]) (by simp [results, Try.results36, go_sem]) rfl ⟨by rw [HN.out.1, HN.out.2], HB2.out⟩
      | true =>
        by_cases h24 : 24 < b
        · have HN : Hid (rn = 0 ∧ re = 18) := by
            have e : re = 18 := by rw [HE.out.1, if_pos rfl, if_neg (by omega)]
            exact ⟨by rw [HE.out.2, e]; rfl, e⟩
          clear HE
          go_wp2
          refine bodyPost_ret (v := .tuple #[.int .i64 (0), .int .i64 (18)]) (by simp [results, Try.results36, go_sem]) rfl ⟨by rw [HN.out.1, HN.out.2], HB2.out⟩
        · have e : re = 0 := by rw [HE.out.1, if_pos rfl, if_pos (by omega)]
          have en : rn = (sz : Int) := by rw [HE.out.2, if_pos e]
          by_cases hb0 : b = 0
          · have HN : Hid (rn = 1 ∧ re = 0) := ⟨by rw [en, HSz.out, if_pos hb0]; rfl, e⟩
            clear HE e en HSz
            subst hb0
            go_wp2
            refine bodyPost_ret (v := .tuple #[.int .i64 (1), .int .i64 (0)]) (by simp [results, Try.results36, go_sem]) rfl ⟨by rw [HN.out.1, HN.out.2], HB2.out⟩
          · obtain ⟨nb, rfl⟩ : ∃ nb : Nat, b = (nb : Int) := ⟨b.toNat, by omega⟩
            have HN : Hid (rn = 2 + (mwN nb : Int) + (l.length : Int) ∧ re = 0) := ⟨by rw [en, HSz.out, if_neg hb0, Int.toNat_natCast]; push_cast; rfl, e⟩
            have KM := fun w => rmapWords_any nb (by omega) w
            have hmw : mwN nb ≤ 524288 := mwN_hi nb (by omega)
            have hnb0 : nb ≠ 0 := by rintro rfl; exact hb0 rfl
            have e0 : ((nb : Int) == 0) = false := by simpa using hb0
            have HC : Hid (AtD w2.drew w.heap.size (nb : Int) (.slice ao l.length c) ∧ Below w.heap.size w w2.drew) := ⟨⟨a0, a1⟩, HB2.out.drew⟩
            clear HE e en HSz hb0 hnb0
            generalize mwN nb = mw at *
            go_wp2_with fail
            refine qw_region (C := fun X => AtD X w.heap.size (nb : Int) (.slice ao l.length c) ∧ Below w.heap.size w X) (by kernel_rfl) (by kernel_rfl) HC.out ?_
            refine qw_run (v := .pointer (some ⟨w.heap.size, 0, none⟩)) (by rfl) ?_ ?_
            · (intro w9 hC; clear hC; go_simp; first | done | (simp; done) | (simp [*]; done) | omega | (simp; omega) | (rw [IntKind.wrap_i64]; omega) | (intro hx; omega) | rfl)
            simp only [Act.put, List.setIfInBounds_toArray, List.set_cons_zero, List.set_cons_succ]
            refine qw_run (v := .int .i64 (nb : Int)) (by rfl) ?_ ?_
            · (intro w9 hC; obtain ⟨⟨a0, a1⟩, -⟩ := id hC; clear hC; go_simp; first | done | (simp; done) | (simp [*]; done) | omega | (simp; omega) | (rw [IntKind.wrap_i64]; omega) | (intro hx; omega) | rfl)
            simp only [Act.put, List.setIfInBounds_toArray, List.set_cons_zero, List.set_cons_succ]
            refine qw_call (v := .int .i64 (mw : Int)) (f := 63) (args := #[.int .i64 (nb : Int)]) (by rfl) ?_ ?_ ?_
            · (intro w9 hC; clear hC; go_simp; first | done | (simp; done) | rfl)
            · exact fun w9 hC => (KM w9).mono fun e w' h => ⟨h.1, by rw [h.2]; exact hC⟩
            simp only [Act.put, List.setIfInBounds_toArray, List.set_cons_zero, List.set_cons_succ]
            refine qw_run (v := .int .i64 (2 + (mw : Int))) (by rfl) ?_ ?_
            · (intro w9 hC; clear hC; go_simp; first | done | (simp; done) | (simp [*]; done) | omega | (simp; omega) | (rw [IntKind.wrap_i64]; omega) | (intro hx; omega) | rfl)
            simp only [Act.put, List.setIfInBounds_toArray, List.set_cons_zero, List.set_cons_succ]
            refine qw_run (v := .pointer (some ⟨w.heap.size, 1, none⟩)) (by rfl) ?_ ?_
            · (intro w9 hC; clear hC; go_simp; first | done | (simp; done) | (simp [*]; done) | omega | (simp; omega) | (rw [IntKind.wrap_i64]; omega) | (intro hx; omega) | rfl)
            simp only [Act.put, List.setIfInBounds_toArray, List.set_cons_zero, List.set_cons_succ]
            refine qw_run (v := .slice ao l.length c) (by rfl) ?_ ?_
            · (intro w9 hC; obtain ⟨⟨a0, a1⟩, -⟩ := id hC; clear hC; go_simp; first | done | (simp; done) | (simp [*]; done) | omega | (simp; omega) | (rw [IntKind.wrap_i64]; omega) | (intro hx; omega) | rfl)
            simp only [Act.put, List.setIfInBounds_toArray, List.set_cons_zero, List.set_cons_succ]
            refine qw_run (v := .int .i64 (l.length : Int)) (by rfl) ?_ ?_
            · (intro w9 hC; clear hC; go_simp; first | done | (simp; done) | (simp [*]; done) | omega | (simp; omega) | (rw [IntKind.wrap_i64]; omega) | (intro hx; omega) | rfl)
            simp only [Act.put, List.setIfInBounds_toArray, List.set_cons_zero, List.set_cons_succ]
            refine qw_run (v := .int .i64 (2 + (mw : Int) + (l.length : Int))) (by rfl) ?_ ?_
            · (intro w9 hC; clear hC; go_simp; first | done | (simp; done) | (simp [*]; done) | omega | (simp; omega) | (rw [IntKind.wrap_i64]; omega) | (intro hx; omega) | rfl)
            simp only [Act.put, List.setIfInBounds_toArray, List.set_cons_zero, List.set_cons_succ]
            refine qw_run (v := .int .i64 (2 + (mw : Int) + (l.length : Int))) (by rfl) ?_ ?_
            · (intro w9 hC; clear hC; go_simp; first | done | (simp; done) | (simp [*]; done) | omega | (simp; omega) | (rw [IntKind.wrap_i64]; omega) | (intro hx; omega) | rfl)
            simp only [Act.put, List.setIfInBounds_toArray, List.set_cons_zero, List.set_cons_succ]
            refine qw_run (v := .int .i64 0) (by rfl) ?_ ?_
            · (intro w9 hC; clear hC; go_simp; first | done | (simp; done) | (simp [*]; done) | omega | (simp; omega) | (rw [IntKind.wrap_i64]; omega) | (intro hx; omega) | rfl)
            simp only [Act.put, List.setIfInBounds_toArray, List.set_cons_zero, List.set_cons_succ]
            refine qw_nil ?_
            intro w9 hC
            have HB9 := hid13 hC.2
            clear hC
            go_wp2
            refine bodyPost_ret (v := .tuple #[.int .i64 (2 + (mw : Int) + (l.length : Int)), .int .i64 (0)]) (by simp [results, Try.results36, go_sem]) rfl ⟨by rw [HN.out.1, HN.out.2], HB9.out⟩
end Go.Proofs.Ytmemnjcpoggdhaa
namespace Go.Proofs.Ytmemnjcpoggdhaa
open Go.RowKit Go.Shelf
set_option linter.unusedSimpArgs false
set_option linter.unusedVariables false
attribute [local go_sem] Oper.semAt_some

set_option maxRecDepth 20000 in
set_option maxHeartbeats 4000000 in
theorem rorder16_any (F : Int) (v : Value) (L : List Nde) (w : World) (hv : RwD w v L) (hl : L.length ≤ 1000000) (hr : ∀ d ∈ L, d.r.length ≤ 1000000) :
    Calls Try.prog 14 #[.int .i64 F, v] w fun e w' => ∃ v', e = .returned (.tuple #[v', .int .i64 (chkM F L).2]) ∧ w'.ownsRow w.heap.size 3 1 v' (ordR F L).length ((ordR F L).map cI) ∧ Below w.heap.size w w' := by
  have KC := rcheck_any F v L w hv hl hr
  have HV := hid13 hv
  have HOk := hid13 (fun h => (chk_ok (F := F) (L := L) h).1)
  have HOr : Hid (∀ e, (chkM F L).2 = e → ordR F L = if e = 0 then ordL L else []) := hid13 (fun e h => by unfold ordR; rw [h])
  have HLr : Hid (L.length ≤ 1000000 ∧ ∀ d ∈ L, d.r.length ≤ 1000000) := ⟨hl, hr⟩
  generalize chkM F L = cm at *
  obtain ⟨cd, ce⟩ := cm
  dsimp only at KC HOk HOr
  clear hv hr hl
  go_enter Try.func14, Try.ntmps14
  go_wp2_with fail
  refine KC.mono ?_
  rintro e w2 ⟨rfl, hb2⟩
  have HB2 := hid13 hb2
  have HV2 := hid13 (HV.out.below hb2)
  clear KC hb2 HV
  by_cases h0 : ce = 0
  · have HE := hid13 (HOr.out 0 h0)
    have KW := rorder12_any v L w2 HV2.out (HOk.out h0) HLr.out.1 HLr.out.2
    subst h0
    clear HOk HOr
    go_wp2_with fail
    refine KW.mono ?_
    rintro e w3 ⟨v', rfl, ho, hb3⟩
    have HO := hid13 ho
    have HB3 := hid13 (keepb hb3 HB2.out)
    have HBs := hid13 HB2.out.size
    clear KW ho hb3
    go_wp2
    refine bodyPost_ret (v := .tuple #[v', .int .i64 0]) (by simp [results, Try.results14, go_sem]) rfl ⟨v', rfl, ?_, HB3.out⟩
    rw [HE.out]
    exact own_base16 HO.out HBs.out
  · have hn : (ce != 0) = true := by simpa using h0
    have HE : Hid (ordR F L = []) := by show _ = _; rw [HOr.out ce rfl, if_neg h0]
    clear HOk HOr
    go_wp2
    refine bodyPost_ret (v := .tuple #[.slice none 0 0, .int .i64 ce]) (by simp [results, Try.results14, go_sem]) rfl ⟨_, rfl, ?_, HB2.out⟩
    rw [HE.out]
    exact World.ownsRow_nil _ _ _ _
structure PlV (w : World) (vo : Value) (Gp : Nat) (o P : List Int) (W : World) : Prop where
  g : W.heap[Gp]? = some (.cells (P.map cI).toArray 3)
  o : W.ownsRow w.heap.size 3 1 vo o.length (o.map cI)
  b : Below w.heap.size w W
  ge : w.heap.size ≤ Gp
  ne : vo.ownBlock ≠ some Gp
section
variable {w W W' : World} {vo : Value} {Gp : Nat} {o P : List Int}
theorem PlV.below (h : PlV w vo Gp o P W) (hb : Below W.heap.size W W') : PlV w vo Gp o P W' := ⟨(hb.block _ (lt_16 h.g)).trans h.g, own_b13 hb h.o, keepb hb h.b, h.ge, h.ne⟩
theorem PlV.put (h : PlV w vo Gp o P W) (k : Nat) (m : Int) : PlV w vo Gp o (P.set k m) (W.setCell ⟨Gp, k, none⟩ (.int .i64 m)) := by
  refine ⟨?_, own_far16 h.o _ h.ne, h.b.setCell (p := ⟨Gp, k, none⟩) h.ge _, h.ge, h.ne⟩
  rw [set_16 h.g, List.setIfInBounds_toArray, List.map_set]; rfl
end
theorem own_block16 {W : World} {base e g n : Nat} {xs : List Value} (h : W.heap[g]? = some (.cells xs.toArray e)) (hb : base ≤ g) (hn : xs.length = n) (hm : n ≤ maxLen) : W.ownsRow base e 1 (.slice (some ⟨g, 0, none⟩) n n) n xs :=
  ⟨by simp [hn], .inr ⟨g, n, xs.toArray, rfl, hb, h, Nat.le_refl _, hm, by simp [hn], by rw [List.take_of_length_le (by simp [hn])]⟩⟩
set_option maxRecDepth 100000 in
set_option maxHeartbeats 16000000 in
theorem rplaces16_any (F : Int) (v : Value) (L : List Nde) (w : World) (hv : RwD w v L) (hl : L.length ≤ 1000000) (hr : ∀ d ∈ L, d.r.length ≤ 1000000) :
    Calls Try.prog 15 #[.int .i64 F, v] w fun e w' => ∃ vp, e = .returned (.tuple #[vp, .int .i64 ((layR F L).1.2.2 : Int), .int .i64 (layR F L).2]) ∧ w'.ownsRow w.heap.size 3 1 vp (layR F L).1.2.1.length ((layR F L).1.2.1.map cI) ∧ Below w.heap.size w w' := by
  obtain ⟨j0, hj, hj0, hj1, hj2⟩ := info13 Try.infoN16
  have KO := rorder16_any F v L w hv hl hr
  have HV := hid13 hv
  have HOk := hid13 (fun h => (chk_ok (F := F) (L := L) h).1)
  have HLr : Hid (L.length ≤ 1000000 ∧ ∀ d ∈ L, d.r.length ≤ 1000000) := ⟨hl, hr⟩
  have HLy : Hid (∀ e, (chkM F L).2 = e → layR F L = if e = 0 then (match plG L (ordL L) (List.replicate L.length 0) 0 with | some (P, n) => ((ordL L, P, n), 0) | none => (([], [], 0), 18)) else (([], [], 0), e)) := hid13 (fun e h => by unfold layR; rw [h]; first | rfl | (split; (cases plG L (ordL L) (List.replicate L.length 0) 0 <;> rfl); rfl))
  have HOr : Hid (∀ e, (chkM F L).2 = e → ordR F L = if e = 0 then ordL L else []) := hid13 (fun e h => by unfold ordR; rw [h])
  obtain ⟨R, hR⟩ : ∃ R, R = layR F L := ⟨_, rfl⟩
  rw [← hR] at HLy ⊢
  clear hR
  generalize (chkM F L).2 = ce at *
  generalize hOR : ordR F L = orr at *
  clear hv hr hOR
  go_enter Try.func15, Try.ntmps15
  go_wp2_with fail
  refine KO.mono ?_
  rintro e w2 ⟨vo, rfl, ho, hb2⟩
  have HB2 := hid13 hb2
  have HO2 := hid13 ho
  clear KO ho hb2
  by_cases h0 : ce = 0
  · have ok := HOk.out h0
    have eO := HOr.out 0 h0
    rw [if_pos rfl] at eO
    have HRR := hid13 (HLy.out 0 h0)
    rw [eO] at HO2
    have HoL : Hid ((ordL L).length ≤ L.length ∧ ∀ x ∈ ordL L, 0 ≤ x ∧ x < (L.length : Int)) := ⟨ord_len ok, ord_in ok⟩
    have Hok := hid13 ok
    generalize ordL L = o at *
    subst h0
    obtain ⟨ao, c, hvf, -, hrow⟩ := id HV.out
    obtain ⟨b, off, hao, hcell⟩ := hrow.resolve_left (by rintro rfl; exact absurd ok.1 (by simp))
    subst hao
    subst hvf
    have HC := hid13 hcell
    obtain ⟨oa, oc, hvo⟩ := own_form HO2.out
    subst hvo
    clear HOk HOr HLy eO ok hcell hrow
    go_wp2_with (at_make; apply stopHere9)
    refine (show wpList _ _ _ _ _ _ from ?_)
    refine wpList_make16 _ rfl _ _ 26 rfl 3 j0 (.int .i64 0) Try.underlying26 hj hj0 .i64 .i64 _ _ L.length L.length rfl rfl rfl rfl (Nat.le_refl _) (by rw [hj2]; omega) (by unfold maxLen; omega) ?_
    have eO : madeCells (Value.int IntKind.i64 0).cells (L.length * j0.size) = ((List.replicate L.length (0 : Int)).map cI).toArray := by rw [hj1, Nat.mul_one, List.map_replicate]; exact made_one16 _ _
    rw [eO]
    clear eO
    obtain ⟨O1, hO1⟩ : ∃ O : Obj, O = .cells ((List.replicate L.length (0 : Int)).map cI).toArray 3 := ⟨_, rfl⟩
    rw [← hO1]
    have Y0 : PlV w (.slice oa o.length oc) w2.heap.size o (List.replicate L.length 0) (w2.alloc O1) := by
      refine ⟨by rw [hO1]; exact new_16 _ _, own_b13 (bl1 w2 _) HO2.out, keepb (bl1 w2 _) HB2.out, HB2.out.size, fun e => ?_⟩
      have := HO2.out.lt _ e
      omega
    have HY0 := hid13 Y0
    clear Y0 hO1 HO2
    go_wp2_with fail
    revert HY0
    generalize w2.alloc O1 = W0
    generalize w2.heap.size = Gp
    intro HY0
    go_loopg [10, 11] o.length (fun g av iv wr => ∃ (i : Nat) (P : List Int) (n : Nat), i + g = o.length ∧ av = .int .i64 (n : Int) ∧ iv = .int .i64 (i : Int) ∧ Hid (PlV w (.slice oa o.length oc) Gp o P wr ∧ P.length = L.length ∧ n ≤ i * 2000000 ∧ plG L (o.drop i) P n = plG L o (List.replicate L.length 0) 0))
    case atStart => exact ⟨0, _, 0, by omega, rfl, rfl, hid13 ⟨HY0.out, by simp, by omega, rfl⟩⟩
    case round =>
      clear HY0
      obtain ⟨i, P, n, hk, rfl, rfl, HS⟩ := hrel
      by_cases hlt : (i : Int) < (o.length : Int)
      · have hli : i < o.length := by omega
        obtain ⟨x, hx⟩ : ∃ x, o[i]? = some x := ⟨o[i], by simp [hli]⟩
        obtain ⟨hx0, hx1⟩ := HoL.out.2 x (List.mem_of_getElem? hx)
        obtain ⟨k, rfl⟩ : ∃ k : Nat, x = (k : Int) := ⟨x.toNat, by omega⟩
        have hkL : k < L.length := by omega
        obtain ⟨⟨db, dr⟩, hd⟩ : ∃ d, L[k]? = some d := ⟨L[k], by simp [hkL]⟩
        have HT := hid13 (pl_drop L o i k _ hx hd P n)
        have hdr := HLr.out.2 _ (List.mem_of_getElem? hd)
        have hok := Hok.out.2 k _ hd
        obtain ⟨vr, x0, x1, hR⟩ := HC.out k _ hd
        obtain ⟨g0, ho0⟩ : ∃ g0, oa = some ⟨g0, 0, none⟩ := by
          rcases HS.out.1.o.2 with ⟨h1, h2⟩ | ⟨g, cap, cur, h1, -⟩
          · rw [h2] at hli; omega
          · injection h1 with h1; exact ⟨g, h1⟩
        subst ho0
        have o0 := (own_cell16 HS.out.1.o hx).1
        dsimp only at HT hdr x0 hR
        have HW : Hid (wdsE ⟨db, dr⟩ = (if db ≤ 24 then 0 else 18) ∧ wdsN ⟨db, dr⟩ = if wdsE ⟨db, dr⟩ = 0 then (szN ⟨db, dr⟩ : Int) else 0) := by
          refine ⟨?_, rfl⟩
          unfold wdsE
          rw [if_pos (show bitsB (Nde.mk db dr).b = true by have h1 := hok.b0; have h2 := hok.b1; dsimp only at h1 h2; unfold bitsB; simp; omega), if_pos hok.io]
        have KW := rwords_any db vr dr wr (hR.below HS.out.1.b) hdr
        have x0 := keepc HS.out.1.b x0
        have x1 := keepc HS.out.1.b x1
        have HJ : Hid (i < o.length ∧ o.length ≤ L.length ∧ L.length ≤ 1000000 ∧ i + gk = o.length) := ⟨hli, HoL.out.1, hl, hk⟩
        have hki : (k : Int) < (L.length : Int) := by omega
        have HSz : Hid (db ≤ 24 → szN ⟨db, dr⟩ ≤ 2000000) := fun h => by
          unfold szN
          dsimp only
          split
          · omega
          · have := mwN_hi db.toNat (by omega)
            omega
        generalize wdsE ⟨db, dr⟩ = wE at *
        generalize wdsN ⟨db, dr⟩ = wN at *
        obtain ⟨va, vc, hvr, -, -⟩ := id hR
        subst hvr
        have HXo := hid13 hx
        clear hR hd hx hok hk
        go_wp2_with fail
        refine KW.mono ?_
        rintro e w3 ⟨rfl, hb3⟩
        have HY3 := hid13 (HS.out.1.below hb3)
        clear KW hb3 x0 x1
        by_cases h24 : db ≤ 24
        · have hwE : wE = 0 := by rw [HW.out.1, if_pos h24]
          have hwN : wN = (szN ⟨db, dr⟩ : Int) := by rw [HW.out.2, if_pos hwE]
          subst hwE hwN
          have HS2 : Hid (plG L (o.drop (i + 1)) (P.set k (n : Int)) (n + szN ⟨db, dr⟩) = plG L o (List.replicate L.length 0) 0) := by show _ = _; rw [← HS.out.2.2.2, HT.out, if_pos h24]
          have HSl : Hid (szN ⟨db, dr⟩ ≤ 2000000 ∧ n ≤ i * 2000000) := ⟨HSz.out h24, HS.out.2.2.1⟩
          generalize szN ⟨db, dr⟩ = sz at *
          have hPk : P.length = L.length := HS.out.2.1
          obtain ⟨pk, hpk⟩ : ∃ pk, P[k]? = some pk := ⟨P[k]'(by omega), List.getElem?_eq_getElem _⟩
          have p2 : w3.cell? ⟨Gp, k, none⟩ = some (.int .i64 pk) := at_16 HY3.out.g k _ (by rw [List.getElem?_toArray, List.getElem?_map, hpk]; rfl)
          have p2f := fr_16 (j := k) HY3.out.g
          have o0 := (own_cell16 HY3.out.o HXo.out).1
          have HY4 := hid13 (HY3.out.put k (n : Int))
          have HPl : Hid ((P.set k (n : Int)).length = L.length) := by show _ = _; rw [List.length_set]; exact hPk
          have ms : IntKind.i64.wrap ((n : Int) + (sz : Int)) = ((n + sz : Nat) : Int) := by rw [IntKind.wrap_i64]; have := HSl.out; have := HJ.out; push_cast; omega
          have mi : IntKind.i64.wrap ((i : Int) + 1) = ((i + 1 : Nat) : Int) := by rw [IntKind.wrap_i64]; have := HJ.out; push_cast; omega
          clear HT h24 HS hPk hpk HW HSz
          go_wp2
          go_roundg (gk - 1)
          case measure => have := HJ.out; omega
          case rel => exact ⟨i + 1, P.set k (n : Int), n + sz, by have := HJ.out; omega, rfl, rfl, hid13 ⟨HY4.out, HPl.out, by have := HSl.out; omega, HS2.out⟩⟩
        · have hwE : wE = 18 := by rw [HW.out.1, if_neg h24]
          subst hwE
          have HPN : Hid (plG L o (List.replicate L.length 0) 0 = none) := by show _ = _; rw [← HS.out.2.2.2, HT.out, if_neg h24]
          have HR9 : Hid (R = (([], [], 0), 18)) := by show _ = _; rw [HRR.out, if_pos (by trivial), HPN.out]
          have HB9 := hid13 HY3.out.b
          clear HT h24 HS HY3 HW HSz
          go_wp2
          refine bodyPost_ret (v := .tuple #[.slice none 0 0, .int .i64 0, .int .i64 18]) (by simp [results, Try.results15, go_sem]) rfl ⟨_, by rw [HR9.out]; rfl, ?_, HB9.out⟩
          rw [HR9.out]; exact World.ownsRow_nil _ _ _ _
      · have hPN : plG L o (List.replicate L.length 0) 0 = some (P, n) := by
          rw [← HS.out.2.2.2, List.drop_eq_nil_of_le (by omega)]; rfl
        have HR9 : Hid (R = ((o, P, n), 0)) := by show _ = _; rw [HRR.out, if_pos (by trivial), hPN]
        have HYe := hid13 HS.out.1
        have HPl := hid13 HS.out.2.1
        clear hPN HS
        go_wp2
        refine bodyPost_ret (v := .tuple #[.slice (some ⟨Gp, 0, none⟩) L.length L.length, .int .i64 (n : Int), .int .i64 0]) (by simp [results, Try.results15, go_sem]) rfl ⟨_, by rw [HR9.out], ?_, HYe.out.b⟩
        rw [HR9.out]
        show World.ownsRow _ _ _ _ _ P.length _
        rw [HPl.out]
        exact own_block16 HYe.out.g HYe.out.ge (by simp [HPl.out]) (by unfold maxLen; have := HLr.out.1; omega)
  · have hn : (ce != 0) = true := by simpa using h0
    have HE : Hid (R = (([], [], 0), ce)) := by show _ = _; rw [HLy.out ce rfl, if_neg h0]
    obtain ⟨oa, oc, hvo⟩ := own_form HO2.out
    subst hvo
    clear HOk HOr HLy HO2
    go_wp2
    refine bodyPost_ret (v := .tuple #[.slice none 0 0, .int .i64 0, .int .i64 ce]) (by simp [results, Try.results15, go_sem]) rfl ⟨_, by rw [HE.out]; rfl, ?_, HB2.out⟩
    rw [HE.out]; exact World.ownsRow_nil _ _ _ _
end Go.Proofs.Ytmemnjcpoggdhaa
namespace Go.Proofs.Ytmemnjcpoggdhaa
open Go.RowKit Go.Shelf
set_option linter.unusedSimpArgs false
set_option linter.unusedVariables false
attribute [local go_sem] Oper.semAt_some

theorem plG_len (L : List Nde) : ∀ (o P : List Int) (n : Nat) (Q : List Int) (m : Nat), plG L o P n = some (Q, m) → Q.length = P.length
  | [], P, n, Q, m, h => by
    have h : some (P, n) = some (Q, m) := h
    injection h with h
    injection h with h
    rw [← h]
  | k :: o, P, n, Q, m, h => by
    unfold plG at h
    split at h
    · have := plG_len L o _ _ Q m h
      rw [this, List.length_set]
    · cases h
theorem ordR_len (F : Int) (L : List Nde) : (ordR F L).length ≤ L.length := by
  unfold ordR
  split
  · rename_i h
    exact ord_len (chk_ok h).1
  · simp
theorem layR_len (F : Int) (L : List Nde) : (layR F L).1.2.1.length ≤ L.length := by
  unfold layR
  split
  · cases h : plG L (ordL L) (List.replicate L.length 0) 0 with
    | none => simp
    | some x =>
      obtain ⟨Q, m⟩ := x
      have := plG_len L _ _ _ _ _ h
      simp at this ⊢
      omega
  · simp
set_option maxRecDepth 100000 in
set_option maxHeartbeats 16000000 in
theorem emitOrders_any (F : Int) (v : Value) (V : List Value) (L : List Nde) (w : World) (hF0 : -9223372036854775808 ≤ F) (hF1 : F ≤ 9223372036854775807) (hN : NdsIn w v V L) (hl : L.length ≤ 140737488355328) (hr : ∀ d ∈ L, d.r.length ≤ 140737488355328) :
    Calls Try.prog 3 #[.int .i64 F, v] w fun e w' => e = .returned (.bool true) ∧ Below w.heap.size w w' := by
  have HV := hid13 hN.d
  have HT := hid13 (nds_tw hN)
  have HL : Hid (L.length ≤ 140737488355328 ∧ ∀ d ∈ L, d.r.length ≤ 140737488355328) := ⟨hl, hr⟩
  obtain ⟨ao, c, hvf, -, -⟩ := id hN.d
  subst hvf
  clear hN hl hr hF0 hF1
  go_enter Try.func3, Try.ntmps3
  go_wp2_with fail
  refine (known16 _).mono ?_
  rintro e w1 ⟨rfl, hb1⟩
  have HB1 := hid13 hb1
  have KS := few_any _ L w1 (HV.out.below hb1) HL.out.1 HL.out.2
  have HFw := hid13 (fun h => few_ok (L := L) h)
  generalize fewB L = fb at *
  clear hb1
  go_wp2_with fail
  refine KS.mono ?_
  rintro e w2 ⟨rfl, hw⟩
  subst hw
  clear KS
  cases fb with
  | false =>
    go_wp2
    go_ret
    exact ⟨rfl, HB1.out⟩
  | true =>
  have hf := HFw.out rfl
  have HS : Hid (L.length ≤ 1000000 ∧ ∀ d ∈ L, d.r.length ≤ 1000000) := ⟨by omega, fun d hd => by have := hf.2 d hd; omega⟩
  have HG : Hid (L.length ≤ 1000000000 ∧ ∀ d ∈ L, d.r.length ≤ 1000000000) := ⟨by omega, fun d hd => by have := hf.2 d hd; omega⟩
  have HO : Hid ((ordR F L).length ≤ 9223372036854775806 ∧ (layR F L).1.2.1.length ≤ 9223372036854775806) := ⟨by have := ordR_len F L; omega, by have := layR_len F L; omega⟩
  have KT := twin_any _ L w2 (HT.out.below HB1.out) HS.out.1 HS.out.2
  have K1 := fun u W (h : RwD W u L) => order_any F u L W h HG.out.1 HG.out.2
  have K2 := fun u W (h : RwD W u L) => places_any F u L W h HG.out.1 HG.out.2
  have K3 := fun u W (h : RwD W u L) => rorder16_any F u L W h HS.out.1 HS.out.2
  have K4 := fun u W (h : RwD W u L) => rplaces16_any F u L W h HS.out.1 HS.out.2
  generalize ordR F L = o at *
  generalize layR F L = R at *
  generalize (chkM F L).2 = E at *
  obtain ⟨⟨R1, P, n⟩, E2⟩ := R
  dsimp only at K2 K4 HO
  have HK1 := hid13 K1
  have HK2 := hid13 K2
  have HK3 := hid13 K3
  have HK4 := hid13 K4
  clear hf HFw HL HG K1 K2 K3 K4
  go_wp2_with fail
  refine KT.mono ?_
  rintro e w3 ⟨v3, rfl, hR3, hb3⟩
  obtain ⟨o3, c3, hv3, -, -⟩ := id hR3
  subst hv3
  have HR3 := hid13 hR3
  have HB3 := hid13 (keepb hb3 HB1.out)
  have K1 := HK1.out _ _ hR3
  clear KT hR3 hb3 HB1 HK1
  go_wp2_with fail
  refine K1.mono ?_
  rintro e w4 ⟨v4, rfl, ho4, hb4⟩
  obtain ⟨o4, c4, hv4⟩ := own_form ho4
  subst hv4
  have HR4 := hid13 (HR3.out.below hb4)
  have HB4 := hid13 (keepb hb4 HB3.out)
  have HO4 := hid13 (own_rwx ho4)
  have K2 := HK2.out _ _ HR4.out
  clear K1 ho4 hb4 HB3 HR3 HK2
  go_wp2_with fail
  refine K2.mono ?_
  rintro e w5 ⟨v5, rfl, ho5, hb5⟩
  obtain ⟨o5, c5, hv5⟩ := own_form ho5
  subst hv5
  have HR5 := hid13 (HR4.out.below hb5)
  have HB5 := hid13 (keepb hb5 HB4.out)
  have HO4 := hid13 (HO4.out.below hb5)
  have HO5 := hid13 (own_rwx ho5)
  have K3 := HK3.out _ _ (HV.out.below HB5.out)
  clear K2 ho5 hb5 HB4 HR4 HK3
  go_wp2_with fail
  refine K3.mono ?_
  rintro e w6 ⟨v6, rfl, ho6, hb6⟩
  obtain ⟨o6, c6, hv6⟩ := own_form ho6
  subst hv6
  have HR6 := hid13 (HR5.out.below hb6)
  have HB6 := hid13 (keepb hb6 HB5.out)
  have HO4 := hid13 (HO4.out.below hb6)
  have HO5 := hid13 (HO5.out.below hb6)
  have HO6 := hid13 (own_rwx ho6)
  have K4 := HK4.out _ _ (HV.out.below HB6.out)
  clear K3 ho6 hb6 HB5 HR5 HK4
  go_wp2_with fail
  refine K4.mono ?_
  rintro e w7 ⟨v7, rfl, ho7, hb7⟩
  obtain ⟨o7, c7, hv7⟩ := own_form ho7
  subst hv7
  have HR7 := hid13 (HR6.out.below hb7)
  have HB7 := hid13 (keepb hb7 HB6.out)
  have HO4 := hid13 (HO4.out.below hb7)
  have HO5 := hid13 (HO5.out.below hb7)
  have HO6 := hid13 (HO6.out.below hb7)
  have HO7 := hid13 (own_rwx ho7)
  have K5 := same_any16 _ _ L w7 HR7.out (HV.out.below HB7.out) HS.out.1 HS.out.2
  clear K4 ho7 hb7 HB6 HR6
  go_wp2_with fail
  refine K5.mono ?_
  rintro e w8 ⟨rfl, hb8⟩
  have HB8 := hid13 (keepb hb8 HB7.out)
  have HO5 := hid13 (HO5.out.below hb8)
  have HO7 := hid13 (HO7.out.below hb8)
  have K6 := sameInts_any16 _ _ o w8 (HO4.out.below hb8) (HO6.out.below hb8) HO.out.1
  clear K5 hb8 HB7 HR7
  go_wp2_with fail
  refine K6.mono ?_
  rintro e w9 ⟨rfl, hb9⟩
  have HB9 := hid13 (keepb hb9 HB8.out)
  have K7 := sameInts_any16 _ _ P w9 (HO5.out.below hb9) (HO7.out.below hb9) HO.out.2
  clear K6 hb9 HB8
  go_wp2_with fail
  refine K7.mono ?_
  rintro e w10 ⟨rfl, hb10⟩
  have HB10 := hid13 (keepb hb10 HB9.out)
  clear K7 hb10 HB9
  go_wp2
  go_ret
  exact ⟨rfl, HB10.out⟩
end Go.Proofs.Ytmemnjcpoggdhaa
