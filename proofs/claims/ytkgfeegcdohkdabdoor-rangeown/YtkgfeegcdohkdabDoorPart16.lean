/-
  Part 16 of the proof: 3 texts, one behind the other.
-/
import Derived.Test.YtkgfeegcdohkdabDoorPart15
import Derived.Test.YtkgfeegcdohkdabDoorRows
import Derived.ProofKit
import Derived.Lib.SmallJoins
import Derived.Test.YtkgfeegcdohkdabDoorPart13
import Derived.Deep.Slices
import Derived.Carry
/-
  The law RangeOwn.
-/
namespace Go.Proofs.YtkgfeegcdohkdabDoor
open Go.RowKit
set_option linter.unusedSimpArgs false
set_option linter.unusedVariables false

theorem stopHere {P : Program} {w : World} {ops : Array Oper} {rest : List Oper} {a : Act} {Q : Exit → Act → World → Prop} {o : Oper} (h : Hid (wpList P ops Q (o :: rest) a w)) : wpList P ops Q (o :: rest) a w := h.out
set_option maxRecDepth 20000 in
set_option maxHeartbeats 8000000 in
theorem rangeOwn_any (six : Bool) (v : Value) (l : List (BitVec 128 × Int)) (w : World) (hT : Tab w) (hv : Rv w v l) :
    Calls Tryd.prog 4 #[.bool six, v] w fun e w' => e = .returned (.bool true) ∧ Below w.heap.size w w' := by
  obtain ⟨i0, hi, hz0, hz1, hz2⟩ := info_parts Tryd.infoP
  obtain ⟨j0, ji, jz0, jz1, jz2⟩ := info_parts Tryd.infoS
  have KF := fun w => family3_any six w
  obtain ⟨f0, f1⟩ := famZ_bd six
  have ff := famZ_fam six
  generalize famZ six = F at *
  have KN := known4_any w hT
  have KS := fun w hv => lsome_any F v l w hv (by omega) f1
  have HV : Hid (Rv w v l) := hv
  clear hv
  go_enter Tryd.func4, Tryd.ntmps4
  go_wp2_with fail
  refine KN.mono ?_
  rintro e w1 ⟨rfl, kB⟩
  clear KN
  go_wp2_with fail
  refine (KF _).mono ?_
  rintro e w2 ⟨rfl, rfl⟩
  clear KF
  go_wp2_with fail
  refine (KS _ (HV.out.below kB)).mono ?_
  rintro e w2 ⟨⟨vm, rfl, hrow⟩, hb⟩
  have kB2 := keepb hb kB
  have hL : (someL F l).length ≤ 200 := by unfold someL; simp; omega
  have HR : Hid (∀ x ∈ someL F l, Rp F x) := by
    intro x hx
    unfold someL at hx
    obtain ⟨y, -, rfl⟩ := List.mem_map.mp hx
    exact some_rt F y.1 y.2 (by omega)
  have hown := own_base hrow kB.size
  clear hb KS hrow kB HV
  generalize someL F l = L at *
  have Im : Hid (In vm w.heap.size w2.heap.size) := own_in hown
  have HM : Hid (w2.ownsRow w.heap.size 40 3 vm L.length (rowP L)) := hown
  obtain ⟨ao, c, rfl⟩ := own_form hown
  clear hown
  have hG : (ptAll [] (sortL L)).reverse.length ≤ 200 := by
    have := ptAll_le (sortL L) []
    rw [sortL_len] at this
    rw [List.length_reverse]
    simp at this
    omega
  have hRl : (psAll F [] (segL F (ptAll [] (sortL L)).reverse)).reverse.length ≤ 200 := by
    have := psAll_le F (segL F (ptAll [] (sortL L)).reverse) []
    rw [List.length_reverse]
    unfold segL at this ⊢
    simp only [List.length_map, List.length_nil] at this
    omega
  have KM := fun w hv => merge_o F (.slice ao L.length c) L w hv (by omega) ff HR.out
  have KR := fun w hv => rows_rp F (.slice ao L.length c) L w hv (by omega) ff HR.out
  generalize (psAll F [] (segL F (ptAll [] (sortL L)).reverse)).reverse = R at *
  generalize (ptAll [] (sortL L)).reverse = G at *
  go_wp2_with fail
  refine (KM _ (own_rw HM.out)).mono ?_
  rintro e w3 ⟨⟨va, rfl, ha⟩, hb⟩
  have HM : Hid (w3.ownsRow w.heap.size 40 3 (.slice ao L.length c) L.length (rowP L)) := own_below hb HM.out
  have kB3 := keepb hb kB2
  have Ia : Hid (In va w2.heap.size w3.heap.size) := own_in ha
  have s23 := hb.size
  have HA : Hid (w3.ownsRow w.heap.size 40 3 va G.length (rowP G)) := own_base ha kB2.size
  obtain ⟨ao1, c1, rfl⟩ := own_form ha
  clear ha hb kB2
  go_wp2_with fail
  refine (KM _ (own_rw HM.out)).mono ?_
  rintro e w4 ⟨⟨vb, rfl, ha⟩, hb⟩
  have HM : Hid (w4.ownsRow w.heap.size 40 3 (.slice ao L.length c) L.length (rowP L)) := own_below hb HM.out
  have HA : Hid (w4.ownsRow w.heap.size 40 3 (.slice ao1 G.length c1) G.length (rowP G)) := own_below hb HA.out
  have kB4 := keepb hb kB3
  have Ib : Hid (In vb w3.heap.size w4.heap.size) := own_in ha
  have s34 := hb.size
  have HB : Hid (w4.ownsRow w.heap.size 40 3 vb G.length (rowP G)) := own_base ha kB3.size
  obtain ⟨ao2, c2, rfl⟩ := own_form ha
  clear ha hb kB3
  go_wp2_with fail
  refine (KR _ (own_rw HM.out)).mono ?_
  rintro e w5 ⟨⟨vc, rfl, ha⟩, hb⟩
  have HM : Hid (w5.ownsRow w.heap.size 40 3 (.slice ao L.length c) L.length (rowP L)) := own_below hb HM.out
  have HA : Hid (w5.ownsRow w.heap.size 40 3 (.slice ao1 G.length c1) G.length (rowP G)) := own_below hb HA.out
  have HB : Hid (w5.ownsRow w.heap.size 40 3 (.slice ao2 G.length c2) G.length (rowP G)) := own_below hb HB.out
  have kB5 := keepb hb kB4
  have Ic : Hid (In vc w4.heap.size w5.heap.size) := own_in ha
  have s45 := hb.size
  have HC : Hid (w5.ownsRow w.heap.size 37 5 vc R.length (rowS R)) := own_base ha kB4.size
  obtain ⟨ao3, c3, rfl⟩ := own_form ha
  clear ha hb kB4
  go_wp2_with fail
  refine (KR _ (own_rw HM.out)).mono ?_
  rintro e w6 ⟨⟨vd, rfl, ha⟩, hb⟩
  have HM : Hid (w6.ownsRow w.heap.size 40 3 (.slice ao L.length c) L.length (rowP L)) := own_below hb HM.out
  have HA : Hid (w6.ownsRow w.heap.size 40 3 (.slice ao1 G.length c1) G.length (rowP G)) := own_below hb HA.out
  have HB : Hid (w6.ownsRow w.heap.size 40 3 (.slice ao2 G.length c2) G.length (rowP G)) := own_below hb HB.out
  have HC : Hid (w6.ownsRow w.heap.size 37 5 (.slice ao3 R.length c3) R.length (rowS R)) := own_below hb HC.out
  have kB6 := keepb hb kB5
  have Id : Hid (In vd w5.heap.size w6.heap.size) := own_in ha
  have s56 := hb.size
  have HD : Hid (w6.ownsRow w.heap.size 37 5 vd R.length (rowS R)) := own_base ha kB5.size
  obtain ⟨ao4, c4, rfl⟩ := own_form ha
  clear ha hb kB5 KR
  go_wp2_with (at_builtin; apply stopHere)
  refine (show wpList _ _ _ _ _ _ from ?_)
  have al6 := bl1 w6 (.cells #[] 40)
  refine wpList_append_row rfl _ _ 22 rfl w6.heap.size 40 i0 (.agg #[.int .u64 0, .int .u64 0, .int .i64 0]) 3 24 Tryd.underlying22 hi hz0 hz1 hz2 rfl (by decide) (.slice (some ⟨w6.heap.size, 0, none⟩) 0 0) 0 [] rfl (World.ownsRow_made w6 #[] 0 (Nat.le_refl _) (by unfold maxLen; omega) (by simp)) (.slice ao2 G.length c2) G.length (rowP G) rfl (own_row (own_below al6 HB.out)) (rowP_cell _) (by unfold maxLen; omega) (by omega) (by simp) ?_
  intro ao5 c5 w7 ha hgrow
  rw [Nat.zero_add, List.nil_append] at ha
  rw [Nat.zero_add]
  have hb : Below w6.heap.size w6 w7 := ((Below.refl _ _).alloc (Nat.le_refl _) _).grown hgrow (by simp) (fun z hz => by simp [Value.ownBlock] at hz; omega)
  have HM : Hid (w7.ownsRow w.heap.size 40 3 (.slice ao L.length c) L.length (rowP L)) := own_below hb HM.out
  have HA : Hid (w7.ownsRow w.heap.size 40 3 (.slice ao1 G.length c1) G.length (rowP G)) := own_below hb HA.out
  have HB : Hid (w7.ownsRow w.heap.size 40 3 (.slice ao2 G.length c2) G.length (rowP G)) := own_below hb HB.out
  have HC : Hid (w7.ownsRow w.heap.size 37 5 (.slice ao3 R.length c3) R.length (rowS R)) := own_below hb HC.out
  have HD : Hid (w7.ownsRow w.heap.size 37 5 (.slice ao4 R.length c4) R.length (rowS R)) := own_below hb HD.out
  have kB7 := keepb hb kB6
  have Ie : Hid (In (.slice ao5 G.length c5) w6.heap.size w7.heap.size) := own_in ha
  have s67 := hb.size
  have HE : Hid (w7.ownsRow w.heap.size 40 3 (.slice ao5 G.length c5) G.length (rowP G)) := own_base ha kB6.size
  clear ha hb kB6 al6 hgrow
  go_wp2_with (at_builtin; apply stopHere)
  refine (show wpList _ _ _ _ _ _ from ?_)
  have al7 := bl1 w7 (.cells #[] 37)
  refine wpList_append_row rfl _ _ 29 rfl w7.heap.size 37 j0 (.agg #[.int .u64 0, .int .u64 0, .int .u64 0, .int .u64 0, .int .i64 0]) 5 40 Tryd.underlying29 ji jz0 jz1 jz2 rfl (by decide) (.slice (some ⟨w7.heap.size, 0, none⟩) 0 0) 0 [] rfl (World.ownsRow_made w7 #[] 0 (Nat.le_refl _) (by unfold maxLen; omega) (by simp)) (.slice ao4 R.length c4) R.length (rowS R) rfl (own_row (own_below al7 HD.out)) (rowS_cell _) (by unfold maxLen; omega) (by omega) (by simp) ?_
  intro ao6 c6 w8 ha hgrow
  rw [Nat.zero_add, List.nil_append] at ha
  rw [Nat.zero_add]
  have hb : Below w7.heap.size w7 w8 := ((Below.refl _ _).alloc (Nat.le_refl _) _).grown hgrow (by simp) (fun z hz => by simp [Value.ownBlock] at hz; omega)
  have kB8 := keepb hb kB7
  have If : Hid (In (.slice ao6 R.length c6) w7.heap.size w8.heap.size) := own_in ha
  have s78 := hb.size
  have HK : Hid (K5 w (.slice ao L.length c) (.slice ao2 G.length c2) (.slice ao4 R.length c4) (.slice ao5 G.length c5) (.slice ao6 R.length c6) L G R w8) :=
    ⟨own_below hb HM.out, own_below hb HB.out, own_below hb HD.out, own_below hb HE.out, own_base ha kB7.size, kB8⟩
  have HA : Hid (∃ xs, w8.ownsRow w.heap.size 40 3 (.slice ao1 G.length c1) G.length xs) := ⟨_, own_below hb HA.out⟩
  have HC : Hid (∃ xs, w8.ownsRow w.heap.size 37 5 (.slice ao3 R.length c3) R.length xs) := ⟨_, own_below hb HC.out⟩
  have AA : Hid (∀ z, (Value.slice ao1 G.length c1).ownBlock = some z → A5 (.slice ao L.length c) (.slice ao2 G.length c2) (.slice ao4 R.length c4) (.slice ao5 G.length c5) (.slice ao6 R.length c6) z ∧ (Value.slice ao3 R.length c3).ownBlock ≠ some z ∧ w.heap.size ≤ z) := by
    intro z hz
    have hi := Ia.out
    exact ⟨⟨hi.ne Im.out (by omega) hz, hi.ne Ib.out (by omega) hz, hi.ne Id.out (by omega) hz, hi.ne Ie.out (by omega) hz, hi.ne If.out (by omega) hz⟩, hi.ne Ic.out (by omega) hz, (HA.out.elim fun _ h => (h.lt z hz).1)⟩
  have AC : Hid (∀ z, (Value.slice ao3 R.length c3).ownBlock = some z → A5 (.slice ao L.length c) (.slice ao2 G.length c2) (.slice ao4 R.length c4) (.slice ao5 G.length c5) (.slice ao6 R.length c6) z ∧ (Value.slice ao1 G.length c1).ownBlock ≠ some z ∧ w.heap.size ≤ z) := by
    intro z hz
    have hi := Ic.out
    exact ⟨⟨hi.ne Im.out (by omega) hz, hi.ne Ib.out (by omega) hz, hi.ne Id.out (by omega) hz, hi.ne Ie.out (by omega) hz, hi.ne If.out (by omega) hz⟩, hi.ne Ia.out (by omega) hz, (HC.out.elim fun _ h => (h.lt z hz).1)⟩
  clear ha hb kB7 al7 hgrow HM HB HD HE kB8 Im Ia Ib Ic Id Ie If s23 s34 s45 s56 s67 s78
  go_wp2_with fail
  go_loopw [17] (fun i wr => ∃ k : Nat, k ≤ G.length ∧ i = .int .i64 k ∧ Hid (K5 w (.slice ao L.length c) (.slice ao2 G.length c2) (.slice ao4 R.length c4) (.slice ao5 G.length c5) (.slice ao6 R.length c6) L G R wr) ∧ Hid (∃ xs, wr.ownsRow w.heap.size 40 3 (.slice ao1 G.length c1) G.length xs) ∧ Hid (∃ xs, wr.ownsRow w.heap.size 37 5 (.slice ao3 R.length c3) R.length xs)) (fun i _ => G.length - (intOf i).toNat)
  case atStart => exact ⟨0, by omega, rfl, HK, HA, HC⟩
  case round =>
    clear HK HA HC
    obtain ⟨k, hk, rfl, HK, HA, HC⟩ := hrel
    by_cases hlt : (k : Int) < (G.length : Int)
    · obtain ⟨xs, ha⟩ := HA.out
      rcases ha.2 with ⟨e, h⟩ | ⟨g, cap, cur, e, -⟩
      · omega
      · injection e with e1 e2 e3
        subst e1
        clear e2 e3
        obtain ⟨⟨u0, x0⟩, y0⟩ := own_cell ha (k * 3) (by omega)
        obtain ⟨⟨u1, x1⟩, y1⟩ := own_cell ha (k * 3 + 1) (by omega)
        obtain ⟨⟨u2, x2⟩, y2⟩ := own_cell ha (k * 3 + 2) (by omega)
        obtain ⟨q1, q2, q3⟩ := AA.out g (by simp [Value.ownBlock])
        have HQ : Hid (∀ j u W, K5 w (.slice ao L.length c) (.slice ao2 G.length c2) (.slice ao4 R.length c4) (.slice ao5 G.length c5) (.slice ao6 R.length c6) L G R W → (∃ xs, W.ownsRow w.heap.size 37 5 (.slice ao3 R.length c3) R.length xs) → K5 w (.slice ao L.length c) (.slice ao2 G.length c2) (.slice ao4 R.length c4) (.slice ao5 G.length c5) (.slice ao6 R.length c6) L G R (W.setCell ⟨g, j, none⟩ u) ∧ ∃ xs, (W.setCell ⟨g, j, none⟩ u).ownsRow w.heap.size 37 5 (.slice ao3 R.length c3) R.length xs) := fun j u W h1 h2 => ⟨h1.set q1 q3 j u, own_other h2 q2 j u⟩
        have hk2 : k < G.length := by omega
        have mk : IntKind.i64.wrap ((k : Int) + 1) = (k : Int) + 1 := by rw [IntKind.wrap_i64]; omega
        clear ha q1 q2 q3
        go_wp2
        go_roundw
        case rel =>
          obtain ⟨a1, b1⟩ := HQ.out (k * 3) (.int .u64 0) _ HK.out HC.out
          obtain ⟨a2, b2⟩ := HQ.out (k * 3 + 1) (.int .u64 0) _ a1 b1
          obtain ⟨a3, b3⟩ := HQ.out (k * 3 + 2) (.int .i64 99) _ a2 b2
          exact ⟨k + 1, by omega, by go_num, a3, own_stored (own_stored (own_stored HA.out _ _) _ _) _ _, b3⟩
        case measure => simp [intOf]; omega
    · have hd : ¬ k < G.length := by omega
      go_wp2_with fail
      go_loopw [18] (fun i wr => ∃ k : Nat, k ≤ R.length ∧ i = .int .i64 k ∧ Hid (K5 w (.slice ao L.length c) (.slice ao2 G.length c2) (.slice ao4 R.length c4) (.slice ao5 G.length c5) (.slice ao6 R.length c6) L G R wr) ∧ Hid (∃ xs, wr.ownsRow w.heap.size 40 3 (.slice ao1 G.length c1) G.length xs) ∧ Hid (∃ xs, wr.ownsRow w.heap.size 37 5 (.slice ao3 R.length c3) R.length xs)) (fun i _ => R.length - (intOf i).toNat)
      case atStart => exact ⟨0, by omega, rfl, HK, HA, HC⟩
      case round =>
        clear HK HA HC
        obtain ⟨k2, hk2, rfl, HK, HA, HC⟩ := hrel
        by_cases hlt : (k2 : Int) < (R.length : Int)
        · obtain ⟨xs, ha⟩ := HC.out
          rcases ha.2 with ⟨e, h⟩ | ⟨g, cap, cur, e, -⟩
          · omega
          · injection e with e1 e2 e3
            subst e1
            clear e2 e3
            obtain ⟨⟨u0, x0⟩, y0⟩ := own_cell ha (k2 * 5) (by omega)
            obtain ⟨⟨u1, x1⟩, y1⟩ := own_cell ha (k2 * 5 + 1) (by omega)
            obtain ⟨⟨u2, x2⟩, y2⟩ := own_cell ha (k2 * 5 + 2) (by omega)
            obtain ⟨⟨u3, x3⟩, y3⟩ := own_cell ha (k2 * 5 + 3) (by omega)
            obtain ⟨⟨u4, x4⟩, y4⟩ := own_cell ha (k2 * 5 + 4) (by omega)
            obtain ⟨q1, q2, q3⟩ := AC.out g (by simp [Value.ownBlock])
            have HQ : Hid (∀ j u W, K5 w (.slice ao L.length c) (.slice ao2 G.length c2) (.slice ao4 R.length c4) (.slice ao5 G.length c5) (.slice ao6 R.length c6) L G R W → (∃ xs, W.ownsRow w.heap.size 40 3 (.slice ao1 G.length c1) G.length xs) → K5 w (.slice ao L.length c) (.slice ao2 G.length c2) (.slice ao4 R.length c4) (.slice ao5 G.length c5) (.slice ao6 R.length c6) L G R (W.setCell ⟨g, j, none⟩ u) ∧ ∃ xs, (W.setCell ⟨g, j, none⟩ u).ownsRow w.heap.size 40 3 (.slice ao1 G.length c1) G.length xs) := fun j u W h1 h2 => ⟨h1.set q1 q3 j u, own_other h2 q2 j u⟩
            have mk : IntKind.i64.wrap ((k2 : Int) + 1) = (k2 : Int) + 1 := by rw [IntKind.wrap_i64]; omega
            clear ha q1 q2 q3
            go_wp2
            go_roundw
            case rel =>
              obtain ⟨a1, b1⟩ := HQ.out (k2 * 5) (.int .u64 0) _ HK.out HA.out
              obtain ⟨a2, b2⟩ := HQ.out (k2 * 5 + 1) (.int .u64 0) _ a1 b1
              obtain ⟨a3, b3⟩ := HQ.out (k2 * 5 + 2) (.int .u64 0) _ a2 b2
              obtain ⟨a4, b4⟩ := HQ.out (k2 * 5 + 3) (.int .u64 0) _ a3 b3
              obtain ⟨a5, b5⟩ := HQ.out (k2 * 5 + 4) (.int .i64 99) _ a4 b4
              exact ⟨k2 + 1, by omega, by go_num, a5, b5, own_stored (own_stored (own_stored (own_stored (own_stored HC.out _ _) _ _) _ _) _ _) _ _⟩
            case measure => simp [intOf]; omega
        · have hd2 : ¬ k2 < R.length := by omega
          go_wp2_with fail
          go_loopw [7, 11, 19] (fun av cv i wr => ∃ k : Nat, k ≤ 30 ∧ i = .int .i64 k ∧ Hid (K5 w (.slice ao L.length c) (.slice ao2 G.length c2) (.slice ao4 R.length c4) (.slice ao5 G.length c5) (.slice ao6 R.length c6) L G R wr) ∧ Hid (∃ xs, wr.ownsRow w.heap.size 40 3 av (G.length + k) xs) ∧ Hid (∃ xs, wr.ownsRow w.heap.size 37 5 cv (R.length + k) xs) ∧ Hid (∀ z, av.ownBlock = some z → A5 (.slice ao L.length c) (.slice ao2 G.length c2) (.slice ao4 R.length c4) (.slice ao5 G.length c5) (.slice ao6 R.length c6) z ∧ cv.ownBlock ≠ some z ∧ w.heap.size ≤ z) ∧ Hid (∀ z, cv.ownBlock = some z → A5 (.slice ao L.length c) (.slice ao2 G.length c2) (.slice ao4 R.length c4) (.slice ao5 G.length c5) (.slice ao6 R.length c6) z ∧ av.ownBlock ≠ some z ∧ w.heap.size ≤ z)) (fun _ _ i _ => 30 - (intOf i).toNat)
          case atStart => exact ⟨0, by omega, rfl, HK, HA, HC, AA, AC⟩
          case round =>
            clear HK HA HC AA AC
            obtain ⟨k3, hk3, rfl, HK, HA, HC, AA, AC⟩ := hrel
            by_cases hlt : (k3 : Int) < 30
            · obtain ⟨xs, ha⟩ := HA.out
              have h47 : (G.length + k3 + 1) * 24 ≤ 140737488355328 := by omega
              have h63 : G.length + k3 + 1 ≤ maxLen := by unfold maxLen; omega
              have mk : IntKind.i64.wrap ((k3 : Int) + 1) = (k3 : Int) + 1 := by rw [IntKind.wrap_i64]; omega
              go_wp2_with (at_builtin; apply stopHere)
              refine (show wpList _ _ _ _ _ _ from ?_)
              refine wpList_append_lies _ rfl _ _ 22 rfl w.heap.size 40 i0 (.agg #[.int .u64 0, .int .u64 0, .int .i64 0]) 3 24 Tryd.underlying22 hi hz0 hz1 hz2 rfl (by decide) _ _ _ rfl (ha.alloc _) ⟨wr.heap.size, 0, none⟩ 1 1 [.int .u64 0, .int .u64 0, .int .i64 98] rfl rfl (newsP _ _ _ _ _) (threeP _ _ _) (by decide) h63 h47 (by have := HK.out.2.2.2.2.2.size; simp; omega) _ rfl ?_
              intro g4 cap4 w9 ha4 hgrow hat hlt4
              have HK9 : Hid (K5 w (.slice ao L.length c) (.slice ao2 G.length c2) (.slice ao4 R.length c4) (.slice ao5 G.length c5) (.slice ao6 R.length c6) L G R w9) := (HK.out.alloc _).grown hgrow fun z e => ⟨(AA.out z e).1, (AA.out z e).2.2⟩
              obtain ⟨ys, hc⟩ := HC.out
              have HA9 : Hid (A5 (.slice ao L.length c) (.slice ao2 G.length c2) (.slice ao4 R.length c4) (.slice ao5 G.length c5) (.slice ao6 R.length c6) g4 ∧ u11.ownBlock ≠ some g4) := by
                rcases hat with e | e
                · exact ⟨(AA.out g4 e).1, (AA.out g4 e).2.1⟩
                · subst e
                  exact ⟨(HK.out.alloc _).fresh, fun e => by have := (hc.lt _ e).2; simp at this; omega⟩
              have hc9 := own_grown (hc.alloc (.cells #[.int .u64 0, .int .u64 0, .int .i64 98] 40)) hgrow fun z e => (AA.out z e).2.1
              have HC9 : Hid (∃ xs, w9.ownsRow w.heap.size 37 5 u11 (R.length + k3) xs) := ⟨_, hc9⟩
              have HO9 : Hid (∃ xs, w9.ownsRow w.heap.size 40 3 (.slice (some ⟨g4, 0, none⟩) (G.length + k3 + 1) cap4) (G.length + k3 + 1) xs) := ⟨_, ha4⟩
              have AC9 : Hid (∀ z, u11.ownBlock = some z → A5 (.slice ao L.length c) (.slice ao2 G.length c2) (.slice ao4 R.length c4) (.slice ao5 G.length c5) (.slice ao6 R.length c6) z ∧ ¬ g4 = z ∧ w.heap.size ≤ z) := fun z e => ⟨(AC.out z e).1, fun h => HA9.out.2 (h ▸ e), (AC.out z e).2.2⟩
              clear ha4 hgrow hat hlt4 hc hc9 HK HA HC AA AC ha h47 h63
              obtain ⟨ys, hc⟩ := HC9.out
              have h47 : (R.length + k3 + 1) * 40 ≤ 140737488355328 := by omega
              have h63 : R.length + k3 + 1 ≤ maxLen := by unfold maxLen; omega
              go_wp2_with (at_builtin; apply stopHere)
              refine (show wpList _ _ _ _ _ _ from ?_)
              refine wpList_append_lies _ rfl _ _ 29 rfl w.heap.size 37 j0 (.agg #[.int .u64 0, .int .u64 0, .int .u64 0, .int .u64 0, .int .i64 0]) 5 40 Tryd.underlying29 ji jz0 jz1 jz2 rfl (by decide) _ _ _ rfl (hc.alloc _) ⟨w9.heap.size, 0, none⟩ 1 1 [.int .u64 0, .int .u64 0, .int .u64 0, .int .u64 0, .int .i64 98] rfl rfl (newsS _ _ _ _ _ _ _) (fiveS _ _ _ _ _) (by decide) h63 h47 (by have := HK9.out.2.2.2.2.2.size; simp; omega) _ rfl ?_
              intro g5 cap5 w10 hc5 hgrow hat hlt5
              have HK10 : Hid (K5 w (.slice ao L.length c) (.slice ao2 G.length c2) (.slice ao4 R.length c4) (.slice ao5 G.length c5) (.slice ao6 R.length c6) L G R w10) := (HK9.out.alloc _).grown hgrow fun z e => ⟨(AC9.out z e).1, (AC9.out z e).2.2⟩
              obtain ⟨xs2, ha2⟩ := HO9.out
              have HG5 : Hid (A5 (.slice ao L.length c) (.slice ao2 G.length c2) (.slice ao4 R.length c4) (.slice ao5 G.length c5) (.slice ao6 R.length c6) g5 ∧ ¬ g4 = g5) := by
                rcases hat with e | e
                · exact ⟨(AC9.out g5 e).1, (AC9.out g5 e).2.1⟩
                · subst e
                  exact ⟨(HK9.out.alloc _).fresh, fun e => by have := (ha2.lt g4 (by simp [Value.ownBlock])).2; simp at e; omega⟩
              have ha10 := own_grown (ha2.alloc (.cells #[.int .u64 0, .int .u64 0, .int .u64 0, .int .u64 0, .int .i64 98] 37)) hgrow fun z e h => (AC9.out z e).2.1 (by simpa [Value.ownBlock] using h)
              have HO10 : Hid (∃ xs, w10.ownsRow w.heap.size 40 3 (.slice (some ⟨g4, 0, none⟩) (G.length + k3 + 1) cap4) (G.length + k3 + 1) xs) := ⟨_, ha10⟩
              have HC10 : Hid (∃ xs, w10.ownsRow w.heap.size 37 5 (.slice (some ⟨g5, 0, none⟩) (R.length + k3 + 1) cap5) (R.length + k3 + 1) xs) := ⟨_, hc5⟩
              have hlo : Hid (w.heap.size ≤ g4 ∧ w.heap.size ≤ g5) := ⟨(ha2.lt g4 (by simp [Value.ownBlock])).1, (hc5.lt g5 (by simp [Value.ownBlock])).1⟩
              clear hc5 hgrow hat hlt5 hc ha2 ha10 HK9 HO9 HC9 AC9 h47 h63
              go_wp2
              go_roundw
              case rel =>
                refine ⟨k3 + 1, by omega, by go_num, HK10, HO10, HC10, ?_, ?_⟩
                · intro z hz
                  simp [Value.ownBlock] at hz
                  subst hz
                  exact ⟨HA9.out.1, fun e => HG5.out.2 (by simpa [Value.ownBlock] using e.symm), hlo.out.1⟩
                · intro z hz
                  simp [Value.ownBlock] at hz
                  subst hz
                  exact ⟨HG5.out.1, fun e => HG5.out.2 (by simpa [Value.ownBlock] using e), hlo.out.2⟩
              case measure => simp [intOf]; omega
            · have hd3 : ¬ k3 < 30 := by omega
              have KE := same_any (.slice ao2 G.length c2) (.slice ao5 G.length c5) G wr ⟨_, HK.out.2.1⟩ ⟨_, HK.out.2.2.2.1⟩ (by omega)
              clear HA HC AA AC
              go_wp2_with fail
              refine KE.mono ?_
              rintro e w11 ⟨rfl, hb⟩
              have HK11 : Hid (K5 w (.slice ao L.length c) (.slice ao2 G.length c2) (.slice ao4 R.length c4) (.slice ao5 G.length c5) (.slice ao6 R.length c6) L G R w11) := HK.out.below hb
              clear hb KE HK
              go_wp2_with fail
              go_loopw [20] (fun i wr => ∃ k : Nat, k ≤ R.length ∧ i = .int .i64 k ∧ Below w11.heap.size w11 wr) (fun i _ => R.length - (intOf i).toNat)
              case atStart => exact ⟨0, by omega, rfl, Below.refl _ _⟩
              case round =>
                obtain ⟨k4, hk4, rfl, hB⟩ := hrel
                by_cases hlt : (k4 : Int) < (R.length : Int)
                · have hk5 : k4 < R.length := by omega
                  have hd4 := HK11.out.2.2.1
                  have hd5 := HK11.out.2.2.2.2.1
                  rcases hd4.2 with ⟨e, h⟩ | ⟨g, cap, cur, e, -⟩
                  · omega
                  · rcases hd5.2 with ⟨e', h⟩ | ⟨g', cap', cur', e', -⟩
                    · omega
                    · injection e with e1 e2 e3
                      injection e' with e1' e2' e3'
                      subst e1
                      subst e1'
                      clear e2 e3 e2' e3'
                      obtain ⟨x0, x1, x2, x3, x4⟩ := rows_cells hd4 rfl k4 hk5
                      obtain ⟨y0, y1, y2, y3, y4⟩ := rows_cells hd5 rfl k4 hk5
                      have x0 := keepc hB x0
                      have x1 := keepc hB x1
                      have x2 := keepc hB x2
                      have x3 := keepc hB x3
                      have x4 := keepc hB x4
                      have y0 := keepc hB y0
                      have y1 := keepc hB y1
                      have y2 := keepc hB y2
                      have y3 := keepc hB y3
                      have y4 := keepc hB y4
                      have hE := fun w => eqS_run R[k4].1 R[k4].2 w
                      generalize R[k4].1 = px at *
                      generalize R[k4].2 = py at *
                      have mk : IntKind.i64.wrap ((k4 : Int) + 1) = (k4 : Int) + 1 := by rw [IntKind.wrap_i64]; omega
                      clear hd4 hd5
                      go_wp2_with fail
                      go_quiet (fail)
                      go_wp2
                      go_roundw
                      case rel => exact ⟨k4 + 1, by omega, by go_num, below_drewN hB _⟩
                      case measure => simp [intOf]; omega
                · have hd5 : ¬ k4 < R.length := by omega
                  have HK12 : Hid (K5 w (.slice ao L.length c) (.slice ao2 G.length c2) (.slice ao4 R.length c4) (.slice ao5 G.length c5) (.slice ao6 R.length c6) L G R wr) := HK11.out.below hB
                  clear HK11 hB
                  go_wp2_with fail
                  refine (KM _ (own_rw HK12.out.1)).mono ?_
                  rintro e w12 ⟨⟨vx, rfl, hx⟩, hb⟩
                  have HK13 : Hid (K5 w (.slice ao L.length c) (.slice ao2 G.length c2) (.slice ao4 R.length c4) (.slice ao5 G.length c5) (.slice ao6 R.length c6) L G R w12) := HK12.out.below hb
                  have KE := same_any vx (.slice ao5 G.length c5) G w12 ⟨_, hx⟩ ⟨_, HK13.out.2.2.2.1⟩ (by omega)
                  clear hb hx HK12 KM
                  go_wp2_with fail
                  refine KE.mono ?_
                  rintro e w13 ⟨rfl, hb⟩
                  have HO13 : Hid (w13.ownsRow w.heap.size 40 3 (.slice ao L.length c) L.length (rowP L)) := own_below hb HK13.out.1
                  have kB13 := keepb hb HK13.out.2.2.2.2.2
                  clear hb HK13 KE
                  go_wp2_with fail
                  go_loopw [23] (fun i wr => ∃ k : Nat, k ≤ L.length ∧ i = .int .i64 k ∧ ∃ L' : List (BitVec 128 × Int), L'.length = L.length ∧ Hid (∀ x ∈ L', Rp F x) ∧ Hid (wr.ownsRow w.heap.size 40 3 (.slice ao L.length c) L.length (rowP L')) ∧ Hid (Below w.heap.size w wr)) (fun i _ => L.length - (intOf i).toNat)
                  case atStart => exact ⟨0, by omega, rfl, L, rfl, HR, HO13, kB13⟩
                  case round =>
                    clear HO13 kB13 HR
                    obtain ⟨k6, hk6, rfl, L', hl', HR, HO, HB⟩ := hrel
                    by_cases hlt : (k6 : Int) < (L.length : Int)
                    · have hk7 : k6 < L'.length := by omega
                      have ho := HO.out
                      rcases ho.2 with ⟨e, h⟩ | ⟨g, cap, cur, e, -⟩
                      · omega
                      · injection e with e1 e2 e3
                        subst e1
                        clear e2 e3
                        obtain ⟨x0, x1, x2⟩ := row_cells ho hl'.symm k6 hk7
                        have hrp := HR.out L'[k6] (List.getElem_mem hk7)
                        have KB := fun w => rsib_any L'[k6].1 L'[k6].2 w hrp.1 (Int.le_trans hrp.2.1 f1)
                        rw [sib_eq F L'[k6].1 L'[k6].2 hrp f1] at KB
                        have HS : Hid (0 < L'[k6].2 → Rp F (sibV L'[k6].1 L'[k6].2, sibN L'[k6].2)) := sib_rp f1 hrp
                        have mk : IntKind.i64.wrap ((k6 : Int) + 1) = (k6 : Int) + 1 := by rw [IntKind.wrap_i64]; omega
                        clear hrp ho
                        revert KB HS
                        generalize sibV L'[k6].1 L'[k6].2 = sx
                        generalize sibN L'[k6].2 = sn
                        intro KB HS
                        generalize L'[k6].1 = px at *
                        generalize L'[k6].2 = pn at *
                        go_wp2_with fail
                        refine (KB _).mono ?_
                        rintro e w14 ⟨rfl, hb⟩
                        have hb' := bl1 w14 (.cells #[.int .u64 (hI sx), .int .u64 (lI sx), .int .i64 sn] 40)
                        have HO' : Hid ((w14.alloc (.cells #[.int .u64 (hI sx), .int .u64 (lI sx), .int .i64 sn] 40)).ownsRow w.heap.size 40 3 (.slice (some ⟨g, 0, none⟩) L.length c) L.length (rowP L')) := own_below hb' (own_below hb HO.out)
                        have HB' : Hid (Below w.heap.size w (w14.alloc (.cells #[.int .u64 (hI sx), .int .u64 (lI sx), .int .i64 sn] 40))) := keepb hb' (keepb hb HB.out)
                        obtain ⟨s0, s1, s2, -, -, -⟩ := atp_new w14 w14.heap.size sx sn 40 rfl
                        obtain ⟨⟨u0, z0⟩, y0⟩ := own_cell HO'.out (k6 * 3) (by omega)
                        obtain ⟨⟨u1, z1⟩, y1⟩ := own_cell HO'.out (k6 * 3 + 1) (by omega)
                        obtain ⟨⟨u2, z2⟩, y2⟩ := own_cell HO'.out (k6 * 3 + 2) (by omega)
                        clear hb hb' KB x0 x1 x2 HO HB
                        cases hp : decide (0 < pn)
                        · go_wp2
                          go_roundw
                          case rel => exact ⟨k6 + 1, by omega, by go_num, L', hl', HR, HO', HB'⟩
                          case measure => simp [intOf]; omega
                        · have hpp : 0 < pn := by simpa using hp
                          go_wp2
                          go_roundw
                          case rel =>
                            have t1 := (((HO'.out.stored (k6 * 3) (.int .u64 (hI sx))).1.stored (k6 * 3 + 1) (.int .u64 (lI sx))).1.stored (k6 * 3 + 2) (.int .i64 sn)).1
                            have t2 := rowP_set L' k6 (sx, sn)
                            rw [if_pos hk7] at t2
                            simp only at t2
                            rw [t2] at t1
                            have hg := (HO'.out.lt g (by simp [Value.ownBlock])).1
                            refine ⟨k6 + 1, by omega, by go_num, L'.set k6 (sx, sn), by simp [hl'], ?_, t1, ((HB'.out.setCell hg _).setCell hg _).setCell hg _⟩
                            intro x hx
                            rcases List.mem_or_eq_of_mem_set hx with hx | hx
                            · exact HR.out x hx
                            · rw [hx]; exact HS.out hpp
                          case measure => simp [intOf]; omega
                    · have hd6 : ¬ k6 < L.length := by omega
                      have KM := fun v w hv => merge_o F v L' w hv (by omega) ff HR.out
                      have hG' : (ptAll [] (sortL L')).reverse.length ≤ 200 := by
                        have := ptAll_le (sortL L') []
                        rw [sortL_len] at this
                        rw [List.length_reverse]
                        simp at this
                        omega
                      generalize (ptAll [] (sortL L')).reverse = G' at *
                      go_wp2_with fail
                      refine (KM _ _ (own_rw (by rw [hl']; exact HO.out))).mono ?_
                      rintro e w15 ⟨⟨vy, rfl, hy⟩, hb⟩
                      have HO15 : Hid (w15.ownsRow w.heap.size 40 3 (.slice ao L.length c) L.length (rowP L')) := own_below hb HO.out
                      have kB15 := keepb hb HB.out
                      have HY : Hid (Lies w15 vy G') := ⟨_, hy⟩
                      clear hb hy HO HB
                      go_wp2_with (at_builtin; apply stopHere)
                      refine (show wpList _ _ _ _ _ _ from ?_)
                      have al := bl1 w15 (.cells #[] 40)
                      refine wpList_append_row rfl _ _ 22 rfl w15.heap.size 40 i0 (.agg #[.int .u64 0, .int .u64 0, .int .i64 0]) 3 24 Tryd.underlying22 hi hz0 hz1 hz2 rfl (by decide) (.slice (some ⟨w15.heap.size, 0, none⟩) 0 0) 0 [] rfl (World.ownsRow_made w15 #[] 0 (Nat.le_refl _) (by unfold maxLen; omega) (by simp)) (.slice ao L.length c) L.length (rowP L') rfl (own_row (own_below al HO15.out)) (rowP_cell _) (by unfold maxLen; omega) (by omega) (by simp) ?_
                      intro ao7 c7 w16 ha hgrow
                      rw [Nat.zero_add, List.nil_append] at ha
                      rw [Nat.zero_add]
                      have hb : Below w15.heap.size w15 w16 := ((Below.refl _ _).alloc (Nat.le_refl _) _).grown hgrow (by simp) (fun z hz => by simp [Value.ownBlock] at hz; omega)
                      have HY : Hid (Lies w16 vy G') := HY.out.below hb
                      have kB16 := keepb hb kB15
                      have HW : Hid (Rw w16 (.slice ao7 L.length c7) L') := own_rw (by rw [hl']; exact ha)
                      clear ha hb hgrow al HO15 kB15
                      go_wp2_with fail
                      refine (KM _ _ HW.out).mono ?_
                      rintro e w17 ⟨⟨vz, rfl, hz⟩, hb⟩
                      have kB17 := keepb hb kB16
                      have KE := same_any vy vz G' w17 (HY.out.below hb) ⟨_, hz⟩ (by omega)
                      clear hb hz HY HW kB16 KM
                      go_wp2_with fail
                      refine KE.mono ?_
                      rintro e w18 ⟨rfl, hb⟩
                      have kB18 := keepb hb kB17
                      clear hb KE kB17
                      go_wp2
                      go_ret
                      exact ⟨rfl, kB18⟩
end Go.Proofs.YtkgfeegcdohkdabDoor
/-
  How a prefix that is handed in reads as data.
-/
namespace Go.Proofs.YtkgfeegcdohkdabDoor
open Go.ChangeShapes Go.WideShapes Go.ChangeAt Go.RowKit Go.Joins
set_option linter.unusedSimpArgs false
set_option linter.unusedVariables false

theorem Tryd.cellsW : Tryd.prog.cellsOf 35 = 2 := by kernel_rfl
theorem Tryd.cellsP : Tryd.prog.cellsOf 40 = 3 := by kernel_rfl
theorem Tryd.cellsI : Tryd.prog.cellsOf 3 = 1 := by kernel_rfl
theorem Tryd.cellsU : Tryd.prog.cellsOf 33 = 1 := by kernel_rfl
section
variable {H : Type} {enc : TypeId × Value → H} {w : World} {base : Nat} {spare : Nat → Bool} {held : Bool}
set_option maxRecDepth 100000 in
theorem open_pfx {r : Reach} {b0 : Nat} {v : Value} {d : DataW H} {p : List MemPlace} (hv : Value.okWide Tryd.prog w r b0 40 v) (h : DataW.Trod enc Tryd.prog w base spare held 40 v d p) :
    ∃ a b n : Int, v = .agg #[.int .u64 a, .int .u64 b, .int .i64 n] ∧ d = .agg [.agg [.lit (.int .u64 a), .lit (.int .u64 b)], .lit (.int .i64 n)] ∧ p = [] ∧ (Lit.int .u64 a).wf = true ∧ (Lit.int .u64 b).wf = true ∧ (Lit.int .i64 n).wf = true := by
  obtain ⟨cs, rfl, hsz⟩ := okWide_struct Tryd.underlying40 hv
  obtain ⟨c0, c1, c2, rfl⟩ := array3 (hsz.trans Tryd.cellsP)
  obtain ⟨fuel, hf⟩ := h
  obtain ⟨y0, y1, n, hx, _, h0, h1⟩ := trod_struct2 Tryd.underlying40 hf
  have h0' : DataW.trod enc Tryd.prog w base spare held n 35 [c0, c1] = some y0 := by simpa [Value.cells, Tryd.cellsW] using h0
  have h1' : DataW.trod enc Tryd.prog w base spare held n 3 [c2] = some y1 := by simpa [Value.cells, Tryd.cellsI] using h1
  obtain ⟨u0, u1, m, hu, _, g0, g1⟩ := trod_struct2 Tryd.underlying35 h0'
  have g0' : DataW.trod enc Tryd.prog w base spare held m 33 [c0] = some u0 := by simpa [Value.cells, Tryd.cellsU] using g0
  have g1' : DataW.trod enc Tryd.prog w base spare held m 33 [c1] = some u1 := by simpa [Value.cells, Tryd.cellsU] using g1
  obtain ⟨a, ea, rfl, wa⟩ := DataW.trod_int Tryd.underlying33 g0'
  obtain ⟨b, eb, rfl, wb⟩ := DataW.trod_int Tryd.underlying33 g1'
  obtain ⟨k, ek, rfl, wk⟩ := DataW.trod_int Tryd.underlying3 h1'
  simp at ea eb ek
  subst ea eb ek hu
  simp only [Prod.mk.injEq] at hx
  exact ⟨a, b, k, rfl, hx.1, by simpa using hx.2, wa, wb, wk⟩
set_option maxRecDepth 100000 in
theorem shut_pfx {a b n : Int} (wa : (Lit.int .u64 a).wf = true) (wb : (Lit.int .u64 b).wf = true) (wn : (Lit.int .i64 n).wf = true) :
    DataW.Trod enc Tryd.prog w base spare held 40 (.agg #[.int .u64 a, .int .u64 b, .int .i64 n]) (.agg [.agg [.lit (.int .u64 a), .lit (.int .u64 b)], .lit (.int .i64 n)]) [] := by
  have f : ∀ {z : Int}, (Lit.int .u64 z).wf = true → DataW.trod enc Tryd.prog w base spare held 1 33 [.int .u64 z] = some (.lit (.int .u64 z), []) := fun hz => by simp [DataW.trod, Tryd.underlying33, hz]
  have g : DataW.trod enc Tryd.prog w base spare held 2 3 [.int .i64 n] = some (.lit (.int .i64 n), []) := by simp [DataW.trod, Tryd.underlying3, wn]
  have s : DataW.trod enc Tryd.prog w base spare held 2 35 [.int .u64 a, .int .u64 b] = some (.agg [.lit (.int .u64 a), .lit (.int .u64 b)], []) := by
    have := trod_struct2_mk (enc := enc) (w := w) (base := base) (spare := spare) (held := held) (n := 1) (cs := [.int .u64 a, .int .u64 b]) Tryd.underlying35 (by simp [Tryd.cellsW]) (by simpa [Tryd.cellsU] using f wa) (by simpa [Tryd.cellsU] using f wb)
    simpa using this
  have := trod_struct2_mk (enc := enc) (w := w) (base := base) (spare := spare) (held := held) (n := 2) (cs := [.int .u64 a, .int .u64 b, .int .i64 n]) Tryd.underlying40 (by simp [Tryd.cellsP]) (by simpa [Tryd.cellsW] using s) (by simpa [Tryd.cellsI] using g)
  exact ⟨3, by simpa [Value.cells] using this⟩
end
end Go.Proofs.YtkgfeegcdohkdabDoor
/-
  How a list of prefixes that is handed in reads as data.
-/
namespace Go.Proofs.YtkgfeegcdohkdabDoor
open Go.ChangeShapes Go.WideShapes Go.ChangeAt Go.RowKit Go.Joins
set_option linter.unusedSimpArgs false
set_option linter.unusedVariables false

theorem Tryd.laidOut : laidOutB Tryd.prog = true := by kernel_rfl
theorem rowP_all {W : World} {b off : Nat} (l : List (BitVec 128 × Int)) (h : ∀ i (hi : i < l.length), W.cell? ⟨b, off + i * 3, none⟩ = some (.int .u64 (hI l[i].1)) ∧ W.cell? ⟨b, off + (i * 3 + 1), none⟩ = some (.int .u64 (lI l[i].1)) ∧ W.cell? ⟨b, off + (i * 3 + 2), none⟩ = some (.int .i64 l[i].2)) :
    ∀ j u, (rowP l)[j]? = some u → W.cell? ⟨b, off + j, none⟩ = some u := by
  intro j u hj
  have hlt : j < (rowP l).length := (List.getElem?_eq_some_iff.1 hj).1
  rw [rowP_len] at hlt
  have hi : j / 3 < l.length := by omega
  obtain ⟨a0, a1, a2⟩ := h (j / 3) hi
  obtain ⟨b0, b1, b2⟩ := rowP_get l (j / 3) hi
  have hm : j % 3 = 0 ∨ j % 3 = 1 ∨ j % 3 = 2 := by omega
  rcases hm with hm | hm | hm
  · have e : j = j / 3 * 3 := by omega
    rw [e, b0] at hj
    rw [e, ← hj]; exact a0
  · have e : j = j / 3 * 3 + 1 := by omega
    rw [e, b1] at hj
    rw [e, ← hj]; exact a1
  · have e : j = j / 3 * 3 + 2 := by omega
    rw [e, b2] at hj
    rw [e, ← hj]; exact a2
section
variable {H : Type} {enc : TypeId × Value → H} {w : World} {spare : Nat → Bool} {held : Bool}
set_option maxRecDepth 100000 in
theorem trod_pfx {n : Nat} {c0 c1 c2 : Value} {x : DataW H × List MemPlace} (h : DataW.trod enc Tryd.prog w 0 spare held n 40 [c0, c1, c2] = some x) :
    ∃ a b n : Int, c0 = .int .u64 a ∧ c1 = .int .u64 b ∧ c2 = .int .i64 n ∧ (Lit.int .u64 a).wf = true ∧ (Lit.int .u64 b).wf = true := by
  obtain ⟨y0, y1, n, hx, _, h0, h1⟩ := trod_struct2 Tryd.underlying40 h
  have h0' : DataW.trod enc Tryd.prog w 0 spare held n 35 [c0, c1] = some y0 := by simpa [Value.cells, Tryd.cellsW] using h0
  have h1' : DataW.trod enc Tryd.prog w 0 spare held n 3 [c2] = some y1 := by simpa [Value.cells, Tryd.cellsI] using h1
  obtain ⟨u0, u1, m, hu, _, g0, g1⟩ := trod_struct2 Tryd.underlying35 h0'
  have g0' : DataW.trod enc Tryd.prog w 0 spare held m 33 [c0] = some u0 := by simpa [Value.cells, Tryd.cellsU] using g0
  have g1' : DataW.trod enc Tryd.prog w 0 spare held m 33 [c1] = some u1 := by simpa [Value.cells, Tryd.cellsU] using g1
  obtain ⟨a, ea, rfl, wa⟩ := DataW.trod_int Tryd.underlying33 g0'
  obtain ⟨b, eb, rfl, wb⟩ := DataW.trod_int Tryd.underlying33 g1'
  obtain ⟨k, ek, rfl, wk⟩ := DataW.trod_int Tryd.underlying3 h1'
  simp at ea eb ek
  exact ⟨a, b, k, ea, eb, ek, wa, wb⟩
theorem spot_none {W : World} {a : Addr} {u : Value} (h : W.cell? a = some u) : a = ⟨a.block, a.off, none⟩ := by
  obtain ⟨b, o, s⟩ := a
  cases s with
  | none => rfl
  | some z =>
    unfold World.cell? at h
    split at h
    · simp at h
    · cases h
set_option maxRecDepth 100000 in
theorem open_pfxs {r : Reach} {b0 : Nat} {v : Value} {d : DataW H} {p : List MemPlace} (hv : Value.okWide Tryd.prog w r b0 22 v) (h : DataW.Trod enc Tryd.prog w 0 (fun _ => true) held 22 v d p) :
    ∃ l : List (BitVec 128 × Int), Rv w v l := by
  obtain ⟨a0, len, cap, rfl⟩ := okWide_slice Tryd.underlying22 hv
  obtain ⟨fuel, hf⟩ := h
  rcases Deep.open_slice Tryd.underlying22 hf with ⟨hcs, hx⟩ | ⟨a, len', cap', m, n, D, Pl, hcs, _, hl, hm, hmm, hx, hel⟩
  · simp [Value.cells] at hcs
    obtain ⟨rfl, rfl, rfl⟩ := hcs
    exact ⟨[], none, 0, rfl, .inl rfl⟩
  · simp [Value.cells] at hcs
    obtain ⟨rfl, rfl, rfl⟩ := hcs
    simp at hmm
    subst hmm
    rw [Tryd.cellsP] at hel
    obtain ⟨f, hf⟩ := Deep.choose_lt (α := BitVec 128 × Int) (n := len) (p := fun i x => w.cell? (a.add (i * 3)) = some (.int .u64 (hI x.1)) ∧ w.cell? ((a.add (i * 3)).add 1) = some (.int .u64 (lI x.1)) ∧ w.cell? ((a.add (i * 3)).add 2) = some (.int .i64 x.2)) (fun i hi => by
      obtain ⟨cs', h1, h2⟩ := hel i (by omega)
      obtain ⟨_, hlen, hc⟩ := World.cells?_some h1
      match cs', hlen with
      | [c0, c1, c2], _ =>
        obtain ⟨x, y, k, rfl, rfl, rfl, wx, wy⟩ := trod_pfx h2
        have bx : 0 ≤ x ∧ x < 18446744073709551616 := by simp [Lit.wf, IntKind.min, IntKind.max, IntKind.signed, IntKind.bits] at wx; omega
        have bY : 0 ≤ y ∧ y < 18446744073709551616 := by simp [Lit.wf, IntKind.min, IntKind.max, IntKind.signed, IntKind.bits] at wy; omega
        refine ⟨(mkW x y, k), ?_, ?_, ?_⟩
        · have := hc 0 (by omega)
          rw [hI_mk x y bx.1 bx.2]
          simpa [Addr.add] using this
        · rw [lI_mk x y bY.1 bY.2]
          simpa using hc 1 (by omega)
        · simpa using hc 2 (by omega))
    refine ⟨(List.range len).map f, some a, _, by simp; rfl, ?_⟩
    by_cases hz : len = 0
    · subst hz
      exact .inl (by simp)
    · have h00 := (hf 0 (by omega)).1
      have ea : a = ⟨a.block, a.off, none⟩ := by
        have : a.add (0 * 3) = a := by simp [Addr.add]
        rw [this] at h00
        exact spot_none h00
      refine .inr ⟨a.block, a.off, by rw [← ea], ?_⟩
      refine rowP_all _ ?_
      intro i hi
      have hi' : i < len := by simpa using hi
      have := hf i hi'
      rw [ea] at this
      simp only [addA] at this
      simpa [Nat.add_assoc] using this
end
end Go.Proofs.YtkgfeegcdohkdabDoor
