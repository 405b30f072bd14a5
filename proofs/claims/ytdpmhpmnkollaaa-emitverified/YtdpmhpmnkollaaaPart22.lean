/-
  Part 22 of the proof: 8 texts, one behind the other.
-/
import Derived.Test.YtdpmhpmnkollaaaPart14
import Derived.Test.YtdpmhpmnkollaaaPart3
import Derived.Test.YtdpmhpmnkollaaaPart20
import Derived.Test.YtdpmhpmnkollaaaPart21
import Derived.Test.YtdpmhpmnkollaaaPart18
import Derived.Test.YtdpmhpmnkollaaaPart6
namespace Go.Proofs.Ytdpmhpmnkollaaa
open Go.RowKit Go.Shelf
set_option linter.unusedSimpArgs false
set_option linter.unusedVariables false
attribute [local go_sem] Oper.semAt_some

end Go.Proofs.Ytdpmhpmnkollaaa
namespace Go.Proofs.Ytdpmhpmnkollaaa
open Go.RowKit Go.Shelf
set_option linter.unusedSimpArgs false
set_option linter.unusedVariables false
attribute [local go_sem] Oper.semAt_some

end Go.Proofs.Ytdpmhpmnkollaaa
namespace Go.Proofs.Ytdpmhpmnkollaaa
open Go.RowKit
set_option linter.unusedSimpArgs false
set_option linter.unusedVariables false

theorem rmapWords_any (n : Nat) (h : n ≤ 24) (w : World) :
    Calls Try.prog 42 #[.int .i64 (n : Int)] w fun e w' => e = .returned (.int .i64 (mwN n : Int)) ∧ w' = w := by
  by_cases c : n < 5
  · have c1 : (n : Int) < 5 := by omega
    have e : Hid (mwN n = 1) := by show _ = _; unfold mwN; rw [if_pos c]
    clear c h
    go_enter Try.func42, Try.ntmps42
    go_wp2
    go_ret
    exact ⟨by rw [e.out]; rfl, rfl⟩
  · have c1 : ¬ (n : Int) < 5 := by omega
    obtain ⟨j, hj⟩ : ∃ j, j = n - 5 := ⟨_, rfl⟩
    have hs := sh64 j (by omega)
    obtain ⟨P, hP⟩ : ∃ P : Nat, P = 2 ^ j := ⟨_, rfl⟩
    rw [← hP] at hs
    have e : Hid (mwN n = P) := by show _ = _; unfold mwN; rw [if_neg c, hP, hj]
    have hw : IntKind.i64.wrap ((n : Int) - 5) = (j : Int) := by rw [IntKind.wrap_i64]; omega
    clear c h hP hj
    go_enter Try.func42, Try.ntmps42
    go_wp2
    go_ret
    exact ⟨by rw [e.out]; rfl, rfl⟩
set_option maxRecDepth 100000 in
set_option maxHeartbeats 4000000 in
theorem risMap_any (v : Value) (m : List (BitVec 32)) (n : Nat) (w : World) (hv : RwX cU w v m) (h : n ≤ 24) :
    Calls Try.prog 43 #[v, .int .i64 (n : Int)] w fun e w' => e = .returned (.bool (isMapB m n)) ∧ Below w.heap.size w w' := by
  have KM := fun w => rmapWords_any n h w
  obtain ⟨ao, c, rfl, hc, hr⟩ := hv
  have hs1 := sh64u n h
  by_cases h1 : m.length = mwN n
  · obtain ⟨x, t, rfl⟩ : ∃ x t, m = x :: t := by
      cases m with
      | nil => have := mwN_lo n; simp at h1; omega
      | cons x t => exact ⟨x, t, rfl⟩
    obtain ⟨b, off, rfl, hcell⟩ : ∃ b off, ao = some ⟨b, off, none⟩ ∧ ∀ j y, (x :: t)[j]? = some y → w.cell? ⟨b, off + j, none⟩ = some (cU y) := by
      rcases hr with h | h
      · cases h
      · exact h
    have c0 : w.cell? ⟨b, off, none⟩ = some (.int .u32 (uI x)) := hcell 0 x rfl
    have HE : Hid (isMapB (x :: t) n = topB x (2 ^ n)) := by show _ = _; rw [isMapB_cons, decide_eq_true h1, Bool.true_and]
    obtain ⟨L, hL⟩ : ∃ L, L = (x :: t).length := ⟨_, rfl⟩
    rw [← hL] at h1 ⊢
    have hL0 : (0 : Int) < (L : Int) := by rw [hL]; simp
    rw [← h1] at KM
    obtain ⟨P, hP⟩ : ∃ P : Nat, P = 2 ^ n := ⟨_, rfl⟩
    rw [← hP] at hs1 HE
    have hs2 := sh32u x P
    have hh := hi32 x
    have HP : Hid (5 ≤ n → x <<< P = 0#32) := by
      intro h5
      refine BitVec.shiftLeft_eq_zero ?_
      rw [hP]
      have := Nat.pow_le_pow_right (n := 2) (by decide) h5
      exact this
    clear hcell hr h1 hL hc h hP
    unfold topB at HE
    cases g : x.getLsbD 31 with
    | true =>
      rw [g] at hh HE
      replace HE : Hid (isMapB (x :: t) n = (x <<< P == 0#32)) := HE
      simp only [if_true] at hh
      clear g
      by_cases h5 : 5 ≤ n
      · have HE2 : Hid (isMapB (x :: t) n = true) := by show _ = _; rw [HE.out, HP.out h5]; rfl
        have h5' : (5 : Int) ≤ (n : Int) := by omega
        clear h5 HE HP
        go_enter Try.func43, Try.ntmps43
        go_wp2_with (go_at_call 42; refine (KM _).mono ?_; rintro e w1 ⟨rfl, hw1⟩; replace hw1 := hw1.symm; subst hw1)
        go_quiet (fail)
        have HB : Hid (Below w.heap.size w (w.drewN nq)) := below_drewN (Below.refl _ _) nq
        go_wp2
        go_ret
        exact ⟨by rw [HE2.out]; rfl, HB.out⟩
      · have h5' : decide ((5 : Int) ≤ (n : Int)) = false := decide_eq_false (by omega)
        clear h5 HP
        by_cases hz : x <<< P = 0#32
        · have HE2 : Hid (isMapB (x :: t) n = true) := by show _ = _; rw [HE.out, hz]; rfl
          rw [hz, uI_zero] at hs2
          clear hz HE
          go_enter Try.func43, Try.ntmps43
          go_wp2_with (go_at_call 42; refine (KM _).mono ?_; rintro e w1 ⟨rfl, hw1⟩; replace hw1 := hw1.symm; subst hw1)
          go_quiet (fail)
          have HB : Hid (Below w.heap.size w (w.drewN nq)) := below_drewN (Below.refl _ _) nq
          go_wp2
          go_ret
          exact ⟨by rw [HE2.out]; rfl, HB.out⟩
        · have HE2 : Hid (isMapB (x :: t) n = false) := by show _ = _; rw [HE.out]; simpa using hz
          obtain ⟨Y, hY⟩ : ∃ Y, Y = uI (x <<< P) := ⟨_, rfl⟩
          have hY0 : (Y == 0) = false := by
            rw [hY]; simp only [beq_eq_false_iff_ne]
            exact fun e => hz ((uI_is0 _).1 e)
          rw [← hY] at hs2
          clear hz hY HE
          go_enter Try.func43, Try.ntmps43
          go_wp2_with (go_at_call 42; refine (KM _).mono ?_; rintro e w1 ⟨rfl, hw1⟩; replace hw1 := hw1.symm; subst hw1)
          go_quiet (fail)
          have HB : Hid (Below w.heap.size w (w.drewN nq)) := below_drewN (Below.refl _ _) nq
          go_wp2
          go_ret
          exact ⟨by rw [HE2.out]; rfl, HB.out⟩
    | false =>
      rw [g] at hh HE
      replace hh : uI x / 2147483648 = 0 := hh
      replace HE : Hid (isMapB (x :: t) n = false) := HE
      clear hs2 hs1 g HP
      go_enter Try.func43, Try.ntmps43
      go_wp2_with (go_at_call 42; refine (KM _).mono ?_; rintro e w1 ⟨rfl, hw1⟩; replace hw1 := hw1.symm; subst hw1)
      go_ret
      exact ⟨by rw [HE.out]; rfl, Below.refl _ _⟩
  · have HE : Hid (isMapB m n = false) := by show _ = _; unfold isMapB; rw [decide_eq_false h1]; rfl
    obtain ⟨L, hL⟩ : ∃ L, L = mwN n := ⟨_, rfl⟩
    rw [← hL] at KM h1
    have h1' : (((m.length : Nat) : Int) != (L : Int)) = true := by simp; omega
    clear hs1 hr hL h1
    go_enter Try.func43, Try.ntmps43
    go_wp2_with (go_at_call 42; refine (KM _).mono ?_; rintro e w1 ⟨rfl, hw1⟩; replace hw1 := hw1.symm; subst hw1)
    go_ret
    exact ⟨by rw [HE.out]; rfl, Below.refl _ _⟩
end Go.Proofs.Ytdpmhpmnkollaaa
namespace Go.Proofs.Ytdpmhpmnkollaaa
open Go.RowKit
set_option linter.unusedSimpArgs false
set_option linter.unusedVariables false
attribute [local go_sem] Oper.semAt_some

end Go.Proofs.Ytdpmhpmnkollaaa
namespace Go.Proofs.Ytdpmhpmnkollaaa
open Go.RowKit Go.Shelf
set_option linter.unusedSimpArgs false
set_option linter.unusedVariables false
attribute [local go_sem] Oper.semAt_some

structure PlV (w : World) (vo : Value) (Gp : Nat) (o P : List Int) (W : World) : Prop where
  g : W.heap[Gp]? = some (.cells (P.map cI).toArray 3)
  o : W.ownsRow w.heap.size 3 1 vo o.length (o.map cI)
  b : Below w.heap.size w W
  ge : w.heap.size ≤ Gp
  ne : vo.ownBlock ≠ some Gp
section
variable {w W W' : World} {vo : Value} {Gp : Nat} {o P : List Int}
theorem PlV.below (h : PlV w vo Gp o P W) (hb : Below W.heap.size W W') : PlV w vo Gp o P W' := ⟨(hb.block _ (lt_16 h.g)).trans h.g, own_b13 hb h.o, keepb hb h.b, h.ge, h.ne⟩
theorem PlV.put (h : PlV w vo Gp o P W) (k : Nat) (m : Int) : PlV w vo Gp o (P.set k m) (W.setCell ⟨Gp, k, none⟩ (.int .i64 m)) := by
  refine ⟨?_, own_far16 h.o _ h.ne, h.b.setCell (p := ⟨Gp, k, none⟩) h.ge _, h.ge, h.ne⟩
  rw [set_16 h.g, List.setIfInBounds_toArray, List.map_set]; rfl
end
end Go.Proofs.Ytdpmhpmnkollaaa
namespace Go.Proofs.Ytdpmhpmnkollaaa
open Go.RowKit Go.Shelf
set_option linter.unusedSimpArgs false
set_option linter.unusedVariables false
attribute [local go_sem] Oper.semAt_some

def plcG : List Int → Nat → List Int → List Int
  | [], _, P => P
  | x :: t, i, P => plcG t (i + 1) (P.set x.toNat (i : Int))
theorem plc_drop (o : List Int) (i : Nat) (x : Int) (h : o[i]? = some x) (P : List Int) : plcG (o.drop i) i P = plcG (o.drop (i + 1)) (i + 1) (P.set x.toNat (i : Int)) := by
  rw [List.drop_eq_getElem_cons (List.getElem?_eq_some_iff.mp h).1, (List.getElem?_eq_some_iff.mp h).2]; rfl
theorem plcG_len : ∀ (o : List Int) (i : Nat) (P : List Int), (plcG o i P).length = P.length
  | [], _, _ => rfl
  | x :: t, i, P => by show (plcG t (i + 1) (P.set x.toNat (i : Int))).length = _; rw [plcG_len, List.length_set]
def rnP (P : List Int) (r : Rn) : Rn := ⟨r.f, r.k, if r.k then P.getD r.n.toNat 0 else r.n⟩
def nbL (L : List Nde) (P o : List Int) : List Nde := o.map fun x => ⟨(L.getD x.toNat ⟨0, []⟩).b, (L.getD x.toNat ⟨0, []⟩).r.map (rnP P)⟩
theorem nbL_take (L : List Nde) (P o : List Int) (k : Nat) (x : Int) (h : o[k]? = some x) : (nbL L P o).take (k + 1) = (nbL L P o).take k ++ [⟨(L.getD x.toNat ⟨0, []⟩).b, (L.getD x.toNat ⟨0, []⟩).r.map (rnP P)⟩] := by
  rw [List.take_add_one]
  unfold nbL
  rw [List.getElem?_map, h]; rfl
structure PcV (w : World) (P : List Int) (W : World) : Prop where
  g : W.heap[w.heap.size]? = some (.cells (P.map cI).toArray 3)
  b : Below w.heap.size w W
theorem PcV.below {w W W' : World} {P : List Int} (h : PcV w P W) (hb : Below W.heap.size W W') : PcV w P W' := ⟨(hb.block _ (lt_16 h.g)).trans h.g, keepb hb h.b⟩
theorem PcV.put {w W : World} {P : List Int} (h : PcV w P W) (k : Nat) (m : Int) : PcV w (P.set k m) (W.setCell ⟨w.heap.size, k, none⟩ (.int .i64 m)) :=
  ⟨by rw [set_16 h.g, List.setIfInBounds_toArray, List.map_set]; rfl, h.b.setCell (p := ⟨w.heap.size, k, none⟩) (Nat.le_refl _) _⟩
theorem PcV.cell {w W : World} {P : List Int} (h : PcV w P W) {k : Nat} (hk : k < P.length) : W.cell? ⟨w.heap.size, k, none⟩ = some (.int .i64 (P.getD k 0)) :=
  at_16 h.g k _ (by rw [List.getElem?_toArray, List.getElem?_map, List.getElem?_eq_getElem hk, List.getD_eq_getElem?_getD, List.getElem?_eq_getElem hk]; rfl)
structure NbS (X0 : World) (bt : Int) (vr : Value) (RS : List Rn) (RB : Nat) (r : Rn) (W : World) : Prop where
  t : TnV X0 bt vr RS W
  r : W.heap[RB]? = some (.cells #[.int .u64 (hI r.f), .int .u64 (lI r.f), .bool r.k, .int .i64 r.n] 50)
  l : X0.heap.size < RB
  n : vr.ownBlock ≠ some RB
theorem NbS.num {X0 W : World} {bt : Int} {vr : Value} {RS : List Rn} {RB : Nat} {r : Rn} (h : NbS X0 bt vr RS RB r W) (m : Int) : NbS X0 bt vr RS RB ⟨r.f, r.k, m⟩ (W.setCell ⟨RB, 3, none⟩ (.int .i64 m)) :=
  ⟨h.t.far h.l h.n _, by rw [set_16 h.r]; rfl, h.l, h.n⟩
theorem NbS.new {X0 wr : World} {bt : Int} {vr : Value} {RS : List Rn} (h : TnV X0 bt vr RS wr) (r : Rn) : NbS X0 bt vr RS wr.heap.size r (wr.alloc (.cells #[.int .u64 (hI r.f), .int .u64 (lI r.f), .bool r.k, .int .i64 r.n] 50)) := by
  refine ⟨h.below (bl1 _ _), new_16 _ _, lt_16 h.n, fun q => ?_⟩
  have := (h.o.lt _ q).2
  omega
set_option maxRecDepth 100000 in
set_option maxHeartbeats 16000000 in
theorem rnumbered12 (v vo : Value) (L : List Nde) (o : List Int) (w : World) (hv : RwD w v L) (ho : RwX cI w vo o) (h0 : 0 < L.length) (hl : L.length ≤ 1000000) (hol : o.length ≤ 1000000) (hr : ∀ d ∈ L, d.r.length ≤ 1000000)
    (hin : ∀ x ∈ o, 0 ≤ x ∧ x < (L.length : Int)) (hkid : ∀ x ∈ o, ∀ r ∈ (L.getD x.toNat ⟨0, []⟩).r, r.k = true → 0 ≤ r.n ∧ r.n < (L.length : Int)) :
    Calls Try.prog 12 #[v, vo] w fun e w' => ∃ v' V, e = .returned v' ∧ NdO w' w.heap.size v' V (nbL L (plcG o 0 (List.replicate L.length 0)) o) ∧ Below w.heap.size w w' := by
  obtain ⟨i0, hi, hz0, hz1, hz2⟩ := info13 Try.infoRn16
  obtain ⟨j0, ji, jz0, jz1, jz2⟩ := info13 Try.infoD16
  obtain ⟨k0, ki, kz0, kz1, kz2⟩ := info13 Try.infoN16
  obtain ⟨ao, c, hvf, -, hrow⟩ := id hv
  obtain ⟨b, off, hao, hcell⟩ := hrow.resolve_left (by rintro rfl; exact absurd h0 (by simp))
  subst hao
  subst hvf
  have HC := hid13 hcell
  obtain ⟨oo, oc, hvo, -, horow⟩ := id ho
  subst hvo
  have HO := hid13 horow
  have HL : Hid (L.length ≤ 1000000 ∧ o.length ≤ 1000000 ∧ (∀ d ∈ L, d.r.length ≤ 1000000) ∧ 0 < L.length) := ⟨hl, hol, hr, h0⟩
  have HIn := hid13 hin
  have HKd := hid13 hkid
  obtain ⟨R, hR⟩ : ∃ R, R = plcG o 0 (List.replicate L.length 0) := ⟨_, rfl⟩
  rw [← hR]
  have HR : Hid (plcG o 0 (List.replicate L.length 0) = R) := hR.symm
  have HRl : Hid (R.length = L.length) := hid13 (by rw [hR, plcG_len]; simp)
  clear hv ho hcell hrow horow hin hkid hr hR
  go_enter Try.func12, Try.ntmps12
  go_wp2_with (at_make; apply stopHere9)
  refine (show wpList _ _ _ _ _ _ from ?_)
  refine wpList_make16 _ rfl _ _ 37 rfl 3 k0 (.int .i64 0) Try.underlying37 ki kz0 .i64 .i64 _ _ L.length L.length rfl rfl rfl rfl (Nat.le_refl _) (by rw [kz2]; omega) (by unfold maxLen; omega) ?_
  have eO : madeCells (Value.int IntKind.i64 0).cells (L.length * k0.size) = ((List.replicate L.length (0 : Int)).map cI).toArray := by rw [kz1, Nat.mul_one, List.map_replicate]; exact made_one16 _ _
  rw [eO]
  clear eO
  obtain ⟨O1, hO1⟩ : ∃ O : Obj, O = .cells ((List.replicate L.length (0 : Int)).map cI).toArray 3 := ⟨_, rfl⟩
  rw [← hO1]
  have HY0 : Hid (PcV w (List.replicate L.length 0) (w.alloc O1)) := hid13 ⟨by rw [hO1]; exact new_16 _ _, bl1 _ _⟩
  clear hO1
  go_wp2_with fail
  revert HY0
  generalize w.alloc O1 = W0
  intro HY0
  go_loopg [6] o.length (fun g iv wr => ∃ (i : Nat) (P : List Int), i + g = o.length ∧ iv = .int .i64 (i : Int) ∧ Hid (PcV w P wr ∧ P.length = L.length ∧ plcG (o.drop i) i P = R))
  case atStart => exact ⟨0, _, by omega, rfl, hid13 ⟨HY0.out, by simp, HR.out⟩⟩
  case round =>
    clear HY0
    obtain ⟨i, P, hk, rfl, HS⟩ := hrel
    have mi : IntKind.i64.wrap ((i : Int) + 1) = ((i + 1 : Nat) : Int) := by rw [IntKind.wrap_i64]; have := HL.out; push_cast; omega
    by_cases hlt : (i : Int) < (o.length : Int)
    · have hli : i < o.length := by omega
      obtain ⟨x, hx⟩ : ∃ x, o[i]? = some x := ⟨o[i], by simp [hli]⟩
      obtain ⟨hx0, hx1⟩ := HIn.out x (List.mem_of_getElem? hx)
      obtain ⟨k, rfl⟩ : ∃ k : Nat, x = (k : Int) := ⟨x.toNat, by omega⟩
      obtain ⟨ob, oof, hob, hoc⟩ := HO.out.resolve_left (by rintro rfl; simp at hli)
      subst hob
      have o0 := keepc HS.out.1.b (hoc i _ hx)
      have HT : Hid (plcG (o.drop (i + 1)) (i + 1) (P.set k (i : Int)) = R) := hid13 (by rw [← HS.out.2.2, plc_drop o i _ hx]; rfl)
      have hPk : k < P.length := by have := HS.out.2.1; omega
      have p2 := HS.out.1.cell hPk
      have p2f := fr_16 (j := k) HS.out.1.g
      have HY4 := hid13 (HS.out.1.put k (i : Int))
      have HPl : Hid ((P.set k (i : Int)).length = L.length) := hid13 (by rw [List.length_set]; exact HS.out.2.1)
      have HJ : Hid (i < o.length ∧ i + gk = o.length) := ⟨hli, hk⟩
      unfold cI at o0
      clear hx hoc hPk HS hk hx0
      go_wp2
      go_roundg (gk - 1)
      case measure => have := HJ.out; omega
      case rel => exact ⟨i + 1, P.set k (i : Int), by have := HJ.out; omega, rfl, hid13 ⟨HY4.out, HPl.out, HT.out⟩⟩
    · have hie : i = o.length := by omega
      have HPR : Hid (P = R) := hid13 (by have := HS.out.2.2; rw [hie, List.drop_of_length_le (by omega)] at this; exact this)
      have HY := hid13 HS.out.1
      rw [HPR.out] at HY
      obtain ⟨w1, hw1⟩ : ∃ w1, w1 = wr := ⟨_, rfl⟩
      have HN0 : Hid (NdO w1 w1.heap.size (.slice none 0 0) [] ((nbL L R o).take 0)) := hid13 (NdO.nil (World.ownsRow_nil _ _ _ _))
      have HB0 := hid13 (Below.refl w1.heap.size w1)
      rw [← hw1] at HY ⊢
      clear HS HPR hie hk hw1 mi
      go_wp2_with fail
      go_loopg [7, 8] o.length (fun gk lv kv wr => ∃ (k : Nat) (V : List Value), k + gk = o.length ∧ kv = .int .i64 (k : Int) ∧ Hid (NdO wr w1.heap.size lv V ((nbL L R o).take k) ∧ Below w1.heap.size w1 wr))
      case atStart => exact ⟨0, [], by omega, rfl, hid13 ⟨HN0.out, HB0.out⟩⟩
      case round =>
        clear HN0 HB0
        obtain ⟨k, V, hk, rfl, HI⟩ := hrel
        have mk : IntKind.i64.wrap ((k : Int) + 1) = ((k + 1 : Nat) : Int) := by rw [IntKind.wrap_i64]; have := HL.out; push_cast; omega
        by_cases hlt : (k : Int) < (o.length : Int)
        · have hkl : k < o.length := by omega
          obtain ⟨x, hx⟩ : ∃ x, o[k]? = some x := ⟨o[k], by simp [hkl]⟩
          have hxm := List.mem_of_getElem? hx
          obtain ⟨hx0, hx1⟩ := HIn.out x hxm
          have hkd := HKd.out x hxm
          have hTk := nbL_take L R o k x hx
          obtain ⟨kx, rfl⟩ : ∃ kx : Nat, x = (kx : Int) := ⟨x.toNat, by omega⟩
          have hxL : kx < L.length := by omega
          obtain ⟨⟨db, dr⟩, hd⟩ : ∃ d, L[kx]? = some d := ⟨L[kx], by simp [hxL]⟩
          have hgd : L.getD ((kx : Nat) : Int).toNat ⟨0, []⟩ = ⟨db, dr⟩ := by rw [Int.toNat_natCast, List.getD_eq_getElem?_getD, hd]; rfl
          rw [hgd] at hkd hTk
          dsimp only at hkd hTk
          have hdr := HL.out.2.2.1 _ (List.mem_of_getElem? hd)
          dsimp only at hdr
          obtain ⟨ob, oof, hob, hoc⟩ := HO.out.resolve_left (by rintro rfl; simp at hkl)
          subst hob
          obtain ⟨vr0, x0, x1, hR0⟩ := HC.out kx _ hd
          dsimp only at x0 hR0
          obtain ⟨ra, rc, hvr0, -, hrr⟩ := id hR0
          subst hvr0
          have HRr0 := hid13 hrr
          have o0 := hoc k _ hx
          unfold cI at o0
          have HCl : Hid (∀ X, Below w.heap.size w X → X.cell? ⟨ob, oof + k, none⟩ = some (.int .i64 (kx : Int)) ∧ X.cell? ⟨b, off + kx * 2, none⟩ = some (.int .i64 db) ∧ X.cell? ⟨b, off + kx * 2 + 1, none⟩ = some (.slice ra dr.length rc)) := hid13 (fun X h => ⟨keepc h o0, keepc h x0, keepc h x1⟩)
          have HKd2 := hid13 hkd
          have HTk := hid13 hTk
          have HDl : Hid (dr.length ≤ 1000000) := hdr
          obtain ⟨GK, hGK⟩ : ∃ GK, GK = gk := ⟨_, rfl⟩
          have HJ : Hid (k + GK = o.length ∧ GK = gk ∧ k < o.length ∧ o.length ≤ 1000000) := ⟨by omega, hGK, by omega, HL.out.2.1⟩
          obtain ⟨X0, hX0⟩ : ∃ X0, X0 = wr := ⟨_, rfl⟩
          have HIo := HI
          rw [← hX0] at HI HIo ⊢
          have q1 := bl1 X0 (.cells #[.int .i64 db, .slice none 0 0] 53)
          have HT0 : Hid (TnV X0 db (.slice none 0 0) ((dr.map (rnP R)).take 0) (X0.alloc (.cells #[.int .i64 db, .slice none 0 0] 53))) := hid13 ⟨q1, new_16 _ _, World.ownsRow_nil _ _ _ _⟩
          have HBX : Hid (Below w.heap.size w X0) := hid13 (keepb HIo.out.2 HY.out.b)
          obtain ⟨c0, c1, c2⟩ := HCl.out _ HBX.out
          have hxL2 : (kx : Int) < (L.length : Int) := by omega
          clear hkl hx hxm hx0 hx1 hkd hTk hxL hd hgd hdr hoc x0 x1 hR0 hrr o0 hGK hk hX0 q1
          go_wp2_with fail
          clear c0 c1 c2
          go_loopg [10] dr.length (fun gk iv wr => ∃ (i : Nat) (vr : Value), i + gk = dr.length ∧ iv = .int .i64 (i : Int) ∧ Hid (TnV X0 db vr ((dr.map (rnP R)).take i) wr))
          case atStart => exact ⟨0, _, by omega, rfl, HT0⟩
          case round =>
            clear HT0
            obtain ⟨i, vr, hi2, rfl, HN⟩ := hrel
            have HBw : Hid (Below w.heap.size w wr) := hid13 (keepb HN.out.b HBX.out)
            obtain ⟨c0, c1, c2⟩ := HCl.out _ HBw.out
            have mi : IntKind.i64.wrap ((i : Int) + 1) = ((i + 1 : Nat) : Int) := by rw [IntKind.wrap_i64]; have := HDl.out; push_cast; omega
            by_cases hlt2 : (i : Int) < (dr.length : Int)
            · have hil : i < dr.length := by omega
              obtain ⟨⟨rf, rk, rn⟩, hr⟩ : ∃ r, dr[i]? = some r := ⟨dr[i], by simp [hil]⟩
              obtain ⟨rb, rof, hra, hrc⟩ := HRr0.out.resolve_left (by rintro rfl; simp at hil)
              subst hra
              obtain ⟨e0, e1, e2, e3⟩ := (hrc i _ hr).below HBw.out
              dsimp only at e0 e1 e2 e3
              have hTr : (dr.map (rnP R)).take (i + 1) = (dr.map (rnP R)).take i ++ [rnP R ⟨rf, rk, rn⟩] := by rw [List.take_add_one, List.getElem?_map, hr]; rfl
              have hLl : ((dr.map (rnP R)).take i).length = i := by rw [List.length_take, List.length_map]; omega
              have hkn := HKd2.out _ (List.mem_of_getElem? hr)
              dsimp only at hkn
              obtain ⟨RS, hRS⟩ : ∃ RS, RS = (dr.map (rnP R)).take i := ⟨_, rfl⟩
              rw [← hRS] at hTr hLl HN
              obtain ⟨ro, rcc, hvr⟩ := own_form HN.out.o
              rw [hLl] at hvr
              subst hvr
              have HLl := hid13 hLl
              have HTr := hid13 hTr
              have HS0 := hid13 (NbS.new HN.out ⟨rf, rk, rn⟩)
              have HJ2 : Hid (i < dr.length ∧ i + gk = dr.length ∧ dr.length ≤ 1000000) := ⟨hil, hi2, HDl.out⟩
              have hne : ¬ X0.heap.size = wr.heap.size := by have := lt_16 HN.out.n; omega
              have hne2 : ¬ wr.heap.size = X0.heap.size := by omega
              have c6 := at_16 HN.out.n 1 _ rfl
              clear hr hrc hTr hLl hRS hil hi2
              cases rk with
              | false =>
                have HRr : Hid ((dr.map (rnP R)).take (i + 1) = RS ++ [⟨rf, false, rn⟩]) := hid13 HTr.out
                have f0 := at_16 HS0.out.r 0 _ rfl
                have f1 := at_16 HS0.out.r 1 _ rfl
                have f2 := at_16 HS0.out.r 2 _ rfl
                have f3 := at_16 HS0.out.r 3 _ rfl
                have d6 := at_16 HS0.out.t.n 1 _ rfl
                dsimp only at f0 f1 f2 f3
                have HSz : Hid ((wr.alloc (.cells #[.int .u64 (hI rf), .int .u64 (lI rf), .bool false, .int .i64 rn] 50)).heap.size = wr.heap.size + 1) := hid13 (World.size_alloc ..)
                clear HTr hkn
                go_wp2_with (at_builtin; apply stopHere9)
                refine (show wpList _ _ _ _ _ _ from ?_)
                clear c0 c1 c2 e0 e1 e2 e3 c6 f0 f1 f2 f3 d6
                obtain ⟨V9, hV9⟩ : ∃ V9, V9 = (wr.alloc (.cells #[.int .u64 (hI rf), .int .u64 (lI rf), .bool false, .int .i64 rn] 50)) := ⟨_, rfl⟩
                have HS9 := HS0
                have sz9 := HSz.out
                rw [← hV9] at HS9 sz9 ⊢
                have b3 := bl1 V9 (.cells #[.int .u64 (hI rf), .int .u64 (lI rf), .bool false, .int .i64 rn] 50)
                have hT9 := HS9.out.t.below b3
                have ho := hT9.o
                rw [HLl.out] at ho
                refine wpList_append_lies _ rfl _ _ 51 rfl (X0.heap.size + 1) 50 i0 (.agg #[.int .u64 0, .int .u64 0, .bool false, .int .i64 0]) 4 32 Try.underlying51 hi hz0 hz1 hz2 rfl (by decide) _ _ _ rfl ho ⟨wr.heap.size + 1, 0, none⟩ 1 1 [.int .u64 (hI rf), .int .u64 (lI rf), .bool false, .int .i64 rn] rfl rfl (by have h9 := newsN18 V9 (.int .u64 (hI rf)) (.int .u64 (lI rf)) (.bool false) (.int .i64 rn) 50; rwa [sz9] at h9) (by intro u hu; simp at hu; rcases hu with rfl | rfl | rfl | rfl <;> rfl) (by decide) (by have := HJ2.out; unfold maxLen; omega) (by have := HJ2.out; omega) (by have h1 := lt_16 hT9.n; omega) _ rfl ?_
                intro g9 cap9 w9 h1 h2 h3 h4
                have hrw : rowN RS ++ [Value.int .u64 (hI rf), Value.int .u64 (lI rf), Value.bool false, Value.int .i64 rn] = rowN (RS ++ [⟨rf, false, rn⟩]) := (rowN_app18 RS ⟨rf, false, rn⟩).symm
                rw [hrw] at h1
                obtain ⟨hp9, y0, yf⟩ := HS9.out.t.push HLl.out b3 h1 h2
                rw [← HRr.out] at hp9
                have HP9 := hid13 hp9
                clear hp9 h1 h2 h3 h4 hrw ho hT9 b3 sz9 HS9 hV9 HS0
                go_wp2
                go_roundg (gk - 1)
                case measure => have := HJ2.out; omega
                case rel => exact ⟨i + 1, _, by have := HJ2.out; omega, rfl, HP9⟩
              | true =>
                obtain ⟨hn0, hn1⟩ := hkn rfl
                obtain ⟨nn, rfl⟩ : ∃ nn : Nat, rn = (nn : Int) := ⟨rn.toNat, by omega⟩
                have hnR : nn < R.length := by rw [HRl.out]; omega
                have p2 := keepc HS0.out.t.b (keepc HIo.out.2 (HY.out.cell hnR))
                obtain ⟨pm, hpm⟩ : ∃ pm, pm = R.getD nn 0 := ⟨_, rfl⟩
                rw [← hpm] at p2
                have HRr : Hid ((dr.map (rnP R)).take (i + 1) = RS ++ [⟨rf, true, pm⟩]) := hid13 (by rw [HTr.out, hpm]; rfl)
                have HS1 := hid13 (NbS.new HN.out ⟨rf, true, pm⟩)
                have f2 := at_16 HS0.out.r 2 _ rfl
                have f3 := at_16 HS0.out.r 3 _ rfl
                have ff3 := fr_16 (j := 3) HS0.out.r
                have g0 := at_16 HS1.out.r 0 _ rfl
                have g1 := at_16 HS1.out.r 1 _ rfl
                have g2 := at_16 HS1.out.r 2 _ rfl
                have g3 := at_16 HS1.out.r 3 _ rfl
                have g6 := at_16 HS1.out.t.n 1 _ rfl
                dsimp only at f2 f3 g0 g1 g2 g3
                have HSz : Hid ((wr.alloc (.cells #[.int .u64 (hI rf), .int .u64 (lI rf), .bool true, .int .i64 pm] 50)).heap.size = wr.heap.size + 1) := hid13 (by simp)
                clear HTr hkn hpm
                go_wp2_with (at_builtin; apply stopHere9)
                refine (show wpList _ _ _ _ _ _ from ?_)
                clear c0 c1 c2 e0 e1 e2 e3 c6 f2 f3 ff3 g0 g1 g2 g3 g6 p2
                obtain ⟨V9, hV9⟩ : ∃ V9, V9 = (wr.alloc (.cells #[.int .u64 (hI rf), .int .u64 (lI rf), .bool true, .int .i64 pm] 50)) := ⟨_, rfl⟩
                have HS9 := HS1
                have sz9 := HSz.out
                rw [← hV9] at HS9 sz9 ⊢
                have b3 := bl1 V9 (.cells #[.int .u64 (hI rf), .int .u64 (lI rf), .bool true, .int .i64 pm] 50)
                have hT9 := HS9.out.t.below b3
                have ho := hT9.o
                rw [HLl.out] at ho
                refine wpList_append_lies _ rfl _ _ 51 rfl (X0.heap.size + 1) 50 i0 (.agg #[.int .u64 0, .int .u64 0, .bool false, .int .i64 0]) 4 32 Try.underlying51 hi hz0 hz1 hz2 rfl (by decide) _ _ _ rfl ho ⟨wr.heap.size + 1, 0, none⟩ 1 1 [.int .u64 (hI rf), .int .u64 (lI rf), .bool true, .int .i64 pm] rfl rfl (by have h9 := newsN18 V9 (.int .u64 (hI rf)) (.int .u64 (lI rf)) (.bool true) (.int .i64 pm) 50; rwa [sz9] at h9) (by intro u hu; simp at hu; rcases hu with rfl | rfl | rfl | rfl <;> rfl) (by decide) (by have := HJ2.out; unfold maxLen; omega) (by have := HJ2.out; omega) (by have h1 := lt_16 hT9.n; omega) _ rfl ?_
                intro g9 cap9 w9 h1 h2 h3 h4
                have hrw : rowN RS ++ [Value.int .u64 (hI rf), Value.int .u64 (lI rf), Value.bool true, Value.int .i64 pm] = rowN (RS ++ [⟨rf, true, pm⟩]) := (rowN_app18 RS ⟨rf, true, pm⟩).symm
                rw [hrw] at h1
                obtain ⟨hp9, y0, yf⟩ := HS9.out.t.push HLl.out b3 h1 h2
                rw [← HRr.out] at hp9
                have HP9 := hid13 hp9
                clear hp9 h1 h2 h3 h4 hrw ho hT9 b3 sz9 HS9 hV9 HS0
                go_wp2
                go_roundg (gk - 1)
                case measure => have := HJ2.out; omega
                case rel => exact ⟨i + 1, _, by have := HJ2.out; omega, rfl, HP9⟩
            · have hie : i = dr.length := by omega
              have HN9 : Hid (TnV X0 db vr (dr.map (rnP R)) wr) := hid13 (by
                have h9 := HN.out
                rw [hie, List.take_of_length_le (by rw [List.length_map]; exact Nat.le_refl _)] at h9
                exact h9)
              obtain ⟨ro, rcc, hvr⟩ := own_form HN9.out.o
              rw [List.length_map] at hvr
              subst hvr
              have HLl : Hid (((nbL L R o).take k).length = k) := hid13 (by rw [List.length_take]; unfold nbL; rw [List.length_map]; have := HJ.out; omega)
              obtain ⟨lo, lc, hlv⟩ := own_form HIo.out.1.o
              rw [HLl.out] at hlv
              subst hlv
              have d0 := at_16 HN9.out.n 0 _ rfl
              have d1 := at_16 HN9.out.n 1 _ rfl
              clear hie hi2 HN
              go_wp2_with (at_builtin; apply stopHere9)
              refine (show wpList _ _ _ _ _ _ from ?_)
              have b3 := bl1 wr (.cells #[.int .i64 db, .slice ro dr.length rcc] 53)
              have hb3 : Below X0.heap.size X0 (wr.alloc (.cells #[.int .i64 db, .slice ro dr.length rcc] 53)) := keepb b3 HN9.out.b
              have ho := own_b13 hb3 HIo.out.1.o
              rw [HLl.out] at ho
              have hws : w1.heap.size ≤ X0.heap.size := HIo.out.2.size
              refine wpList_append_lies _ rfl _ _ 22 rfl w1.heap.size 53 j0 (.agg #[.int .i64 0, .slice none 0 0]) 2 32 Try.underlying22 ji jz0 jz1 jz2 rfl (by decide) _ _ _ rfl ho ⟨wr.heap.size, 0, none⟩ 1 1 [.int .i64 db, .slice ro dr.length rcc] rfl rfl (newsD18 wr _ _ _ _ rfl) (two_one16 _ _ _ _) (by decide) (by have := HJ.out; unfold maxLen; omega) (by have := HJ.out; omega) (by have := hb3.size; omega) _ rfl ?_
              intro g9 cap9 w9 h1 h2 h3 h4
              have hN9 := HIo.out.1.push (u := .slice ro dr.length rcc) (d := ⟨db, dr.map (rnP R)⟩) hws (Below.refl _ _) (own_base16 HN9.out.o (by omega)) HN9.out.b b3 h2 (by rw [HLl.out]; exact h1)
              rw [← HTk.out] at hN9
              have HN8 := hid13 hN9
              have HB9 := hid13 ((keepb hb3 HIo.out.2).grown h2 (keepb hb3 HIo.out.2).size (fun z q => (HIo.out.1.o.lt z q).1))
              clear h1 h2 h3 h4 hN9 ho hb3 b3 hws d0 d1 c0 c1 c2
              go_wp2
              go_roundg (GK - 1)
              case measure => have := HJ.out; omega
              case rel => exact ⟨k + 1, _, by have := HJ.out; omega, rfl, hid13 ⟨HN8.out, HB9.out⟩⟩
        · have hke : k = o.length := by omega
          have HF : Hid (∃ V, NdO wr w.heap.size u7 V (nbL L R o) ∧ Below w.heap.size w wr) := hid13 ⟨V, by
            have h9 := HI.out.1
            rw [hke, List.take_of_length_le (by unfold nbL; rw [List.length_map]; exact Nat.le_refl _)] at h9
            exact h9.base HY.out.b.size, keepb HI.out.2 HY.out.b⟩
          clear hke hk HI
          go_wp2
          obtain ⟨V, h1, h2⟩ := HF.out
          exact bodyPost_ret (v := u7) (by simp [results, Try.results12, go_sem]) rfl ⟨_, rfl, ⟨V, h1⟩, h2⟩
end Go.Proofs.Ytdpmhpmnkollaaa
namespace Go.Proofs.Ytdpmhpmnkollaaa
open Go.RowKit Go.Shelf
set_option linter.unusedSimpArgs false
set_option linter.unusedVariables false
attribute [local go_sem] Oper.semAt_some

theorem own_row18 (w : World) (base e size n : Nat) (xs : List Value) (hb : base ≤ w.heap.size) (hs : xs.length = n * size) (hm : n ≤ maxLen) : (w.alloc (.cells xs.toArray e)).ownsRow base e size (.slice (some ⟨w.heap.size, 0, none⟩) n n) n xs :=
  ⟨hs, .inr ⟨w.heap.size, n, xs.toArray, rfl, hb, World.alloc_heap_new w _, Nat.le_refl _, hm, by simpa using hs, by rw [← hs]; simp⟩⟩
def oneN (an : Int) : List Nde := [⟨0, [⟨0#128, false, an⟩]⟩]
noncomputable def trL (l : List Nat) : List Nde := if dcE l 0 = 0 ∧ (dcI l 0).op = 4 then oneN (dcI l 0).n else ndsL (vfP l)
theorem vfP_ok {F : Int} {l : List Nat} (h : (vfR F l).2.2 = 0) (hn : ¬ (dcE l 0 = 0 ∧ (dcI l 0).op = 4)) : ((vfP l).length : Int) ≤ wds l ∧ ∀ b ∈ vfP l, b.es.length = sumW b.m b.m.length ∧ (b.m.length : Int) ≤ wds l ∧ (b.es.length : Int) ≤ wds l ∧ 1 ≤ b.t ∧ b.t ≤ 24 ∧ 1 ≤ b.es.length := by
  unfold vfR at h
  by_cases c1 : F ≠ 32 ∧ F ≠ 128
  · rw [if_pos c1] at h; exact absurd h (by simp)
  rw [if_neg c1] at h
  by_cases c2 : l.length = 0 ∨ l.length % 4 ≠ 0
  · rw [if_pos c2] at h; exact absurd h (by simp)
  rw [if_neg c2, if_neg hn] at h
  unfold vfB at h
  have hw : (0 : Int) < wds l := by unfold wds; omega
  by_cases c3 : (bsG l (l.length / 4) 0 []).2.2 ≠ 0
  · rw [if_pos c3] at h; exact absurd h c3
  have c4 : (bsG l (l.length / 4) 0 []).2.2 = 0 := by simpa using c3
  obtain ⟨h1, h2⟩ := bsG_ok l (l.length / 4) 0 [] (by omega) hw (by unfold wds; omega) ⟨by simp, fun b hb => (by simp at hb)⟩ (fun b hb => (by simp at hb)) c4
  have h3 := bsG_es l (l.length / 4) 0 [] (fun b hb => (by simp at hb)) c4
  unfold vfP
  refine ⟨by rw [List.length_map]; exact h1.len, fun b hb => ?_⟩
  obtain ⟨b', hb', rfl⟩ := List.mem_map.mp hb
  have a1 := h1.b b' hb'
  have a2 := h3 b' hb'
  unfold lkB
  dsimp only
  rw [List.length_map]
  exact ⟨a2.1, a1.2.2.1, a1.2.2.2.1, a1.2.2.2.2.1, a1.2.2.2.2.2, a2.2⟩
def TrQ (w : World) (F : Int) (lb : List Nat) (e : Ending) (w' : World) : Prop := ∃ v V, e = .returned (.tuple #[v, .int .i64 (vfR F lb).2.2]) ∧ ((vfR F lb).2.2 ≠ 0 → v = .slice none 0 0) ∧ ((vfR F lb).2.2 = 0 → NdO w' w.heap.size v V (trL lb)) ∧ Below w.heap.size w w'
end Go.Proofs.Ytdpmhpmnkollaaa
namespace Go.Proofs.Ytdpmhpmnkollaaa
open Go.RowKit
set_option linter.unusedSimpArgs false
set_option linter.unusedVariables false

structure DB where
  a : Int
  t : Int
  m : List (BitVec 32)
  en : Int
  es : List (Int × Int)
def DB.pb (d : DB) : PB := ⟨d.a, d.t, d.m, prE d.en d.es⟩
noncomputable def blkD (l : List Nat) (a : Int) : DB := ⟨a, (dcI l a).n, (dcI l (a + 1)).m, a + 1 + dcZ l (a + 1), (enG l (a + 1 + dcZ l (a + 1)) (sumW (dcI l (a + 1)).m (dcI l (a + 1)).m.length) 0 []).1⟩
theorem bs_err {l : List Nat} {f : Nat} {a : Int} {P : List PB} (h : (bkE l a).1 ≠ 0) : bsG l (f + 1) a P = ([], (bkE l a).2, (bkE l a).1) := by
  rw [bsG_succ]
  unfold bkE at h ⊢
  by_cases c1 : dcE l a ≠ 0
  · rw [if_pos c1, if_pos c1]
  rw [if_neg c1] at h
  rw [if_neg c1, if_neg c1]
  by_cases c2 : (dcI l a).op ≠ 1
  · rw [if_pos c2, if_pos c2]
  rw [if_neg c2] at h
  rw [if_neg c2, if_neg c2]
  by_cases c3 : dcE l (a + 1) ≠ 0
  · rw [if_pos c3, if_pos c3]
  rw [if_neg c3] at h
  rw [if_neg c3, if_neg c3]
  by_cases c4 : (dcI l (a + 1)).op ≠ 2
  · rw [if_pos c4, if_pos c4]
  rw [if_neg c4] at h
  rw [if_neg c4, if_neg c4]
  by_cases c5 : (dcI l (a + 1)).n ≠ (dcI l a).n
  · rw [if_pos c5, if_pos c5]
  rw [if_neg c5] at h
  rw [if_neg c5, if_neg c5]
  unfold bsF
  rw [if_pos h]
theorem bk_okd {l : List Nat} {a : Int} (h : (bkE l a).1 = 0) : dcE l a = 0 ∧ (dcI l a).op = 1 ∧ dcE l (a + 1) = 0 ∧ (dcI l (a + 1)).op = 2 ∧ (dcI l (a + 1)).n = (dcI l a).n ∧ (enG l (a + 1 + dcZ l (a + 1)) (sumW (dcI l (a + 1)).m (dcI l (a + 1)).m.length) 0 []).2.1 = 0 := by
  unfold bkE at h
  by_cases c1 : dcE l a ≠ 0
  · rw [if_pos c1] at h; exact absurd h c1
  rw [if_neg c1] at h
  by_cases c2 : (dcI l a).op ≠ 1
  · rw [if_pos c2] at h; exact absurd h (by simp)
  rw [if_neg c2] at h
  by_cases c3 : dcE l (a + 1) ≠ 0
  · rw [if_pos c3] at h; exact absurd h c3
  rw [if_neg c3] at h
  by_cases c4 : (dcI l (a + 1)).op ≠ 2
  · rw [if_pos c4] at h; exact absurd h (by simp)
  rw [if_neg c4] at h
  by_cases c5 : (dcI l (a + 1)).n ≠ (dcI l a).n
  · rw [if_pos c5] at h; exact absurd h (by simp)
  rw [if_neg c5] at h
  exact ⟨by simpa using c1, by simpa using c2, by simpa using c3, by simpa using c4, by simpa using c5, h⟩
theorem bs_ok {l : List Nat} {f : Nat} {a : Int} {P : List PB} (h : (bkE l a).1 = 0) : bsG l (f + 1) a P = if a + 1 + dcZ l (a + 1) + (sumW (dcI l (a + 1)).m (dcI l (a + 1)).m.length : Nat) < wds l then bsG l f (a + 1 + dcZ l (a + 1) + (sumW (dcI l (a + 1)).m (dcI l (a + 1)).m.length : Nat)) (P ++ [(blkD l a).pb]) else (P ++ [(blkD l a).pb], 0, 0) := by
  obtain ⟨c1, c2, c3, c4, c5, c6⟩ := bk_okd h
  rw [bsG_succ, if_neg (by simp [c1]), if_neg (by simp [c2]), if_neg (by simp [c3]), if_neg (by simp [c4]), if_neg (by simp [c5])]
  unfold bsF
  rw [if_neg (by simp [c6])]
  rfl
theorem enG_bd (l : List Nat) (en : Int) : ∀ (r k : Nat) (es : List (Int × Int)), (∀ e ∈ es, 0 ≤ e.2 ∧ e.2 ≤ 16777215) → ∀ e ∈ (enG l en r k es).1, 0 ≤ e.2 ∧ e.2 ≤ 16777215
  | 0, k, es, h => h
  | r + 1, k, es, h => by
    rw [enG_succ]
    by_cases h1 : enE l (en + k) es = 0
    · rw [if_pos h1]
      refine enG_bd l en r (k + 1) _ (fun e he => ?_)
      rcases List.mem_append.mp he with q | q
      · exact h e q
      · simp at q
        subst q
        have h2 : dcE l (en + k) = 0 := by
          by_cases h3 : dcE l (en + k) ≠ 0
          · unfold enE at h1
            rw [if_pos h3] at h1
            exact h1
          · simpa using h3
        exact ⟨(dcF h2).n0, (dcF h2).n1⟩
    · rw [if_neg h1]
      exact h
structure DbF (d : DB) : Prop where
  e : d.en = d.a + 2 + (d.m.length : Int)
  n : ∀ e ∈ d.es, 0 ≤ e.2 ∧ e.2 ≤ 16777215
theorem blkD_ok {l : List Nat} {a : Int} (h : (bkE l a).1 = 0) : DbF (blkD l a) := by
  obtain ⟨c1, c2, c3, c4, c5, c6⟩ := bk_okd h
  refine ⟨?_, enG_bd l _ _ _ _ (fun e he => by cases he)⟩
  unfold blkD
  dsimp only
  rw [dcZ_zero c3]
  omega
theorem prE_get : ∀ (p : Int) (A : List (Int × Int)) (j : Nat) (e : Int × Int), A[j]? = some e → (prE p A)[j]? = some (prX (p + j) e)
  | p, [], j, e, h => by simp at h
  | p, x :: A, 0, e, h => by
    simp at h; subst h
    show some (prX p x) = _
    simp
  | p, x :: A, j + 1, e, h => by
    have := prE_get (p + 1) A j e (by simpa using h)
    show (prE (p + 1) A)[j]? = _
    rw [this]
    congr 2
    push_cast
    omega
theorem mkX18_set0 (s : List Bool) (e : Bool × Int) : mkX (s.set 0 true) e = (mkX s e).set 0 true := by
  unfold mkX
  split
  · by_cases c : e.2.toNat = 0
    · rw [c]
    · rw [List.set_comm _ _ (by omega)]
  · rfl
theorem mkF18_set0 : ∀ (es : List (Bool × Int)) (s : List Bool), es.foldl mkX (s.set 0 true) = (es.foldl mkX s).set 0 true
  | [], s => rfl
  | e :: t, s => by rw [List.foldl_cons, List.foldl_cons, mkX18_set0, mkF18_set0 t]
theorem mkA18_set0 : ∀ (P : List PB) (s : List Bool), P.foldl mkB (s.set 0 true) = (P.foldl mkB s).set 0 true
  | [], s => rfl
  | b :: t, s => by
    rw [List.foldl_cons, List.foldl_cons]
    show t.foldl mkB (b.es.foldl mkX (s.set 0 true)) = _
    rw [mkF18_set0, mkA18_set0 t]; rfl
theorem usR_no {P : List PB} (h : ∀ k, 1 ≤ k → k < P.length → ((P.foldl mkB (List.replicate P.length false)).getD k false) = true) : usR P = (0, 0) := by
  unfold usR
  have hm : mkA P = (P.foldl mkB (List.replicate P.length false)).set 0 true := by unfold mkA mk0; exact mkA18_set0 P _
  have hl : (P.foldl mkB (List.replicate P.length false)).length = P.length := by rw [mkA_len]; simp
  have hx : ixB (mkA P) = -1 := by
    unfold ixB
    have : (mkA P).findIdx? (· == false) = none := by
      rw [List.findIdx?_eq_none_iff]
      intro x hx
      obtain ⟨k, hk⟩ := List.getElem?_of_mem hx
      rw [hm] at hk
      have hkl := (List.getElem?_eq_some_iff.mp hk).1
      rw [List.length_set, hl] at hkl
      by_cases c : k = 0
      · subst c
        rw [List.getElem?_set_self (by omega)] at hk
        injection hk with hk
        subst hk; rfl
      · rw [List.getElem?_set_ne (by omega)] at hk
        have := h k (by omega) hkl
        rw [List.getD_eq_getElem?_getD, hk] at this
        simp at this
        subst this; rfl
    rw [this]
  rw [hx, if_neg (by omega)]
theorem usR_at {P : List PB} {k : Nat} {b : PB} (h1 : 1 ≤ k) (hb : P[k]? = some b) (h0 : ((P.foldl mkB (List.replicate P.length false)).getD k false) = false) (h : ∀ j, 1 ≤ j → j < k → ((P.foldl mkB (List.replicate P.length false)).getD j false) = true) : usR P = (b.a, 31) := by
  unfold usR
  have hm : mkA P = (P.foldl mkB (List.replicate P.length false)).set 0 true := by unfold mkA mk0; exact mkA18_set0 P _
  have hl : (P.foldl mkB (List.replicate P.length false)).length = P.length := by rw [mkA_len]; simp
  have hkl := (List.getElem?_eq_some_iff.mp hb).1
  have hx : ixB (mkA P) = (k : Int) := by
    unfold ixB
    have : (mkA P).findIdx? (· == false) = some k := by
      rw [List.findIdx?_eq_some_iff_getElem]
      rw [hm]
      refine ⟨by rw [List.length_set, hl]; exact hkl, ?_, fun j hj => ?_⟩
      · rw [List.getElem_set_ne (by omega)]
        rw [List.getD_eq_getElem?_getD, List.getElem?_eq_getElem (by rw [hl]; exact hkl)] at h0
        simp at h0
        simp [h0]
      · by_cases c : j = 0
        · subst c; simp
        · rw [List.getElem_set_ne (by omega)]
          have := h j (by omega) hj
          rw [List.getD_eq_getElem?_getD, List.getElem?_eq_getElem (by rw [hl]; omega)] at this
          simp at this
          simp [this]
    rw [this]
  rw [hx, if_pos (by omega), Int.toNat_natCast, List.getD_eq_getElem?_getD, hb]
  rfl
end Go.Proofs.Ytdpmhpmnkollaaa
