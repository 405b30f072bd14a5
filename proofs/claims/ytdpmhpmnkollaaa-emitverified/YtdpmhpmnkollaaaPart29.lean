/-
  Part 29 of the proof: 1 texts, one behind the other.
-/
import Derived.Test.YtdpmhpmnkollaaaPart28
import Derived.Deep.CutRange
namespace Go.Proofs.Ytdpmhpmnkollaaa
open Go.RowKit Go.Shelf
set_option linter.unusedSimpArgs false
set_option linter.unusedVariables false
attribute [local go_sem] Oper.semAt_some

def RbkQ (w : World) (F : Int) (l : List Nat) (e : Ending) (w' : World) : Prop :=
  ∃ v, e = .returned (.tuple #[v, .int .i64 (vfR F l).1, .int .i64 (vfR F l).2.1, .int .i64 (vfR F l).2.2]) ∧ Below w.heap.size w w' ∧ ((vfR F l).2.2 ≠ 0 ∨ (dcE l 0 = 0 ∧ (dcI l 0).op = 4) → v = .slice none 0 0) ∧
    ((vfR F l).2.2 = 0 → ¬ (dcE l 0 = 0 ∧ (dcI l 0).op = 4) → ∃ K D, KbV w' w.heap.size v K D ∧ lkD D = vfP l ∧ (D.map DB.a).Pairwise (· < ·) ∧ (D.length : Int) ≤ wds l ∧ 0 < D.length ∧ (∀ d ∈ D, DbF d ∧ 0 ≤ d.a ∧ d.a < wds l) ∧ v.ownBlock ≠ none)
theorem RbkQ.no {w w' : World} {F : Int} {l : List Nat} {a e : Int} (h : vfR F l = (0, a, e)) (h0 : e ≠ 0) (hb : Below w.heap.size w w') : RbkQ w F l (.returned (.tuple #[.slice none 0 0, .int .i64 0, .int .i64 a, .int .i64 e])) w' :=
  ⟨_, by rw [h], hb, fun _ => rfl, fun q => absurd (by rw [h] at q; exact q) h0⟩
theorem pb_map (D : List DB) : (D.map DB.pb).map PB.a = D.map DB.a := by rw [List.map_map]; rfl
theorem lkD_len (D : List DB) : (lkD D).length = D.length := by unfold lkD; rw [List.length_map, List.length_map]
theorem fnB_bd (qs : List Int) (x : Int) : fnB qs x = -1 ∨ 0 ≤ fnB qs x ∧ fnB qs x < qs.length := by
  unfold fnB
  cases h : qs.findIdx? (· == x) with
  | none => left; rfl
  | some i =>
    right
    have := (List.findIdx?_eq_some_iff_getElem.mp h).1
    dsimp only
    omega
structure RmV (w : World) (Z : Nat) (S : List Bool) (W : World) : Prop where
  z : W.heap[Z]? = some (.cells (S.map cBo).toArray 4)
  b : Below w.heap.size w W
  n : w.heap.size ≤ Z
theorem RmV.below {w W W' : World} {Z : Nat} {S : List Bool} (h : RmV w Z S W) (hb : Below W.heap.size W W') : RmV w Z S W' := ⟨(hb.block _ (lt_16 h.z)).trans h.z, keepb hb h.b, h.n⟩
theorem RmV.set {w W : World} {Z : Nat} {S : List Bool} (h : RmV w Z S W) (k : Nat) : RmV w Z (S.set k true) (W.setCell ⟨Z, k, none⟩ (.bool true)) :=
  ⟨by rw [set_16 h.z, List.setIfInBounds_toArray, List.map_set]; rfl, h.b.setCell (p := ⟨Z, k, none⟩) h.n _, h.n⟩
theorem RmV.cell {w W : World} {Z : Nat} {S : List Bool} (h : RmV w Z S W) {k : Nat} (hk : k < S.length) : W.cell? ⟨Z, k, none⟩ = some (.bool (S.getD k false)) ∧ W.frozen? ⟨Z, k, none⟩ = false := by
  refine ⟨at_16 h.z k _ ?_, fr_16 h.z⟩
  rw [List.getElem?_toArray, List.getElem?_map, List.getD_eq_getElem?_getD, List.getElem?_eq_getElem hk]; rfl
theorem lkI_cons (qs : List Int) (p : Int) (e : Bool × Int) (t : List (Bool × Int)) : lkI qs p (e :: t) = if e.1 = true ∧ fnB qs e.2 = -1 then some p else lkI qs (p + 1) t := rfl
theorem lkA_cons (qs : List Int) (b : PB) (t : List PB) : lkA qs (b :: t) = match lkI qs (b.a + 2 + (b.m.length : Int)) b.es with | some p => some p | none => lkA qs t := rfl
set_option maxRecDepth 100000 in
set_option maxHeartbeats 16000000 in
theorem rblocks18 (w : World) (F : Int) (co : Option Addr) (cc : Nat) (lb : List Nat) (hcode : RwX cB w (.slice co lb.length cc) lb) (hlb : lb.length ≤ 4194304) (hxb : ∀ b ∈ lb, b < 256) :
    Calls Try.prog 24 #[.int .i64 F, .slice co lb.length cc] w (RbkQ w F lb) := by
  obtain ⟨j0, ji, jz0, jz1, jz2⟩ := info13 Try.infoBk18
  obtain ⟨b0, bi, bz0, bz1, bz2⟩ := info13 Try.infoBo18
  have KFm := isFamily_any F w
  have HC := hid13 hcode
  have HX : Hid (lb.length ≤ 4194304 ∧ ∀ b ∈ lb, b < 256) := ⟨hlb, hxb⟩
  have HVf : Hid (vfR F lb = if F ≠ 32 ∧ F ≠ 128 then (0, 0, 11) else if lb.length = 0 ∨ lb.length % 4 ≠ 0 then (0, 0, 22) else if dcE lb 0 = 0 ∧ (dcI lb 0).op = 4 then (if 4 < lb.length then (0, 1, 31) else (0, 0, 0)) else vfB F lb) := hid13 rfl
  have HB0 := hid13 (Below.refl w.heap.size w)
  obtain ⟨n, hn⟩ : ∃ n, n = lb.length := ⟨_, rfl⟩
  have HN : Hid (n = lb.length) := hn
  have hn6 : (n : Int) ≤ 4194304 := by omega
  rw [← hn]
  clear hcode hlb hxb hn
  go_enter Try.func24, Try.ntmps24
  go_wp2_with fail
  refine KFm.mono ?_
  rintro e w1 ⟨rfl, hw1⟩
  replace hw1 := hw1.symm
  subst hw1
  clear KFm
  by_cases hF : F ≠ 32 ∧ F ≠ 128
  · have hfm : fam F = false := by unfold fam; simp [hF.1, hF.2]
    have HE : Hid (vfR F lb = (0, 0, 11)) := hid13 (by rw [HVf.out, if_pos hF])
    rw [hfm]
    clear hF
    go_wp2
    exact bodyPost_ret (v := .tuple #[.slice none 0 0, .int .i64 0, .int .i64 0, .int .i64 11]) (by simp [results, Try.results24, go_sem]) rfl (RbkQ.no HE.out (by decide) HB0.out)
  have hF2 : F = 32 ∨ F = 128 := by omega
  have hfm : fam F = true := by unfold fam; rcases hF2 with rfl | rfl <;> rfl
  rw [hfm]
  have HFF := hid13 hF2
  by_cases hL : n = 0 ∨ n % 4 ≠ 0
  · have HE : Hid (vfR F lb = (0, 0, 22)) := hid13 (by rw [HVf.out, if_neg hF, if_pos (by rw [← HN.out]; exact hL)])
    have hL2 : ((n : Int) == 0) = true ∨ ((n : Int) == 0) = false ∧ ((n : Int).tmod 4 != 0) = true := by
      by_cases q : n = 0
      · left; simp [q]
      · right
        refine ⟨by simp; exact q, ?_⟩
        have h9 : ((n : Int).tmod 4) = ((n % 4 : Nat) : Int) := by rw [Int.tmod_eq_emod_of_nonneg (by omega)]; omega
        rw [h9]
        simp
        omega
    clear hF hF2 hL hfm
    rcases hL2 with hL2 | ⟨hL2, hL3⟩
    · go_wp2
      exact bodyPost_ret (v := .tuple #[.slice none 0 0, .int .i64 0, .int .i64 0, .int .i64 22]) (by simp [results, Try.results24, go_sem]) rfl (RbkQ.no HE.out (by decide) HB0.out)
    · have hL4 : ((n : Int) % 4 != 0) = true := by
        have h9 : ((n : Int).tmod 4) = (n : Int) % 4 := Int.tmod_eq_emod_of_nonneg (by omega)
        rw [← h9]; exact hL3
      go_wp2
      exact bodyPost_ret (v := .tuple #[.slice none 0 0, .int .i64 0, .int .i64 0, .int .i64 22]) (by simp [results, Try.results24, go_sem]) rfl (RbkQ.no HE.out (by decide) HB0.out)
  have hL0 : ((n : Int) == 0) = false := by simp; omega
  have hL4 : ((n : Int) % 4 != 0) = false := by simp; omega
  have KD := rdecode14 (.slice co n cc) lb 0 w (by rw [HN.out]; exact HC.out) (by have := HX.out; omega) HX.out.2
  unfold insV at KD
  have HVf2 : Hid (vfR F lb = if dcE lb 0 = 0 ∧ (dcI lb 0).op = 4 then (if 4 < n then (0, 1, 31) else (0, 0, 0)) else vfB F lb) := hid13 (by rw [HVf.out, if_neg hF, if_neg (by rw [← HN.out]; exact hL), HN.out])
  have HNn : Hid (0 < n / 4 ∧ n % 4 = 0) := hid13 ⟨by omega, by omega⟩
  obtain ⟨dE, hdE⟩ : ∃ y, y = dcE lb 0 := ⟨_, rfl⟩
  obtain ⟨dO, hdO⟩ : ∃ y, y = (dcI lb 0).op := ⟨_, rfl⟩
  obtain ⟨dN, hdN⟩ : ∃ y, y = (dcI lb 0).n := ⟨_, rfl⟩
  obtain ⟨dZ, hdZ⟩ : ∃ y, y = dcZ lb 0 := ⟨_, rfl⟩
  rw [← hdE, ← hdO, ← hdN, ← hdZ] at KD
  rw [← hdE, ← hdO] at HVf2
  have HDD : Hid (dE = dcE lb 0 ∧ dO = (dcI lb 0).op) := ⟨hdE, hdO⟩
  clear hF hF2 hL hfm HVf hdE hdO hdN hdZ
  go_wp2_with fail
  refine KD.mono ?_
  rintro e W1 ⟨v', rfl, ho, hb1⟩
  obtain ⟨mo, mc, hv'⟩ := own_form ho
  obtain ⟨mn, hmn⟩ : ∃ mn, mn = (dcI lb 0).m.length := ⟨_, rfl⟩
  rw [← hmn] at hv'
  subst hv'
  clear ho hmn KD
  have q2 := bl1 W1 (.cells #[.int .i64 dO, .int .i64 dN, .slice mo mn mc] 67)
  have hn1 := new_16 W1 (.cells #[.int .i64 dO, .int .i64 dN, .slice mo mn mc] 67)
  have HB2 := hid13 (keepb q2 hb1)
  obtain ⟨W2, hW2⟩ : ∃ W2, W2 = W1.alloc (.cells #[.int .i64 dO, .int .i64 dN, .slice mo mn mc] 67) := ⟨_, rfl⟩
  rw [← hW2] at HB2 hn1
  have i0 := at_16 hn1 0 _ rfl
  clear q2 hb1 hn1
  by_cases hd : dE = 0 ∧ dO = 4
  · obtain ⟨hd1, hd2⟩ := hd
    subst hd1 hd2
    by_cases h4 : (4 : Int) < (n : Int)
    · have HE : Hid (vfR F lb = (0, 1, 31)) := hid13 (by rw [HVf2.out, if_pos ⟨rfl, rfl⟩, if_pos (by omega)])
      go_wp2_with (rw [← hW2]; fail)
      exact bodyPost_ret (v := .tuple #[.slice none 0 0, .int .i64 0, .int .i64 1, .int .i64 31]) (by simp [results, Try.results24, go_sem]) rfl (RbkQ.no HE.out (by decide) (by first | exact HB2.out | (rw [← hW2]; exact HB2.out)))
    · have HE : Hid (vfR F lb = (0, 0, 0)) := hid13 (by rw [HVf2.out, if_pos ⟨rfl, rfl⟩, if_neg (by omega)])
      go_wp2_with (rw [← hW2]; fail)
      exact bodyPost_ret (v := .tuple #[.slice none 0 0, .int .i64 0, .int .i64 0, .int .i64 0]) (by simp [results, Try.results24, go_sem]) rfl ⟨_, by rw [HE.out], (by first | exact HB2.out | (rw [← hW2]; exact HB2.out)), fun _ => rfl, fun _ q => absurd ⟨HDD.out.1.symm, HDD.out.2.symm⟩ q⟩
  · have HV : Hid (vfR F lb = vfB F lb) := hid13 (by rw [HVf2.out, if_neg hd])
    have HND : Hid (¬ (dcE lb 0 = 0 ∧ (dcI lb 0).op = 4)) := hid13 (by rw [← HDD.out.1, ← HDD.out.2]; exact hd)
    have hsum : ((dE == 0) = true ∧ (dO == 4) = false) ∨ (dE == 0) = false := by
      by_cases h1 : dE = 0
      · left
        refine ⟨by simp [h1], ?_⟩
        simp
        exact fun q => hd ⟨h1, q⟩
      · right; simpa using h1
    clear hd HVf2
    obtain ⟨R, hR⟩ : ∃ R, R = bsG lb (lb.length / 4) 0 [] := ⟨_, rfl⟩
    have HR := hid13 hR
    have HVb : Hid (vfB F lb = if R.2.2 ≠ 0 then (0, R.2) else if (lkR (R.1.map PB.a) R.1).2 ≠ 0 then (0, lkR (R.1.map PB.a) R.1) else if (usR (vfP lb)).2 ≠ 0 then (0, usR (vfP lb)) else msR F (vfP lb)) := hid13 (by rw [hR]; rfl)
    have HVp : Hid (vfP lb = R.1.map (lkB (R.1.map PB.a))) := hid13 (by rw [hR]; rfl)
    have HOk : Hid (R.2.2 = 0 → PbF lb R.1 ∧ 0 < R.1.length) := hid13 (fun q => by
      rw [hR] at q ⊢
      exact bsG_ok lb (lb.length / 4) 0 [] (by omega) (by unfold wds; have := HNn.out; have := HN.out; omega) (by unfold wds; omega) ⟨by simp, fun b hb => (by simp at hb)⟩ (fun b hb => (by simp at hb)) q)
    obtain ⟨nq, hnq⟩ : ∃ nq, nq = n / 4 := ⟨_, rfl⟩
    have HW : Hid (wds lb = (nq : Int) ∧ nq ≤ 1048576 ∧ nq = lb.length / 4 ∧ 0 < nq) := hid13 ⟨by unfold wds; rw [hnq, HN.out], by omega, by rw [hnq, HN.out], by have := HNn.out; omega⟩
    have hw1 : wrap64 ((n : Int) / 4) = (nq : Int) := by unfold wrap64; omega
    have hw2 : IntKind.i64.wrap ((n : Int) / 4) = (nq : Int) := by rw [IntKind.wrap_i64]; omega
    have hw3 : wrap64 ((n : Int).tdiv 4) = (nq : Int) := by rw [Int.tdiv_eq_ediv_of_nonneg (by omega)]; exact hw1
    have hw4 : IntKind.i64.wrap ((n : Int).tdiv 4) = (nq : Int) := by rw [Int.tdiv_eq_ediv_of_nonneg (by omega)]; exact hw2
    clear hnq
    clear hR
    go_upto_region 6 with fail
    go_cut [47] from 23 (fun c wx => c = .bool false ∧ Hid (wx = W1.alloc (.cells #[.int .i64 dO, .int .i64 dN, .slice mo mn mc] 67)))
    case first =>
      rcases hsum with ⟨h1, h2⟩ | h1
      · go_wp2
        go_meet
        exact ⟨rfl, hid13 rfl⟩
      · go_wp2
        go_meet
        exact ⟨rfl, hid13 rfl⟩
    case rest =>
      obtain ⟨rfl, hwc⟩ := hcut
      replace hwc := hwc.out
      rw [← hW2] at hwc
      subst hwc
      clear hsum hW2 i0
      go_wp2_with fail
      go_loopg [11, 12] (nq) (fun gk lv av wr => ∃ (a : Nat) (K : List Kv) (D : List DB) (ao : Option Addr) (c : Nat), lv = .slice ao K.length c ∧ av = .int .i64 (a : Int) ∧ Hid (KbV wr w.heap.size (.slice ao K.length c) K D ∧ Below w.heap.size w wr ∧ (∀ d ∈ D, DbF d) ∧ D.length + gk ≤ nq ∧ a ≤ 100000000 ∧ (a < nq ∧ nq ≤ a + gk ∧ bsG lb gk (a : Int) (D.map DB.pb) = R ∨ nq ≤ a ∧ (D.map DB.pb, (0 : Int), (0 : Int)) = R)))
      case atStart => exact ⟨0, [], [], none, 0, rfl, rfl, hid13 ⟨KbV.nil, HB2.out, (fun d hd => by cases hd), by simp, by omega, .inl ⟨HW.out.2.2.2, by omega, by rw [HR.out, HW.out.2.2.1]; rfl⟩⟩⟩
      case round =>
        clear HB2
        obtain ⟨a, K, D, ao, c, rfl, rfl, HI⟩ := hrel
        by_cases hlt : a < nq
        · have hlti : (a : Int) < (nq : Int) := by omega
          have hst := HI.out.2.2.2.2.2.resolve_right (fun q => by omega)
          have KB := rblock18 (.slice co n cc) lb a wr (by rw [HN.out]; exact HC.out.below HI.out.2.1) (by have := HX.out; omega) HX.out.2 (by have := HW.out; omega)
          unfold BkQ at KB
          obtain ⟨E1, hE1⟩ : ∃ y, y = (bkE lb (a : Int)).1 := ⟨_, rfl⟩
          obtain ⟨wd, hwd⟩ : ∃ y, y = (bkE lb (a : Int)).2 := ⟨_, rfl⟩
          rw [← hE1, ← hwd] at KB
          have HG : Hid (0 < gk) := by show _ < _; omega
          have HS := hid13 hst
          have HE1 := hid13 hE1
          have HWd := hid13 hwd
          have ha5 : a ≤ 1048576 := by have := HW.out; omega
          clear hst hE1 hwd
          go_wp2_with fail
          refine KB.mono ?_
          rintro e w3 ⟨⟨bt, en, nn, o1, n1, c1, o2, n2, c2, rfl, hok⟩, hb3⟩
          have HB3 := hid13 (keepb hb3 HI.out.2.1)
          clear KB
          by_cases hz : E1 = 0
          · subst hz
            obtain ⟨e1, e2, e3, e4, es, e5, e6⟩ := hok rfl
            have hbk := bs_ok (l := lb) (f := gk - 1) (P := D.map DB.pb) HE1.out.symm
            rw [show gk - 1 + 1 = gk by have := HG.out; omega, HS.out.2.2] at hbk
            obtain ⟨d, hdd⟩ : ∃ d, d = blkD lb (a : Int) := ⟨_, rfl⟩
            have HDf := hid13 (blkD_ok HE1.out.symm)
            rw [← hdd] at hbk HDf
            have hdz := (bk_okd HE1.out.symm).2.2.1
            have hdz2 := dcZ_zero hdz
            have hml := dcI_len14 lb ((a : Int) + 1)
            have hsl := sumW_le (dcI lb ((a : Int) + 1)).m (dcI lb ((a : Int) + 1)).m.length
            obtain ⟨a', ha'⟩ : ∃ a' : Nat, (a' : Int) = (a : Int) + nn := ⟨((a : Int) + nn).toNat, by omega⟩
            have hbk2 : R = if (a' : Int) < wds lb then bsG lb (gk - 1) (a' : Int) (D.map DB.pb ++ [d.pb]) else (D.map DB.pb ++ [d.pb], 0, 0) := by
              have : (a : Int) + 1 + dcZ lb ((a : Int) + 1) + (sumW (dcI lb ((a : Int) + 1)).m (dcI lb ((a : Int) + 1)).m.length : Nat) = (a' : Int) := by omega
              rw [this] at hbk
              exact hbk
            have mA : IntKind.i64.wrap ((a : Int) + nn) = (a' : Int) := by rw [IntKind.wrap_i64]; omega
            have HKo : Hid (KbO w3 wr.heap.size ⟨(a : Int), bt, .slice o1 n1 c1, en, .slice o2 n2 c2⟩ d) := hid13 (by
              rw [hdd]
              exact ⟨rfl, e1, e2, e4, es, e5, e6⟩)
            have HRk := hid13 hbk2
            have HA' : Hid (a < a' ∧ a' ≤ 100000000) := hid13 ⟨by omega, by omega⟩
            have HB3' := hid13 hb3
            clear hok e1 e2 e3 e4 e5 e6 hbk hdd hdz hdz2 hml hsl hbk2 hb3 ha'
            go_wp2_with (at_builtin; apply stopHere9)
            refine (show wpList _ _ _ _ _ _ from ?_)
            have b1 := bl1 w3 (.cells #[.int .i64 (a : Int), .int .i64 bt, .slice o1 n1 c1, .int .i64 en, .slice o2 n2 c2] 72)
            obtain ⟨w4, hw4⟩ : ∃ w4, w4 = w3.alloc (.cells #[.int .i64 (a : Int), .int .i64 bt, .slice o1 n1 c1, .int .i64 en, .slice o2 n2 c2] 72) := ⟨_, rfl⟩
            rw [← hw4] at b1 ⊢
            have hs4 : w4.heap.size = w3.heap.size + 1 := by rw [hw4, World.size_alloc]
            have b2 := bl1 w4 (.cells #[.int .i64 (a : Int), .int .i64 bt, .slice o1 n1 c1, .int .i64 en, .slice o2 n2 c2] 72)
            have ho := own_b13 (keepb b2 (keepb b1 HB3'.out)) HI.out.1.o
            have hbs := (keepb b2 (keepb b1 HB3.out)).size
            have hKl : K.length ≤ 2000000 := by rw [HI.out.1.l]; have := HI.out.2.2.2.1; have := HW.out; omega
            refine wpList_append_lies _ rfl _ _ 62 rfl w.heap.size 72 j0 (.agg #[.int .i64 0, .int .i64 0, .slice none 0 0, .int .i64 0, .slice none 0 0]) 5 72 Try.underlying62 ji jz0 jz1 jz2 rfl (by decide) _ _ _ rfl ho ⟨w3.heap.size + 1, 0, none⟩ 1 1 [.int .i64 (a : Int), .int .i64 bt, .slice o1 n1 c1, .int .i64 en, .slice o2 n2 c2] rfl rfl (news_five18 w4 _ _ _ _ _ _ _ hs4.symm) (one_five18 _ _ _ _ _ _ _ _ _) (by decide) (by unfold maxLen; omega) (by omega) hbs _ rfl ?_
            intro g9 cap9 w9 h1 h2 h3 h4
            have HK9 := hid13 (HI.out.1.push (x := ⟨(a : Int), bt, .slice o1 n1 c1, en, .slice o2 n2 c2⟩) HI.out.2.1.size HB3'.out HKo.out (keepb b2 b1) h2 h1)
            have HB9 := hid13 ((keepb b2 (keepb b1 HB3.out)).grown h2 hbs (fun z q => (ho.lt z q).1))
            have hkl : K.length + 1 = (K ++ [(⟨(a : Int), bt, .slice o1 n1 c1, en, .slice o2 n2 c2⟩ : Kv)]).length := by rw [List.length_append]; rfl
            have HD9 : Hid ((∀ e ∈ D ++ [d], DbF e) ∧ (D ++ [d]).length + (gk - 1) ≤ nq ∧ (a' < nq ∧ nq ≤ a' + (gk - 1) ∧ bsG lb (gk - 1) (a' : Int) ((D ++ [d]).map DB.pb) = R ∨ nq ≤ a' ∧ ((D ++ [d]).map DB.pb, (0 : Int), (0 : Int)) = R)) := hid13 (by
              refine ⟨fun e he => ?_, by rw [List.length_append, List.length_singleton]; have := HI.out.2.2.2.1; have := HG.out; omega, ?_⟩
              · rcases List.mem_append.mp he with q | q
                · exact HI.out.2.2.1 e q
                · simp at q; subst q; exact HDf.out
              · have hR := HRk.out
                rw [List.map_append]
                by_cases c : (a' : Int) < wds lb
                · left
                  rw [if_pos c] at hR
                  have := HW.out
                  have := HS.out
                  have := HA'.out
                  exact ⟨by omega, by omega, hR.symm⟩
                · right
                  rw [if_neg c] at hR
                  have := HW.out
                  exact ⟨by omega, hR.symm⟩)
            rw [hkl] at HK9 ⊢
            clear h1 h2 h3 h4 ho hbs b1 b2 hw4 hs4 HI HKo HRk HS HB3 HB3' hkl
            go_wp2
            go_roundg (gk - 1)
            case measure => have := HG.out; omega
            case rel => exact ⟨a', _, _, _, _, by rw [List.length_append]; rfl, rfl, hid13 ⟨HK9.out, HB9.out, HD9.out.1, HD9.out.2.1, HA'.out.2, HD9.out.2.2⟩⟩
          · have HE : Hid (vfR F lb = (0, wd, E1)) := hid13 (by
              have h9 := bs_err (f := gk - 1) (P := D.map DB.pb) (by rw [← HE1.out]; exact hz : (bkE lb (a : Int)).1 ≠ 0)
              rw [show gk - 1 + 1 = gk by have := HG.out; omega, HS.out.2.2, ← HE1.out, ← HWd.out] at h9
              rw [HV.out, HVb.out, h9, if_pos hz])
            have hne : (E1 != 0) = true := by simpa using hz
            have HNe := hid13 hz
            clear hok hz HI HS
            go_wp2
            exact bodyPost_ret (v := .tuple #[.slice none 0 0, .int .i64 0, .int .i64 wd, .int .i64 E1]) (by simp [results, Try.results24, go_sem]) rfl (RbkQ.no HE.out HNe.out (keepb (bl1 _ _) HB3.out))
        · have hR0 := HI.out.2.2.2.2.2.resolve_left (fun q => by omega)
          have hRe : R.1 = D.map DB.pb ∧ R.2.2 = 0 := by rw [← hR0.2]; exact ⟨rfl, rfl⟩
          obtain ⟨ok1, ok2⟩ := HOk.out hRe.2
          rw [hRe.1] at ok1 ok2
          have hqs : (D.map DB.pb).map PB.a = D.map DB.a := pb_map D
          have hsrt : (D.map DB.a).Pairwise (· < ·) := by rw [← hqs]; exact ok1.s
          obtain ⟨m, hm⟩ : ∃ m, m = K.length := ⟨_, rfl⟩
          have hmD : m = D.length := by rw [hm, HI.out.1.l]
          have hm0 : 0 < m := by rw [List.length_map] at ok2; omega
          have hmb : m ≤ 1048576 := by have := HI.out.2.2.2.1; have := HW.out; omega
          have HM : Hid (m = D.length ∧ 0 < m ∧ m ≤ 1048576 ∧ m = K.length) := ⟨hmD, hm0, hmb, hm⟩
          have HMq : Hid (m ≤ nq) := hid13 (by have := HI.out.2.2.2.1; omega)
          have HKb := hid13 HI.out.1
          have HBw := hid13 HI.out.2.1
          have HDf := hid13 HI.out.2.2.1
          have HOk1 := hid13 ok1
          have HSr := hid13 hsrt
          have HVb2 : Hid (vfR F lb = if (lkR (D.map DB.a) (D.map DB.pb)).2 ≠ 0 then (0, lkR (D.map DB.a) (D.map DB.pb)) else if (usR (lkD D)).2 ≠ 0 then (0, usR (lkD D)) else msR F (lkD D)) := hid13 (by
            rw [HV.out, HVb.out, if_neg (by simp [hRe.2]), HVp.out, hRe.1, hqs]; rfl)
          have HVp2 : Hid (lkD D = vfP lb) := hid13 (by rw [HVp.out, hRe.1, hqs]; rfl)
          have hlt' : ¬ (a : Int) < (nq : Int) := by omega
          obtain ⟨Wk, hWk⟩ : ∃ Wk, Wk = wr := ⟨_, rfl⟩
          rw [← hWk] at HKb HBw ⊢
          rw [← hm] at HKb ⊢
          clear hR0 hRe ok1 ok2 hqs hsrt hm hmD HI hWk HOk HVb HVp HR hlt
          go_wp2_with (at_make; apply stopHere9)
          refine (show wpList _ _ _ _ _ _ from ?_)
          refine wpList_make16 _ rfl _ _ 55 rfl 4 b0 (.bool false) Try.underlying55 bi bz0 .i64 .i64 _ _ m m rfl rfl rfl rfl (Nat.le_refl _) (by rw [bz2]; omega) (by unfold maxLen; omega) ?_
          have eO : Obj.cells (madeCells (Value.bool false).cells (m * b0.size)) 4 = .cells ((List.replicate m false).map cBo).toArray 4 := by
            rw [bz1, Nat.mul_one, List.map_replicate]
            exact congrArg (fun z => Obj.cells z 4) (made_one16 _ _)
          rw [eO]
          have q1 := bl1 Wk (.cells ((List.replicate m false).map cBo).toArray 4)
          have HZ0 : Hid (RmV Wk Wk.heap.size (List.replicate m false) (Wk.alloc (.cells ((List.replicate m false).map cBo).toArray 4))) := hid13 ⟨new_16 _ _, q1, Nat.le_refl _⟩
          revert HZ0
          generalize Wk.alloc (.cells ((List.replicate m false).map cBo).toArray 4) = U0
          intro HZ0
          obtain ⟨Zr, hZr⟩ : ∃ Zr, Zr = Wk.heap.size := ⟨_, rfl⟩
          rw [← hZr] at HZ0 ⊢
          clear eO q1 hZr hlt'
          have KFi := hid13 (fun X (h : Below Wk.heap.size Wk X) x => kfind18 (K := K) (c := c) (ao := ao) (by rw [← HM.out.2.2.2]; exact HKb.out.below h) x HSr.out (by have := HM.out; omega))
          rw [← HM.out.2.2.2] at KFi
          obtain ⟨g, cg, hgg, -⟩ := own_some18 HKb.out.o (by rw [← HM.out.2.2.2]; exact hm0)
          rw [← HM.out.2.2.2] at hgg
          injection hgg with hg1 hg2 hg3
          subst hg1 hg3
          clear hg2
          have HG : Hid (∀ (k : Nat) (d : DB), D[k]? = some d → ∃ (eo : Option Addr) (ec : Nat) (es : List ((Int × Int) × Value)), (∀ X, Below Wk.heap.size Wk X → X.cell? ⟨g, k * 5, none⟩ = some (.int .i64 d.a) ∧ X.cell? ⟨g, k * 5 + 3, none⟩ = some (.int .i64 d.en) ∧ X.cell? ⟨g, k * 5 + 4, none⟩ = some (.slice eo es.length ec)) ∧ Wk.ownsRow w.heap.size 67 3 (.slice eo es.length ec) es.length (rowE es) ∧ es.map Prod.fst = d.es) := hid13 (fun k d hd => by
            obtain ⟨x, hx, hxa, hxt, hxe, -, es, hxo, hxs, -⟩ := HKb.out.get hd
            obtain ⟨r0, -, -, r3, r4⟩ := rowK_get K k x hx
            have hKo := HKb.out.o
            rw [← HM.out.2.2.2] at hKo
            have k0 := (own_at18 hKo r0).1
            have k3 := (own_at18 hKo r3).1
            have k4 := (own_at18 hKo r4).1
            obtain ⟨eo, ec, hve⟩ := own_form hxo
            rw [hve] at k4 hxo
            rw [hxa] at k0
            rw [hxe] at k3
            exact ⟨eo, ec, es, fun X h => ⟨keepc h k0, keepc h k3, keepc h k4⟩, hxo, hxs⟩)
          go_wp2_with fail
          go_loopg [18] m (fun gk kv wr => ∃ (k : Nat) (S : List Bool), k + gk = m ∧ kv = .int .i64 (k : Int) ∧ Hid (RmV Wk Zr S wr ∧ lkA (D.map DB.a) ((D.map DB.pb).drop k) = lkA (D.map DB.a) (D.map DB.pb) ∧ S = (((D.map DB.pb).take k).map (lkB (D.map DB.a))).foldl mkB (List.replicate m false)))
          case atStart => exact ⟨0, _, by omega, rfl, hid13 ⟨HZ0.out, rfl, rfl⟩⟩
          case round =>
            clear HZ0
            obtain ⟨k, S, hk, rfl, HI⟩ := hrel
            by_cases hlt : (k : Int) < (m : Int)
            · have hkD : k < D.length := by have := HM.out; omega
              obtain ⟨d, hd⟩ : ∃ d, D[k]? = some d := ⟨_, List.getElem?_eq_getElem hkD⟩
              obtain ⟨eo, ec, es, hcl, hxo, hxs⟩ := HG.out k d hd
              have hbd := HOk1.out.b d.pb (List.mem_map.mpr ⟨d, List.mem_of_getElem? hd, rfl⟩)
              have hdf := HDf.out d (List.mem_of_getElem? hd)
              have hPk : (D.map DB.pb)[k]? = some d.pb := by rw [List.getElem?_map, hd]; rfl
              have hPl : k < (D.map DB.pb).length := (List.getElem?_eq_some_iff.mp hPk).1
              have hdr : (D.map DB.pb).drop k = d.pb :: (D.map DB.pb).drop (k + 1) := by
                rw [List.drop_eq_getElem_cons hPl]
                rw [List.getElem?_eq_getElem hPl] at hPk
                injection hPk with hPk
                rw [hPk]
              have htk : (D.map DB.pb).take (k + 1) = (D.map DB.pb).take k ++ [d.pb] := by rw [List.take_add_one, hPk]; rfl
              have hla := HI.out.2.1
              rw [hdr, lkA_cons] at hla
              have hpl : d.pb.a + 2 + (d.pb.m.length : Int) = d.en := hdf.e.symm
              rw [hpl] at hla
              obtain ⟨mm, hmm⟩ : ∃ mm, mm = es.length := ⟨_, rfl⟩
              have hel : d.es.length = mm := by rw [← hxs, List.length_map, hmm]
              have hpel : d.pb.es.length = mm := by rw [← hel]; exact prE_len _ _
              have HLa := hid13 hla
              have HDd : Hid (es.map Prod.fst = d.es ∧ mm = es.length ∧ d.pb.es.length = mm ∧ (mm : Int) ≤ 1048576 ∧ 0 ≤ d.en ∧ d.en ≤ 10000000) := hid13 ⟨hxs, hmm, hpel, by have := hbd.2.2.2.1; have := HW.out; omega, by have := hbd; have := hdf.e; show 0 ≤ d.en; have h9 : d.pb.a = d.a := rfl; have h8 : d.pb.m = d.m := rfl; rw [h9, h8] at hbd; omega, by have := hbd; have := hdf.e; have := HW.out; have h9 : d.pb.a = d.a := rfl; have h8 : d.pb.m = d.m := rfl; rw [h9, h8] at hbd; omega⟩
              have HNn2 := hid13 hdf.n
              rw [← hmm] at hcl
              have HCl := hid13 hcl
              have HXo : Hid (Wk.ownsRow w.heap.size 67 3 (.slice eo mm ec) mm (rowE es)) := by show World.ownsRow _ _ _ _ _ _ _; rw [hmm]; exact hxo
              have HTk := hid13 htk
              have HSS := hid13 HI.out.2.2
              have HM0 := hid13 HI.out.1
              have hSl : S.length = m := by rw [HSS.out, mkA_len]; simp
              have HSl := hid13 hSl
              have mk : IntKind.i64.wrap ((k : Int) + 1) = ((k + 1 : Nat) : Int) := by rw [IntKind.wrap_i64]; omega
              obtain ⟨GK, hGK⟩ : ∃ GK, GK = gk := ⟨_, rfl⟩
              have HJ : Hid (k + GK = m ∧ GK = gk ∧ k < m) := ⟨by omega, hGK, by omega⟩
              obtain ⟨c0, c3, c4⟩ := HCl.out _ HI.out.1.b
              have hkm : (k : Int) < (m : Int) := hlt
              clear hkD hd hcl hxo hxs hbd hdf hPk hPl hdr htk hla hpl hmm hel hpel HI hSl hGK hk
              go_wp2_with fail
              clear c0 c3 c4
              go_loopg [19] mm (fun gk jv wr => ∃ (j : Nat) (S2 : List Bool), j + gk = mm ∧ jv = .int .i64 (j : Int) ∧ Hid (RmV Wk Zr S2 wr ∧ S2 = ((d.pb.es.take j).map (lkX (D.map DB.a))).foldl mkX S ∧ lkI (D.map DB.a) (d.en + (j : Int)) (d.pb.es.drop j) = lkI (D.map DB.a) d.en d.pb.es))
              case atStart => exact ⟨0, S, by omega, rfl, hid13 ⟨HM0.out, rfl, by simp⟩⟩
              case round =>
                clear HM0
                obtain ⟨j, S2, hk2, rfl, HJ2⟩ := hrel
                obtain ⟨c0, c3, c4⟩ := HCl.out _ HJ2.out.1.b
                have HSl2 : Hid (S2.length = m) := hid13 (by rw [HJ2.out.2.1, mkF_len18]; exact HSl.out)
                by_cases hlt2 : (j : Int) < (mm : Int)
                · have hjl : j < es.length := by have := HDd.out.2.1; omega
                  obtain ⟨⟨⟨eop, enn⟩, eu⟩, he⟩ : ∃ e, es[j]? = some e := ⟨_, List.getElem?_eq_getElem hjl⟩
                  have hed : d.es[j]? = some (eop, enn) := by rw [← HDd.out.1, List.getElem?_map, he]; rfl
                  have heb := HNn2.out (eop, enn) (List.mem_of_getElem? hed)
                  dsimp only at heb
                  have hpe : d.pb.es[j]? = some (prX (d.en + (j : Int)) (eop, enn)) := prE_get d.en d.es j _ hed
                  have hpl2 : j < d.pb.es.length := (List.getElem?_eq_some_iff.mp hpe).1
                  have htk2 : d.pb.es.take (j + 1) = d.pb.es.take j ++ [prX (d.en + (j : Int)) (eop, enn)] := by rw [List.take_add_one, hpe]; rfl
                  have hdr2 : d.pb.es.drop j = prX (d.en + (j : Int)) (eop, enn) :: d.pb.es.drop (j + 1) := by
                    rw [List.drop_eq_getElem_cons hpl2]
                    rw [List.getElem?_eq_getElem hpl2] at hpe
                    injection hpe with hpe
                    rw [hpe]
                  have hli := HJ2.out.2.2
                  rw [hdr2, lkI_cons] at hli
                  obtain ⟨eg, ecc, hee, -⟩ := own_some18 HXo.out (by omega)
                  injection hee with he1 he2 he3
                  subst he1
                  obtain ⟨r0, r1, -⟩ := rowE_get es j _ he
                  have k0 := keepc HJ2.out.1.b (own_at18 HXo.out r0).1
                  have k1 := keepc HJ2.out.1.b (own_at18 HXo.out r1).1
                  dsimp only at k0 k1
                  have mj : IntKind.i64.wrap ((j : Int) + 1) = ((j + 1 : Nat) : Int) := by rw [IntKind.wrap_i64]; have := HDd.out; omega
                  have mp1 : IntKind.i64.wrap (d.en + (j : Int)) = d.en + (j : Int) := by rw [IntKind.wrap_i64]; have := HDd.out; omega
                  have mp2 : IntKind.i64.wrap (d.en + (j : Int) + enn) = d.en + (j : Int) + enn := by rw [IntKind.wrap_i64]; have := HDd.out; omega
                  have HK2 : Hid (j + gk = mm ∧ j < mm) := ⟨hk2, by omega⟩
                  have hjm : (j : Int) < (mm : Int) := hlt2
                  have HS3 : Hid (((d.pb.es.take (j + 1)).map (lkX (D.map DB.a))).foldl mkX S = mkX S2 (lkX (D.map DB.a) (prX (d.en + (j : Int)) (eop, enn)))) := hid13 (by
                    rw [htk2, List.map_append, List.foldl_append, ← HJ2.out.2.1]; rfl)
                  have he9 : d.en + (j : Int) + 1 = d.en + ((j + 1 : Nat) : Int) := by push_cast; omega
                  rw [he9] at hli
                  have HLi := hid13 hli
                  have HMw := hid13 HJ2.out.1
                  clear hjl he hed heb hpe hpl2 htk2 hdr2 he2 he3 r0 r1 hk2 he9 hli HJ2
                  by_cases hop : eop = 3
                  · have hb3 : (eop != 3) = false := by simpa using hop
                    have hpx : prX (d.en + (j : Int)) (eop, enn) = (true, d.en + (j : Int) + enn) := by
                      unfold prX
                      dsimp only
                      have : (eop == 3) = true := by simpa using hop
                      rw [this]; rfl
                    rw [hpx] at HS3 HLi
                    have KF := KFi.out _ HMw.out.b (d.en + (j : Int) + enn)
                    obtain ⟨to', hto⟩ : ∃ y, y = fnB (D.map DB.a) (d.en + (j : Int) + enn) := ⟨_, rfl⟩
                    have hbd2 := fnB_bd (D.map DB.a) (d.en + (j : Int) + enn)
                    rw [← hto] at KF hbd2
                    rw [List.length_map, ← HM.out.1] at hbd2
                    have HTo := hid13 hto
                    clear hto hpx hop
                    go_wp2_with fail
                    refine KF.mono ?_
                    rintro e w3 ⟨rfl, hw3⟩
                    subst hw3
                    clear KF k0 k1 c0 c3 c4
                    rcases hbd2 with hno | ⟨h5, h6⟩
                    · have HE : Hid (vfR F lb = (0, d.en + (j : Int), 26)) := hid13 (by
                        have h9 := HLi.out
                        rw [if_pos ⟨by first | trivial | rfl, by rw [← HTo.out]; exact hno⟩] at h9
                        have h8 := HLa.out
                        rw [← h9] at h8
                        dsimp only at h8
                        have h7 : lkR (D.map DB.a) (D.map DB.pb) = (d.en + (j : Int), 26) := by unfold lkR; rw [← h8]
                        rw [HVb2.out, h7, if_pos (by simp)])
                      have hneg : to' < 0 := by omega
                      have HBf := hid13 (keepb HMw.out.b HBw.out |> fun z => z)
                      clear HS3 HLi HMw HTo hno
                      go_wp2
                      exact bodyPost_ret (v := .tuple #[.slice none 0 0, .int .i64 0, .int .i64 (d.en + (j : Int)), .int .i64 26]) (by simp [results, Try.results24, go_sem]) rfl (RbkQ.no HE.out (by decide) HBf.out)
                    · obtain ⟨tt, rfl⟩ : ∃ tt : Nat, to' = (tt : Int) := ⟨to'.toNat, by omega⟩
                      have htm : tt < m := by omega
                      have hnn : ¬ (tt : Int) < 0 := by omega
                      obtain ⟨a1, af1⟩ := HMw.out.cell (k := tt) (by rw [HSl2.out]; exact htm)
                      have HMs := hid13 (HMw.out.set tt)
                      have HS4 : Hid (S2.set tt true = ((d.pb.es.take (j + 1)).map (lkX (D.map DB.a))).foldl mkX S) := hid13 (by
                        rw [HS3.out]
                        unfold lkX mkX
                        dsimp only
                        rw [if_pos rfl, ← HTo.out, if_pos rfl, Int.toNat_natCast])
                      have HL4 : Hid (lkI (D.map DB.a) (d.en + ((j + 1 : Nat) : Int)) (d.pb.es.drop (j + 1)) = lkI (D.map DB.a) d.en d.pb.es) := hid13 (by
                        have h9 := HLi.out
                        rw [if_neg (fun q => by have h8 := q.2; rw [← HTo.out] at h8; omega)] at h9
                        exact h9)
                      clear HS3 HLi HMw HTo h5
                      go_wp2
                      go_roundg (gk - 1)
                      case measure => have := HK2.out; omega
                      case rel => exact ⟨j + 1, _, by have := HK2.out; omega, rfl, hid13 ⟨HMs.out, HS4.out, HL4.out⟩⟩
                  · have hb3 : (eop != 3) = true := by simpa using hop
                    have hpx : prX (d.en + (j : Int)) (eop, enn) = (false, enn) := by
                      unfold prX
                      dsimp only
                      have : (eop == 3) = false := by simpa using hop
                      rw [this]; rfl
                    rw [hpx] at HS3 HLi
                    have HS4 : Hid (S2 = ((d.pb.es.take (j + 1)).map (lkX (D.map DB.a))).foldl mkX S) := hid13 (by
                      rw [HS3.out]; rfl)
                    have HL4 : Hid (lkI (D.map DB.a) (d.en + ((j + 1 : Nat) : Int)) (d.pb.es.drop (j + 1)) = lkI (D.map DB.a) d.en d.pb.es) := hid13 (by
                      have h9 := HLi.out
                      rw [if_neg (fun q => by cases q.1)] at h9
                      exact h9)
                    clear hpx hop HS3 HLi
                    go_wp2
                    go_roundg (gk - 1)
                    case measure => have := HK2.out; omega
                    case rel => exact ⟨j + 1, S2, by have := HK2.out; omega, rfl, hid13 ⟨HMw.out, HS4.out, HL4.out⟩⟩
                · have hjm : j = mm := by omega
                  have HF9 : Hid (RmV Wk Zr S2 wr ∧ lkA (D.map DB.a) ((D.map DB.pb).drop (k + 1)) = lkA (D.map DB.a) (D.map DB.pb) ∧ S2 = (((D.map DB.pb).take (k + 1)).map (lkB (D.map DB.a))).foldl mkB (List.replicate m false)) := hid13 (by
                    refine ⟨HJ2.out.1, ?_, ?_⟩
                    · have h9 := HJ2.out.2.2
                      rw [List.drop_of_length_le (by rw [HDd.out.2.2.1]; omega)] at h9
                      have h8 := HLa.out
                      rw [← h9] at h8
                      exact h8
                    · rw [HTk.out, List.map_append, List.foldl_append, ← HSS.out, HJ2.out.2.1, List.take_of_length_le (by rw [HDd.out.2.2.1]; omega)]
                      rfl)
                  clear hjm HJ2 hk2
                  go_wp2
                  go_roundg (GK - 1)
                  case measure => have := HJ.out; omega
                  case rel => exact ⟨k + 1, S2, by have := HJ.out; omega, rfl, HF9⟩
            · have hkm : k = m := by omega
              have hlr : (lkR (D.map DB.a) (D.map DB.pb)).2 = 0 := by
                have h9 := HI.out.2.1
                rw [List.drop_of_length_le (by rw [List.length_map]; have := HM.out; omega)] at h9
                unfold lkR
                rw [← h9]; rfl
              have hS : S = (lkD D).foldl mkB (List.replicate (lkD D).length false) := by
                rw [HI.out.2.2, List.take_of_length_le (by rw [List.length_map]; have := HM.out; omega), lkD_len, ← HM.out.1]; rfl
              have HVb3 : Hid (vfR F lb = if (usR (lkD D)).2 ≠ 0 then (0, usR (lkD D)) else msR F (lkD D)) := hid13 (by rw [HVb2.out, if_neg (by simp [hlr])])
              have hlko := lk_ok HOk1.out (by rw [pb_map]; exact hlr)
              rw [pb_map] at hlko
              have HLk : Hid (∀ b ∈ lkD D, ∀ e ∈ b.es, e.1 = true → 0 ≤ e.2 ∧ e.2 < D.length) := hid13 (fun b hb e he h1 => by
                have h9 := (hlko b hb).2.2 e he h1
                rw [List.length_map, List.length_map] at h9
                exact h9)
              have HS := hid13 hS
              have HSl : Hid (S.length = m) := hid13 (by rw [hS, mkA_len, List.length_replicate, lkD_len, HM.out.1])
              have HM0 := hid13 HI.out.1
              clear hkm hlr hS hlko HI hk HVb2
              go_wp2_with fail
              go_loopg [22] (m - 1) (fun gk kv wr => ∃ k : Nat, k + gk = m ∧ 1 ≤ k ∧ kv = .int .i64 (k : Int) ∧ Hid (RmV Wk Zr S wr ∧ ∀ j, 1 ≤ j → j < k → S.getD j false = true))
              case atStart => exact ⟨1, by omega, Nat.le_refl _, rfl, hid13 ⟨HM0.out, fun j h1 h2 => by omega⟩⟩
              case round =>
                clear HM0
                obtain ⟨k, hk, hk1, rfl, HI⟩ := hrel
                by_cases hlt : (k : Int) < (m : Int)
                · have hkD : k < D.length := by have := HM.out; omega
                  obtain ⟨d, hd⟩ : ∃ d, D[k]? = some d := ⟨_, List.getElem?_eq_getElem hkD⟩
                  obtain ⟨eo, ec, es, hcl, -, -⟩ := HG.out k d hd
                  obtain ⟨c0, -, -⟩ := hcl _ HI.out.1.b
                  obtain ⟨a1, -⟩ := HI.out.1.cell (k := k) (by rw [HSl.out]; omega)
                  have mk : IntKind.i64.wrap ((k : Int) + 1) = ((k + 1 : Nat) : Int) := by rw [IntKind.wrap_i64]; omega
                  have HK2 : Hid (k + gk = m ∧ k < m ∧ 1 ≤ k) := ⟨hk, by omega, hk1⟩
                  cases hsk : S.getD k false with
                  | true =>
                    rw [hsk] at a1
                    have HN9 : Hid (∀ j, 1 ≤ j → j < k + 1 → S.getD j false = true) := hid13 (fun j h1 h2 => by
                      by_cases q : j = k
                      · rw [q]; exact hsk
                      · exact HI.out.2 j h1 (by omega))
                    clear hkD hd hcl hsk c0 hk
                    go_wp2
                    go_roundg (gk - 1)
                    case measure => have := HK2.out; omega
                    case rel => exact ⟨k + 1, by have := HK2.out; omega, by omega, rfl, hid13 ⟨HI.out.1, HN9.out⟩⟩
                  | false =>
                    rw [hsk] at a1
                    have HE : Hid (vfR F lb = (0, d.a, 31)) := hid13 (by
                      have hb : (lkD D)[k]? = some (lkB (D.map DB.a) d.pb) := by unfold lkD; rw [List.getElem?_map, List.getElem?_map, hd]; rfl
                      have h9 := usR_at hk1 hb (by rw [← HS.out]; exact hsk) (fun j h1 h2 => by rw [← HS.out]; exact HI.out.2 j h1 h2)
                      rw [HVb3.out, h9, if_pos (by simp)]; rfl)
                    have HBf := hid13 (keepb HI.out.1.b HBw.out)
                    generalize d.a = da at *
                    clear hkD hd hcl hsk hk HI
                    go_wp2_with fail
                    go_region
                    go_wp2
                    exact bodyPost_ret (v := .tuple #[.slice none 0 0, .int .i64 0, .int .i64 da, .int .i64 31]) (by simp [results, Try.results24, go_sem]) rfl (RbkQ.no HE.out (by decide) (by first | exact HBf.out | exact HBf.out.drew | exact HBf.out.drew.drew))
                · have hus : (usR (lkD D)).2 = 0 := by
                    rw [usR_no (fun j h1 h2 => by rw [← HS.out]; exact HI.out.2 j h1 (by rw [lkD_len] at h2; have := HM.out; omega))]
                  have HE : Hid (vfR F lb = msR F (lkD D)) := hid13 (by rw [HVb3.out, if_neg (by simp [hus])])
                  have HKz : Hid (KbV wr w.heap.size (.slice (some ⟨g, 0, none⟩) K.length c) K D) := hid13 (by rw [← HM.out.2.2.2]; exact HKb.out.below HI.out.1.b)
                  have KW := rways18 wr F w.heap.size g c K D HKz.out (by rcases HFF.out with q | q <;> omega) HSr.out (by have := HM.out; omega) (by have := HM.out; omega) (fun d hd => by
                    have h1 := HOk1.out.b d.pb (List.mem_map.mpr ⟨d, hd, rfl⟩)
                    have h2 := HDf.out d hd
                    have h3 := h2.e
                    have h4 : d.pb.a = d.a := rfl
                    have h5 : d.pb.m = d.m := rfl
                    have h6 : d.pb.t = d.t := rfl
                    have h7 : d.pb.es.length = d.es.length := prE_len _ _
                    rw [h4, h5, h6, h7] at h1
                    have := HW.out
                    exact ⟨by omega, by omega, by omega, h2.n⟩) HLk.out
                  unfold WyQ at KW
                  rw [← HE.out, ← HM.out.2.2.2] at KW
                  have HBf := hid13 (keepb HI.out.1.b HBw.out)
                  clear hus hk HI
                  go_wp2_with fail
                  refine KW.mono ?_
                  rintro e w3 ⟨v, rfl, hb3, hv1, hv2⟩
                  have HF9 : Hid (RbkQ w F lb (.returned (.tuple #[v, .int .i64 (vfR F lb).1, .int .i64 (vfR F lb).2.1, .int .i64 (vfR F lb).2.2])) w3) := hid13 (by
                    refine ⟨v, rfl, keepb hb3 HBf.out, fun q => ?_, fun q _ => ?_⟩
                    · rcases q with q | q
                      · exact hv2 q
                      · exact absurd q HND.out
                    · have hvv := hv1 q
                      subst hvv
                      refine ⟨K, D, by rw [HM.out.2.2.2]; exact HKz.out.below hb3, HVp2.out, HSr.out, by have := HM.out; have := HMq.out; have := HW.out; omega, by have := HM.out; omega, fun d hd => ⟨HDf.out d hd, ?_⟩, by simp [Value.ownBlock]⟩
                      have h1 := HOk1.out.b d.pb (List.mem_map.mpr ⟨d, hd, rfl⟩)
                      exact ⟨h1.1, h1.2.1⟩)
                  obtain ⟨vo, vn, vc, hvf⟩ : ∃ vo vn vc, v = .slice vo vn vc := by
                    by_cases q : (vfR F lb).2.2 = 0
                    · exact ⟨_, _, _, hv1 q⟩
                    · exact ⟨_, _, _, hv2 q⟩
                  subst hvf
                  generalize (vfR F lb).1 = y1 at *
                  generalize (vfR F lb).2.1 = y2 at *
                  generalize (vfR F lb).2.2 = y3 at *
                  clear hv1 hv2 KW
                  go_wp2
                  exact bodyPost_ret (v := .tuple #[.slice vo vn vc, .int .i64 y1, .int .i64 y2, .int .i64 y3]) (by simp [results, Try.results24, go_sem]) rfl HF9.out
theorem rcode18 (w : World) (F : Int) (co : Option Addr) (cc : Nat) (lb : List Nat) (hcode : RwX cB w (.slice co lb.length cc) lb) (hlb : lb.length ≤ 4194304) (hxb : ∀ b ∈ lb, b < 256) :
    Calls Try.prog 9 #[.int .i64 F, .slice co lb.length cc] w fun e w' => e = .returned (.tuple #[.int .i64 (vfR F lb).1, .int .i64 (vfR F lb).2.1, .int .i64 (vfR F lb).2.2]) ∧ Below w.heap.size w w' := by
  have KB := rblocks18 w F co cc lb hcode hlb hxb
  unfold RbkQ at KB
  generalize (vfR F lb).1 = y1 at *
  generalize (vfR F lb).2.1 = y2 at *
  generalize (vfR F lb).2.2 = y3 at *
  clear hcode hlb hxb
  go_enter Try.func9, Try.ntmps9
  go_wp2_with fail
  refine KB.mono ?_
  rintro e w1 ⟨v, rfl, hb, -, -⟩
  go_wp2
  exact bodyPost_ret (v := .tuple #[.int .i64 y1, .int .i64 y2, .int .i64 y3]) (by simp [results, Try.results9, go_sem]) rfl ⟨rfl, hb⟩
end Go.Proofs.Ytdpmhpmnkollaaa
