/-
  Part 26 of the proof: 6 texts, one behind the other.
-/
import Derived.Test.YtdpfdlkaickkiaaPart25
import Derived.Test.YtdpfdlkaickkiaaPart24
import Derived.Test.YtdpfdlkaickkiaaPart20
import Derived.Test.YtdpfdlkaickkiaaPart8
import Derived.Test.YtdpfdlkaickkiaaPart9
namespace Go.Proofs.Ytdpfdlkaickkiaa
set_option linter.unusedSimpArgs false
set_option linter.unusedVariables false

theorem rep_getB12 (n k : Nat) : (List.replicate n false).getD k false = false := by
  rw [List.getD_eq_getElem?_getD, List.getElem?_replicate]
  split <;> rfl
structure ShOk (L : List Nde) : Prop where
  z : (clsL L).1.getD 0 0 = 0
  f : FwdOk (clsL L).2
  n : (clsL L).2.length = L.length
  w : ∀ d ∈ (clsL L).2, d.r.length ≤ 1000000
  o : ∀ x ∈ ordL (clsL L).2, 0 ≤ x ∧ x < (L.length : Int)
  e : ioS (joinL L).1 = nbL (clsL L).2 (plcG (ordL (clsL L).2) 0 (List.replicate L.length 0)) (ordL (clsL L).2)
theorem share_ok {L : List Nde} (ok : NdsOk L) (hu : usedB L = true) (hr : ∀ d ∈ L, d.r.length ≤ 1000000) : ShOk L := by
  have hk : ∀ (i : Nat) (d : Nde), L[i]? = some d → ∀ r ∈ d.r, r.k = true → (i : Int) < r.n ∧ r.n < (L.length : Int) := fun i d hi r hr hkr => (ok.2 i d hi).kid r hr hkr
  obtain ⟨RP, R⟩ := rel_join L hk
  obtain ⟨JO, hlast, hle, hnd, hall⟩ := join_ok ok hu
  have CF := clf_cls L hk
  have hadj : ∀ d ∈ (joinL L).1, AdjR d.r := adj_join L _ ([], List.replicate L.length 0) (fun d hd => by cases hd)
  generalize hJ : joinL L = S at *
  obtain ⟨NL, OF⟩ := S
  generalize hC : clsL L = T at *
  obtain ⟨C, ND⟩ := T
  dsimp only at R JO hlast hle hnd hall CF hadj ⊢
  have hpos := JO.pos
  have hL0 := ok.1
  -- the first one stands for itself
  have hz : C.getD 0 0 = 0 ∧ RP.getD (NL.length - 1) 0 = 0 := by
    obtain ⟨j, p, a1, a2, a3⟩ := R.cls 0 (Nat.zero_le _) hL0
    have hj := (List.getElem?_eq_some_iff.mp a2).1
    obtain ⟨dj, hdj⟩ : ∃ dj, NL[j]? = some dj := ⟨_, List.getElem?_eq_getElem (by rw [← R.len]; exact hj)⟩
    obtain ⟨_, b2, b3, _⟩ := R.rep j p dj a2 hdj
    obtain ⟨j2, p2, c1, c2, c3⟩ := R.cls p (Nat.zero_le _) b2
    have hp2 : p2 = p := by rw [b3] at c3; exact_mod_cast c3.symm
    subst hp2
    have hj2 : j2 = j := nodup_at12 R.pd c2 a2
    subst hj2
    have hp0 : p2 = 0 := by
      rcases hle p2 b2 with h | h
      · exact h
      · rw [c1, a1] at h; omega
    subst hp0
    have hjl : j2 = NL.length - 1 := by rw [a1] at hlast; exact_mod_cast hlast
    refine ⟨a3, ?_⟩
    rw [← hjl, List.getD_eq_getElem?_getD, a2]; rfl
  have hrep : ∀ (n : Nat) (d : Nde), NL[n]? = some d → RP.getD n 0 < L.length ∧ ND.getD (RP.getD n 0) ⟨0, []⟩ = renD RP d := fun n d hd => by
    have hn := (List.getElem?_eq_some_iff.mp hd).1
    obtain ⟨p, hp⟩ : ∃ p, RP[n]? = some p := ⟨_, List.getElem?_eq_getElem (by rw [R.len]; exact hn)⟩
    obtain ⟨_, b2, _, b4⟩ := R.rep n p d hp hd
    have e : RP.getD n 0 = p := by rw [List.getD_eq_getElem?_getD, hp]; rfl
    rw [e]
    exact ⟨b2, b4⟩
  have hfwd : FwdOk ND := ⟨by rw [R.nl]; exact hL0, fun n d hd r hr hkr => by
    have hn := (List.getElem?_eq_some_iff.mp hd).1
    rw [R.nl] at hn ⊢
    exact CF.f n (Nat.zero_le _) hn r (by rw [List.getD_eq_getElem?_getD, hd]; exact hr) hkr⟩
  have hN : ∀ k, k < NL.length → RP.getD k 0 < ND.length := fun k hk9 => by
    rw [R.nl]
    exact (hrep k _ (List.getElem?_eq_getElem hk9)).1
  have hD : ∀ (n : Nat) (d : Nde), NL[n]? = some d → ND[RP.getD n 0]? = some (renD RP d) := fun n d hd => by
    obtain ⟨h1, h2⟩ := hrep n d hd
    have h3 : RP.getD n 0 < ND.length := by rw [R.nl]; exact h1
    rw [List.getD_eq_getElem?_getD (l := ND), List.getElem?_eq_getElem h3] at h2
    rw [List.getElem?_eq_getElem h3]
    exact congrArg some h2
  have hT := dfs_renS JO.rev hfwd R.len R.pd hN hD NL.length ND.length (NL.length - 1) (List.replicate NL.length false, []) (List.replicate ND.length false, []) (by omega) (by omega) (by omega) ⟨⟨by simp, by simp⟩, fun k hk9 => by
    dsimp only
    rw [rep_getB12, rep_getB12], rfl⟩
  rw [hz.2] at hT
  have hord : ordL ND = (ordS NL).map fun x => ((RP.getD x.toNat 0 : Nat) : Int) := by
    unfold ordL ordS
    rw [hT.r, List.map_reverse]
  have hrng : ∀ x ∈ ordL ND, 0 ≤ x ∧ x < (L.length : Int) := fun x hx => by
    rw [hord] at hx
    obtain ⟨y, hy, rfl⟩ := List.mem_map.mp hx
    have h1 := JO.rng y hy
    have h2 := hN y.toNat (by omega)
    rw [R.nl] at h2
    omega
  have hndD : (ordL ND).Nodup := by
    rw [hord, List.nodup_iff_pairwise_ne, List.pairwise_map]
    refine List.Pairwise.imp_of_mem ?_ (List.nodup_iff_pairwise_ne.mp hnd)
    intro a b ha hb hab e
    have h1 := JO.rng a ha
    have h2 := JO.rng b hb
    have h3 := nodup_getD R.pd (a := a.toNat) (b := b.toNat) (by rw [R.len]; omega) (by rw [R.len]; omega) (by exact_mod_cast e)
    exact hab (by omega)
  have hw : ∀ d ∈ ND, d.r.length ≤ 1000000 := fun d hd => by
    obtain ⟨k, hk9⟩ := List.getElem?_of_mem hd
    have hkl := (List.getElem?_eq_some_iff.mp hk9).1
    rw [R.nl] at hkl
    have h1 := CF.w k (Nat.zero_le _) hkl
    rw [List.getD_eq_getElem?_getD, hk9] at h1
    have h2 : (L.getD k ⟨0, []⟩).r.length ≤ 1000000 := by
      rw [List.getD_eq_getElem?_getD, List.getElem?_eq_getElem hkl]
      exact hr _ (List.getElem_mem hkl)
    exact Nat.le_trans h1 h2
  refine ⟨by rw [hC]; exact hz.1, by rw [hC]; exact hfwd, by rw [hC]; exact R.nl, by rw [hC]; exact hw, by rw [hC]; exact hrng, ?_⟩
  · rw [hC, hJ]
    show ioS NL = nbL ND (plcG (ordL ND) 0 (List.replicate L.length 0)) (ordL ND)
    unfold ioS nbL
    rw [hord, List.map_map]
    refine List.map_congr_left fun x hx => ?_
    have hx1 := JO.rng x hx
    obtain ⟨d, hd⟩ : ∃ d, NL[x.toNat]? = some d := ⟨_, List.getElem?_eq_getElem (by omega)⟩
    have hgd : NL.getD x.toNat ⟨0, []⟩ = d := by rw [List.getD_eq_getElem?_getD, hd]; rfl
    have hplJ : ∀ (n : Int), 0 ≤ n → n < (NL.length : Int) → ∃ i : Nat, (ordS NL)[i]? = some n ∧ (plS NL).getD n.toNat 0 = (i : Int) := fun n h1 h2 => by
      have h3 := hall n.toNat (by omega)
      rw [Int.toNat_of_nonneg h1] at h3
      obtain ⟨i, hi⟩ := List.getElem?_of_mem h3
      refine ⟨i, hi, ?_⟩
      unfold plS
      rw [plc_at12 _ 0 _ i n hnd (fun y hy => by have := JO.rng y hy; rw [List.length_replicate]; omega) hi, Nat.zero_add]
    have hnb := nb_id (plS NL) d.r [] (hadj d (List.mem_of_getElem? hd)) (fun r hr9 s hs9 hrk hsk e => by
      have h1 := JO.rev _ d hd r hr9 hrk
      have h2 := JO.rev _ d hd s hs9 hsk
      obtain ⟨i, i1, i2⟩ := hplJ r.n h1.1 (by omega)
      obtain ⟨j, j1, j2⟩ := hplJ s.n h2.1 (by omega)
      rw [i2, j2] at e
      have e9 : i = j := by exact_mod_cast e
      subst e9
      rw [i1] at j1
      exact Option.some.inj j1)
    show nmD (plS NL) (NL.getD x.toNat ⟨0, []⟩) = (⟨(ND.getD (((RP.getD x.toNat 0 : Nat) : Int)).toNat ⟨0, []⟩).b, (ND.getD (((RP.getD x.toNat 0 : Nat) : Int)).toNat ⟨0, []⟩).r.map _⟩ : Nde)
    rw [Int.toNat_natCast, (hrep _ d hd).2, hgd]
    unfold nmD renD
    dsimp only
    have hnb' : nbG (fun _ r => (plS NL).getD r.n.toNat 0) [] [] d.r = d.r.map (rnP (plS NL)) := hnb
    rw [hnb', List.map_map]
    congr 1
    refine List.map_congr_left fun r hr9 => ?_
    show rnP (plS NL) r = rnP _ (renR RP r)
    unfold rnP renR
    by_cases hrk : r.k = true
    · have h1 := JO.rev _ d hd r hr9 hrk
      obtain ⟨i, i1, i2⟩ := hplJ r.n h1.1 (by omega)
      rw [if_pos hrk, if_pos hrk, if_pos rfl, i2]
      dsimp only
      have h3 : (ordL ND)[i]? = some ((RP.getD r.n.toNat 0 : Nat) : Int) := by rw [hord, List.getElem?_map, i1]; rfl
      have h4 := plc_at12 (ordL ND) 0 (List.replicate L.length 0) i _ hndD (fun y hy => by have := hrng y hy; rw [List.length_replicate]; omega) h3
      rw [Nat.zero_add] at h4
      rw [← hord, h4, hrk]
    · rw [if_neg hrk, if_neg hrk, if_neg hrk]
end Go.Proofs.Ytdpfdlkaickkiaa
namespace Go.Proofs.Ytdpfdlkaickkiaa
open Go.RowKit Go.Shelf
set_option linter.unusedSimpArgs false
set_option linter.unusedVariables false
attribute [local go_sem] Oper.semAt_some

end Go.Proofs.Ytdpfdlkaickkiaa
namespace Go.Proofs.Ytdpfdlkaickkiaa
open Go.RowKit Go.Shelf
set_option linter.unusedSimpArgs false
set_option linter.unusedVariables false
attribute [local go_sem] Oper.semAt_some

set_option maxRecDepth 20000 in
set_option maxHeartbeats 8000000 in
theorem rshare12 (F : Int) (v : Value) (L : List Nde) (w : World) (hv : RwD w v L) (hl : L.length ≤ 1000000) (hr : ∀ d ∈ L, d.r.length ≤ 1000000) :
    Calls Try.prog 13 #[.int .i64 F, v] w fun e w' => ∃ v' V, e = .returned (.tuple #[v', .int .i64 (chkM F L).2]) ∧ NdO w' w.heap.size v' V (shR F L) ∧ Below w.heap.size w w' := by
  have KC := rcheck_any F v L w hv hl hr
  have HV := hid13 hv
  obtain ⟨ao, c, hvf, -⟩ := id hv
  subst hvf
  have HOk := fun h => chk_ok (F := F) (L := L) h
  have HOk := hid13 HOk
  have HL : Hid (L.length ≤ 1000000 ∧ ∀ d ∈ L, d.r.length ≤ 1000000) := ⟨hl, hr⟩
  have HR : Hid (((chkM F L).2 = 0 → shR F L = ioS (joinL L).1) ∧ ((chkM F L).2 ≠ 0 → shR F L = [])) := ⟨fun h => by unfold shR; rw [if_pos h], fun h => by unfold shR; rw [if_neg h]⟩
  obtain ⟨S, hS⟩ : ∃ S, S = shR F L := ⟨_, rfl⟩
  obtain ⟨D, hD⟩ : ∃ D, D = (chkM F L).1 := ⟨_, rfl⟩
  obtain ⟨E, hE⟩ : ∃ E, E = (chkM F L).2 := ⟨_, rfl⟩
  rw [← hS] at HR ⊢
  rw [← hD, ← hE] at KC
  rw [← hE] at HR HOk ⊢
  clear hv hl hr hS hD hE
  go_enter Try.func13, Try.ntmps13
  go_wp2_with fail
  refine KC.mono ?_
  rintro e w1 ⟨rfl, hb1⟩
  have HB1 := hid13 hb1
  clear KC hb1
  by_cases hE : E = 0
  · have hok := (HOk.out hE).1
    have SH := share_ok hok (HOk.out hE).2.1 HL.out.2
    have hpos := hok.1
    have KJ := rclasses12 (.slice ao L.length c) L w1 (HV.out.below HB1.out) hok.1 HL.out.1 HL.out.2 (fun d hd r hr hk => by
      obtain ⟨i, hi⟩ := List.getElem?_of_mem hd
      have := (hok.2 i d hi).kid r hr hk
      omega)
    have hSE : S = nbL (clsL L).2 (plcG (ordL (clsL L).2) 0 (List.replicate L.length 0)) (ordL (clsL L).2) := by rw [HR.out.1 hE, SH.e]
    have HSE := hid13 hSE
    have HSH : Hid ((clsL L).1.getD 0 0 = 0 ∧ FwdOk (clsL L).2 ∧ (clsL L).2.length = L.length ∧ (∀ d ∈ (clsL L).2, d.r.length ≤ 1000000) ∧ (∀ x ∈ ordL (clsL L).2, 0 ≤ x ∧ x < (L.length : Int))) := ⟨SH.z, SH.f, SH.n, SH.w, SH.o⟩
    have hp2 : (0 : Int) < (L.length : Int) := by omega
    generalize clsL L = J at *
    clear hok SH hSE
    go_wp2_with fail
    refine KJ.mono ?_
    rintro e w2 ⟨V, rfl, hC⟩
    have g0 := hC.cell hpos
    rw [HSH.out.1] at g0
    have HC := hid13 hC
    have HB2 := hid13 (HB1.out.trans (hC.b.mono HB1.out.size))
    have KO := rorder12F_any (.slice (some ⟨w1.heap.size + 1, 0, none⟩) L.length L.length) J.2 w2 hC.n.rwd HSH.out.2.1 (by rw [HSH.out.2.2.1]; exact HL.out.1) HSH.out.2.2.2.1
    clear KJ hC
    go_wp2_with fail
    refine KO.mono ?_
    rintro e w3 ⟨v3, rfl, ho3, hb3⟩
    obtain ⟨o3, c3, hv3⟩ := own_form ho3
    obtain ⟨ln, hln⟩ : ∃ n, n = (ordL J.2).length := ⟨_, rfl⟩
    rw [← hln] at hv3
    subst hv3
    have hol : (ordL J.2).length ≤ 1000000 := Nat.le_trans (ord_lenF HSH.out.2.1) (by rw [HSH.out.2.2.1]; exact HL.out.1)
    have HB3 := hid13 (HB2.out.trans (hb3.mono HB2.out.size))
    have KN := rnumbered12 (.slice (some ⟨w1.heap.size + 1, 0, none⟩) L.length L.length) (.slice o3 ln c3) J.2 (ordL J.2) w3 (HC.out.n.rwd.below hb3) (own_rwx ho3) (by rw [HSH.out.2.2.1]; exact hpos) (by rw [HSH.out.2.2.1]; exact HL.out.1) hol HSH.out.2.2.2.1 (fun x hx => by rw [HSH.out.2.2.1]; exact HSH.out.2.2.2.2 x hx) (fun x hx r hr hk => by
      have hx1 := HSH.out.2.2.2.2 x hx
      have hx2 : x.toNat < J.2.length := by rw [HSH.out.2.2.1]; omega
      rw [List.getD_eq_getElem?_getD, List.getElem?_eq_getElem hx2] at hr
      have := HSH.out.2.1.2 _ _ (List.getElem?_eq_getElem hx2) r hr hk
      omega)
    rw [HSH.out.2.2.1, ← HSE.out] at KN
    clear KO ho3 hb3 hln hol g0
    go_wp2_with fail
    refine KN.mono ?_
    rintro e w4 ⟨v4, V4, rfl, hN4, hb4⟩
    have HF : Hid (NdO w4 w.heap.size v4 V4 S ∧ Below w.heap.size w w4) := hid13 ⟨hN4.base HB3.out.size, HB3.out.trans (hb4.mono HB3.out.size)⟩
    obtain ⟨a4, c4, hv4⟩ := own_form hN4.o
    subst hv4
    clear KN hN4 hb4
    go_wp2
    exact bodyPost_ret (v := .tuple #[.slice a4 S.length c4, .int .i64 0]) (by simp [results, Try.results13, go_sem, hE]) rfl ⟨_, _, by rw [hE], HF.out.1, HF.out.2⟩
  · have hS := HR.out.2 hE
    have HF : Hid (NdO w1 w.heap.size (.slice none 0 0) [] S) := hid13 (by rw [hS]; exact NdO.nil (World.ownsRow_nil _ _ _ _))
    clear hS
    go_wp2
    exact bodyPost_ret (v := .tuple #[.slice none 0 0, .int .i64 E]) (by simp [results, Try.results13, go_sem, hE]) rfl ⟨_, _, rfl, HF.out, HB1.out⟩
end Go.Proofs.Ytdpfdlkaickkiaa
namespace Go.Proofs.Ytdpfdlkaickkiaa
open Go.RowKit Go.Shelf
set_option linter.unusedSimpArgs false
set_option linter.unusedVariables false
attribute [local go_sem] Oper.semAt_some

def kdS : List Rn := [⟨0#128, false, 5⟩, ⟨1#128, false, 6⟩]
def knS : List Nde := [⟨1, [⟨0#128, true, 1⟩, ⟨1#128, true, 2⟩]⟩, ⟨1, kdS⟩, ⟨1, kdS⟩]
instance : DecidableEq Rn := fun a b => decidable_of_iff (eqRn a b = true) (eqRn_iff a b)
instance : DecidableEq Nde := fun a b => decidable_of_iff (sqD a b = true) (sqD_iff a b)
theorem knS_E : (chkM 32 knS).2 = 0 := by decide +kernel
theorem knS_J : (joinL knS).1 = [⟨1, kdS⟩, ⟨1, [⟨0#128, true, 0⟩]⟩] := by decide +kernel
theorem knS_O : ordS (joinL knS).1 = [1, 0] := by decide +kernel
theorem knS_R : shR 32 knS = [⟨1, [⟨0#128, true, 1⟩]⟩, ⟨1, kdS⟩] := by decide +kernel
theorem knS_ok : JOk (joinL knS).1 := by
  refine ⟨?_, by rw [knS_J]; decide, by rw [knS_O, knS_J]; rfl, ?_, ?_⟩
  · rw [knS_J]
    intro n d hd r hr hk
    match n, hd with
    | 0, hd => simp at hd; subst hd; simp [kdS] at hr; rcases hr with rfl | rfl <;> simp at hk
    | 1, hd => simp at hd; subst hd; simp at hr; subst hr; simp
    | n + 2, hd => simp at hd
  · rw [knS_O, knS_J]
    intro x hx
    simp at hx
    rcases hx with rfl | rfl <;> simp
  · rw [knS_J]
    intro d hd
    simp at hd
    rcases hd with rfl | rfl <;> simp
theorem rwn_two12 (w : World) (B : Nat) (r s : Rn) (T : TypeId) (h : w.heap[B]? = some (.cells #[.int .u64 (hI r.f), .int .u64 (lI r.f), .bool r.k, .int .i64 r.n, .int .u64 (hI s.f), .int .u64 (lI s.f), .bool s.k, .int .i64 s.n] T)) : RwN w (.slice (some ⟨B, 0, none⟩) 2 2) [r, s] := by
  refine ⟨_, 2, rfl, Nat.le_refl _, .inr ⟨B, 0, rfl, fun j x hj => ?_⟩⟩
  match j, hj with
  | 0, hj =>
    simp at hj
    subst hj
    exact ⟨at_16 h 0 _ rfl, at_16 h 1 _ rfl, at_16 h 2 _ rfl, at_16 h 3 _ rfl⟩
  | 1, hj =>
    simp at hj
    subst hj
    exact ⟨at_16 h 4 _ rfl, at_16 h 5 _ rfl, at_16 h 6 _ rfl, at_16 h 7 _ rfl⟩
  | j + 2, hj => simp at hj
set_option maxRecDepth 20000 in
set_option maxHeartbeats 8000000 in
theorem known12 (w : World) :
    Calls Try.prog 9 #[] w fun e w' => e = .returned (.bool true) ∧ Below w.heap.size w w' := by
  have hI1 : hI 1#128 = 0 := by decide +kernel
  have lI1 : lI 1#128 = 1 := by decide +kernel
  obtain ⟨W, hW⟩ : ∃ W, W = ((w.alloc (.cells #[.int .u64 0, .int .u64 0, .bool false, .int .i64 5, .int .u64 0, .int .u64 1, .bool false, .int .i64 6] 54)).alloc (.cells #[.int .u64 0, .int .u64 0, .bool true, .int .i64 1, .int .u64 0, .int .u64 1, .bool true, .int .i64 2] 54)).alloc (.cells #[.int .i64 1, .slice (some ⟨w.heap.size + 1, 0, none⟩) 2 2, .int .i64 1, .slice (some ⟨w.heap.size, 0, none⟩) 2 2, .int .i64 1, .slice (some ⟨w.heap.size, 0, none⟩) 2 2] 57) := ⟨_, rfl⟩
  have n1 := new_16 w (.cells #[.int .u64 0, .int .u64 0, .bool false, .int .i64 5, .int .u64 0, .int .u64 1, .bool false, .int .i64 6] 54)
  have n2 := new_16 (w.alloc (.cells #[.int .u64 0, .int .u64 0, .bool false, .int .i64 5, .int .u64 0, .int .u64 1, .bool false, .int .i64 6] 54)) (.cells #[.int .u64 0, .int .u64 0, .bool true, .int .i64 1, .int .u64 0, .int .u64 1, .bool true, .int .i64 2] 54)
  have n3 := new_16 ((w.alloc (.cells #[.int .u64 0, .int .u64 0, .bool false, .int .i64 5, .int .u64 0, .int .u64 1, .bool false, .int .i64 6] 54)).alloc (.cells #[.int .u64 0, .int .u64 0, .bool true, .int .i64 1, .int .u64 0, .int .u64 1, .bool true, .int .i64 2] 54)) (.cells #[.int .i64 1, .slice (some ⟨w.heap.size + 1, 0, none⟩) 2 2, .int .i64 1, .slice (some ⟨w.heap.size, 0, none⟩) 2 2, .int .i64 1, .slice (some ⟨w.heap.size, 0, none⟩) 2 2] 57)
  simp only [World.size_alloc] at n2 n3
  have m1 := old_16 (.cells #[.int .i64 1, .slice (some ⟨w.heap.size + 1, 0, none⟩) 2 2, .int .i64 1, .slice (some ⟨w.heap.size, 0, none⟩) 2 2, .int .i64 1, .slice (some ⟨w.heap.size, 0, none⟩) 2 2] 57) (old_16 (.cells #[.int .u64 0, .int .u64 0, .bool true, .int .i64 1, .int .u64 0, .int .u64 1, .bool true, .int .i64 2] 54) n1)
  have m2 := old_16 (.cells #[.int .i64 1, .slice (some ⟨w.heap.size + 1, 0, none⟩) 2 2, .int .i64 1, .slice (some ⟨w.heap.size, 0, none⟩) 2 2, .int .i64 1, .slice (some ⟨w.heap.size, 0, none⟩) 2 2] 57) n2
  have hbW : Below w.heap.size w W := by rw [hW]; exact ((((Below.refl _ _).alloc (Nat.le_refl _) _).alloc (by simp) _).alloc (by simp; omega) _)
  rw [← hW] at n3 m1 m2
  have hk : RwN W (.slice (some ⟨w.heap.size, 0, none⟩) 2 2) kdS := rwn_two12 W _ ⟨0#128, false, 5⟩ ⟨1#128, false, 6⟩ 54 (by rw [hI_zero, lI_zero, hI1, lI1]; exact m1)
  have hr : RwN W (.slice (some ⟨w.heap.size + 1, 0, none⟩) 2 2) [⟨0#128, true, 1⟩, ⟨1#128, true, 2⟩] := rwn_two12 W _ ⟨0#128, true, 1⟩ ⟨1#128, true, 2⟩ 54 (by rw [hI_zero, lI_zero, hI1, lI1]; exact m2)
  have hv : RwD W (.slice (some ⟨w.heap.size + 1 + 1, 0, none⟩) 3 3) knS := by
    refine ⟨_, 3, rfl, Nat.le_refl _, .inr ⟨w.heap.size + 1 + 1, 0, rfl, fun j d hj => ?_⟩⟩
    match j, hj with
    | 0, hj => simp [knS] at hj; subst hj; exact ⟨_, at_16 n3 0 _ rfl, at_16 n3 1 _ rfl, hr⟩
    | 1, hj => simp [knS] at hj; subst hj; exact ⟨_, at_16 n3 2 _ rfl, at_16 n3 3 _ rfl, hk⟩
    | 2, hj => simp [knS] at hj; subst hj; exact ⟨_, at_16 n3 4 _ rfl, at_16 n3 5 _ rfl, hk⟩
    | j + 3, hj => simp [knS] at hj
  have KS := share12_any 32 _ knS W hv (by decide) (by decide) (fun _ => knS_ok)
  rw [knS_E, knS_R] at KS
  have HB := hid13 hbW
  clear n1 n2 n3 m1 m2 hbW hk hr hv hI1 lI1
  go_enter Try.func9, Try.ntmps9
  go_wp2_with fail
  rw [← hW]
  refine KS.mono ?_
  rintro e w3 ⟨v3, V3, rfl, hN, hb3⟩
  have HB3 := hid13 (HB.out.trans (hb3.mono HB.out.size))
  obtain ⟨ao, c, hv3, hc, hrow⟩ := hN.rwd
  subst hv3
  obtain ⟨b, off, hao, hcell⟩ := hrow.resolve_left (by simp)
  subst hao
  obtain ⟨u0, -, y0, ⟨a0, c0, hu0, -⟩⟩ := hcell 0 _ rfl
  obtain ⟨u1, -, y1, ⟨a1, c1, hu1, -⟩⟩ := hcell 1 _ rfl
  subst hu0 hu1
  simp [kdS] at y0 y1
  clear KS hW hN hb3 hcell hrow hc
  go_wp2
  exact bodyPost_ret (v := .bool true) (by simp [results, Try.results9, go_sem]) rfl ⟨rfl, HB3.out⟩
end Go.Proofs.Ytdpfdlkaickkiaa
namespace Go.Proofs.Ytdpfdlkaickkiaa
open Go.RowKit
set_option linter.unusedSimpArgs false
set_option linter.unusedVariables false
attribute [local go_sem] Oper.semAt_some

set_option maxRecDepth 100000 in
set_option maxHeartbeats 8000000 in
theorem same_any16 (v1 v2 : Value) (L : List Nde) (w : World) (h1 : RwD w v1 L) (h2 : RwD w v2 L) (hl : L.length ≤ 1000000) (hr : ∀ d ∈ L, d.r.length ≤ 1000000) :
    Calls Try.prog 14 #[v1, v2] w fun e w' => e = .returned (.bool true) ∧ Below w.heap.size w w' := by
  obtain ⟨ao, c, rfl, -, hrow⟩ := h1
  obtain ⟨ao2, c2, rfl, -, hrow2⟩ := h2
  have HC := hid13 hrow
  have HC2 := hid13 hrow2
  have HL := hid13 hr
  have HB := hid13 (Below.refl w.heap.size w)
  clear hrow hrow2 hr
  go_enter Try.func14, Try.ntmps14
  go_wp2_with fail
  go_loopg [5] L.length (fun g iv wr => ∃ k : Nat, k + g = L.length ∧ iv = .int .i64 (k : Int) ∧ Hid (Below w.heap.size w wr))
  case atStart => exact ⟨0, by omega, rfl, HB⟩
  case round =>
    clear HB
    obtain ⟨k, hk, rfl, HB⟩ := hrel
    by_cases hlt : (k : Int) < (L.length : Int)
    · have hks : k < L.length := by omega
      obtain ⟨b, off, rfl, hcell⟩ := HC.out.resolve_left (by rintro rfl; simp at hks)
      obtain ⟨b2, off2, rfl, hcell2⟩ := HC2.out.resolve_left (by rintro rfl; simp at hks)
      obtain ⟨⟨db, dr⟩, hd⟩ : ∃ d, L[k]? = some d := ⟨_, List.getElem?_eq_getElem hks⟩
      obtain ⟨vr, x0, x1, hR⟩ := hcell k _ hd
      obtain ⟨vr2, y0, y1, hR2⟩ := hcell2 k _ hd
      have hdr := HL.out _ (List.mem_of_getElem? hd)
      dsimp only at x0 y0 hR hR2 hdr
      obtain ⟨va, vc, rfl, -, hrr⟩ := hR
      obtain ⟨va2, vc2, rfl, -, hrr2⟩ := hR2
      have HR := hid13 hrr
      have HR2 := hid13 hrr2
      have HX1 := hid13 x1
      have HY1 := hid13 y1
      have x0 := keepc HB.out x0
      have y0 := keepc HB.out y0
      have x1 := keepc HB.out x1
      have y1 := keepc HB.out y1
      have HB2 := hid13 HB.out.drew
      obtain ⟨G, hG⟩ : ∃ G, G = gk := ⟨_, rfl⟩
      have HJ : Hid (k + G = L.length ∧ k < L.length ∧ G = gk) := ⟨by omega, by omega, hG⟩
      have mk : IntKind.i64.wrap ((k : Int) + 1) = (k : Int) + 1 := by rw [IntKind.wrap_i64]; omega
      clear hcell hcell2 hd hrr hrr2 hG hk
      go_wp2_with fail
      go_region
      go_wp2_with fail
      go_loopg [6] dr.length (fun g jv wr2 => ∃ j : Nat, j + g = dr.length ∧ jv = .int .i64 (j : Int) ∧ Hid (Below w.heap.size w wr2))
      case atStart => exact ⟨0, by omega, rfl, HB2⟩
      case round =>
        clear HB2 x0 y0 x1 y1
        obtain ⟨j, hj, rfl, HB3⟩ := hrel
        have x1 := keepc HB3.out HX1.out
        have y1 := keepc HB3.out HY1.out
        by_cases hlt3 : (j : Int) < (dr.length : Int)
        · have hjs : j < dr.length := by omega
          obtain ⟨rb, rof, rfl, hrc⟩ := HR.out.resolve_left (by rintro rfl; simp at hjs)
          obtain ⟨rb2, rof2, rfl, hrc2⟩ := HR2.out.resolve_left (by rintro rfl; simp at hjs)
          obtain ⟨r, hr⟩ : ∃ r, dr[j]? = some r := ⟨_, List.getElem?_eq_getElem hjs⟩
          obtain ⟨r0, r1, r2, r3⟩ := hrc j r hr
          obtain ⟨s0, s1, s2, s3⟩ := hrc2 j r hr
          have r0 := keepc HB3.out r0
          have r1 := keepc HB3.out r1
          have r2 := keepc HB3.out r2
          have r3 := keepc HB3.out r3
          have s0 := keepc HB3.out s0
          have s1 := keepc HB3.out s1
          have s2 := keepc HB3.out s2
          have s3 := keepc HB3.out s3
          have HB4 := hid13 HB3.out.drew
          have mj : IntKind.i64.wrap ((j : Int) + 1) = (j : Int) + 1 := by rw [IntKind.wrap_i64]; omega
          have HK : Hid (j + gk = dr.length ∧ j < dr.length) := ⟨hj, hjs⟩
          clear hrc hrc2 hr hj
          go_wp2_with fail
          go_region
          go_wp2
          go_roundg (gk - 1)
          case measure => have := HK.out; omega
          case rel => exact ⟨j + 1, by have := HK.out; omega, rfl, HB4⟩
        · clear hj
          go_wp2
          go_roundg (G - 1)
          case measure => have := HJ.out; omega
          case rel => exact ⟨k + 1, by have := HJ.out; omega, rfl, HB3⟩
    · go_wp2
      go_ret
      exact ⟨rfl, HB.out⟩
end Go.Proofs.Ytdpfdlkaickkiaa
namespace Go.Proofs.Ytdpfdlkaickkiaa
open Go.RowKit Go.Shelf
set_option linter.unusedSimpArgs false
set_option linter.unusedVariables false
attribute [local go_sem] Oper.semAt_some

theorem shR_small {F : Int} {L : List Nde} (hl : L.length ≤ 1000000) (hr : ∀ d ∈ L, d.r.length ≤ 1000000) : (shR F L).length ≤ 1000000 ∧ ∀ d ∈ shR F L, d.r.length ≤ 1000000 := by
  unfold shR
  by_cases h : (chkM F L).2 = 0
  · rw [if_pos h]
    have J := joinS_inv L hr (List.range L.length).reverse
    have ho := (join_ok (chk_ok h).1 (chk_ok h).2.1).1.len
    have hn := J.n
    rw [List.length_reverse, List.length_range] at hn
    have hn' : (joinL L).1.length ≤ L.length := hn
    have hjr : ∀ d ∈ (joinL L).1, d.r.length ≤ 1000000 := J.r
    refine ⟨by unfold ioS; rw [List.length_map, ho]; omega, fun d hd => ?_⟩
    unfold ioS at hd
    obtain ⟨x, hx, rfl⟩ := List.mem_map.mp hd
    refine Nat.le_trans (nmD_len _ _) ?_
    rw [List.getD_eq_getElem?_getD]
    cases hq : (joinL L).1[x.toNat]? with
    | none => simp
    | some e => exact hjr e (List.mem_of_getElem? hq)
  · rw [if_neg h]
    exact ⟨by simp, fun d hd => by cases hd⟩
set_option maxRecDepth 100000 in
set_option maxHeartbeats 8000000 in
theorem shareNodes_any (F : Int) (v : Value) (V : List Value) (L : List Nde) (w : World) (hF0 : -9223372036854775808 ≤ F) (hF1 : F ≤ 9223372036854775807) (hN : NdsIn w v V L) (hl : L.length ≤ 140737488355328) (hr : ∀ d ∈ L, d.r.length ≤ 140737488355328) :
    Calls Try.prog 3 #[.int .i64 F, v] w fun e w' => e = .returned (.bool true) ∧ Below w.heap.size w w' := by
  have HV := hid13 hN.d
  have HT := hid13 (nds_tw hN)
  have HL : Hid (L.length ≤ 140737488355328 ∧ ∀ d ∈ L, d.r.length ≤ 140737488355328) := ⟨hl, hr⟩
  obtain ⟨ao, c, hvf, -, -⟩ := id hN.d
  subst hvf
  clear hN hl hr hF0 hF1
  go_enter Try.func3, Try.ntmps3
  go_wp2_with fail
  refine (known12 _).mono ?_
  rintro e w1 ⟨rfl, hb1⟩
  have HB1 := hid13 hb1
  have KS := few_any _ L w1 (HV.out.below hb1) HL.out.1 HL.out.2
  have HFw := hid13 (fun h => few_ok (L := L) h)
  generalize fewB L = fb at *
  clear hb1
  go_wp2_with fail
  refine KS.mono ?_
  rintro e w2 ⟨rfl, hw⟩
  subst hw
  clear KS
  cases fb with
  | false =>
    go_wp2
    go_ret
    exact ⟨rfl, HB1.out⟩
  | true =>
  have hf := HFw.out rfl
  have HS : Hid (L.length ≤ 1000000 ∧ ∀ d ∈ L, d.r.length ≤ 1000000) := ⟨by omega, fun d hd => by have := hf.2 d hd; omega⟩
  have KT := twin_any _ L w2 (HT.out.below HB1.out) HS.out.1 HS.out.2
  have K1 := fun u W (h : RwD W u L) => share12_any F u L W h HS.out.1 HS.out.2 (fun h => (join_ok (chk_ok h).1 (chk_ok h).2.1).1)
  have K2 := fun u W (h : RwD W u L) => rshare12 F u L W h HS.out.1 HS.out.2
  have HM := hid13 (shR_small (F := F) HS.out.1 HS.out.2)
  generalize shR F L = M at *
  generalize (chkM F L).2 = E at *
  have HK1 := hid13 K1
  have HK2 := hid13 K2
  clear hf HFw HL K1 K2
  go_wp2_with fail
  refine KT.mono ?_
  rintro e w3 ⟨v3, rfl, hR3, hb3⟩
  obtain ⟨o3, c3, hv3, -, -⟩ := id hR3
  subst hv3
  have HR3 := hid13 hR3
  have HB3 := hid13 (keepb hb3 HB1.out)
  have K1 := HK1.out _ _ hR3
  clear KT hR3 hb3 HB1 HK1
  go_wp2_with fail
  refine K1.mono ?_
  rintro e w4 ⟨v4, V4, rfl, hN4, hb4⟩
  have HN4 := hid13 hN4.rwd
  obtain ⟨o4, c4, hv4, -, -⟩ := id hN4.rwd
  subst hv4
  have HR4 := hid13 (HR3.out.below hb4)
  have HB4 := hid13 (keepb hb4 HB3.out)
  have K2 := HK2.out _ _ (HV.out.below HB4.out)
  clear K1 hN4 hb4 HB3 HR3 HK2
  go_wp2_with fail
  refine K2.mono ?_
  rintro e w5 ⟨v5, V5, rfl, hN5, hb5⟩
  have HN5 := hid13 hN5.rwd
  obtain ⟨o5, c5, hv5, -, -⟩ := id hN5.rwd
  subst hv5
  have HR5 := hid13 (HR4.out.below hb5)
  have HN4 := hid13 (HN4.out.below hb5)
  have HB5 := hid13 (keepb hb5 HB4.out)
  have K3 := same_any16 _ _ L w5 HR5.out (HV.out.below HB5.out) HS.out.1 HS.out.2
  clear K2 hN5 hb5 HB4 HR4
  go_wp2_with fail
  refine K3.mono ?_
  rintro e w6 ⟨rfl, hb6⟩
  have HB6 := hid13 (keepb hb6 HB5.out)
  have K4 := same_any16 _ _ M w6 (HN4.out.below hb6) (HN5.out.below hb6) HM.out.1 HM.out.2
  clear K3 hb6 HB5 HR5
  go_wp2_with fail
  refine K4.mono ?_
  rintro e w7 ⟨rfl, hb7⟩
  have HB7 := hid13 (keepb hb7 HB6.out)
  clear K4 hb7 HB6
  go_wp2
  go_ret
  exact ⟨rfl, HB7.out⟩
end Go.Proofs.Ytdpfdlkaickkiaa
