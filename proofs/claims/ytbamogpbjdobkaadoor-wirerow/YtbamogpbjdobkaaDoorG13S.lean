/-
  What package wire's Fold at string does.
-/
import Derived.Test.YtbamogpbjdobkaaDoorF13S
import Derived.Test.YtbamogpbjdobkaaDoorFdP
import Derived.Deep.AppendLies
namespace Go.Proofs.YtbamogpbjdobkaaDoor
open Go.RowKit
set_option linter.unusedSimpArgs false
set_option linter.unusedVariables false

theorem Tryd.infoS13 : (Tryd.prog.info? 9).map (fun i => (i.zero, i.size, i.bytes)) = some (some (.string ⟨#[]⟩), 1, 16) := by kernel_rfl
/-- What Fold has made so far. -/
structure FoS (w W : World) (nw : Nat) (vf : Value) (U : List (BitVec 32)) (R : List (List UInt8)) : Prop where
  b : Below w.heap.size w W
  m : W.ownsRow w.heap.size 42 1 (.slice (some ⟨w.heap.size, 0, none⟩) nw nw) nw (U.map cU)
  r : W.ownsRow (w.heap.size + 1) 9 1 vf R.length (R.map cS)
  s : w.heap.size + 1 ≤ W.heap.size
section
variable {w W W' : World} {nw : Nat} {vf : Value} {U : List (BitVec 32)} {R : List (List UInt8)}
theorem FoS.below (h : FoS w W nw vf U R) (hb : Below W.heap.size W W') : FoS w W' nw vf U R :=
  ⟨keepb hb h.b, own_b13 hb h.m, own_b13 hb h.r, Nat.le_trans h.s hb.size⟩
theorem FoS.ul (h : FoS w W nw vf U R) : U.length = nw := by have := h.m.1; simpa using this
theorem FoS.cell (h : FoS w W nw vf U R) (k : Nat) (hk : k / 32 < nw) : W.cell? ⟨w.heap.size, k / 32, none⟩ = some (.int .u32 (uI (U.getD (k / 32) 0#32))) ∧ W.frozen? ⟨w.heap.size, k / 32, none⟩ = false := by
  have hl := h.ul
  refine ⟨?_, h.m.frozenAt _⟩
  rw [h.m.cellAt (k / 32) (by omega), List.getElem?_map, List.getD_eq_getElem?_getD, List.getElem?_eq_getElem (by omega)]
  rfl
theorem FoS.set (h : FoS w W nw vf U R) (k : Nat) (hk : k / 32 < nw) : FoS w (W.setCell ⟨w.heap.size, k / 32, none⟩ (.int .u32 (uI (U.getD (k / 32) 0#32 ||| (cOne >>> (k % 32)))))).drew nw vf (setP U k) R := by
  have hs := (h.m.stored (k / 32) (.int .u32 (uI (U.getD (k / 32) 0#32 ||| (cOne >>> (k % 32)))))).1
  have e : (setP U k).map cU = (U.map cU).set (k / 32) (.int .u32 (uI (U.getD (k / 32) 0#32 ||| (cOne >>> (k % 32))))) := by
    unfold setP
    rw [List.map_set]; rfl
  refine ⟨(h.b.setCell (Nat.le_refl _) _).drew, ?_, ?_, ?_⟩
  · rw [e]; exact own_b13 (below_drewN (Below.refl _ _) 1) hs
  · exact own_b13 (below_drewN (Below.refl _ _) 1) (ownsRow_setCell_below h.r (Nat.lt_succ_self _) _)
  · have : (W.setCell ⟨w.heap.size, k / 32, none⟩ (.int .u32 (uI (U.getD (k / 32) 0#32 ||| (cOne >>> (k % 32)))))).drew.heap.size = W.heap.size := by simp [World.setCell, World.drew]
    rw [this]; exact h.s
theorem FoS.grown (h : FoS w W nw vf U R) {v' : Value} {x : (List UInt8)} (ho : W'.ownsRow (w.heap.size + 1) 9 1 v' (R.length + 1) (R.map cS ++ [cS x])) (hg : W.grownBy W' vf.ownBlock) : FoS w W' nw v' U (R ++ [x]) := by
  refine ⟨h.b.grown hg (by have := h.s; omega) (fun k e => by have := (h.r.lt k e).1; omega), h.m.kept hg ?_, ?_, Nat.le_trans h.s hg.size⟩
  · cases e : vf.ownBlock with
    | none => exact .inr (by simp [Value.ownBlock])
    | some k => exact .inr (by have := (h.r.lt k e).1; simp only [Value.ownBlock, ne_eq, Option.some.injEq]; omega)
  · rw [List.length_append, List.map_append]
    exact ho
end
set_option maxRecDepth 100000 in
set_option maxHeartbeats 16000000 in
theorem foldS_any (v : Value) (l : List (List UInt8)) (w : World) (hv : RwX cS w v l) (hl : l.length * 16 ≤ 140737488355328) :
    Calls Tryd.prog 9 #[v] w fun e w' => ∃ vf, e = .returned (.tuple #[.slice (some ⟨w.heap.size, 0, none⟩) ((l.length + 31) / 32) ((l.length + 31) / 32), vf]) ∧ FoS w w' ((l.length + 31) / 32) vf (fdU l l.length) (fdR l l.length) := by
  obtain ⟨ao, cc, rfl, hc, hv⟩ := hv
  obtain ⟨i0, hi, hz0, hz1, hz2⟩ := info13 Tryd.infoU13
  obtain ⟨j0, ji, jz0, jz1, jz2⟩ := info13 Tryd.infoS13
  obtain ⟨nw, hnw⟩ : ∃ nw, nw = (l.length + 31) / 32 := ⟨_, rfl⟩
  have hwd := words13 l.length (by omega)
  rw [← hnw] at hwd ⊢
  have HV := hid13 hv
  have HL := hid13 hl
  have HW := hid13 hnw
  have hby : i0.bytes * nw ≤ 281474976710656 := by rw [hz2]; omega
  have hmx : nw ≤ maxLen := by unfold maxLen; omega
  clear hv hc hnw hl
  go_enter Tryd.func9, Tryd.ntmps9
  go_wp2_with (first | (go_at_call 13; refine (hwd _).mono ?_; rintro e w1 ⟨rfl, hw1⟩; replace hw1 := hw1.symm; subst hw1) | (at_make; apply stopHere9))
  refine (show wpList _ _ _ _ _ _ from ?_)
  refine wpList_make_full _ rfl _ _ 24 rfl w.heap.size 42 i0 (.int .u32 0) 1 Tryd.underlying24 hi hz0 hz1 .i64 .i64 _ _ nw rfl rfl rfl rfl hby hmx (Nat.le_refl _) ?_
  intro w2 hown2 hgrow
  have HS0 : Hid (FoS w w2 nw (.slice none 0 0) (fdU l 0) (fdR l 0)) := by
    refine ⟨(Below.refl _ _).grown hgrow (Nat.le_refl _) (fun z hz => by cases hz), ?_, World.ownsRow_nil _ _ _ _, ?_⟩
    · have e : (fdU l 0).map cU = (madeCells (Value.int .u32 0).cells (nw * 1)).toList := by
        show _ = (madeCells #[Value.int .u32 0] (nw * 1)).toList
        rw [toList_madeCells_one, Nat.mul_one]
        simp only [fdU]
        rw [List.map_replicate, ← HW.out]
        unfold cU
        rw [uI_zero]
      rw [e]; exact hown2
    · have := (hown2.lt w.heap.size rfl).2; omega
  clear hown2 hgrow hby hwd
  go_wp2_with fail
  go_loopg [5, 6, 7, 14] l.length (fun g vf i6 x7 i wr => ∃ (k : Nat) (U : List (BitVec 32)) (R : List (List UInt8)), k + g = l.length ∧ i = .int .i64 (k : Int) ∧ Hid (FoS w wr nw vf U R) ∧ Hid (U = fdU l k ∧ R = fdR l k))
  case atStart => exact ⟨0, _, _, by omega, rfl, HS0, rfl, rfl⟩
  case round =>
    clear HS0
    obtain ⟨k, U, R, hk, rfl, HS, HE⟩ := hrel
    by_cases hlt : k < l.length
    · have hli : (k : Int) < (l.length : Int) := by omega
      obtain ⟨bo, off, rfl, hcell⟩ : ∃ bo off, ao = some ⟨bo, off, none⟩ ∧ ∀ j x, l[j]? = some x → w.cell? ⟨bo, off + j, none⟩ = some (cS x) := by
        rcases HV.out with h | h
        · rw [h] at hlt; simp at hlt
        · exact h
      have HR : Hid (R.length < l.length ∧ l.length * 16 ≤ 140737488355328) := by
        have := fdR_len l k
        rw [← HE.out.2] at this
        exact ⟨by omega, HL.out⟩
      have hq : k / 32 < nw := by have := HW.out; omega
      have hq2 : k < nw * 32 := by omega
      have hn2 : nw ≤ 140737488355328 := by have := HW.out; have := HL.out; omega
      obtain ⟨x, hx⟩ : ∃ x, l[k]? = some x := ⟨l[k], by simp [hlt]⟩
      have hrd : wr.cell? ⟨bo, off + k, none⟩ = some (.string ⟨(x).toArray⟩) := keepc HS.out.b (hcell k x hx)
      have mk : IntKind.i64.wrap ((k : Int) + 1) = (k : Int) + 1 := by have := HL.out; rw [IntKind.wrap_i64]; omega
      have HX := hid13 hx
      have HK : Hid (k + gk = l.length ∧ k < l.length) := ⟨hk, hlt⟩
      have HC := hid13 hcell
      clear hx hcell
      by_cases k0 : k = 0
      · subst k0
        rw [Nat.add_zero] at hrd
        have hfy := hid13 (fd_yes l 0 x HX.out (flg_zero l))
        have HS1 := HS
        clear HS
        go_wp2_with (first | (go_at_call 15; refine (set_any w.heap.size nw nw (0) _ _ hq2 hn2 (HS1.out.cell (0) hq).1 (HS1.out.cell (0) hq).2).mono ?_; rintro e w3 ⟨rfl, hw3⟩; have HH := hid13 (HS1.out.set (0) hq); rw [← hw3] at HH; clear hw3 HS1) | (at_builtin; apply stopHere9))
        refine (show wpList _ _ _ _ _ _ from ?_)
        have h63 : R.length + 1 ≤ maxLen := by have := HR.out; unfold maxLen; omega
        have h47 : (R.length + 1) * 16 ≤ 140737488355328 := by have := HR.out; omega
        have q9 := bl1 w3 (.cells #[.string ⟨(x).toArray⟩] 9)
        have HO9 := hid13 (own_b13 q9 HH.out.r)
        have HB9 := hid13 (keepb q9 HH.out.b)
        have HS9 : Hid (w.heap.size + 1 ≤ (w3.alloc (.cells #[.string ⟨(x).toArray⟩] 9)).heap.size) := hid13 (Nat.le_trans HH.out.s q9.size)
        refine wpList_append_lies _ rfl _ _ 32 rfl (w.heap.size + 1) 9 j0 (.string ⟨#[]⟩) 1 16 Tryd.underlying32 ji jz0 jz1 jz2 rfl (by decide) _ _ _ rfl HO9.out ⟨w3.heap.size, 0, none⟩ 1 1 [.string ⟨(x).toArray⟩] rfl rfl (news13 (by simp [go_sem])) (by intro u hu; simp at hu; subst hu; rfl) (by decide) h63 h47 HS9.out _ rfl ?_
        intro g4 cap4 w4 hown4 hgrow hat hlt4
        have HZ := hid13 ((HH.out.below q9).grown hown4 hgrow)
        clear hgrow hat hown4 hlt4 h63 h47 q9 HO9 HB9 HS9 HH
        go_wp2
        go_roundg (gk - 1)
        case measure => have := HK.out; omega
        case rel => exact ⟨1, _, _, by have := HK.out; omega, rfl, HZ, by rw [hfy.out.1, HE.out.1], by rw [hfy.out.2, HE.out.2]⟩
      · obtain ⟨j, rfl⟩ : ∃ j, k = j + 1 := ⟨k - 1, by omega⟩
        obtain ⟨y, hy⟩ : ∃ y, l[j]? = some y := ⟨l[j], by simp [show j < l.length by omega]⟩
        have hrd1 : wr.cell? ⟨bo, off + j, none⟩ = some (.string ⟨(y).toArray⟩) := keepc HS.out.b (HC.out j y hy)
        have hfs := hid13 (flg_succ l j x y HX.out hy)
        clear hy k0
        have wm : IntKind.i64.wrap (((j : Int) + 1) - 1) = (j : Int) := by have := HL.out; rw [IntKind.wrap_i64]; omega
        have hj0 : ((j : Int) + 1 == 0) = false := by simp; omega
        by_cases hxy : x = y
        · have hbq : (x == y) = true := by simp [hxy]
          have hfn := hid13 (fd_no l (j + 1) (by rw [hfs.out]; simp [hxy]))
          clear hfs hxy
          go_wp2_with (go_at_call 20; refine (sameS_any x y _).mono ?_; rintro e w1 ⟨rfl, hb1⟩; have HS1 := hid13 (HS.out.below hb1); clear hb1 HS hrd hrd1)
          go_roundg (gk - 1)
          case measure => have := HK.out; omega
          case rel => exact ⟨j + 1 + 1, _, _, by have := HK.out; omega, rfl, HS1, by rw [hfn.out.1, HE.out.1], by rw [hfn.out.2, HE.out.2]⟩
        · have hbq : (x == y) = false := by simp [hxy]
          have hfy := hid13 (fd_yes l (j + 1) x HX.out (by rw [hfs.out]; simp [hxy]))
          clear hfs hxy
          go_wp2_with (first | (go_at_call 20; refine (sameS_any x y _).mono ?_; rintro e w1 ⟨rfl, hb1⟩; have HS1 := hid13 (HS.out.below hb1); clear hb1 HS hrd hrd1) | (go_at_call 15; refine (set_any w.heap.size nw nw (j + 1) _ _ hq2 hn2 (HS1.out.cell (j + 1) hq).1 (HS1.out.cell (j + 1) hq).2).mono ?_; rintro e w3 ⟨rfl, hw3⟩; have HH := hid13 (HS1.out.set (j + 1) hq); rw [← hw3] at HH; clear hw3 HS1) | (at_builtin; apply stopHere9))
          refine (show wpList _ _ _ _ _ _ from ?_)
          have h63 : R.length + 1 ≤ maxLen := by have := HR.out; unfold maxLen; omega
          have h47 : (R.length + 1) * 16 ≤ 140737488355328 := by have := HR.out; omega
          have q9 := bl1 w3 (.cells #[.string ⟨(x).toArray⟩] 9)
          have HO9 := hid13 (own_b13 q9 HH.out.r)
          have HB9 := hid13 (keepb q9 HH.out.b)
          have HS9 : Hid (w.heap.size + 1 ≤ (w3.alloc (.cells #[.string ⟨(x).toArray⟩] 9)).heap.size) := hid13 (Nat.le_trans HH.out.s q9.size)
          refine wpList_append_lies _ rfl _ _ 32 rfl (w.heap.size + 1) 9 j0 (.string ⟨#[]⟩) 1 16 Tryd.underlying32 ji jz0 jz1 jz2 rfl (by decide) _ _ _ rfl HO9.out ⟨w3.heap.size, 0, none⟩ 1 1 [.string ⟨(x).toArray⟩] rfl rfl (news13 (by simp [go_sem])) (by intro u hu; simp at hu; subst hu; rfl) (by decide) h63 h47 HS9.out _ rfl ?_
          intro g4 cap4 w4 hown4 hgrow hat hlt4
          have HZ := hid13 ((HH.out.below q9).grown hown4 hgrow)
          clear hgrow hat hown4 hlt4 h63 h47 q9 HO9 HB9 HS9 HH
          go_wp2
          go_roundg (gk - 1)
          case measure => have := HK.out; omega
          case rel => exact ⟨j + 1 + 1, _, _, by have := HK.out; omega, rfl, HZ, by rw [hfy.out.1, HE.out.1], by rw [hfy.out.2, HE.out.2]⟩
    · have hli : ¬ (k : Int) < (l.length : Int) := by omega
      have e : k = l.length := by omega
      subst e
      have HF : Hid (FoS w wr nw u5 (fdU l l.length) (fdR l l.length)) := by have := HS.out; rw [HE.out.1, HE.out.2] at this; exact this
      go_wp2_with fail
      exact bodyPost_ret (v := .tuple #[.slice (some ⟨w.heap.size, 0, none⟩) nw nw, u5]) (by simp [results, Tryd.results9, go_sem]) rfl ⟨_, rfl, HF.out⟩
end Go.Proofs.YtbamogpbjdobkaaDoor
