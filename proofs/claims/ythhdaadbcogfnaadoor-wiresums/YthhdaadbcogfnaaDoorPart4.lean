/-
  Part 4 of the proof: 3 texts, one behind the other.
-/
import Derived.Test.YthhdaadbcogfnaaDoorPart2
import Derived.Test.YthhdaadbcogfnaaDoorPart3
import Derived.Deep.AppendLies
import Derived.Lib.SlBytesConst
/-
  What package wire's Fold at int does.
-/
namespace Go.Proofs.YthhdaadbcogfnaaDoor
open Go.RowKit
set_option linter.unusedSimpArgs false
set_option linter.unusedVariables false

theorem Tryd.infoI13 : (Tryd.prog.info? 3).map (fun i => (i.zero, i.size, i.bytes)) = some (some (.int .i64 0), 1, 8) := by kernel_rfl
/-- What Fold has made so far. -/
structure FoI (w W : World) (nw : Nat) (vf : Value) (U : List (BitVec 32)) (R : List Int) : Prop where
  b : Below w.heap.size w W
  m : W.ownsRow w.heap.size 26 1 (.slice (some ⟨w.heap.size, 0, none⟩) nw nw) nw (U.map cU)
  r : W.ownsRow (w.heap.size + 1) 3 1 vf R.length (R.map cI)
  s : w.heap.size + 1 ≤ W.heap.size
section
variable {w W W' : World} {nw : Nat} {vf : Value} {U : List (BitVec 32)} {R : List Int}
theorem FoI.below (h : FoI w W nw vf U R) (hb : Below W.heap.size W W') : FoI w W' nw vf U R :=
  ⟨keepb hb h.b, own_b13 hb h.m, own_b13 hb h.r, Nat.le_trans h.s hb.size⟩
theorem FoI.ul (h : FoI w W nw vf U R) : U.length = nw := by have := h.m.1; simpa using this
theorem FoI.cell (h : FoI w W nw vf U R) (k : Nat) (hk : k / 32 < nw) : W.cell? ⟨w.heap.size, k / 32, none⟩ = some (.int .u32 (uI (U.getD (k / 32) 0#32))) ∧ W.frozen? ⟨w.heap.size, k / 32, none⟩ = false := by
  have hl := h.ul
  refine ⟨?_, h.m.frozenAt _⟩
  rw [h.m.cellAt (k / 32) (by omega), List.getElem?_map, List.getD_eq_getElem?_getD, List.getElem?_eq_getElem (by omega)]
  rfl
theorem FoI.set (h : FoI w W nw vf U R) (k : Nat) (hk : k / 32 < nw) : FoI w (W.setCell ⟨w.heap.size, k / 32, none⟩ (.int .u32 (uI (U.getD (k / 32) 0#32 ||| (cOne >>> (k % 32)))))).drew nw vf (setP U k) R := by
  have hs := (h.m.stored (k / 32) (.int .u32 (uI (U.getD (k / 32) 0#32 ||| (cOne >>> (k % 32)))))).1
  have e : (setP U k).map cU = (U.map cU).set (k / 32) (.int .u32 (uI (U.getD (k / 32) 0#32 ||| (cOne >>> (k % 32))))) := by
    unfold setP
    rw [List.map_set]; rfl
  refine ⟨(h.b.setCell (Nat.le_refl _) _).drew, ?_, ?_, ?_⟩
  · rw [e]; exact own_b13 (below_drewN (Below.refl _ _) 1) hs
  · exact own_b13 (below_drewN (Below.refl _ _) 1) (ownsRow_setCell_below h.r (Nat.lt_succ_self _) _)
  · have : (W.setCell ⟨w.heap.size, k / 32, none⟩ (.int .u32 (uI (U.getD (k / 32) 0#32 ||| (cOne >>> (k % 32)))))).drew.heap.size = W.heap.size := by simp [World.setCell, World.drew]
    rw [this]; exact h.s
theorem FoI.grown (h : FoI w W nw vf U R) {v' : Value} {x : Int} (ho : W'.ownsRow (w.heap.size + 1) 3 1 v' (R.length + 1) (R.map cI ++ [cI x])) (hg : W.grownBy W' vf.ownBlock) : FoI w W' nw v' U (R ++ [x]) := by
  refine ⟨h.b.grown hg (by have := h.s; omega) (fun k e => by have := (h.r.lt k e).1; omega), h.m.kept hg ?_, ?_, Nat.le_trans h.s hg.size⟩
  · cases e : vf.ownBlock with
    | none => exact .inr (by simp [Value.ownBlock])
    | some k => exact .inr (by have := (h.r.lt k e).1; simp only [Value.ownBlock, ne_eq, Option.some.injEq]; omega)
  · rw [List.length_append, List.map_append]
    exact ho
end
set_option maxRecDepth 100000 in
set_option maxHeartbeats 16000000 in
theorem foldI_any (v : Value) (l : List Int) (w : World) (hv : RwX cI w v l) (hl : l.length * 8 ≤ 140737488355328) :
    Calls Tryd.prog 10 #[v] w fun e w' => ∃ vf, e = .returned (.tuple #[.slice (some ⟨w.heap.size, 0, none⟩) ((l.length + 31) / 32) ((l.length + 31) / 32), vf]) ∧ FoI w w' ((l.length + 31) / 32) vf (fdU l l.length) (fdR l l.length) := by
  obtain ⟨ao, cc, rfl, hc, hv⟩ := hv
  obtain ⟨i0, hi, hz0, hz1, hz2⟩ := info13 Tryd.infoU13
  obtain ⟨j0, ji, jz0, jz1, jz2⟩ := info13 Tryd.infoI13
  obtain ⟨nw, hnw⟩ : ∃ nw, nw = (l.length + 31) / 32 := ⟨_, rfl⟩
  have hwd := words13 l.length (by omega)
  rw [← hnw] at hwd ⊢
  have HV := hid13 hv
  have HL := hid13 hl
  have HW := hid13 hnw
  have hby : i0.bytes * nw ≤ 281474976710656 := by rw [hz2]; omega
  have hmx : nw ≤ maxLen := by unfold maxLen; omega
  clear hv hc hnw hl
  go_enter Tryd.func10, Tryd.ntmps10
  go_wp2_with (first | (go_at_call 19; refine (hwd _).mono ?_; rintro e w1 ⟨rfl, hw1⟩; replace hw1 := hw1.symm; subst hw1) | (at_make; apply stopHere9))
  refine (show wpList _ _ _ _ _ _ from ?_)
  refine wpList_make_full _ rfl _ _ 32 rfl w.heap.size 26 i0 (.int .u32 0) 1 Tryd.underlying32 hi hz0 hz1 .i64 .i64 _ _ nw rfl rfl rfl rfl hby hmx (Nat.le_refl _) ?_
  intro w2 hown2 hgrow
  have HS0 : Hid (FoI w w2 nw (.slice none 0 0) (fdU l 0) (fdR l 0)) := by
    refine ⟨(Below.refl _ _).grown hgrow (Nat.le_refl _) (fun z hz => by cases hz), ?_, World.ownsRow_nil _ _ _ _, ?_⟩
    · have e : (fdU l 0).map cU = (madeCells (Value.int .u32 0).cells (nw * 1)).toList := by
        show _ = (madeCells #[Value.int .u32 0] (nw * 1)).toList
        rw [toList_madeCells_one, Nat.mul_one]
        simp only [fdU]
        rw [List.map_replicate, ← HW.out]
        unfold cU
        rw [uI_zero]
      rw [e]; exact hown2
    · have := (hown2.lt w.heap.size rfl).2; omega
  clear hown2 hgrow hby hwd
  go_wp2_with fail
  go_loopg [5, 6, 7, 14] l.length (fun g vf i6 x7 i wr => ∃ (k : Nat) (U : List (BitVec 32)) (R : List Int), k + g = l.length ∧ i = .int .i64 (k : Int) ∧ Hid (FoI w wr nw vf U R) ∧ Hid (U = fdU l k ∧ R = fdR l k))
  case atStart => exact ⟨0, _, _, by omega, rfl, HS0, rfl, rfl⟩
  case round =>
    clear HS0
    obtain ⟨k, U, R, hk, rfl, HS, HE⟩ := hrel
    by_cases hlt : k < l.length
    · have hli : (k : Int) < (l.length : Int) := by omega
      obtain ⟨bo, off, rfl, hcell⟩ : ∃ bo off, ao = some ⟨bo, off, none⟩ ∧ ∀ j x, l[j]? = some x → w.cell? ⟨bo, off + j, none⟩ = some (cI x) := by
        rcases HV.out with h | h
        · rw [h] at hlt; simp at hlt
        · exact h
      have HR : Hid (R.length < l.length ∧ l.length * 8 ≤ 140737488355328) := by
        have := fdR_len l k
        rw [← HE.out.2] at this
        exact ⟨by omega, HL.out⟩
      have hq : k / 32 < nw := by have := HW.out; omega
      have hq2 : k < nw * 32 := by omega
      have hn2 : nw ≤ 140737488355328 := by have := HW.out; have := HL.out; omega
      obtain ⟨x, hx⟩ : ∃ x, l[k]? = some x := ⟨l[k], by simp [hlt]⟩
      have hrd : wr.cell? ⟨bo, off + k, none⟩ = some (.int .i64 x) := keepc HS.out.b (hcell k x hx)
      have mk : IntKind.i64.wrap ((k : Int) + 1) = (k : Int) + 1 := by have := HL.out; rw [IntKind.wrap_i64]; omega
      have HX := hid13 hx
      have HK : Hid (k + gk = l.length ∧ k < l.length) := ⟨hk, hlt⟩
      have HC := hid13 hcell
      clear hx hcell
      by_cases k0 : k = 0
      · subst k0
        rw [Nat.add_zero] at hrd
        have hfy := hid13 (fd_yes l 0 x HX.out (flg_zero l))
        have HS1 := HS
        clear HS
        go_wp2_with (first | (go_at_call 21; refine (set_any w.heap.size nw nw (0) _ _ hq2 hn2 (HS1.out.cell (0) hq).1 (HS1.out.cell (0) hq).2).mono ?_; rintro e w3 ⟨rfl, hw3⟩; have HH := hid13 (HS1.out.set (0) hq); rw [← hw3] at HH; clear hw3 HS1) | (at_builtin; apply stopHere9))
        refine (show wpList _ _ _ _ _ _ from ?_)
        have h63 : R.length + 1 ≤ maxLen := by have := HR.out; unfold maxLen; omega
        have h47 : (R.length + 1) * 8 ≤ 140737488355328 := by have := HR.out; omega
        have q9 := bl1 w3 (.cells #[.int .i64 x] 3)
        have HO9 := hid13 (own_b13 q9 HH.out.r)
        have HB9 := hid13 (keepb q9 HH.out.b)
        have HS9 : Hid (w.heap.size + 1 ≤ (w3.alloc (.cells #[.int .i64 x] 3)).heap.size) := hid13 (Nat.le_trans HH.out.s q9.size)
        refine wpList_append_lies _ rfl _ _ 31 rfl (w.heap.size + 1) 3 j0 (.int .i64 0) 1 8 Tryd.underlying31 ji jz0 jz1 jz2 rfl (by decide) _ _ _ rfl HO9.out ⟨w3.heap.size, 0, none⟩ 1 1 [.int .i64 x] rfl rfl (news13 (by simp [go_sem])) (by intro u hu; simp at hu; subst hu; rfl) (by decide) h63 h47 HS9.out _ rfl ?_
        intro g4 cap4 w4 hown4 hgrow hat hlt4
        have HZ := hid13 ((HH.out.below q9).grown hown4 hgrow)
        clear hgrow hat hown4 hlt4 h63 h47 q9 HO9 HB9 HS9 HH
        go_wp2
        go_roundg (gk - 1)
        case measure => have := HK.out; omega
        case rel => exact ⟨1, _, _, by have := HK.out; omega, rfl, HZ, by rw [hfy.out.1, HE.out.1], by rw [hfy.out.2, HE.out.2]⟩
      · obtain ⟨j, rfl⟩ : ∃ j, k = j + 1 := ⟨k - 1, by omega⟩
        obtain ⟨y, hy⟩ : ∃ y, l[j]? = some y := ⟨l[j], by simp [show j < l.length by omega]⟩
        have hrd1 : wr.cell? ⟨bo, off + j, none⟩ = some (.int .i64 y) := keepc HS.out.b (HC.out j y hy)
        have hfs := hid13 (flg_succ l j x y HX.out hy)
        clear hy k0
        have wm : IntKind.i64.wrap (((j : Int) + 1) - 1) = (j : Int) := by have := HL.out; rw [IntKind.wrap_i64]; omega
        have hj0 : ((j : Int) + 1 == 0) = false := by simp; omega
        by_cases hxy : x = y
        · have hbq : (x == y) = true := by simp [hxy]
          have hfn := hid13 (fd_no l (j + 1) (by rw [hfs.out]; simp [hxy]))
          clear hfs hxy
          go_wp2_with (go_at_call 20; refine (sameI_any x y _).mono ?_; rintro e w1 ⟨rfl, hb1⟩; have HS1 := hid13 (HS.out.below hb1); clear hb1 HS hrd hrd1)
          go_roundg (gk - 1)
          case measure => have := HK.out; omega
          case rel => exact ⟨j + 1 + 1, _, _, by have := HK.out; omega, rfl, HS1, by rw [hfn.out.1, HE.out.1], by rw [hfn.out.2, HE.out.2]⟩
        · have hbq : (x == y) = false := by simp [hxy]
          have hfy := hid13 (fd_yes l (j + 1) x HX.out (by rw [hfs.out]; simp [hxy]))
          clear hfs hxy
          go_wp2_with (first | (go_at_call 20; refine (sameI_any x y _).mono ?_; rintro e w1 ⟨rfl, hb1⟩; have HS1 := hid13 (HS.out.below hb1); clear hb1 HS hrd hrd1) | (go_at_call 21; refine (set_any w.heap.size nw nw (j + 1) _ _ hq2 hn2 (HS1.out.cell (j + 1) hq).1 (HS1.out.cell (j + 1) hq).2).mono ?_; rintro e w3 ⟨rfl, hw3⟩; have HH := hid13 (HS1.out.set (j + 1) hq); rw [← hw3] at HH; clear hw3 HS1) | (at_builtin; apply stopHere9))
          refine (show wpList _ _ _ _ _ _ from ?_)
          have h63 : R.length + 1 ≤ maxLen := by have := HR.out; unfold maxLen; omega
          have h47 : (R.length + 1) * 8 ≤ 140737488355328 := by have := HR.out; omega
          have q9 := bl1 w3 (.cells #[.int .i64 x] 3)
          have HO9 := hid13 (own_b13 q9 HH.out.r)
          have HB9 := hid13 (keepb q9 HH.out.b)
          have HS9 : Hid (w.heap.size + 1 ≤ (w3.alloc (.cells #[.int .i64 x] 3)).heap.size) := hid13 (Nat.le_trans HH.out.s q9.size)
          refine wpList_append_lies _ rfl _ _ 31 rfl (w.heap.size + 1) 3 j0 (.int .i64 0) 1 8 Tryd.underlying31 ji jz0 jz1 jz2 rfl (by decide) _ _ _ rfl HO9.out ⟨w3.heap.size, 0, none⟩ 1 1 [.int .i64 x] rfl rfl (news13 (by simp [go_sem])) (by intro u hu; simp at hu; subst hu; rfl) (by decide) h63 h47 HS9.out _ rfl ?_
          intro g4 cap4 w4 hown4 hgrow hat hlt4
          have HZ := hid13 ((HH.out.below q9).grown hown4 hgrow)
          clear hgrow hat hown4 hlt4 h63 h47 q9 HO9 HB9 HS9 HH
          go_wp2
          go_roundg (gk - 1)
          case measure => have := HK.out; omega
          case rel => exact ⟨j + 1 + 1, _, _, by have := HK.out; omega, rfl, HZ, by rw [hfy.out.1, HE.out.1], by rw [hfy.out.2, HE.out.2]⟩
    · have hli : ¬ (k : Int) < (l.length : Int) := by omega
      have e : k = l.length := by omega
      subst e
      have HF : Hid (FoI w wr nw u5 (fdU l l.length) (fdR l l.length)) := by have := HS.out; rw [HE.out.1, HE.out.2] at this; exact this
      go_wp2_with fail
      exact bodyPost_ret (v := .tuple #[.slice (some ⟨w.heap.size, 0, none⟩) nw nw, u5]) (by simp [results, Tryd.results10, go_sem]) rfl ⟨_, rfl, HF.out⟩
end Go.Proofs.YthhdaadbcogfnaaDoor
/-
  The chapter's examples.
-/
namespace Go.Proofs.YthhdaadbcogfnaaDoor
open Go.RowKit
set_option linter.unusedSimpArgs false
set_option linter.unusedVariables false

theorem known_sum : crS [49, 50, 51, 52, 53, 54, 55, 56, 57] = 3808858755#32 := by decide +kernel
theorem known_U : fdU [(5 : Int), 5, 7, 5] 4 = [2952790016#32] := by decide +kernel
theorem known_R : fdR [(5 : Int), 5, 7, 5] 4 = [5, 7, 5] := by decide +kernel
theorem lit_rwx {α : Type} {f : α → Value} (w : World) (cs : Array Value) (T : TypeId) (fr : Nat × Nat) (l : List α) (h : cs.toList = l.map f) : RwX f (w.alloc (.cells cs T fr)) (.slice (some ⟨w.heap.size, 0, none⟩) l.length l.length) l := by
  refine ⟨_, _, rfl, Nat.le_refl _, .inr ⟨w.heap.size, 0, rfl, fun j x hj => ?_⟩⟩
  have e : (w.alloc (.cells cs T fr)).heap[w.heap.size]? = some (.cells cs T fr) := by
    show (w.heap.push _)[w.heap.size]? = _
    simp
  have hc : cs[j]? = some (f x) := by
    rw [← Array.getElem?_toList, h, List.getElem?_map, hj]; rfl
  rw [Nat.zero_add]
  rw [cell_of_row _ _ _ _ _ _ e]; exact hc
set_option maxRecDepth 100000 in
set_option maxHeartbeats 16000000 in
theorem known13 (w : World) (hT : Hf w) :
    Calls Tryd.prog 5 #[] w fun e w' => e = .returned (.bool true) ∧ Below w.heap.size w w' := by
  have HT := hid13 hT
  clear hT
  have q1 := bl1 w (.cells #[.int .i64 5, .int .i64 5, .int .i64 7, .int .i64 5] 3)
  have HB1 := hid13 q1
  have HV1 := hid13 (lit_rwx (f := cI) w #[.int .i64 5, .int .i64 5, .int .i64 7, .int .i64 5] 3 (0, 0) [5, 5, 7, 5] rfl)
  clear q1
  go_enter Tryd.func5, Tryd.ntmps5
  go_wp2_with fail
  refine (foldI_any _ [5, 5, 7, 5] _ HV1.out (by decide)).mono ?_
  rintro e w1 ⟨vf, rfl, hF⟩
  have hB : Below w.heap.size w w1 := keepb hF.b HB1.out
  rw [show ([5, 5, 7, 5] : List Int).length = 4 from rfl, known_U, known_R] at hF
  have hs1 : (w.alloc (.cells #[.int .i64 5, .int .i64 5, .int .i64 7, .int .i64 5] 3)).heap.size = w.heap.size + 1 := by simp
  rw [hs1, show (([5, 5, 7, 5] : List Int).length + 31) / 32 = 1 from rfl]
  have hm0 : w1.cell? ⟨w.heap.size + 1, 0, none⟩ = some (.int .u32 2952790016) := by
    have := (hF.cell 0 (by decide)).1
    rw [show ([2952790016#32] : List (BitVec 32)).getD (0 / 32) 0#32 = 2952790016#32 from rfl, uI_of 2952790016 (by decide)] at this
    rw [hs1] at this
    exact this
  obtain ⟨gf, cf, rfl, hr1⟩ : ∃ gf cf, vf = .slice (some ⟨gf, 0, none⟩) 3 cf ∧ w1.cell? ⟨gf, 1, none⟩ = some (.int .i64 7) := by
    have hr := hF.r
    rcases hr.2 with ⟨-, h⟩ | ⟨g, cap, cur, rfl, -⟩
    · cases h
    · exact ⟨g, cap, rfl, by rw [hr.cellAt 1 (by decide)]; rfl⟩
  have HT1 := hid13 (HT.out.below hB)
  have HB := hid13 hB
  clear hF hB HB1 HV1 hs1 HT
  have q2 := bl1 w1 (.cells #[.int .u8 49, .int .u8 50, .int .u8 51, .int .u8 52] 5 (4, 5))
  have r2 := lit_rwx (f := cB) w1 #[.int .u8 49, .int .u8 50, .int .u8 51, .int .u8 52] 5 (4, 5) [49, 50, 51, 52] rfl
  obtain ⟨w2, hw2⟩ : ∃ w2, w2 = w1.alloc (.cells #[.int .u8 49, .int .u8 50, .int .u8 51, .int .u8 52] 5 (4, 5)) := ⟨_, rfl⟩
  have e2 : w2.heap.size = w1.heap.size + 1 := by rw [hw2]; simp
  rw [← hw2] at q2 r2
  have q3 := bl1 w2 (.cells #[.int .u8 53, .int .u8 54, .int .u8 55, .int .u8 56, .int .u8 57] 5 (5, 6))
  have r3 := lit_rwx (f := cB) w2 #[.int .u8 53, .int .u8 54, .int .u8 55, .int .u8 56, .int .u8 57] 5 (5, 6) [53, 54, 55, 56, 57] rfl
  obtain ⟨w3, hw3⟩ : ∃ w3, w3 = w2.alloc (.cells #[.int .u8 53, .int .u8 54, .int .u8 55, .int .u8 56, .int .u8 57] 5 (5, 6)) := ⟨_, rfl⟩
  have e3 : w3.heap.size = w1.heap.size + 2 := by rw [hw3, ← Nat.add_right_comm w1.heap.size 1 1, ← e2]; simp
  rw [← hw3] at q3 r3
  rw [e2] at r3
  have q4 := bl1 w3 (.cells #[.slice (some ⟨w1.heap.size, 0, none⟩) 4 4, .slice (some ⟨w1.heap.size + 1, 0, none⟩) 5 5] 24)
  have r4 := lit_rwx (f := fun p : Value × List Nat => p.1) w3 #[.slice (some ⟨w1.heap.size, 0, none⟩) 4 4, .slice (some ⟨w1.heap.size + 1, 0, none⟩) 5 5] 24 (0, 0) [(.slice (some ⟨w1.heap.size, 0, none⟩) 4 4, [49, 50, 51, 52]), (.slice (some ⟨w1.heap.size + 1, 0, none⟩) 5 5, [53, 54, 55, 56, 57])] rfl
  rw [e3] at r4
  have HS := sum_any _ _ _ r4 (by
    intro p hp
    simp only [List.mem_cons, List.mem_nil_iff, or_false] at hp
    rcases hp with rfl | rfl
    · exact ⟨(r2.below q3).below q4, by show 4 ≤ _; decide, by show ∀ b ∈ [49, 50, 51, 52], b < 256; decide⟩
    · exact ⟨r3.below q4, by show 5 ≤ _; decide, by show ∀ b ∈ [53, 54, 55, 56, 57], b < 256; decide⟩) (by show 2 ≤ _; decide) (((HT1.out.below q2).below q3).below q4)
  have HB4 := hid13 (keepb q4 (keepb q3 (keepb q2 HB.out)))
  have hsum : uI (crS (([(.slice (some ⟨w1.heap.size, 0, none⟩) 4 4, [49, 50, 51, 52]), (.slice (some ⟨w1.heap.size + 1, 0, none⟩) 5 5, [53, 54, 55, 56, 57])] : List (Value × List Nat)).map (·.2)).flatten) = 3808858755 := by
    show uI (crS [49, 50, 51, 52, 53, 54, 55, 56, 57]) = 3808858755
    rw [known_sum, uI_of 3808858755 (by decide)]
    rfl
  rw [hsum] at HS
  have hm4 := keepc q4 (keepc q3 (keepc q2 hm0))
  have hr4 := keepc q4 (keepc q3 (keepc q2 hr1))
  rw [hw3, hw2] at HS HB4 hm4 hr4
  have HS' := hid13 HS
  have HM4 := hid13 hm4
  have HR4 := hid13 hr4
  clear q2 r2 q3 r3 q4 r4 HS hsum hm0 hr1 e2 e3 hw2 hw3 w2 w3 HB HT1 hm4 hr4
  have kc := fun (w : World) (C : Array Value) (n c : Nat) => Lib.run_convert_bytes_const (P := Tryd.prog) w 24 5 C n c Tryd.underlying24 Tryd.underlying5
  have kc2 := kc (w1.alloc (.cells #[.int .u8 49, .int .u8 50, .int .u8 51, .int .u8 52] 5 (4, 5))) #[.int .u8 53, .int .u8 54, .int .u8 55, .int .u8 56, .int .u8 57] 5 5
  rw [show (w1.alloc (.cells #[.int .u8 49, .int .u8 50, .int .u8 51, .int .u8 52] 5 (4, 5))).heap.size = w1.heap.size + 1 by simp] at kc2
  go_wp2_with fail
  refine HS'.out.mono ?_
  rintro e w5 ⟨rfl, hw5⟩
  rw [← hw5] at HM4 HR4 HB4
  have hm5 := HM4.out
  have hr5 := HR4.out
  clear HS' hw5 HM4 HR4 kc kc2
  go_wp2
  go_ret
  exact ⟨rfl, HB4.out⟩
end Go.Proofs.YthhdaadbcogfnaaDoor
/-
  What package wire's halved, times, byBytes and Join do.
-/
namespace Go.Proofs.YthhdaadbcogfnaaDoor
open Go.RowKit
set_option linter.unusedSimpArgs false
set_option linter.unusedVariables false

theorem oddN (n : Nat) (h : n < 9223372036854775808) : bits .and .i64 (n : Int) 1 = ((n % 2 : Nat) : Int) := by
  unfold bits
  simp only [IntKind.bits]
  have e : (BitVec.ofInt 64 (n : Int) &&& BitVec.ofInt 64 1).toNat = n % 2 := by
    rw [BitVec.toNat_and]
    have e1 : (BitVec.ofInt 64 (n : Int)).toNat = n := by rw [BitVec.toNat_ofInt]; omega
    have e2 : (BitVec.ofInt 64 1).toNat = 1 := by decide
    rw [e1, e2]
    exact Nat.and_one_is_mod n
  show IntKind.i64.wrap (((BitVec.ofInt 64 (n : Int) &&& BitVec.ofInt 64 1).toNat : Nat) : Int) = _
  rw [e, IntKind.wrap_i64]
  omega
/-- What Join tells. -/
def jnU (a b : BitVec 32) (n : Int) : BitVec 32 := if n < 0 then 0#32 else hbN (8 * n.toNat) a ^^^ b
def jnE (n : Int) : Int := if n < 0 then 1 else 0
end Go.Proofs.YthhdaadbcogfnaaDoor
