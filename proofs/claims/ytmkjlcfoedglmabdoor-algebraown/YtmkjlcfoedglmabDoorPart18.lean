/-
  Part 18 of the proof: 5 texts, one behind the other.
-/
import Derived.Test.YtmkjlcfoedglmabDoorPart8
import Derived.Test.YtmkjlcfoedglmabDoorPart17
import Derived.Test.YtmkjlcfoedglmabDoorPart3
import Derived.Test.YtmkjlcfoedglmabDoorPart5
import Derived.Test.YtmkjlcfoedglmabDoorPart16
import Derived.Test.YtmkjlcfoedglmabDoorPart10
/-
  What the calls of package algebra's Table and of the law's known do.
-/
namespace Go.Proofs.YtmkjlcfoedglmabDoor
open Go.RowKit
set_option linter.unusedSimpArgs false
set_option linter.unusedVariables false

/-- What Table tells of some segments. -/
def tW (F : Int) (l : List Sg) : Int := if sgsE F l = 0 then tabW F l else 0
def tX (F : Int) (l : List Sg) : Int := if sgsE F l = 0 then tabX F l else sgsE F l
def tL (F : Int) (l : List Sg) : List Rte := if sgsE F l = 0 then tabL F l else []
theorem t_yes {F : Int} {l : List Sg} (h : sgsE F l = 0) : tW F l = tabW F l ∧ tX F l = tabX F l ∧ tL F l = tabL F l := by
  unfold tW tX tL
  rw [if_pos h, if_pos h, if_pos h]
  exact ⟨rfl, rfl, rfl⟩
theorem t_no {F : Int} {l : List Sg} (h : ¬ sgsE F l = 0) : tW F l = 0 ∧ tX F l = sgsE F l ∧ tL F l = [] := by
  unfold tW tX tL
  rw [if_neg h, if_neg h, if_neg h]
  exact ⟨rfl, rfl, rfl⟩
set_option maxRecDepth 20000 in
set_option maxHeartbeats 8000000 in
theorem table6_any (F : Int) (v : Value) (l : List Sg) (w : World) (hT : Tab w) (hv : RwG w v l) (hl : l.length ≤ 1000000000) :
    Calls Tryd.prog 15 #[.int .i64 F, v] w fun e w' => (∃ v', e = .returned (.tuple #[.agg #[.int .i64 (tW F l), v'], .int .i64 (tX F l)]) ∧ w'.ownsRow w.heap.size 50 4 v' (tL F l).length (rowR (tL F l))) ∧ Below w.heap.size w w' := by
  have b0 := bl1 w (.cells #[.int .i64 0, .slice none 0 0] 24)
  have KC := checkSegs_any F v l _ (hv.below b0) hl
  have HK : Hid (∀ W, Below w.heap.size w W → Calls Tryd.prog 27 #[.int .i64 F, v] W fun e w' => (∃ v', e = .returned (.tuple #[.agg #[.int .i64 (tabW F l), v'], .int .i64 (tabX F l)]) ∧ w'.ownsRow W.heap.size 50 4 v' (tabL F l).length (rowR (tabL F l))) ∧ Below W.heap.size W w') := hidR (fun W hW => covered_any F v l W (hT.keep hW) (hv.below hW) hl)
  have HU := hidR (atu_new w w.heap.size 0 (.slice none 0 0) 24 rfl)
  have HB := hidR b0
  have HY : Hid (sgsE F l = 0 → tW F l = tabW F l ∧ tX F l = tabX F l ∧ tL F l = tabL F l) := hidR t_yes
  have HN : Hid (¬ sgsE F l = 0 → tW F l = 0 ∧ tX F l = sgsE F l ∧ tL F l = []) := hidR t_no
  obtain ⟨ao, c, rfl, -⟩ := hv
  clear b0 hT
  revert KC HY HN HK
  generalize sgsE F l = ce
  generalize tW F l = tw
  generalize tX F l = tx
  generalize tL F l = tl
  generalize tabW F l = aw
  generalize tabX F l = ax
  generalize tabL F l = al
  intro HY HN KC HK
  go_enter Tryd.func15, Tryd.ntmps15
  go_wp2_with fail
  refine KC.mono ?_
  rintro e w1 ⟨rfl, hb⟩
  have HB1 := hidR (keepb hb HB.out)
  have HU1 := hidR (HU.out.heap (hb.block _ HU.out.lt))
  clear KC hb HB HU
  by_cases hce : ce = 0
  · subst hce
    have HY1 := hidR (HY.out rfl)
    clear HY HN
    have KV := HK.out w1 HB1.out
    go_wp2_with fail
    refine KV.mono ?_
    rintro e w2 ⟨⟨v', rfl, hown⟩, hb⟩
    have HU2 := hidR (HU1.out.heap (hb.block _ HU1.out.lt))
    have HB2 := hidR (bset2 (keepb hb HB1.out) (Nat.le_refl w.heap.size) (.int .i64 aw) v')
    have hlt := HU1.out.lt
    have HO : Hid (((w2.setCell ⟨w.heap.size, 0, none⟩ (.int .i64 aw)).setCell ⟨w.heap.size, 1, none⟩ v').ownsRow w.heap.size 50 4 v' al.length (rowR al)) := hidR (own_wide (own_heap hown (fun g e => by
      have := (hown.lt g e).1
      rw [hSet _ (by omega), hSet _ (by omega)])) HB1.out.size)
    obtain ⟨u0, u1, u2, u3⟩ := HU2.out
    obtain ⟨s0, s1, -, -⟩ := HU2.out.set2 aw v'
    obtain ⟨av, cv', rfl⟩ := own_form hown
    clear KV hb hown HK HU1 hlt
    go_wp2
    exact bodyPost_ret (v := .tuple #[.agg #[.int .i64 aw, .slice av al.length cv'], .int .i64 ax]) (by simp [results, Tryd.results15, go_sem, s0, s1]) rfl ⟨⟨_, by rw [HY1.out.1, HY1.out.2.1], by rw [HY1.out.2.2]; exact HO.out⟩, HB2.out⟩
  · have hn : (ce != 0) = true := by simp [hce]
    have HN1 := hidR (HN.out hce)
    obtain ⟨u0, u1, u2, u3⟩ := HU1.out
    have HB2 := hidR (bset2 HB1.out (Nat.le_refl w.heap.size) (.int .i64 0) (.slice none 0 0))
    obtain ⟨s0, s1, -, -⟩ := HU1.out.set2 0 (.slice none 0 0)
    clear HK HY HN hce
    go_wp2
    exact bodyPost_ret (v := .tuple #[.agg #[.int .i64 0, .slice none 0 0], .int .i64 ce]) (by simp [results, Tryd.results15, go_sem, s0, s1]) rfl ⟨⟨.slice none 0 0, by rw [HN1.out.1, HN1.out.2.1], by rw [HN1.out.2.2]; exact World.ownsRow_nil _ _ _ _⟩, HB2.out⟩
/-- The chapter's first example, as it is asked. -/
def kn0 : List Rte := [((0x0a000000000000000000000000000000#128, 8), 1)]
theorem kn_swp : swp 32 kn0 = [((0#128, 0x09ffffff000000000000000000000000#128), 0), ((0x0a000000000000000000000000000000#128, 0x0affffff000000000000000000000000#128), 1), ((0x0b000000000000000000000000000000#128, 0xffffffff000000000000000000000000#128), 0)] := by decide +kernel
theorem kn_rts : rtsE 32 kn0 = 0 := by decide +kernel
theorem kn_tab (z : Int) (h : TabE 32 kn0 z) : z = 0 := by
  rcases h.2 kn_rts with ⟨_, h⟩ | ⟨h, _⟩
  · exact h
  · exfalso
    apply h
    intro a ha
    simp [kn0] at ha
theorem kn_rwr (w : World) : RwR (w.alloc (.cells #[.int .u64 720575940379279360, .int .u64 0, .int .i64 8, .int .i64 1] 50)) (.slice (some ⟨w.heap.size, 0, none⟩) 1 1) kn0 := by
  refine ⟨some ⟨w.heap.size, 0, none⟩, 1, rfl, .inr ⟨w.heap.size, 0, rfl, ?_⟩⟩
  intro j u hj
  have h0 : hI 0x0a000000000000000000000000000000#128 = 720575940379279360 := by decide
  have h1 : lI 0x0a000000000000000000000000000000#128 = 0 := by decide
  have e : rowR kn0 = [.int .u64 720575940379279360, .int .u64 0, .int .i64 8, .int .i64 1] := by simp [kn0, rowR, h0, h1]
  rw [e] at hj
  rw [Nat.zero_add]
  match j, hj with
  | 0, hj => simp at hj; subst hj; simp [go_sem]
  | 1, hj => simp at hj; subst hj; simp [go_sem]
  | 2, hj => simp at hj; subst hj; simp [go_sem]
  | 3, hj => simp at hj; subst hj; simp [go_sem]
set_option maxRecDepth 20000 in
set_option maxHeartbeats 8000000 in
theorem known6_any (w : World) : Calls Tryd.prog 6 #[] w fun e w' => e = .returned (.bool true) ∧ Below w.heap.size w w' := by
  have KS := segs_any 32 _ kn0 _ (kn_rwr w)
  have HB := hidR (bl1 w (.cells #[.int .u64 720575940379279360, .int .u64 0, .int .i64 8, .int .i64 1] 50))
  go_enter Tryd.func6, Tryd.ntmps6
  go_wp2_with fail
  refine KS.mono ?_
  rintro e w1 ⟨⟨z, v', hz, rfl, hown, -⟩, hb⟩
  have hz0 := kn_tab z hz
  subst hz0
  have hown := hown rfl
  rw [kn_swp] at hown
  have HB1 := hidR (keepb hb HB.out)
  obtain ⟨g, cap, e, -, -⟩ := hown.form (by simp)
  have e : v' = .slice (some ⟨g, 0, none⟩) 3 cap := e
  subst e
  obtain ⟨c0, c1, -, -, c4⟩ := ownG_cells (g := g) (n := 3) hown 1 (by simp)
  have h0 : hI 0x0a000000000000000000000000000000#128 = 720575940379279360 := by decide
  have h1 : lI 0x0a000000000000000000000000000000#128 = 0 := by decide
  simp only [List.getElem_cons_succ, List.getElem_cons_zero, h0, h1] at c0 c1 c4
  clear KS hb HB hown hz
  go_wp2
  go_ret
  exact ⟨rfl, HB1.out⟩
end Go.Proofs.YtmkjlcfoedglmabDoor
/-
  What the call of the law's SameSegs (of two that are the same) does.
-/
namespace Go.Proofs.YtmkjlcfoedglmabDoor
open Go.RowKit
set_option linter.unusedSimpArgs false
set_option linter.unusedVariables false

theorem eqG_run (x y : BitVec 128) (h : Int) (w : World) :
    (Op.equalIn 10000 48 (.agg #[.int .u64 (hI x), .int .u64 (lI x), .int .u64 (hI y), .int .u64 (lI y), .int .i64 h]) (.agg #[.int .u64 (hI x), .int .u64 (lI x), .int .u64 (hI y), .int .u64 (lI y), .int .i64 h])).run Tryd.prog w = .ok true w := by
  go_simp
set_option maxHeartbeats 4000000 in
theorem sameSegs_any (v u : Value) (l : List Sg) (w : World) (hv : RwG w v l) (hu : RwG w u l) (hl : l.length ≤ 1000000000) :
    Calls Tryd.prog 16 #[v, u] w fun e w' => e = .returned (.bool true) ∧ Below w.heap.size w w' := by
  obtain ⟨ao, c, rfl, hv⟩ := hv
  obtain ⟨au, d, rfl, hu⟩ := hu
  have HV := hidR hv
  have HU := hidR hu
  clear hv hu
  go_enter Tryd.func16, Tryd.ntmps16
  go_wp2_with fail
  go_loopw [5] (fun i wr => ∃ k : Nat, k ≤ l.length ∧ i = .int .i64 k ∧ Below w.heap.size w wr) (fun i _ => l.length - (intOf i).toNat)
  case atStart => exact ⟨0, by omega, rfl, Below.refl _ _⟩
  case round =>
    obtain ⟨k, hk, rfl, hB⟩ := hrel
    by_cases hlt : (k : Int) < (l.length : Int)
    · have hks : k < l.length := by omega
      rcases HV.out with e | ⟨b, off, rfl, hc⟩
      · rw [e] at hks; simp at hks
      · rcases HU.out with e | ⟨b', off', rfl, hc'⟩
        · rw [e] at hks; simp at hks
        · obtain ⟨x0, x1, x2, x3, x4⟩ := rwg_cells hc k hks
          obtain ⟨y0, y1, y2, y3, y4⟩ := rwg_cells hc' k hks
          have x0 := keepc hB x0
          have x1 := keepc hB x1
          have x2 := keepc hB x2
          have x3 := keepc hB x3
          have x4 := keepc hB x4
          have y0 := keepc hB y0
          have y1 := keepc hB y1
          have y2 := keepc hB y2
          have y3 := keepc hB y3
          have y4 := keepc hB y4
          have hE := fun w => eqG_run l[k].1.1 l[k].1.2 l[k].2 w
          generalize l[k].1.1 = px at *
          generalize l[k].1.2 = pn at *
          generalize l[k].2 = ph at *
          have mk : IntKind.i64.wrap ((k : Int) + 1) = (k : Int) + 1 := by rw [IntKind.wrap_i64]; omega
          clear hc hc' HV HU
          go_wp2_with fail
          go_quiet (fail)
          go_wp2
          go_roundw
          case rel => exact ⟨k + 1, by omega, by go_num, below_drewN hB _⟩
          case measure => simp [intOf]; omega
    · have hd : ¬ k < l.length := by omega
      clear HV HU
      go_wp2
      go_ret
      exact ⟨rfl, hB⟩
end Go.Proofs.YtmkjlcfoedglmabDoor
/-
  A table whose neighbours are in order is in order.
-/
namespace Go.Proofs.YtmkjlcfoedglmabDoor
open Go.RowKit

theorem ord_adj {l : List Rte} (h : Adj l) : OrdR l := by
  intro a b hb hab
  induction b with
  | zero => omega
  | succ b ih =>
    have h1 := (pcmp_lt _ _ _ _).1 (h b hb)
    rcases Nat.lt_or_eq_of_le (Nat.le_of_lt_succ hab) with q | q
    · have h2 := (pcmp_lt _ _ _ _).1 (ih (by omega) q)
      refine (pcmp_lt _ _ _ _).2 ?_
      omega
    · subst q
      exact h a hb
end Go.Proofs.YtmkjlcfoedglmabDoor
/-
  What the calls of the law's SameRoutes, Same (of two that are the same) and Right do.
-/
namespace Go.Proofs.YtmkjlcfoedglmabDoor
open Go.RowKit
set_option linter.unusedSimpArgs false
set_option linter.unusedVariables false

theorem eqR_run (x : BitVec 128) (n h : Int) (w : World) :
    (Op.equalIn 10000 50 (.agg #[.int .u64 (hI x), .int .u64 (lI x), .int .i64 n, .int .i64 h]) (.agg #[.int .u64 (hI x), .int .u64 (lI x), .int .i64 n, .int .i64 h])).run Tryd.prog w = .ok true w := by
  go_simp
set_option maxHeartbeats 4000000 in
theorem sameRoutes_any (v u : Value) (l : List Rte) (w : World) (hv : RwR w v l) (hu : RwR w u l) (hl : l.length ≤ 1000000000) :
    Calls Tryd.prog 17 #[v, u] w fun e w' => e = .returned (.bool true) ∧ Below w.heap.size w w' := by
  obtain ⟨ao, c, rfl, hv⟩ := hv
  obtain ⟨au, d, rfl, hu⟩ := hu
  have HV := hidR hv
  have HU := hidR hu
  clear hv hu
  go_enter Tryd.func17, Tryd.ntmps17
  go_wp2_with fail
  go_loopw [5] (fun i wr => ∃ k : Nat, k ≤ l.length ∧ i = .int .i64 k ∧ Below w.heap.size w wr) (fun i _ => l.length - (intOf i).toNat)
  case atStart => exact ⟨0, by omega, rfl, Below.refl _ _⟩
  case round =>
    obtain ⟨k, hk, rfl, hB⟩ := hrel
    by_cases hlt : (k : Int) < (l.length : Int)
    · have hks : k < l.length := by omega
      rcases HV.out with e | ⟨b, off, rfl, hc⟩
      · rw [e] at hks; simp at hks
      · rcases HU.out with e | ⟨b', off', rfl, hc'⟩
        · rw [e] at hks; simp at hks
        · obtain ⟨x0, x1, x2, x3⟩ := rwr_cells hc k hks
          obtain ⟨y0, y1, y2, y3⟩ := rwr_cells hc' k hks
          have x0 := keepc hB x0
          have x1 := keepc hB x1
          have x2 := keepc hB x2
          have x3 := keepc hB x3
          have y0 := keepc hB y0
          have y1 := keepc hB y1
          have y2 := keepc hB y2
          have y3 := keepc hB y3
          have hE := fun w => eqR_run l[k].1.1 l[k].1.2 l[k].2 w
          generalize l[k].1.1 = px at *
          generalize l[k].1.2 = pn at *
          generalize l[k].2 = ph at *
          have mk : IntKind.i64.wrap ((k : Int) + 1) = (k : Int) + 1 := by rw [IntKind.wrap_i64]; omega
          clear hc hc' HV HU
          go_wp2_with fail
          go_quiet (fail)
          go_wp2
          go_roundw
          case rel => exact ⟨k + 1, by omega, by go_num, below_drewN hB _⟩
          case measure => simp [intOf]; omega
    · have hd : ¬ k < l.length := by omega
      clear HV HU
      go_wp2
      go_ret
      exact ⟨rfl, hB⟩
/-- Is a table right? -/
def RightT (F : Int) (l : List Rte) : Prop := l.length ≤ 3000 ∧ rtsE F l = 0 ∧ Adj l
set_option maxHeartbeats 2000000 in
theorem rightT_any (F : Int) (v : Value) (l : List Rte) (w : World) (hv : RwR w v l) :
    Calls Tryd.prog 7 #[.agg #[.int .i64 F, v]] w fun e w' => (∃ r : Bool, (r = true → RightT F l) ∧ e = .returned (.bool r)) ∧ Below w.heap.size w w' := by
  have b1 := bl1 w (.cells #[.int .i64 F, v] 24)
  have KC := rcheckT_any F v l _ (hv.below b1)
  obtain ⟨p0, p1⟩ := att_new w w.heap.size F v 24 rfl
  have HB := hidR b1
  obtain ⟨ao, c, rfl, -⟩ := hv
  clear b1
  by_cases hl : l.length ≤ 3000
  · have h1 : (l.length : Int) ≤ 3000 := by omega
    go_enter Tryd.func7, Tryd.ntmps7
    go_wp2_with fail
    refine KC.mono ?_
    rintro e w1 ⟨⟨z, hz, rfl⟩, hb⟩
    have kB := keepb hb HB.out
    have HE : Hid ((z == 0) = true → RightT F l) := hidR (fun h => by
      have h0 : z = 0 := by simpa using h
      subst h0
      have hr : rtsE F l = 0 := Classical.byContradiction fun hn => hn (hz.1 hn).symm
      refine ⟨hl, hr, ?_⟩
      rcases hz.2 hr with ⟨q, -⟩ | ⟨-, q⟩
      · exact q
      · omega)
    clear KC hb HB p0 p1 hz
    go_wp2
    go_ret
    exact ⟨⟨z == 0, HE.out, rfl⟩, kB⟩
  · have h1 : ¬ (l.length : Int) ≤ 3000 := by omega
    clear KC
    go_enter Tryd.func7, Tryd.ntmps7
    go_wp2
    go_ret
    exact ⟨.inl rfl, HB.out⟩
end Go.Proofs.YtmkjlcfoedglmabDoor
/-
  Two rows that are written over and grown, and all else that stays.
-/
namespace Go.Proofs.YtmkjlcfoedglmabDoor
open Go.RowKit
set_option linter.unusedSimpArgs false
set_option linter.unusedVariables false

/-- All blocks but some are as they were. -/
structure Bt (M : Nat → Prop) (V W : World) : Prop where
  os : W.os = V.os
  tape : W.tape = V.tape
  output : W.output = V.output
  size : V.heap.size ≤ W.heap.size
  blk : ∀ z, z < V.heap.size → ¬ M z → W.heap[z]? = V.heap[z]?
theorem Bt.refl (M : Nat → Prop) (V : World) : Bt M V V := ⟨rfl, rfl, rfl, Nat.le_refl _, fun _ _ _ => rfl⟩
theorem Bt.below {M : Nat → Prop} {V W W' : World} (h : Bt M V W) {B : Nat} (hb : Below B W W') (hB : V.heap.size ≤ B) : Bt M V W' :=
  ⟨by rw [hb.os, h.os], by rw [hb.tape, h.tape], by rw [hb.output, h.output], Nat.le_trans h.size hb.size, fun z h1 h2 => by rw [hb.block z (by omega), h.blk z h1 h2]⟩
theorem Bt.set {M : Nat → Prop} {V W : World} (h : Bt M V W) {g : Nat} (hg : M g ∨ V.heap.size ≤ g) (o : Nat) (u : Value) : Bt M V (W.setCell ⟨g, o, none⟩ u) := by
  have b : Below 0 W (W.setCell ⟨g, o, none⟩ u) := (Below.refl _ _).setCell (Nat.zero_le _) u
  refine ⟨by rw [b.os, h.os], by rw [b.tape, h.tape], by rw [b.output, h.output], Nat.le_trans h.size b.size, fun z h1 h2 => ?_⟩
  rw [hSet _ (fun e => ?_), h.blk z h1 h2]
  rcases hg with q | q
  · exact h2 (by rw [e]; exact q)
  · omega
theorem Bt.grown {M : Nat → Prop} {V W W' : World} (h : Bt M V W) {r : Option Nat} (hg : W.grownBy W' r) (hr : ∀ z, r = some z → M z ∨ V.heap.size ≤ z) : Bt M V W' :=
  ⟨by rw [hg.os, h.os], by rw [hg.tape, h.tape], by rw [hg.output, h.output], Nat.le_trans h.size hg.size, fun z h1 h2 => by
    rw [hg.block z (by have := h.size; omega) (fun e => ?_), h.blk z h1 h2]
    rcases hr z e.symm with q | q
    · exact h2 q
    · omega⟩
theorem Bt.low {M : Nat → Prop} {w V W : World} (h : Bt M V W) (hb : Below w.heap.size w V) (hM : ∀ z, M z → w.heap.size ≤ z) : Below w.heap.size w W :=
  ⟨by rw [h.os, hb.os], by rw [h.tape, hb.tape], by rw [h.output, hb.output], Nat.le_trans hb.size h.size, fun z hz => by
    rw [h.blk z (by have := hb.size; omega) (fun q => by have := hM z q; omega), hb.block z hz]⟩
/-- A row of segments, a row of routes with its table, each one's own. -/
structure OwS (M : Nat → Prop) (V : World) (base : Nat) (va : Value) (n : Nat) (vu : Value) (m UB : Nat) (tw : Int) (W : World) : Prop where
  a : ∃ xs, W.ownsRow base 48 5 va n xs
  u : ∃ xs, W.ownsRow base 50 4 vu m xs
  t : AtU W UB tw vu
  bt : Bt M V W
  d1 : ∀ z, va.ownBlock = some z → vu.ownBlock ≠ some z
  d2 : va.ownBlock ≠ some UB
  d3 : vu.ownBlock ≠ some UB
  ma : ∀ z, va.ownBlock = some z → M z ∨ V.heap.size ≤ z
  mu : ∀ z, vu.ownBlock = some z → M z ∨ V.heap.size ≤ z
  mU : M UB
  bs : base ≤ V.heap.size
theorem OwS.setA {M : Nat → Prop} {V : World} {base : Nat} {n : Nat} {vu : Value} {m UB : Nat} {tw : Int} {W : World} {g cap : Nat} (k : OwS M V base (.slice (some ⟨g, 0, none⟩) n cap) n vu m UB tw W) (j : Nat) (x : Value) : OwS M V base (.slice (some ⟨g, 0, none⟩) n cap) n vu m UB tw (W.setCell ⟨g, j, none⟩ x) := by
  obtain ⟨xs, ha⟩ := k.a
  obtain ⟨ys, hu⟩ := k.u
  have e : Value.ownBlock (.slice (some ⟨g, 0, none⟩) n cap) = some g := rfl
  refine ⟨⟨_, (ha.stored j x).1⟩, ⟨ys, own_heap hu (fun z q => hSet _ (fun e2 => ?_))⟩, k.t.heap (hSet _ (fun e2 => ?_)), k.bt.set (k.ma g e) j x, k.d1, k.d2, k.d3, k.ma, k.mu, k.mU, k.bs⟩
  · exact k.d1 g e (by rw [q, e2])
  · exact k.d2 (by rw [e, e2])
theorem OwS.setU {M : Nat → Prop} {V : World} {base : Nat} {va : Value} {n m UB : Nat} {tw : Int} {W : World} {g cap : Nat} (k : OwS M V base va n (.slice (some ⟨g, 0, none⟩) m cap) m UB tw W) (j : Nat) (x : Value) : OwS M V base va n (.slice (some ⟨g, 0, none⟩) m cap) m UB tw (W.setCell ⟨g, j, none⟩ x) := by
  obtain ⟨xs, ha⟩ := k.a
  obtain ⟨ys, hu⟩ := k.u
  have e : Value.ownBlock (.slice (some ⟨g, 0, none⟩) m cap) = some g := rfl
  refine ⟨⟨xs, own_heap ha (fun z q => hSet _ (fun e2 => ?_))⟩, ⟨_, (hu.stored j x).1⟩, k.t.heap (hSet _ (fun e2 => ?_)), k.bt.set (k.mu g e) j x, k.d1, k.d2, k.d3, k.ma, k.mu, k.mU, k.bs⟩
  · exact k.d1 z q (by rw [e, e2])
  · exact k.d3 (by rw [e, e2])
theorem OwS.al {M : Nat → Prop} {V : World} {base : Nat} {va : Value} {n : Nat} {vu : Value} {m UB : Nat} {tw : Int} {W : World} (k : OwS M V base va n vu m UB tw W) (o : Obj) : OwS M V base va n vu m UB tw (W.alloc o) := by
  obtain ⟨xs, ha⟩ := k.a
  obtain ⟨ys, hu⟩ := k.u
  exact ⟨⟨xs, ha.alloc o⟩, ⟨ys, hu.alloc o⟩, k.t.heap (hAl o k.t.lt), k.bt.grown (World.grownBy_alloc W o none) (fun z e => by cases e), k.d1, k.d2, k.d3, k.ma, k.mu, k.mU, k.bs⟩
theorem OwS.appA {M : Nat → Prop} {V : World} {base : Nat} {va : Value} {n : Nat} {vu : Value} {m UB : Nat} {tw : Int} {W w4 : World} {g cap : Nat} {xs : List Value} (k : OwS M V base va n vu m UB tw W)
    (hown : w4.ownsRow base 48 5 (.slice (some ⟨g, 0, none⟩) (n + 1) cap) (n + 1) xs) (hg : W.grownBy w4 va.ownBlock) (hat : va.ownBlock = some g ∨ g = W.heap.size) : OwS M V base (.slice (some ⟨g, 0, none⟩) (n + 1) cap) (n + 1) vu m UB tw w4 := by
  obtain ⟨ys, hu⟩ := k.u
  have ob : ∀ z, Value.ownBlock (.slice (some ⟨g, 0, none⟩) (n + 1) cap) = some z → g = z := fun z e => by simpa [Value.ownBlock] using e
  have gne : ∀ z, z < W.heap.size → va.ownBlock ≠ some z → g ≠ z := by
    intro z h1 h2 e
    rcases hat with q | q
    · exact h2 (by rw [q, e])
    · omega
  have he : ∀ z, z < W.heap.size → va.ownBlock ≠ some z → w4.heap[z]? = W.heap[z]? := fun z q1 q2 => hg.block z q1 (fun e => q2 e.symm)
  have dz : ∀ z, vu.ownBlock = some z → va.ownBlock ≠ some z := fun z e q => k.d1 z q e
  refine ⟨⟨xs, hown⟩, ⟨ys, own_heap hu (fun z e => he z (hu.lt z e).2 (dz z e))⟩, k.t.heap (he UB k.t.lt k.d2), k.bt.grown hg k.ma, ?_, ?_, k.d3, ?_, k.mu, k.mU, k.bs⟩
  · intro z e e2
    exact gne z (hu.lt z e2).2 (dz z e2) (ob z e)
  · intro e
    exact gne UB k.t.lt k.d2 (ob UB e)
  · intro z e
    rw [← ob z e]
    rcases hat with q | q
    · exact k.ma g q
    · right
      have := k.bt.size
      omega
theorem OwS.appU {M : Nat → Prop} {V : World} {base : Nat} {va : Value} {n : Nat} {vu : Value} {m UB : Nat} {tw : Int} {W w4 : World} {g cap : Nat} {xs : List Value} (k : OwS M V base va n vu m UB tw W)
    (hown : w4.ownsRow base 50 4 (.slice (some ⟨g, 0, none⟩) (m + 1) cap) (m + 1) xs) (hg : W.grownBy w4 vu.ownBlock) (hat : vu.ownBlock = some g ∨ g = W.heap.size) :
    AtU w4 UB tw vu ∧ OwS M V base va n (.slice (some ⟨g, 0, none⟩) (m + 1) cap) (m + 1) UB tw (w4.setCell ⟨UB, 1, none⟩ (.slice (some ⟨g, 0, none⟩) (m + 1) cap)) := by
  obtain ⟨ys, ha⟩ := k.a
  have ob : ∀ z, Value.ownBlock (.slice (some ⟨g, 0, none⟩) (m + 1) cap) = some z → g = z := fun z e => by simpa [Value.ownBlock] using e
  have gne : ∀ z, z < W.heap.size → vu.ownBlock ≠ some z → g ≠ z := by
    intro z h1 h2 e
    rcases hat with q | q
    · exact h2 (by rw [q, e])
    · omega
  have he : ∀ z, z < W.heap.size → vu.ownBlock ≠ some z → w4.heap[z]? = W.heap[z]? := fun z q1 q2 => hg.block z q1 (fun e => q2 e.symm)
  have gU : g ≠ UB := gne UB k.t.lt k.d3
  have ht := k.t.heap (he UB k.t.lt k.d3)
  refine ⟨ht, ⟨ys, own_heap ha (fun z e => ?_)⟩, ⟨xs, own_heap hown (fun z e => hSet _ (by rw [← ob z e]; exact gU))⟩, ht.set1 _, (k.bt.grown hg k.mu).set (.inl k.mU) _ _, ?_, k.d2, ?_, k.ma, ?_, k.mU, k.bs⟩
  · rw [hSet _ (fun q => k.d2 (by rw [e, q])), he z (ha.lt z e).2 (k.d1 z e)]
  · intro z e e2
    exact gne z (ha.lt z e).2 (k.d1 z e) (ob z e2)
  · intro e
    exact gU (ob UB e)
  · intro z e
    rw [← ob z e]
    rcases hat with q | q
    · exact k.mu g q
    · right
      have := k.bt.size
      omega
theorem own_any {W : World} {base e size n g cap : Nat} {xs : List Value} (h : W.ownsRow base e size (.slice (some ⟨g, 0, none⟩) n cap) n xs) (j : Nat) (hj : j < n * size) : (∃ u, W.cell? ⟨g, j, none⟩ = some u) ∧ W.frozen? ⟨g, j, none⟩ = false := by
  refine ⟨?_, h.frozenAt j⟩
  rw [h.cellAt j hj]
  exact ⟨_, List.getElem?_eq_getElem (by rw [h.1]; exact hj)⟩
end Go.Proofs.YtmkjlcfoedglmabDoor
