/-
  Part 22 of the proof: 7 texts, one behind the other.
-/
import Derived.Test.YtmkjlcfoedglmabPart21
import Derived.Test.YtmkjlcfoedglmabPart8
import Derived.Test.YtmkjlcfoedglmabPart3
import Derived.Test.YtmkjlcfoedglmabPart6
import Derived.Test.YtmkjlcfoedglmabPart20
import Derived.Test.YtmkjlcfoedglmabPart7
import Derived.Test.YtmkjlcfoedglmabPart13
/-
  What the call of package algebra's covered does.
-/
namespace Go.Proofs.Ytmkjlcfoedglmab
open Go.RowKit
set_option linter.unusedSimpArgs false
set_option linter.unusedVariables false

/-- What is known while a segment's routes are laid behind the others. -/
structure CvI (w : World) (F : Int) (S0 : Nat) (x y : BitVec 128) (h : Int) (cv : Value) (T : List (BitVec 128 × Int)) (L : List Rte) (dv : Value) (W : World) : Prop where
  t : AtU W (w.heap.size + 1) F dv
  r : AtU W w.heap.size 0 (.slice none 0 0)
  s : AtG W S0 x y h
  own : W.ownsRow (w.heap.size + 2) 47 4 dv L.length (rowR L)
  cov : W.ownsRow (S0 + 1) 31 3 cv T.length (rowP T)
  ne1 : dv.ownBlock ≠ some S0
  ne2 : ∀ z, cv.ownBlock = some z → dv.ownBlock ≠ some z
  bel : Below w.heap.size w W
  s0 : w.heap.size + 2 ≤ S0
theorem CvI.step {w : World} {F : Int} {S0 : Nat} {x y : BitVec 128} {h : Int} {cv : Value} {T : List (BitVec 128 × Int)} {L : List Rte} {dv : Value} {W w4 : World} (k : CvI w F S0 x y h cv T L dv W) (o1 o2 : Obj) (px : BitVec 128) (pn : Int) (g cap : Nat)
    (hown : w4.ownsRow (w.heap.size + 2) 47 4 (.slice (some ⟨g, 0, none⟩) (L.length + 1) cap) (L.length + 1) (rowR L ++ [.int .u64 (hI px), .int .u64 (lI px), .int .i64 pn, .int .i64 h])) (hg : ((W.alloc o1).alloc o2).grownBy w4 dv.ownBlock) (hat : dv.ownBlock = some g ∨ g = ((W.alloc o1).alloc o2).heap.size) :
    CvI w F S0 x y h cv T (L ++ [((px, pn), h)]) (.slice (some ⟨g, 0, none⟩) (L.length + 1) cap) (w4.setCell ⟨w.heap.size + 1, 1, none⟩ (.slice (some ⟨g, 0, none⟩) (L.length + 1) cap)) := by
  have hz : ((W.alloc o1).alloc o2).heap.size = W.heap.size + 2 := by simp
  have hT := k.t.lt
  have hS := k.s.lt
  have hR := k.r.lt
  have ob : ∀ z, dv.ownBlock = some z → w.heap.size + 2 ≤ z ∧ z < W.heap.size := fun z e => k.own.lt z e
  have he : ∀ z, z < W.heap.size → dv.ownBlock ≠ some z → w4.heap[z]? = W.heap[z]? := by
    intro z h1 h2
    rw [hg.block z (by omega) (fun e => h2 e.symm), hAl _ (by simp; omega), hAl _ h1]
  have hT' : w4.heap[w.heap.size + 1]? = W.heap[w.heap.size + 1]? := he _ hT (fun e => by have := (ob _ e).1; omega)
  have gne : ∀ z, z < W.heap.size → dv.ownBlock ≠ some z → g ≠ z := by
    intro z h1 h2 e
    rcases hat with q | q
    · exact h2 (by rw [q, e])
    · omega
  have gT : g ≠ w.heap.size + 1 := gne _ hT (fun e => by have := (ob _ e).1; omega)
  refine ⟨(k.t.heap hT').set1 _, ?_, ?_, ?_, ?_, ?_, ?_, ?_, k.s0⟩
  · exact k.r.heap (by rw [hSet _ (by omega), he _ hR (fun e => by have := (ob _ e).1; omega)])
  · exact k.s.heap (by rw [hSet _ (by have := k.s0; omega), he _ hS k.ne1])
  · rw [show (L ++ [((px, pn), h)]).length = L.length + 1 by simp, rowR_one]
    refine own_heap hown (fun z e => ?_)
    have : z = g := by simpa [Value.ownBlock] using e.symm
    rw [this, hSet _ gT]
  · refine own_heap k.cov (fun z e => ?_)
    have hz' := k.cov.lt z e
    rw [hSet _ (by have := k.s0; omega), he z hz'.2 (k.ne2 z e)]
  · intro e
    have : g = S0 := by simpa [Value.ownBlock] using e
    exact gne S0 hS k.ne1 this
  · intro z e e2
    have hz' := k.cov.lt z e
    have : g = z := by simpa [Value.ownBlock] using e2
    exact gne z hz'.2 (k.ne2 z e) this
  · refine Below.setCell ?_ (by simp) _
    exact ((k.bel.alloc k.bel.size o1).alloc (by simp; have := k.bel.size; omega) o2).grown hg (by have := k.bel.size; omega) (fun z e => by have := (ob z e).1; omega)
def okL (F : Int) (l : List Sg) : Bool := decide ((covR F l).length ≤ 1048576)
/-- The routes of the table of some segments. -/
def tabL (F : Int) (l : List Sg) : List Rte := if okL F l = true then covR F l else []
/-- The family, the error of the table of some segments. -/
def tabW (F : Int) (l : List Sg) : Int := if okL F l = true then F else 0
def tabX (F : Int) (l : List Sg) : Int := if okL F l = true then 0 else 16
theorem tab_yes {F : Int} {l : List Sg} (h : okL F l = true) : tabW F l = F ∧ tabX F l = 0 ∧ tabL F l = covR F l := by
  unfold tabW tabX tabL
  rw [if_pos h, if_pos h, if_pos h]
  exact ⟨rfl, rfl, rfl⟩
theorem tab_no {F : Int} {l : List Sg} (h : okL F l = false) : tabW F l = 0 ∧ tabX F l = 16 ∧ tabL F l = [] := by
  have h : ¬ okL F l = true := by rw [h]; decide
  unfold tabW tabX tabL
  rw [if_neg h, if_neg h, if_neg h]
  exact ⟨rfl, rfl, rfl⟩
theorem rowP_get6 : ∀ (l : List (BitVec 128 × Int)) (j : Nat) (hj : j < l.length), (rowP l)[j * 3]? = some (.int .u64 (hI l[j].1)) ∧ (rowP l)[j * 3 + 1]? = some (.int .u64 (lI l[j].1)) ∧ (rowP l)[j * 3 + 2]? = some (.int .i64 l[j].2) := by
  intro l
  induction l with
  | nil => intro j hj; simp at hj
  | cons p l ih =>
    intro j hj
    cases j with
    | zero => simp [rowP]
    | succ j =>
      have := ih j (by simpa using hj)
      rw [show (j + 1) * 3 = j * 3 + 3 by omega, show j * 3 + 3 + 1 = j * 3 + 1 + 3 by omega, show j * 3 + 3 + 2 = j * 3 + 2 + 3 by omega]
      simpa [rowP] using this
theorem rowP_cells6 {W : World} {base g cap : Nat} {T : List (BitVec 128 × Int)} (h : W.ownsRow base 31 3 (.slice (some ⟨g, 0, none⟩) T.length cap) T.length (rowP T)) (j : Nat) (hj : j < T.length) :
    W.cell? ⟨g, j * 3, none⟩ = some (.int .u64 (hI T[j].1)) ∧ W.cell? ⟨g, j * 3 + 1, none⟩ = some (.int .u64 (lI T[j].1)) ∧ W.cell? ⟨g, j * 3 + 2, none⟩ = some (.int .i64 T[j].2) := by
  obtain ⟨a0, a1, a2⟩ := rowP_get6 T j hj
  have f := fun k u => h.cells (g := g) rfl k u
  exact ⟨by have := f _ _ a0; rwa [addA, Nat.zero_add] at this, by have := f _ _ a1; rwa [addA, Nat.zero_add] at this, by have := f _ _ a2; rwa [addA, Nat.zero_add] at this⟩
theorem cov_part (F : Int) (l : List Sg) (k : Nat) (hk : k < l.length) (h0 : ¬ l[k].2 = 0) : covR F (l.take (k + 1)) = covR F (l.take k) ++ ((covT F l[k].1.1 l[k].1.2).take (covT F l[k].1.1 l[k].1.2).length).map (fun p => (p, l[k].2)) := by
  rw [covR_take F l k hk, covS, if_neg h0, List.take_length]
theorem cov_zero (F : Int) (l : List Sg) (k : Nat) (hk : k < l.length) (h0 : l[k].2 = 0) : covR F (l.take (k + 1)) = covR F (l.take k) := by
  rw [covR_take F l k hk, covS, if_pos h0, List.append_nil]
theorem cov_sub (F : Int) (l : List Sg) (k : Nat) : (covR F (l.take k)).length ≤ (covR F l).length := by
  have : covR F l = covR F (l.take k) ++ covR F (l.drop k) := by rw [← covR_app, List.take_append_drop]
  rw [this, List.length_append]; omega
theorem CvI.mid {w : World} {F : Int} {S0 : Nat} {x y : BitVec 128} {h : Int} {cv : Value} {T : List (BitVec 128 × Int)} {L : List Rte} {dv : Value} {W w4 : World} (k : CvI w F S0 x y h cv T L dv W) (o1 o2 : Obj) (hg : ((W.alloc o1).alloc o2).grownBy w4 dv.ownBlock) : AtU w4 (w.heap.size + 1) F dv := by
  have hT := k.t.lt
  refine k.t.heap ?_
  rw [hg.block _ (by simp; omega) (fun e => by have := (k.own.lt _ e.symm).1; omega), hAl _ (by simp; omega), hAl _ hT]
theorem CvI.start {w : World} {F : Int} {x y : BitVec 128} {h : Int} {cv : Value} {T : List (BitVec 128 × Int)} {L : List Rte} {dv : Value} {wr w2 : World} (kT : AtU wr (w.heap.size + 1) F dv) (kR : AtU wr w.heap.size 0 (.slice none 0 0)) (hown : wr.ownsRow (w.heap.size + 2) 47 4 dv L.length (rowR L)) (kB : Below w.heap.size w wr)
    (hb : Below (wr.alloc (.cells #[.int .u64 (hI x), .int .u64 (lI x), .int .u64 (hI y), .int .u64 (lI y), .int .i64 h] 49)).heap.size (wr.alloc (.cells #[.int .u64 (hI x), .int .u64 (lI x), .int .u64 (hI y), .int .u64 (lI y), .int .i64 h] 49)) w2)
    (hcov : w2.ownsRow (wr.alloc (.cells #[.int .u64 (hI x), .int .u64 (lI x), .int .u64 (hI y), .int .u64 (lI y), .int .i64 h] 49)).heap.size 31 3 cv T.length (rowP T)) : CvI w F wr.heap.size x y h cv T L dv w2 := by
  have hz : (wr.alloc (.cells #[.int .u64 (hI x), .int .u64 (lI x), .int .u64 (hI y), .int .u64 (lI y), .int .i64 h] 49)).heap.size = wr.heap.size + 1 := by simp
  have he : ∀ z, z < wr.heap.size → w2.heap[z]? = wr.heap[z]? := fun z hz' => by rw [hb.block z (by omega), hAl _ hz']
  have hT := kT.lt
  have hR := kR.lt
  rw [hz] at hcov
  refine ⟨kT.heap (he _ hT), kR.heap (he _ hR), (atg_new wr wr.heap.size x y h 49 rfl).below hb, own_heap hown (fun g e => he g (hown.lt g e).2), hcov, fun e => by have := (hown.lt _ e).2; omega, fun z e e2 => ?_, keepb hb (kB.alloc kB.size _), by omega⟩
  have := (hown.lt _ e2).2
  have := (hcov.lt z e).1
  omega
theorem newsB (W : World) (B : Nat) (hB : B = W.heap.size) (a b c d : Value) (t : TypeId) : ∀ j u, [a, b, c, d][j]? = some u → (W.alloc (.cells #[a, b, c, d] t)).cell? ((⟨B, 0, none⟩ : Addr).add j) = some u := by
  subst hB
  intro j u hj
  match j, hj with
  | 0, hj => simp at hj; subst hj; simp [Addr.add, go_sem]
  | 1, hj => simp at hj; subst hj; simp [Addr.add, go_sem]
  | 2, hj => simp at hj; subst hj; simp [Addr.add, go_sem]
  | 3, hj => simp at hj; subst hj; simp [Addr.add, go_sem]
theorem cov_app (T : List (BitVec 128 × Int)) (L : List Rte) (h : Int) (j : Nat) (hj : j < T.length) : L ++ (T.take (j + 1)).map (fun p => (p, h)) = (L ++ (T.take j).map (fun p => (p, h))) ++ [((T[j].1, T[j].2), h)] := by
  rw [List.take_add_one, List.getElem?_eq_getElem hj, List.map_append, ← List.append_assoc]
  rfl
theorem cov_size (T : List (BitVec 128 × Int)) (L : List Rte) (h : Int) (j : Nat) : (L ++ (T.take j).map (fun p => (p, h))).length ≤ L.length + T.length := by
  simp; omega
end Go.Proofs.Ytmkjlcfoedglmab
/-
  What the calls of package algebra's checkSeg and checkSegs do.
-/
namespace Go.Proofs.Ytmkjlcfoedglmab
open Go.RowKit
set_option linter.unusedSimpArgs false
set_option linter.unusedVariables false

/-- The segment ahead of place k. -/
def prevO (l : List Sg) : Nat → Option Sg
  | 0 => none
  | k + 1 => l[k]?
theorem sgs_drop (F : Int) (l : List Sg) (k : Nat) (hk : k < l.length) (p : Option Sg) : sgsGo F p (l.drop k) = if sgE F l[k] = 0 then (if moO F p = true then (if (l[k].1.1 == nxO F p) = true then (if p.map (·.2) = some l[k].2 then 19 else sgsGo F (some l[k]) (l.drop (k + 1))) else 19) else 19) else sgE F l[k] := by
  rw [List.drop_eq_getElem_cons hk, sgsGo]
end Go.Proofs.Ytmkjlcfoedglmab
/-
  What the calls of package algebra's Table and of the law's known do.
-/
namespace Go.Proofs.Ytmkjlcfoedglmab
open Go.RowKit
set_option linter.unusedSimpArgs false
set_option linter.unusedVariables false

/-- What Table tells of some segments. -/
def tW (F : Int) (l : List Sg) : Int := if sgsE F l = 0 then tabW F l else 0
def tX (F : Int) (l : List Sg) : Int := if sgsE F l = 0 then tabX F l else sgsE F l
def tL (F : Int) (l : List Sg) : List Rte := if sgsE F l = 0 then tabL F l else []
theorem t_yes {F : Int} {l : List Sg} (h : sgsE F l = 0) : tW F l = tabW F l ∧ tX F l = tabX F l ∧ tL F l = tabL F l := by
  unfold tW tX tL
  rw [if_pos h, if_pos h, if_pos h]
  exact ⟨rfl, rfl, rfl⟩
theorem t_no {F : Int} {l : List Sg} (h : ¬ sgsE F l = 0) : tW F l = 0 ∧ tX F l = sgsE F l ∧ tL F l = [] := by
  unfold tW tX tL
  rw [if_neg h, if_neg h, if_neg h]
  exact ⟨rfl, rfl, rfl⟩
/-- The chapter's first example, as it is asked. -/
def kn0 : List Rte := [((0x0a000000000000000000000000000000#128, 8), 1)]
theorem kn_swp : swp 32 kn0 = [((0#128, 0x09ffffff000000000000000000000000#128), 0), ((0x0a000000000000000000000000000000#128, 0x0affffff000000000000000000000000#128), 1), ((0x0b000000000000000000000000000000#128, 0xffffffff000000000000000000000000#128), 0)] := by decide +kernel
theorem kn_rts : rtsE 32 kn0 = 0 := by decide +kernel
theorem kn_tab (z : Int) (h : TabE 32 kn0 z) : z = 0 := by
  rcases h.2 kn_rts with ⟨_, h⟩ | ⟨h, _⟩
  · exact h
  · exfalso
    apply h
    intro a ha
    simp [kn0] at ha
theorem kn_rwr (w : World) : RwR (w.alloc (.cells #[.int .u64 720575940379279360, .int .u64 0, .int .i64 8, .int .i64 1] 47)) (.slice (some ⟨w.heap.size, 0, none⟩) 1 1) kn0 := by
  refine ⟨some ⟨w.heap.size, 0, none⟩, 1, rfl, .inr ⟨w.heap.size, 0, rfl, ?_⟩⟩
  intro j u hj
  have h0 : hI 0x0a000000000000000000000000000000#128 = 720575940379279360 := by decide
  have h1 : lI 0x0a000000000000000000000000000000#128 = 0 := by decide
  have e : rowR kn0 = [.int .u64 720575940379279360, .int .u64 0, .int .i64 8, .int .i64 1] := by simp [kn0, rowR, h0, h1]
  rw [e] at hj
  rw [Nat.zero_add]
  match j, hj with
  | 0, hj => simp at hj; subst hj; simp [go_sem]
  | 1, hj => simp at hj; subst hj; simp [go_sem]
  | 2, hj => simp at hj; subst hj; simp [go_sem]
  | 3, hj => simp at hj; subst hj; simp [go_sem]
set_option maxRecDepth 20000 in
set_option maxHeartbeats 8000000 in
theorem known6_any (w : World) : Calls Try.prog 4 #[] w fun e w' => e = .returned (.bool true) ∧ Below w.heap.size w w' := by
  have KS := segs_any 32 _ kn0 _ (kn_rwr w)
  have HB := hidR (bl1 w (.cells #[.int .u64 720575940379279360, .int .u64 0, .int .i64 8, .int .i64 1] 47))
  go_enter Try.func4, Try.ntmps4
  go_wp2_with fail
  refine KS.mono ?_
  rintro e w1 ⟨⟨z, v', hz, rfl, hown, -⟩, hb⟩
  have hz0 := kn_tab z hz
  subst hz0
  have hown := hown rfl
  rw [kn_swp] at hown
  have HB1 := hidR (keepb hb HB.out)
  obtain ⟨g, cap, e, -, -⟩ := hown.form (by simp)
  have e : v' = .slice (some ⟨g, 0, none⟩) 3 cap := e
  subst e
  obtain ⟨c0, c1, -, -, c4⟩ := ownG_cells (g := g) (n := 3) hown 1 (by simp)
  have h0 : hI 0x0a000000000000000000000000000000#128 = 720575940379279360 := by decide
  have h1 : lI 0x0a000000000000000000000000000000#128 = 0 := by decide
  simp only [List.getElem_cons_succ, List.getElem_cons_zero, h0, h1] at c0 c1 c4
  clear KS hb HB hown hz
  go_wp2
  go_ret
  exact ⟨rfl, HB1.out⟩
end Go.Proofs.Ytmkjlcfoedglmab
/-
  What the call of the law's SameSegs (of two that are the same) does.
-/
namespace Go.Proofs.Ytmkjlcfoedglmab
open Go.RowKit
set_option linter.unusedSimpArgs false
set_option linter.unusedVariables false

theorem eqG_run (x y : BitVec 128) (h : Int) (w : World) :
    (Op.equalIn 10000 49 (.agg #[.int .u64 (hI x), .int .u64 (lI x), .int .u64 (hI y), .int .u64 (lI y), .int .i64 h]) (.agg #[.int .u64 (hI x), .int .u64 (lI x), .int .u64 (hI y), .int .u64 (lI y), .int .i64 h])).run Try.prog w = .ok true w := by
  go_simp
set_option maxHeartbeats 4000000 in
theorem sameSegs_any (v u : Value) (l : List Sg) (w : World) (hv : RwG w v l) (hu : RwG w u l) (hl : l.length ≤ 1000000000) :
    Calls Try.prog 10 #[v, u] w fun e w' => e = .returned (.bool true) ∧ Below w.heap.size w w' := by
  obtain ⟨ao, c, rfl, hv⟩ := hv
  obtain ⟨au, d, rfl, hu⟩ := hu
  have HV := hidR hv
  have HU := hidR hu
  clear hv hu
  go_enter Try.func10, Try.ntmps10
  go_wp2_with fail
  go_loopw [5] (fun i wr => ∃ k : Nat, k ≤ l.length ∧ i = .int .i64 k ∧ Below w.heap.size w wr) (fun i _ => l.length - (intOf i).toNat)
  case atStart => exact ⟨0, by omega, rfl, Below.refl _ _⟩
  case round =>
    obtain ⟨k, hk, rfl, hB⟩ := hrel
    by_cases hlt : (k : Int) < (l.length : Int)
    · have hks : k < l.length := by omega
      rcases HV.out with e | ⟨b, off, rfl, hc⟩
      · rw [e] at hks; simp at hks
      · rcases HU.out with e | ⟨b', off', rfl, hc'⟩
        · rw [e] at hks; simp at hks
        · obtain ⟨x0, x1, x2, x3, x4⟩ := rwg_cells hc k hks
          obtain ⟨y0, y1, y2, y3, y4⟩ := rwg_cells hc' k hks
          have x0 := keepc hB x0
          have x1 := keepc hB x1
          have x2 := keepc hB x2
          have x3 := keepc hB x3
          have x4 := keepc hB x4
          have y0 := keepc hB y0
          have y1 := keepc hB y1
          have y2 := keepc hB y2
          have y3 := keepc hB y3
          have y4 := keepc hB y4
          have hE := fun w => eqG_run l[k].1.1 l[k].1.2 l[k].2 w
          generalize l[k].1.1 = px at *
          generalize l[k].1.2 = pn at *
          generalize l[k].2 = ph at *
          have mk : IntKind.i64.wrap ((k : Int) + 1) = (k : Int) + 1 := by rw [IntKind.wrap_i64]; omega
          clear hc hc' HV HU
          go_wp2_with fail
          go_quiet (fail)
          go_wp2
          go_roundw
          case rel => exact ⟨k + 1, by omega, by go_num, below_drewN hB _⟩
          case measure => simp [intOf]; omega
    · have hd : ¬ k < l.length := by omega
      clear HV HU
      go_wp2
      go_ret
      exact ⟨rfl, hB⟩
end Go.Proofs.Ytmkjlcfoedglmab
/-
  How many segments a sweep tells at most.
-/
namespace Go.Proofs.Ytmkjlcfoedglmab
set_option linter.unusedSimpArgs false
set_option linter.unusedVariables false

theorem endT_len (F : Int) : ∀ (op : List Rte) (t : T3), (endT F op t).2.2.length ≤ op.length + t.2.2.length
  | [], t => by simp [endT]
  | o :: os, t => by
    rw [endT]
    have h1 := endT_len F os (tell3 F (lastW F o.1.1 o.1.2) o.2 t)
    have h2 := tell3_len F (lastW F o.1.1 o.1.2) o.2 t
    simp only [List.length_cons]
    omega
theorem swpGo_len (F : Int) : ∀ (L op : List Rte) (t : T3), (swpGo F op t L).2.2.length ≤ op.length + t.2.2.length + 2 * L.length
  | [], op, t => by rw [swpGo]; have := endT_len F op t; simp only [List.length_nil]; omega
  | r :: L, op, t => by
    rw [swpGo]
    have h1 := swpGo_len F L (r :: popO r op) (entT F r (hopO (popO r op)) (popT F r op t))
    have h2 := entT_len F r (hopO (popO r op)) (popT F r op t)
    have h3 := popT_len F r op t
    simp only [List.length_cons] at h1 ⊢
    omega
theorem swp_len (F : Int) (l : List Rte) : (swp F l).length ≤ 1 + 2 * l.length := by
  have := swpGo_len F l op0 t30
  unfold swp
  rw [List.length_reverse]
  have e : op0.length + t30.2.2.length = 1 := rfl
  omega
end Go.Proofs.Ytmkjlcfoedglmab
/-
  The law AlgebraSegs: any table.
-/
namespace Go.Proofs.Ytmkjlcfoedglmab
open Go.RowKit
set_option linter.unusedSimpArgs false
set_option linter.unusedVariables false

theorem tabE_one {F : Int} {l : List Rte} {z z' : Int} (h : TabE F l z) (h' : TabE F l z') : z = z' := by
  by_cases h0 : rtsE F l = 0
  · rcases h.2 h0 with ⟨a, b⟩ | ⟨a, b⟩ <;> rcases h'.2 h0 with ⟨c, d⟩ | ⟨c, d⟩
    · rw [b, d]
    · exact absurd a c
    · exact absurd c a
    · rw [b, d]
  · rw [h.1 h0, h'.1 h0]
/-- What is lent holds the routes. -/
theorem lend_rwr {W : World} {base g : Nat} {l m : List Rte} {n : Nat} (h : W.ownsRow base 47 4 (.slice (some ⟨g, 0, none⟩) n n) n (rowR (l ++ m))) (c : Nat) : RwR W (.slice (some ⟨g, 0, none⟩) l.length c) l := by
  refine ⟨_, c, rfl, .inr ⟨g, 0, rfl, fun j u hj => ?_⟩⟩
  have hj' : (rowR (l ++ m))[j]? = some u := by
    rw [rowR_app5]
    rw [List.getElem?_append_left]
    · exact hj
    · exact (List.getElem?_eq_some_iff.mp hj).1
  have := h.cells (g := g) rfl j u hj'
  rwa [addA] at this
theorem rwg_nil (W : World) : RwG W (.slice none 0 0) [] := ⟨none, 0, rfl, .inl rfl⟩
theorem RwR.sty {w W W' : World} {g : Nat} {v : Value} {l : List Rte} (h : RwR w v l) (hb : Below w.heap.size w W) (hs : Sty g W W') (hg : w.heap.size ≤ g) : RwR W' v l := h.below (hs.low hb hg)
end Go.Proofs.Ytmkjlcfoedglmab
/-
  What the calls of package algebra's segsOfTwo and along do.
-/
namespace Go.Proofs.Ytmkjlcfoedglmab
open Go.RowKit
set_option linter.unusedSimpArgs false
set_option linter.unusedVariables false

/-- The error of two tables. -/
def TwoE (F : Int) (l : List Rte) (G : Int) (m : List Rte) (z : Int) : Prop := ∃ x, TabE F l x ∧ ((x ≠ 0 ∧ z = x) ∨ (x = 0 ∧ ∃ y, TabE G m y ∧ ((y ≠ 0 ∧ z = y) ∨ (y = 0 ∧ ((F ≠ G ∧ z = 3) ∨ (F = G ∧ z = 0))))))
theorem twoE_one {F : Int} {l : List Rte} {G : Int} {m : List Rte} {z z' : Int} (h : TwoE F l G m z) (h' : TwoE F l G m z') : z = z' := by
  obtain ⟨x, hx, h⟩ := h
  obtain ⟨x', hx', h'⟩ := h'
  obtain rfl := tabE_one hx hx'
  rcases h with ⟨a, b⟩ | ⟨a, y, hy, h⟩
  · rcases h' with ⟨c, d⟩ | ⟨c, -⟩
    · rw [b, d]
    · exact absurd c a
  · rcases h' with ⟨c, d⟩ | ⟨c, y', hy', h'⟩
    · exact absurd a c
    · obtain rfl := tabE_one hy hy'
      rcases h with ⟨e, f⟩ | ⟨e, h⟩
      · rcases h' with ⟨e', f'⟩ | ⟨e', -⟩
        · rw [f, f']
        · exact absurd e' e
      · rcases h' with ⟨e', f'⟩ | ⟨-, h'⟩
        · exact absurd e e'
        · rcases h with ⟨q, r⟩ | ⟨q, r⟩ <;> rcases h' with ⟨q', r'⟩ | ⟨q', r'⟩
          · rw [r, r']
          · exact absurd q' q
          · exact absurd q q'
          · rw [r, r']
theorem twoE_zero {F : Int} {l : List Rte} {G : Int} {m : List Rte} (h : TwoE F l G m 0) : TabE F l 0 ∧ TabE G m 0 ∧ F = G := by
  obtain ⟨x, hx, h⟩ := h
  rcases h with ⟨a, b⟩ | ⟨a, y, hy, h⟩
  · exact absurd b.symm a
  · subst a
    rcases h with ⟨e, f⟩ | ⟨e, h⟩
    · exact absurd f.symm e
    · subst e
      rcases h with ⟨q, r⟩ | ⟨q, r⟩
      · omega
      · exact ⟨hx, hy, q⟩
set_option maxHeartbeats 8000000 in
theorem segsOfTwo_any (F : Int) (v : Value) (l : List Rte) (G : Int) (u : Value) (m : List Rte) (w : World) (hv : RwR w v l) (hu : RwR w u m) :
    Calls Try.prog 17 #[.agg #[.int .i64 F, v], .agg #[.int .i64 G, u]] w fun e w' => (∃ z va vb, TwoE F l G m z ∧ e = .returned (.tuple #[va, vb, .int .i64 z]) ∧ (z = 0 → w'.ownsRow w.heap.size 49 5 va (swp F l).length (rowG (swp F l)) ∧ w'.ownsRow w.heap.size 49 5 vb (swp G m).length (rowG (swp G m))) ∧ (z ≠ 0 → va = .slice none 0 0 ∧ vb = .slice none 0 0)) ∧ Below w.heap.size w w' := by
  have q1 := bl1 w (.cells #[.int .i64 F, v] 24)
  have q2 := bl1 (w.alloc (.cells #[.int .i64 F, v] 24)) (.cells #[.int .i64 G, u] 24)
  have HT := hidR ((att_new w w.heap.size F v 24 rfl).below q2)
  have HU := hidR (att_new (w.alloc (.cells #[.int .i64 F, v] 24)) (w.heap.size + 1) G u 24 (by simp))
  have HB := hidR (keepb q2 q1)
  have HV := hidR hv
  have HV2 := hidR hu
  have K1 := segs_any F v l _ (hv.below (keepb q2 q1))
  obtain ⟨ao, c, rfl, -⟩ := hv
  obtain ⟨bo, d, rfl, -⟩ := hu
  obtain ⟨t0, t1⟩ := HT.out
  obtain ⟨y0, y1⟩ := HU.out
  clear q1 q2
  go_enter Try.func17, Try.ntmps17
  go_wp2_with fail
  refine K1.mono ?_
  rintro e w1 ⟨⟨z, va, hz, rfl, hz1, hz2⟩, hb⟩
  have HB1 := hidR (keepb hb HB.out)
  have HT1 := hidR (HT.out.below hb)
  have HU1 := hidR (HU.out.below hb)
  have HZ := hidR hz
  have HZ1 := hidR hz1
  clear K1 hb HB HT HU t0 t1 y0 y1 hz1 hz
  obtain ⟨t0, t1⟩ := HT1.out
  obtain ⟨y0, y1⟩ := HU1.out
  by_cases h0 : z = 0
  · subst h0
    have K2 := segs_any G (.slice bo m.length d) m w1 (HV2.out.below HB1.out)
    clear hz2
    go_wp2_with fail
    refine K2.mono ?_
    rintro e w2 ⟨⟨y, vb, hy, rfl, hy1, hy2⟩, hb⟩
    have HB2 := hidR (keepb hb HB1.out)
    have HT2 := hidR (HT1.out.below hb)
    have HU2 := hidR (HU1.out.below hb)
    have HO1 := hidR (own_wide (own_below hb (HZ1.out (by simp))) (show w.heap.size ≤ _ by simp; omega))
    have HY := hidR hy
    have HY1 : Hid (y = 0 → w2.ownsRow w.heap.size 49 5 vb (swp G m).length (rowG (swp G m))) := hidR (fun h => own_wide (hy1 h) HB1.out.size)
    clear K2 hb HT1 HU1 t0 t1 y0 y1 hy1 hy HB1 HZ1
    obtain ⟨t0, t1⟩ := HT2.out
    obtain ⟨y0, y1⟩ := HU2.out
    by_cases h1 : y = 0
    · subst h1
      by_cases hFG : F = G
      · have dn : (F != G) = false := by simpa using hFG
        have HE : Hid (TwoE F l G m 0) := hidR ⟨0, HZ.out, .inr ⟨rfl, 0, HY.out, .inr ⟨rfl, .inr ⟨hFG, rfl⟩⟩⟩⟩
        have HY2 := hidR (HY1.out (by simp))
        clear hFG HY1 hy2
        go_wp2
        exact bodyPost_ret (v := .tuple #[va, vb, .int .i64 0]) (by simp [results, Try.results17, go_sem]) rfl ⟨⟨0, va, vb, HE.out, rfl, fun _ => ⟨HO1.out, HY2.out⟩, fun h => absurd rfl h⟩, HB2.out⟩
      · have dn : (F != G) = true := by simpa using hFG
        have HE : Hid (TwoE F l G m 3) := hidR ⟨0, HZ.out, .inr ⟨rfl, 0, HY.out, .inr ⟨rfl, .inl ⟨hFG, rfl⟩⟩⟩⟩
        clear hFG HY1 hy2
        go_wp2
        exact bodyPost_ret (v := .tuple #[.slice none 0 0, .slice none 0 0, .int .i64 3]) (by simp [results, Try.results17, go_sem]) rfl ⟨⟨3, _, _, HE.out, rfl, fun h => absurd h (by decide), fun _ => ⟨rfl, rfl⟩⟩, HB2.out⟩
    · have hn : (y != 0) = true := by simpa using h1
      have HE : Hid (TwoE F l G m y) := hidR ⟨0, HZ.out, .inr ⟨rfl, y, HY.out, .inl ⟨h1, rfl⟩⟩⟩
      have HN := hidR h1
      clear h1 HY1 hy2
      go_wp2
      exact bodyPost_ret (v := .tuple #[.slice none 0 0, .slice none 0 0, .int .i64 y]) (by simp [results, Try.results17, go_sem]) rfl ⟨⟨y, _, _, HE.out, rfl, fun h => absurd h HN.out, fun _ => ⟨rfl, rfl⟩⟩, HB2.out⟩
  · have hn : (z != 0) = true := by simpa using h0
    have HE : Hid (TwoE F l G m z) := hidR ⟨z, HZ.out, .inl ⟨h0, rfl⟩⟩
    have HN := hidR h0
    clear h0 HZ1 hz2
    go_wp2
    exact bodyPost_ret (v := .tuple #[.slice none 0 0, .slice none 0 0, .int .i64 z]) (by simp [results, Try.results17, go_sem]) rfl ⟨⟨z, _, _, HE.out, rfl, fun h => absurd h HN.out, fun _ => ⟨rfl, rfl⟩⟩, HB1.out⟩
theorem along_any (ao : Option Addr) (na ca : Nat) (bo : Option Addr) (nb cb : Nat) (w : World) : Calls Try.prog 19 #[.slice ao na ca, .slice bo nb cb, .func (.func 18) #[] #[]] w fun e w' => e = .returned (.func (.func 34) #[] #[.pointer (some ⟨w.heap.size, 0, none⟩), .pointer (some ⟨w.heap.size + 1, 0, none⟩), .pointer (some ⟨w.heap.size + 2, 0, none⟩)]) ∧ w' = ((w.alloc (.cells #[.slice ao na ca] 34)).alloc (.cells #[.slice bo nb cb] 34)).alloc (.cells #[.func (.func 18) #[] #[]] 55) := by
  go_enter Try.func19, Try.ntmps19
  go_wp2
  go_ret
  exact ⟨rfl, rfl⟩
/-- along's sequence, as the caller's law asks for it. -/
theorem along_stops (n A B C : Nat) (va vb : Value) (la lb : List Sg) (hla : la.length ≤ 1000000000) (hlb : lb.length ≤ 1000000000) (w : World) (hM : AlM A B C va vb (.func (.func 18) #[] #[]) la lb w) :
    SeqStopsK Fence.wide n Try.prog 34 #[.pointer (some ⟨A, 0, none⟩), .pointer (some ⟨B, 0, none⟩), .pointer (some ⟨C, 0, none⟩)] encD KC (fun ys => ys = al la lb) (fun pre => pre <+: al la lb) (al la lb).length w := fun l J Jx W hW hJ hJx hY h0 =>
  callsIn_wide.2 (along1_any n l A B C va vb la lb hla hlb J Jx (fun pre V V' h hb => hJ pre V V' none h (below_grown hb) (fun r e => by cases e)) hY W (hM.kc (below_kc hW)) h0)
end Go.Proofs.Ytmkjlcfoedglmab
