/-
  Part 26 of the proof: 6 texts, one behind the other.
-/
import Derived.Test.YtmkjlcfoedglmaaDoorPart25
import Derived.Test.YtmkjlcfoedglmaaDoorPart12
import Derived.Test.YtmkjlcfoedglmaaDoorPart5
import Derived.Test.YtmkjlcfoedglmaaDoorPart14
import Derived.Test.YtmkjlcfoedglmaaDoorPart9
import Derived.Test.YtmkjlcfoedglmaaDoorPart10
import Derived.Test.YtmkjlcfoedglmaaDoorPart2
import Derived.Test.YtmkjlcfoedglmaaDoorPart13
/-
  What the calls of turnpikeref2's Next and Prev do, of any word.
-/
namespace Go.Proofs.YtmkjlcfoedglmaaDoor
open Go.RowKit
set_option linter.unusedSimpArgs false
set_option linter.unusedVariables false

theorem rnext_any (F : Int) (x : BitVec 128) (w : World) :
    Calls Tryd.prog 11 #[.int .i64 F, .agg #[.int .u64 (hI x), .int .u64 (lI x)]] w fun e w' => e = .returned (.tuple #[.agg #[.int .u64 (hI (nextV F x)), .int .u64 (lI (nextV F x))], .bool (nextB F x)]) ∧ Below w.heap.size w w' := by
  have KR := fun w => rright_any F x w
  by_cases hr : rightE F x = 0
  · obtain ⟨hf, hm⟩ := right0 F x hr
    rw [hr] at KR
    have ho := over_step F x hf hm
    have KK := fun w => rmask_any F w
    by_cases e : x = maskW F
    · have e1 : nextB F x = false := by unfold nextB; rw [ho]; simp [e]
      have e2 : nextV F x = 0#128 := by unfold nextV; rw [e1]; rfl
      rw [e1, e2, hI_zero, lI_zero]
      rw [← e] at KK
      exact rnext_last F x w KR KK
    · have e1 : nextB F x = true := by unfold nextB; rw [ho]; simp [e, hr]
      have e2 : nextV F x = x + stepW F := by unfold nextV; rw [e1]; rfl
      rw [e1, e2]
      refine rnext_yes F x (maskW F) (stepW F) (x + stepW F) (overB x (stepW F)) w ?_ KR KK (fun w => rone_any F w hf) (fun w => radd_any x (stepW F) w)
      rcases three x (maskW F) with ⟨a, b, c⟩ | ⟨a, c⟩ | ⟨a, b, c⟩
      · exact absurd c e
      · exact Or.inl a
      · exact Or.inr ⟨a, b⟩
  · have e1 : nextB F x = false := by unfold nextB; simp [hr]
    have e2 : nextV F x = 0#128 := by unfold nextV; rw [e1]; rfl
    rw [e1, e2, hI_zero, lI_zero]
    exact rnext_no F (rightE F x) x w hr KR
end Go.Proofs.YtmkjlcfoedglmaaDoor
/-
  What the call of turnpikeref6's edges does.
-/
namespace Go.Proofs.YtmkjlcfoedglmaaDoor
open Go.RowKit
set_option linter.unusedSimpArgs false
set_option linter.unusedVariables false

/-- Words in order with 0 and both ends of each route. -/
def EdS (F : Int) (S : List (BitVec 128)) (l : List Rte) (T : List (BitVec 128)) : Prop := T.Pairwise (fun a b => a.toNat < b.toNat) ∧ (∀ y, y ∈ T ↔ (y ∈ S ∨ y = 0#128 ∨ ∃ r ∈ l, y = r.1.1 ∨ (nextB F (lastW F r.1.1 r.1.2) = true ∧ y = nextV F (lastW F r.1.1 r.1.2)))) ∧ T.length ≤ S.length + 1 + 2 * l.length
theorem eds_zero (F : Int) (S T : List (BitVec 128)) (h : PutS S 0#128 T) : EdS F S [] T := by
  refine ⟨h.1, fun y => ?_, by have := h.2.2; simp; omega⟩
  rw [h.2.1 y]
  constructor
  · rintro (q | q)
    · exact .inr (.inl q)
    · exact .inl q
  · rintro (q | q | ⟨r, hr, -⟩)
    · exact .inr q
    · exact .inl q
    · cases hr
/-- One route more: its first address, and the one behind its last. -/
theorem eds_one (F : Int) (S : List (BitVec 128)) (l : List Rte) (r : Rte) (T0 T1 : List (BitVec 128)) (h : EdS F S l T0) (h1 : PutS T0 r.1.1 T1) :
    (nextB F (lastW F r.1.1 r.1.2) = true → ∀ T2, PutS T1 (nextV F (lastW F r.1.1 r.1.2)) T2 → EdS F S (l ++ [r]) T2) ∧ (nextB F (lastW F r.1.1 r.1.2) = false → EdS F S (l ++ [r]) T1) := by
  constructor
  · intro hb T2 h2
    refine ⟨h2.1, fun y => ?_, by have := h.2.2; have := h1.2.2; have := h2.2.2; simp; omega⟩
    rw [h2.2.1 y, h1.2.1 y, h.2.1 y]
    constructor
    · rintro (q | q | q | q | ⟨r', hr, q⟩)
      · exact .inr (.inr ⟨r, by simp, .inr ⟨hb, q⟩⟩)
      · exact .inr (.inr ⟨r, by simp, .inl q⟩)
      · exact .inl q
      · exact .inr (.inl q)
      · exact .inr (.inr ⟨r', List.mem_append_left _ hr, q⟩)
    · rintro (q | q | ⟨r', hr, q⟩)
      · exact .inr (.inr (.inl q))
      · exact .inr (.inr (.inr (.inl q)))
      · rcases List.mem_append.mp hr with hr | hr
        · exact .inr (.inr (.inr (.inr ⟨r', hr, q⟩)))
        · have : r' = r := by simpa using hr
          subst this
          rcases q with q | ⟨-, q⟩
          · exact .inr (.inl q)
          · exact .inl q
  · intro hb
    refine ⟨h1.1, fun y => ?_, by have := h.2.2; have := h1.2.2; simp; omega⟩
    rw [h1.2.1 y, h.2.1 y]
    constructor
    · rintro (q | q | q | ⟨r', hr, q⟩)
      · exact .inr (.inr ⟨r, by simp, .inl q⟩)
      · exact .inl q
      · exact .inr (.inl q)
      · exact .inr (.inr ⟨r', List.mem_append_left _ hr, q⟩)
    · rintro (q | q | ⟨r', hr, q⟩)
      · exact .inr (.inl q)
      · exact .inr (.inr (.inl q))
      · rcases List.mem_append.mp hr with hr | hr
        · exact .inr (.inr (.inr ⟨r', hr, q⟩))
        · have : r' = r := by simpa using hr
          subst this
          rcases q with q | ⟨q, -⟩
          · exact .inl q
          · rw [hb] at q; cases q
/-- What is known between two calls of put. -/
structure EgI (w0 w : World) (lv : Value) (F : Int) (v rv : Value) (T : List (BitVec 128)) (W : World) : Prop where
  own : W.ownsRow w0.heap.size 27 2 rv T.length (rowW T)
  t : AtU W w.heap.size F v
  gr : w.grownBy W lv.ownBlock
  ob : ∀ z, rv.ownBlock = some z → lv.ownBlock = some z ∨ w.heap.size + 1 ≤ z
  ol : ∀ z, lv.ownBlock = some z → w0.heap.size ≤ z ∧ z < w.heap.size
  bel : Below w0.heap.size w0 W
  b0 : w0.heap.size ≤ w.heap.size
theorem EgI.bs {w0 w : World} {lv : Value} {F : Int} {v rv : Value} {T : List (BitVec 128)} {W : World} (k : EgI w0 w lv F v rv T W) : w0.heap.size ≤ W.heap.size := k.bel.size
theorem EgI.below {w0 w : World} {lv : Value} {F : Int} {v rv : Value} {T : List (BitVec 128)} {W W' : World} (k : EgI w0 w lv F v rv T W) (hb : Below W.heap.size W W') : EgI w0 w lv F v rv T W' :=
  ⟨own_below hb k.own, k.t.heap (hb.block _ k.t.lt), k.gr.trans (below_grown hb), k.ob, k.ol, keepb hb k.bel, k.b0⟩
theorem EgI.put {w0 w : World} {lv : Value} {F : Int} {v rv rv' : Value} {T T' : List (BitVec 128)} {W W' : World} (k : EgI w0 w lv F v rv T W) (h : PtO w0.heap.size rv T' W rv' W') : EgI w0 w lv F v rv' T' W' := by
  obtain ⟨h1, h2, h3⟩ := h
  have hT := k.t.lt
  refine ⟨h1, k.t.heap (h2.block _ hT (fun e => ?_)), ⟨by rw [h2.os, k.gr.os], by rw [h2.tape, k.gr.tape], by rw [h2.output, k.gr.output], Nat.le_trans k.gr.size h2.size, fun z q1 q2 => ?_⟩, fun z e => ?_, k.ol, k.bel.grown h2 k.bel.size (fun z e => (k.own.lt z e).1), k.b0⟩
  · rcases k.ob _ e.symm with q | q
    · have := (k.ol _ q).2; omega
    · omega
  · rw [h2.block z (by have := k.gr.size; omega) (fun e => ?_), k.gr.block z q1 q2]
    rcases k.ob z e.symm with q | q
    · exact q2 q.symm
    · omega
  · rcases h3 z e with q | q
    · exact k.ob z q
    · exact .inr (by omega)
theorem EgI.set2 {w0 w : World} {lv : Value} {F : Int} {v rv : Value} {T : List (BitVec 128)} {W : World} (k : EgI w0 w lv F v rv T W) {M : Nat} (hM : w.heap.size + 1 ≤ M) (hne : rv.ownBlock ≠ some M) (a b : Value) : EgI w0 w lv F v rv T ((W.setCell ⟨M, 0, none⟩ a).setCell ⟨M, 1, none⟩ b) := by
  have b0 := k.b0
  refine ⟨own_heap k.own (fun g e => ?_), k.t.heap (by rw [hSet _ (by omega), hSet _ (by omega)]), grown_set2 k.gr (.inr (by omega)) _ _ _ _, k.ob, k.ol, bset2 k.bel (by omega) _ _, k.b0⟩
  have : ¬ g = M := fun q => hne (by rw [e, q])
  rw [hSet _ this, hSet _ this]
/-- The same, with the prefix that is asked. -/
def EgD (w0 w : World) (lv : Value) (F : Int) (v rv : Value) (T : List (BitVec 128)) (px : BitVec 128) (pn : Int) (N : Nat) (W : World) : Prop := EgI w0 w lv F v rv T W ∧ AtP W N px pn ∧ w.heap.size < N ∧ N < W.heap.size
theorem EgD.below {w0 w : World} {lv : Value} {F : Int} {v rv : Value} {T : List (BitVec 128)} {px : BitVec 128} {pn : Int} {N : Nat} {W W' : World} (k : EgD w0 w lv F v rv T px pn N W) (hb : Below W.heap.size W W') : EgD w0 w lv F v rv T px pn N W' := ⟨k.1.below hb, k.2.1.below hb, k.2.2.1, Nat.lt_of_lt_of_le k.2.2.2 hb.size⟩
theorem EgD.drew {w0 w : World} {lv : Value} {F : Int} {v rv : Value} {T : List (BitVec 128)} {px : BitVec 128} {pn : Int} {N : Nat} {W : World} (k : EgD w0 w lv F v rv T px pn N W) : EgD w0 w lv F v rv T px pn N W.drew := k.below (below_drewN (Below.refl _ _) 1)
theorem AtP.heapE {W W' : World} {B : Nat} {x : BitVec 128} {n : Int} (k : AtP W B x n) (e : W'.heap[B]? = W.heap[B]?) : AtP W' B x n := by
  obtain ⟨h0, h1, h2, f0, f1, f2⟩ := k
  exact ⟨by rw [cellH e]; exact h0, by rw [cellH e]; exact h1, by rw [cellH e]; exact h2, by rw [frozH e]; exact f0, by rw [frozH e]; exact f1, by rw [frozH e]; exact f2⟩
theorem EgD.set2 {w0 w : World} {lv : Value} {F : Int} {v rv : Value} {T : List (BitVec 128)} {px : BitVec 128} {pn : Int} {N : Nat} {W : World} (k : EgD w0 w lv F v rv T px pn N W) {M : Nat} (hM : N < M) (hne : rv.ownBlock ≠ some M) (a b : Value) : EgD w0 w lv F v rv T px pn N ((W.setCell ⟨M, 0, none⟩ a).setCell ⟨M, 1, none⟩ b) := by
  have h1 := k.2.2.1
  refine ⟨k.1.set2 (by omega) hne a b, k.2.1.heapE (by rw [hSet _ (by omega), hSet _ (by omega)]), h1, ?_⟩
  have := (bset2 (C := M) (Below.refl 0 W) (Nat.zero_le _) a b).size
  have := k.2.2.2
  omega
theorem at_zeroE (W : World) : At (W.alloc (.cells #[.int .u64 0, .int .u64 0] 27)) W.heap.size 0#128 := by
  have := at_new W W.heap.size 0#128 27 rfl
  rwa [hI_zero, lI_zero] at this
theorem At.setE {W : World} {B : Nat} {x : BitVec 128} (k : At W B x) (y : BitVec 128) : At ((W.setCell ⟨B, 0, none⟩ (.int .u64 (hI y))).setCell ⟨B, 1, none⟩ (.int .u64 (lI y))) B y := by
  obtain ⟨c0, c1, f0, f1, h⟩ := k
  refine ⟨?_, ?_, ?_, ?_, ?_⟩ <;> simp [go_sem, c0, c1, f0, f1, h]
end Go.Proofs.YtmkjlcfoedglmaaDoor
/-
  What the call of the law's SameSegs (of two that are the same) does.
-/
namespace Go.Proofs.YtmkjlcfoedglmaaDoor
open Go.RowKit
set_option linter.unusedSimpArgs false
set_option linter.unusedVariables false

theorem eqG_run (x y : BitVec 128) (h : Int) (w : World) :
    (Op.equalIn 10000 39 (.agg #[.int .u64 (hI x), .int .u64 (lI x), .int .u64 (hI y), .int .u64 (lI y), .int .i64 h]) (.agg #[.int .u64 (hI x), .int .u64 (lI x), .int .u64 (hI y), .int .u64 (lI y), .int .i64 h])).run Tryd.prog w = .ok true w := by
  go_simp
set_option maxHeartbeats 4000000 in
theorem sameSegs_any (v u : Value) (l : List Sg) (w : World) (hv : RwG w v l) (hu : RwG w u l) (hl : l.length ≤ 1000000000) :
    Calls Tryd.prog 15 #[v, u] w fun e w' => e = .returned (.bool true) ∧ Below w.heap.size w w' := by
  obtain ⟨ao, c, rfl, hv⟩ := hv
  obtain ⟨au, d, rfl, hu⟩ := hu
  have HV := hidR hv
  have HU := hidR hu
  clear hv hu
  go_enter Tryd.func15, Tryd.ntmps15
  go_wp2_with fail
  go_loopw [5] (fun i wr => ∃ k : Nat, k ≤ l.length ∧ i = .int .i64 k ∧ Below w.heap.size w wr) (fun i _ => l.length - (intOf i).toNat)
  case atStart => exact ⟨0, by omega, rfl, Below.refl _ _⟩
  case round =>
    obtain ⟨k, hk, rfl, hB⟩ := hrel
    by_cases hlt : (k : Int) < (l.length : Int)
    · have hks : k < l.length := by omega
      rcases HV.out with e | ⟨b, off, rfl, hc⟩
      · rw [e] at hks; simp at hks
      · rcases HU.out with e | ⟨b', off', rfl, hc'⟩
        · rw [e] at hks; simp at hks
        · obtain ⟨x0, x1, x2, x3, x4⟩ := rwg_cells hc k hks
          obtain ⟨y0, y1, y2, y3, y4⟩ := rwg_cells hc' k hks
          have x0 := keepc hB x0
          have x1 := keepc hB x1
          have x2 := keepc hB x2
          have x3 := keepc hB x3
          have x4 := keepc hB x4
          have y0 := keepc hB y0
          have y1 := keepc hB y1
          have y2 := keepc hB y2
          have y3 := keepc hB y3
          have y4 := keepc hB y4
          have hE := fun w => eqG_run l[k].1.1 l[k].1.2 l[k].2 w
          generalize l[k].1.1 = px at *
          generalize l[k].1.2 = pn at *
          generalize l[k].2 = ph at *
          have mk : IntKind.i64.wrap ((k : Int) + 1) = (k : Int) + 1 := by rw [IntKind.wrap_i64]; omega
          clear hc hc' HV HU
          go_wp2_with fail
          go_quiet (fail)
          go_wp2
          go_roundw
          case rel => exact ⟨k + 1, by omega, by go_num, below_drewN hB _⟩
          case measure => simp [intOf]; omega
    · have hd : ¬ k < l.length := by omega
      clear HV HU
      go_wp2
      go_ret
      exact ⟨rfl, hB⟩
end Go.Proofs.YtmkjlcfoedglmaaDoor
/-
  What the calls of the law's within, fitted and Fitted of an address do, and of its SameSegs of any two.
-/
namespace Go.Proofs.YtmkjlcfoedglmaaDoor
open Go.RowKit
set_option linter.unusedSimpArgs false
set_option linter.unusedVariables false

theorem within5_zero (F : Int) (w : World) (h0 : 0 ≤ F) (h1 : F ≤ 128) : Calls Tryd.prog 48 #[.int .i64 0, .int .i64 (F + 1)] w fun e w' => e = .returned (.int .i64 0) ∧ Below w.heap.size w w' := by
  have hne : ¬ (F + 1 = 0) := by omega
  have hm : Int.tmod 0 (F + 1) = 0 := by simp
  go_enter Tryd.func48, Tryd.ntmps48
  go_wp2
  go_ret
  exact ⟨rfl, Below.refl _ _⟩
structure RF (w : World) (x y : BitVec 128) (f9 : Bool) (W : World) : Prop where
  p : AtP W w.heap.size 0#128 0
  x : At W (w.heap.size + 1) x
  r : AtP W (w.heap.size + 2) 0#128 0
  s : if f9 = true then At W (w.heap.size + 3) y else At W (w.heap.size + 3) 0#128
  bel : Below w.heap.size w W
theorem RF.below {w : World} {x y : BitVec 128} {f9 : Bool} {W W' : World} (k : RF w x y f9 W) (hb : Below W.heap.size W W') : RF w x y f9 W' :=
  ⟨k.p.below hb, k.x.below hb, k.r.below hb, (by have := k.s; cases f9 <;> simp at this ⊢ <;> exact this.below hb), keepb hb k.bel⟩
theorem RF.drew {w : World} {x y : BitVec 128} {f9 : Bool} {W : World} (k : RF w x y f9 W) : RF w x y f9 W.drew := k.below (below_drewN (Below.refl _ _) 1)
theorem AtP.set0 {W : World} {B : Nat} (k : AtP W B 0#128 0) : AtP (((W.setCell ⟨B, 0, none⟩ (.int .u64 0)).setCell ⟨B, 1, none⟩ (.int .u64 0)).setCell ⟨B, 2, none⟩ (.int .i64 0)) B 0#128 0 := by
  obtain ⟨c0, c1, c2, f0, f1, f2⟩ := k
  refine ⟨?_, ?_, ?_, ?_, ?_, ?_⟩ <;> simp [go_sem, *, hI_zero, lI_zero]
theorem RF.stP {w : World} {x y : BitVec 128} {f9 : Bool} {W : World} (k : RF w x y f9 W) : RF w x y f9 (((W.setCell ⟨w.heap.size + 2, 0, none⟩ (.int .u64 0)).setCell ⟨w.heap.size + 2, 1, none⟩ (.int .u64 0)).setCell ⟨w.heap.size + 2, 2, none⟩ (.int .i64 0)) := by
  have hsz : W.heap.size ≤ (((W.setCell ⟨w.heap.size + 2, 0, none⟩ (.int .u64 0)).setCell ⟨w.heap.size + 2, 1, none⟩ (.int .u64 0)).setCell ⟨w.heap.size + 2, 2, none⟩ (.int .i64 0)).heap.size := by simp
  have h : ∀ z, z ≠ w.heap.size + 2 → (((W.setCell ⟨w.heap.size + 2, 0, none⟩ (.int .u64 0)).setCell ⟨w.heap.size + 2, 1, none⟩ (.int .u64 0)).setCell ⟨w.heap.size + 2, 2, none⟩ (.int .i64 0)).heap[z]? = W.heap[z]? := fun z hz => by rw [hSet _ hz, hSet _ hz, hSet _ hz]
  refine ⟨k.p.heapE (h _ (by omega)), k.x.heap (h _ (by omega)) hsz, k.r.set0, ?_, ((k.bel.setCell (p := ⟨w.heap.size + 2, 0, none⟩) (by simp) _).setCell (p := ⟨w.heap.size + 2, 1, none⟩) (by simp) _).setCell (p := ⟨w.heap.size + 2, 2, none⟩) (by simp) _⟩
  have := k.s
  cases f9 <;> simp at this ⊢ <;> exact this.heap (h _ (by omega)) hsz
theorem RF.stW {w : World} {x y : BitVec 128} {W : World} (k : RF w x y false W) : RF w x y true ((W.setCell ⟨w.heap.size + 3, 0, none⟩ (.int .u64 (hI y))).setCell ⟨w.heap.size + 3, 1, none⟩ (.int .u64 (lI y))) := by
  have hsz : W.heap.size ≤ ((W.setCell ⟨w.heap.size + 3, 0, none⟩ (.int .u64 (hI y))).setCell ⟨w.heap.size + 3, 1, none⟩ (.int .u64 (lI y))).heap.size := by simp
  have h : ∀ z, z ≠ w.heap.size + 3 → ((W.setCell ⟨w.heap.size + 3, 0, none⟩ (.int .u64 (hI y))).setCell ⟨w.heap.size + 3, 1, none⟩ (.int .u64 (lI y))).heap[z]? = W.heap[z]? := fun z hz => by rw [hSet _ hz, hSet _ hz]
  have hs := k.s
  simp at hs
  exact ⟨k.p.heapE (h _ (by omega)), k.x.heap (h _ (by omega)) hsz, k.r.heapE (h _ (by omega)), by rw [if_pos rfl]; exact hs.setE y, (k.bel.setCell (p := ⟨w.heap.size + 3, 0, none⟩) (by simp) _).setCell (p := ⟨w.heap.size + 3, 1, none⟩) (by simp) _⟩
theorem rf_new (w : World) (x y : BitVec 128) : RF w x y false ((((w.alloc (.cells #[.int .u64 0, .int .u64 0, .int .i64 0] 31)).alloc (.cells #[.int .u64 (hI x), .int .u64 (lI x)] 27)).alloc (.cells #[.int .u64 0, .int .u64 0, .int .i64 0] 31)).alloc (.cells #[.int .u64 0, .int .u64 0] 27)) := by
  have b1 := bl1 w (.cells #[.int .u64 0, .int .u64 0, .int .i64 0] 31)
  have a1 := atp_new w w.heap.size 0#128 0 31 rfl
  rw [hI_zero, lI_zero] at a1
  revert b1 a1
  generalize h1 : w.alloc (.cells #[.int .u64 0, .int .u64 0, .int .i64 0] 31) = w1
  have s1 : w1.heap.size = w.heap.size + 1 := by rw [← h1]; simp
  clear h1
  intro b1 a1
  have b2 := bl1 w1 (.cells #[.int .u64 (hI x), .int .u64 (lI x)] 27)
  have a2 := at_new w1 (w.heap.size + 1) x 27 s1.symm
  revert b2 a2
  generalize h2 : w1.alloc (.cells #[.int .u64 (hI x), .int .u64 (lI x)] 27) = w2
  have s2 : w2.heap.size = w.heap.size + 2 := by rw [← h2]; simp [s1]
  clear h2
  intro b2 a2
  have b3 := bl1 w2 (.cells #[.int .u64 0, .int .u64 0, .int .i64 0] 31)
  have a3 := atp_new w2 (w.heap.size + 2) 0#128 0 31 s2.symm
  rw [hI_zero, lI_zero] at a3
  revert b3 a3
  generalize h3 : w2.alloc (.cells #[.int .u64 0, .int .u64 0, .int .i64 0] 31) = w3
  have s3 : w3.heap.size = w.heap.size + 3 := by rw [← h3]; simp [s2]
  clear h3
  intro b3 a3
  have b4 := bl1 w3 (.cells #[.int .u64 0, .int .u64 0] 27)
  have a4 := at_new w3 (w.heap.size + 3) 0#128 27 s3.symm
  rw [hI_zero, lI_zero] at a4
  exact ⟨((a1.below b2).below b3).below b4, (a2.below b3).below b4, a3.below b4, by simp; exact a4, keepb b4 (keepb b3 (keepb b2 b1))⟩
set_option maxRecDepth 20000 in
set_option maxHeartbeats 8000000 in
theorem fitted_zero (F : Int) (x : BitVec 128) (w : World) (h0 : 0 ≤ F) (h1 : F ≤ 128) :
    Calls Tryd.prog 24 #[.int .i64 F, .agg #[.int .u64 0, .int .u64 0, .int .i64 0], .agg #[.int .u64 (hI x), .int .u64 (lI x)]] w fun e w' => e = .returned (.tuple #[.agg #[.int .u64 0, .int .u64 0, .int .i64 0], .agg #[.int .u64 (hI (x &&& maskW F)), .int .u64 (lI (x &&& maskW F))]]) ∧ Below w.heap.size w w' := by
  have KW := fun w => within5_zero F w h0 h1
  have KC := fun w => rcut_any 0#128 0 w
  have hc : cutW 0#128 0 = 0#128 := by decide +kernel
  rw [hc, hI_zero, lI_zero] at KC
  have KM := fun w => rmask_any F w
  have KA := fun w => rand_any x (maskW F) w
  have HF0 : ∀ y, RF w x y false _ := fun y => rf_new w x y
  have HF1 := hidR (HF0 (x &&& maskW F))
  revert KM KA HF1
  generalize x &&& maskW F = y
  generalize maskW F = mk
  intro KM KA HF1
  have mF : IntKind.i64.wrap (F + 1) = F + 1 := by rw [IntKind.wrap_i64]; omega
  obtain ⟨p0, p1, p2, -, -, -⟩ := HF1.out.p
  simp only [hI_zero, lI_zero] at p0 p1
  clear HF0 hc
  go_enter Tryd.func24, Tryd.ntmps24
  go_wp2_with fail
  refine (KW _).mono ?_
  rintro e w1 ⟨rfl, hb⟩
  have HF := hidR (HF1.out.below hb)
  clear KW hb HF1 p0 p1 p2
  go_wp2_with fail
  refine gh_region (γ := Unit) (qpOk 10 10 (by decide) (fun N => by kernel_rfl) (by kernel_rfl) (by kernel_rfl) (by kernel_rfl) (by kernel_rfl)) (by kernel_rfl) (by kernel_rfl) [some 14, some 15, some 16, some 17, some 18, some 19, some 20, some 21, none, none] (fun g => [.pointer (some ⟨w.heap.size, 0, none⟩), .agg #[.int .u64 0, .int .u64 0], .int .i64 0, .agg #[.int .u64 0, .int .u64 0, .int .i64 0], .agg #[.int .u64 (hI x), .int .u64 (lI x)], .int .i64 F, .agg #[.int .u64 (hI mk), .int .u64 (lI mk)], .agg #[.int .u64 (hI y), .int .u64 (lI y)], undef, undef]) (by kernel_rfl) (by simp) (fun lp g W => RF w x y (lp.getD 9 false) W) () (by simpa using HF.out.drew) ?step ?fin
  case step =>
    intro q o lp g w' a' ho hsz hun hdep hR hS K Q' hK
    have hfl : ∀ j, j ≠ q → (lp.setIfInBounds q true).getD j false = lp.getD j false := fun j hj => by rw [Array.getD_eq_getD_getElem?, Array.getD_eq_getD_getElem?, Array.getElem?_setIfInBounds_ne (by omega)]
    have hq : q < 10 := (List.getElem?_eq_some_iff.mp ho).1
    obtain ⟨p0, p1, p2, -, -, -⟩ := hR.p
    simp only [hI_zero, lI_zero] at p0 p1
    obtain ⟨x0, x1, -⟩ := hR.x
    match q, ho, hun, hdep, hK, hfl, hq with
    | 0, ho, hun, hdep, hK, hfl, _ =>
      obtain rfl := Option.some.inj ho
      have o4 : a'.tmps[4]? = some (.pointer (some ⟨w.heap.size, 0, none⟩)) := (hS.old 4 (by simp)).trans rfl
      have hK' := hK g w' (fun _ _ _ _ _ _ => rfl) (by rw [hfl 9 (by decide)]; exact hR) (.pointer (some ⟨w.heap.size, 0, none⟩)) (by simp only [valO, Option.bind_some]; simp only [putAll, Act.put, List.setIfInBounds_toArray, List.set_cons_zero, List.set_cons_succ]; rfl)
      clear hS hdep hR
      refine gh_quiet (v := .pointer (some ⟨w.heap.size, 0, none⟩)) ?_ ?_
      · (simp only [execOp, Act.eval, o4]; go_simp; first | done | (simp; done) | (simp [*]; done))
      · exact hK'
    | 1, ho, hun, hdep, hK, hfl, _ =>
      obtain rfl := Option.some.inj ho
      have d0 : lp.getD 0 false = true := hdep { on := 0, ground := .data } (by simp) rfl
      have e14 : a'.tmps[14]? = some (.pointer (some ⟨w.heap.size, 0, none⟩)) := (hS.don 0 _ 14 rfl d0 rfl).trans (by simp only [putAll, Act.put, List.setIfInBounds_toArray, List.set_cons_zero, List.set_cons_succ]; rfl)
      have hK' := hK g w' (fun _ _ _ _ _ _ => rfl) (by rw [hfl 9 (by decide)]; exact hR) (.agg #[.int .u64 0, .int .u64 0]) (by simp only [valO, Option.bind_some]; simp only [putAll, Act.put, List.setIfInBounds_toArray, List.set_cons_zero, List.set_cons_succ]; rfl)
      clear hS hdep hR
      refine gh_quiet (v := .agg #[.int .u64 0, .int .u64 0]) ?_ ?_
      · (simp only [execOp, Act.eval, e14]; go_simp; first | done | (simp; done) | (simp [*]; done))
      · exact hK'
    | 2, ho, hun, hdep, hK, hfl, _ =>
      obtain rfl := Option.some.inj ho
      have o8 : a'.tmps[8]? = some (.int .i64 0) := (hS.old 8 (by simp)).trans rfl
      have hK' := hK g w' (fun _ _ _ _ _ _ => rfl) (by rw [hfl 9 (by decide)]; exact hR) (.int .i64 0) (by simp only [valO, Option.bind_some]; simp only [putAll, Act.put, List.setIfInBounds_toArray, List.set_cons_zero, List.set_cons_succ]; rfl)
      clear hS hdep hR
      refine gh_quiet (v := .int .i64 0) ?_ ?_
      · (simp only [execOp, Act.eval, o8]; go_simp; first | done | (simp; done) | (simp [*]; done))
      · exact hK'
    | 3, ho, hun, hdep, hK, hfl, _ =>
      obtain rfl := Option.some.inj ho
      have d1 : lp.getD 1 false = true := hdep { on := 1, ground := .data } (by simp) rfl
      have e15 : a'.tmps[15]? = some (.agg #[.int .u64 0, .int .u64 0]) := (hS.don 1 _ 15 rfl d1 rfl).trans (by simp only [putAll, Act.put, List.setIfInBounds_toArray, List.set_cons_zero, List.set_cons_succ]; rfl)
      have d2 : lp.getD 2 false = true := hdep { on := 2, ground := .data } (by simp) rfl
      have e16 : a'.tmps[16]? = some (.int .i64 0) := (hS.don 2 _ 16 rfl d2 rfl).trans (by simp only [putAll, Act.put, List.setIfInBounds_toArray, List.set_cons_zero, List.set_cons_succ]; rfl)
      have KE := KC w'
      clear hdep
      unfold Oper.wp
      simp only [execOp, Act.eval, e15, e16]
      simp [go_sem, e15, e16, Oper.upon]
      refine KE.mono ?_
      rintro e W2 ⟨rfl, hb2⟩
      exact hK g W2 (fun _ _ _ _ _ _ => rfl) (by rw [hfl 9 (by decide)]; exact hR.below hb2) _ (by simp only [valO, Option.bind_some]; simp only [putAll, Act.put, List.setIfInBounds_toArray, List.set_cons_zero, List.set_cons_succ]; rfl)
    | 4, ho, hun, hdep, hK, hfl, _ =>
      obtain rfl := Option.some.inj ho
      have o5 : a'.tmps[5]? = some (.pointer (some ⟨w.heap.size + 1, 0, none⟩)) := (hS.old 5 (by simp)).trans rfl
      have hK' := hK g w' (fun _ _ _ _ _ _ => rfl) (by rw [hfl 9 (by decide)]; exact hR) (.agg #[.int .u64 (hI x), .int .u64 (lI x)]) (by simp only [valO, Option.bind_some]; simp only [putAll, Act.put, List.setIfInBounds_toArray, List.set_cons_zero, List.set_cons_succ]; rfl)
      clear hS hdep hR
      refine gh_quiet (v := .agg #[.int .u64 (hI x), .int .u64 (lI x)]) ?_ ?_
      · (simp only [execOp, Act.eval, o5]; go_simp; first | done | (simp; done) | (simp [*]; done))
      · exact hK'
    | 5, ho, hun, hdep, hK, hfl, _ =>
      obtain rfl := Option.some.inj ho
      have o0 : a'.tmps[0]? = some (.int .i64 F) := (hS.old 0 (by simp)).trans rfl
      have hK' := hK g w' (fun _ _ _ _ _ _ => rfl) (by rw [hfl 9 (by decide)]; exact hR) (.int .i64 F) (by simp only [valO, Option.bind_some]; simp only [putAll, Act.put, List.setIfInBounds_toArray, List.set_cons_zero, List.set_cons_succ]; rfl)
      clear hS hdep hR
      refine gh_quiet (v := .int .i64 F) ?_ ?_
      · (simp only [execOp, Act.eval, o0]; go_simp; first | done | (simp; done) | (simp [*]; done))
      · exact hK'
    | 6, ho, hun, hdep, hK, hfl, _ =>
      obtain rfl := Option.some.inj ho
      have d5 : lp.getD 5 false = true := hdep { on := 5, ground := .data } (by simp) rfl
      have e19 : a'.tmps[19]? = some (.int .i64 F) := (hS.don 5 _ 19 rfl d5 rfl).trans (by simp only [putAll, Act.put, List.setIfInBounds_toArray, List.set_cons_zero, List.set_cons_succ]; rfl)
      have KE := KM w'
      clear hdep
      unfold Oper.wp
      simp only [execOp, Act.eval, e19]
      simp [go_sem, e19, Oper.upon]
      refine KE.mono ?_
      rintro e W2 ⟨rfl, hb2⟩
      exact hK g W2 (fun _ _ _ _ _ _ => rfl) (by rw [hfl 9 (by decide)]; exact hR.below hb2) _ (by simp only [valO, Option.bind_some]; simp only [putAll, Act.put, List.setIfInBounds_toArray, List.set_cons_zero, List.set_cons_succ]; rfl)
    | 7, ho, hun, hdep, hK, hfl, _ =>
      obtain rfl := Option.some.inj ho
      have d4 : lp.getD 4 false = true := hdep { on := 4, ground := .data } (by simp) rfl
      have e18 : a'.tmps[18]? = some (.agg #[.int .u64 (hI x), .int .u64 (lI x)]) := (hS.don 4 _ 18 rfl d4 rfl).trans (by simp only [putAll, Act.put, List.setIfInBounds_toArray, List.set_cons_zero, List.set_cons_succ]; rfl)
      have d6 : lp.getD 6 false = true := hdep { on := 6, ground := .data } (by simp) rfl
      have e20 : a'.tmps[20]? = some (.agg #[.int .u64 (hI mk), .int .u64 (lI mk)]) := (hS.don 6 _ 20 rfl d6 rfl).trans (by simp only [putAll, Act.put, List.setIfInBounds_toArray, List.set_cons_zero, List.set_cons_succ]; rfl)
      have KE := KA w'
      clear hdep
      unfold Oper.wp
      simp only [execOp, Act.eval, e18, e20]
      simp [go_sem, e18, e20, Oper.upon]
      refine KE.mono ?_
      rintro e W2 ⟨rfl, hb2⟩
      exact hK g W2 (fun _ _ _ _ _ _ => rfl) (by rw [hfl 9 (by decide)]; exact hR.below hb2) _ (by simp only [valO, Option.bind_some]; simp only [putAll, Act.put, List.setIfInBounds_toArray, List.set_cons_zero, List.set_cons_succ]; rfl)
    | 8, ho, hun, hdep, hK, hfl, _ =>
      obtain rfl := Option.some.inj ho
      have d3 : lp.getD 3 false = true := hdep { on := 3, ground := .data } (by simp) rfl
      have e17 : a'.tmps[17]? = some (.agg #[.int .u64 0, .int .u64 0, .int .i64 0]) := (hS.don 3 _ 17 rfl d3 rfl).trans (by simp only [putAll, Act.put, List.setIfInBounds_toArray, List.set_cons_zero, List.set_cons_succ]; rfl)
      have o6 : a'.tmps[6]? = some (.pointer (some ⟨w.heap.size + 2, 0, none⟩)) := (hS.old 6 (by simp)).trans rfl
      obtain ⟨z0, z1, z2, f0, f1, f2⟩ := hR.r
      have hK' := hK g _ (fun _ _ _ _ _ _ => rfl) (by rw [hfl 9 (by decide)]; exact hR.stP) undef rfl
      clear hS hdep hR
      unfold Oper.wp
      simp only [hI_zero, lI_zero] at z0 z1
      simp [execOp, Act.eval, e17, o6, go_sem, z0, z1, z2, f0, f1, f2, Oper.upon]
      exact hK'
    | 9, ho, hun, hdep, hK, hfl, _ =>
      obtain rfl := Option.some.inj ho
      have d7 : lp.getD 7 false = true := hdep { on := 7, ground := .data } (by simp) rfl
      have e21 : a'.tmps[21]? = some (.agg #[.int .u64 (hI y), .int .u64 (lI y)]) := (hS.don 7 _ 21 rfl d7 rfl).trans (by simp only [putAll, Act.put, List.setIfInBounds_toArray, List.set_cons_zero, List.set_cons_succ]; rfl)
      have o7 : a'.tmps[7]? = some (.pointer (some ⟨w.heap.size + 3, 0, none⟩)) := (hS.old 7 (by simp)).trans rfl
      rw [hun] at hR
      have hz := hR.s
      simp only [Bool.false_eq_true, if_false] at hz
      obtain ⟨z0, z1, f0, f1, -⟩ := hz
      have hK' := hK g _ (fun _ _ _ _ _ _ => rfl) (by rw [getD_set_same (by rw [hsz]; decide)]; exact hR.stW) undef rfl
      clear hS hdep hR
      unfold Oper.wp
      simp [execOp, Act.eval, e21, o7, go_sem, z0, z1, f0, f1, Oper.upon]
      exact hK'
    | n + 10, ho, hun, hdep, hK, hfl, hq => exact absurd hq (by omega)
  case fin =>
    intro g W2 hR
    have hR : RF w x y true W2 := by simpa using hR
    obtain ⟨r0, r1, r2, -, -, -⟩ := hR.r
    have hs := hR.s
    simp only [if_true] at hs
    obtain ⟨s0, s1, -⟩ := hs
    have HB := hidR hR.bel
    simp only [hI_zero, lI_zero] at r0 r1
    simp only [putAll, Act.put, List.setIfInBounds_toArray, List.set_cons_zero, List.set_cons_succ]
    clear hR
    refine wl_nil (P := Tryd.prog) (ops := #[]) ?_
    go_wp2
    exact bodyPost_ret (v := .tuple #[.agg #[.int .u64 0, .int .u64 0, .int .i64 0], .agg #[.int .u64 (hI y), .int .u64 (lI y)]]) (by simp [results, Tryd.results24, go_sem, r0, r1, r2, s0, s1]) rfl ⟨rfl, HB.out⟩
set_option maxHeartbeats 4000000 in
theorem Fitted_zero (F : Int) (x : BitVec 128) (w : World) (h0 : 0 ≤ F) (h1 : F ≤ 128) :
    Calls Tryd.prog 8 #[.int .i64 F, .agg #[.int .u64 0, .int .u64 0, .int .i64 0], .agg #[.int .u64 (hI x), .int .u64 (lI x)]] w fun e w' => e = .returned (.tuple #[.agg #[.int .u64 0, .int .u64 0, .int .i64 0], .agg #[.int .u64 (hI (x &&& maskW F)), .int .u64 (lI (x &&& maskW F))]]) ∧ Below w.heap.size w w' := by
  have KF := fun w => fitted_zero F x w h0 h1
  have HF1 := hidR (rf_new w x (x &&& maskW F))
  revert KF HF1
  generalize x &&& maskW F = y
  intro KF HF1
  obtain ⟨p0, p1, p2, -, -, -⟩ := HF1.out.p
  obtain ⟨x0, x1, -⟩ := HF1.out.x
  simp only [hI_zero, lI_zero] at p0 p1
  go_enter Tryd.func8, Tryd.ntmps8
  go_wp2_with fail
  refine (KF _).mono ?_
  rintro e w1 ⟨rfl, hb⟩
  have HF := HF1.out.below hb
  obtain ⟨r0, r1, r2, f0, f1, f2⟩ := HF.r
  have hs := HF.s
  simp only [Bool.false_eq_true, if_false] at hs
  obtain ⟨s0, s1, g0, g1, -⟩ := id hs
  have HG := hidR (HF.stP.stW)
  obtain ⟨k0, k1, k2, -, -, -⟩ := HG.out.r
  have hk := HG.out.s
  simp only [if_true] at hk
  obtain ⟨k3, k4, -⟩ := hk
  simp only [hI_zero, lI_zero] at r0 r1 s0 s1 k0 k1
  clear KF hb HF1 HF p0 p1 p2 x0 x1 hs
  go_wp2
  exact bodyPost_ret (v := .tuple #[.agg #[.int .u64 0, .int .u64 0, .int .i64 0], .agg #[.int .u64 (hI y), .int .u64 (lI y)]]) (by simp [results, Tryd.results8, go_sem, k0, k1, k2, k3, k4]) rfl ⟨rfl, HG.out.bel⟩
theorem eqG2_run (x y : BitVec 128) (h : Int) (x' y' : BitVec 128) (h' : Int) (w : World) :
    (Op.equalIn 10000 39 (.agg #[.int .u64 (hI x), .int .u64 (lI x), .int .u64 (hI y), .int .u64 (lI y), .int .i64 h]) (.agg #[.int .u64 (hI x'), .int .u64 (lI x'), .int .u64 (hI y'), .int .u64 (lI y'), .int .i64 h'])).run Tryd.prog w = .ok ((x == x') && (y == y') && (h == h')) w := by
  rcases eqw x x' with ⟨q1, q2, q3⟩ | ⟨q1, q3⟩ | ⟨q1, q2, q3⟩ <;> rcases eqw y y' with ⟨r1, r2, r3⟩ | ⟨r1, r3⟩ | ⟨r1, r2, r3⟩
  all_goals
    rw [q3, r3]
    go_simp
    try simp [*]
    try (by_cases e : h = h' <;> simp [e])
set_option maxHeartbeats 4000000 in
theorem sameSegs2_any (v u : Value) (l m : List Sg) (w : World) (hv : RwG w v l) (hu : RwG w u m) (hl : l.length ≤ 1000000000) (hm : m.length ≤ 1000000000) :
    Calls Tryd.prog 15 #[v, u] w fun e w' => e = .returned (.bool (decide (l = m))) ∧ Below w.heap.size w w' := by
  obtain ⟨ao, c, rfl, hv⟩ := hv
  obtain ⟨au, d, rfl, hu⟩ := hu
  have HV := hidR hv
  have HU := hidR hu
  clear hv hu
  by_cases hlm : l.length = m.length
  · have dn : ((l.length : Int) != (m.length : Int)) = false := by simp [hlm]
    have HLM := hidR hlm
    clear hlm
    obtain ⟨bb, hbb⟩ : ∃ bb, bb = decide (l = m) := ⟨_, rfl⟩
    rw [← hbb]
    have HBB := hidR hbb
    clear hbb
    go_enter Tryd.func15, Tryd.ntmps15
    go_wp2_with fail
    go_loopw [5] (fun i wr => ∃ k : Nat, k ≤ l.length ∧ i = .int .i64 k ∧ Hid (l.take k = m.take k) ∧ Hid (Below w.heap.size w wr)) (fun i _ => l.length - (intOf i).toNat)
    case atStart => exact ⟨0, by omega, rfl, hidR (by simp), hidR (Below.refl _ _)⟩
    case round =>
      obtain ⟨k, hk, rfl, HK, HB⟩ := hrel
      by_cases hlt : (k : Int) < (l.length : Int)
      · have hks : k < l.length := by omega
        have hkm : k < m.length := by have := HLM.out; omega
        rcases HV.out with e | ⟨b, off, rfl, hc⟩
        · rw [e] at hks; simp at hks
        · rcases HU.out with e | ⟨b', off', rfl, hc'⟩
          · rw [e] at hkm; simp at hkm
          · obtain ⟨x0, x1, x2, x3, x4⟩ := rwg_cells hc k hks
            obtain ⟨y0, y1, y2, y3, y4⟩ := rwg_cells hc' k hkm
            have x0 := keepc HB.out x0
            have x1 := keepc HB.out x1
            have x2 := keepc HB.out x2
            have x3 := keepc HB.out x3
            have x4 := keepc HB.out x4
            have y0 := keepc HB.out y0
            have y1 := keepc HB.out y1
            have y2 := keepc HB.out y2
            have y3 := keepc HB.out y3
            have y4 := keepc HB.out y4
            have hE := fun w => eqG2_run l[k].1.1 l[k].1.2 l[k].2 m[k].1.1 m[k].1.2 m[k].2 w
            have HQ : Hid (((l[k].1.1 == m[k].1.1) && (l[k].1.2 == m[k].1.2) && (l[k].2 == m[k].2)) = true → l.take (k + 1) = m.take (k + 1)) := hidR (fun h => by
              rw [List.take_succ_eq_append_getElem hks, List.take_succ_eq_append_getElem hkm, HK.out]
              simp only [Bool.and_eq_true, beq_iff_eq] at h
              have : l[k] = m[k] := Prod.ext (Prod.ext h.1.1 h.1.2) h.2
              rw [this])
            have HN : Hid (((l[k].1.1 == m[k].1.1) && (l[k].1.2 == m[k].1.2) && (l[k].2 == m[k].2)) = false → bb = false) := hidR (fun h => by
              rw [HBB.out]
              refine decide_eq_false (fun e => ?_)
              subst e
              simp at h)
            revert hE HQ HN
            generalize ((l[k].1.1 == m[k].1.1) && (l[k].1.2 == m[k].1.2) && (l[k].2 == m[k].2)) = eb
            generalize l[k].1.1 = px at *
            generalize l[k].1.2 = pn at *
            generalize l[k].2 = ph at *
            generalize m[k].1.1 = qx at *
            generalize m[k].1.2 = qn at *
            generalize m[k].2 = qh at *
            intro hE HQ HN
            have mk : IntKind.i64.wrap ((k : Int) + 1) = (k : Int) + 1 := by rw [IntKind.wrap_i64]; omega
            have i1 : (k : Int) < (m.length : Int) := by omega
            clear HLM
            clear hc hc' HV HU
            cases eb with
            | true =>
              have HK2 := hidR (HQ.out rfl)
              go_wp2_with fail
              go_quiet (fail)
              go_wp2
              go_roundw
              case rel => exact ⟨k + 1, by omega, by go_num, HK2, hidR (below_drewN HB.out _)⟩
              case measure => simp [intOf]; omega
            | false =>
              have HK2 := hidR (HN.out rfl)
              go_wp2_with fail
              go_quiet (fail)
              go_wp2
              go_ret
              exact ⟨congrArg (fun b => Ending.returned (.bool b)) HK2.out.symm, below_drewN HB.out _⟩
      · have hd : ¬ k < l.length := by omega
        have HK2 : Hid (bb = true) := hidR (by
          rw [HBB.out]
          have := HK.out
          rw [List.take_of_length_le (by omega), List.take_of_length_le (by have := HLM.out; omega)] at this
          exact decide_eq_true this)
        clear HV HU
        go_wp2
        go_ret
        exact ⟨congrArg (fun b => Ending.returned (.bool b)) HK2.out.symm, HB.out⟩
  · have dn : ((l.length : Int) != (m.length : Int)) = true := by
      have : ¬ (l.length : Int) = (m.length : Int) := by omega
      simpa using this
    have hne : decide (l = m) = false := decide_eq_false (fun e => hlm (by rw [e]))
    rw [hne]
    clear HV HU
    go_enter Tryd.func15, Tryd.ntmps15
    go_wp2
    go_ret
    exact ⟨rfl, Below.refl _ _⟩
end Go.Proofs.YtmkjlcfoedglmaaDoor
/-
  What the calls of the law's SameRoutes, Same (of two that are the same) and Right do.
-/
namespace Go.Proofs.YtmkjlcfoedglmaaDoor
open Go.RowKit
set_option linter.unusedSimpArgs false
set_option linter.unusedVariables false

theorem eqR_run (x : BitVec 128) (n h : Int) (w : World) :
    (Op.equalIn 10000 53 (.agg #[.int .u64 (hI x), .int .u64 (lI x), .int .i64 n, .int .i64 h]) (.agg #[.int .u64 (hI x), .int .u64 (lI x), .int .i64 n, .int .i64 h])).run Tryd.prog w = .ok true w := by
  go_simp
/-- Is a table right? -/
def RightT (F : Int) (l : List Rte) : Prop := l.length ≤ 3000 ∧ rtsE F l = 0 ∧ Adj l
set_option maxHeartbeats 2000000 in
theorem rightT_any (F : Int) (v : Value) (l : List Rte) (w : World) (hv : RwR w v l) :
    Calls Tryd.prog 7 #[.agg #[.int .i64 F, v]] w fun e w' => (∃ r : Bool, (r = true → RightT F l) ∧ e = .returned (.bool r)) ∧ Below w.heap.size w w' := by
  have b1 := bl1 w (.cells #[.int .i64 F, v] 24)
  have KC := rcheckT_any F v l _ (hv.below b1)
  obtain ⟨p0, p1⟩ := att_new w w.heap.size F v 24 rfl
  have HB := hidR b1
  obtain ⟨ao, c, rfl, -⟩ := hv
  clear b1
  by_cases hl : l.length ≤ 3000
  · have h1 : (l.length : Int) ≤ 3000 := by omega
    go_enter Tryd.func7, Tryd.ntmps7
    go_wp2_with fail
    refine KC.mono ?_
    rintro e w1 ⟨⟨z, hz, rfl⟩, hb⟩
    have kB := keepb hb HB.out
    have HE : Hid ((z == 0) = true → RightT F l) := hidR (fun h => by
      have h0 : z = 0 := by simpa using h
      subst h0
      have hr : rtsE F l = 0 := Classical.byContradiction fun hn => hn (hz.1 hn).symm
      refine ⟨hl, hr, ?_⟩
      rcases hz.2 hr with ⟨q, -⟩ | ⟨-, q⟩
      · exact q
      · omega)
    clear KC hb HB p0 p1 hz
    go_wp2
    go_ret
    exact ⟨⟨z == 0, HE.out, rfl⟩, kB⟩
  · have h1 : ¬ (l.length : Int) ≤ 3000 := by omega
    clear KC
    go_enter Tryd.func7, Tryd.ntmps7
    go_wp2
    go_ret
    exact ⟨.inl rfl, HB.out⟩
end Go.Proofs.YtmkjlcfoedglmaaDoor
/-
  How many segments a sweep tells at most.
-/
namespace Go.Proofs.YtmkjlcfoedglmaaDoor
set_option linter.unusedSimpArgs false
set_option linter.unusedVariables false

theorem endT_len (F : Int) : ∀ (op : List Rte) (t : T3), (endT F op t).2.2.length ≤ op.length + t.2.2.length
  | [], t => by simp [endT]
  | o :: os, t => by
    rw [endT]
    have h1 := endT_len F os (tell3 F (lastW F o.1.1 o.1.2) o.2 t)
    have h2 := tell3_len F (lastW F o.1.1 o.1.2) o.2 t
    simp only [List.length_cons]
    omega
theorem swpGo_len (F : Int) : ∀ (L op : List Rte) (t : T3), (swpGo F op t L).2.2.length ≤ op.length + t.2.2.length + 2 * L.length
  | [], op, t => by rw [swpGo]; have := endT_len F op t; simp only [List.length_nil]; omega
  | r :: L, op, t => by
    rw [swpGo]
    have h1 := swpGo_len F L (r :: popO r op) (entT F r (hopO (popO r op)) (popT F r op t))
    have h2 := entT_len F r (hopO (popO r op)) (popT F r op t)
    have h3 := popT_len F r op t
    simp only [List.length_cons] at h1 ⊢
    omega
theorem swp_len (F : Int) (l : List Rte) : (swp F l).length ≤ 1 + 2 * l.length := by
  have := swpGo_len F l op0 t30
  unfold swp
  rw [List.length_reverse]
  have e : op0.length + t30.2.2.length = 1 := rfl
  omega
end Go.Proofs.YtmkjlcfoedglmaaDoor
