/-
  Part 16 of the proof: 1 texts, one behind the other.
-/
import Derived.Test.YtonagfmkplbooaaGreatDoorPart15
/-
  What the call of the sweeper's tell does.
-/
namespace Go.Proofs.YtonagfmkplbooaaGreatDoor
open Go.RowKit
set_option linter.unusedSimpArgs false
set_option linter.unusedVariables false

/-- What tell reads. -/
def TC (w : World) (base B : Nat) (F : Int) (op : List Rte) (t : T3) (Z : Nat → Prop) (ob : Nat → Option Obj) (vo vc vt : Value) (la : BitVec 128) (W : World) : Prop := SwV W base B F op t Z ob vo vc vt ∧ At W w.heap.size la ∧ Below base w W ∧ w.heap.size < W.heap.size
theorem TC.below {w W W' : World} {base B : Nat} {F : Int} {op : List Rte} {t : T3} {Z : Nat → Prop} {ob : Nat → Option Obj} {vo vc vt : Value} {la : BitVec 128} (k : TC w base B F op t Z ob vo vc vt la W) (hb : Below W.heap.size W W') : TC w base B F op t Z ob vo vc vt la W' := ⟨k.1.below hb, k.2.1.below hb, k.2.2.1.trans (hb.mono k.1.base), by have := hb.size; have := k.2.2.2; omega⟩
theorem TC.drew {w W : World} {base B : Nat} {F : Int} {op : List Rte} {t : T3} {Z : Nat → Prop} {ob : Nat → Option Obj} {vo vc vt : Value} {la : BitVec 128} (k : TC w base B F op t Z ob vo vc vt la W) : TC w base B F op t Z ob vo vc vt la W.drew := k.below (below_drewN (Below.refl _ _) 1)
/-- behind's answer while tell goes on. -/
def valT (n N : Nat) : Value := .slice (some ⟨(decN N).1, 0, none⟩) n (decN N).2
theorem TC.bh {w W W' : World} {base B : Nat} {F : Int} {op : List Rte} {nx : BitVec 128} {en : Bool} {to st : List Sg} {Z : Nat → Prop} {ob : Nat → Option Obj} {vo vc vt v' : Value} {la : BitVec 128} (k : TC w base B F op (nx, en, to) Z ob vo vc vt la W) (hz : vt.ownBlock ≠ some w.heap.size) (h : BhO base vt st W v' W') : TC w base B F op (nx, en, st) Z ob vo vc v' la W' := by
  refine ⟨k.1.told h, k.2.1.heap (h.2.1.block _ k.2.2.2 (fun e => hz e.symm)) h.2.1.size, k.2.2.1.grown h.2.1 k.1.base (fun z e => (k.1.ot.lt z e).1), ?_⟩
  have := h.2.1.size
  have := k.2.2.2
  omega
/-- What lies in a sweeper lies ahead of what is made later. -/
theorem TC.apart {w W : World} {base B : Nat} {F : Int} {op : List Rte} {t : T3} {Z : Nat → Prop} {ob : Nat → Option Obj} {vo vc vt : Value} {la : BitVec 128} (k : TC w base B F op t Z ob vo vc vt la W) : base ≤ W.heap.size ∧ B < W.heap.size ∧ (∀ z, Z z → z < W.heap.size) ∧ w.heap.size < W.heap.size ∧ (∀ z, vo.ownBlock = some z → z < W.heap.size) ∧ (∀ z, vt.ownBlock = some z → z < W.heap.size) := ⟨k.1.base, k.1.c.lt, k.1.zl, k.2.2.2, fun z e => (k.1.oo.lt z e).2, fun z e => (k.1.ot.lt z e).2⟩
theorem TC.setN {w W : World} {base B : Nat} {F : Int} {op : List Rte} {t : T3} {Z : Nat → Prop} {ob : Nat → Option Obj} {vo vc vt : Value} {la : BitVec 128} {H N : Nat} (k : TC w base B F op t Z ob vo vc vt la W) (h : base ≤ H ∧ B < H ∧ (∀ z, Z z → z < H) ∧ w.heap.size < H ∧ (∀ z, vo.ownBlock = some z → z < H) ∧ (∀ z, vt.ownBlock = some z → z < H)) (hN : H ≤ N) (u v : Value) : TC w base B F op t Z ob vo vc vt la ((W.setCell ⟨N, 0, none⟩ u).setCell ⟨N, 1, none⟩ v) := by
  obtain ⟨h0, h1, h2, h3, h4, h5⟩ := h
  have he : ∀ z, z < H → ((W.setCell ⟨N, 0, none⟩ u).setCell ⟨N, 1, none⟩ v).heap[z]? = W.heap[z]? := fun z q => by rw [hSet _ (by omega), hSet _ (by omega)]
  have hz : ((W.setCell ⟨N, 0, none⟩ u).setCell ⟨N, 1, none⟩ v).heap.size = W.heap.size := by simp
  refine ⟨⟨k.1.c.heap (he _ h1), own_heap k.1.oo (fun g e => he g (h4 g e)), own_heap k.1.ot (fun g e => he g (h5 g e)), k.1.n1, k.1.n2, k.1.n3, k.1.bB, fun z q => by rw [he z (h2 z q)]; exact k.1.z z q, k.1.zB, fun z q => by rw [hz]; exact k.1.zl z q, k.1.z1, k.1.z2⟩, k.2.1.heap (he _ h3) (by rw [hz]; exact Nat.le_refl _), (k.2.2.1.setCell (p := ⟨N, 0, none⟩) (by simp; omega) u).setCell (p := ⟨N, 1, none⟩) (by simp; omega) v, by rw [hz]; exact k.2.2.2⟩
set_option maxRecDepth 20000 in
set_option maxHeartbeats 8000000 in
theorem tell_any (base B : Nat) (F : Int) (o : Rte) (os : List Rte) (t : T3) (Z : Nat → Prop) (ob : Nat → Option Obj) (vo vt : Value) (la : BitVec 128) (w : World) (k : SwV w base B F (o :: os) t Z ob vo vt vt) (hl : os.length ≤ 1000000000) (ht : t.2.2.length ≤ 1000000000) :
    Calls Tryz.prog 63 #[.pointer (some ⟨B, 0, none⟩), .agg #[.int .u64 (hI la), .int .u64 (lI la)]] w fun e w' => e = .returned (.tuple #[]) ∧ (∃ vt', SwV w' base B F (o :: os) (tell3 F la o.2 t) Z ob vo vt' vt') ∧ Below base w w' := by
  obtain ⟨nx, en, to⟩ := t
  obtain ⟨⟨ox, om⟩, oh⟩ := o
  have HC := hidR (⟨k.below (bl1 w (.cells #[.int .u64 (hI la), .int .u64 (lI la)] 27)), at_new w w.heap.size la 27 rfl, (bl1 w (.cells #[.int .u64 (hI la), .int .u64 (lI la)] 27)).mono k.base, by simp⟩ : TC w base B F (((ox, om), oh) :: os) (nx, en, to) Z ob vo vt vt la (w.alloc (.cells #[.int .u64 (hI la), .int .u64 (lI la)] 27)))
  have hvt : vt.ownBlock ≠ some w.heap.size := fun e => by have := (k.ot.lt _ e).2; omega
  have hwB : ¬ w.heap.size = B := by have := k.c.lt; omega
  clear k
  go_enter Tryz.func63, Tryz.ntmps63
  cases en with
  | true =>
    have HE : Hid (tell3 F la oh (nx, true, to) = (nx, true, to)) := hidR (by unfold tell3; rw [if_pos rfl])
    go_wp2_with fail
    refine qw_region (C := TC w base B F (((ox, om), oh) :: os) (nx, true, to) Z ob vo vt vt la) (by kernel_rfl) (by kernel_rfl) (TC.drew HC.out) ?_
    clear HC
    refine qw_run (v := .pointer (some ⟨B, 0, none⟩)) (by rfl) ?_ ?_
    · (intro w1 hC; obtain ⟨⟨⟨a0, a1, a2, a3, a4, a5⟩, -⟩, ⟨l0, l1, -⟩⟩ := And.intro hC.1.c hC.2.1; go_simp; first | done | (simp; done) | (simp [*]; done) | omega | (simp; omega) | (rw [IntKind.wrap_i64]; omega) | (intro hx; omega) | rfl)
    simp only [Act.put, List.setIfInBounds_toArray, List.set_cons_zero, List.set_cons_succ]
    refine qw_run (v := .pointer (some ⟨B, 0, none⟩)) (by rfl) ?_ ?_
    · (intro w1 hC; obtain ⟨⟨⟨a0, a1, a2, a3, a4, a5⟩, -⟩, ⟨l0, l1, -⟩⟩ := And.intro hC.1.c hC.2.1; go_simp; first | done | (simp; done) | (simp [*]; done) | omega | (simp; omega) | (rw [IntKind.wrap_i64]; omega) | (intro hx; omega) | rfl)
    simp only [Act.put, List.setIfInBounds_toArray, List.set_cons_zero, List.set_cons_succ]
    refine qw_run (v := .pointer (some ⟨B, 4, none⟩)) (by rfl) ?_ ?_
    · (intro w1 hC; obtain ⟨⟨⟨a0, a1, a2, a3, a4, a5⟩, -⟩, ⟨l0, l1, -⟩⟩ := And.intro hC.1.c hC.2.1; go_simp; first | done | (simp; done) | (simp [*]; done) | omega | (simp; omega) | (rw [IntKind.wrap_i64]; omega) | (intro hx; omega) | rfl)
    simp only [Act.put, List.setIfInBounds_toArray, List.set_cons_zero, List.set_cons_succ]
    refine qw_run (v := .bool true) (by rfl) ?_ ?_
    · (intro w1 hC; obtain ⟨⟨⟨a0, a1, a2, a3, a4, a5⟩, -⟩, ⟨l0, l1, -⟩⟩ := And.intro hC.1.c hC.2.1; go_simp; first | done | (simp; done) | (simp [*]; done) | omega | (simp; omega) | (rw [IntKind.wrap_i64]; omega) | (intro hx; omega) | rfl)
    simp only [Act.put, List.setIfInBounds_toArray, List.set_cons_zero, List.set_cons_succ]
    refine qw_run (v := .bool true) (by rfl) ?_ ?_
    · (intro w1 hC; obtain ⟨⟨⟨a0, a1, a2, a3, a4, a5⟩, -⟩, ⟨l0, l1, -⟩⟩ := And.intro hC.1.c hC.2.1; go_simp; first | done | (simp; done) | (simp [*]; done) | omega | (simp; omega) | (rw [IntKind.wrap_i64]; omega) | (intro hx; omega) | rfl)
    simp only [Act.put, List.setIfInBounds_toArray, List.set_cons_zero, List.set_cons_succ]
    refine qw_skip (by rfl) ?_
    simp only [Act.put, List.setIfInBounds_toArray, List.set_cons_zero, List.set_cons_succ]
    refine qw_skip (by rfl) ?_
    simp only [Act.put, List.setIfInBounds_toArray, List.set_cons_zero, List.set_cons_succ]
    refine qw_skip (by rfl) ?_
    simp only [Act.put, List.setIfInBounds_toArray, List.set_cons_zero, List.set_cons_succ]
    refine qw_skip (by rfl) ?_
    simp only [Act.put, List.setIfInBounds_toArray, List.set_cons_zero, List.set_cons_succ]
    refine qw_skip (by rfl) ?_
    simp only [Act.put, List.setIfInBounds_toArray, List.set_cons_zero, List.set_cons_succ]
    refine qw_skip (by rfl) ?_
    simp only [Act.put, List.setIfInBounds_toArray, List.set_cons_zero, List.set_cons_succ]
    refine qw_skip (by rfl) ?_
    simp only [Act.put, List.setIfInBounds_toArray, List.set_cons_zero, List.set_cons_succ]
    refine qw_run (v := .bool true) (by rfl) ?_ ?_
    · (intro w1 hC; obtain ⟨⟨⟨a0, a1, a2, a3, a4, a5⟩, -⟩, ⟨l0, l1, -⟩⟩ := And.intro hC.1.c hC.2.1; go_simp; first | done | (simp; done) | (simp [*]; done) | omega | (simp; omega) | (rw [IntKind.wrap_i64]; omega) | (intro hx; omega) | rfl)
    simp only [Act.put, List.setIfInBounds_toArray, List.set_cons_zero, List.set_cons_succ]
    refine qw_nil ?_
    intro W hC
    have HC := hidR hC
    clear hC
    go_wp2
    exact bodyPost_ret (v := .tuple #[]) (by simp [results, Tryz.results63, go_sem]) rfl ⟨rfl, ⟨vt, by rw [HE.out]; exact HC.out.1⟩, HC.out.2.2.1⟩
  | false =>
    have KC := fun w => cmp_any la nx w
    have HE : Hid (tell3 F la oh (nx, false, to) = if cmpZ la nx < 0 then (nx, false, to) else (nextV F la, !nextB F la, behS to ((nx, la), oh))) := hidR (by unfold tell3; rw [if_neg (by simp)])
    revert KC HE
    generalize cmpZ la nx = cz
    intro KC HE
    obtain ⟨bz, hbz⟩ : ∃ b, b = decide (cz < 0) := ⟨_, rfl⟩
    go_wp2_with fail
    refine qw_region (C := TC w base B F (((ox, om), oh) :: os) (nx, false, to) Z ob vo vt vt la) (by kernel_rfl) (by kernel_rfl) (TC.drew HC.out) ?_
    clear HC
    refine qw_run (v := .pointer (some ⟨B, 0, none⟩)) (by rfl) ?_ ?_
    · (intro w1 hC; obtain ⟨⟨⟨a0, a1, a2, a3, a4, a5⟩, -⟩, ⟨l0, l1, -⟩⟩ := And.intro hC.1.c hC.2.1; go_simp; first | done | (simp; done) | (simp [*]; done) | omega | (simp; omega) | (rw [IntKind.wrap_i64]; omega) | (intro hx; omega) | rfl)
    simp only [Act.put, List.setIfInBounds_toArray, List.set_cons_zero, List.set_cons_succ]
    refine qw_run (v := .pointer (some ⟨B, 0, none⟩)) (by rfl) ?_ ?_
    · (intro w1 hC; obtain ⟨⟨⟨a0, a1, a2, a3, a4, a5⟩, -⟩, ⟨l0, l1, -⟩⟩ := And.intro hC.1.c hC.2.1; go_simp; first | done | (simp; done) | (simp [*]; done) | omega | (simp; omega) | (rw [IntKind.wrap_i64]; omega) | (intro hx; omega) | rfl)
    simp only [Act.put, List.setIfInBounds_toArray, List.set_cons_zero, List.set_cons_succ]
    refine qw_run (v := .pointer (some ⟨B, 4, none⟩)) (by rfl) ?_ ?_
    · (intro w1 hC; obtain ⟨⟨⟨a0, a1, a2, a3, a4, a5⟩, -⟩, ⟨l0, l1, -⟩⟩ := And.intro hC.1.c hC.2.1; go_simp; first | done | (simp; done) | (simp [*]; done) | omega | (simp; omega) | (rw [IntKind.wrap_i64]; omega) | (intro hx; omega) | rfl)
    simp only [Act.put, List.setIfInBounds_toArray, List.set_cons_zero, List.set_cons_succ]
    refine qw_run (v := .bool false) (by rfl) ?_ ?_
    · (intro w1 hC; obtain ⟨⟨⟨a0, a1, a2, a3, a4, a5⟩, -⟩, ⟨l0, l1, -⟩⟩ := And.intro hC.1.c hC.2.1; go_simp; first | done | (simp; done) | (simp [*]; done) | omega | (simp; omega) | (rw [IntKind.wrap_i64]; omega) | (intro hx; omega) | rfl)
    simp only [Act.put, List.setIfInBounds_toArray, List.set_cons_zero, List.set_cons_succ]
    refine qw_run (v := .bool false) (by rfl) ?_ ?_
    · (intro w1 hC; obtain ⟨⟨⟨a0, a1, a2, a3, a4, a5⟩, -⟩, ⟨l0, l1, -⟩⟩ := And.intro hC.1.c hC.2.1; go_simp; first | done | (simp; done) | (simp [*]; done) | omega | (simp; omega) | (rw [IntKind.wrap_i64]; omega) | (intro hx; omega) | rfl)
    simp only [Act.put, List.setIfInBounds_toArray, List.set_cons_zero, List.set_cons_succ]
    refine qw_run (v := .agg #[.int .u64 (hI la), .int .u64 (lI la)]) (by rfl) ?_ ?_
    · (intro w1 hC; obtain ⟨⟨⟨a0, a1, a2, a3, a4, a5⟩, -⟩, ⟨l0, l1, -⟩⟩ := And.intro hC.1.c hC.2.1; go_simp; first | done | (simp; done) | (simp [*]; done) | omega | (simp; omega) | (rw [IntKind.wrap_i64]; omega) | (intro hx; omega) | rfl)
    simp only [Act.put, List.setIfInBounds_toArray, List.set_cons_zero, List.set_cons_succ]
    refine qw_run (v := .pointer (some ⟨B, 0, none⟩)) (by rfl) ?_ ?_
    · (intro w1 hC; obtain ⟨⟨⟨a0, a1, a2, a3, a4, a5⟩, -⟩, ⟨l0, l1, -⟩⟩ := And.intro hC.1.c hC.2.1; go_simp; first | done | (simp; done) | (simp [*]; done) | omega | (simp; omega) | (rw [IntKind.wrap_i64]; omega) | (intro hx; omega) | rfl)
    simp only [Act.put, List.setIfInBounds_toArray, List.set_cons_zero, List.set_cons_succ]
    refine qw_run (v := .pointer (some ⟨B, 0, none⟩)) (by rfl) ?_ ?_
    · (intro w1 hC; obtain ⟨⟨⟨a0, a1, a2, a3, a4, a5⟩, -⟩, ⟨l0, l1, -⟩⟩ := And.intro hC.1.c hC.2.1; go_simp; first | done | (simp; done) | (simp [*]; done) | omega | (simp; omega) | (rw [IntKind.wrap_i64]; omega) | (intro hx; omega) | rfl)
    simp only [Act.put, List.setIfInBounds_toArray, List.set_cons_zero, List.set_cons_succ]
    refine qw_run (v := .pointer (some ⟨B, 2, none⟩)) (by rfl) ?_ ?_
    · (intro w1 hC; obtain ⟨⟨⟨a0, a1, a2, a3, a4, a5⟩, -⟩, ⟨l0, l1, -⟩⟩ := And.intro hC.1.c hC.2.1; go_simp; first | done | (simp; done) | (simp [*]; done) | omega | (simp; omega) | (rw [IntKind.wrap_i64]; omega) | (intro hx; omega) | rfl)
    simp only [Act.put, List.setIfInBounds_toArray, List.set_cons_zero, List.set_cons_succ]
    refine qw_run (v := .agg #[.int .u64 (hI nx), .int .u64 (lI nx)]) (by rfl) ?_ ?_
    · (intro w1 hC; obtain ⟨⟨⟨a0, a1, a2, a3, a4, a5⟩, -⟩, ⟨l0, l1, -⟩⟩ := And.intro hC.1.c hC.2.1; go_simp; first | done | (simp; done) | (simp [*]; done) | omega | (simp; omega) | (rw [IntKind.wrap_i64]; omega) | (intro hx; omega) | rfl)
    simp only [Act.put, List.setIfInBounds_toArray, List.set_cons_zero, List.set_cons_succ]
    refine qw_call (v := .int .i64 cz) (f := 86) (args := #[.agg #[.int .u64 (hI la), .int .u64 (lI la)], .agg #[.int .u64 (hI nx), .int .u64 (lI nx)]]) (by rfl) ?_ ?_ ?_
    · (intro w1 hC; clear hC; go_simp)
    · exact fun w1 hC => (KC w1).mono fun e w' ⟨he, hb⟩ => ⟨he, TC.below hC hb⟩
    simp only [Act.put, List.setIfInBounds_toArray, List.set_cons_zero, List.set_cons_succ]
    refine qw_run (v := .bool bz) (by rfl) ?_ ?_
    · (intro w1 hC; obtain ⟨⟨⟨a0, a1, a2, a3, a4, a5⟩, -⟩, ⟨l0, l1, -⟩⟩ := And.intro hC.1.c hC.2.1; rw [hbz]; go_simp; first | done | (simp; done) | (simp [*]; done) | omega | (simp; omega) | (rw [IntKind.wrap_i64]; omega) | (intro hx; omega) | rfl)
    simp only [Act.put, List.setIfInBounds_toArray, List.set_cons_zero, List.set_cons_succ]
    refine qw_run (v := .bool bz) (by rfl) ?_ ?_
    · (intro w1 hC; obtain ⟨⟨⟨a0, a1, a2, a3, a4, a5⟩, -⟩, ⟨l0, l1, -⟩⟩ := And.intro hC.1.c hC.2.1; go_simp; first | done | (simp; done) | (simp [*]; done) | omega | (simp; omega) | (rw [IntKind.wrap_i64]; omega) | (intro hx; omega) | rfl)
    simp only [Act.put, List.setIfInBounds_toArray, List.set_cons_zero, List.set_cons_succ]
    refine qw_nil ?_
    intro W hC
    have HC := hidR hC
    clear hC KC
    cases bz with
    | true =>
      have HE : Hid (tell3 F la oh (nx, false, to) = (nx, false, to)) := hidR (by rw [HE.out, if_pos (by simpa using hbz.symm)])
      clear hbz
      go_wp2
      exact bodyPost_ret (v := .tuple #[]) (by simp [results, Tryz.results63, go_sem]) rfl ⟨rfl, ⟨vt, by rw [HE.out]; exact HC.out.1⟩, HC.out.2.2.1⟩
    | false =>
      have HE : Hid (tell3 F la oh (nx, false, to) = (nextV F la, !nextB F la, behS to ((nx, la), oh))) := hidR (by rw [HE.out, if_neg (by simpa using hbz.symm)])
      clear hbz
      obtain ⟨g, cap, rfl, -, hcap⟩ := HC.out.1.inner
      have KI : ∀ W (X : List Sg) (y : Value), TC w base B F (((ox, om), oh) :: os) (nx, false, X) Z ob (.slice (some ⟨g, 0, none⟩) (os.length + 1) cap) vt y la W → Calls Tryz.prog 37 #[.pointer (some ⟨B, 0, none⟩)] W fun e w' => e = .returned (.agg #[.int .u64 (hI ox), .int .u64 (lI ox), .int .i64 om, .int .i64 oh]) ∧ Below W.heap.size W w' := fun W X y h => by
        obtain ⟨g', cap', e, h2, -⟩ := h.1.inner
        injection e with e1 _ e3
        injection e1 with e1
        injection e1 with e1
        subst e1
        subst e3
        exact inner_any B g os.length cap ox om oh W h2 hl
      have KB : ∀ W, TC w base B F (((ox, om), oh) :: os) (nx, false, to) Z ob (.slice (some ⟨g, 0, none⟩) (os.length + 1) cap) vt vt la W → Calls Tryz.prog 42 #[vt, .agg #[.int .u64 (hI nx), .int .u64 (lI nx), .int .u64 (hI la), .int .u64 (lI la), .int .i64 oh]] W fun e w' => ∃ N, e = .returned (valT (behS to ((nx, la), oh)).length N) ∧ TC w base B F (((ox, om), oh) :: os) (nx, false, behS to ((nx, la), oh)) Z ob (.slice (some ⟨g, 0, none⟩) (os.length + 1) cap) vt (valT (behS to ((nx, la), oh)).length N) la w' := fun W h => by
        refine (behind_any base vt to nx la oh W h.1.ot h.1.base ht).mono ?_
        rintro e w' ⟨v', rfl, hB⟩
        obtain ⟨g', cap', e, -, -⟩ := hB.1.form (by cases to <;> simp [behS]; split <;> simp)
        obtain ⟨N, hN⟩ := decN_ex g' cap'
        have e2 : v' = valT (behS to ((nx, la), oh)).length N := by rw [e, valT, hN]
        exact ⟨N, by rw [e2], by rw [← e2]; exact TC.bh h hvt hB⟩
      have KN := fun w => anext_any F la w
      revert HE KB KN
      generalize nextV F la = yn
      generalize nextB F la = bn
      generalize behS to ((nx, la), oh) = st
      intro HE KB KN
      go_wp2_with fail
      refine cl_region 15 14 (alOk (qpOk 15 14 (by decide) (fun N => by kernel_rfl) (by kernel_rfl) (by kernel_rfl) (by kernel_rfl) (by kernel_rfl)) (by decide) rfl rfl (by kernel_rfl)) (D := TC w base B F (((ox, om), oh) :: os) (nx, false, to) Z ob (.slice (some ⟨g, 0, none⟩) (os.length + 1) cap) vt vt la) (C1 := fun N => TC w base B F (((ox, om), oh) :: os) (nx, false, st) Z ob (.slice (some ⟨g, 0, none⟩) (os.length + 1) cap) vt (valT st.length N) la) [some 19, some 20, some 21, some 22, some 23, some 24, some 25, some 26, some 27, some 28, some 29, some 30, some 31, some 32, some 33] (fun N => [.pointer (some ⟨B, 0, none⟩), .pointer (some ⟨B, 0, none⟩), .pointer (some ⟨B, 0, none⟩), .pointer (some ⟨B, 5, none⟩), vt, .pointer (some ⟨B, 0, none⟩), .pointer (some ⟨B, 0, none⟩), .pointer (some ⟨B, 2, none⟩), .agg #[.int .u64 (hI nx), .int .u64 (lI nx)], .agg #[.int .u64 (hI la), .int .u64 (lI la)], .pointer (some ⟨B, 0, none⟩), .agg #[.int .u64 (hI ox), .int .u64 (lI ox), .int .i64 om, .int .i64 oh], .int .i64 oh, .agg #[.int .u64 (hI nx), .int .u64 (lI nx), .int .u64 (hI la), .int .u64 (lI la), .int .i64 oh], valT st.length N]) (fun N => valT st.length N) 33 [23, 32] (by kernel_rfl) rfl ?hA ?hrd ?hal (TC.drew HC.out) ?walk ?fin
      case hA => intro N; simp only [putAll, Act.put, List.setIfInBounds_toArray, List.set_cons_zero, List.set_cons_succ]; rfl
      case hrd => kernel_rfl
      case hal =>
        intro W a' hC hr K Q' hK
        have e23 : a'.tmps[23]? = some vt := (hr 23 (by simp)).trans (by simp only [putAll, Act.put, List.setIfInBounds_toArray, List.set_cons_zero, List.set_cons_succ]; rfl)
        have e32 : a'.tmps[32]? = some (.agg #[.int .u64 (hI nx), .int .u64 (lI nx), .int .u64 (hI la), .int .u64 (lI la), .int .i64 oh]) := (hr 32 (by simp)).trans (by simp only [putAll, Act.put, List.setIfInBounds_toArray, List.set_cons_zero, List.set_cons_succ]; rfl)
        clear hr HC
        unfold Oper.wp
        simp [execOp, e23, e32, go_sem, Oper.upon]
        refine (KB W hC).mono ?_
        rintro e w' ⟨N, rfl, h⟩
        exact hK N w' h
      case walk =>
        intro N X hX
        have hXD : ∀ W, X W → ∃ (L : List Sg) (y : Value), TC w base B F (((ox, om), oh) :: os) (nx, false, L) Z ob (.slice (some ⟨g, 0, none⟩) (os.length + 1) cap) vt y la W := by
          rcases hX with rfl | rfl
          · exact fun W h => ⟨_, _, h⟩
          · exact fun W h => ⟨_, _, h⟩
        have hXb : ∀ W W', X W → Below W.heap.size W W' → X W' := by
          rcases hX with rfl | rfl
          · exact fun W W' h hb => TC.below h hb
          · exact fun W W' h hb => TC.below h hb
        clear hX HC
        dsimp only [rep, List.take, List.modify, List.modifyTailIdx, List.modifyTailIdx.go, List.modifyHead]
        refine q_run (v := .pointer (some ⟨B, 0, none⟩)) (by rfl) ?_ ?_
        · (intro w1 hC; obtain ⟨L, y, hC⟩ := hXD w1 hC; obtain ⟨⟨⟨a0, a1, a2, a3, a4, a5⟩, -⟩, ⟨l0, l1, -⟩⟩ := And.intro hC.1.c hC.2.1; clear hC; go_simp; first | done | (simp; done) | (simp [*]; done) | omega | (simp; omega) | (rw [IntKind.wrap_i64]; omega) | (intro hx; omega) | rfl)
        simp only [Act.put, List.setIfInBounds_toArray, List.set_cons_zero, List.set_cons_succ]
        refine q_run (v := .pointer (some ⟨B, 0, none⟩)) (by rfl) ?_ ?_
        · (intro w1 hC; obtain ⟨L, y, hC⟩ := hXD w1 hC; obtain ⟨⟨⟨a0, a1, a2, a3, a4, a5⟩, -⟩, ⟨l0, l1, -⟩⟩ := And.intro hC.1.c hC.2.1; clear hC; go_simp; first | done | (simp; done) | (simp [*]; done) | omega | (simp; omega) | (rw [IntKind.wrap_i64]; omega) | (intro hx; omega) | rfl)
        simp only [Act.put, List.setIfInBounds_toArray, List.set_cons_zero, List.set_cons_succ]
        refine q_run (v := .pointer (some ⟨B, 0, none⟩)) (by rfl) ?_ ?_
        · (intro w1 hC; obtain ⟨L, y, hC⟩ := hXD w1 hC; obtain ⟨⟨⟨a0, a1, a2, a3, a4, a5⟩, -⟩, ⟨l0, l1, -⟩⟩ := And.intro hC.1.c hC.2.1; clear hC; go_simp; first | done | (simp; done) | (simp [*]; done) | omega | (simp; omega) | (rw [IntKind.wrap_i64]; omega) | (intro hx; omega) | rfl)
        simp only [Act.put, List.setIfInBounds_toArray, List.set_cons_zero, List.set_cons_succ]
        refine q_run (v := .pointer (some ⟨B, 5, none⟩)) (by rfl) ?_ ?_
        · (intro w1 hC; obtain ⟨L, y, hC⟩ := hXD w1 hC; obtain ⟨⟨⟨a0, a1, a2, a3, a4, a5⟩, -⟩, ⟨l0, l1, -⟩⟩ := And.intro hC.1.c hC.2.1; clear hC; go_simp; first | done | (simp; done) | (simp [*]; done) | omega | (simp; omega) | (rw [IntKind.wrap_i64]; omega) | (intro hx; omega) | rfl)
        simp only [Act.put, List.setIfInBounds_toArray, List.set_cons_zero, List.set_cons_succ]
        refine q_run (v := vt) (by rfl) ?_ ?_
        · (intro w1 hC; obtain ⟨L, y, hC⟩ := hXD w1 hC; obtain ⟨⟨⟨a0, a1, a2, a3, a4, a5⟩, -⟩, ⟨l0, l1, -⟩⟩ := And.intro hC.1.c hC.2.1; clear hC; go_simp; first | done | (simp; done) | (simp [*]; done) | omega | (simp; omega) | (rw [IntKind.wrap_i64]; omega) | (intro hx; omega) | rfl)
        simp only [Act.put, List.setIfInBounds_toArray, List.set_cons_zero, List.set_cons_succ]
        refine q_run (v := .pointer (some ⟨B, 0, none⟩)) (by rfl) ?_ ?_
        · (intro w1 hC; obtain ⟨L, y, hC⟩ := hXD w1 hC; obtain ⟨⟨⟨a0, a1, a2, a3, a4, a5⟩, -⟩, ⟨l0, l1, -⟩⟩ := And.intro hC.1.c hC.2.1; clear hC; go_simp; first | done | (simp; done) | (simp [*]; done) | omega | (simp; omega) | (rw [IntKind.wrap_i64]; omega) | (intro hx; omega) | rfl)
        simp only [Act.put, List.setIfInBounds_toArray, List.set_cons_zero, List.set_cons_succ]
        refine q_run (v := .pointer (some ⟨B, 0, none⟩)) (by rfl) ?_ ?_
        · (intro w1 hC; obtain ⟨L, y, hC⟩ := hXD w1 hC; obtain ⟨⟨⟨a0, a1, a2, a3, a4, a5⟩, -⟩, ⟨l0, l1, -⟩⟩ := And.intro hC.1.c hC.2.1; clear hC; go_simp; first | done | (simp; done) | (simp [*]; done) | omega | (simp; omega) | (rw [IntKind.wrap_i64]; omega) | (intro hx; omega) | rfl)
        simp only [Act.put, List.setIfInBounds_toArray, List.set_cons_zero, List.set_cons_succ]
        refine q_run (v := .pointer (some ⟨B, 2, none⟩)) (by rfl) ?_ ?_
        · (intro w1 hC; obtain ⟨L, y, hC⟩ := hXD w1 hC; obtain ⟨⟨⟨a0, a1, a2, a3, a4, a5⟩, -⟩, ⟨l0, l1, -⟩⟩ := And.intro hC.1.c hC.2.1; clear hC; go_simp; first | done | (simp; done) | (simp [*]; done) | omega | (simp; omega) | (rw [IntKind.wrap_i64]; omega) | (intro hx; omega) | rfl)
        simp only [Act.put, List.setIfInBounds_toArray, List.set_cons_zero, List.set_cons_succ]
        refine q_run (v := .agg #[.int .u64 (hI nx), .int .u64 (lI nx)]) (by rfl) ?_ ?_
        · (intro w1 hC; obtain ⟨L, y, hC⟩ := hXD w1 hC; obtain ⟨⟨⟨a0, a1, a2, a3, a4, a5⟩, -⟩, ⟨l0, l1, -⟩⟩ := And.intro hC.1.c hC.2.1; clear hC; go_simp; first | done | (simp; done) | (simp [*]; done) | omega | (simp; omega) | (rw [IntKind.wrap_i64]; omega) | (intro hx; omega) | rfl)
        simp only [Act.put, List.setIfInBounds_toArray, List.set_cons_zero, List.set_cons_succ]
        refine q_run (v := .agg #[.int .u64 (hI la), .int .u64 (lI la)]) (by rfl) ?_ ?_
        · (intro w1 hC; obtain ⟨L, y, hC⟩ := hXD w1 hC; obtain ⟨⟨⟨a0, a1, a2, a3, a4, a5⟩, -⟩, ⟨l0, l1, -⟩⟩ := And.intro hC.1.c hC.2.1; clear hC; go_simp; first | done | (simp; done) | (simp [*]; done) | omega | (simp; omega) | (rw [IntKind.wrap_i64]; omega) | (intro hx; omega) | rfl)
        simp only [Act.put, List.setIfInBounds_toArray, List.set_cons_zero, List.set_cons_succ]
        refine q_run (v := .pointer (some ⟨B, 0, none⟩)) (by rfl) ?_ ?_
        · (intro w1 hC; obtain ⟨L, y, hC⟩ := hXD w1 hC; obtain ⟨⟨⟨a0, a1, a2, a3, a4, a5⟩, -⟩, ⟨l0, l1, -⟩⟩ := And.intro hC.1.c hC.2.1; clear hC; go_simp; first | done | (simp; done) | (simp [*]; done) | omega | (simp; omega) | (rw [IntKind.wrap_i64]; omega) | (intro hx; omega) | rfl)
        simp only [Act.put, List.setIfInBounds_toArray, List.set_cons_zero, List.set_cons_succ]
        refine q_call (v := .agg #[.int .u64 (hI ox), .int .u64 (lI ox), .int .i64 om, .int .i64 oh]) (f := 37) (args := #[.pointer (some ⟨B, 0, none⟩)]) (by rfl) ?_ ?_ ?_
        · (intro w1 hC; clear hC; go_simp)
        · exact fun w1 hC => by obtain ⟨L, y, h⟩ := hXD w1 hC; exact (KI w1 L y h).mono fun e w' ⟨he, hb⟩ => ⟨he, hXb w1 _ hC hb⟩
        simp only [Act.put, List.setIfInBounds_toArray, List.set_cons_zero, List.set_cons_succ]
        refine q_run (v := .int .i64 oh) (by rfl) ?_ ?_
        · (intro w1 hC; obtain ⟨L, y, hC⟩ := hXD w1 hC; obtain ⟨⟨⟨a0, a1, a2, a3, a4, a5⟩, -⟩, ⟨l0, l1, -⟩⟩ := And.intro hC.1.c hC.2.1; clear hC; go_simp; first | done | (simp; done) | (simp [*]; done) | omega | (simp; omega) | (rw [IntKind.wrap_i64]; omega) | (intro hx; omega) | rfl)
        simp only [Act.put, List.setIfInBounds_toArray, List.set_cons_zero, List.set_cons_succ]
        refine q_run (v := .agg #[.int .u64 (hI nx), .int .u64 (lI nx), .int .u64 (hI la), .int .u64 (lI la), .int .i64 oh]) (by rfl) ?_ ?_
        · (intro w1 hC; obtain ⟨L, y, hC⟩ := hXD w1 hC; obtain ⟨⟨⟨a0, a1, a2, a3, a4, a5⟩, -⟩, ⟨l0, l1, -⟩⟩ := And.intro hC.1.c hC.2.1; clear hC; go_simp; first | done | (simp; done) | (simp [*]; done) | omega | (simp; omega) | (rw [IntKind.wrap_i64]; omega) | (intro hx; omega) | rfl)
        simp only [Act.put, List.setIfInBounds_toArray, List.set_cons_zero, List.set_cons_succ]
        refine q_run (v := valT st.length N) (by rfl) ?_ ?_
        · (intro w1 hC; obtain ⟨L, y, hC⟩ := hXD w1 hC; obtain ⟨⟨⟨a0, a1, a2, a3, a4, a5⟩, -⟩, ⟨l0, l1, -⟩⟩ := And.intro hC.1.c hC.2.1; clear hC; go_simp; first | done | (simp; done) | (simp [*]; done) | omega | (simp; omega) | (rw [IntKind.wrap_i64]; omega) | (intro hx; omega) | rfl)
        simp only [Act.put, List.setIfInBounds_toArray, List.set_cons_zero, List.set_cons_succ]
        refine wpQuiet_nil ?_
        simp only [putAll, Act.put, List.setIfInBounds_toArray, List.set_cons_zero, List.set_cons_succ]
      case fin =>
        intro N W hC
        simp only [putAll, Act.put, List.setIfInBounds_toArray, List.set_cons_zero, List.set_cons_succ]
        dsimp only [List.drop]
        have HC := hidR hC
        obtain ⟨⟨a0, a1, a2, a3, a4, a5⟩, f1, f2, f3, f4, f5⟩ := hC.1.c
        have HP := hidR hC.1.put5
        clear hC KI KB
        obtain ⟨g5, c5, hd⟩ : ∃ g5 c5, valT st.length N = .slice (some ⟨g5, 0, none⟩) st.length c5 := ⟨_, _, rfl⟩
        rw [hd] at HP HC
        rw [hd]
        clear hd
        go_wp2_with fail
        have hP5 : TC w base B F (((ox, om), oh) :: os) (nx, false, st) Z ob (.slice (some ⟨g, 0, none⟩) (os.length + 1) cap) (.slice (some ⟨g5, 0, none⟩) st.length c5) (.slice (some ⟨g5, 0, none⟩) st.length c5) la (W.setCell ⟨B, 5, none⟩ (.slice (some ⟨g5, 0, none⟩) st.length c5)) := ⟨HP.out, HC.out.2.1.heap (hSet _ (fun e => hwB e)) (by simp), HC.out.2.2.1.setCell HC.out.1.bB _, by have := HC.out.2.2.2; simp; omega⟩
        have HD := hidR hP5
        have HK := hidR (TC.apart hP5)
        clear hP5 HP HC a0 a1 a2 a3 a4 a5 f1 f2 f3 f4 f5
        generalize W.setCell ⟨B, 5, none⟩ (.slice (some ⟨g5, 0, none⟩) st.length c5) = W5 at *
        clear W
        refine two_region 11 9 10 (alOk (qpOk 11 9 (by decide) (fun N => by kernel_rfl) (by kernel_rfl) (by kernel_rfl) (by kernel_rfl) (by kernel_rfl)) (by decide) rfl rfl (by kernel_rfl)) (alOk (qpOk 11 10 (by decide) (fun N => by kernel_rfl) (by kernel_rfl) (by kernel_rfl) (by kernel_rfl) (by kernel_rfl)) (by decide) rfl rfl (by kernel_rfl)) (by decide) (by kernel_rfl) rfl (D := fun W => TC w base B F (((ox, om), oh) :: os) (nx, false, st) Z ob (.slice (some ⟨g, 0, none⟩) (os.length + 1) cap) (.slice (some ⟨g5, 0, none⟩) st.length c5) (.slice (some ⟨g5, 0, none⟩) st.length c5) la W ∧ W5.heap.size ≤ W.heap.size) (C1 := fun N W => (TC w base B F (((ox, om), oh) :: os) (nx, false, st) Z ob (.slice (some ⟨g, 0, none⟩) (os.length + 1) cap) (.slice (some ⟨g5, 0, none⟩) st.length c5) (.slice (some ⟨g5, 0, none⟩) st.length c5) la W ∧ W5.heap.size ≤ W.heap.size) ∧ At W N 0#128 ∧ W5.heap.size ≤ N) (C2 := fun N W => (TC w base B F (((ox, om), oh) :: os) (nx, false, st) Z ob (.slice (some ⟨g, 0, none⟩) (os.length + 1) cap) (.slice (some ⟨g5, 0, none⟩) st.length c5) (.slice (some ⟨g5, 0, none⟩) st.length c5) la W ∧ W5.heap.size ≤ W.heap.size) ∧ At W N yn ∧ W5.heap.size ≤ N) (obj := .cells #[.int .u64 0, .int .u64 0] 27) [some 37, some 38, some 39, some 40, some 41, some 42, some 36, some 43, some 44, some 4, none] (fun N => [.pointer (some ⟨B, 0, none⟩), .pointer (some ⟨B, 0, none⟩), .pointer (some ⟨B, 0, none⟩), .int .i64 F, .agg #[.int .u64 (hI la), .int .u64 (lI la)], .tuple #[.agg #[.int .u64 (hI yn), .int .u64 (lI yn)], .bool bn], .tuple #[.agg #[.int .u64 (hI yn), .int .u64 (lI yn)], .bool bn], .agg #[.int .u64 (hI yn), .int .u64 (lI yn)], .bool bn, .pointer (some ⟨N, 0, none⟩), undef]) 4 [4, 43] (by kernel_rfl) (fun N => by kernel_rfl) rfl ?hA3 ?hAd3 (by kernel_rfl) ?hal3 ?hC3 ?hst3 ⟨TC.drew HD.out, Nat.le_refl _⟩ ?walk3 ?fin3
        case hA3 => intro N; simp only [putAll, Act.put, List.setIfInBounds_toArray, List.set_cons_zero, List.set_cons_succ]; rfl
        case hAd3 => intro N; simp only [putAll, Act.put, List.setIfInBounds_toArray, List.set_cons_zero, List.set_cons_succ]; rfl
        case hal3 => intro W a _; go_simp
        case hC3 => intro W h; exact ⟨⟨TC.below h.1 (bl1 W _), by have := h.2; simp; omega⟩, at_new0 W, h.2⟩
        case hst3 =>
          intro N W a' hC hr K Q' hK
          have e4 : a'.tmps[4]? = some (.pointer (some ⟨N, 0, none⟩)) := (hr 4 (by simp)).trans (by simp only [putAll, Act.put, List.setIfInBounds_toArray, List.set_cons_zero, List.set_cons_succ]; rfl)
          have e43 : a'.tmps[43]? = some (.agg #[.int .u64 (hI yn), .int .u64 (lI yn)]) := (hr 43 (by simp)).trans (by simp only [putAll, Act.put, List.setIfInBounds_toArray, List.set_cons_zero, List.set_cons_succ]; rfl)
          obtain ⟨hE, hZ, hN1⟩ := hC
          obtain ⟨z0, z1, z2, z3, z4⟩ := id hZ
          have hK' := hK _ ⟨⟨TC.setN hE.1 HK.out hN1 (.int .u64 (hI yn)) (.int .u64 (lI yn)), by have := hE.2; simp; omega⟩, hZ.set yn, hN1⟩
          clear hr
          unfold Oper.wp
          simp [execOp, e4, e43, go_sem, z0, z1, z2, z3, z4, Oper.upon]
          exact hK'
        case walk3 =>
          intro N X hX
          have hXD : ∀ W, X W → TC w base B F (((ox, om), oh) :: os) (nx, false, st) Z ob (.slice (some ⟨g, 0, none⟩) (os.length + 1) cap) (.slice (some ⟨g5, 0, none⟩) st.length c5) (.slice (some ⟨g5, 0, none⟩) st.length c5) la W := by
            rcases hX with rfl | rfl | rfl
            · exact fun W h => h.1
            · exact fun W h => h.1.1
            · exact fun W h => h.1.1
          have hXb : ∀ W W', X W → Below W.heap.size W W' → X W' := by
            rcases hX with rfl | rfl | rfl
            · exact fun W W' h hb => ⟨TC.below h.1 hb, by have := hb.size; have := h.2; omega⟩
            · exact fun W W' h hb => ⟨⟨TC.below h.1.1 hb, by have := hb.size; have := h.1.2; omega⟩, h.2.1.below hb, h.2.2⟩
            · exact fun W W' h hb => ⟨⟨TC.below h.1.1 hb, by have := hb.size; have := h.1.2; omega⟩, h.2.1.below hb, h.2.2⟩
          clear hX HD HK
          dsimp only [rep, List.take, List.modify, List.modifyTailIdx, List.modifyTailIdx.go, List.modifyHead]
          refine q_run (v := .pointer (some ⟨B, 0, none⟩)) (by rfl) ?_ ?_
          · (intro w1 hC; have hC := hXD w1 hC; obtain ⟨⟨⟨a0, a1, a2, a3, a4, a5⟩, -⟩, ⟨l0, l1, -⟩⟩ := And.intro hC.1.c hC.2.1; clear hC; go_simp; first | done | (simp; done) | (simp [*]; done) | omega | (simp; omega) | (rw [IntKind.wrap_i64]; omega) | (intro hx; omega) | rfl)
          simp only [Act.put, List.setIfInBounds_toArray, List.set_cons_zero, List.set_cons_succ]
          refine q_run (v := .pointer (some ⟨B, 0, none⟩)) (by rfl) ?_ ?_
          · (intro w1 hC; have hC := hXD w1 hC; obtain ⟨⟨⟨a0, a1, a2, a3, a4, a5⟩, -⟩, ⟨l0, l1, -⟩⟩ := And.intro hC.1.c hC.2.1; clear hC; go_simp; first | done | (simp; done) | (simp [*]; done) | omega | (simp; omega) | (rw [IntKind.wrap_i64]; omega) | (intro hx; omega) | rfl)
          simp only [Act.put, List.setIfInBounds_toArray, List.set_cons_zero, List.set_cons_succ]
          refine q_run (v := .pointer (some ⟨B, 0, none⟩)) (by rfl) ?_ ?_
          · (intro w1 hC; have hC := hXD w1 hC; obtain ⟨⟨⟨a0, a1, a2, a3, a4, a5⟩, -⟩, ⟨l0, l1, -⟩⟩ := And.intro hC.1.c hC.2.1; clear hC; go_simp; first | done | (simp; done) | (simp [*]; done) | omega | (simp; omega) | (rw [IntKind.wrap_i64]; omega) | (intro hx; omega) | rfl)
          simp only [Act.put, List.setIfInBounds_toArray, List.set_cons_zero, List.set_cons_succ]
          refine q_run (v := .int .i64 F) (by rfl) ?_ ?_
          · (intro w1 hC; have hC := hXD w1 hC; obtain ⟨⟨⟨a0, a1, a2, a3, a4, a5⟩, -⟩, ⟨l0, l1, -⟩⟩ := And.intro hC.1.c hC.2.1; clear hC; go_simp; first | done | (simp; done) | (simp [*]; done) | omega | (simp; omega) | (rw [IntKind.wrap_i64]; omega) | (intro hx; omega) | rfl)
          simp only [Act.put, List.setIfInBounds_toArray, List.set_cons_zero, List.set_cons_succ]
          refine q_run (v := .agg #[.int .u64 (hI la), .int .u64 (lI la)]) (by rfl) ?_ ?_
          · (intro w1 hC; have hC := hXD w1 hC; obtain ⟨⟨⟨a0, a1, a2, a3, a4, a5⟩, -⟩, ⟨l0, l1, -⟩⟩ := And.intro hC.1.c hC.2.1; clear hC; go_simp; first | done | (simp; done) | (simp [*]; done) | omega | (simp; omega) | (rw [IntKind.wrap_i64]; omega) | (intro hx; omega) | rfl)
          simp only [Act.put, List.setIfInBounds_toArray, List.set_cons_zero, List.set_cons_succ]
          refine q_call (v := .tuple #[.agg #[.int .u64 (hI yn), .int .u64 (lI yn)], .bool bn]) (f := 69) (args := #[.int .i64 F, .agg #[.int .u64 (hI la), .int .u64 (lI la)]]) (by rfl) ?_ ?_ ?_
          · (intro w1 hC; clear hC; go_simp)
          · exact fun w1 hC => (KN w1).mono fun e w' ⟨he, hb⟩ => ⟨he, hXb w1 _ hC hb⟩
          simp only [Act.put, List.setIfInBounds_toArray, List.set_cons_zero, List.set_cons_succ]
          refine q_run (v := .tuple #[.agg #[.int .u64 (hI yn), .int .u64 (lI yn)], .bool bn]) (by rfl) ?_ ?_
          · (intro w1 hC; have hC := hXD w1 hC; obtain ⟨⟨⟨a0, a1, a2, a3, a4, a5⟩, -⟩, ⟨l0, l1, -⟩⟩ := And.intro hC.1.c hC.2.1; clear hC; go_simp; first | done | (simp; done) | (simp [*]; done) | omega | (simp; omega) | (rw [IntKind.wrap_i64]; omega) | (intro hx; omega) | rfl)
          simp only [Act.put, List.setIfInBounds_toArray, List.set_cons_zero, List.set_cons_succ]
          refine q_run (v := .agg #[.int .u64 (hI yn), .int .u64 (lI yn)]) (by rfl) ?_ ?_
          · (intro w1 hC; have hC := hXD w1 hC; obtain ⟨⟨⟨a0, a1, a2, a3, a4, a5⟩, -⟩, ⟨l0, l1, -⟩⟩ := And.intro hC.1.c hC.2.1; clear hC; go_simp; first | done | (simp; done) | (simp [*]; done) | omega | (simp; omega) | (rw [IntKind.wrap_i64]; omega) | (intro hx; omega) | rfl)
          simp only [Act.put, List.setIfInBounds_toArray, List.set_cons_zero, List.set_cons_succ]
          refine q_run (v := .bool bn) (by rfl) ?_ ?_
          · (intro w1 hC; have hC := hXD w1 hC; obtain ⟨⟨⟨a0, a1, a2, a3, a4, a5⟩, -⟩, ⟨l0, l1, -⟩⟩ := And.intro hC.1.c hC.2.1; clear hC; go_simp; first | done | (simp; done) | (simp [*]; done) | omega | (simp; omega) | (rw [IntKind.wrap_i64]; omega) | (intro hx; omega) | rfl)
          simp only [Act.put, List.setIfInBounds_toArray, List.set_cons_zero, List.set_cons_succ]
          refine q_run (v := .pointer (some ⟨N, 0, none⟩)) (by rfl) ?_ ?_
          · (intro w1 hC; have hC := hXD w1 hC; obtain ⟨⟨⟨a0, a1, a2, a3, a4, a5⟩, -⟩, ⟨l0, l1, -⟩⟩ := And.intro hC.1.c hC.2.1; clear hC; go_simp; first | done | (simp; done) | (simp [*]; done) | omega | (simp; omega) | (rw [IntKind.wrap_i64]; omega) | (intro hx; omega) | rfl)
          simp only [Act.put, List.setIfInBounds_toArray, List.set_cons_zero, List.set_cons_succ]
          refine q_run (v := undef) (by rfl) ?_ ?_
          · (intro w1 hC; have hC := hXD w1 hC; obtain ⟨⟨⟨a0, a1, a2, a3, a4, a5⟩, -⟩, ⟨l0, l1, -⟩⟩ := And.intro hC.1.c hC.2.1; clear hC; go_simp; first | done | (simp; done) | (simp [*]; done) | omega | (simp; omega) | (rw [IntKind.wrap_i64]; omega) | (intro hx; omega) | rfl)
          simp only [Act.put, List.setIfInBounds_toArray, List.set_cons_zero, List.set_cons_succ]
          refine wpQuiet_nil ?_
          simp only [putAll, Act.put, List.setIfInBounds_toArray, List.set_cons_zero, List.set_cons_succ]
        case fin3 =>
          intro N W hC
          obtain ⟨⟨hE, -⟩, hZ, hN1⟩ := hC
          simp only [putAll, Act.put, List.setIfInBounds_toArray, List.set_cons_zero, List.set_cons_succ]
          dsimp only [List.drop]
          obtain ⟨z0, z1, z2, z3, z4⟩ := id hZ
          obtain ⟨⟨a0, a1, a2, a3, a4, a5⟩, f1, f2, f3, f4, f5⟩ := hE.1.c
          have hNB : ¬ N = B := by have := HK.out.2.1; omega
          have HF := hidR (hE.1.next yn (!bn))
          have HB := hidR (((hE.2.2.1.setCell (p := ⟨B, 2, none⟩) hE.1.bB (.int .u64 (hI yn))).setCell (p := ⟨B, 3, none⟩) hE.1.bB (.int .u64 (lI yn))).setCell (p := ⟨B, 4, none⟩) hE.1.bB (.bool (!bn)))
          clear HD HK KN hE hZ
          go_wp2
          exact bodyPost_end (v := .tuple #[]) (by simp [results, Tryz.results63, go_sem]) rfl ⟨rfl, ⟨_, by rw [HE.out]; exact HF.out⟩, HB.out⟩
end Go.Proofs.YtonagfmkplbooaaGreatDoor
