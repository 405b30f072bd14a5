/-
  Part 28 of the proof: 10 texts, one behind the other.
-/
import Derived.Test.YtohnhpicjedfeaaPart27
import Derived.Test.YtohnhpicjedfeaaPart8
import Derived.RangeFuncKeeps
import Derived.Test.YtohnhpicjedfeaaPart4
import Derived.Test.YtohnhpicjedfeaaPart10
import Derived.Deep.RegionHeld3
import Derived.Test.YtohnhpicjedfeaaPart9
import Derived.Test.YtohnhpicjedfeaaPart5
import Derived.Test.YtohnhpicjedfeaaPart3
import Derived.Test.YtohnhpicjedfeaaPart2
import Derived.Test.YtohnhpicjedfeaaPart13
import Derived.Test.YtohnhpicjedfeaaPart16
import Derived.Test.YtohnhpicjedfeaaPart14
import Derived.Deep.CutBlock
import Derived.Deep.DeepCutAuto
namespace Go.Proofs.Ytohnhpicjedfeaa
open Go.RowKit
set_option linter.unusedSimpArgs false
set_option linter.unusedVariables false

def KC (W W' : World) : Prop := W.heap.size ≤ W'.heap.size ∧ ∀ (z : Nat) (o : Obj), W.heap[z]? = some o → o.isCells = true → W'.heap[z]? = some o
theorem KC.trans {A B C : World} (h : KC A B) (g : KC B C) : KC A C := ⟨Nat.le_trans h.1 g.1, fun z o h1 h2 => g.2 z o (h.2 z o h1 h2) h2⟩
theorem wl_nil {P : Program} {ops : Array Oper} {Q : Exit → Act → World → Prop} {a : Act} {w : World} (h : wpList P ops Q [] a w) : Q .normal a w := h
theorem Slt.old {l : List Oper} {a A : Act} {lp : Array Bool} {a' : Act} (h : Slt l a A lp a') (s : Nat) (hs : ∀ o ∈ l, o.dst ≠ some s) : a'.tmps[s]? = a.tmps[s]? := h.oth s (fun k o hk _ => hs o (List.mem_of_getElem? hk))
theorem gh_quiet {P : Program} {o : Oper} {a' : Act} {w' : World} {K : Act → World → Prop} {Q' : Exit → Act → World → Prop} {v : Value} (hr : (execOp a'.eval o).run P w' = .ok (.value v) w') (hK : K (a'.put o.dst v) w') : o.wp P a' w' K Q' := by
  unfold Oper.wp
  rw [hr]
  exact hK
structure RY (Cy : World → Prop) (J1 Jx1 : World → Prop) (f : Nat → Bool) (g : Bool) (W : World) : Prop where
  c4 : f 4 = true → f 3 = true
  c6 : f 6 = true → f 5 = true
  c7 : f 7 = true → f 2 = true ∧ f 4 = true ∧ f 6 = true
  c8 : f 8 = true → ∀ j, j < 8 → f j = true
  c9 : f 9 = true → f 8 = true
  ahead : f 8 = false → Cy W
  behind : f 8 = true → ∃ W4, Cy W4 ∧ ((g = true ∧ J1 W ∧ KC W4 W) ∨ (g = false ∧ Jx1 W))
theorem RY.start {Cy J1 Jx1 : World → Prop} {f : Nat → Bool} {g : Bool} {W : World} (h : Cy W) (hf : ∀ j, f j = false) : RY Cy J1 Jx1 f g W :=
  ⟨fun q => (by rw [hf] at q; cases q), fun q => (by rw [hf] at q; cases q), fun q => (by rw [hf] at q; cases q), fun q => (by rw [hf] at q; cases q), fun q => (by rw [hf] at q; cases q), fun _ => h, fun q => (by rw [hf] at q; cases q)⟩
theorem RY.step {Cy J1 Jx1 : World → Prop} {f : Nat → Bool} {g : Bool} {W W' : World} (k : RY Cy J1 Jx1 f g W) (i : Nat) (hi : i < 8) (hun : f i = false) (f' : Nat → Bool) (hs : f' i = true) (ho : ∀ j, j ≠ i → f' j = f j) (hd : (i = 4 → f 3 = true) ∧ (i = 6 → f 5 = true) ∧ (i = 7 → f 2 = true ∧ f 4 = true ∧ f 6 = true)) (hc : Cy W') : RY Cy J1 Jx1 f' g W' := by
  have up : ∀ j, f j = true → f' j = true := fun j h => by
    by_cases e : j = i
    · rw [e]; exact hs
    · rw [ho j e]; exact h
  have dn : ∀ j, f' j = true → j = i ∨ f j = true := fun j h => by
    by_cases e : j = i
    · exact .inl e
    · rw [ho j e] at h; exact .inr h
  have n8 : f' 8 = true → False := fun h => by
    rw [ho 8 (by omega)] at h
    have := k.c8 h i hi
    rw [hun] at this
    cases this
  refine ⟨fun h => ?_, fun h => ?_, fun h => ?_, fun h => (n8 h).elim, fun h => ?_, fun _ => hc, fun h => (n8 h).elim⟩
  · rcases dn 4 h with e | e
    · exact up _ (hd.1 e.symm)
    · exact up _ (k.c4 e)
  · rcases dn 6 h with e | e
    · exact up _ (hd.2.1 e.symm)
    · exact up _ (k.c6 e)
  · rcases dn 7 h with e | e
    · obtain ⟨h1, h2, h3⟩ := hd.2.2 e.symm
      exact ⟨up _ h1, up _ h2, up _ h3⟩
    · obtain ⟨h1, h2, h3⟩ := k.c7 e
      exact ⟨up _ h1, up _ h2, up _ h3⟩
  · rcases dn 9 h with e | e
    · omega
    · exact up _ (k.c9 e)
theorem RY.to {Cy J1 Jx1 : World → Prop} {f : Nat → Bool} {g : Bool} {W : World} (k : RY Cy J1 Jx1 f g W) (hl : ∀ j, j < 8 → f j = true) (f' : Nat → Bool) (hs : f' 8 = true) (ho : ∀ j, j ≠ 8 → f' j = f j) {g' : Bool} {W' : World} (hb : ∃ W4, Cy W4 ∧ ((g' = true ∧ J1 W' ∧ KC W4 W') ∨ (g' = false ∧ Jx1 W'))) : RY Cy J1 Jx1 f' g' W' := by
  have a : ∀ j, j < 8 → f' j = true := fun j hj => by rw [ho j (by omega)]; exact hl j hj
  exact ⟨fun _ => a 3 (by omega), fun _ => a 5 (by omega), fun _ => ⟨a 2 (by omega), a 4 (by omega), a 6 (by omega)⟩, fun _ => a, fun _ => hs, fun h => (by rw [hs] at h; cases h), fun _ => hb⟩
theorem RY.yes {Cy J1 Jx1 : World → Prop} {f : Nat → Bool} {g : Bool} {W W5 : World} (k : RY Cy J1 Jx1 f g W) (hl : ∀ j, j < 8 → f j = true) (f' : Nat → Bool) (hs : f' 8 = true) (ho : ∀ j, j ≠ 8 → f' j = f j) (hc : Cy W) (hj : J1 W5) (hk : KC W W5) : RY Cy J1 Jx1 f' true W5 := k.to hl f' hs ho ⟨W, hc, .inl ⟨rfl, hj, hk⟩⟩
theorem RY.last {Cy J1 Jx1 : World → Prop} {f : Nat → Bool} {g : Bool} {W : World} (k : RY Cy J1 Jx1 f g W) (d8 : f 8 = true) (f' : Nat → Bool) (hs : f' 9 = true) (ho : ∀ j, j ≠ 9 → f' j = f j) : RY Cy J1 Jx1 f' g W := by
  have a : ∀ j, j < 8 → f' j = true := fun j hj => by rw [ho j (by omega)]; exact k.c8 d8 j hj
  have h8 : f' 8 = true := by rw [ho 8 (by omega)]; exact d8
  exact ⟨fun _ => a 3 (by omega), fun _ => a 5 (by omega), fun _ => ⟨a 2 (by omega), a 4 (by omega), a 6 (by omega)⟩, fun _ => a, fun _ => h8, fun h => (by rw [h8] at h; cases h), fun _ => k.behind d8⟩
end Go.Proofs.Ytohnhpicjedfeaa
namespace Go.Proofs.Ytohnhpicjedfeaa
open Go.RowKit
set_option linter.unusedSimpArgs false
set_option linter.unusedVariables false

def CW (w4 : World) (g o b : Nat) (qx x : BitVec 128) (W : World) : Prop := (W.cell? ⟨g, o, none⟩ = some (.int .u64 (hI qx)) ∧ W.cell? ⟨g, o + 1, none⟩ = some (.int .u64 (lI qx))) ∧ (W.cell? ⟨b, 0, none⟩ = some (.int .u64 (hI x)) ∧ W.cell? ⟨b, 1, none⟩ = some (.int .u64 (lI x))) ∧ Below w4.heap.size w4 W
theorem CW.below {w4 W W' : World} {g o b : Nat} {qx x : BitVec 128} (h : CW w4 g o b qx x W) (hb : Below W.heap.size W W') : CW w4 g o b qx x W' := ⟨⟨keepc hb h.1.1, keepc hb h.1.2⟩, ⟨keepc hb h.2.1.1, keepc hb h.2.1.2⟩, keepb hb h.2.2⟩
theorem CW.drew {w4 W : World} {g o b : Nat} {qx x : BitVec 128} (h : CW w4 g o b qx x W) : CW w4 g o b qx x W.drew := h.below (below_drewN (Below.refl _ _) 1)
theorem below_grown {w W : World} {r : Option Nat} (h : Below w.heap.size w W) : w.grownBy W r := ⟨h.os, h.tape, h.output, h.size, fun z h1 _ => h.block z h1⟩
end Go.Proofs.Ytohnhpicjedfeaa
namespace Go.Proofs.Ytohnhpicjedfeaa
open Go.RowKit
set_option linter.unusedSimpArgs false
set_option linter.unusedVariables false

end Go.Proofs.Ytohnhpicjedfeaa
namespace Go.Proofs.Ytohnhpicjedfeaa
open Go.RowKit
set_option linter.unusedSimpArgs false
set_option linter.unusedVariables false

end Go.Proofs.Ytohnhpicjedfeaa
namespace Go.Proofs.Ytohnhpicjedfeaa
open Go.RowKit
set_option linter.unusedSimpArgs false
set_option linter.unusedVariables false

end Go.Proofs.Ytohnhpicjedfeaa
namespace Go.Proofs.Ytohnhpicjedfeaa
open Go.RowKit
set_option linter.unusedSimpArgs false
set_option linter.unusedVariables false

structure EgI (w0 w : World) (lv : Value) (F : Int) (v rv : Value) (T : List (BitVec 128)) (W : World) : Prop where
  own : W.ownsRow w0.heap.size 36 2 rv T.length (rowW T)
  t : AtU W w.heap.size F v
  gr : w.grownBy W lv.ownBlock
  ob : ∀ z, rv.ownBlock = some z → lv.ownBlock = some z ∨ w.heap.size + 1 ≤ z
  ol : ∀ z, lv.ownBlock = some z → w0.heap.size ≤ z ∧ z < w.heap.size
  bel : Below w0.heap.size w0 W
  b0 : w0.heap.size ≤ w.heap.size
theorem EgI.below {w0 w : World} {lv : Value} {F : Int} {v rv : Value} {T : List (BitVec 128)} {W W' : World} (k : EgI w0 w lv F v rv T W) (hb : Below W.heap.size W W') : EgI w0 w lv F v rv T W' :=
  ⟨own_below hb k.own, k.t.heap (hb.block _ k.t.lt), k.gr.trans (below_grown hb), k.ob, k.ol, keepb hb k.bel, k.b0⟩
theorem EgI.put {w0 w : World} {lv : Value} {F : Int} {v rv rv' : Value} {T T' : List (BitVec 128)} {W W' : World} (k : EgI w0 w lv F v rv T W) (h : PtO w0.heap.size rv T' W rv' W') : EgI w0 w lv F v rv' T' W' := by
  obtain ⟨h1, h2, h3⟩ := h
  have hT := k.t.lt
  refine ⟨h1, k.t.heap (h2.block _ hT (fun e => ?_)), ⟨by rw [h2.os, k.gr.os], by rw [h2.tape, k.gr.tape], by rw [h2.output, k.gr.output], Nat.le_trans k.gr.size h2.size, fun z q1 q2 => ?_⟩, fun z e => ?_, k.ol, k.bel.grown h2 k.bel.size (fun z e => (k.own.lt z e).1), k.b0⟩
  · rcases k.ob _ e.symm with q | q
    · have := (k.ol _ q).2; omega
    · omega
  · rw [h2.block z (by have := k.gr.size; omega) (fun e => ?_), k.gr.block z q1 q2]
    rcases k.ob z e.symm with q | q
    · exact q2 q.symm
    · omega
  · rcases h3 z e with q | q
    · exact k.ob z q
    · exact .inr (by omega)
def EgD (w0 w : World) (lv : Value) (F : Int) (v rv : Value) (T : List (BitVec 128)) (px : BitVec 128) (pn : Int) (N : Nat) (W : World) : Prop := EgI w0 w lv F v rv T W ∧ AtP W N px pn ∧ w.heap.size < N ∧ N < W.heap.size
theorem EgD.below {w0 w : World} {lv : Value} {F : Int} {v rv : Value} {T : List (BitVec 128)} {px : BitVec 128} {pn : Int} {N : Nat} {W W' : World} (k : EgD w0 w lv F v rv T px pn N W) (hb : Below W.heap.size W W') : EgD w0 w lv F v rv T px pn N W' := ⟨k.1.below hb, k.2.1.below hb, k.2.2.1, Nat.lt_of_lt_of_le k.2.2.2 hb.size⟩
theorem EgD.drew {w0 w : World} {lv : Value} {F : Int} {v rv : Value} {T : List (BitVec 128)} {px : BitVec 128} {pn : Int} {N : Nat} {W : World} (k : EgD w0 w lv F v rv T px pn N W) : EgD w0 w lv F v rv T px pn N W.drew := k.below (below_drewN (Below.refl _ _) 1)
theorem AtP.heapE {W W' : World} {B : Nat} {x : BitVec 128} {n : Int} (k : AtP W B x n) (e : W'.heap[B]? = W.heap[B]?) : AtP W' B x n := by
  obtain ⟨h0, h1, h2, f0, f1, f2⟩ := k
  exact ⟨by rw [cellH e]; exact h0, by rw [cellH e]; exact h1, by rw [cellH e]; exact h2, by rw [frozH e]; exact f0, by rw [frozH e]; exact f1, by rw [frozH e]; exact f2⟩
theorem At.setE {W : World} {B : Nat} {x : BitVec 128} (k : At W B x) (y : BitVec 128) : At ((W.setCell ⟨B, 0, none⟩ (.int .u64 (hI y))).setCell ⟨B, 1, none⟩ (.int .u64 (lI y))) B y := by
  obtain ⟨c0, c1, f0, f1, h⟩ := k
  refine ⟨?_, ?_, ?_, ?_, ?_⟩ <;> simp [go_sem, c0, c1, f0, f1, h]
end Go.Proofs.Ytohnhpicjedfeaa
namespace Go.Proofs.Ytohnhpicjedfeaa
open Go.RowKit
set_option linter.unusedSimpArgs false
set_option linter.unusedVariables false

end Go.Proofs.Ytohnhpicjedfeaa
namespace Go.Proofs.Ytohnhpicjedfeaa
open Go.RowKit
set_option linter.unusedSimpArgs false
set_option linter.unusedVariables false

structure RF (w : World) (x y : BitVec 128) (f9 : Bool) (W : World) : Prop where
  p : AtP W w.heap.size 0#128 0
  x : At W (w.heap.size + 1) x
  r : AtP W (w.heap.size + 2) 0#128 0
  s : if f9 = true then At W (w.heap.size + 3) y else At W (w.heap.size + 3) 0#128
  bel : Below w.heap.size w W
theorem RF.below {w : World} {x y : BitVec 128} {f9 : Bool} {W W' : World} (k : RF w x y f9 W) (hb : Below W.heap.size W W') : RF w x y f9 W' :=
  ⟨k.p.below hb, k.x.below hb, k.r.below hb, (by have := k.s; cases f9 <;> simp at this ⊢ <;> exact this.below hb), keepb hb k.bel⟩
theorem RF.drew {w : World} {x y : BitVec 128} {f9 : Bool} {W : World} (k : RF w x y f9 W) : RF w x y f9 W.drew := k.below (below_drewN (Below.refl _ _) 1)
theorem AtP.set0 {W : World} {B : Nat} (k : AtP W B 0#128 0) : AtP (((W.setCell ⟨B, 0, none⟩ (.int .u64 0)).setCell ⟨B, 1, none⟩ (.int .u64 0)).setCell ⟨B, 2, none⟩ (.int .i64 0)) B 0#128 0 := by
  obtain ⟨c0, c1, c2, f0, f1, f2⟩ := k
  refine ⟨?_, ?_, ?_, ?_, ?_, ?_⟩ <;> simp [go_sem, *, hI_zero, lI_zero]
theorem RF.stP {w : World} {x y : BitVec 128} {f9 : Bool} {W : World} (k : RF w x y f9 W) : RF w x y f9 (((W.setCell ⟨w.heap.size + 2, 0, none⟩ (.int .u64 0)).setCell ⟨w.heap.size + 2, 1, none⟩ (.int .u64 0)).setCell ⟨w.heap.size + 2, 2, none⟩ (.int .i64 0)) := by
  have hsz : W.heap.size ≤ (((W.setCell ⟨w.heap.size + 2, 0, none⟩ (.int .u64 0)).setCell ⟨w.heap.size + 2, 1, none⟩ (.int .u64 0)).setCell ⟨w.heap.size + 2, 2, none⟩ (.int .i64 0)).heap.size := by simp
  have h : ∀ z, z ≠ w.heap.size + 2 → (((W.setCell ⟨w.heap.size + 2, 0, none⟩ (.int .u64 0)).setCell ⟨w.heap.size + 2, 1, none⟩ (.int .u64 0)).setCell ⟨w.heap.size + 2, 2, none⟩ (.int .i64 0)).heap[z]? = W.heap[z]? := fun z hz => by rw [hSet _ hz, hSet _ hz, hSet _ hz]
  refine ⟨k.p.heapE (h _ (by omega)), k.x.heap (h _ (by omega)) hsz, k.r.set0, ?_, ((k.bel.setCell (p := ⟨w.heap.size + 2, 0, none⟩) (by simp) _).setCell (p := ⟨w.heap.size + 2, 1, none⟩) (by simp) _).setCell (p := ⟨w.heap.size + 2, 2, none⟩) (by simp) _⟩
  have := k.s
  cases f9 <;> simp at this ⊢ <;> exact this.heap (h _ (by omega)) hsz
theorem RF.stW {w : World} {x y : BitVec 128} {W : World} (k : RF w x y false W) : RF w x y true ((W.setCell ⟨w.heap.size + 3, 0, none⟩ (.int .u64 (hI y))).setCell ⟨w.heap.size + 3, 1, none⟩ (.int .u64 (lI y))) := by
  have hsz : W.heap.size ≤ ((W.setCell ⟨w.heap.size + 3, 0, none⟩ (.int .u64 (hI y))).setCell ⟨w.heap.size + 3, 1, none⟩ (.int .u64 (lI y))).heap.size := by simp
  have h : ∀ z, z ≠ w.heap.size + 3 → ((W.setCell ⟨w.heap.size + 3, 0, none⟩ (.int .u64 (hI y))).setCell ⟨w.heap.size + 3, 1, none⟩ (.int .u64 (lI y))).heap[z]? = W.heap[z]? := fun z hz => by rw [hSet _ hz, hSet _ hz]
  have hs := k.s
  simp at hs
  exact ⟨k.p.heapE (h _ (by omega)), k.x.heap (h _ (by omega)) hsz, k.r.heapE (h _ (by omega)), by rw [if_pos rfl]; exact hs.setE y, (k.bel.setCell (p := ⟨w.heap.size + 3, 0, none⟩) (by simp) _).setCell (p := ⟨w.heap.size + 3, 1, none⟩) (by simp) _⟩
end Go.Proofs.Ytohnhpicjedfeaa
namespace Go.Proofs.Ytohnhpicjedfeaa
open Go.RowKit
set_option linter.unusedSimpArgs false
set_option linter.unusedVariables false

set_option maxHeartbeats 1000000 in
theorem within5_any (a n : Int) (w : World) (h0 : 0 < n) (h1 : n ≤ 9223372036854775807) :
    Calls Try.prog 15 #[.int .i64 a, .int .i64 n] w fun e w' => e = .returned (.int .i64 (a % n)) ∧ w' = w := by
  have b1 := Int.emod_nonneg a (b := n) (by omega)
  have b2 := Int.emod_lt_of_pos a h0
  have hn0 : ¬ n = 0 := by omega
  have hnb : (n == 0) = false := by simp; omega
  rcases tmod_ways a n h0 with ⟨c, e⟩ | ⟨c, e⟩
  · have hw : IntKind.i64.wrap (a.tmod n) = a.tmod n := by rw [IntKind.wrap_i64]; omega
    have hw2 : IntKind.i64.wrap (a.tmod n + n) = a.tmod n + n := by rw [IntKind.wrap_i64]; omega
    rw [← e]
    clear e b1 b2
    go_enter Try.func15, Try.ntmps15
    go_wp2
    go_ret
    exact ⟨rfl, rfl⟩
  · have hw : IntKind.i64.wrap (a.tmod n) = a.tmod n := by rw [IntKind.wrap_i64]; omega
    rw [← e]
    clear e b1 b2
    go_enter Try.func15, Try.ntmps15
    go_wp2
    go_ret
    exact ⟨rfl, rfl⟩
structure RG (w : World) (px : BitVec 128) (pn : Int) (x cx : BitVec 128) (pk : Int) (y : BitVec 128) (f8 f9 : Bool) (W : World) : Prop where
  p : AtP W w.heap.size px pn
  x : At W (w.heap.size + 1) x
  r : if f8 = true then AtP W (w.heap.size + 2) cx pk else AtP W (w.heap.size + 2) 0#128 0
  s : if f9 = true then At W (w.heap.size + 3) y else At W (w.heap.size + 3) 0#128
  bel : Below w.heap.size w W
section
variable {w : World} {px : BitVec 128} {pn : Int} {x cx : BitVec 128} {pk : Int} {y : BitVec 128} {f8 f9 : Bool} {W W' : World}
theorem RG.below (k : RG w px pn x cx pk y f8 f9 W) (hb : Below W.heap.size W W') : RG w px pn x cx pk y f8 f9 W' :=
  ⟨k.p.below hb, k.x.below hb, (by have := k.r; cases f8 <;> simp at this ⊢ <;> exact this.below hb), (by have := k.s; cases f9 <;> simp at this ⊢ <;> exact this.below hb), keepb hb k.bel⟩
theorem RG.drew (k : RG w px pn x cx pk y f8 f9 W) : RG w px pn x cx pk y f8 f9 W.drew := k.below (below_drewN (Below.refl _ _) 1)
theorem AtP.set3 {B : Nat} (k : AtP W B px pn) (z : BitVec 128) (n : Int) : AtP (((W.setCell ⟨B, 0, none⟩ (.int .u64 (hI z))).setCell ⟨B, 1, none⟩ (.int .u64 (lI z))).setCell ⟨B, 2, none⟩ (.int .i64 n)) B z n := by
  obtain ⟨c0, c1, c2, f0, f1, f2⟩ := k
  refine ⟨?_, ?_, ?_, ?_, ?_, ?_⟩ <;> simp [go_sem, *]
theorem RG.stP (k : RG w px pn x cx pk y false f9 W) : RG w px pn x cx pk y true f9 (((W.setCell ⟨w.heap.size + 2, 0, none⟩ (.int .u64 (hI cx))).setCell ⟨w.heap.size + 2, 1, none⟩ (.int .u64 (lI cx))).setCell ⟨w.heap.size + 2, 2, none⟩ (.int .i64 pk)) := by
  have hsz : W.heap.size ≤ (((W.setCell ⟨w.heap.size + 2, 0, none⟩ (.int .u64 (hI cx))).setCell ⟨w.heap.size + 2, 1, none⟩ (.int .u64 (lI cx))).setCell ⟨w.heap.size + 2, 2, none⟩ (.int .i64 pk)).heap.size := by simp
  have h : ∀ z, z ≠ w.heap.size + 2 → (((W.setCell ⟨w.heap.size + 2, 0, none⟩ (.int .u64 (hI cx))).setCell ⟨w.heap.size + 2, 1, none⟩ (.int .u64 (lI cx))).setCell ⟨w.heap.size + 2, 2, none⟩ (.int .i64 pk)).heap[z]? = W.heap[z]? := fun z hz => by rw [hSet _ hz, hSet _ hz, hSet _ hz]
  have hr := k.r
  simp at hr
  refine ⟨k.p.heapE (h _ (by omega)), k.x.heap (h _ (by omega)) hsz, by rw [if_pos rfl]; exact hr.set3 cx pk, ?_, ((k.bel.setCell (p := ⟨w.heap.size + 2, 0, none⟩) (by simp) _).setCell (p := ⟨w.heap.size + 2, 1, none⟩) (by simp) _).setCell (p := ⟨w.heap.size + 2, 2, none⟩) (by simp) _⟩
  have := k.s
  cases f9 <;> simp at this ⊢ <;> exact this.heap (h _ (by omega)) hsz
theorem RG.stW (k : RG w px pn x cx pk y f8 false W) : RG w px pn x cx pk y f8 true ((W.setCell ⟨w.heap.size + 3, 0, none⟩ (.int .u64 (hI y))).setCell ⟨w.heap.size + 3, 1, none⟩ (.int .u64 (lI y))) := by
  have hsz : W.heap.size ≤ ((W.setCell ⟨w.heap.size + 3, 0, none⟩ (.int .u64 (hI y))).setCell ⟨w.heap.size + 3, 1, none⟩ (.int .u64 (lI y))).heap.size := by simp
  have h : ∀ z, z ≠ w.heap.size + 3 → ((W.setCell ⟨w.heap.size + 3, 0, none⟩ (.int .u64 (hI y))).setCell ⟨w.heap.size + 3, 1, none⟩ (.int .u64 (lI y))).heap[z]? = W.heap[z]? := fun z hz => by rw [hSet _ hz, hSet _ hz]
  have hs := k.s
  simp at hs
  refine ⟨k.p.heapE (h _ (by omega)), k.x.heap (h _ (by omega)) hsz, ?_, by rw [if_pos rfl]; exact hs.setE y, (k.bel.setCell (p := ⟨w.heap.size + 3, 0, none⟩) (by simp) _).setCell (p := ⟨w.heap.size + 3, 1, none⟩) (by simp) _⟩
  have := k.r
  cases f8 <;> simp at this ⊢ <;> exact this.heapE (h _ (by omega))
theorem rg_new (w : World) (px : BitVec 128) (pn : Int) (x cx : BitVec 128) (pk : Int) (y : BitVec 128) : RG w px pn x cx pk y false false ((((w.alloc (.cells #[.int .u64 (hI px), .int .u64 (lI px), .int .i64 pn] 38)).alloc (.cells #[.int .u64 (hI x), .int .u64 (lI x)] 36)).alloc (.cells #[.int .u64 0, .int .u64 0, .int .i64 0] 38)).alloc (.cells #[.int .u64 0, .int .u64 0] 36)) := by
  have b1 := bl1 w (.cells #[.int .u64 (hI px), .int .u64 (lI px), .int .i64 pn] 38)
  have a1 := atp_new w w.heap.size px pn 38 rfl
  revert b1 a1
  generalize h1 : w.alloc (.cells #[.int .u64 (hI px), .int .u64 (lI px), .int .i64 pn] 38) = w1
  have s1 : w1.heap.size = w.heap.size + 1 := by rw [← h1]; simp
  clear h1
  intro b1 a1
  have b2 := bl1 w1 (.cells #[.int .u64 (hI x), .int .u64 (lI x)] 36)
  have a2 := at_new w1 (w.heap.size + 1) x 36 s1.symm
  revert b2 a2
  generalize h2 : w1.alloc (.cells #[.int .u64 (hI x), .int .u64 (lI x)] 36) = w2
  have s2 : w2.heap.size = w.heap.size + 2 := by rw [← h2]; simp [s1]
  clear h2
  intro b2 a2
  have b3 := bl1 w2 (.cells #[.int .u64 0, .int .u64 0, .int .i64 0] 38)
  have a3 := atp_new w2 (w.heap.size + 2) 0#128 0 38 s2.symm
  rw [hI_zero, lI_zero] at a3
  revert b3 a3
  generalize h3 : w2.alloc (.cells #[.int .u64 0, .int .u64 0, .int .i64 0] 38) = w3
  have s3 : w3.heap.size = w.heap.size + 3 := by rw [← h3]; simp [s2]
  clear h3
  intro b3 a3
  have b4 := bl1 w3 (.cells #[.int .u64 0, .int .u64 0] 36)
  have a4 := at_new w3 (w.heap.size + 3) 0#128 36 s3.symm
  rw [hI_zero, lI_zero] at a4
  exact ⟨((a1.below b2).below b3).below b4, (a2.below b3).below b4, by simp; exact a3.below b4, by simp; exact a4, keepb b4 (keepb b3 (keepb b2 b1))⟩
end
set_option maxRecDepth 20000 in
set_option maxHeartbeats 8000000 in
theorem fitted5_any (F : Int) (px : BitVec 128) (pn : Int) (x : BitVec 128) (w : World) (h0 : 0 ≤ F) (h1 : F ≤ 128) :
    Calls Try.prog 13 #[.int .i64 F, .agg #[.int .u64 (hI px), .int .u64 (lI px), .int .i64 pn], .agg #[.int .u64 (hI x), .int .u64 (lI x)]] w fun e w' => e = .returned (.tuple #[.agg #[.int .u64 (hI (cutW px (pn % (F + 1)))), .int .u64 (lI (cutW px (pn % (F + 1)))), .int .i64 (pn % (F + 1))], .agg #[.int .u64 (hI (x &&& maskW F)), .int .u64 (lI (x &&& maskW F))]]) ∧ Below w.heap.size w w' := by
  have KW := fun w => within5_any pn (F + 1) w (by omega) (by omega)
  have KC := fun w => rcut_any px (pn % (F + 1)) w
  have KM := fun w => rmask_any F w
  have KA := fun w => rand_any x (maskW F) w
  have HF1 := hidR (rg_new w px pn x (cutW px (pn % (F + 1))) (pn % (F + 1)) (x &&& maskW F))
  revert KW KC KM KA HF1
  generalize x &&& maskW F = y
  generalize maskW F = mk
  generalize cutW px (pn % (F + 1)) = cx
  generalize pn % (F + 1) = pk
  intro KW KC KM KA HF1
  have mF : IntKind.i64.wrap (F + 1) = F + 1 := by rw [IntKind.wrap_i64]; omega
  obtain ⟨p0, p1, p2, -, -, -⟩ := HF1.out.p
  go_enter Try.func13, Try.ntmps13
  go_wp2_with fail
  refine (KW _).mono ?_
  rintro e w1 ⟨rfl, hb⟩
  have HF := hidR (HF1.out.below (W' := w1) (by rw [hb]; exact Below.refl _ _))
  clear KW hb HF1 p0 p1 p2
  go_wp2_with fail
  refine gh_region (γ := Unit) (qpOk 10 10 (by decide) (fun N => by kernel_rfl) (by kernel_rfl) (by kernel_rfl) (by kernel_rfl) (by kernel_rfl)) (by kernel_rfl) (by kernel_rfl) [some 14, some 15, some 16, some 17, some 18, some 19, some 20, some 21, none, none] (fun g => [.pointer (some ⟨w.heap.size, 0, none⟩), .agg #[.int .u64 (hI px), .int .u64 (lI px)], .int .i64 pk, .agg #[.int .u64 (hI cx), .int .u64 (lI cx), .int .i64 pk], .agg #[.int .u64 (hI x), .int .u64 (lI x)], .int .i64 F, .agg #[.int .u64 (hI mk), .int .u64 (lI mk)], .agg #[.int .u64 (hI y), .int .u64 (lI y)], undef, undef]) (by kernel_rfl) (by simp) (fun lp g W => RG w px pn x cx pk y (lp.getD 8 false) (lp.getD 9 false) W) () (by simpa using HF.out.drew) ?step ?fin
  case step =>
    intro q o lp g w' a' ho hsz hun hdep hR hS K Q' hK
    have hfl : ∀ j, j ≠ q → (lp.setIfInBounds q true).getD j false = lp.getD j false := fun j hj => by rw [Array.getD_eq_getD_getElem?, Array.getD_eq_getD_getElem?, Array.getElem?_setIfInBounds_ne (by omega)]
    have hq : q < 10 := (List.getElem?_eq_some_iff.mp ho).1
    obtain ⟨p0, p1, p2, -, -, -⟩ := hR.p
    obtain ⟨x0, x1, -⟩ := hR.x
    match q, ho, hun, hdep, hK, hfl, hq with
    | 0, ho, hun, hdep, hK, hfl, _ =>
      obtain rfl := Option.some.inj ho
      have o4 : a'.tmps[4]? = some (.pointer (some ⟨w.heap.size, 0, none⟩)) := (hS.old 4 (by simp)).trans rfl
      have hK' := hK g w' (fun _ _ _ _ _ _ => rfl) (by rw [hfl 8 (by decide), hfl 9 (by decide)]; exact hR) (.pointer (some ⟨w.heap.size, 0, none⟩)) (by simp only [valO, Option.bind_some]; simp only [putAll, Act.put, List.setIfInBounds_toArray, List.set_cons_zero, List.set_cons_succ]; rfl)
      clear hS hdep hR
      refine gh_quiet (v := .pointer (some ⟨w.heap.size, 0, none⟩)) ?_ ?_
      · (simp only [execOp, Act.eval, o4]; go_simp; first | done | (simp; done) | (simp [*]; done))
      · exact hK'
    | 1, ho, hun, hdep, hK, hfl, _ =>
      obtain rfl := Option.some.inj ho
      have d0 : lp.getD 0 false = true := hdep { on := 0, ground := .data } (by simp) rfl
      have e14 : a'.tmps[14]? = some (.pointer (some ⟨w.heap.size, 0, none⟩)) := (hS.don 0 _ 14 rfl d0 rfl).trans (by simp only [putAll, Act.put, List.setIfInBounds_toArray, List.set_cons_zero, List.set_cons_succ]; rfl)
      have hK' := hK g w' (fun _ _ _ _ _ _ => rfl) (by rw [hfl 8 (by decide), hfl 9 (by decide)]; exact hR) (.agg #[.int .u64 (hI px), .int .u64 (lI px)]) (by simp only [valO, Option.bind_some]; simp only [putAll, Act.put, List.setIfInBounds_toArray, List.set_cons_zero, List.set_cons_succ]; rfl)
      clear hS hdep hR
      refine gh_quiet (v := .agg #[.int .u64 (hI px), .int .u64 (lI px)]) ?_ ?_
      · (simp only [execOp, Act.eval, e14]; go_simp; first | done | (simp; done) | (simp [*]; done))
      · exact hK'
    | 2, ho, hun, hdep, hK, hfl, _ =>
      obtain rfl := Option.some.inj ho
      have o8 : a'.tmps[8]? = some (.int .i64 pk) := (hS.old 8 (by simp)).trans rfl
      have hK' := hK g w' (fun _ _ _ _ _ _ => rfl) (by rw [hfl 8 (by decide), hfl 9 (by decide)]; exact hR) (.int .i64 pk) (by simp only [valO, Option.bind_some]; simp only [putAll, Act.put, List.setIfInBounds_toArray, List.set_cons_zero, List.set_cons_succ]; rfl)
      clear hS hdep hR
      refine gh_quiet (v := .int .i64 pk) ?_ ?_
      · (simp only [execOp, Act.eval, o8]; go_simp; first | done | (simp; done) | (simp [*]; done))
      · exact hK'
    | 3, ho, hun, hdep, hK, hfl, _ =>
      obtain rfl := Option.some.inj ho
      have d1 : lp.getD 1 false = true := hdep { on := 1, ground := .data } (by simp) rfl
      have e15 : a'.tmps[15]? = some (.agg #[.int .u64 (hI px), .int .u64 (lI px)]) := (hS.don 1 _ 15 rfl d1 rfl).trans (by simp only [putAll, Act.put, List.setIfInBounds_toArray, List.set_cons_zero, List.set_cons_succ]; rfl)
      have d2 : lp.getD 2 false = true := hdep { on := 2, ground := .data } (by simp) rfl
      have e16 : a'.tmps[16]? = some (.int .i64 pk) := (hS.don 2 _ 16 rfl d2 rfl).trans (by simp only [putAll, Act.put, List.setIfInBounds_toArray, List.set_cons_zero, List.set_cons_succ]; rfl)
      have KE := KC w'
      clear hdep
      unfold Oper.wp
      simp only [execOp, Act.eval, e15, e16]
      simp [go_sem, e15, e16, Oper.upon]
      refine KE.mono ?_
      rintro e W2 ⟨rfl, hb2⟩
      exact hK g W2 (fun _ _ _ _ _ _ => rfl) (by rw [hfl 8 (by decide), hfl 9 (by decide)]; exact hR.below hb2) _ (by simp only [valO, Option.bind_some]; simp only [putAll, Act.put, List.setIfInBounds_toArray, List.set_cons_zero, List.set_cons_succ]; rfl)
    | 4, ho, hun, hdep, hK, hfl, _ =>
      obtain rfl := Option.some.inj ho
      have o5 : a'.tmps[5]? = some (.pointer (some ⟨w.heap.size + 1, 0, none⟩)) := (hS.old 5 (by simp)).trans rfl
      have hK' := hK g w' (fun _ _ _ _ _ _ => rfl) (by rw [hfl 8 (by decide), hfl 9 (by decide)]; exact hR) (.agg #[.int .u64 (hI x), .int .u64 (lI x)]) (by simp only [valO, Option.bind_some]; simp only [putAll, Act.put, List.setIfInBounds_toArray, List.set_cons_zero, List.set_cons_succ]; rfl)
      clear hS hdep hR
      refine gh_quiet (v := .agg #[.int .u64 (hI x), .int .u64 (lI x)]) ?_ ?_
      · (simp only [execOp, Act.eval, o5]; go_simp; first | done | (simp; done) | (simp [*]; done))
      · exact hK'
    | 5, ho, hun, hdep, hK, hfl, _ =>
      obtain rfl := Option.some.inj ho
      have o0 : a'.tmps[0]? = some (.int .i64 F) := (hS.old 0 (by simp)).trans rfl
      have hK' := hK g w' (fun _ _ _ _ _ _ => rfl) (by rw [hfl 8 (by decide), hfl 9 (by decide)]; exact hR) (.int .i64 F) (by simp only [valO, Option.bind_some]; simp only [putAll, Act.put, List.setIfInBounds_toArray, List.set_cons_zero, List.set_cons_succ]; rfl)
      clear hS hdep hR
      refine gh_quiet (v := .int .i64 F) ?_ ?_
      · (simp only [execOp, Act.eval, o0]; go_simp; first | done | (simp; done) | (simp [*]; done))
      · exact hK'
    | 6, ho, hun, hdep, hK, hfl, _ =>
      obtain rfl := Option.some.inj ho
      have d5 : lp.getD 5 false = true := hdep { on := 5, ground := .data } (by simp) rfl
      have e19 : a'.tmps[19]? = some (.int .i64 F) := (hS.don 5 _ 19 rfl d5 rfl).trans (by simp only [putAll, Act.put, List.setIfInBounds_toArray, List.set_cons_zero, List.set_cons_succ]; rfl)
      have KE := KM w'
      clear hdep
      unfold Oper.wp
      simp only [execOp, Act.eval, e19]
      simp [go_sem, e19, Oper.upon]
      refine KE.mono ?_
      rintro e W2 ⟨rfl, hb2⟩
      exact hK g W2 (fun _ _ _ _ _ _ => rfl) (by rw [hfl 8 (by decide), hfl 9 (by decide)]; exact hR.below hb2) _ (by simp only [valO, Option.bind_some]; simp only [putAll, Act.put, List.setIfInBounds_toArray, List.set_cons_zero, List.set_cons_succ]; rfl)
    | 7, ho, hun, hdep, hK, hfl, _ =>
      obtain rfl := Option.some.inj ho
      have d4 : lp.getD 4 false = true := hdep { on := 4, ground := .data } (by simp) rfl
      have e18 : a'.tmps[18]? = some (.agg #[.int .u64 (hI x), .int .u64 (lI x)]) := (hS.don 4 _ 18 rfl d4 rfl).trans (by simp only [putAll, Act.put, List.setIfInBounds_toArray, List.set_cons_zero, List.set_cons_succ]; rfl)
      have d6 : lp.getD 6 false = true := hdep { on := 6, ground := .data } (by simp) rfl
      have e20 : a'.tmps[20]? = some (.agg #[.int .u64 (hI mk), .int .u64 (lI mk)]) := (hS.don 6 _ 20 rfl d6 rfl).trans (by simp only [putAll, Act.put, List.setIfInBounds_toArray, List.set_cons_zero, List.set_cons_succ]; rfl)
      have KE := KA w'
      clear hdep
      unfold Oper.wp
      simp only [execOp, Act.eval, e18, e20]
      simp [go_sem, e18, e20, Oper.upon]
      refine KE.mono ?_
      rintro e W2 ⟨rfl, hb2⟩
      exact hK g W2 (fun _ _ _ _ _ _ => rfl) (by rw [hfl 8 (by decide), hfl 9 (by decide)]; exact hR.below hb2) _ (by simp only [valO, Option.bind_some]; simp only [putAll, Act.put, List.setIfInBounds_toArray, List.set_cons_zero, List.set_cons_succ]; rfl)
    | 8, ho, hun, hdep, hK, hfl, _ =>
      obtain rfl := Option.some.inj ho
      have d3 : lp.getD 3 false = true := hdep { on := 3, ground := .data } (by simp) rfl
      have e17 : a'.tmps[17]? = some (.agg #[.int .u64 (hI cx), .int .u64 (lI cx), .int .i64 pk]) := (hS.don 3 _ 17 rfl d3 rfl).trans (by simp only [putAll, Act.put, List.setIfInBounds_toArray, List.set_cons_zero, List.set_cons_succ]; rfl)
      have o6 : a'.tmps[6]? = some (.pointer (some ⟨w.heap.size + 2, 0, none⟩)) := (hS.old 6 (by simp)).trans rfl
      rw [hun] at hR
      have hz := hR.r
      simp only [Bool.false_eq_true, if_false] at hz
      obtain ⟨z0, z1, z2, f0, f1, f2⟩ := hz
      have hK' := hK g _ (fun _ _ _ _ _ _ => rfl) (by rw [hfl 9 (by decide), getD_set_same (by rw [hsz]; decide)]; exact hR.stP) undef rfl
      clear hS hdep hR
      unfold Oper.wp
      simp [execOp, Act.eval, e17, o6, go_sem, z0, z1, z2, f0, f1, f2, Oper.upon]
      exact hK'
    | 9, ho, hun, hdep, hK, hfl, _ =>
      obtain rfl := Option.some.inj ho
      have d7 : lp.getD 7 false = true := hdep { on := 7, ground := .data } (by simp) rfl
      have e21 : a'.tmps[21]? = some (.agg #[.int .u64 (hI y), .int .u64 (lI y)]) := (hS.don 7 _ 21 rfl d7 rfl).trans (by simp only [putAll, Act.put, List.setIfInBounds_toArray, List.set_cons_zero, List.set_cons_succ]; rfl)
      have o7 : a'.tmps[7]? = some (.pointer (some ⟨w.heap.size + 3, 0, none⟩)) := (hS.old 7 (by simp)).trans rfl
      rw [hun] at hR
      have hz := hR.s
      simp only [Bool.false_eq_true, if_false] at hz
      obtain ⟨z0, z1, f0, f1, -⟩ := hz
      have hK' := hK g _ (fun _ _ _ _ _ _ => rfl) (by rw [hfl 8 (by decide), getD_set_same (by rw [hsz]; decide)]; exact hR.stW) undef rfl
      clear hS hdep hR
      unfold Oper.wp
      simp [execOp, Act.eval, e21, o7, go_sem, z0, z1, f0, f1, Oper.upon]
      exact hK'
    | n + 10, ho, hun, hdep, hK, hfl, hq => exact absurd hq (by omega)
  case fin =>
    intro g W2 hR
    have hR : RG w px pn x cx pk y true true W2 := by simpa using hR
    have hr := hR.r
    simp only [if_true] at hr
    obtain ⟨r0, r1, r2, -, -, -⟩ := hr
    have hs := hR.s
    simp only [if_true] at hs
    obtain ⟨s0, s1, -⟩ := hs
    have HB := hidR hR.bel
    simp only [putAll, Act.put, List.setIfInBounds_toArray, List.set_cons_zero, List.set_cons_succ]
    clear hR
    refine wl_nil (P := Try.prog) (ops := #[]) ?_
    go_wp2
    exact bodyPost_ret (v := .tuple #[.agg #[.int .u64 (hI cx), .int .u64 (lI cx), .int .i64 pk], .agg #[.int .u64 (hI y), .int .u64 (lI y)]]) (by simp [results, Try.results13, go_sem, r0, r1, r2, s0, s1]) rfl ⟨rfl, HB.out⟩

end Go.Proofs.Ytohnhpicjedfeaa
namespace Go.Proofs.Ytohnhpicjedfeaa
open Go.RowKit Go.Shelf
set_option linter.unusedSimpArgs false
set_option linter.unusedVariables false

structure Gl (S : Nat) (F : Int) (v : Value) (z p : BitVec 128) (n h : Int) (W : World) : Prop where
  t : W.heap[S]? = some (.cells #[.int .i64 F, v] 25)
  x : W.heap[S + 1]? = some (.cells #[.int .u64 (hI z), .int .u64 (lI z)] 36)
  r : W.heap[S + 2]? = some (.cells #[.int .u64 (hI p), .int .u64 (lI p), .int .i64 n, .int .i64 h] 40)
theorem Gl.keep {S : Nat} {F : Int} {v : Value} {z p : BitVec 128} {n h : Int} {W W' : World} (k : Gl S F v z p n h W) (g : ∀ q, q < S + 3 → W'.heap[q]? = W.heap[q]?) : Gl S F v z p n h W' := ⟨(g _ (by omega)).trans k.t, (g _ (by omega)).trans k.x, (g _ (by omega)).trans k.r⟩
theorem Gl.lt {S : Nat} {F : Int} {v : Value} {z p : BitVec 128} {n h : Int} {W : World} (k : Gl S F v z p n h W) : S + 3 ≤ W.heap.size := blk_lt5 k.r
theorem Gl.below {S : Nat} {F : Int} {v : Value} {z p : BitVec 128} {n h : Int} {W W' : World} (k : Gl S F v z p n h W) (g : Below W.heap.size W W') : Gl S F v z p n h W' := k.keep (fun q hq => g.block q (by have := k.lt; omega))
def valA (n : Nat) : Nat → Value
  | 0 => .slice none 0 0
  | N + 1 => .slice (some ⟨(decN N).1, 0, none⟩) n (decN N).2
theorem valA_ex {W : World} {base e size n : Nat} {v : Value} {xs : List Value} (h : W.ownsRow base e size v n xs) : ∃ N, v = valA n N := by
  rcases h.2 with ⟨e0, _⟩ | ⟨g, cap, cur, e0, _⟩
  · exact ⟨0, e0⟩
  · obtain ⟨N, hN⟩ := decN_ex g cap
    exact ⟨N + 1, by rw [e0]; show _ = Value.slice (some ⟨(decN N).1, 0, none⟩) n (decN N).2; rw [hN]⟩
structure UV (w9 : World) (F : Int) (vC v : Value) (S : List Rte) (W : World) : Prop where
  t : W.heap[w9.heap.size]? = some (.cells #[.int .i64 F, vC] 25)
  own : W.ownsRow (w9.heap.size + 1) 40 4 v S.length (rowR S)
  low : Below w9.heap.size w9 W
theorem UV.below {w9 W W' : World} {F : Int} {vC v : Value} {S : List Rte} (h : UV w9 F vC v S W) (hb : Below W.heap.size W W') : UV w9 F vC v S W' := ⟨(hb.block _ (blk_lt5 h.t)).trans h.t, own_below hb h.own, keepb hb h.low⟩
theorem UV.grow {w9 W W' : World} {F : Int} {vC v v' : Value} {S S' : List Rte} (h : UV w9 F vC v S W) (ho : W'.ownsRow (w9.heap.size + 1) 40 4 v' S'.length (rowR S')) (hg : W.grownBy W' v.ownBlock) : UV w9 F vC v' S' W' := by
  have hne : ∀ z, z ≤ w9.heap.size → ¬ v.ownBlock = some z := fun z hz e => by have := (h.own.lt z e).1; omega
  refine ⟨?_, ho, ?_⟩
  · rw [hg.block _ (blk_lt5 h.t) (fun e => hne _ (by omega) e.symm)]; exact h.t
  · exact ⟨by rw [hg.os, h.low.os], by rw [hg.tape, h.low.tape], by rw [hg.output, h.low.output], Nat.le_trans h.low.size hg.size, fun z hz => by rw [hg.block z (by have := h.low.size; omega) (fun e => hne z (by omega) e.symm), h.low.block z hz]⟩
theorem UV.put {w9 W : World} {F : Int} {vC v : Value} {S : List Rte} (h : UV w9 F vC v S W) : UV w9 F v v S (W.setCell ⟨w9.heap.size, 1, none⟩ v) := by
  refine ⟨?_, ?_, h.low.setCell (Nat.le_refl _) _⟩
  · exact (set_blk5 (o := 1) h.t v).trans rfl
  · exact own_heap h.own (fun z e => hSet6 _ (by have := (h.own.lt z e).1; omega))
theorem app_uv {o : Oper} {a : Act} {K : Act → World → Prop} {Q : Exit → Act → World → Prop} (w9 W : World) (F : Int) (vC v : Value) (S R S' : List Rte) (b off r c n : Nat) (s x : Operand)
    (ho : o.op = .call { callee := .builtin .append, args := #[s, x], argTypes := #[22, 22] }) (hs : a.eval s = v) (hx : a.eval x = .slice (some ⟨b, off, none⟩) r c) (h : UV w9 F vC v S W) (hr : r = R.length) (hS : S' = S ++ R) (hn : n = S'.length)
    (hcl : ∀ j u, (rowR R)[j]? = some u → W.cell? ⟨b, off + j, none⟩ = some u) (hlen : S'.length ≤ 3000)
    (hK : ∀ N W', UV w9 F vC (valA n N) S' W' → K (a.put o.dst (valA n N)) W') : o.wp Try.prog a W K Q := by
  subst hr hS
  obtain ⟨i0, hi, hz0, hz1, hz2⟩ := info_parts Try.infoR
  have hl2 : S.length + R.length ≤ 3000 := by simpa using hlen
  refine wp_append_own W s x 22 ho (w9.heap.size + 1) 40 i0 (.agg #[.int .u64 0, .int .u64 0, .int .i64 0, .int .i64 0]) 4 32 Try.underlying22 hi hz0 hz1 hz2 rfl (by decide) v S.length (rowR S) hs h.own ⟨b, off, none⟩ R.length c (rowR R) hx (rowR_len R) (fun j u hj => by rw [addO]; exact hcl j u hj) (rowR_cell5 R) (by unfold maxLen; omega) (by omega) (by have := blk_lt5 h.t; omega) ?_
  intro v' W' hown hg _
  rw [← rowR_app5, ← List.length_append] at hown
  obtain ⟨N, hN⟩ := valA_ex hown
  rw [← hn] at hN
  have hU := h.grow hown hg
  rw [hN] at hU ⊢
  exact hK N W' hU
theorem dropA5 (l : List Rte) (i b off c : Nat) (hil : i < l.length) (hlc : l.length ≤ c) (w9 : World) (h : ∀ W, Below w9.heap.size w9 W → ∀ j u, (rowR l)[j]? = some u → W.cell? ⟨b, off + j, none⟩ = some u) :
    ∃ off2, (if c = i + 1 then some (⟨b, off, none⟩ : Addr) else some (⟨b, off + (i + 1) * 4, none⟩ : Addr)) = some ⟨b, off2, none⟩ ∧ Hid (∀ W, Below w9.heap.size w9 W → ∀ j u, (rowR (l.drop (i + 1)))[j]? = some u → W.cell? ⟨b, off2 + j, none⟩ = some u) := by
  by_cases hc : c = i + 1
  · refine ⟨off, by rw [if_pos hc], hidR (fun W hW j u hj => ?_)⟩
    rw [List.drop_eq_nil_of_le (by omega)] at hj
    simp [rowR] at hj
  · refine ⟨off + (i + 1) * 4, by rw [if_neg hc], hidR (fun W hW j u hj => ?_)⟩
    have := h W hW ((i + 1) * 4 + j) u (by
      have e : rowR l = rowR (l.take (i + 1)) ++ rowR (l.drop (i + 1)) := by rw [← rowR_app5, List.take_append_drop]
      have e2 : (rowR (l.take (i + 1))).length = (i + 1) * 4 := by rw [rowR_len]; simp; omega
      rw [e, List.getElem?_append_right (by omega), e2, Nat.add_sub_cancel_left]
      exact hj)
    rw [Nat.add_assoc]
    exact this
theorem own_rowA {W : World} {base e size n : Nat} {v : Value} {xs : List Value} (h : W.ownsRow base e size v n xs) : RowA W size v n xs := by
  obtain ⟨hl, ao, c, e0, hc, h2⟩ := own_row h
  refine ⟨hl, ao, c, e0, hc, ?_⟩
  rcases h2 with h2 | ⟨b, off, e1, h2⟩
  · exact .inl h2
  · exact .inr ⟨⟨b, off, none⟩, e1, fun j u hj => by rw [addO]; exact h2 j u hj⟩

end Go.Proofs.Ytohnhpicjedfeaa
