/-
  Part 33 of the proof: 8 texts, one behind the other.
-/
import Derived.Test.YtnaghiipfgdimaaPart32
import Derived.Test.YtnaghiipfgdimaaPart10
import Derived.Test.YtnaghiipfgdimaaPart9
import Derived.RangeFuncKeeps
import Derived.Test.YtnaghiipfgdimaaPart26
import Derived.Test.YtnaghiipfgdimaaPart5
import Derived.Test.YtnaghiipfgdimaaPart19
import Derived.Deep.RegionHeld3
import Derived.Test.YtnaghiipfgdimaaPart18
import Derived.Test.YtnaghiipfgdimaaPart6
import Derived.Test.YtnaghiipfgdimaaPart11
import Derived.Test.YtnaghiipfgdimaaPart4
import Derived.Test.YtnaghiipfgdimaaPart2
/-
  What the sequence of package algebra's along tells.
-/
namespace Go.Proofs.Ytnaghiipfgdimaa
open Go.RowKit
set_option linter.unusedSimpArgs false
set_option linter.unusedVariables false

/-- All blocks of cells are as they were. -/
def KC (W W' : World) : Prop := W.heap.size ≤ W'.heap.size ∧ ∀ (z : Nat) (o : Obj), W.heap[z]? = some o → o.isCells = true → W'.heap[z]? = some o
theorem KC.trans {A B C : World} (h : KC A B) (g : KC B C) : KC A C := ⟨Nat.le_trans h.1 g.1, fun z o h1 h2 => g.2 z o (h.2 z o h1 h2) h2⟩
theorem kc_cell {W W' : World} (h : KC W W') {b o : Nat} {v : Value} (hc : W.cell? ⟨b, o, none⟩ = some v) : W'.cell? ⟨b, o, none⟩ = some v := by
  have hb := cell_in hc
  obtain ⟨ob, hob⟩ : ∃ ob, W.heap[b]? = some ob := ⟨_, Array.getElem?_eq_getElem hb⟩
  have hi : ob.isCells = true := by
    cases ob with
    | cells a t => rfl
    | _ => simp [World.cell?, hob] at hc
  have e : W'.heap[b]? = W.heap[b]? := by rw [hob]; exact h.2 b ob hob hi
  rw [cellH e]
  exact hc
theorem below_kc {W W' : World} (h : Below W.heap.size W W') : KC W W' := ⟨h.size, fun z o h1 _ => by
  have : z < W.heap.size := by
    have := (Array.getElem?_eq_some_iff.mp h1).1
    exact this
  rw [h.block z this, h1]⟩
theorem wl_nil {P : Program} {ops : Array Oper} {Q : Exit → Act → World → Prop} {a : Act} {w : World} (h : wpList P ops Q [] a w) : Q .normal a w := h
theorem Slt.old {l : List Oper} {a A : Act} {lp : Array Bool} {a' : Act} (h : Slt l a A lp a') (s : Nat) (hs : ∀ o ∈ l, o.dst ≠ some s) : a'.tmps[s]? = a.tmps[s]? := h.oth s (fun k o hk _ => hs o (List.mem_of_getElem? hk))
theorem gh_quiet {P : Program} {o : Oper} {a' : Act} {w' : World} {K : Act → World → Prop} {Q' : Exit → Act → World → Prop} {v : Value} (hr : (execOp a'.eval o).run P w' = .ok (.value v) w') (hK : K (a'.put o.dst v) w') : o.wp P a' w' K Q' := by
  unfold Oper.wp
  rw [hr]
  exact hK
theorem gh_same {x y : Array Value} {d s : Nat} (h : x.toList.eraseIdx d = y.toList.eraseIdx d) (hs : s ≠ d) : x[s]? = y[s]? := by
  have := erase_get x.toList y.toList d s h hs
  simpa using this
theorem AtG.set5 {W : World} {B : Nat} {x y : BitVec 128} {h : Int} (k : AtG W B x y h) (u v : BitVec 128) (g : Int) : AtG (((((W.setCell ⟨B, 0, none⟩ (.int .u64 (hI u))).setCell ⟨B, 1, none⟩ (.int .u64 (lI u))).setCell ⟨B, 2, none⟩ (.int .u64 (hI v))).setCell ⟨B, 3, none⟩ (.int .u64 (lI v))).setCell ⟨B, 4, none⟩ (.int .i64 g)) B u v g := by
  obtain ⟨c0, c1, c2, c3, c4, f0, f1, f2, f3, f4⟩ := k
  refine ⟨?_, ?_, ?_, ?_, ?_, ?_, ?_, ?_, ?_, ?_⟩ <;> simp [go_sem, *]
/-- What is known while the two segments are laid into variables. -/
structure RR (wr : World) (sx sy : BitVec 128) (sh : Int) (tx ty : BitVec 128) (th : Int) (b8 b9 b10 b11 : Bool) (g : Nat × Nat) (W : World) : Prop where
  bel : Below wr.heap.size wr W
  x : b8 = true → wr.heap.size ≤ g.1 ∧ (if b10 = true then AtG W g.1 sx sy sh else AtG W g.1 0#128 0#128 0)
  y : b9 = true → wr.heap.size ≤ g.2 ∧ (if b11 = true then AtG W g.2 tx ty th else AtG W g.2 0#128 0#128 0)
  ne : b8 = true → b9 = true → g.1 ≠ g.2
  c10 : b10 = true → b8 = true
  c11 : b11 = true → b9 = true
theorem ifG {W W' : World} {B : Nat} {x y : BitVec 128} {h : Int} {b : Bool} (k : if b = true then AtG W B x y h else AtG W B 0#128 0#128 0) (hk : ∀ {x y : BitVec 128} {h : Int}, AtG W B x y h → AtG W' B x y h) : if b = true then AtG W' B x y h else AtG W' B 0#128 0#128 0 := by
  cases b with
  | true => exact hk k
  | false => exact hk k
theorem ifG_lt {W : World} {B : Nat} {x y : BitVec 128} {h : Int} {b : Bool} (k : if b = true then AtG W B x y h else AtG W B 0#128 0#128 0) : B < W.heap.size := by
  cases b with
  | true => exact AtG.lt k
  | false => exact AtG.lt k
theorem hSet5 {W : World} {B : Nat} {u0 u1 u2 u3 u4 : Value} {k : Nat} (h : ¬ k = B) : (((((W.setCell ⟨B, 0, none⟩ u0).setCell ⟨B, 1, none⟩ u1).setCell ⟨B, 2, none⟩ u2).setCell ⟨B, 3, none⟩ u3).setCell ⟨B, 4, none⟩ u4).heap[k]? = W.heap[k]? := by
  rw [hSet _ h, hSet _ h, hSet _ h, hSet _ h, hSet _ h]
theorem bset5 {n C : Nat} {w W : World} (h : Below n w W) (hp : n ≤ C) (u0 u1 u2 u3 u4 : Value) : Below n w (((((W.setCell ⟨C, 0, none⟩ u0).setCell ⟨C, 1, none⟩ u1).setCell ⟨C, 2, none⟩ u2).setCell ⟨C, 3, none⟩ u3).setCell ⟨C, 4, none⟩ u4) := ((((h.setCell hp _).setCell hp _).setCell hp _).setCell hp _).setCell hp _
theorem RR.st10 {wr : World} {sx sy : BitVec 128} {sh : Int} {tx ty : BitVec 128} {th : Int} {b8 b9 b11 : Bool} {g : Nat × Nat} {W : World} (k : RR wr sx sy sh tx ty th b8 b9 false b11 g W) (h8 : b8 = true) : RR wr sx sy sh tx ty th b8 b9 true b11 g (((((W.setCell ⟨g.1, 0, none⟩ (.int .u64 (hI sx))).setCell ⟨g.1, 1, none⟩ (.int .u64 (lI sx))).setCell ⟨g.1, 2, none⟩ (.int .u64 (hI sy))).setCell ⟨g.1, 3, none⟩ (.int .u64 (lI sy))).setCell ⟨g.1, 4, none⟩ (.int .i64 sh)) := by
  obtain ⟨h1, h2⟩ := k.x h8
  refine ⟨bset5 k.bel h1 _ _ _ _ _, fun _ => ⟨h1, ?_⟩, fun h => ⟨(k.y h).1, ifG (k.y h).2 (fun q => q.heap (hSet5 (fun e => k.ne h8 h e.symm)))⟩, k.ne, fun _ => h8, k.c11⟩
  rw [if_pos rfl]
  exact AtG.set5 h2 sx sy sh
theorem RR.st11 {wr : World} {sx sy : BitVec 128} {sh : Int} {tx ty : BitVec 128} {th : Int} {b8 b9 b10 : Bool} {g : Nat × Nat} {W : World} (k : RR wr sx sy sh tx ty th b8 b9 b10 false g W) (h9 : b9 = true) : RR wr sx sy sh tx ty th b8 b9 b10 true g (((((W.setCell ⟨g.2, 0, none⟩ (.int .u64 (hI tx))).setCell ⟨g.2, 1, none⟩ (.int .u64 (lI tx))).setCell ⟨g.2, 2, none⟩ (.int .u64 (hI ty))).setCell ⟨g.2, 3, none⟩ (.int .u64 (lI ty))).setCell ⟨g.2, 4, none⟩ (.int .i64 th)) := by
  obtain ⟨h1, h2⟩ := k.y h9
  refine ⟨bset5 k.bel h1 _ _ _ _ _, fun h => ⟨(k.x h).1, ifG (k.x h).2 (fun q => q.heap (hSet5 (fun e => k.ne h h9 e)))⟩, fun _ => ⟨h1, ?_⟩, k.ne, k.c10, fun _ => h9⟩
  rw [if_pos rfl]
  exact AtG.set5 h2 tx ty th
theorem gh_same2 {x y : Array Value} {d d2 s : Nat} (h : (x.toList.set d undef).set d2 undef = (y.toList.set d undef).set d2 undef) (hs : s ≠ d) (hs2 : s ≠ d2) : x[s]? = y[s]? := by
  have := congrArg (fun z => z[s]?) h
  simp only [List.getElem?_set_ne (Ne.symm hs2), List.getElem?_set_ne (Ne.symm hs)] at this
  simpa using this
/-- What lies ready when the body is called. -/
def CyI (wr : World) (N1 N2 N3 : Nat) (sx sy : BitVec 128) (sh : Int) (tx ty : BitVec 128) (th : Int) (cf cl : BitVec 128) (W : World) : Prop := AtY W N3 cf cl ∧ AtG W N1 sx sy sh ∧ AtG W N2 tx ty th ∧ Below wr.heap.size wr W
/-- What is known while the body's call is made ready, and behind it. -/
structure RY (Cy : World → Prop) (J1 Jx1 : World → Prop) (f : Nat → Bool) (g : Bool) (W : World) : Prop where
  c4 : f 4 = true → f 3 = true
  c6 : f 6 = true → f 5 = true
  c7 : f 7 = true → f 2 = true ∧ f 4 = true ∧ f 6 = true
  c8 : f 8 = true → ∀ j, j < 8 → f j = true
  c9 : f 9 = true → f 8 = true
  ahead : f 8 = false → Cy W
  behind : f 8 = true → ∃ W4, Cy W4 ∧ ((g = true ∧ J1 W ∧ KC W4 W) ∨ (g = false ∧ Jx1 W))
theorem RY.start {Cy J1 Jx1 : World → Prop} {f : Nat → Bool} {g : Bool} {W : World} (h : Cy W) (hf : ∀ j, f j = false) : RY Cy J1 Jx1 f g W :=
  ⟨fun q => (by rw [hf] at q; cases q), fun q => (by rw [hf] at q; cases q), fun q => (by rw [hf] at q; cases q), fun q => (by rw [hf] at q; cases q), fun q => (by rw [hf] at q; cases q), fun _ => h, fun q => (by rw [hf] at q; cases q)⟩
theorem RY.now {Cy J1 Jx1 : World → Prop} {f : Nat → Bool} {g : Bool} {W : World} (k : RY Cy J1 Jx1 f g W) (i : Nat) (hi : i < 8) (hun : f i = false) : Cy W := by
  refine k.ahead ?_
  cases h : f 8 with
  | false => rfl
  | true => have := k.c8 h i hi; rw [hun] at this; cases this
theorem RY.step {Cy J1 Jx1 : World → Prop} {f : Nat → Bool} {g : Bool} {W W' : World} (k : RY Cy J1 Jx1 f g W) (i : Nat) (hi : i < 8) (hun : f i = false) (f' : Nat → Bool) (hs : f' i = true) (ho : ∀ j, j ≠ i → f' j = f j) (hd : (i = 4 → f 3 = true) ∧ (i = 6 → f 5 = true) ∧ (i = 7 → f 2 = true ∧ f 4 = true ∧ f 6 = true)) (hc : Cy W') : RY Cy J1 Jx1 f' g W' := by
  have up : ∀ j, f j = true → f' j = true := fun j h => by
    by_cases e : j = i
    · rw [e]; exact hs
    · rw [ho j e]; exact h
  have dn : ∀ j, f' j = true → j = i ∨ f j = true := fun j h => by
    by_cases e : j = i
    · exact .inl e
    · rw [ho j e] at h; exact .inr h
  have n8 : f' 8 = true → False := fun h => by
    rw [ho 8 (by omega)] at h
    have := k.c8 h i hi
    rw [hun] at this
    cases this
  refine ⟨fun h => ?_, fun h => ?_, fun h => ?_, fun h => (n8 h).elim, fun h => ?_, fun _ => hc, fun h => (n8 h).elim⟩
  · rcases dn 4 h with e | e
    · exact up _ (hd.1 e.symm)
    · exact up _ (k.c4 e)
  · rcases dn 6 h with e | e
    · exact up _ (hd.2.1 e.symm)
    · exact up _ (k.c6 e)
  · rcases dn 7 h with e | e
    · obtain ⟨h1, h2, h3⟩ := hd.2.2 e.symm
      exact ⟨up _ h1, up _ h2, up _ h3⟩
    · obtain ⟨h1, h2, h3⟩ := k.c7 e
      exact ⟨up _ h1, up _ h2, up _ h3⟩
  · rcases dn 9 h with e | e
    · omega
    · exact up _ (k.c9 e)
theorem RY.closed {Cy J1 Jx1 : World → Prop} {f : Nat → Bool} {g : Bool} {W : World} (k : RY Cy J1 Jx1 f g W) (d0 : f 0 = true) (d1 : f 1 = true) (d7 : f 7 = true) : ∀ j, j < 8 → f j = true := by
  obtain ⟨h2, h4, h6⟩ := k.c7 d7
  have h3 := k.c4 h4
  have h5 := k.c6 h6
  intro j hj
  match j, hj with
  | 0, _ => exact d0
  | 1, _ => exact d1
  | 2, _ => exact h2
  | 3, _ => exact h3
  | 4, _ => exact h4
  | 5, _ => exact h5
  | 6, _ => exact h6
  | 7, _ => exact d7
  | n + 8, h => exact absurd h (by omega)
theorem RY.to {Cy J1 Jx1 : World → Prop} {f : Nat → Bool} {g : Bool} {W : World} (k : RY Cy J1 Jx1 f g W) (hl : ∀ j, j < 8 → f j = true) (f' : Nat → Bool) (hs : f' 8 = true) (ho : ∀ j, j ≠ 8 → f' j = f j) {g' : Bool} {W' : World} (hb : ∃ W4, Cy W4 ∧ ((g' = true ∧ J1 W' ∧ KC W4 W') ∨ (g' = false ∧ Jx1 W'))) : RY Cy J1 Jx1 f' g' W' := by
  have a : ∀ j, j < 8 → f' j = true := fun j hj => by rw [ho j (by omega)]; exact hl j hj
  exact ⟨fun _ => a 3 (by omega), fun _ => a 5 (by omega), fun _ => ⟨a 2 (by omega), a 4 (by omega), a 6 (by omega)⟩, fun _ => a, fun _ => hs, fun h => (by rw [hs] at h; cases h), fun _ => hb⟩
theorem RY.yes {Cy J1 Jx1 : World → Prop} {f : Nat → Bool} {g : Bool} {W W5 : World} (k : RY Cy J1 Jx1 f g W) (hl : ∀ j, j < 8 → f j = true) (f' : Nat → Bool) (hs : f' 8 = true) (ho : ∀ j, j ≠ 8 → f' j = f j) (hc : Cy W) (hj : J1 W5) (hk : KC W W5) : RY Cy J1 Jx1 f' true W5 := k.to hl f' hs ho ⟨W, hc, .inl ⟨rfl, hj, hk⟩⟩
theorem RY.nay {Cy J1 Jx1 : World → Prop} {f : Nat → Bool} {g : Bool} {W W5 : World} (k : RY Cy J1 Jx1 f g W) (hl : ∀ j, j < 8 → f j = true) (f' : Nat → Bool) (hs : f' 8 = true) (ho : ∀ j, j ≠ 8 → f' j = f j) (hc : Cy W) (hj : Jx1 W5) : RY Cy J1 Jx1 f' false W5 := k.to hl f' hs ho ⟨W, hc, .inr ⟨rfl, hj⟩⟩
theorem RY.last {Cy J1 Jx1 : World → Prop} {f : Nat → Bool} {g : Bool} {W : World} (k : RY Cy J1 Jx1 f g W) (d8 : f 8 = true) (f' : Nat → Bool) (hs : f' 9 = true) (ho : ∀ j, j ≠ 9 → f' j = f j) : RY Cy J1 Jx1 f' g W := by
  have a : ∀ j, j < 8 → f' j = true := fun j hj => by rw [ho j (by omega)]; exact k.c8 d8 j hj
  have h8 : f' 8 = true := by rw [ho 8 (by omega)]; exact d8
  exact ⟨fun _ => a 3 (by omega), fun _ => a 5 (by omega), fun _ => ⟨a 2 (by omega), a 4 (by omega), a 6 (by omega)⟩, fun _ => a, fun _ => h8, fun h => (by rw [h8] at h; cases h), fun _ => k.behind d8⟩
/-- What along's sequence reads. -/
structure AlM (A B C : Nat) (va vb fv : Value) (la lb : List Sg) (W : World) : Prop where
  a : W.cell? ⟨A, 0, none⟩ = some va
  b : W.cell? ⟨B, 0, none⟩ = some vb
  c : W.cell? ⟨C, 0, none⟩ = some fv
  ra : RwG W va la
  rb : RwG W vb lb
theorem RwG.kc {W W' : World} {v : Value} {l : List Sg} (h : RwG W v l) (hk : KC W W') : RwG W' v l := by
  obtain ⟨ao, c, e, h⟩ := h
  refine ⟨ao, c, e, h.imp id ?_⟩
  rintro ⟨b, off, e, hc⟩
  exact ⟨b, off, e, fun j u hj => kc_cell hk (hc j u hj)⟩
theorem AlM.kc {A B C : Nat} {va vb fv : Value} {la lb : List Sg} {W W' : World} (k : AlM A B C va vb fv la lb W) (h : KC W W') : AlM A B C va vb fv la lb W' := ⟨kc_cell h k.a, kc_cell h k.b, kc_cell h k.c, k.ra.kc h, k.rb.kc h⟩
def encD (x : Str) : Array Value := #[.agg #[.int .u64 (hI x.1.1), .int .u64 (lI x.1.1), .int .u64 (hI x.1.2), .int .u64 (lI x.1.2)], .bool (x.2.1 != x.2.2)]
theorem al_step (la lb : List Sg) (i k : Nat) (hi : i < la.length) (hk : k < lb.length) : al (la.drop i) (lb.drop k) = ((comF la[i] lb[k], comL la[i] lb[k]), (la[i].2, lb[k].2)) :: al (la.drop (if la[i].1.2 = comL la[i] lb[k] then i + 1 else i)) (lb.drop (if lb[k].1.2 = comL la[i] lb[k] then k + 1 else k)) := by
  rw [List.drop_eq_getElem_cons hi, List.drop_eq_getElem_cons hk, al]
  congr 1
  rcases com_ways la[i] lb[k] with ⟨k1, q, r⟩ | ⟨k1, k', q⟩ | ⟨k1, k', q, r⟩
  · rw [if_pos k1, q, if_neg r, if_pos rfl, List.drop_eq_getElem_cons hi]
  · rw [if_neg k', if_pos k1, q, if_pos rfl, if_pos k1.symm]
  · rw [if_neg k', if_neg r, q, if_pos rfl, if_neg (fun e => r e.symm), List.drop_eq_getElem_cons hk]
end Go.Proofs.Ytnaghiipfgdimaa
/-
  What the call of turnpikeref6's put does.
-/
namespace Go.Proofs.Ytnaghiipfgdimaa
open Go.RowKit
set_option linter.unusedSimpArgs false
set_option linter.unusedVariables false

def CW (w4 : World) (g o b : Nat) (qx x : BitVec 128) (W : World) : Prop := (W.cell? ⟨g, o, none⟩ = some (.int .u64 (hI qx)) ∧ W.cell? ⟨g, o + 1, none⟩ = some (.int .u64 (lI qx))) ∧ (W.cell? ⟨b, 0, none⟩ = some (.int .u64 (hI x)) ∧ W.cell? ⟨b, 1, none⟩ = some (.int .u64 (lI x))) ∧ Below w4.heap.size w4 W
theorem CW.below {w4 W W' : World} {g o b : Nat} {qx x : BitVec 128} (h : CW w4 g o b qx x W) (hb : Below W.heap.size W W') : CW w4 g o b qx x W' := ⟨⟨keepc hb h.1.1, keepc hb h.1.2⟩, ⟨keepc hb h.2.1.1, keepc hb h.2.1.2⟩, keepb hb h.2.2⟩
theorem CW.drew {w4 W : World} {g o b : Nat} {qx x : BitVec 128} (h : CW w4 g o b qx x W) : CW w4 g o b qx x W.drew := h.below (below_drewN (Below.refl _ _) 1)
theorem stopHereW {P : Program} {w : World} {ops : Array Oper} {rest : List Oper} {a : Act} {Q : Exit → Act → World → Prop} {o : Oper} (h : Hid (wpList P ops Q (o :: rest) a w)) : wpList P ops Q (o :: rest) a w := h.out
theorem grown_set2 {w W : World} {r : Option Nat} {g : Nat} (h : w.grownBy W r) (hg : r = some g ∨ w.heap.size ≤ g) (i j : Nat) (u v : Value) : w.grownBy ((W.setCell ⟨g, i, none⟩ u).setCell ⟨g, j, none⟩ v) r := by
  have b : Below 0 W ((W.setCell ⟨g, i, none⟩ u).setCell ⟨g, j, none⟩ v) := ((Below.refl _ _).setCell (Nat.zero_le _) u).setCell (Nat.zero_le _) v
  refine ⟨by rw [b.os, h.os], by rw [b.tape, h.tape], by rw [b.output, h.output], Nat.le_trans h.size b.size, fun z h1 h2 => ?_⟩
  have hne : ¬ z = g := by
    rintro rfl
    rcases hg with q | q
    · exact h2 q.symm
    · omega
  rw [hSet _ hne, hSet _ hne, h.block z h1 h2]
theorem below_grown {w W : World} {r : Option Nat} (h : Below w.heap.size w W) : w.grownBy W r := ⟨h.os, h.tape, h.output, h.size, fun z h1 _ => h.block z h1⟩
end Go.Proofs.Ytnaghiipfgdimaa
/-
  What the calls of turnpikeref2's Next and Prev do.
-/
namespace Go.Proofs.Ytnaghiipfgdimaa
open Go.RowKit
set_option linter.unusedSimpArgs false
set_option linter.unusedVariables false

end Go.Proofs.Ytnaghiipfgdimaa
/-
  What the calls of turnpikeref2's Next and Prev do where there is none, and of Prev.
-/
namespace Go.Proofs.Ytnaghiipfgdimaa
open Go.RowKit
set_option linter.unusedSimpArgs false
set_option linter.unusedVariables false

end Go.Proofs.Ytnaghiipfgdimaa
/-
  What the calls of turnpikeref2's Next and Prev do, of any word.
-/
namespace Go.Proofs.Ytnaghiipfgdimaa
open Go.RowKit
set_option linter.unusedSimpArgs false
set_option linter.unusedVariables false

end Go.Proofs.Ytnaghiipfgdimaa
/-
  What the call of turnpikeref6's edges does.
-/
namespace Go.Proofs.Ytnaghiipfgdimaa
open Go.RowKit
set_option linter.unusedSimpArgs false
set_option linter.unusedVariables false

/-- Words in order with 0 and both ends of each route. -/
def EdS (F : Int) (S : List (BitVec 128)) (l : List Rte) (T : List (BitVec 128)) : Prop := T.Pairwise (fun a b => a.toNat < b.toNat) ∧ (∀ y, y ∈ T ↔ (y ∈ S ∨ y = 0#128 ∨ ∃ r ∈ l, y = r.1.1 ∨ (nextB F (lastW F r.1.1 r.1.2) = true ∧ y = nextV F (lastW F r.1.1 r.1.2)))) ∧ T.length ≤ S.length + 1 + 2 * l.length
theorem eds_zero (F : Int) (S T : List (BitVec 128)) (h : PutS S 0#128 T) : EdS F S [] T := by
  refine ⟨h.1, fun y => ?_, by have := h.2.2; simp; omega⟩
  rw [h.2.1 y]
  constructor
  · rintro (q | q)
    · exact .inr (.inl q)
    · exact .inl q
  · rintro (q | q | ⟨r, hr, -⟩)
    · exact .inr q
    · exact .inl q
    · cases hr
/-- One route more: its first address, and the one behind its last. -/
theorem eds_one (F : Int) (S : List (BitVec 128)) (l : List Rte) (r : Rte) (T0 T1 : List (BitVec 128)) (h : EdS F S l T0) (h1 : PutS T0 r.1.1 T1) :
    (nextB F (lastW F r.1.1 r.1.2) = true → ∀ T2, PutS T1 (nextV F (lastW F r.1.1 r.1.2)) T2 → EdS F S (l ++ [r]) T2) ∧ (nextB F (lastW F r.1.1 r.1.2) = false → EdS F S (l ++ [r]) T1) := by
  constructor
  · intro hb T2 h2
    refine ⟨h2.1, fun y => ?_, by have := h.2.2; have := h1.2.2; have := h2.2.2; simp; omega⟩
    rw [h2.2.1 y, h1.2.1 y, h.2.1 y]
    constructor
    · rintro (q | q | q | q | ⟨r', hr, q⟩)
      · exact .inr (.inr ⟨r, by simp, .inr ⟨hb, q⟩⟩)
      · exact .inr (.inr ⟨r, by simp, .inl q⟩)
      · exact .inl q
      · exact .inr (.inl q)
      · exact .inr (.inr ⟨r', List.mem_append_left _ hr, q⟩)
    · rintro (q | q | ⟨r', hr, q⟩)
      · exact .inr (.inr (.inl q))
      · exact .inr (.inr (.inr (.inl q)))
      · rcases List.mem_append.mp hr with hr | hr
        · exact .inr (.inr (.inr (.inr ⟨r', hr, q⟩)))
        · have : r' = r := by simpa using hr
          subst this
          rcases q with q | ⟨-, q⟩
          · exact .inr (.inl q)
          · exact .inl q
  · intro hb
    refine ⟨h1.1, fun y => ?_, by have := h.2.2; have := h1.2.2; simp; omega⟩
    rw [h1.2.1 y, h.2.1 y]
    constructor
    · rintro (q | q | q | ⟨r', hr, q⟩)
      · exact .inr (.inr ⟨r, by simp, .inl q⟩)
      · exact .inl q
      · exact .inr (.inl q)
      · exact .inr (.inr ⟨r', List.mem_append_left _ hr, q⟩)
    · rintro (q | q | ⟨r', hr, q⟩)
      · exact .inr (.inl q)
      · exact .inr (.inr (.inl q))
      · rcases List.mem_append.mp hr with hr | hr
        · exact .inr (.inr (.inr ⟨r', hr, q⟩))
        · have : r' = r := by simpa using hr
          subst this
          rcases q with q | ⟨q, -⟩
          · exact .inl q
          · rw [hb] at q; cases q
/-- What is known between two calls of put. -/
structure EgI (w0 w : World) (lv : Value) (F : Int) (v rv : Value) (T : List (BitVec 128)) (W : World) : Prop where
  own : W.ownsRow w0.heap.size 36 2 rv T.length (rowW T)
  t : AtU W w.heap.size F v
  gr : w.grownBy W lv.ownBlock
  ob : ∀ z, rv.ownBlock = some z → lv.ownBlock = some z ∨ w.heap.size + 1 ≤ z
  ol : ∀ z, lv.ownBlock = some z → w0.heap.size ≤ z ∧ z < w.heap.size
  bel : Below w0.heap.size w0 W
  b0 : w0.heap.size ≤ w.heap.size
theorem EgI.bs {w0 w : World} {lv : Value} {F : Int} {v rv : Value} {T : List (BitVec 128)} {W : World} (k : EgI w0 w lv F v rv T W) : w0.heap.size ≤ W.heap.size := k.bel.size
theorem EgI.below {w0 w : World} {lv : Value} {F : Int} {v rv : Value} {T : List (BitVec 128)} {W W' : World} (k : EgI w0 w lv F v rv T W) (hb : Below W.heap.size W W') : EgI w0 w lv F v rv T W' :=
  ⟨own_below hb k.own, k.t.heap (hb.block _ k.t.lt), k.gr.trans (below_grown hb), k.ob, k.ol, keepb hb k.bel, k.b0⟩
theorem EgI.put {w0 w : World} {lv : Value} {F : Int} {v rv rv' : Value} {T T' : List (BitVec 128)} {W W' : World} (k : EgI w0 w lv F v rv T W) (h : PtO w0.heap.size rv T' W rv' W') : EgI w0 w lv F v rv' T' W' := by
  obtain ⟨h1, h2, h3⟩ := h
  have hT := k.t.lt
  refine ⟨h1, k.t.heap (h2.block _ hT (fun e => ?_)), ⟨by rw [h2.os, k.gr.os], by rw [h2.tape, k.gr.tape], by rw [h2.output, k.gr.output], Nat.le_trans k.gr.size h2.size, fun z q1 q2 => ?_⟩, fun z e => ?_, k.ol, k.bel.grown h2 k.bel.size (fun z e => (k.own.lt z e).1), k.b0⟩
  · rcases k.ob _ e.symm with q | q
    · have := (k.ol _ q).2; omega
    · omega
  · rw [h2.block z (by have := k.gr.size; omega) (fun e => ?_), k.gr.block z q1 q2]
    rcases k.ob z e.symm with q | q
    · exact q2 q.symm
    · omega
  · rcases h3 z e with q | q
    · exact k.ob z q
    · exact .inr (by omega)
theorem EgI.set2 {w0 w : World} {lv : Value} {F : Int} {v rv : Value} {T : List (BitVec 128)} {W : World} (k : EgI w0 w lv F v rv T W) {M : Nat} (hM : w.heap.size + 1 ≤ M) (hne : rv.ownBlock ≠ some M) (a b : Value) : EgI w0 w lv F v rv T ((W.setCell ⟨M, 0, none⟩ a).setCell ⟨M, 1, none⟩ b) := by
  have b0 := k.b0
  refine ⟨own_heap k.own (fun g e => ?_), k.t.heap (by rw [hSet _ (by omega), hSet _ (by omega)]), grown_set2 k.gr (.inr (by omega)) _ _ _ _, k.ob, k.ol, bset2 k.bel (by omega) _ _, k.b0⟩
  have : ¬ g = M := fun q => hne (by rw [e, q])
  rw [hSet _ this, hSet _ this]
/-- The same, with the prefix that is asked. -/
def EgD (w0 w : World) (lv : Value) (F : Int) (v rv : Value) (T : List (BitVec 128)) (px : BitVec 128) (pn : Int) (N : Nat) (W : World) : Prop := EgI w0 w lv F v rv T W ∧ AtP W N px pn ∧ w.heap.size < N ∧ N < W.heap.size
theorem EgD.below {w0 w : World} {lv : Value} {F : Int} {v rv : Value} {T : List (BitVec 128)} {px : BitVec 128} {pn : Int} {N : Nat} {W W' : World} (k : EgD w0 w lv F v rv T px pn N W) (hb : Below W.heap.size W W') : EgD w0 w lv F v rv T px pn N W' := ⟨k.1.below hb, k.2.1.below hb, k.2.2.1, Nat.lt_of_lt_of_le k.2.2.2 hb.size⟩
theorem EgD.drew {w0 w : World} {lv : Value} {F : Int} {v rv : Value} {T : List (BitVec 128)} {px : BitVec 128} {pn : Int} {N : Nat} {W : World} (k : EgD w0 w lv F v rv T px pn N W) : EgD w0 w lv F v rv T px pn N W.drew := k.below (below_drewN (Below.refl _ _) 1)
theorem AtP.heapE {W W' : World} {B : Nat} {x : BitVec 128} {n : Int} (k : AtP W B x n) (e : W'.heap[B]? = W.heap[B]?) : AtP W' B x n := by
  obtain ⟨h0, h1, h2, f0, f1, f2⟩ := k
  exact ⟨by rw [cellH e]; exact h0, by rw [cellH e]; exact h1, by rw [cellH e]; exact h2, by rw [frozH e]; exact f0, by rw [frozH e]; exact f1, by rw [frozH e]; exact f2⟩
theorem EgD.set2 {w0 w : World} {lv : Value} {F : Int} {v rv : Value} {T : List (BitVec 128)} {px : BitVec 128} {pn : Int} {N : Nat} {W : World} (k : EgD w0 w lv F v rv T px pn N W) {M : Nat} (hM : N < M) (hne : rv.ownBlock ≠ some M) (a b : Value) : EgD w0 w lv F v rv T px pn N ((W.setCell ⟨M, 0, none⟩ a).setCell ⟨M, 1, none⟩ b) := by
  have h1 := k.2.2.1
  refine ⟨k.1.set2 (by omega) hne a b, k.2.1.heapE (by rw [hSet _ (by omega), hSet _ (by omega)]), h1, ?_⟩
  have := (bset2 (C := M) (Below.refl 0 W) (Nat.zero_le _) a b).size
  have := k.2.2.2
  omega
theorem at_zeroE (W : World) : At (W.alloc (.cells #[.int .u64 0, .int .u64 0] 36)) W.heap.size 0#128 := by
  have := at_new W W.heap.size 0#128 36 rfl
  rwa [hI_zero, lI_zero] at this
theorem At.setE {W : World} {B : Nat} {x : BitVec 128} (k : At W B x) (y : BitVec 128) : At ((W.setCell ⟨B, 0, none⟩ (.int .u64 (hI y))).setCell ⟨B, 1, none⟩ (.int .u64 (lI y))) B y := by
  obtain ⟨c0, c1, f0, f1, h⟩ := k
  refine ⟨?_, ?_, ?_, ?_, ?_⟩ <;> simp [go_sem, c0, c1, f0, f1, h]
end Go.Proofs.Ytnaghiipfgdimaa
/-
  What the call of the law's SameSegs (of two that are the same) does.
-/
namespace Go.Proofs.Ytnaghiipfgdimaa
open Go.RowKit
set_option linter.unusedSimpArgs false
set_option linter.unusedVariables false

end Go.Proofs.Ytnaghiipfgdimaa
/-
  What the calls of the law's within, fitted and Fitted of an address do, and of its SameSegs of any two.
-/
namespace Go.Proofs.Ytnaghiipfgdimaa
open Go.RowKit
set_option linter.unusedSimpArgs false
set_option linter.unusedVariables false

theorem within5_zero (F : Int) (w : World) (h0 : 0 ≤ F) (h1 : F ≤ 128) : Calls Try.prog 30 #[.int .i64 0, .int .i64 (F + 1)] w fun e w' => e = .returned (.int .i64 0) ∧ Below w.heap.size w w' := by
  have hne : ¬ (F + 1 = 0) := by omega
  have hm : Int.tmod 0 (F + 1) = 0 := by simp
  go_enter Try.func30, Try.ntmps30
  go_wp2
  go_ret
  exact ⟨rfl, Below.refl _ _⟩
structure RF (w : World) (x y : BitVec 128) (f9 : Bool) (W : World) : Prop where
  p : AtP W w.heap.size 0#128 0
  x : At W (w.heap.size + 1) x
  r : AtP W (w.heap.size + 2) 0#128 0
  s : if f9 = true then At W (w.heap.size + 3) y else At W (w.heap.size + 3) 0#128
  bel : Below w.heap.size w W
theorem RF.below {w : World} {x y : BitVec 128} {f9 : Bool} {W W' : World} (k : RF w x y f9 W) (hb : Below W.heap.size W W') : RF w x y f9 W' :=
  ⟨k.p.below hb, k.x.below hb, k.r.below hb, (by have := k.s; cases f9 <;> simp at this ⊢ <;> exact this.below hb), keepb hb k.bel⟩
theorem RF.drew {w : World} {x y : BitVec 128} {f9 : Bool} {W : World} (k : RF w x y f9 W) : RF w x y f9 W.drew := k.below (below_drewN (Below.refl _ _) 1)
theorem AtP.set0 {W : World} {B : Nat} (k : AtP W B 0#128 0) : AtP (((W.setCell ⟨B, 0, none⟩ (.int .u64 0)).setCell ⟨B, 1, none⟩ (.int .u64 0)).setCell ⟨B, 2, none⟩ (.int .i64 0)) B 0#128 0 := by
  obtain ⟨c0, c1, c2, f0, f1, f2⟩ := k
  refine ⟨?_, ?_, ?_, ?_, ?_, ?_⟩ <;> simp [go_sem, *, hI_zero, lI_zero]
theorem RF.stP {w : World} {x y : BitVec 128} {f9 : Bool} {W : World} (k : RF w x y f9 W) : RF w x y f9 (((W.setCell ⟨w.heap.size + 2, 0, none⟩ (.int .u64 0)).setCell ⟨w.heap.size + 2, 1, none⟩ (.int .u64 0)).setCell ⟨w.heap.size + 2, 2, none⟩ (.int .i64 0)) := by
  have hsz : W.heap.size ≤ (((W.setCell ⟨w.heap.size + 2, 0, none⟩ (.int .u64 0)).setCell ⟨w.heap.size + 2, 1, none⟩ (.int .u64 0)).setCell ⟨w.heap.size + 2, 2, none⟩ (.int .i64 0)).heap.size := by simp
  have h : ∀ z, z ≠ w.heap.size + 2 → (((W.setCell ⟨w.heap.size + 2, 0, none⟩ (.int .u64 0)).setCell ⟨w.heap.size + 2, 1, none⟩ (.int .u64 0)).setCell ⟨w.heap.size + 2, 2, none⟩ (.int .i64 0)).heap[z]? = W.heap[z]? := fun z hz => by rw [hSet _ hz, hSet _ hz, hSet _ hz]
  refine ⟨k.p.heapE (h _ (by omega)), k.x.heap (h _ (by omega)) hsz, k.r.set0, ?_, ((k.bel.setCell (p := ⟨w.heap.size + 2, 0, none⟩) (by simp) _).setCell (p := ⟨w.heap.size + 2, 1, none⟩) (by simp) _).setCell (p := ⟨w.heap.size + 2, 2, none⟩) (by simp) _⟩
  have := k.s
  cases f9 <;> simp at this ⊢ <;> exact this.heap (h _ (by omega)) hsz
theorem RF.stW {w : World} {x y : BitVec 128} {W : World} (k : RF w x y false W) : RF w x y true ((W.setCell ⟨w.heap.size + 3, 0, none⟩ (.int .u64 (hI y))).setCell ⟨w.heap.size + 3, 1, none⟩ (.int .u64 (lI y))) := by
  have hsz : W.heap.size ≤ ((W.setCell ⟨w.heap.size + 3, 0, none⟩ (.int .u64 (hI y))).setCell ⟨w.heap.size + 3, 1, none⟩ (.int .u64 (lI y))).heap.size := by simp
  have h : ∀ z, z ≠ w.heap.size + 3 → ((W.setCell ⟨w.heap.size + 3, 0, none⟩ (.int .u64 (hI y))).setCell ⟨w.heap.size + 3, 1, none⟩ (.int .u64 (lI y))).heap[z]? = W.heap[z]? := fun z hz => by rw [hSet _ hz, hSet _ hz]
  have hs := k.s
  simp at hs
  exact ⟨k.p.heapE (h _ (by omega)), k.x.heap (h _ (by omega)) hsz, k.r.heapE (h _ (by omega)), by rw [if_pos rfl]; exact hs.setE y, (k.bel.setCell (p := ⟨w.heap.size + 3, 0, none⟩) (by simp) _).setCell (p := ⟨w.heap.size + 3, 1, none⟩) (by simp) _⟩
theorem rf_new (w : World) (x y : BitVec 128) : RF w x y false ((((w.alloc (.cells #[.int .u64 0, .int .u64 0, .int .i64 0] 38)).alloc (.cells #[.int .u64 (hI x), .int .u64 (lI x)] 36)).alloc (.cells #[.int .u64 0, .int .u64 0, .int .i64 0] 38)).alloc (.cells #[.int .u64 0, .int .u64 0] 36)) := by
  have b1 := bl1 w (.cells #[.int .u64 0, .int .u64 0, .int .i64 0] 38)
  have a1 := atp_new w w.heap.size 0#128 0 38 rfl
  rw [hI_zero, lI_zero] at a1
  revert b1 a1
  generalize h1 : w.alloc (.cells #[.int .u64 0, .int .u64 0, .int .i64 0] 38) = w1
  have s1 : w1.heap.size = w.heap.size + 1 := by rw [← h1]; simp
  clear h1
  intro b1 a1
  have b2 := bl1 w1 (.cells #[.int .u64 (hI x), .int .u64 (lI x)] 36)
  have a2 := at_new w1 (w.heap.size + 1) x 36 s1.symm
  revert b2 a2
  generalize h2 : w1.alloc (.cells #[.int .u64 (hI x), .int .u64 (lI x)] 36) = w2
  have s2 : w2.heap.size = w.heap.size + 2 := by rw [← h2]; simp [s1]
  clear h2
  intro b2 a2
  have b3 := bl1 w2 (.cells #[.int .u64 0, .int .u64 0, .int .i64 0] 38)
  have a3 := atp_new w2 (w.heap.size + 2) 0#128 0 38 s2.symm
  rw [hI_zero, lI_zero] at a3
  revert b3 a3
  generalize h3 : w2.alloc (.cells #[.int .u64 0, .int .u64 0, .int .i64 0] 38) = w3
  have s3 : w3.heap.size = w.heap.size + 3 := by rw [← h3]; simp [s2]
  clear h3
  intro b3 a3
  have b4 := bl1 w3 (.cells #[.int .u64 0, .int .u64 0] 36)
  have a4 := at_new w3 (w.heap.size + 3) 0#128 36 s3.symm
  rw [hI_zero, lI_zero] at a4
  exact ⟨((a1.below b2).below b3).below b4, (a2.below b3).below b4, a3.below b4, by simp; exact a4, keepb b4 (keepb b3 (keepb b2 b1))⟩
set_option maxRecDepth 20000 in
set_option maxHeartbeats 8000000 in
theorem fitted_zero (F : Int) (x : BitVec 128) (w : World) (h0 : 0 ≤ F) (h1 : F ≤ 128) :
    Calls Try.prog 13 #[.int .i64 F, .agg #[.int .u64 0, .int .u64 0, .int .i64 0], .agg #[.int .u64 (hI x), .int .u64 (lI x)]] w fun e w' => e = .returned (.tuple #[.agg #[.int .u64 0, .int .u64 0, .int .i64 0], .agg #[.int .u64 (hI (x &&& maskW F)), .int .u64 (lI (x &&& maskW F))]]) ∧ Below w.heap.size w w' := by
  have KW := fun w => within5_zero F w h0 h1
  have KC := fun w => rcut_any 0#128 0 w
  have hc : cutW 0#128 0 = 0#128 := by decide +kernel
  rw [hc, hI_zero, lI_zero] at KC
  have KM := fun w => rmask_any F w
  have KA := fun w => rand_any x (maskW F) w
  have HF0 : ∀ y, RF w x y false _ := fun y => rf_new w x y
  have HF1 := hidR (HF0 (x &&& maskW F))
  revert KM KA HF1
  generalize x &&& maskW F = y
  generalize maskW F = mk
  intro KM KA HF1
  have mF : IntKind.i64.wrap (F + 1) = F + 1 := by rw [IntKind.wrap_i64]; omega
  obtain ⟨p0, p1, p2, -, -, -⟩ := HF1.out.p
  simp only [hI_zero, lI_zero] at p0 p1
  clear HF0 hc
  go_enter Try.func13, Try.ntmps13
  go_wp2_with fail
  refine (KW _).mono ?_
  rintro e w1 ⟨rfl, hb⟩
  have HF := hidR (HF1.out.below hb)
  clear KW hb HF1 p0 p1 p2
  go_wp2_with fail
  refine gh_region (γ := Unit) (qpOk 10 10 (by decide) (fun N => by kernel_rfl) (by kernel_rfl) (by kernel_rfl) (by kernel_rfl) (by kernel_rfl)) (by kernel_rfl) (by kernel_rfl) [some 14, some 15, some 16, some 17, some 18, some 19, some 20, some 21, none, none] (fun g => [.pointer (some ⟨w.heap.size, 0, none⟩), .agg #[.int .u64 0, .int .u64 0], .int .i64 0, .agg #[.int .u64 0, .int .u64 0, .int .i64 0], .agg #[.int .u64 (hI x), .int .u64 (lI x)], .int .i64 F, .agg #[.int .u64 (hI mk), .int .u64 (lI mk)], .agg #[.int .u64 (hI y), .int .u64 (lI y)], undef, undef]) (by kernel_rfl) (by simp) (fun lp g W => RF w x y (lp.getD 9 false) W) () (by simpa using HF.out.drew) ?step ?fin
  case step =>
    intro q o lp g w' a' ho hsz hun hdep hR hS K Q' hK
    have hfl : ∀ j, j ≠ q → (lp.setIfInBounds q true).getD j false = lp.getD j false := fun j hj => by rw [Array.getD_eq_getD_getElem?, Array.getD_eq_getD_getElem?, Array.getElem?_setIfInBounds_ne (by omega)]
    have hq : q < 10 := (List.getElem?_eq_some_iff.mp ho).1
    obtain ⟨p0, p1, p2, -, -, -⟩ := hR.p
    simp only [hI_zero, lI_zero] at p0 p1
    obtain ⟨x0, x1, -⟩ := hR.x
    match q, ho, hun, hdep, hK, hfl, hq with
    | 0, ho, hun, hdep, hK, hfl, _ =>
      obtain rfl := Option.some.inj ho
      have o4 : a'.tmps[4]? = some (.pointer (some ⟨w.heap.size, 0, none⟩)) := (hS.old 4 (by simp)).trans rfl
      have hK' := hK g w' (fun _ _ _ _ _ _ => rfl) (by rw [hfl 9 (by decide)]; exact hR) (.pointer (some ⟨w.heap.size, 0, none⟩)) (by simp only [valO, Option.bind_some]; simp only [putAll, Act.put, List.setIfInBounds_toArray, List.set_cons_zero, List.set_cons_succ]; rfl)
      clear hS hdep hR
      refine gh_quiet (v := .pointer (some ⟨w.heap.size, 0, none⟩)) ?_ ?_
      · (simp only [execOp, Act.eval, o4]; go_simp; first | done | (simp; done) | (simp [*]; done))
      · exact hK'
    | 1, ho, hun, hdep, hK, hfl, _ =>
      obtain rfl := Option.some.inj ho
      have d0 : lp.getD 0 false = true := hdep { on := 0, ground := .data } (by simp) rfl
      have e14 : a'.tmps[14]? = some (.pointer (some ⟨w.heap.size, 0, none⟩)) := (hS.don 0 _ 14 rfl d0 rfl).trans (by simp only [putAll, Act.put, List.setIfInBounds_toArray, List.set_cons_zero, List.set_cons_succ]; rfl)
      have hK' := hK g w' (fun _ _ _ _ _ _ => rfl) (by rw [hfl 9 (by decide)]; exact hR) (.agg #[.int .u64 0, .int .u64 0]) (by simp only [valO, Option.bind_some]; simp only [putAll, Act.put, List.setIfInBounds_toArray, List.set_cons_zero, List.set_cons_succ]; rfl)
      clear hS hdep hR
      refine gh_quiet (v := .agg #[.int .u64 0, .int .u64 0]) ?_ ?_
      · (simp only [execOp, Act.eval, e14]; go_simp; first | done | (simp; done) | (simp [*]; done))
      · exact hK'
    | 2, ho, hun, hdep, hK, hfl, _ =>
      obtain rfl := Option.some.inj ho
      have o8 : a'.tmps[8]? = some (.int .i64 0) := (hS.old 8 (by simp)).trans rfl
      have hK' := hK g w' (fun _ _ _ _ _ _ => rfl) (by rw [hfl 9 (by decide)]; exact hR) (.int .i64 0) (by simp only [valO, Option.bind_some]; simp only [putAll, Act.put, List.setIfInBounds_toArray, List.set_cons_zero, List.set_cons_succ]; rfl)
      clear hS hdep hR
      refine gh_quiet (v := .int .i64 0) ?_ ?_
      · (simp only [execOp, Act.eval, o8]; go_simp; first | done | (simp; done) | (simp [*]; done))
      · exact hK'
    | 3, ho, hun, hdep, hK, hfl, _ =>
      obtain rfl := Option.some.inj ho
      have d1 : lp.getD 1 false = true := hdep { on := 1, ground := .data } (by simp) rfl
      have e15 : a'.tmps[15]? = some (.agg #[.int .u64 0, .int .u64 0]) := (hS.don 1 _ 15 rfl d1 rfl).trans (by simp only [putAll, Act.put, List.setIfInBounds_toArray, List.set_cons_zero, List.set_cons_succ]; rfl)
      have d2 : lp.getD 2 false = true := hdep { on := 2, ground := .data } (by simp) rfl
      have e16 : a'.tmps[16]? = some (.int .i64 0) := (hS.don 2 _ 16 rfl d2 rfl).trans (by simp only [putAll, Act.put, List.setIfInBounds_toArray, List.set_cons_zero, List.set_cons_succ]; rfl)
      have KE := KC w'
      clear hdep
      unfold Oper.wp
      simp only [execOp, Act.eval, e15, e16]
      simp [go_sem, e15, e16, Oper.upon]
      refine KE.mono ?_
      rintro e W2 ⟨rfl, hb2⟩
      exact hK g W2 (fun _ _ _ _ _ _ => rfl) (by rw [hfl 9 (by decide)]; exact hR.below hb2) _ (by simp only [valO, Option.bind_some]; simp only [putAll, Act.put, List.setIfInBounds_toArray, List.set_cons_zero, List.set_cons_succ]; rfl)
    | 4, ho, hun, hdep, hK, hfl, _ =>
      obtain rfl := Option.some.inj ho
      have o5 : a'.tmps[5]? = some (.pointer (some ⟨w.heap.size + 1, 0, none⟩)) := (hS.old 5 (by simp)).trans rfl
      have hK' := hK g w' (fun _ _ _ _ _ _ => rfl) (by rw [hfl 9 (by decide)]; exact hR) (.agg #[.int .u64 (hI x), .int .u64 (lI x)]) (by simp only [valO, Option.bind_some]; simp only [putAll, Act.put, List.setIfInBounds_toArray, List.set_cons_zero, List.set_cons_succ]; rfl)
      clear hS hdep hR
      refine gh_quiet (v := .agg #[.int .u64 (hI x), .int .u64 (lI x)]) ?_ ?_
      · (simp only [execOp, Act.eval, o5]; go_simp; first | done | (simp; done) | (simp [*]; done))
      · exact hK'
    | 5, ho, hun, hdep, hK, hfl, _ =>
      obtain rfl := Option.some.inj ho
      have o0 : a'.tmps[0]? = some (.int .i64 F) := (hS.old 0 (by simp)).trans rfl
      have hK' := hK g w' (fun _ _ _ _ _ _ => rfl) (by rw [hfl 9 (by decide)]; exact hR) (.int .i64 F) (by simp only [valO, Option.bind_some]; simp only [putAll, Act.put, List.setIfInBounds_toArray, List.set_cons_zero, List.set_cons_succ]; rfl)
      clear hS hdep hR
      refine gh_quiet (v := .int .i64 F) ?_ ?_
      · (simp only [execOp, Act.eval, o0]; go_simp; first | done | (simp; done) | (simp [*]; done))
      · exact hK'
    | 6, ho, hun, hdep, hK, hfl, _ =>
      obtain rfl := Option.some.inj ho
      have d5 : lp.getD 5 false = true := hdep { on := 5, ground := .data } (by simp) rfl
      have e19 : a'.tmps[19]? = some (.int .i64 F) := (hS.don 5 _ 19 rfl d5 rfl).trans (by simp only [putAll, Act.put, List.setIfInBounds_toArray, List.set_cons_zero, List.set_cons_succ]; rfl)
      have KE := KM w'
      clear hdep
      unfold Oper.wp
      simp only [execOp, Act.eval, e19]
      simp [go_sem, e19, Oper.upon]
      refine KE.mono ?_
      rintro e W2 ⟨rfl, hb2⟩
      exact hK g W2 (fun _ _ _ _ _ _ => rfl) (by rw [hfl 9 (by decide)]; exact hR.below hb2) _ (by simp only [valO, Option.bind_some]; simp only [putAll, Act.put, List.setIfInBounds_toArray, List.set_cons_zero, List.set_cons_succ]; rfl)
    | 7, ho, hun, hdep, hK, hfl, _ =>
      obtain rfl := Option.some.inj ho
      have d4 : lp.getD 4 false = true := hdep { on := 4, ground := .data } (by simp) rfl
      have e18 : a'.tmps[18]? = some (.agg #[.int .u64 (hI x), .int .u64 (lI x)]) := (hS.don 4 _ 18 rfl d4 rfl).trans (by simp only [putAll, Act.put, List.setIfInBounds_toArray, List.set_cons_zero, List.set_cons_succ]; rfl)
      have d6 : lp.getD 6 false = true := hdep { on := 6, ground := .data } (by simp) rfl
      have e20 : a'.tmps[20]? = some (.agg #[.int .u64 (hI mk), .int .u64 (lI mk)]) := (hS.don 6 _ 20 rfl d6 rfl).trans (by simp only [putAll, Act.put, List.setIfInBounds_toArray, List.set_cons_zero, List.set_cons_succ]; rfl)
      have KE := KA w'
      clear hdep
      unfold Oper.wp
      simp only [execOp, Act.eval, e18, e20]
      simp [go_sem, e18, e20, Oper.upon]
      refine KE.mono ?_
      rintro e W2 ⟨rfl, hb2⟩
      exact hK g W2 (fun _ _ _ _ _ _ => rfl) (by rw [hfl 9 (by decide)]; exact hR.below hb2) _ (by simp only [valO, Option.bind_some]; simp only [putAll, Act.put, List.setIfInBounds_toArray, List.set_cons_zero, List.set_cons_succ]; rfl)
    | 8, ho, hun, hdep, hK, hfl, _ =>
      obtain rfl := Option.some.inj ho
      have d3 : lp.getD 3 false = true := hdep { on := 3, ground := .data } (by simp) rfl
      have e17 : a'.tmps[17]? = some (.agg #[.int .u64 0, .int .u64 0, .int .i64 0]) := (hS.don 3 _ 17 rfl d3 rfl).trans (by simp only [putAll, Act.put, List.setIfInBounds_toArray, List.set_cons_zero, List.set_cons_succ]; rfl)
      have o6 : a'.tmps[6]? = some (.pointer (some ⟨w.heap.size + 2, 0, none⟩)) := (hS.old 6 (by simp)).trans rfl
      obtain ⟨z0, z1, z2, f0, f1, f2⟩ := hR.r
      have hK' := hK g _ (fun _ _ _ _ _ _ => rfl) (by rw [hfl 9 (by decide)]; exact hR.stP) undef rfl
      clear hS hdep hR
      unfold Oper.wp
      simp only [hI_zero, lI_zero] at z0 z1
      simp [execOp, Act.eval, e17, o6, go_sem, z0, z1, z2, f0, f1, f2, Oper.upon]
      exact hK'
    | 9, ho, hun, hdep, hK, hfl, _ =>
      obtain rfl := Option.some.inj ho
      have d7 : lp.getD 7 false = true := hdep { on := 7, ground := .data } (by simp) rfl
      have e21 : a'.tmps[21]? = some (.agg #[.int .u64 (hI y), .int .u64 (lI y)]) := (hS.don 7 _ 21 rfl d7 rfl).trans (by simp only [putAll, Act.put, List.setIfInBounds_toArray, List.set_cons_zero, List.set_cons_succ]; rfl)
      have o7 : a'.tmps[7]? = some (.pointer (some ⟨w.heap.size + 3, 0, none⟩)) := (hS.old 7 (by simp)).trans rfl
      rw [hun] at hR
      have hz := hR.s
      simp only [Bool.false_eq_true, if_false] at hz
      obtain ⟨z0, z1, f0, f1, -⟩ := hz
      have hK' := hK g _ (fun _ _ _ _ _ _ => rfl) (by rw [getD_set_same (by rw [hsz]; decide)]; exact hR.stW) undef rfl
      clear hS hdep hR
      unfold Oper.wp
      simp [execOp, Act.eval, e21, o7, go_sem, z0, z1, f0, f1, Oper.upon]
      exact hK'
    | n + 10, ho, hun, hdep, hK, hfl, hq => exact absurd hq (by omega)
  case fin =>
    intro g W2 hR
    have hR : RF w x y true W2 := by simpa using hR
    obtain ⟨r0, r1, r2, -, -, -⟩ := hR.r
    have hs := hR.s
    simp only [if_true] at hs
    obtain ⟨s0, s1, -⟩ := hs
    have HB := hidR hR.bel
    simp only [hI_zero, lI_zero] at r0 r1
    simp only [putAll, Act.put, List.setIfInBounds_toArray, List.set_cons_zero, List.set_cons_succ]
    clear hR
    refine wl_nil (P := Try.prog) (ops := #[]) ?_
    go_wp2
    exact bodyPost_ret (v := .tuple #[.agg #[.int .u64 0, .int .u64 0, .int .i64 0], .agg #[.int .u64 (hI y), .int .u64 (lI y)]]) (by simp [results, Try.results13, go_sem, r0, r1, r2, s0, s1]) rfl ⟨rfl, HB.out⟩
end Go.Proofs.Ytnaghiipfgdimaa
