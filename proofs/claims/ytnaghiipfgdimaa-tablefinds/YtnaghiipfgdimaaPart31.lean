/-
  Part 31 of the proof: 10 texts, one behind the other.
-/
import Derived.Test.YtnaghiipfgdimaaPart30
import Derived.Test.YtnaghiipfgdimaaPart10
import Derived.Test.YtnaghiipfgdimaaPart9
import Derived.RangeFuncKeeps
import Derived.Test.YtnaghiipfgdimaaPart2
import Derived.Deep.AppendLies
import Derived.Deep.RegionHeld3
import Derived.Test.YtnaghiipfgdimaaPart5
import Derived.Test.YtnaghiipfgdimaaPart19
import Derived.Test.YtnaghiipfgdimaaPart18
import Derived.Test.YtnaghiipfgdimaaPart6
import Derived.Test.YtnaghiipfgdimaaPart11
import Derived.Test.YtnaghiipfgdimaaPart4
/-
  What the sequence of package algebra's along tells.
-/
namespace Go.Proofs.Ytnaghiipfgdimaa
open Go.RowKit
set_option linter.unusedSimpArgs false
set_option linter.unusedVariables false

/-- All blocks of cells are as they were. -/
def KC (W W' : World) : Prop := W.heap.size ≤ W'.heap.size ∧ ∀ (z : Nat) (o : Obj), W.heap[z]? = some o → o.isCells = true → W'.heap[z]? = some o
theorem KC.trans {A B C : World} (h : KC A B) (g : KC B C) : KC A C := ⟨Nat.le_trans h.1 g.1, fun z o h1 h2 => g.2 z o (h.2 z o h1 h2) h2⟩
theorem kc_cell {W W' : World} (h : KC W W') {b o : Nat} {v : Value} (hc : W.cell? ⟨b, o, none⟩ = some v) : W'.cell? ⟨b, o, none⟩ = some v := by
  have hb := cell_in hc
  obtain ⟨ob, hob⟩ : ∃ ob, W.heap[b]? = some ob := ⟨_, Array.getElem?_eq_getElem hb⟩
  have hi : ob.isCells = true := by
    cases ob with
    | cells a t => rfl
    | _ => simp [World.cell?, hob] at hc
  have e : W'.heap[b]? = W.heap[b]? := by rw [hob]; exact h.2 b ob hob hi
  rw [cellH e]
  exact hc
theorem below_kc {W W' : World} (h : Below W.heap.size W W') : KC W W' := ⟨h.size, fun z o h1 _ => by
  have : z < W.heap.size := by
    have := (Array.getElem?_eq_some_iff.mp h1).1
    exact this
  rw [h.block z this, h1]⟩
theorem wl_nil {P : Program} {ops : Array Oper} {Q : Exit → Act → World → Prop} {a : Act} {w : World} (h : wpList P ops Q [] a w) : Q .normal a w := h
theorem Slt.old {l : List Oper} {a A : Act} {lp : Array Bool} {a' : Act} (h : Slt l a A lp a') (s : Nat) (hs : ∀ o ∈ l, o.dst ≠ some s) : a'.tmps[s]? = a.tmps[s]? := h.oth s (fun k o hk _ => hs o (List.mem_of_getElem? hk))
theorem gh_quiet {P : Program} {o : Oper} {a' : Act} {w' : World} {K : Act → World → Prop} {Q' : Exit → Act → World → Prop} {v : Value} (hr : (execOp a'.eval o).run P w' = .ok (.value v) w') (hK : K (a'.put o.dst v) w') : o.wp P a' w' K Q' := by
  unfold Oper.wp
  rw [hr]
  exact hK
theorem gh_same {x y : Array Value} {d s : Nat} (h : x.toList.eraseIdx d = y.toList.eraseIdx d) (hs : s ≠ d) : x[s]? = y[s]? := by
  have := erase_get x.toList y.toList d s h hs
  simpa using this
theorem AtG.set5 {W : World} {B : Nat} {x y : BitVec 128} {h : Int} (k : AtG W B x y h) (u v : BitVec 128) (g : Int) : AtG (((((W.setCell ⟨B, 0, none⟩ (.int .u64 (hI u))).setCell ⟨B, 1, none⟩ (.int .u64 (lI u))).setCell ⟨B, 2, none⟩ (.int .u64 (hI v))).setCell ⟨B, 3, none⟩ (.int .u64 (lI v))).setCell ⟨B, 4, none⟩ (.int .i64 g)) B u v g := by
  obtain ⟨c0, c1, c2, c3, c4, f0, f1, f2, f3, f4⟩ := k
  refine ⟨?_, ?_, ?_, ?_, ?_, ?_, ?_, ?_, ?_, ?_⟩ <;> simp [go_sem, *]
/-- What is known while the two segments are laid into variables. -/
structure RR (wr : World) (sx sy : BitVec 128) (sh : Int) (tx ty : BitVec 128) (th : Int) (b8 b9 b10 b11 : Bool) (g : Nat × Nat) (W : World) : Prop where
  bel : Below wr.heap.size wr W
  x : b8 = true → wr.heap.size ≤ g.1 ∧ (if b10 = true then AtG W g.1 sx sy sh else AtG W g.1 0#128 0#128 0)
  y : b9 = true → wr.heap.size ≤ g.2 ∧ (if b11 = true then AtG W g.2 tx ty th else AtG W g.2 0#128 0#128 0)
  ne : b8 = true → b9 = true → g.1 ≠ g.2
  c10 : b10 = true → b8 = true
  c11 : b11 = true → b9 = true
theorem ifG {W W' : World} {B : Nat} {x y : BitVec 128} {h : Int} {b : Bool} (k : if b = true then AtG W B x y h else AtG W B 0#128 0#128 0) (hk : ∀ {x y : BitVec 128} {h : Int}, AtG W B x y h → AtG W' B x y h) : if b = true then AtG W' B x y h else AtG W' B 0#128 0#128 0 := by
  cases b with
  | true => exact hk k
  | false => exact hk k
theorem ifG_lt {W : World} {B : Nat} {x y : BitVec 128} {h : Int} {b : Bool} (k : if b = true then AtG W B x y h else AtG W B 0#128 0#128 0) : B < W.heap.size := by
  cases b with
  | true => exact AtG.lt k
  | false => exact AtG.lt k
theorem hSet5 {W : World} {B : Nat} {u0 u1 u2 u3 u4 : Value} {k : Nat} (h : ¬ k = B) : (((((W.setCell ⟨B, 0, none⟩ u0).setCell ⟨B, 1, none⟩ u1).setCell ⟨B, 2, none⟩ u2).setCell ⟨B, 3, none⟩ u3).setCell ⟨B, 4, none⟩ u4).heap[k]? = W.heap[k]? := by
  rw [hSet _ h, hSet _ h, hSet _ h, hSet _ h, hSet _ h]
theorem bset5 {n C : Nat} {w W : World} (h : Below n w W) (hp : n ≤ C) (u0 u1 u2 u3 u4 : Value) : Below n w (((((W.setCell ⟨C, 0, none⟩ u0).setCell ⟨C, 1, none⟩ u1).setCell ⟨C, 2, none⟩ u2).setCell ⟨C, 3, none⟩ u3).setCell ⟨C, 4, none⟩ u4) := ((((h.setCell hp _).setCell hp _).setCell hp _).setCell hp _).setCell hp _
theorem RR.st10 {wr : World} {sx sy : BitVec 128} {sh : Int} {tx ty : BitVec 128} {th : Int} {b8 b9 b11 : Bool} {g : Nat × Nat} {W : World} (k : RR wr sx sy sh tx ty th b8 b9 false b11 g W) (h8 : b8 = true) : RR wr sx sy sh tx ty th b8 b9 true b11 g (((((W.setCell ⟨g.1, 0, none⟩ (.int .u64 (hI sx))).setCell ⟨g.1, 1, none⟩ (.int .u64 (lI sx))).setCell ⟨g.1, 2, none⟩ (.int .u64 (hI sy))).setCell ⟨g.1, 3, none⟩ (.int .u64 (lI sy))).setCell ⟨g.1, 4, none⟩ (.int .i64 sh)) := by
  obtain ⟨h1, h2⟩ := k.x h8
  refine ⟨bset5 k.bel h1 _ _ _ _ _, fun _ => ⟨h1, ?_⟩, fun h => ⟨(k.y h).1, ifG (k.y h).2 (fun q => q.heap (hSet5 (fun e => k.ne h8 h e.symm)))⟩, k.ne, fun _ => h8, k.c11⟩
  rw [if_pos rfl]
  exact AtG.set5 h2 sx sy sh
theorem RR.st11 {wr : World} {sx sy : BitVec 128} {sh : Int} {tx ty : BitVec 128} {th : Int} {b8 b9 b10 : Bool} {g : Nat × Nat} {W : World} (k : RR wr sx sy sh tx ty th b8 b9 b10 false g W) (h9 : b9 = true) : RR wr sx sy sh tx ty th b8 b9 b10 true g (((((W.setCell ⟨g.2, 0, none⟩ (.int .u64 (hI tx))).setCell ⟨g.2, 1, none⟩ (.int .u64 (lI tx))).setCell ⟨g.2, 2, none⟩ (.int .u64 (hI ty))).setCell ⟨g.2, 3, none⟩ (.int .u64 (lI ty))).setCell ⟨g.2, 4, none⟩ (.int .i64 th)) := by
  obtain ⟨h1, h2⟩ := k.y h9
  refine ⟨bset5 k.bel h1 _ _ _ _ _, fun h => ⟨(k.x h).1, ifG (k.x h).2 (fun q => q.heap (hSet5 (fun e => k.ne h h9 e)))⟩, fun _ => ⟨h1, ?_⟩, k.ne, k.c10, fun _ => h9⟩
  rw [if_pos rfl]
  exact AtG.set5 h2 tx ty th
theorem gh_same2 {x y : Array Value} {d d2 s : Nat} (h : (x.toList.set d undef).set d2 undef = (y.toList.set d undef).set d2 undef) (hs : s ≠ d) (hs2 : s ≠ d2) : x[s]? = y[s]? := by
  have := congrArg (fun z => z[s]?) h
  simp only [List.getElem?_set_ne (Ne.symm hs2), List.getElem?_set_ne (Ne.symm hs)] at this
  simpa using this
/-- What lies ready when the body is called. -/
def CyI (wr : World) (N1 N2 N3 : Nat) (sx sy : BitVec 128) (sh : Int) (tx ty : BitVec 128) (th : Int) (cf cl : BitVec 128) (W : World) : Prop := AtY W N3 cf cl ∧ AtG W N1 sx sy sh ∧ AtG W N2 tx ty th ∧ Below wr.heap.size wr W
/-- What is known while the body's call is made ready, and behind it. -/
structure RY (Cy : World → Prop) (J1 Jx1 : World → Prop) (f : Nat → Bool) (g : Bool) (W : World) : Prop where
  c4 : f 4 = true → f 3 = true
  c6 : f 6 = true → f 5 = true
  c7 : f 7 = true → f 2 = true ∧ f 4 = true ∧ f 6 = true
  c8 : f 8 = true → ∀ j, j < 8 → f j = true
  c9 : f 9 = true → f 8 = true
  ahead : f 8 = false → Cy W
  behind : f 8 = true → ∃ W4, Cy W4 ∧ ((g = true ∧ J1 W ∧ KC W4 W) ∨ (g = false ∧ Jx1 W))
theorem RY.start {Cy J1 Jx1 : World → Prop} {f : Nat → Bool} {g : Bool} {W : World} (h : Cy W) (hf : ∀ j, f j = false) : RY Cy J1 Jx1 f g W :=
  ⟨fun q => (by rw [hf] at q; cases q), fun q => (by rw [hf] at q; cases q), fun q => (by rw [hf] at q; cases q), fun q => (by rw [hf] at q; cases q), fun q => (by rw [hf] at q; cases q), fun _ => h, fun q => (by rw [hf] at q; cases q)⟩
theorem RY.now {Cy J1 Jx1 : World → Prop} {f : Nat → Bool} {g : Bool} {W : World} (k : RY Cy J1 Jx1 f g W) (i : Nat) (hi : i < 8) (hun : f i = false) : Cy W := by
  refine k.ahead ?_
  cases h : f 8 with
  | false => rfl
  | true => have := k.c8 h i hi; rw [hun] at this; cases this
theorem RY.step {Cy J1 Jx1 : World → Prop} {f : Nat → Bool} {g : Bool} {W W' : World} (k : RY Cy J1 Jx1 f g W) (i : Nat) (hi : i < 8) (hun : f i = false) (f' : Nat → Bool) (hs : f' i = true) (ho : ∀ j, j ≠ i → f' j = f j) (hd : (i = 4 → f 3 = true) ∧ (i = 6 → f 5 = true) ∧ (i = 7 → f 2 = true ∧ f 4 = true ∧ f 6 = true)) (hc : Cy W') : RY Cy J1 Jx1 f' g W' := by
  have up : ∀ j, f j = true → f' j = true := fun j h => by
    by_cases e : j = i
    · rw [e]; exact hs
    · rw [ho j e]; exact h
  have dn : ∀ j, f' j = true → j = i ∨ f j = true := fun j h => by
    by_cases e : j = i
    · exact .inl e
    · rw [ho j e] at h; exact .inr h
  have n8 : f' 8 = true → False := fun h => by
    rw [ho 8 (by omega)] at h
    have := k.c8 h i hi
    rw [hun] at this
    cases this
  refine ⟨fun h => ?_, fun h => ?_, fun h => ?_, fun h => (n8 h).elim, fun h => ?_, fun _ => hc, fun h => (n8 h).elim⟩
  · rcases dn 4 h with e | e
    · exact up _ (hd.1 e.symm)
    · exact up _ (k.c4 e)
  · rcases dn 6 h with e | e
    · exact up _ (hd.2.1 e.symm)
    · exact up _ (k.c6 e)
  · rcases dn 7 h with e | e
    · obtain ⟨h1, h2, h3⟩ := hd.2.2 e.symm
      exact ⟨up _ h1, up _ h2, up _ h3⟩
    · obtain ⟨h1, h2, h3⟩ := k.c7 e
      exact ⟨up _ h1, up _ h2, up _ h3⟩
  · rcases dn 9 h with e | e
    · omega
    · exact up _ (k.c9 e)
theorem RY.closed {Cy J1 Jx1 : World → Prop} {f : Nat → Bool} {g : Bool} {W : World} (k : RY Cy J1 Jx1 f g W) (d0 : f 0 = true) (d1 : f 1 = true) (d7 : f 7 = true) : ∀ j, j < 8 → f j = true := by
  obtain ⟨h2, h4, h6⟩ := k.c7 d7
  have h3 := k.c4 h4
  have h5 := k.c6 h6
  intro j hj
  match j, hj with
  | 0, _ => exact d0
  | 1, _ => exact d1
  | 2, _ => exact h2
  | 3, _ => exact h3
  | 4, _ => exact h4
  | 5, _ => exact h5
  | 6, _ => exact h6
  | 7, _ => exact d7
  | n + 8, h => exact absurd h (by omega)
theorem RY.to {Cy J1 Jx1 : World → Prop} {f : Nat → Bool} {g : Bool} {W : World} (k : RY Cy J1 Jx1 f g W) (hl : ∀ j, j < 8 → f j = true) (f' : Nat → Bool) (hs : f' 8 = true) (ho : ∀ j, j ≠ 8 → f' j = f j) {g' : Bool} {W' : World} (hb : ∃ W4, Cy W4 ∧ ((g' = true ∧ J1 W' ∧ KC W4 W') ∨ (g' = false ∧ Jx1 W'))) : RY Cy J1 Jx1 f' g' W' := by
  have a : ∀ j, j < 8 → f' j = true := fun j hj => by rw [ho j (by omega)]; exact hl j hj
  exact ⟨fun _ => a 3 (by omega), fun _ => a 5 (by omega), fun _ => ⟨a 2 (by omega), a 4 (by omega), a 6 (by omega)⟩, fun _ => a, fun _ => hs, fun h => (by rw [hs] at h; cases h), fun _ => hb⟩
theorem RY.yes {Cy J1 Jx1 : World → Prop} {f : Nat → Bool} {g : Bool} {W W5 : World} (k : RY Cy J1 Jx1 f g W) (hl : ∀ j, j < 8 → f j = true) (f' : Nat → Bool) (hs : f' 8 = true) (ho : ∀ j, j ≠ 8 → f' j = f j) (hc : Cy W) (hj : J1 W5) (hk : KC W W5) : RY Cy J1 Jx1 f' true W5 := k.to hl f' hs ho ⟨W, hc, .inl ⟨rfl, hj, hk⟩⟩
theorem RY.nay {Cy J1 Jx1 : World → Prop} {f : Nat → Bool} {g : Bool} {W W5 : World} (k : RY Cy J1 Jx1 f g W) (hl : ∀ j, j < 8 → f j = true) (f' : Nat → Bool) (hs : f' 8 = true) (ho : ∀ j, j ≠ 8 → f' j = f j) (hc : Cy W) (hj : Jx1 W5) : RY Cy J1 Jx1 f' false W5 := k.to hl f' hs ho ⟨W, hc, .inr ⟨rfl, hj⟩⟩
theorem RY.last {Cy J1 Jx1 : World → Prop} {f : Nat → Bool} {g : Bool} {W : World} (k : RY Cy J1 Jx1 f g W) (d8 : f 8 = true) (f' : Nat → Bool) (hs : f' 9 = true) (ho : ∀ j, j ≠ 9 → f' j = f j) : RY Cy J1 Jx1 f' g W := by
  have a : ∀ j, j < 8 → f' j = true := fun j hj => by rw [ho j (by omega)]; exact k.c8 d8 j hj
  have h8 : f' 8 = true := by rw [ho 8 (by omega)]; exact d8
  exact ⟨fun _ => a 3 (by omega), fun _ => a 5 (by omega), fun _ => ⟨a 2 (by omega), a 4 (by omega), a 6 (by omega)⟩, fun _ => a, fun _ => h8, fun h => (by rw [h8] at h; cases h), fun _ => k.behind d8⟩
/-- What along's sequence reads. -/
structure AlM (A B C : Nat) (va vb fv : Value) (la lb : List Sg) (W : World) : Prop where
  a : W.cell? ⟨A, 0, none⟩ = some va
  b : W.cell? ⟨B, 0, none⟩ = some vb
  c : W.cell? ⟨C, 0, none⟩ = some fv
  ra : RwG W va la
  rb : RwG W vb lb
theorem RwG.kc {W W' : World} {v : Value} {l : List Sg} (h : RwG W v l) (hk : KC W W') : RwG W' v l := by
  obtain ⟨ao, c, e, h⟩ := h
  refine ⟨ao, c, e, h.imp id ?_⟩
  rintro ⟨b, off, e, hc⟩
  exact ⟨b, off, e, fun j u hj => kc_cell hk (hc j u hj)⟩
theorem AlM.kc {A B C : Nat} {va vb fv : Value} {la lb : List Sg} {W W' : World} (k : AlM A B C va vb fv la lb W) (h : KC W W') : AlM A B C va vb fv la lb W' := ⟨kc_cell h k.a, kc_cell h k.b, kc_cell h k.c, k.ra.kc h, k.rb.kc h⟩
def encD (x : Str) : Array Value := #[.agg #[.int .u64 (hI x.1.1), .int .u64 (lI x.1.1), .int .u64 (hI x.1.2), .int .u64 (lI x.1.2)], .bool (x.2.1 != x.2.2)]
theorem al_step (la lb : List Sg) (i k : Nat) (hi : i < la.length) (hk : k < lb.length) : al (la.drop i) (lb.drop k) = ((comF la[i] lb[k], comL la[i] lb[k]), (la[i].2, lb[k].2)) :: al (la.drop (if la[i].1.2 = comL la[i] lb[k] then i + 1 else i)) (lb.drop (if lb[k].1.2 = comL la[i] lb[k] then k + 1 else k)) := by
  rw [List.drop_eq_getElem_cons hi, List.drop_eq_getElem_cons hk, al]
  congr 1
  rcases com_ways la[i] lb[k] with ⟨k1, q, r⟩ | ⟨k1, k', q⟩ | ⟨k1, k', q, r⟩
  · rw [if_pos k1, q, if_neg r, if_pos rfl, List.drop_eq_getElem_cons hi]
  · rw [if_neg k', if_pos k1, q, if_pos rfl, if_pos k1.symm]
  · rw [if_neg k', if_neg r, q, if_pos rfl, if_neg (fun e => r e.symm), List.drop_eq_getElem_cons hk]
end Go.Proofs.Ytnaghiipfgdimaa
/-
  Rows of words in memory.
-/
namespace Go.Proofs.Ytnaghiipfgdimaa
open Go.RowKit
set_option linter.unusedSimpArgs false
set_option linter.unusedVariables false

def rowW : List (BitVec 128) → List Value
  | [] => []
  | x :: l => .int .u64 (hI x) :: .int .u64 (lI x) :: rowW l
theorem rowW_app : ∀ l m, rowW (l ++ m) = rowW l ++ rowW m := by
  intro l
  induction l with
  | nil => intro m; rfl
  | cons p l ih => intro m; simp [rowW, ih]
theorem rowW_one (l : List (BitVec 128)) (x : BitVec 128) : rowW (l ++ [x]) = rowW l ++ [.int .u64 (hI x), .int .u64 (lI x)] := by rw [rowW_app]; rfl
theorem rowW_len : ∀ l, (rowW l).length = l.length * 2 := by
  intro l
  induction l with
  | nil => rfl
  | cons p l ih => simp only [rowW, List.length_cons, ih]; omega
theorem rowW_get : ∀ (l : List (BitVec 128)) (j : Nat) (hj : j < l.length), (rowW l)[j * 2]? = some (.int .u64 (hI l[j])) ∧ (rowW l)[j * 2 + 1]? = some (.int .u64 (lI l[j])) := by
  intro l
  induction l with
  | nil => intro j hj; simp at hj
  | cons p l ih =>
    intro j hj
    cases j with
    | zero => simp [rowW]
    | succ j =>
      have := ih j (by simpa using hj)
      rw [show (j + 1) * 2 = j * 2 + 2 by omega, show j * 2 + 2 + 1 = j * 2 + 1 + 2 by omega]
      simpa [rowW] using this
theorem ownW_cells {W : World} {base n g c : Nat} {l : List (BitVec 128)} (h : W.ownsRow base 36 2 (.slice (some ⟨g, 0, none⟩) n c) n (rowW l)) (j : Nat) (hj : j < l.length) :
    W.cell? ⟨g, j * 2, none⟩ = some (.int .u64 (hI l[j])) ∧ W.cell? ⟨g, j * 2 + 1, none⟩ = some (.int .u64 (lI l[j])) := by
  obtain ⟨a, b⟩ := rowW_get l j hj
  have e : ∀ k, (⟨g, 0, none⟩ : Addr).add k = ⟨g, k, none⟩ := fun k => by unfold Addr.add; split <;> simp_all
  have f := fun k u => h.cells (g := g) rfl k u
  exact ⟨by have := f _ _ a; rwa [e] at this, by have := f _ _ b; rwa [e] at this⟩
theorem rowW_set (L : List (BitVec 128)) (k : Nat) (q : BitVec 128) : ((rowW L).set (k * 2) (.int .u64 (hI q))).set (k * 2 + 1) (.int .u64 (lI q)) = if k < L.length then rowW (L.set k q) else rowW L := by
  induction L generalizing k with
  | nil => simp [rowW]
  | cons p L ih =>
    cases k with
    | zero => simp [rowW]
    | succ k =>
      have := ih k
      rw [show (k + 1) * 2 = k * 2 + 1 + 1 by omega, show k * 2 + 1 + 1 + 1 = k * 2 + 1 + 1 + 1 by omega]
      simp only [rowW, List.set_cons_succ, List.length_cons, Nat.add_lt_add_iff_right]
      rw [this]
      split <;> rfl
theorem Try.infoWd : (Try.prog.info? 36).map (fun i => (i.zero, i.size, i.bytes)) = some (some (.agg #[.int .u64 0, .int .u64 0]), 2, 16) := by kernel_rfl
theorem newsWd (W : World) (a b : Value) (t : TypeId) : ∀ j u, [a, b][j]? = some u → (W.alloc (.cells #[a, b] t)).cell? ((⟨W.heap.size, 0, none⟩ : Addr).add j) = some u := by
  intro j u hj
  match j, hj with
  | 0, hj => simp at hj; subst hj; simp [Addr.add, go_sem]
  | 1, hj => simp at hj; subst hj; simp [Addr.add, go_sem]
theorem twoW (a b : Int) : ∀ u ∈ [Value.int .u64 a, Value.int .u64 b], u.oneCell' = true := by
  intro u hu; simp at hu; rcases hu with rfl | rfl <;> rfl
/-- A row's cells are there, and may be written. -/
theorem own_cell6 {W : World} {base e size n g cap : Nat} {xs : List Value} (h : W.ownsRow base e size (.slice (some ⟨g, 0, none⟩) n cap) n xs) (j : Nat) (hj : j < n * size) : (∃ u, W.cell? ⟨g, j, none⟩ = some u) ∧ W.frozen? ⟨g, j, none⟩ = false := by
  rcases h.2 with ⟨h', _⟩ | ⟨g', cap', cur, h', hb, hg, hnc, hcm, hcs, htake⟩
  · cases h'
  · simp only [Value.slice.injEq, Option.some.injEq, Addr.mk.injEq, and_true, true_and] at h'
    obtain ⟨rfl, rfl⟩ := h'
    have hs : j < cur.size := by
      rw [hcs]
      exact Nat.lt_of_lt_of_le hj (Nat.mul_le_mul_right _ hnc)
    refine ⟨⟨cur[j], ?_⟩, ?_⟩
    · simp [World.cell?, hg, hs]
    · simp [World.frozen?, hg]
/-- What put leaves of memory: the row is changed in its own place, or made anew. -/
def PtO (base : Nat) (v : Value) (S : List (BitVec 128)) (w : World) (v' : Value) (w' : World) : Prop := w'.ownsRow base 36 2 v' S.length (rowW S) ∧ w.grownBy w' v.ownBlock ∧ (∀ z, v'.ownBlock = some z → v.ownBlock = some z ∨ w.heap.size ≤ z)
theorem set_midW (S : List (BitVec 128)) (k : Nat) (hk : k ≤ S.length) (d q : BitVec 128) : (S.take k ++ d :: S.drop k).set k q = S.take k ++ q :: S.drop k := by
  rw [List.set_append_right _ _ (by simp; omega)]
  congr 1
  have : k - (S.take k).length = 0 := by simp; omega
  rw [this]
  rfl
theorem mid_backW (S : List (BitVec 128)) (k : Nat) (hk : k < S.length) : S.take (k + 1) ++ S[k] :: S.drop (k + 1) = S.take k ++ S[k] :: S.drop k := by
  rw [List.take_succ_eq_append_getElem hk, List.append_assoc]
  congr 1
  rw [List.drop_eq_getElem_cons hk]
  rfl
theorem mid_getW (S : List (BitVec 128)) (k : Nat) (hk : k < S.length) (d : BitVec 128) (h : k < (S.take (k + 1) ++ d :: S.drop (k + 1)).length) : (S.take (k + 1) ++ d :: S.drop (k + 1))[k] = S[k] := by
  rw [List.getElem_append_left (by simp; omega), List.getElem_take]
/-- Words in order, each once, with another one. -/
def PutS (S : List (BitVec 128)) (x : BitVec 128) (T : List (BitVec 128)) : Prop := T.Pairwise (fun a b => a.toNat < b.toNat) ∧ (∀ y, y ∈ T ↔ (y = x ∨ y ∈ S)) ∧ T.length ≤ S.length + 1
theorem put_there (S : List (BitVec 128)) (x : BitVec 128) (hS : S.Pairwise (fun a b => a.toNat < b.toNat)) (h : x ∈ S) : PutS S x S :=
  ⟨hS, fun y => ⟨.inr, fun q => by rcases q with rfl | q; exact h; exact q⟩, by omega⟩
theorem put_new (S : List (BitVec 128)) (x : BitVec 128) (hS : S.Pairwise (fun a b => a.toNat < b.toNat)) (k : Nat) (hk : k ≤ S.length) (h1 : ∀ q ∈ S.drop k, x.toNat < q.toNat) (h2 : ∀ (h : 0 < k), (S[k - 1]'(by omega)).toNat < x.toNat) : PutS S x (S.take k ++ x :: S.drop k) := by
  refine ⟨?_, ?_, by simp; omega⟩
  · have hs : (S.take k ++ S.drop k).Pairwise (fun a b => a.toNat < b.toNat) := by rw [List.take_append_drop]; exact hS
    obtain ⟨p1, p2, p3⟩ := List.pairwise_append.mp hs
    have h3 : ∀ a ∈ S.take k, a.toNat < x.toNat := by
      intro a ha
      by_cases h0 : 0 < k
      · have h2 := h2 h0
        obtain ⟨i, hi, rfl⟩ := List.mem_iff_getElem.mp ha
        have hi' : i < k := by simp at hi; omega
        rw [List.getElem_take]
        by_cases e : i = k - 1
        · subst e; exact h2
        · have := List.pairwise_iff_getElem.mp hS i (k - 1) (by omega) (by omega) (by omega)
          omega
      · have : k = 0 := by omega
        subst this
        simp at ha
    refine List.pairwise_append.mpr ⟨p1, List.pairwise_cons.mpr ⟨h1, p2⟩, ?_⟩
    intro a ha b hb
    rcases List.mem_cons.mp hb with rfl | q
    · exact h3 a ha
    · exact p3 a ha b q
  · intro y
    have e : y ∈ S ↔ y ∈ S.take k ∨ y ∈ S.drop k := by rw [← List.mem_append, List.take_append_drop]
    rw [List.mem_append, List.mem_cons, e]
    constructor
    · rintro (q | q | q)
      · exact .inr (.inl q)
      · exact .inl q
      · exact .inr (.inr q)
    · rintro (q | q | q)
      · exact .inr (.inl q)
      · exact .inl q
      · exact .inr (.inr q)
end Go.Proofs.Ytnaghiipfgdimaa
/-
  What a call of package word's Text does.
-/
namespace Go.Proofs.Ytnaghiipfgdimaa
open Go.RowKit
set_option linter.unusedSimpArgs false
set_option linter.unusedVariables false

/-- The number of the digit at place k, and its sign. -/
def nib (x : BitVec 128) (k : Nat) : Nat := (lv (x >>> (124 - 4 * k))).toNat % 16
def chN (d : Nat) : Nat := if d < 10 then 48 + d else 87 + d
theorem nib_lt (x : BitVec 128) (k : Nat) : nib x k < 16 := Nat.mod_lt _ (by decide)
theorem and15 (x : BitVec 128) (k : Nat) : bits .and .u64 (lI (x >>> (124 - 4 * k))) 15 = ((nib x k : Nat) : Int) := by
  unfold lI nib
  have h : bits .and .u64 ((lv (x >>> (124 - 4 * k))).toNat : Int) 15 = (((lv (x >>> (124 - 4 * k))).toNat &&& 15 : Nat) : Int) := bits_and_u64_nat _ 15 (BitVec.isLt _) (by decide)
  rw [h]
  congr 1
  exact Nat.and_two_pow_sub_one_eq_mod _ 4
theorem dig_tab (d : Nat) (h : d < 16) : ((⟨#[48, 49, 50, 51, 52, 53, 54, 55, 56, 57, 97, 98, 99, 100, 101, 102]⟩ : ByteArray)[d]'h).toNat = chN d := by
  have all : ∀ j : Fin 16, ((⟨#[48, 49, 50, 51, 52, 53, 54, 55, 56, 57, 97, 98, 99, 100, 101, 102]⟩ : ByteArray)[j.val]'j.isLt).toNat = chN j.val := by decide
  exact all ⟨d, h⟩

theorem new_cell (W : World) (o : Obj) (cs : Array Value) (t : TypeId) (j : Nat) : ((W.alloc o).alloc (.cells cs t)).cell? ⟨W.heap.size + 1, j, none⟩ = cs[j]? := by
  have h : ((W.alloc o).alloc (.cells cs t)).heap[W.heap.size + 1]? = some (.cells cs t) := by
    show ((W.heap.push o).push (.cells cs t))[W.heap.size + 1]? = _
    rw [Array.getElem?_push, if_pos (by simp)]
  unfold World.cell?
  rw [h]
  simp
theorem new_frozen (W : World) (o : Obj) (cs : Array Value) (t : TypeId) (j : Nat) : ((W.alloc o).alloc (.cells cs t)).frozen? ⟨W.heap.size + 1, j, none⟩ = false := by
  simp [go_sem]

theorem set_same {W : World} {B k : Nat} {u v : Value} (h : W.cell? ⟨B, k, none⟩ = some u) : (W.setCell ⟨B, k, none⟩ v).cell? ⟨B, k, none⟩ = some v := by
  simp [go_sem, h]
theorem set_other {W : World} {B k j : Nat} {v : Value} (h : ¬ k = j) : (W.setCell ⟨B, k, none⟩ v).cell? ⟨B, j, none⟩ = W.cell? ⟨B, j, none⟩ := by
  simp [go_sem, h]
/-- The text of a word, as bytes. -/
def txtL (x : BitVec 128) : List Int := (List.range 32).map fun j => (chN (nib x j) : Int)
def txtW (x : BitVec 128) : ByteArray := (txtL x).foldl (fun r n => r.push (UInt8.ofNat n.toNat)) ByteArray.empty
end Go.Proofs.Ytnaghiipfgdimaa
/-
  What a call of the reference's Text does.
-/
namespace Go.Proofs.Ytnaghiipfgdimaa
open Go.RowKit
set_option linter.unusedSimpArgs false
set_option linter.unusedVariables false

theorem bit_div (x : BitVec 128) (i : Int) (d : Nat) (h : i = 127 - (d : Int)) (hd : d ≤ 127) : bitZ x i = ((x.toNat / 2 ^ d % 2 : Nat) : Int) := by
  unfold bitZ
  rw [bitB_in x i (by omega) (by omega), show (127 - i).toNat = d from by omega]
  unfold BitVec.getLsbD
  rw [Nat.testBit_eq_decide_div_mod_eq]
  have : x.toNat / 2 ^ d % 2 = 0 ∨ x.toNat / 2 ^ d % 2 = 1 := by omega
  rcases this with e | e <;> simp [e]
theorem nib_div (x : BitVec 128) (k : Nat) : nib x k = x.toNat / 2 ^ (124 - 4 * k) % 16 := by
  unfold nib
  rw [lvN, BitVec.toNat_ushiftRight, Nat.shiftRight_eq_div_pow]
  omega
theorem nib_bits (x : BitVec 128) (k : Nat) (h : k < 32) : 8 * bitZ x (4 * (k : Int)) + 4 * bitZ x (4 * (k : Int) + 1) + 2 * bitZ x (4 * (k : Int) + 2) + bitZ x (4 * (k : Int) + 3) = ((nib x k : Nat) : Int) := by
  rw [bit_div x (4 * (k : Int)) (124 - 4 * k + 3) (by omega) (by omega), bit_div x (4 * (k : Int) + 1) (124 - 4 * k + 2) (by omega) (by omega), bit_div x (4 * (k : Int) + 2) (124 - 4 * k + 1) (by omega) (by omega), bit_div x (4 * (k : Int) + 3) (124 - 4 * k) (by omega) (by omega), nib_div]
  rw [Nat.pow_add, Nat.pow_add, Nat.pow_add, ← Nat.div_div_eq_div_mul, ← Nat.div_div_eq_div_mul, ← Nat.div_div_eq_div_mul]
  generalize x.toNat / 2 ^ (124 - 4 * k) = m
  omega

/-- The first k signs, as cells. -/
def cellsT (x : BitVec 128) (k : Nat) : List Value := (List.range k).map fun j => Value.int .u8 (chN (nib x j) : Int)
theorem cellsT_succ (x : BitVec 128) (k : Nat) : cellsT x (k + 1) = cellsT x k ++ [Value.int .u8 (chN (nib x k) : Int)] := by
  unfold cellsT; rw [List.range_succ]; simp
theorem cellsT_get (x : BitVec 128) (k j : Nat) (h : j < k) : (cellsT x k)[j]? = some (.int .u8 (chN (nib x j) : Int)) := by
  unfold cellsT
  simp [h]

theorem own_below {base e size n : Nat} {v : Value} {xs : List Value} {W w' : World} (hb : Below W.heap.size W w') (h : W.ownsRow base e size v n xs) : w'.ownsRow base e size v n xs := by
  refine h.kept (row := none) ⟨hb.os, hb.tape, hb.output, hb.size, fun k hk _ => hb.block k hk⟩ ?_
  cases v.ownBlock with
  | none => exact Or.inl rfl
  | some a => exact Or.inr (by simp)

theorem app_keep {w W w1 : World} {x : BitVec 128} {e size n : Nat} {v : Value} {xs : List Value} (o : W.ownsRow (w.heap.size + 1) e size v n xs) (g : W.grownBy w1 v.ownBlock)
    (k1 : W.cell? ⟨w.heap.size, 0, none⟩ = some (.int .u64 (hI x))) (k2 : W.cell? ⟨w.heap.size, 1, none⟩ = some (.int .u64 (lI x))) (k9 : Below w.heap.size w W) :
    w1.cell? ⟨w.heap.size, 0, none⟩ = some (.int .u64 (hI x)) ∧ w1.cell? ⟨w.heap.size, 1, none⟩ = some (.int .u64 (lI x)) ∧ Below w.heap.size w w1 := by
  have hne : some w.heap.size ≠ v.ownBlock := by
    intro h
    have := (o.lt _ h.symm).1
    omega
  refine ⟨g.cell k1 hne, g.cell k2 hne, k9.grown g k9.size ?_⟩
  intro j hj
  have := (o.lt _ hj).1
  omega
theorem al_keep {w W : World} {x : BitVec 128} (o : Obj)
    (k1 : W.cell? ⟨w.heap.size, 0, none⟩ = some (.int .u64 (hI x))) (k2 : W.cell? ⟨w.heap.size, 1, none⟩ = some (.int .u64 (lI x))) (k9 : Below w.heap.size w W) :
    (W.alloc o).cell? ⟨w.heap.size, 0, none⟩ = some (.int .u64 (hI x)) ∧ (W.alloc o).cell? ⟨w.heap.size, 1, none⟩ = some (.int .u64 (lI x)) ∧ Below w.heap.size w (W.alloc o) :=
  ⟨keepc (bl1 W o) k1, keepc (bl1 W o) k2, keepb (bl1 W o) k9⟩
theorem Try.infoB : (Try.prog.info? 5).map (fun i => (i.zero, i.size, i.bytes)) = some (some (.int .u8 0), 1, 1) := by kernel_rfl
end Go.Proofs.Ytnaghiipfgdimaa
/-
  What the call of turnpikeref6's put does.
-/
namespace Go.Proofs.Ytnaghiipfgdimaa
open Go.RowKit
set_option linter.unusedSimpArgs false
set_option linter.unusedVariables false

def CW (w4 : World) (g o b : Nat) (qx x : BitVec 128) (W : World) : Prop := (W.cell? ⟨g, o, none⟩ = some (.int .u64 (hI qx)) ∧ W.cell? ⟨g, o + 1, none⟩ = some (.int .u64 (lI qx))) ∧ (W.cell? ⟨b, 0, none⟩ = some (.int .u64 (hI x)) ∧ W.cell? ⟨b, 1, none⟩ = some (.int .u64 (lI x))) ∧ Below w4.heap.size w4 W
theorem CW.below {w4 W W' : World} {g o b : Nat} {qx x : BitVec 128} (h : CW w4 g o b qx x W) (hb : Below W.heap.size W W') : CW w4 g o b qx x W' := ⟨⟨keepc hb h.1.1, keepc hb h.1.2⟩, ⟨keepc hb h.2.1.1, keepc hb h.2.1.2⟩, keepb hb h.2.2⟩
theorem CW.drew {w4 W : World} {g o b : Nat} {qx x : BitVec 128} (h : CW w4 g o b qx x W) : CW w4 g o b qx x W.drew := h.below (below_drewN (Below.refl _ _) 1)
theorem stopHereW {P : Program} {w : World} {ops : Array Oper} {rest : List Oper} {a : Act} {Q : Exit → Act → World → Prop} {o : Oper} (h : Hid (wpList P ops Q (o :: rest) a w)) : wpList P ops Q (o :: rest) a w := h.out
theorem grown_set2 {w W : World} {r : Option Nat} {g : Nat} (h : w.grownBy W r) (hg : r = some g ∨ w.heap.size ≤ g) (i j : Nat) (u v : Value) : w.grownBy ((W.setCell ⟨g, i, none⟩ u).setCell ⟨g, j, none⟩ v) r := by
  have b : Below 0 W ((W.setCell ⟨g, i, none⟩ u).setCell ⟨g, j, none⟩ v) := ((Below.refl _ _).setCell (Nat.zero_le _) u).setCell (Nat.zero_le _) v
  refine ⟨by rw [b.os, h.os], by rw [b.tape, h.tape], by rw [b.output, h.output], Nat.le_trans h.size b.size, fun z h1 h2 => ?_⟩
  have hne : ¬ z = g := by
    rintro rfl
    rcases hg with q | q
    · exact h2 q.symm
    · omega
  rw [hSet _ hne, hSet _ hne, h.block z h1 h2]
theorem below_grown {w W : World} {r : Option Nat} (h : Below w.heap.size w W) : w.grownBy W r := ⟨h.os, h.tape, h.output, h.size, fun z h1 _ => h.block z h1⟩
end Go.Proofs.Ytnaghiipfgdimaa
/-
  What the calls of turnpikeref2's Next and Prev do.
-/
namespace Go.Proofs.Ytnaghiipfgdimaa
open Go.RowKit
set_option linter.unusedSimpArgs false
set_option linter.unusedVariables false

end Go.Proofs.Ytnaghiipfgdimaa
/-
  What the calls of turnpikeref2's Next and Prev do where there is none, and of Prev.
-/
namespace Go.Proofs.Ytnaghiipfgdimaa
open Go.RowKit
set_option linter.unusedSimpArgs false
set_option linter.unusedVariables false

end Go.Proofs.Ytnaghiipfgdimaa
/-
  What the calls of turnpikeref2's Next and Prev do, of any word.
-/
namespace Go.Proofs.Ytnaghiipfgdimaa
open Go.RowKit
set_option linter.unusedSimpArgs false
set_option linter.unusedVariables false

end Go.Proofs.Ytnaghiipfgdimaa
/-
  What the call of turnpikeref6's edges does.
-/
namespace Go.Proofs.Ytnaghiipfgdimaa
open Go.RowKit
set_option linter.unusedSimpArgs false
set_option linter.unusedVariables false

/-- Words in order with 0 and both ends of each route. -/
def EdS (F : Int) (S : List (BitVec 128)) (l : List Rte) (T : List (BitVec 128)) : Prop := T.Pairwise (fun a b => a.toNat < b.toNat) ∧ (∀ y, y ∈ T ↔ (y ∈ S ∨ y = 0#128 ∨ ∃ r ∈ l, y = r.1.1 ∨ (nextB F (lastW F r.1.1 r.1.2) = true ∧ y = nextV F (lastW F r.1.1 r.1.2)))) ∧ T.length ≤ S.length + 1 + 2 * l.length
theorem eds_zero (F : Int) (S T : List (BitVec 128)) (h : PutS S 0#128 T) : EdS F S [] T := by
  refine ⟨h.1, fun y => ?_, by have := h.2.2; simp; omega⟩
  rw [h.2.1 y]
  constructor
  · rintro (q | q)
    · exact .inr (.inl q)
    · exact .inl q
  · rintro (q | q | ⟨r, hr, -⟩)
    · exact .inr q
    · exact .inl q
    · cases hr
/-- One route more: its first address, and the one behind its last. -/
theorem eds_one (F : Int) (S : List (BitVec 128)) (l : List Rte) (r : Rte) (T0 T1 : List (BitVec 128)) (h : EdS F S l T0) (h1 : PutS T0 r.1.1 T1) :
    (nextB F (lastW F r.1.1 r.1.2) = true → ∀ T2, PutS T1 (nextV F (lastW F r.1.1 r.1.2)) T2 → EdS F S (l ++ [r]) T2) ∧ (nextB F (lastW F r.1.1 r.1.2) = false → EdS F S (l ++ [r]) T1) := by
  constructor
  · intro hb T2 h2
    refine ⟨h2.1, fun y => ?_, by have := h.2.2; have := h1.2.2; have := h2.2.2; simp; omega⟩
    rw [h2.2.1 y, h1.2.1 y, h.2.1 y]
    constructor
    · rintro (q | q | q | q | ⟨r', hr, q⟩)
      · exact .inr (.inr ⟨r, by simp, .inr ⟨hb, q⟩⟩)
      · exact .inr (.inr ⟨r, by simp, .inl q⟩)
      · exact .inl q
      · exact .inr (.inl q)
      · exact .inr (.inr ⟨r', List.mem_append_left _ hr, q⟩)
    · rintro (q | q | ⟨r', hr, q⟩)
      · exact .inr (.inr (.inl q))
      · exact .inr (.inr (.inr (.inl q)))
      · rcases List.mem_append.mp hr with hr | hr
        · exact .inr (.inr (.inr (.inr ⟨r', hr, q⟩)))
        · have : r' = r := by simpa using hr
          subst this
          rcases q with q | ⟨-, q⟩
          · exact .inr (.inl q)
          · exact .inl q
  · intro hb
    refine ⟨h1.1, fun y => ?_, by have := h.2.2; have := h1.2.2; simp; omega⟩
    rw [h1.2.1 y, h.2.1 y]
    constructor
    · rintro (q | q | q | ⟨r', hr, q⟩)
      · exact .inr (.inr ⟨r, by simp, .inl q⟩)
      · exact .inl q
      · exact .inr (.inl q)
      · exact .inr (.inr ⟨r', List.mem_append_left _ hr, q⟩)
    · rintro (q | q | ⟨r', hr, q⟩)
      · exact .inr (.inl q)
      · exact .inr (.inr (.inl q))
      · rcases List.mem_append.mp hr with hr | hr
        · exact .inr (.inr (.inr ⟨r', hr, q⟩))
        · have : r' = r := by simpa using hr
          subst this
          rcases q with q | ⟨q, -⟩
          · exact .inl q
          · rw [hb] at q; cases q
/-- What is known between two calls of put. -/
structure EgI (w0 w : World) (lv : Value) (F : Int) (v rv : Value) (T : List (BitVec 128)) (W : World) : Prop where
  own : W.ownsRow w0.heap.size 36 2 rv T.length (rowW T)
  t : AtU W w.heap.size F v
  gr : w.grownBy W lv.ownBlock
  ob : ∀ z, rv.ownBlock = some z → lv.ownBlock = some z ∨ w.heap.size + 1 ≤ z
  ol : ∀ z, lv.ownBlock = some z → w0.heap.size ≤ z ∧ z < w.heap.size
  bel : Below w0.heap.size w0 W
  b0 : w0.heap.size ≤ w.heap.size
theorem EgI.bs {w0 w : World} {lv : Value} {F : Int} {v rv : Value} {T : List (BitVec 128)} {W : World} (k : EgI w0 w lv F v rv T W) : w0.heap.size ≤ W.heap.size := k.bel.size
theorem EgI.below {w0 w : World} {lv : Value} {F : Int} {v rv : Value} {T : List (BitVec 128)} {W W' : World} (k : EgI w0 w lv F v rv T W) (hb : Below W.heap.size W W') : EgI w0 w lv F v rv T W' :=
  ⟨own_below hb k.own, k.t.heap (hb.block _ k.t.lt), k.gr.trans (below_grown hb), k.ob, k.ol, keepb hb k.bel, k.b0⟩
theorem EgI.put {w0 w : World} {lv : Value} {F : Int} {v rv rv' : Value} {T T' : List (BitVec 128)} {W W' : World} (k : EgI w0 w lv F v rv T W) (h : PtO w0.heap.size rv T' W rv' W') : EgI w0 w lv F v rv' T' W' := by
  obtain ⟨h1, h2, h3⟩ := h
  have hT := k.t.lt
  refine ⟨h1, k.t.heap (h2.block _ hT (fun e => ?_)), ⟨by rw [h2.os, k.gr.os], by rw [h2.tape, k.gr.tape], by rw [h2.output, k.gr.output], Nat.le_trans k.gr.size h2.size, fun z q1 q2 => ?_⟩, fun z e => ?_, k.ol, k.bel.grown h2 k.bel.size (fun z e => (k.own.lt z e).1), k.b0⟩
  · rcases k.ob _ e.symm with q | q
    · have := (k.ol _ q).2; omega
    · omega
  · rw [h2.block z (by have := k.gr.size; omega) (fun e => ?_), k.gr.block z q1 q2]
    rcases k.ob z e.symm with q | q
    · exact q2 q.symm
    · omega
  · rcases h3 z e with q | q
    · exact k.ob z q
    · exact .inr (by omega)
theorem EgI.set2 {w0 w : World} {lv : Value} {F : Int} {v rv : Value} {T : List (BitVec 128)} {W : World} (k : EgI w0 w lv F v rv T W) {M : Nat} (hM : w.heap.size + 1 ≤ M) (hne : rv.ownBlock ≠ some M) (a b : Value) : EgI w0 w lv F v rv T ((W.setCell ⟨M, 0, none⟩ a).setCell ⟨M, 1, none⟩ b) := by
  have b0 := k.b0
  refine ⟨own_heap k.own (fun g e => ?_), k.t.heap (by rw [hSet _ (by omega), hSet _ (by omega)]), grown_set2 k.gr (.inr (by omega)) _ _ _ _, k.ob, k.ol, bset2 k.bel (by omega) _ _, k.b0⟩
  have : ¬ g = M := fun q => hne (by rw [e, q])
  rw [hSet _ this, hSet _ this]
/-- The same, with the prefix that is asked. -/
def EgD (w0 w : World) (lv : Value) (F : Int) (v rv : Value) (T : List (BitVec 128)) (px : BitVec 128) (pn : Int) (N : Nat) (W : World) : Prop := EgI w0 w lv F v rv T W ∧ AtP W N px pn ∧ w.heap.size < N ∧ N < W.heap.size
theorem EgD.below {w0 w : World} {lv : Value} {F : Int} {v rv : Value} {T : List (BitVec 128)} {px : BitVec 128} {pn : Int} {N : Nat} {W W' : World} (k : EgD w0 w lv F v rv T px pn N W) (hb : Below W.heap.size W W') : EgD w0 w lv F v rv T px pn N W' := ⟨k.1.below hb, k.2.1.below hb, k.2.2.1, Nat.lt_of_lt_of_le k.2.2.2 hb.size⟩
theorem EgD.drew {w0 w : World} {lv : Value} {F : Int} {v rv : Value} {T : List (BitVec 128)} {px : BitVec 128} {pn : Int} {N : Nat} {W : World} (k : EgD w0 w lv F v rv T px pn N W) : EgD w0 w lv F v rv T px pn N W.drew := k.below (below_drewN (Below.refl _ _) 1)
theorem AtP.heapE {W W' : World} {B : Nat} {x : BitVec 128} {n : Int} (k : AtP W B x n) (e : W'.heap[B]? = W.heap[B]?) : AtP W' B x n := by
  obtain ⟨h0, h1, h2, f0, f1, f2⟩ := k
  exact ⟨by rw [cellH e]; exact h0, by rw [cellH e]; exact h1, by rw [cellH e]; exact h2, by rw [frozH e]; exact f0, by rw [frozH e]; exact f1, by rw [frozH e]; exact f2⟩
theorem EgD.set2 {w0 w : World} {lv : Value} {F : Int} {v rv : Value} {T : List (BitVec 128)} {px : BitVec 128} {pn : Int} {N : Nat} {W : World} (k : EgD w0 w lv F v rv T px pn N W) {M : Nat} (hM : N < M) (hne : rv.ownBlock ≠ some M) (a b : Value) : EgD w0 w lv F v rv T px pn N ((W.setCell ⟨M, 0, none⟩ a).setCell ⟨M, 1, none⟩ b) := by
  have h1 := k.2.2.1
  refine ⟨k.1.set2 (by omega) hne a b, k.2.1.heapE (by rw [hSet _ (by omega), hSet _ (by omega)]), h1, ?_⟩
  have := (bset2 (C := M) (Below.refl 0 W) (Nat.zero_le _) a b).size
  have := k.2.2.2
  omega
theorem at_zeroE (W : World) : At (W.alloc (.cells #[.int .u64 0, .int .u64 0] 36)) W.heap.size 0#128 := by
  have := at_new W W.heap.size 0#128 36 rfl
  rwa [hI_zero, lI_zero] at this
theorem At.setE {W : World} {B : Nat} {x : BitVec 128} (k : At W B x) (y : BitVec 128) : At ((W.setCell ⟨B, 0, none⟩ (.int .u64 (hI y))).setCell ⟨B, 1, none⟩ (.int .u64 (lI y))) B y := by
  obtain ⟨c0, c1, f0, f1, h⟩ := k
  refine ⟨?_, ?_, ?_, ?_, ?_⟩ <;> simp [go_sem, c0, c1, f0, f1, h]
end Go.Proofs.Ytnaghiipfgdimaa
/-
  What the call of the law's SameSegs (of two that are the same) does.
-/
namespace Go.Proofs.Ytnaghiipfgdimaa
open Go.RowKit
set_option linter.unusedSimpArgs false
set_option linter.unusedVariables false

end Go.Proofs.Ytnaghiipfgdimaa
