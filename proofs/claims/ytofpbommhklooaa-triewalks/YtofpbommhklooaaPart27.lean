/-
  Part 27 of the proof: 7 texts, one behind the other.
-/
import Derived.Test.YtofpbommhklooaaPart7
import Derived.Test.YtofpbommhklooaaPart2
import Derived.Test.YtofpbommhklooaaPart11
import Derived.Test.YtofpbommhklooaaPart9
import Derived.Deep.AppendLies
import Derived.Test.YtofpbommhklooaaPart10
import Derived.Test.YtofpbommhklooaaPart23
import Derived.Test.YtofpbommhklooaaPart3
import Derived.Laws.CopyRow
/-
  Rows in memory, whosever they are (Rws0), beside the prefixes.
-/
/-
  Segments in memory, with their next hops; rows of them; what is told of a list of them.
-/
namespace Go.Proofs.Ytofpbommhklooaa
open Go.RowKit
set_option linter.unusedSimpArgs false
set_option linter.unusedVariables false

/-- A segment: its first, its last address, its next hop. -/
abbrev Sg := (BitVec 128 × BitVec 128) × Int
/-- A segment in memory. -/
def AtG (w : World) (B : Nat) (x y : BitVec 128) (h : Int) : Prop := w.cell? ⟨B, 0, none⟩ = some (.int .u64 (hI x)) ∧ w.cell? ⟨B, 1, none⟩ = some (.int .u64 (lI x)) ∧ w.cell? ⟨B, 2, none⟩ = some (.int .u64 (hI y)) ∧ w.cell? ⟨B, 3, none⟩ = some (.int .u64 (lI y)) ∧ w.cell? ⟨B, 4, none⟩ = some (.int .i64 h) ∧ w.frozen? ⟨B, 0, none⟩ = false ∧ w.frozen? ⟨B, 1, none⟩ = false ∧ w.frozen? ⟨B, 2, none⟩ = false ∧ w.frozen? ⟨B, 3, none⟩ = false ∧ w.frozen? ⟨B, 4, none⟩ = false
theorem AtG.below {w w' : World} {B : Nat} {x y : BitVec 128} {h : Int} (g : AtG w B x y h) (hb : Below w.heap.size w w') : AtG w' B x y h := by
  obtain ⟨a0, a1, a2, a3, a4, b0, b1, b2, b3, b4⟩ := g
  exact ⟨keepc hb a0, keepc hb a1, keepc hb a2, keepc hb a3, keepc hb a4, keepf hb a0 b0, keepf hb a1 b1, keepf hb a2 b2, keepf hb a3 b3, keepf hb a4 b4⟩
theorem atg_new (w : World) (B : Nat) (x y : BitVec 128) (h : Int) (T : TypeId) (e : B = w.heap.size) : AtG (w.alloc (.cells #[.int .u64 (hI x), .int .u64 (lI x), .int .u64 (hI y), .int .u64 (lI y), .int .i64 h] T)) B x y h := by
  subst e
  refine ⟨?_, ?_, ?_, ?_, ?_, ?_, ?_, ?_, ?_, ?_⟩ <;> simp [go_sem]
theorem AtG.lt {W : World} {B : Nat} {x y : BitVec 128} {h : Int} (g : AtG W B x y h) : B < W.heap.size := cell_in g.1
def rowG : List Sg → List Value
  | [] => []
  | p :: l => .int .u64 (hI p.1.1) :: .int .u64 (lI p.1.1) :: .int .u64 (hI p.1.2) :: .int .u64 (lI p.1.2) :: .int .i64 p.2 :: rowG l
theorem rowG_app : ∀ l m, rowG (l ++ m) = rowG l ++ rowG m := by
  intro l
  induction l with
  | nil => intro m; rfl
  | cons p l ih => intro m; simp [rowG, ih]
theorem rowG_one (l : List Sg) (x y : BitVec 128) (h : Int) : rowG (l ++ [((x, y), h)]) = rowG l ++ [.int .u64 (hI x), .int .u64 (lI x), .int .u64 (hI y), .int .u64 (lI y), .int .i64 h] := by rw [rowG_app]; rfl
theorem rowG_len : ∀ l, (rowG l).length = l.length * 5 := by
  intro l
  induction l with
  | nil => rfl
  | cons p l ih => simp only [rowG, List.length_cons, ih]; omega
theorem rowG_cell (l : List Sg) : ∀ u ∈ rowG l, u.oneCell' = true := by
  induction l with
  | nil => intro u hu; cases hu
  | cons p l ih =>
    intro u hu
    simp only [rowG, List.mem_cons] at hu
    rcases hu with rfl | rfl | rfl | rfl | rfl | hu
    all_goals first | rfl | exact ih u hu
theorem rowG_get : ∀ (l : List Sg) (j : Nat) (hj : j < l.length), (rowG l)[j * 5]? = some (.int .u64 (hI l[j].1.1)) ∧ (rowG l)[j * 5 + 1]? = some (.int .u64 (lI l[j].1.1)) ∧ (rowG l)[j * 5 + 2]? = some (.int .u64 (hI l[j].1.2)) ∧ (rowG l)[j * 5 + 3]? = some (.int .u64 (lI l[j].1.2)) ∧ (rowG l)[j * 5 + 4]? = some (.int .i64 l[j].2) := by
  intro l
  induction l with
  | nil => intro j hj; simp at hj
  | cons p l ih =>
    intro j hj
    cases j with
    | zero => simp [rowG]
    | succ j =>
      have := ih j (by simpa using hj)
      rw [show (j + 1) * 5 = j * 5 + 5 by omega, show j * 5 + 5 + 1 = j * 5 + 1 + 5 by omega, show j * 5 + 5 + 2 = j * 5 + 2 + 5 by omega, show j * 5 + 5 + 3 = j * 5 + 3 + 5 by omega, show j * 5 + 5 + 4 = j * 5 + 4 + 5 by omega]
      simpa [rowG] using this
theorem rwg_cells {W : World} {b off : Nat} {l : List Sg} (h : ∀ j u, (rowG l)[j]? = some u → W.cell? ⟨b, off + j, none⟩ = some u) (k : Nat) (hk : k < l.length) :
    W.cell? ⟨b, off + k * 5, none⟩ = some (.int .u64 (hI l[k].1.1)) ∧ W.cell? ⟨b, off + k * 5 + 1, none⟩ = some (.int .u64 (lI l[k].1.1)) ∧ W.cell? ⟨b, off + k * 5 + 2, none⟩ = some (.int .u64 (hI l[k].1.2)) ∧ W.cell? ⟨b, off + k * 5 + 3, none⟩ = some (.int .u64 (lI l[k].1.2)) ∧ W.cell? ⟨b, off + k * 5 + 4, none⟩ = some (.int .i64 l[k].2) := by
  obtain ⟨a0, a1, a2, a3, a4⟩ := rowG_get l k hk
  exact ⟨h _ _ a0, h _ _ a1, h _ _ a2, h _ _ a3, h _ _ a4⟩
theorem newsG (W : World) (a b c d e : Value) (t : TypeId) : ∀ j u, [a, b, c, d, e][j]? = some u → (W.alloc (.cells #[a, b, c, d, e] t)).cell? ((⟨W.heap.size, 0, none⟩ : Addr).add j) = some u := by
  intro j u hj
  match j, hj with
  | 0, hj => simp at hj; subst hj; simp [Addr.add, go_sem]
  | 1, hj => simp at hj; subst hj; simp [Addr.add, go_sem]
  | 2, hj => simp at hj; subst hj; simp [Addr.add, go_sem]
  | 3, hj => simp at hj; subst hj; simp [Addr.add, go_sem]
  | 4, hj => simp at hj; subst hj; simp [Addr.add, go_sem]
theorem fiveG (a b c d e : Int) : ∀ u ∈ [Value.int .u64 a, Value.int .u64 b, Value.int .u64 c, Value.int .u64 d, Value.int .i64 e], u.oneCell' = true := by
  intro u hu; simp at hu; rcases hu with rfl | rfl | rfl | rfl | rfl <;> rfl
/-- A list of segments in memory, whosever it is. -/
def RwG (W : World) (v : Value) (l : List Sg) : Prop := ∃ ao c, v = .slice ao l.length c ∧ (l = [] ∨ ∃ b off, ao = some ⟨b, off, none⟩ ∧ ∀ j u, (rowG l)[j]? = some u → W.cell? ⟨b, off + j, none⟩ = some u)
theorem RwG.below {W W' : World} {v : Value} {l : List Sg} (h : RwG W v l) (hb : Below W.heap.size W W') : RwG W' v l := by
  obtain ⟨ao, c, e, h⟩ := h
  refine ⟨ao, c, e, h.imp id ?_⟩
  rintro ⟨b, off, e', hc⟩
  exact ⟨b, off, e', fun j u hj => keepc hb (hc j u hj)⟩
theorem row_rwg {W : World} {v : Value} {l : List Sg} (h : Row W 5 v l.length (rowG l)) : RwG W v l := by
  obtain ⟨-, ao, c, e, -, h⟩ := h
  refine ⟨ao, c, e, ?_⟩
  rcases h with ⟨-, -, h⟩ | h
  · exact .inl (List.length_eq_zero_iff.mp h)
  · exact .inr h
/-- The error of one segment. -/
def sgE (F : Int) (s : Sg) : Int := if rightE F s.1.1 = 0 then (if rightE F s.1.2 = 0 then (if s.2 < 0 then 15 else if 65535 < s.2 then 15 else if cmpZ s.1.2 s.1.1 < 0 then 19 else 0) else 6) else 6
def moO (F : Int) : Option Sg → Bool
  | none => true
  | some s => nextB F s.1.2
def nxO (F : Int) : Option Sg → BitVec 128
  | none => 0#128
  | some s => nextV F s.1.2
/-- The error of segments behind one, or behind none. -/
def sgsGo (F : Int) : Option Sg → List Sg → Int
  | p, [] => if moO F p = true then 19 else 0
  | p, s :: l => if sgE F s = 0 then (if moO F p = true then (if (s.1.1 == nxO F p) = true then (if p.map (·.2) = some s.2 then 19 else sgsGo F (some s) l) else 19) else 19) else sgE F s
def sgsE (F : Int) (l : List Sg) : Int := if fam F = true then (if l = [] then 2 else sgsGo F none l) else 11
end Go.Proofs.Ytofpbommhklooaa
/-
  What lies in one block of memory goes by that block alone.
-/
namespace Go.Proofs.Ytofpbommhklooaa
open Go.RowKit
set_option linter.unusedSimpArgs false
set_option linter.unusedVariables false

theorem cellH {W W' : World} {B : Nat} (e : W'.heap[B]? = W.heap[B]?) (o : Nat) : W'.cell? ⟨B, o, none⟩ = W.cell? ⟨B, o, none⟩ := World.cell?_of_block (w := W) (a := ⟨B, o, none⟩) e
theorem frozH {W W' : World} {B : Nat} (e : W'.heap[B]? = W.heap[B]?) (o : Nat) : W'.frozen? ⟨B, o, none⟩ = W.frozen? ⟨B, o, none⟩ := World.frozen?_of_block (w := W) (a := ⟨B, o, none⟩) e
theorem AtG.heap {W W' : World} {B : Nat} {x y : BitVec 128} {h : Int} (k : AtG W B x y h) (e : W'.heap[B]? = W.heap[B]?) : AtG W' B x y h := by
  unfold AtG at *
  simpa only [cellH e, frozH e] using k
theorem At.heap {W W' : World} {B : Nat} {x : BitVec 128} (k : At W B x) (e : W'.heap[B]? = W.heap[B]?) (hs : W.heap.size ≤ W'.heap.size) : At W' B x := by
  unfold At at *
  simp only [cellH e, frozH e]
  exact ⟨k.1, k.2.1, k.2.2.1, k.2.2.2.1, by omega⟩
theorem AtR.heap {W W' : World} {B : Nat} {x : BitVec 128} {n h : Int} (k : AtR W B x n h) (e : W'.heap[B]? = W.heap[B]?) : AtR W' B x n h := by
  unfold AtR at *
  simpa only [cellH e] using k
/-- A table in memory, which may be written. -/
def AtU (W : World) (B : Nat) (F : Int) (v : Value) : Prop := W.cell? ⟨B, 0, none⟩ = some (.int .i64 F) ∧ W.cell? ⟨B, 1, none⟩ = some v ∧ W.frozen? ⟨B, 0, none⟩ = false ∧ W.frozen? ⟨B, 1, none⟩ = false
theorem AtU.heap {W W' : World} {B : Nat} {F : Int} {v : Value} (k : AtU W B F v) (e : W'.heap[B]? = W.heap[B]?) : AtU W' B F v := by
  unfold AtU at *
  simpa only [cellH e, frozH e] using k
theorem AtU.lt {W : World} {B : Nat} {F : Int} {v : Value} (k : AtU W B F v) : B < W.heap.size := cell_in k.1
theorem AtU.set1 {W : World} {B : Nat} {F : Int} {v : Value} (k : AtU W B F v) (u : Value) : AtU (W.setCell ⟨B, 1, none⟩ u) B F u := by
  obtain ⟨a, b, c, d⟩ := k
  refine ⟨?_, ?_, ?_, ?_⟩ <;> simp [go_sem, *]
theorem AtU.set2 {W : World} {B : Nat} {F : Int} {v : Value} (k : AtU W B F v) (G : Int) (u : Value) : AtU ((W.setCell ⟨B, 0, none⟩ (.int .i64 G)).setCell ⟨B, 1, none⟩ u) B G u := by
  obtain ⟨a, b, c, d⟩ := k
  refine ⟨?_, ?_, ?_, ?_⟩ <;> simp [go_sem, *]
theorem atu_new (W : World) (B : Nat) (F : Int) (v : Value) (T : TypeId) (e : B = W.heap.size) : AtU (W.alloc (.cells #[.int .i64 F, v] T)) B F v := by
  subst e
  refine ⟨?_, ?_, ?_, ?_⟩ <;> simp [go_sem]
theorem own_heap {W W' : World} {base e size n : Nat} {v : Value} {xs : List Value} (h : W.ownsRow base e size v n xs) (he : ∀ g, v.ownBlock = some g → W'.heap[g]? = W.heap[g]?) : W'.ownsRow base e size v n xs := by
  refine ⟨h.1, ?_⟩
  rcases h.2 with hn | ⟨g, cap, cur, rfl, hb, hg, rest⟩
  · exact .inl hn
  · exact .inr ⟨g, cap, cur, rfl, hb, by rw [he g rfl]; exact hg, rest⟩
theorem hAl {W : World} (o : Obj) {k : Nat} (h : k < W.heap.size) : (W.alloc o).heap[k]? = W.heap[k]? := Below.heap_alloc W o k h
theorem hSet {W : World} {b o : Nat} (u : Value) {k : Nat} (h : ¬ k = b) : (W.setCell ⟨b, o, none⟩ u).heap[k]? = W.heap[k]? := Below.heap_setCell W ⟨b, o, none⟩ u k h
theorem own_lt {W : World} {base e size n : Nat} {v : Value} {xs : List Value} (h : W.ownsRow base e size v n xs) {g : Nat} (e : v.ownBlock = some g) : base ≤ g ∧ g < W.heap.size := h.lt g e
theorem own_wide {w : World} {base base' e size n : Nat} {v : Value} {xs : List Value} (h : w.ownsRow base e size v n xs) (hb : base' ≤ base) : w.ownsRow base' e size v n xs := by
  refine ⟨h.1, ?_⟩
  rcases h.2 with hn | ⟨g, cap, cur, hv, h1, h2⟩
  · exact .inl hn
  · exact .inr ⟨g, cap, cur, hv, by omega, h2⟩
end Go.Proofs.Ytofpbommhklooaa
/-
  What a sweep through a table's routes tells, as a plain function.
-/
namespace Go.Proofs.Ytofpbommhklooaa
set_option linter.unusedSimpArgs false
set_option linter.unusedVariables false

/-- A segment behind those that are told; the last one stands first. -/
def behS : List Sg → Sg → List Sg
  | [], s => [s]
  | a :: st, s => if a.2 = s.2 then ((a.1.1, s.1.2), a.2) :: st else s :: a :: st
/-- The first address of which nothing is told, whether there is none, what is told. -/
abbrev T3 := BitVec 128 × Bool × List Sg
def tell3 (F : Int) (la : BitVec 128) (h : Int) (t : T3) : T3 := if t.2.1 = true then t else if cmpZ la t.1 < 0 then t else (nextV F la, !nextB F la, behS t.2.2 ((t.1, la), h))
def popO (r : Rte) : List Rte → List Rte
  | [] => []
  | o :: os => if withinB r.1.1 r.1.2 o.1.1 o.1.2 = true then o :: os else popO r os
def popT (F : Int) (r : Rte) : List Rte → T3 → T3
  | [], t => t
  | o :: os, t => if withinB r.1.1 r.1.2 o.1.1 o.1.2 = true then t else popT F r os (tell3 F (lastW F o.1.1 o.1.2) o.2 t)
def entT (F : Int) (r : Rte) (h : Int) (t : T3) : T3 := if prevB F r.1.1 = true then tell3 F (prevV F r.1.1) h t else t
def endT (F : Int) : List Rte → T3 → T3
  | [], t => t
  | o :: os, t => endT F os (tell3 F (lastW F o.1.1 o.1.2) o.2 t)
def hopO : List Rte → Int
  | [] => 0
  | o :: _ => o.2
def swpGo (F : Int) : List Rte → T3 → List Rte → T3
  | op, t, [] => endT F op t
  | op, t, r :: l => swpGo F (r :: popO r op) (entT F r (hopO (popO r op)) (popT F r op t)) l
def op0 : List Rte := [((0#128, 0), 0)]
def t30 : T3 := (0#128, false, [])
def swp (F : Int) (l : List Rte) : List Sg := (swpGo F op0 t30 l).2.2.reverse
/-- The list of open routes ends with the one that has all addresses. -/
def Bot (op : List Rte) : Prop := ∃ os, op = os ++ op0
theorem Bot.ne {op : List Rte} (h : Bot op) : op ≠ [] := by obtain ⟨os, rfl⟩ := h; simp [op0]
theorem Bot.tl {o : Rte} {os : List Rte} (h : Bot (o :: os)) (r : Rte) (hr : 0 ≤ r.1.2) (hw : ¬ withinB r.1.1 r.1.2 o.1.1 o.1.2 = true) : Bot os := by
  obtain ⟨l, e⟩ := h
  cases l with
  | nil =>
    exfalso
    have e : o = ((0#128, 0), 0) := by have := List.cons.inj e; exact this.1
    subst e
    apply hw
    unfold withinB
    simp [hr, cutW, show maskW 0 = 0#128 by decide]
  | cons a l =>
    have := List.cons.inj e
    exact ⟨l, this.2⟩
theorem Bot.pop (r : Rte) (hr : 0 ≤ r.1.2) : ∀ op : List Rte, Bot op → Bot (popO r op)
  | [], h => h
  | o :: os, h => by
    rw [popO]
    split
    · exact h
    · rename_i hw; exact Bot.pop r hr os (h.tl r hr hw)
theorem behS_len (st : List Sg) (s : Sg) : (behS st s).length ≤ st.length + 1 := by
  cases st with
  | nil => simp [behS]
  | cons a st => simp only [behS]; split <;> simp
theorem tell3_len (F : Int) (la : BitVec 128) (h : Int) (t : T3) : (tell3 F la h t).2.2.length ≤ t.2.2.length + 1 := by
  unfold tell3
  split
  · omega
  · split
    · omega
    · exact behS_len _ _
theorem popT_len (F : Int) (r : Rte) : ∀ (op : List Rte) (t : T3), (popT F r op t).2.2.length + (popO r op).length ≤ t.2.2.length + op.length
  | [], t => by simp [popT, popO]
  | o :: os, t => by
    rw [popT, popO]
    split
    · simp
    · have h1 := popT_len F r os (tell3 F (lastW F o.1.1 o.1.2) o.2 t)
      have h2 := tell3_len F (lastW F o.1.1 o.1.2) o.2 t
      simp only [List.length_cons]
      omega
theorem entT_len (F : Int) (r : Rte) (h : Int) (t : T3) : (entT F r h t).2.2.length ≤ t.2.2.length + 1 := by
  unfold entT
  split
  · exact tell3_len _ _ _ _
  · omega
end Go.Proofs.Ytofpbommhklooaa
/-
  What the call of package algebra's behind does.
-/
namespace Go.Proofs.Ytofpbommhklooaa
open Go.RowKit
set_option linter.unusedSimpArgs false
set_option linter.unusedVariables false

theorem setG (A : List Value) (n : Nat) (hA : A.length = n * 5) (a b c d e u v : Value) : ((A ++ [a, b, c, d, e]).set (n * 5 + 2) u).set (n * 5 + 3) v = A ++ [a, b, u, v, e] := by
  rw [List.set_append, if_neg (by omega), hA, show n * 5 + 2 - n * 5 = 2 by omega, List.set_append, if_neg (by omega), hA, show n * 5 + 3 - n * 5 = 3 by omega]
  rfl
theorem own_cap6 {W : World} {base e size n g c : Nat} {xs : List Value} (h : W.ownsRow base e size (.slice (some ⟨g, 0, none⟩) n c) n xs) : n ≤ c := by
  rcases h.2 with ⟨e0, _⟩ | ⟨g', cap', cur, e0, hb, hg, hnc, hm, hs, ht⟩
  · cases e0
  · injection e0 with e1 _ e3
    omega
theorem ownR_cells6 {W : World} {base n g c : Nat} {l : List Rte} (h : W.ownsRow base 47 4 (.slice (some ⟨g, 0, none⟩) n c) n (rowR l)) (j : Nat) (hj : j < l.length) :
    W.cell? ⟨g, j * 4, none⟩ = some (.int .u64 (hI l[j].1.1)) ∧ W.cell? ⟨g, j * 4 + 1, none⟩ = some (.int .u64 (lI l[j].1.1)) ∧ W.cell? ⟨g, j * 4 + 2, none⟩ = some (.int .i64 l[j].1.2) ∧ W.cell? ⟨g, j * 4 + 3, none⟩ = some (.int .i64 l[j].2) := by
  obtain ⟨a0, a1, a2, a3⟩ := rowR_get l j hj
  have f := fun k u => h.cells (g := g) rfl k u
  exact ⟨by have := f _ _ a0; rwa [addA, Nat.zero_add] at this, by have := f _ _ a1; rwa [addA, Nat.zero_add] at this, by have := f _ _ a2; rwa [addA, Nat.zero_add] at this, by have := f _ _ a3; rwa [addA, Nat.zero_add] at this⟩
theorem grown_drew6 (W : World) (n : Nat) (r : Option Nat) : W.grownBy (W.drewN n) r := ⟨rfl, rfl, rfl, Nat.le_refl _, fun _ _ _ => rfl⟩
theorem newsGB (W : World) (B : Nat) (hB : B = W.heap.size) (a b c d e : Value) (t : TypeId) : ∀ j u, [a, b, c, d, e][j]? = some u → (W.alloc (.cells #[a, b, c, d, e] t)).cell? ((⟨B, 0, none⟩ : Addr).add j) = some u := by
  subst hB
  exact newsG W a b c d e t
end Go.Proofs.Ytofpbommhklooaa
/-
  Rows of words in memory.
-/
namespace Go.Proofs.Ytofpbommhklooaa
open Go.RowKit
set_option linter.unusedSimpArgs false
set_option linter.unusedVariables false

def rowW : List (BitVec 128) → List Value
  | [] => []
  | x :: l => .int .u64 (hI x) :: .int .u64 (lI x) :: rowW l
theorem rowW_app : ∀ l m, rowW (l ++ m) = rowW l ++ rowW m := by
  intro l
  induction l with
  | nil => intro m; rfl
  | cons p l ih => intro m; simp [rowW, ih]
theorem rowW_one (l : List (BitVec 128)) (x : BitVec 128) : rowW (l ++ [x]) = rowW l ++ [.int .u64 (hI x), .int .u64 (lI x)] := by rw [rowW_app]; rfl
theorem rowW_len : ∀ l, (rowW l).length = l.length * 2 := by
  intro l
  induction l with
  | nil => rfl
  | cons p l ih => simp only [rowW, List.length_cons, ih]; omega
theorem rowW_get : ∀ (l : List (BitVec 128)) (j : Nat) (hj : j < l.length), (rowW l)[j * 2]? = some (.int .u64 (hI l[j])) ∧ (rowW l)[j * 2 + 1]? = some (.int .u64 (lI l[j])) := by
  intro l
  induction l with
  | nil => intro j hj; simp at hj
  | cons p l ih =>
    intro j hj
    cases j with
    | zero => simp [rowW]
    | succ j =>
      have := ih j (by simpa using hj)
      rw [show (j + 1) * 2 = j * 2 + 2 by omega, show j * 2 + 2 + 1 = j * 2 + 1 + 2 by omega]
      simpa [rowW] using this
theorem ownW_cells {W : World} {base n g c : Nat} {l : List (BitVec 128)} (h : W.ownsRow base 27 2 (.slice (some ⟨g, 0, none⟩) n c) n (rowW l)) (j : Nat) (hj : j < l.length) :
    W.cell? ⟨g, j * 2, none⟩ = some (.int .u64 (hI l[j])) ∧ W.cell? ⟨g, j * 2 + 1, none⟩ = some (.int .u64 (lI l[j])) := by
  obtain ⟨a, b⟩ := rowW_get l j hj
  have e : ∀ k, (⟨g, 0, none⟩ : Addr).add k = ⟨g, k, none⟩ := fun k => by unfold Addr.add; split <;> simp_all
  have f := fun k u => h.cells (g := g) rfl k u
  exact ⟨by have := f _ _ a; rwa [e] at this, by have := f _ _ b; rwa [e] at this⟩
theorem rowW_set (L : List (BitVec 128)) (k : Nat) (q : BitVec 128) : ((rowW L).set (k * 2) (.int .u64 (hI q))).set (k * 2 + 1) (.int .u64 (lI q)) = if k < L.length then rowW (L.set k q) else rowW L := by
  induction L generalizing k with
  | nil => simp [rowW]
  | cons p L ih =>
    cases k with
    | zero => simp [rowW]
    | succ k =>
      have := ih k
      rw [show (k + 1) * 2 = k * 2 + 1 + 1 by omega, show k * 2 + 1 + 1 + 1 = k * 2 + 1 + 1 + 1 by omega]
      simp only [rowW, List.set_cons_succ, List.length_cons, Nat.add_lt_add_iff_right]
      rw [this]
      split <;> rfl
theorem Try.infoWd : (Try.prog.info? 27).map (fun i => (i.zero, i.size, i.bytes)) = some (some (.agg #[.int .u64 0, .int .u64 0]), 2, 16) := by kernel_rfl
theorem newsWd (W : World) (a b : Value) (t : TypeId) : ∀ j u, [a, b][j]? = some u → (W.alloc (.cells #[a, b] t)).cell? ((⟨W.heap.size, 0, none⟩ : Addr).add j) = some u := by
  intro j u hj
  match j, hj with
  | 0, hj => simp at hj; subst hj; simp [Addr.add, go_sem]
  | 1, hj => simp at hj; subst hj; simp [Addr.add, go_sem]
theorem twoW (a b : Int) : ∀ u ∈ [Value.int .u64 a, Value.int .u64 b], u.oneCell' = true := by
  intro u hu; simp at hu; rcases hu with rfl | rfl <;> rfl
/-- A row's cells are there, and may be written. -/
theorem own_cell6 {W : World} {base e size n g cap : Nat} {xs : List Value} (h : W.ownsRow base e size (.slice (some ⟨g, 0, none⟩) n cap) n xs) (j : Nat) (hj : j < n * size) : (∃ u, W.cell? ⟨g, j, none⟩ = some u) ∧ W.frozen? ⟨g, j, none⟩ = false := by
  rcases h.2 with ⟨h', _⟩ | ⟨g', cap', cur, h', hb, hg, hnc, hcm, hcs, htake⟩
  · cases h'
  · simp only [Value.slice.injEq, Option.some.injEq, Addr.mk.injEq, and_true, true_and] at h'
    obtain ⟨rfl, rfl⟩ := h'
    have hs : j < cur.size := by
      rw [hcs]
      exact Nat.lt_of_lt_of_le hj (Nat.mul_le_mul_right _ hnc)
    refine ⟨⟨cur[j], ?_⟩, ?_⟩
    · simp [World.cell?, hg, hs]
    · simp [World.frozen?, hg]
/-- What put leaves of memory: the row is changed in its own place, or made anew. -/
def PtO (base : Nat) (v : Value) (S : List (BitVec 128)) (w : World) (v' : Value) (w' : World) : Prop := w'.ownsRow base 27 2 v' S.length (rowW S) ∧ w.grownBy w' v.ownBlock ∧ (∀ z, v'.ownBlock = some z → v.ownBlock = some z ∨ w.heap.size ≤ z)
theorem set_midW (S : List (BitVec 128)) (k : Nat) (hk : k ≤ S.length) (d q : BitVec 128) : (S.take k ++ d :: S.drop k).set k q = S.take k ++ q :: S.drop k := by
  rw [List.set_append_right _ _ (by simp; omega)]
  congr 1
  have : k - (S.take k).length = 0 := by simp; omega
  rw [this]
  rfl
theorem mid_backW (S : List (BitVec 128)) (k : Nat) (hk : k < S.length) : S.take (k + 1) ++ S[k] :: S.drop (k + 1) = S.take k ++ S[k] :: S.drop k := by
  rw [List.take_succ_eq_append_getElem hk, List.append_assoc]
  congr 1
  rw [List.drop_eq_getElem_cons hk]
  rfl
theorem mid_getW (S : List (BitVec 128)) (k : Nat) (hk : k < S.length) (d : BitVec 128) (h : k < (S.take (k + 1) ++ d :: S.drop (k + 1)).length) : (S.take (k + 1) ++ d :: S.drop (k + 1))[k] = S[k] := by
  rw [List.getElem_append_left (by simp; omega), List.getElem_take]
/-- Words in order, each once, with another one. -/
def PutS (S : List (BitVec 128)) (x : BitVec 128) (T : List (BitVec 128)) : Prop := T.Pairwise (fun a b => a.toNat < b.toNat) ∧ (∀ y, y ∈ T ↔ (y = x ∨ y ∈ S)) ∧ T.length ≤ S.length + 1
theorem put_there (S : List (BitVec 128)) (x : BitVec 128) (hS : S.Pairwise (fun a b => a.toNat < b.toNat)) (h : x ∈ S) : PutS S x S :=
  ⟨hS, fun y => ⟨.inr, fun q => by rcases q with rfl | q; exact h; exact q⟩, by omega⟩
theorem put_new (S : List (BitVec 128)) (x : BitVec 128) (hS : S.Pairwise (fun a b => a.toNat < b.toNat)) (k : Nat) (hk : k ≤ S.length) (h1 : ∀ q ∈ S.drop k, x.toNat < q.toNat) (h2 : ∀ (h : 0 < k), (S[k - 1]'(by omega)).toNat < x.toNat) : PutS S x (S.take k ++ x :: S.drop k) := by
  refine ⟨?_, ?_, by simp; omega⟩
  · have hs : (S.take k ++ S.drop k).Pairwise (fun a b => a.toNat < b.toNat) := by rw [List.take_append_drop]; exact hS
    obtain ⟨p1, p2, p3⟩ := List.pairwise_append.mp hs
    have h3 : ∀ a ∈ S.take k, a.toNat < x.toNat := by
      intro a ha
      by_cases h0 : 0 < k
      · have h2 := h2 h0
        obtain ⟨i, hi, rfl⟩ := List.mem_iff_getElem.mp ha
        have hi' : i < k := by simp at hi; omega
        rw [List.getElem_take]
        by_cases e : i = k - 1
        · subst e; exact h2
        · have := List.pairwise_iff_getElem.mp hS i (k - 1) (by omega) (by omega) (by omega)
          omega
      · have : k = 0 := by omega
        subst this
        simp at ha
    refine List.pairwise_append.mpr ⟨p1, List.pairwise_cons.mpr ⟨h1, p2⟩, ?_⟩
    intro a ha b hb
    rcases List.mem_cons.mp hb with rfl | q
    · exact h3 a ha
    · exact p3 a ha b q
  · intro y
    have e : y ∈ S ↔ y ∈ S.take k ∨ y ∈ S.drop k := by rw [← List.mem_append, List.take_append_drop]
    rw [List.mem_append, List.mem_cons, e]
    constructor
    · rintro (q | q | q)
      · exact .inr (.inl q)
      · exact .inl q
      · exact .inr (.inr q)
    · rintro (q | q | q)
      · exact .inr (.inl q)
      · exact .inl q
      · exact .inr (.inr q)
end Go.Proofs.Ytofpbommhklooaa
/-
  copy of a row of any elements; what the calls of the law's Lend and Kept of tables do.
-/
namespace Go.Proofs.Ytofpbommhklooaa
open Go.RowKit
set_option linter.unusedSimpArgs false
set_option linter.unusedVariables false

theorem wpList_copy_any5 {P : Program} {w : World} {ops : Array Oper} {rest : List Oper} {o : Oper} {a : Act} {Q : Exit → Act → World → Prop} (hgd : o.guard = none) (d s : Operand) (dT sT : TypeId)
    (ho : o.op = .call { callee := .builtin .copy, args := #[d, s], argTypes := #[dT, sT] }) (elem : TypeId) (i : TypeInfo) (size : Nat) (hu : P.underlying dT = some (.slice elem)) (hi : P.info? elem = some i) (hsize : i.size = size)
    (base g n cap : Nat) (xs : List Value) (hd : a.eval d = .slice (some ⟨g, 0, none⟩) n cap) (hown : w.ownsRow base elem size (.slice (some ⟨g, 0, none⟩) n cap) n xs)
    (sp : Option Addr) (sLen sCap : Nat) (hs : a.eval s = .slice sp sLen sCap) (hle : sLen ≤ n) (cs : List Value) (hcl : cs.length = sLen * size) (h0 : sp = none → cs = []) (hsrc : ∀ ad, sp = some ad → ∀ j v, cs[j]? = some v → w.cell? (ad.add j) = some v) (h1 : ∀ v ∈ cs, v.oneCell' = true)
    (h : ∀ w', w'.ownsRow base elem size (.slice (some ⟨g, 0, none⟩) n cap) n (cs ++ xs.drop cs.length) → w.grownBy w' (some g) → wpList P ops Q rest (a.put o.dst (goInt sLen)) w') : wpList P ops Q (o :: rest) a w := by
  rcases hown.2 with ⟨h', _⟩ | ⟨g', cap', cur, h', hb, hg, hnc, hcm, hcs, htake⟩
  · cases h'
  · simp only [Value.slice.injEq, Option.some.injEq, Addr.mk.injEq, and_true, true_and] at h'
    obtain ⟨rfl, rfl⟩ := h'
    subst hsize
    have hxl : xs.length = n * i.size := hown.1
    have hfit : cs.length ≤ n * i.size := by rw [hcl]; exact Nat.mul_le_mul_right _ hle
    have hnc' : n * i.size ≤ cap * i.size := Nat.mul_le_mul_right _ hnc
    have hfc : (Builtin.firstCells i.size sLen (.slice sp sLen sCap)).run P w = .ok cs.toArray w := by
      cases sp with
      | none => rw [h0 rfl]; exact run_firstCells_none w i.size sLen sLen sCap
      | some ad => exact run_firstCells_some w i.size sLen ad sLen sCap cs hcl (hsrc ad rfl)
    have hst := run_storeCells_at P g 0 elem cs 0 cur w hg (by simp; omega) h1
    have hmin : Nat.min sLen n = sLen := Nat.min_eq_left hle
    refine wpList_plain hgd fun K hK => ?_
    unfold Oper.wp
    simp only [Nat.add_zero, List.take_zero, List.nil_append, Nat.zero_add] at hst
    simp [execOp, ho, resolve, invoke, builtin, hd, hs, Builtin.copy_, run_underlying hu, Builtin.lenOf, sizeOf, typeInfo, hi, hmin, hfc, hst, Result.andThen]
    refine hK _ _ (h _ ?_ ?_)
    · refine ⟨?_, .inr ⟨g, cap, (cs ++ cur.toList.drop cs.length).toArray, rfl, hb, setRow_heap w g cur _ elem _ hg, hnc, hcm, ?_, ?_⟩⟩
      · rw [List.length_append, List.length_drop]; omega
      · simp; omega
      · show ((cs ++ cur.toList.drop cs.length)).take (n * i.size) = _
        rw [List.take_append, List.take_of_length_le hfit, ← htake, List.drop_take]
    · exact ⟨rfl, rfl, rfl, by simp [World.setRow], fun k _ hk => setRow_other w g k _ (fun e => hk (by simp [e]))⟩
/-- The marks behind a list. -/
def mkR (n j : Nat) : List Rte := (List.range j).map fun (q : Nat) => ((0#128, 0), -7 - ((n : Int) + (q : Int)))
theorem mkR_succ (n j : Nat) : mkR n (j + 1) = mkR n j ++ [((0#128, 0), -7 - ((n : Int) + (j : Int)))] := by
  unfold mkR
  rw [List.range_succ, List.map_append]
  rfl
theorem mkR_len (n j : Nat) : (mkR n j).length = j := by unfold mkR; simp
theorem rowR_len5 : ∀ l, (rowR l).length = l.length * 4 := by
  intro l
  induction l with
  | nil => rfl
  | cons p l ih => simp only [rowR, List.length_cons, ih]; omega
theorem rowR_app5 : ∀ l m, rowR (l ++ m) = rowR l ++ rowR m := by
  intro l
  induction l with
  | nil => intro m; rfl
  | cons p l ih => intro m; simp [rowR, ih]
theorem rowR_one5 (l : List Rte) (x : BitVec 128) (n h : Int) : rowR (l ++ [((x, n), h)]) = rowR l ++ [.int .u64 (hI x), .int .u64 (lI x), .int .i64 n, .int .i64 h] := by rw [rowR_app5]; rfl
theorem rowR_cell5 (l : List Rte) : ∀ u ∈ rowR l, u.oneCell' = true := by
  induction l with
  | nil => intro u hu; cases hu
  | cons p l ih =>
    intro u hu
    simp only [rowR, List.mem_cons] at hu
    rcases hu with rfl | rfl | rfl | rfl | hu
    · rfl
    · rfl
    · rfl
    · rfl
    · exact ih u hu
theorem set4L (A rs : List Value) (n : Nat) (hn : A.length = n) (x y z u : Value) (h : 4 ≤ rs.length) : ((((A ++ rs).set n x).set (n + 1) y).set (n + 2) z).set (n + 3) u = A ++ x :: y :: z :: u :: rs.drop 4 := by
  subst hn
  match rs, h with
  | a :: b :: c :: d :: rs, _ =>
    rw [List.set_append_right _ _ (Nat.le_refl _), Nat.sub_self, List.set_append_right _ _ (by omega), List.set_append_right _ _ (by omega), List.set_append_right _ _ (by omega)]
    have e1 : A.length + 1 - A.length = 1 := by omega
    have e2 : A.length + 2 - A.length = 2 := by omega
    have e3 : A.length + 3 - A.length = 3 := by omega
    rw [e1, e2, e3]
    rfl
theorem drop4 (xs : List Value) (k : Nat) (x y z u : Value) : ((((xs.set (k * 4) x).set (k * 4 + 1) y).set (k * 4 + 2) z).set (k * 4 + 3) u).drop ((k + 1) * 4) = xs.drop ((k + 1) * 4) := by
  rw [List.drop_set_of_lt (by omega), List.drop_set_of_lt (by omega), List.drop_set_of_lt (by omega), List.drop_set_of_lt (by omega)]
theorem drop_get5 (xs ys : List Value) (m : Nat) (h : xs.drop m = ys.drop m) (r : Nat) : xs[m + r]? = ys[m + r]? := by
  have := congrArg (fun z => z[r]?) h
  simpa [List.getElem?_drop] using this
theorem stopHere5 {P : Program} {w : World} {ops : Array Oper} {rest : List Oper} {a : Act} {Q : Exit → Act → World → Prop} {o : Oper} (h : Hid (wpList P ops Q (o :: rest) a w)) : wpList P ops Q (o :: rest) a w := h.out
theorem Try.infoR5 : (Try.prog.info? 47).map (fun i => (i.zero, i.size, i.bytes)) = some (some (.agg #[.int .u64 0, .int .u64 0, .int .i64 0, .int .i64 0]), 4, 32) := by kernel_rfl
/-- A table, and the one that is answered. -/
def LnT (w : World) (F : Int) (v : Value) (W : World) : Prop := AtU W w.heap.size F v ∧ AtU W (w.heap.size + 1) 0 (.slice none 0 0)
theorem LnT.heap {w : World} {F : Int} {v : Value} {W W' : World} (k : LnT w F v W) (h : ∀ z, z < w.heap.size + 2 → W'.heap[z]? = W.heap[z]?) : LnT w F v W' := ⟨k.1.heap (h _ (by omega)), k.2.heap (h _ (by omega))⟩
set_option maxRecDepth 20000 in
set_option maxHeartbeats 8000000 in
theorem lend5_any (F : Int) (v : Value) (l : List Rte) (w : World) (hv : RwR w v l) (hl : l.length ≤ 1000000) :
    Calls Try.prog 21 #[.agg #[.int .i64 F, v]] w fun e w' => (∃ g, e = .returned (.agg #[.int .i64 F, .slice (some ⟨g, 0, none⟩) l.length (l.length + 3)]) ∧ w'.ownsRow w.heap.size 47 4 (.slice (some ⟨g, 0, none⟩) (l.length + 3) (l.length + 3)) (l.length + 3) (rowR (l ++ mkR l.length 3))) ∧ Below w.heap.size w w' := by
  obtain ⟨i0, hi, hz0, hz1, hz2⟩ := info_parts Try.infoR5
  obtain ⟨ao, c, rfl, hv⟩ := hv
  have HV : Hid (l = [] ∨ ∃ b off, ao = some ⟨b, off, none⟩ ∧ ∀ j u, (rowR l)[j]? = some u → w.cell? ⟨b, off + j, none⟩ = some u) := hv
  clear hv
  have m1 : IntKind.i64.wrap ((l.length : Int) + 3) = (l.length : Int) + 3 := by rw [IntKind.wrap_i64]; omega
  have hby : i0.bytes * (l.length + 3) ≤ 281474976710656 := by rw [hz2]; omega
  have q1 := bl1 w (.cells #[.int .i64 F, .slice ao l.length c] 24)
  have q2 := bl1 (w.alloc (.cells #[.int .i64 F, .slice ao l.length c] 24)) (.cells #[.int .i64 0, .slice none 0 0] 24)
  have a1 := atu_new w w.heap.size F (.slice ao l.length c) 24 rfl
  have HT : Hid (LnT w F (.slice ao l.length c) ((w.alloc (.cells #[.int .i64 F, .slice ao l.length c] 24)).alloc (.cells #[.int .i64 0, .slice none 0 0] 24))) := hidR ⟨a1.heap (hAl _ a1.lt), atu_new _ (w.heap.size + 1) 0 (.slice none 0 0) 24 (by simp)⟩
  have HB := hidR (keepb q2 q1)
  obtain ⟨t0, t1, -, -⟩ := HT.out.1
  have hsz : ((w.alloc (.cells #[.int .i64 F, .slice ao l.length c] 24)).alloc (.cells #[.int .i64 0, .slice none 0 0] 24)).heap.size = w.heap.size + 2 := by simp
  clear q1 q2 a1
  go_enter Try.func21, Try.ntmps21
  go_wp2_with (at_make; apply stopHere5)
  refine (show wpList _ _ _ _ _ _ from ?_)
  refine wpList_make_full _ rfl _ _ 22 rfl (w.heap.size + 2) 47 i0 (.agg #[.int .u64 0, .int .u64 0, .int .i64 0, .int .i64 0]) 4 Try.underlying22 hi hz0 hz1 .i64 .i64 _ _ (l.length + 3) rfl rfl (by simp) (by simp) hby (by unfold maxLen; omega) (by rw [hsz]; exact Nat.le_refl _) ?_
  intro w2 ho2 hgrow
  rw [hsz] at ho2
  have HB2 := hidR (HB.out.grown hgrow HB.out.size (fun z hz => by cases hz))
  have HT2 := hidR (HT.out.heap (fun z hz => hgrow.block z (by rw [hsz]; exact hz) (fun e => by cases e)))
  have HO2 := hidR ho2
  clear ho2 hgrow hby HT HB t0 t1
  rw [hsz]
  obtain ⟨t0, t1, -, -⟩ := HT2.out.1
  have hcp : ∀ ad, ao = some ad → ∀ j u, (rowR l)[j]? = some u → w2.cell? (ad.add j) = some u := by
    intro ad e j u hj
    rcases HV.out with h | ⟨b, off, e', hc⟩
    · rw [h] at hj; simp [rowR] at hj
    · rw [e'] at e
      cases e
      rw [addA]
      exact keepc HB2.out (hc j u hj)
  have hcn : ao = none → rowR l = [] := by
    intro e
    rcases HV.out with h | ⟨b, off, e', hc⟩
    · rw [h]; rfl
    · rw [e'] at e; cases e
  have HCP := hidR hcp
  have HCN := hidR hcn
  clear hcp hcn HV
  have HX : Hid (∀ (xs : List Value), xs.length = (l.length + 3) * 4 → (rowR l ++ xs.drop (rowR l).length) = rowR (l ++ mkR l.length 0) ++ xs.drop (rowR l).length ∧ (xs.drop (rowR l).length).length = 12) := hidR (by
    intro xs hx
    refine ⟨by simp [mkR], ?_⟩
    rw [List.length_drop, rowR_len5, hx]
    omega)
  go_wp2_with (first | (refine wpList_copy_any5 rfl (.tmp 10) (.tmp 12) 22 22 rfl 47 i0 4 Try.underlying22 hi hz1 (w.heap.size + 2) (w.heap.size + 2) (l.length + 3) (l.length + 3) _ rfl HO2.out ao l.length c rfl (by omega) (rowR l) (rowR_len5 l) HCN.out HCP.out (rowR_cell5 l) ?_; intro w3 ho3 hgrow3; have HO3 := hidR ho3; have HB3 := hidR (HB2.out.grown hgrow3 HB2.out.size (fun z hz => by cases hz; omega)); have HT3 := hidR (HT2.out.heap (fun z hz => hgrow3.block z (by have := HO2.out.lt (w.heap.size + 2) rfl; omega) (fun e => by cases e; omega))); clear ho3 hgrow3 t0 t1; obtain ⟨t0, t1, -, -⟩ := HT3.out.1))
  obtain ⟨q1, q2⟩ := HX.out _ HO2.out.1
  rw [q1] at HO3
  revert q2
  generalize (List.drop (rowR l).length _) = rs0 at HO3 ⊢
  intro q2
  clear q1 HX HO2 HB2 HCP HCN HT2 t0 t1 hsz
  go_loopw [4] (fun i wr => ∃ j : Nat, j ≤ 3 ∧ i = .int .i64 ((l.length + j : Nat) : Int) ∧ ∃ rs : List Value, rs.length = (3 - j) * 4 ∧ Hid (wr.ownsRow (w.heap.size + 2) 47 4 (.slice (some ⟨w.heap.size + 2, 0, none⟩) (l.length + 3) (l.length + 3)) (l.length + 3) (rowR (l ++ mkR l.length j) ++ rs)) ∧ Hid (LnT w F (.slice ao l.length c) wr) ∧ Hid (Below w.heap.size w wr)) (fun i _ => (l.length + 3) - (intOf i).toNat)
  case atStart => exact ⟨0, by omega, by simp, rs0, by omega, HO3, HT3, HB3⟩
  case round =>
    clear HO3 HB3 HT3
    obtain ⟨j, hj, rfl, rs, hrs, HO, HT, HB⟩ := hrel
    have e1 : ((l.length + j : Nat) : Int) = (l.length : Int) + (j : Int) := by omega
    rw [e1]
    by_cases hlt : j < 3
    · have i1 : (l.length : Int) + (j : Int) < (l.length : Int) + 3 := by omega
      have i2 : (0 : Int) ≤ (l.length : Int) + (j : Int) := by omega
      have i3 : (j : Int) < 3 := by omega
      have mk : IntKind.i64.wrap ((l.length : Int) + (j : Int) + 1) = (l.length : Int) + (j : Int) + 1 := by rw [IntKind.wrap_i64]; omega
      have ms : IntKind.i64.wrap (-7 - ((l.length : Int) + (j : Int))) = -7 - ((l.length : Int) + (j : Int)) := by rw [IntKind.wrap_i64]; omega
      have ea : ((l.length : Int) + (j : Int)).toNat = l.length + j := by omega
      obtain ⟨⟨u0, z0⟩, s0⟩ := own_cell6 HO.out ((l.length + j) * 4) (by omega)
      obtain ⟨⟨u1, z1⟩, s1⟩ := own_cell6 HO.out ((l.length + j) * 4 + 1) (by omega)
      obtain ⟨⟨u2, z2⟩, s2⟩ := own_cell6 HO.out ((l.length + j) * 4 + 2) (by omega)
      obtain ⟨⟨u3, z3⟩, s3⟩ := own_cell6 HO.out ((l.length + j) * 4 + 3) (by omega)
      generalize hmm : -7 - ((l.length : Int) + (j : Int)) = mm at *
      go_wp2
      go_roundw
      case rel =>
        have t1 := ((((HO.out.stored ((l.length + j) * 4) (.int .u64 0)).1.stored ((l.length + j) * 4 + 1) (.int .u64 0)).1.stored ((l.length + j) * 4 + 2) (.int .i64 0)).1.stored ((l.length + j) * 4 + 3) (.int .i64 mm)).1
        rw [set4L _ rs ((l.length + j) * 4) (by rw [rowR_len5, List.length_append, mkR_len]) _ _ _ _ (by omega)] at t1
        refine ⟨j + 1, by omega, by simp; omega, rs.drop 4, by rw [List.length_drop, hrs]; omega, ?_, hidR (HT.out.heap (fun z hz => by rw [hSet _ (by omega), hSet _ (by omega), hSet _ (by omega), hSet _ (by omega)])), hidR ((((HB.out.setCell (p := ⟨w.heap.size + 2, _, none⟩) (by simp) _).setCell (p := ⟨w.heap.size + 2, _, none⟩) (by simp) _).setCell (p := ⟨w.heap.size + 2, _, none⟩) (by simp) _).setCell (p := ⟨w.heap.size + 2, _, none⟩) (by simp) _)⟩
        show World.ownsRow _ _ _ _ _ _ _
        rw [mkR_succ, hmm, ← List.append_assoc, rowR_one5, hI_zero, lI_zero, List.append_assoc]
        exact t1
      case measure => simp [intOf]; omega
    · obtain rfl : j = 3 := by omega
      have hr0 : rs = [] := List.eq_nil_of_length_eq_zero (by omega)
      subst hr0
      rw [List.append_nil] at HO
      have i1 : ¬ (l.length : Int) + ((3 : Nat) : Int) < (l.length : Int) + 3 := by omega
      have i2 : (l.length : Int) ≤ (l.length : Int) + 3 := by omega
      have i3 : l.length ≤ l.length + 3 := by omega
      have HC : Hid ((fun W => LnT w F (.slice ao l.length c) W ∧ W.ownsRow (w.heap.size + 2) 47 4 (.slice (some ⟨w.heap.size + 2, 0, none⟩) (l.length + 3) (l.length + 3)) (l.length + 3) (rowR (l ++ mkR l.length 3)) ∧ Below w.heap.size w W) wr) := hidR ⟨HT.out, HO.out, HB.out⟩
      clear HO HT HB
      go_wp2_with fail
      refine qp_region2 8 (qpOk 8 8 (by decide) (fun N => by kernel_rfl) (by kernel_rfl) (by kernel_rfl) (by kernel_rfl) (by kernel_rfl)) (C := fun W => LnT w F (.slice ao l.length c) W ∧ W.ownsRow (w.heap.size + 2) 47 4 (.slice (some ⟨w.heap.size + 2, 0, none⟩) (l.length + 3) (l.length + 3)) (l.length + 3) (rowR (l ++ mkR l.length 3)) ∧ Below w.heap.size w W) [some 29, some 30, some 31, some 32, some 33, some 34, some 35, some 36] [.pointer (some ⟨w.heap.size, 0, none⟩), .int .i64 F, .slice (some ⟨w.heap.size + 2, 0, none⟩) (l.length + 3) (l.length + 3), .pointer (some ⟨w.heap.size, 1, none⟩), .slice ao l.length c, .int .i64 (l.length : Int), .slice (some ⟨w.heap.size + 2, 0, none⟩) l.length (l.length + 3), .agg #[.int .i64 F, .slice (some ⟨w.heap.size + 2, 0, none⟩) l.length (l.length + 3)]] (by kernel_rfl) ⟨HC.out.1.heap (fun _ _ => rfl), own_heap HC.out.2.1 (fun _ _ => rfl), below_drewN HC.out.2.2 1⟩ ?walk ?fin
      case walk =>
        clear HC
        dsimp only [List.take]
        refine q_run (v := .pointer (some ⟨w.heap.size, 0, none⟩)) (by rfl) ?_ ?_
        · (intro w1 hC; obtain ⟨⟨⟨t0, t1, -, -⟩, -⟩, -, -⟩ := hC; go_simp; first | done | (simp; done) | (simp [*]; done) | omega | (simp; omega) | (rw [IntKind.wrap_i64]; omega) | (intro hx; omega) | rfl)
        simp only [Act.put, List.setIfInBounds_toArray, List.set_cons_zero, List.set_cons_succ]
        refine q_run (v := .int .i64 F) (by rfl) ?_ ?_
        · (intro w1 hC; obtain ⟨⟨⟨t0, t1, -, -⟩, -⟩, -, -⟩ := hC; go_simp; first | done | (simp; done) | (simp [*]; done) | omega | (simp; omega) | (rw [IntKind.wrap_i64]; omega) | (intro hx; omega) | rfl)
        simp only [Act.put, List.setIfInBounds_toArray, List.set_cons_zero, List.set_cons_succ]
        refine q_run (v := .slice (some ⟨w.heap.size + 2, 0, none⟩) (l.length + 3) (l.length + 3)) (by rfl) ?_ ?_
        · (intro w1 hC; obtain ⟨⟨⟨t0, t1, -, -⟩, -⟩, -, -⟩ := hC; go_simp; first | done | (simp; done) | (simp [*]; done) | omega | (simp; omega) | (rw [IntKind.wrap_i64]; omega) | (intro hx; omega) | rfl)
        simp only [Act.put, List.setIfInBounds_toArray, List.set_cons_zero, List.set_cons_succ]
        refine q_run (v := .pointer (some ⟨w.heap.size, 1, none⟩)) (by rfl) ?_ ?_
        · (intro w1 hC; obtain ⟨⟨⟨t0, t1, -, -⟩, -⟩, -, -⟩ := hC; go_simp; first | done | (simp; done) | (simp [*]; done) | omega | (simp; omega) | (rw [IntKind.wrap_i64]; omega) | (intro hx; omega) | rfl)
        simp only [Act.put, List.setIfInBounds_toArray, List.set_cons_zero, List.set_cons_succ]
        refine q_run (v := .slice ao l.length c) (by rfl) ?_ ?_
        · (intro w1 hC; obtain ⟨⟨⟨t0, t1, -, -⟩, -⟩, -, -⟩ := hC; go_simp; first | done | (simp; done) | (simp [*]; done) | omega | (simp; omega) | (rw [IntKind.wrap_i64]; omega) | (intro hx; omega) | rfl)
        simp only [Act.put, List.setIfInBounds_toArray, List.set_cons_zero, List.set_cons_succ]
        refine q_run (v := .int .i64 (l.length : Int)) (by rfl) ?_ ?_
        · (intro w1 hC; obtain ⟨⟨⟨t0, t1, -, -⟩, -⟩, -, -⟩ := hC; go_simp; first | done | (simp; done) | (simp [*]; done) | omega | (simp; omega) | (rw [IntKind.wrap_i64]; omega) | (intro hx; omega) | rfl)
        simp only [Act.put, List.setIfInBounds_toArray, List.set_cons_zero, List.set_cons_succ]
        refine q_run (v := .slice (some ⟨w.heap.size + 2, 0, none⟩) l.length (l.length + 3)) (by rfl) ?_ ?_
        · (intro w1 hC; obtain ⟨⟨⟨t0, t1, -, -⟩, -⟩, -, -⟩ := hC; go_simp; first | done | (simp; done) | (simp [*]; done) | omega | (simp; omega) | (rw [IntKind.wrap_i64]; omega) | (intro hx; omega) | rfl)
        simp only [Act.put, List.setIfInBounds_toArray, List.set_cons_zero, List.set_cons_succ]
        refine q_run (v := .agg #[.int .i64 F, .slice (some ⟨w.heap.size + 2, 0, none⟩) l.length (l.length + 3)]) (by rfl) ?_ ?_
        · (intro w1 hC; obtain ⟨⟨⟨t0, t1, -, -⟩, -⟩, -, -⟩ := hC; go_simp; first | done | (simp; done) | (simp [*]; done) | omega | (simp; omega) | (rw [IntKind.wrap_i64]; omega) | (intro hx; omega) | rfl)
        simp only [Act.put, List.setIfInBounds_toArray, List.set_cons_zero, List.set_cons_succ]
        refine wpQuiet_nil ?_
        simp only [putAll, Act.put, List.setIfInBounds_toArray, List.set_cons_zero, List.set_cons_succ]
      case fin =>
        intro W hC
        simp only [putAll, Act.put, List.setIfInBounds_toArray, List.set_cons_zero, List.set_cons_succ]
        dsimp only [List.drop]
        clear HC
        obtain ⟨hT, hO, hB⟩ := hC
        obtain ⟨r0, r1, r2, r3⟩ := hT.2
        obtain ⟨k0, k1, -, -⟩ := hT.2.set2 F (.slice (some ⟨w.heap.size + 2, 0, none⟩) l.length (l.length + 3))
        have HBs := hidR (bset2 (C := w.heap.size + 1) hB (by omega) (.int .i64 F) (.slice (some ⟨w.heap.size + 2, 0, none⟩) l.length (l.length + 3)))
        have HOs := hidR (own_wide (base' := w.heap.size) (own_heap (W' := (W.setCell ⟨w.heap.size + 1, 0, none⟩ (.int .i64 F)).setCell ⟨w.heap.size + 1, 1, none⟩ (.slice (some ⟨w.heap.size + 2, 0, none⟩) l.length (l.length + 3))) hO (fun z e => by
          have e : w.heap.size + 2 = z := by simpa [Value.ownBlock] using e
          rw [hSet _ (by omega), hSet _ (by omega)])) (by omega))
        clear hT hO hB
        go_wp2
        exact bodyPost_ret (v := .agg #[.int .i64 F, .slice (some ⟨w.heap.size + 2, 0, none⟩) l.length (l.length + 3)]) (by simp [results, Try.results21, go_sem, k0, k1]) rfl ⟨⟨w.heap.size + 2, rfl, HOs.out⟩, HBs.out⟩
end Go.Proofs.Ytofpbommhklooaa
