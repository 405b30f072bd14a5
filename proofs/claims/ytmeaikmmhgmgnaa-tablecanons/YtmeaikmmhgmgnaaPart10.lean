/-
  Part 10 of the proof: 8 texts, one behind the other.
-/
import Derived.Test.YtmeaikmmhgmgnaaPart9
import Derived.Test.YtmeaikmmhgmgnaaPart6
import Derived.Test.YtmeaikmmhgmgnaaPart4
import Derived.Deep.AppendLies
import Derived.Test.YtmeaikmmhgmgnaaPart3
import Derived.Test.YtmeaikmmhgmgnaaPart5
import Derived.OrdersIn
import Derived.TacticsIn
import Derived.RangeFuncSeq
import Derived.RangeFuncNested
import Derived.RangeFuncBound
import Derived.RangeFuncCalls
import Derived.RangeFuncLeaves
import Derived.Shelf.Abstract
import Derived.Shelf.RegionOpen
import Derived.WalkKit
import Derived.OwnWalkIn
import Derived.TacticsInMore
import Derived.LoopNIn
import Derived.LoopIn
/-
  Segments in memory, with their next hops; rows of them; what is told of a list of them.
-/
namespace Go.Proofs.Ytmeaikmmhgmgnaa
open Go.RowKit
set_option linter.unusedSimpArgs false
set_option linter.unusedVariables false

/-- A segment: its first, its last address, its next hop. -/
abbrev Sg := (BitVec 128 × BitVec 128) × Int
/-- A segment in memory. -/
def AtG (w : World) (B : Nat) (x y : BitVec 128) (h : Int) : Prop := w.cell? ⟨B, 0, none⟩ = some (.int .u64 (hI x)) ∧ w.cell? ⟨B, 1, none⟩ = some (.int .u64 (lI x)) ∧ w.cell? ⟨B, 2, none⟩ = some (.int .u64 (hI y)) ∧ w.cell? ⟨B, 3, none⟩ = some (.int .u64 (lI y)) ∧ w.cell? ⟨B, 4, none⟩ = some (.int .i64 h) ∧ w.frozen? ⟨B, 0, none⟩ = false ∧ w.frozen? ⟨B, 1, none⟩ = false ∧ w.frozen? ⟨B, 2, none⟩ = false ∧ w.frozen? ⟨B, 3, none⟩ = false ∧ w.frozen? ⟨B, 4, none⟩ = false
theorem AtG.below {w w' : World} {B : Nat} {x y : BitVec 128} {h : Int} (g : AtG w B x y h) (hb : Below w.heap.size w w') : AtG w' B x y h := by
  obtain ⟨a0, a1, a2, a3, a4, b0, b1, b2, b3, b4⟩ := g
  exact ⟨keepc hb a0, keepc hb a1, keepc hb a2, keepc hb a3, keepc hb a4, keepf hb a0 b0, keepf hb a1 b1, keepf hb a2 b2, keepf hb a3 b3, keepf hb a4 b4⟩
theorem atg_new (w : World) (B : Nat) (x y : BitVec 128) (h : Int) (T : TypeId) (e : B = w.heap.size) : AtG (w.alloc (.cells #[.int .u64 (hI x), .int .u64 (lI x), .int .u64 (hI y), .int .u64 (lI y), .int .i64 h] T)) B x y h := by
  subst e
  refine ⟨?_, ?_, ?_, ?_, ?_, ?_, ?_, ?_, ?_, ?_⟩ <;> simp [go_sem]
theorem AtG.lt {W : World} {B : Nat} {x y : BitVec 128} {h : Int} (g : AtG W B x y h) : B < W.heap.size := cell_in g.1
def rowG : List Sg → List Value
  | [] => []
  | p :: l => .int .u64 (hI p.1.1) :: .int .u64 (lI p.1.1) :: .int .u64 (hI p.1.2) :: .int .u64 (lI p.1.2) :: .int .i64 p.2 :: rowG l
theorem rowG_app : ∀ l m, rowG (l ++ m) = rowG l ++ rowG m := by
  intro l
  induction l with
  | nil => intro m; rfl
  | cons p l ih => intro m; simp [rowG, ih]
theorem rowG_one (l : List Sg) (x y : BitVec 128) (h : Int) : rowG (l ++ [((x, y), h)]) = rowG l ++ [.int .u64 (hI x), .int .u64 (lI x), .int .u64 (hI y), .int .u64 (lI y), .int .i64 h] := by rw [rowG_app]; rfl
theorem rowG_len : ∀ l, (rowG l).length = l.length * 5 := by
  intro l
  induction l with
  | nil => rfl
  | cons p l ih => simp only [rowG, List.length_cons, ih]; omega
theorem rowG_cell (l : List Sg) : ∀ u ∈ rowG l, u.oneCell' = true := by
  induction l with
  | nil => intro u hu; cases hu
  | cons p l ih =>
    intro u hu
    simp only [rowG, List.mem_cons] at hu
    rcases hu with rfl | rfl | rfl | rfl | rfl | hu
    all_goals first | rfl | exact ih u hu
theorem rowG_get : ∀ (l : List Sg) (j : Nat) (hj : j < l.length), (rowG l)[j * 5]? = some (.int .u64 (hI l[j].1.1)) ∧ (rowG l)[j * 5 + 1]? = some (.int .u64 (lI l[j].1.1)) ∧ (rowG l)[j * 5 + 2]? = some (.int .u64 (hI l[j].1.2)) ∧ (rowG l)[j * 5 + 3]? = some (.int .u64 (lI l[j].1.2)) ∧ (rowG l)[j * 5 + 4]? = some (.int .i64 l[j].2) := by
  intro l
  induction l with
  | nil => intro j hj; simp at hj
  | cons p l ih =>
    intro j hj
    cases j with
    | zero => simp [rowG]
    | succ j =>
      have := ih j (by simpa using hj)
      rw [show (j + 1) * 5 = j * 5 + 5 by omega, show j * 5 + 5 + 1 = j * 5 + 1 + 5 by omega, show j * 5 + 5 + 2 = j * 5 + 2 + 5 by omega, show j * 5 + 5 + 3 = j * 5 + 3 + 5 by omega, show j * 5 + 5 + 4 = j * 5 + 4 + 5 by omega]
      simpa [rowG] using this
theorem rwg_cells {W : World} {b off : Nat} {l : List Sg} (h : ∀ j u, (rowG l)[j]? = some u → W.cell? ⟨b, off + j, none⟩ = some u) (k : Nat) (hk : k < l.length) :
    W.cell? ⟨b, off + k * 5, none⟩ = some (.int .u64 (hI l[k].1.1)) ∧ W.cell? ⟨b, off + k * 5 + 1, none⟩ = some (.int .u64 (lI l[k].1.1)) ∧ W.cell? ⟨b, off + k * 5 + 2, none⟩ = some (.int .u64 (hI l[k].1.2)) ∧ W.cell? ⟨b, off + k * 5 + 3, none⟩ = some (.int .u64 (lI l[k].1.2)) ∧ W.cell? ⟨b, off + k * 5 + 4, none⟩ = some (.int .i64 l[k].2) := by
  obtain ⟨a0, a1, a2, a3, a4⟩ := rowG_get l k hk
  exact ⟨h _ _ a0, h _ _ a1, h _ _ a2, h _ _ a3, h _ _ a4⟩
theorem newsG (W : World) (a b c d e : Value) (t : TypeId) : ∀ j u, [a, b, c, d, e][j]? = some u → (W.alloc (.cells #[a, b, c, d, e] t)).cell? ((⟨W.heap.size, 0, none⟩ : Addr).add j) = some u := by
  intro j u hj
  match j, hj with
  | 0, hj => simp at hj; subst hj; simp [Addr.add, go_sem]
  | 1, hj => simp at hj; subst hj; simp [Addr.add, go_sem]
  | 2, hj => simp at hj; subst hj; simp [Addr.add, go_sem]
  | 3, hj => simp at hj; subst hj; simp [Addr.add, go_sem]
  | 4, hj => simp at hj; subst hj; simp [Addr.add, go_sem]
theorem fiveG (a b c d e : Int) : ∀ u ∈ [Value.int .u64 a, Value.int .u64 b, Value.int .u64 c, Value.int .u64 d, Value.int .i64 e], u.oneCell' = true := by
  intro u hu; simp at hu; rcases hu with rfl | rfl | rfl | rfl | rfl <;> rfl
/-- A list of segments in memory, whosever it is. -/
def RwG (W : World) (v : Value) (l : List Sg) : Prop := ∃ ao c, v = .slice ao l.length c ∧ (l = [] ∨ ∃ b off, ao = some ⟨b, off, none⟩ ∧ ∀ j u, (rowG l)[j]? = some u → W.cell? ⟨b, off + j, none⟩ = some u)
theorem RwG.below {W W' : World} {v : Value} {l : List Sg} (h : RwG W v l) (hb : Below W.heap.size W W') : RwG W' v l := by
  obtain ⟨ao, c, e, h⟩ := h
  refine ⟨ao, c, e, h.imp id ?_⟩
  rintro ⟨b, off, e', hc⟩
  exact ⟨b, off, e', fun j u hj => keepc hb (hc j u hj)⟩
theorem row_rwg {W : World} {v : Value} {l : List Sg} (h : Row W 5 v l.length (rowG l)) : RwG W v l := by
  obtain ⟨-, ao, c, e, -, h⟩ := h
  refine ⟨ao, c, e, ?_⟩
  rcases h with ⟨-, -, h⟩ | h
  · exact .inl (List.length_eq_zero_iff.mp h)
  · exact .inr h
/-- The error of one segment. -/
def sgE (F : Int) (s : Sg) : Int := if rightE F s.1.1 = 0 then (if rightE F s.1.2 = 0 then (if s.2 < 0 then 15 else if 65535 < s.2 then 15 else if cmpZ s.1.2 s.1.1 < 0 then 19 else 0) else 6) else 6
def moO (F : Int) : Option Sg → Bool
  | none => true
  | some s => nextB F s.1.2
def nxO (F : Int) : Option Sg → BitVec 128
  | none => 0#128
  | some s => nextV F s.1.2
/-- The error of segments behind one, or behind none. -/
def sgsGo (F : Int) : Option Sg → List Sg → Int
  | p, [] => if moO F p = true then 19 else 0
  | p, s :: l => if sgE F s = 0 then (if moO F p = true then (if (s.1.1 == nxO F p) = true then (if p.map (·.2) = some s.2 then 19 else sgsGo F (some s) l) else 19) else 19) else sgE F s
def sgsE (F : Int) (l : List Sg) : Int := if fam F = true then (if l = [] then 2 else sgsGo F none l) else 11
end Go.Proofs.Ytmeaikmmhgmgnaa
/-
  What lies in one block of memory goes by that block alone.
-/
namespace Go.Proofs.Ytmeaikmmhgmgnaa
open Go.RowKit
set_option linter.unusedSimpArgs false
set_option linter.unusedVariables false

theorem cellH {W W' : World} {B : Nat} (e : W'.heap[B]? = W.heap[B]?) (o : Nat) : W'.cell? ⟨B, o, none⟩ = W.cell? ⟨B, o, none⟩ := World.cell?_of_block (w := W) (a := ⟨B, o, none⟩) e
theorem frozH {W W' : World} {B : Nat} (e : W'.heap[B]? = W.heap[B]?) (o : Nat) : W'.frozen? ⟨B, o, none⟩ = W.frozen? ⟨B, o, none⟩ := World.frozen?_of_block (w := W) (a := ⟨B, o, none⟩) e
theorem AtG.heap {W W' : World} {B : Nat} {x y : BitVec 128} {h : Int} (k : AtG W B x y h) (e : W'.heap[B]? = W.heap[B]?) : AtG W' B x y h := by
  unfold AtG at *
  simpa only [cellH e, frozH e] using k
theorem At.heap {W W' : World} {B : Nat} {x : BitVec 128} (k : At W B x) (e : W'.heap[B]? = W.heap[B]?) (hs : W.heap.size ≤ W'.heap.size) : At W' B x := by
  unfold At at *
  simp only [cellH e, frozH e]
  exact ⟨k.1, k.2.1, k.2.2.1, k.2.2.2.1, by omega⟩
theorem AtR.heap {W W' : World} {B : Nat} {x : BitVec 128} {n h : Int} (k : AtR W B x n h) (e : W'.heap[B]? = W.heap[B]?) : AtR W' B x n h := by
  unfold AtR at *
  simpa only [cellH e] using k
/-- A table in memory, which may be written. -/
def AtU (W : World) (B : Nat) (F : Int) (v : Value) : Prop := W.cell? ⟨B, 0, none⟩ = some (.int .i64 F) ∧ W.cell? ⟨B, 1, none⟩ = some v ∧ W.frozen? ⟨B, 0, none⟩ = false ∧ W.frozen? ⟨B, 1, none⟩ = false
theorem AtU.heap {W W' : World} {B : Nat} {F : Int} {v : Value} (k : AtU W B F v) (e : W'.heap[B]? = W.heap[B]?) : AtU W' B F v := by
  unfold AtU at *
  simpa only [cellH e, frozH e] using k
theorem AtU.lt {W : World} {B : Nat} {F : Int} {v : Value} (k : AtU W B F v) : B < W.heap.size := cell_in k.1
theorem AtU.set1 {W : World} {B : Nat} {F : Int} {v : Value} (k : AtU W B F v) (u : Value) : AtU (W.setCell ⟨B, 1, none⟩ u) B F u := by
  obtain ⟨a, b, c, d⟩ := k
  refine ⟨?_, ?_, ?_, ?_⟩ <;> simp [go_sem, *]
theorem AtU.set2 {W : World} {B : Nat} {F : Int} {v : Value} (k : AtU W B F v) (G : Int) (u : Value) : AtU ((W.setCell ⟨B, 0, none⟩ (.int .i64 G)).setCell ⟨B, 1, none⟩ u) B G u := by
  obtain ⟨a, b, c, d⟩ := k
  refine ⟨?_, ?_, ?_, ?_⟩ <;> simp [go_sem, *]
theorem atu_new (W : World) (B : Nat) (F : Int) (v : Value) (T : TypeId) (e : B = W.heap.size) : AtU (W.alloc (.cells #[.int .i64 F, v] T)) B F v := by
  subst e
  refine ⟨?_, ?_, ?_, ?_⟩ <;> simp [go_sem]
theorem own_heap {W W' : World} {base e size n : Nat} {v : Value} {xs : List Value} (h : W.ownsRow base e size v n xs) (he : ∀ g, v.ownBlock = some g → W'.heap[g]? = W.heap[g]?) : W'.ownsRow base e size v n xs := by
  refine ⟨h.1, ?_⟩
  rcases h.2 with hn | ⟨g, cap, cur, rfl, hb, hg, rest⟩
  · exact .inl hn
  · exact .inr ⟨g, cap, cur, rfl, hb, by rw [he g rfl]; exact hg, rest⟩
theorem hAl {W : World} (o : Obj) {k : Nat} (h : k < W.heap.size) : (W.alloc o).heap[k]? = W.heap[k]? := Below.heap_alloc W o k h
theorem hSet {W : World} {b o : Nat} (u : Value) {k : Nat} (h : ¬ k = b) : (W.setCell ⟨b, o, none⟩ u).heap[k]? = W.heap[k]? := Below.heap_setCell W ⟨b, o, none⟩ u k h
theorem own_lt {W : World} {base e size n : Nat} {v : Value} {xs : List Value} (h : W.ownsRow base e size v n xs) {g : Nat} (e : v.ownBlock = some g) : base ≤ g ∧ g < W.heap.size := h.lt g e
theorem own_wide {w : World} {base base' e size n : Nat} {v : Value} {xs : List Value} (h : w.ownsRow base e size v n xs) (hb : base' ≤ base) : w.ownsRow base' e size v n xs := by
  refine ⟨h.1, ?_⟩
  rcases h.2 with hn | ⟨g, cap, cur, hv, h1, h2⟩
  · exact .inl hn
  · exact .inr ⟨g, cap, cur, hv, by omega, h2⟩
end Go.Proofs.Ytmeaikmmhgmgnaa
/-
  What a call of package prefix's Last does.
-/
namespace Go.Proofs.Ytmeaikmmhgmgnaa
open Go.RowKit
set_option linter.unusedSimpArgs false
set_option linter.unusedVariables false

/-- The prefix, and the word that is answered, in memory. -/
def LS (w : World) (x : BitVec 128) (n : Int) (W : World) : Prop := AtP W w.heap.size x n ∧ At W (w.heap.size + 1) 0#128 ∧ Below w.heap.size w W
theorem LS.below {w W W' : World} {x : BitVec 128} {n : Int} (h : LS w x n W) (hb : Below W.heap.size W W') : LS w x n W' := ⟨h.1.below hb, h.2.1.below hb, keepb hb h.2.2⟩
theorem LS.al {w W : World} {x : BitVec 128} {n : Int} (h : LS w x n W) (o : Obj) : LS w x n (W.alloc o) := h.below (bl1 W o)
theorem LS.drew {w W : World} {x : BitVec 128} {n : Int} (h : LS w x n W) : LS w x n W.drew := ⟨h.1, h.2.1, h.2.2.drew⟩
theorem LS.first (w : World) (x : BitVec 128) (n : Int) : LS w x n ((w.alloc (.cells #[.int .u64 (hI x), .int .u64 (lI x), .int .i64 n] 38)).alloc (.cells #[.int .u64 0, .int .u64 0] 36)) :=
  ⟨(atp_new w w.heap.size x n 38 rfl).below (bl1 _ _), at_new (w.alloc (.cells #[.int .u64 (hI x), .int .u64 (lI x), .int .i64 n] 38)) (w.heap.size + 1) 0#128 36 (by simp), bl2 _ _ _⟩
theorem LS.set {w W : World} {x : BitVec 128} {n : Int} (h : LS w x n W) {N : Nat} (hN : w.heap.size + 1 < N) (u v : Value) : LS w x n ((W.setCell ⟨N, 0, none⟩ u).setCell ⟨N, 1, none⟩ v) := by
  obtain ⟨⟨a0, a1, a2, a3, a4, a5⟩, h2, h3⟩ := h
  have d0 : ¬ N = w.heap.size := by omega
  have d1 : ¬ w.heap.size = N := by omega
  refine ⟨?_, h2.other u v (by omega), bset2 h3 (by omega) _ _⟩
  refine ⟨?_, ?_, ?_, ?_, ?_, ?_⟩ <;> simp [go_sem, *]
theorem at_new0 (w : World) : At (w.alloc (.cells #[.int .u64 0, .int .u64 0] 36)) w.heap.size 0#128 := at_new w w.heap.size 0#128 36 rfl
theorem at_new0d (w : World) (N : Nat) (h : N = w.heap.size) : At (w.alloc (.cells #[.int .u64 0, .int .u64 0] 36)).drew N 0#128 := at_new w N 0#128 36 h
def lastW (F : Int) (x : BitVec 128) (n : Int) : BitVec 128 := x ||| (maskW F ^^^ maskW n)
end Go.Proofs.Ytmeaikmmhgmgnaa
/-
  What a sweep through a table's routes tells, as a plain function.
-/
namespace Go.Proofs.Ytmeaikmmhgmgnaa
set_option linter.unusedSimpArgs false
set_option linter.unusedVariables false

/-- A segment behind those that are told; the last one stands first. -/
def behS : List Sg → Sg → List Sg
  | [], s => [s]
  | a :: st, s => if a.2 = s.2 then ((a.1.1, s.1.2), a.2) :: st else s :: a :: st
/-- The first address of which nothing is told, whether there is none, what is told. -/
abbrev T3 := BitVec 128 × Bool × List Sg
def tell3 (F : Int) (la : BitVec 128) (h : Int) (t : T3) : T3 := if t.2.1 = true then t else if cmpZ la t.1 < 0 then t else (nextV F la, !nextB F la, behS t.2.2 ((t.1, la), h))
def popO (r : Rte) : List Rte → List Rte
  | [] => []
  | o :: os => if withinB r.1.1 r.1.2 o.1.1 o.1.2 = true then o :: os else popO r os
def popT (F : Int) (r : Rte) : List Rte → T3 → T3
  | [], t => t
  | o :: os, t => if withinB r.1.1 r.1.2 o.1.1 o.1.2 = true then t else popT F r os (tell3 F (lastW F o.1.1 o.1.2) o.2 t)
def entT (F : Int) (r : Rte) (h : Int) (t : T3) : T3 := if prevB F r.1.1 = true then tell3 F (prevV F r.1.1) h t else t
def endT (F : Int) : List Rte → T3 → T3
  | [], t => t
  | o :: os, t => endT F os (tell3 F (lastW F o.1.1 o.1.2) o.2 t)
def hopO : List Rte → Int
  | [] => 0
  | o :: _ => o.2
def swpGo (F : Int) : List Rte → T3 → List Rte → T3
  | op, t, [] => endT F op t
  | op, t, r :: l => swpGo F (r :: popO r op) (entT F r (hopO (popO r op)) (popT F r op t)) l
def op0 : List Rte := [((0#128, 0), 0)]
def t30 : T3 := (0#128, false, [])
def swp (F : Int) (l : List Rte) : List Sg := (swpGo F op0 t30 l).2.2.reverse
/-- The list of open routes ends with the one that has all addresses. -/
def Bot (op : List Rte) : Prop := ∃ os, op = os ++ op0
theorem Bot.ne {op : List Rte} (h : Bot op) : op ≠ [] := by obtain ⟨os, rfl⟩ := h; simp [op0]
theorem Bot.tl {o : Rte} {os : List Rte} (h : Bot (o :: os)) (r : Rte) (hr : 0 ≤ r.1.2) (hw : ¬ withinB r.1.1 r.1.2 o.1.1 o.1.2 = true) : Bot os := by
  obtain ⟨l, e⟩ := h
  cases l with
  | nil =>
    exfalso
    have e : o = ((0#128, 0), 0) := by have := List.cons.inj e; exact this.1
    subst e
    apply hw
    unfold withinB
    simp [hr, cutW, show maskW 0 = 0#128 by decide]
  | cons a l =>
    have := List.cons.inj e
    exact ⟨l, this.2⟩
theorem Bot.pop (r : Rte) (hr : 0 ≤ r.1.2) : ∀ op : List Rte, Bot op → Bot (popO r op)
  | [], h => h
  | o :: os, h => by
    rw [popO]
    split
    · exact h
    · rename_i hw; exact Bot.pop r hr os (h.tl r hr hw)
theorem behS_len (st : List Sg) (s : Sg) : (behS st s).length ≤ st.length + 1 := by
  cases st with
  | nil => simp [behS]
  | cons a st => simp only [behS]; split <;> simp
theorem tell3_len (F : Int) (la : BitVec 128) (h : Int) (t : T3) : (tell3 F la h t).2.2.length ≤ t.2.2.length + 1 := by
  unfold tell3
  split
  · omega
  · split
    · omega
    · exact behS_len _ _
theorem popT_len (F : Int) (r : Rte) : ∀ (op : List Rte) (t : T3), (popT F r op t).2.2.length + (popO r op).length ≤ t.2.2.length + op.length
  | [], t => by simp [popT, popO]
  | o :: os, t => by
    rw [popT, popO]
    split
    · simp
    · have h1 := popT_len F r os (tell3 F (lastW F o.1.1 o.1.2) o.2 t)
      have h2 := tell3_len F (lastW F o.1.1 o.1.2) o.2 t
      simp only [List.length_cons]
      omega
theorem entT_len (F : Int) (r : Rte) (h : Int) (t : T3) : (entT F r h t).2.2.length ≤ t.2.2.length + 1 := by
  unfold entT
  split
  · exact tell3_len _ _ _ _
  · omega
end Go.Proofs.Ytmeaikmmhgmgnaa
/-
  What the call of package algebra's behind does.
-/
namespace Go.Proofs.Ytmeaikmmhgmgnaa
open Go.RowKit
set_option linter.unusedSimpArgs false
set_option linter.unusedVariables false

theorem setG (A : List Value) (n : Nat) (hA : A.length = n * 5) (a b c d e u v : Value) : ((A ++ [a, b, c, d, e]).set (n * 5 + 2) u).set (n * 5 + 3) v = A ++ [a, b, u, v, e] := by
  rw [List.set_append, if_neg (by omega), hA, show n * 5 + 2 - n * 5 = 2 by omega, List.set_append, if_neg (by omega), hA, show n * 5 + 3 - n * 5 = 3 by omega]
  rfl
theorem own_cap6 {W : World} {base e size n g c : Nat} {xs : List Value} (h : W.ownsRow base e size (.slice (some ⟨g, 0, none⟩) n c) n xs) : n ≤ c := by
  rcases h.2 with ⟨e0, _⟩ | ⟨g', cap', cur, e0, hb, hg, hnc, hm, hs, ht⟩
  · cases e0
  · injection e0 with e1 _ e3
    omega
theorem ownR_cells6 {W : World} {base n g c : Nat} {l : List Rte} (h : W.ownsRow base 40 4 (.slice (some ⟨g, 0, none⟩) n c) n (rowR l)) (j : Nat) (hj : j < l.length) :
    W.cell? ⟨g, j * 4, none⟩ = some (.int .u64 (hI l[j].1.1)) ∧ W.cell? ⟨g, j * 4 + 1, none⟩ = some (.int .u64 (lI l[j].1.1)) ∧ W.cell? ⟨g, j * 4 + 2, none⟩ = some (.int .i64 l[j].1.2) ∧ W.cell? ⟨g, j * 4 + 3, none⟩ = some (.int .i64 l[j].2) := by
  obtain ⟨a0, a1, a2, a3⟩ := rowR_get l j hj
  have f := fun k u => h.cells (g := g) rfl k u
  exact ⟨by have := f _ _ a0; rwa [addA, Nat.zero_add] at this, by have := f _ _ a1; rwa [addA, Nat.zero_add] at this, by have := f _ _ a2; rwa [addA, Nat.zero_add] at this, by have := f _ _ a3; rwa [addA, Nat.zero_add] at this⟩
theorem grown_drew6 (W : World) (n : Nat) (r : Option Nat) : W.grownBy (W.drewN n) r := ⟨rfl, rfl, rfl, Nat.le_refl _, fun _ _ _ => rfl⟩
theorem newsGB (W : World) (B : Nat) (hB : B = W.heap.size) (a b c d e : Value) (t : TypeId) : ∀ j u, [a, b, c, d, e][j]? = some u → (W.alloc (.cells #[a, b, c, d, e] t)).cell? ((⟨B, 0, none⟩ : Addr).add j) = some u := by
  subst hB
  exact newsG W a b c d e t
end Go.Proofs.Ytmeaikmmhgmgnaa
/-
  Two rows that are written over and grown, and all else that stays.
-/
namespace Go.Proofs.Ytmeaikmmhgmgnaa
open Go.RowKit
set_option linter.unusedSimpArgs false
set_option linter.unusedVariables false

/-- All blocks but some are as they were. -/
structure Bt (M : Nat → Prop) (V W : World) : Prop where
  os : W.os = V.os
  tape : W.tape = V.tape
  output : W.output = V.output
  size : V.heap.size ≤ W.heap.size
  blk : ∀ z, z < V.heap.size → ¬ M z → W.heap[z]? = V.heap[z]?
theorem Bt.refl (M : Nat → Prop) (V : World) : Bt M V V := ⟨rfl, rfl, rfl, Nat.le_refl _, fun _ _ _ => rfl⟩
theorem Bt.below {M : Nat → Prop} {V W W' : World} (h : Bt M V W) {B : Nat} (hb : Below B W W') (hB : V.heap.size ≤ B) : Bt M V W' :=
  ⟨by rw [hb.os, h.os], by rw [hb.tape, h.tape], by rw [hb.output, h.output], Nat.le_trans h.size hb.size, fun z h1 h2 => by rw [hb.block z (by omega), h.blk z h1 h2]⟩
theorem Bt.set {M : Nat → Prop} {V W : World} (h : Bt M V W) {g : Nat} (hg : M g ∨ V.heap.size ≤ g) (o : Nat) (u : Value) : Bt M V (W.setCell ⟨g, o, none⟩ u) := by
  have b : Below 0 W (W.setCell ⟨g, o, none⟩ u) := (Below.refl _ _).setCell (Nat.zero_le _) u
  refine ⟨by rw [b.os, h.os], by rw [b.tape, h.tape], by rw [b.output, h.output], Nat.le_trans h.size b.size, fun z h1 h2 => ?_⟩
  rw [hSet _ (fun e => ?_), h.blk z h1 h2]
  rcases hg with q | q
  · exact h2 (by rw [e]; exact q)
  · omega
theorem Bt.grown {M : Nat → Prop} {V W W' : World} (h : Bt M V W) {r : Option Nat} (hg : W.grownBy W' r) (hr : ∀ z, r = some z → M z ∨ V.heap.size ≤ z) : Bt M V W' :=
  ⟨by rw [hg.os, h.os], by rw [hg.tape, h.tape], by rw [hg.output, h.output], Nat.le_trans h.size hg.size, fun z h1 h2 => by
    rw [hg.block z (by have := h.size; omega) (fun e => ?_), h.blk z h1 h2]
    rcases hr z e.symm with q | q
    · exact h2 q
    · omega⟩
theorem Bt.low {M : Nat → Prop} {w V W : World} (h : Bt M V W) (hb : Below w.heap.size w V) (hM : ∀ z, M z → w.heap.size ≤ z) : Below w.heap.size w W :=
  ⟨by rw [h.os, hb.os], by rw [h.tape, hb.tape], by rw [h.output, hb.output], Nat.le_trans hb.size h.size, fun z hz => by
    rw [h.blk z (by have := hb.size; omega) (fun q => by have := hM z q; omega), hb.block z hz]⟩
theorem own_any {W : World} {base e size n g cap : Nat} {xs : List Value} (h : W.ownsRow base e size (.slice (some ⟨g, 0, none⟩) n cap) n xs) (j : Nat) (hj : j < n * size) : (∃ u, W.cell? ⟨g, j, none⟩ = some u) ∧ W.frozen? ⟨g, j, none⟩ = false := by
  refine ⟨?_, h.frozenAt j⟩
  rw [h.cellAt j hj]
  exact ⟨_, List.getElem?_eq_getElem (by rw [h.1]; exact hj)⟩
end Go.Proofs.Ytmeaikmmhgmgnaa
/-
  A region that draws its order and calls a loop's body (yield): what stands ahead of that call is quiet, in whatever order; behind it all stands in order.
-/
namespace Go.Proofs.Ytmeaikmmhgmgnaa
open Go.RowKit
set_option linter.unusedSimpArgs false
set_option linter.unusedVariables false

section
variable {P : Program}

theorem oper_wide {n : Nat} {o : Oper} {a : Act} {w : World} {K : Act → World → Prop} {Q : Exit → Act → World → Prop} (h : o.wp P a w K Q) : o.wpIn Fence.wide n P a w K Q := by
  refine ⟨fun _ _ => trivial, ?_⟩
  rw [Fence.wide_round, Oper.semAt_none]
  unfold Oper.wp Oper.upon at h
  unfold Oper.uponIn
  cases hr : (execOp a.eval o).run P w with
  | ok x w' =>
    rw [hr] at h
    cases x with
    | value v => exact h
    | skip => exact h
    | defer d => exact h
    | enter f args => exact ⟨fun q => (by cases q), callsIn_wide.2 h⟩
    | row r args => exact ⟨fun q => (by cases q), fun c cs _ => let ⟨v, w'', r', s⟩ := h c cs; ⟨v, w'', r', stepsIn_wide.2 s⟩⟩
    | _ => exact h.elim
  | halt x w' =>
    rw [hr] at h
    cases x with
    | panic v => exact h
    | _ => exact h.elim
theorem any_seqIn {n : Nat} {md : Region.Mode} {ops : Array Oper} {Q : Exit → Act → World → Prop} : ∀ (l : List Oper) (k : Nat) (listed : Array Bool) (a : Act) (w : World), (∀ i, l[i]? = ops[k + i]?) → seqB md ops l.length k listed = true →
    wpListIn Fence.wide n P ops Q l a w → wpAnyIn Fence.wide n P md ops Q l.length listed a w
  | [], k, listed, a, w, _, hB, h => by
    simp only [List.length_nil, seqB, beq_iff_eq] at hB
    exact ⟨hB, h⟩
  | o :: l, k, listed, a, w, hl, hB, h => by
    simp only [List.length_cons, seqB, Bool.and_eq_true, beq_iff_eq] at hB
    refine ⟨fun e => (by rw [hB.1] at e; cases e), fun i hi => ?_⟩
    rw [hB.1] at hi
    have e : i = k := by simpa using hi
    subst e
    have h0 : ops[i]? = some o := by simpa using (hl 0).symm
    unfold wpOpIn
    simp only [h0]
    have ih : ∀ a w, wpListIn Fence.wide n P ops Q l a w → wpAnyIn Fence.wide n P md ops Q l.length (listed.setIfInBounds i true) a w := fun a w h => any_seqIn l (i + 1) (listed.setIfInBounds i true) a w (fun q => by have := hl (q + 1); simpa [Nat.add_assoc, Nat.add_comm 1 q] using this) hB.2 h
    unfold wpListIn at h
    split
    · rename_i hw
      rw [if_pos hw] at h
      exact Oper.wpIn_mono ih h
    · rename_i hw
      rw [if_neg hw] at h
      exact ⟨h.1, ih _ _ h.2⟩
theorem wpIn_of_yields {n : Nat} {ops ops' : Array Oper} {C : World → Prop} {Q : Exit → Act → World → Prop} {i : Nat} {o : Oper} {v : Value} {a : Act} {w : World} {K : Act → World → Prop} (ho : ops[i]? = some o) (hw : Region.wanted o (yielded ops' a.tmps) = Region.wanted o (yielded ops a.tmps))
    (hy : YieldsIn P ops' C o v a) (hC : C w) (h : ∀ w', C w' → K (a.put o.dst v) w') : wpOpIn Fence.wide n P ops Q i K a w := by
  unfold wpOpIn
  simp only [ho]
  rcases hy with ⟨h1, h2⟩ | ⟨h1, h2⟩
  · rw [if_pos (by rw [← hw]; exact h1)]
    exact oper_wide (Oper.wp_of_quiet (K := fun a' => a' = a.put o.dst v) hC (fun a' w' hw' e => by rw [e]; exact h w' hw') ⟨v, h2, rfl⟩)
  · rw [if_neg (by rw [← hw, h1]; decide)]
    refine ⟨fun _ _ => trivial, ?_⟩
    rw [← h2]
    exact h w hC
theorem done_anyIn {n : Nat} {l : List Oper} {m j : Nat} (ok : QpOk l m j) {C : World → Prop} {N : Value} {A : Act} {Q : Exit → Act → World → Prop}
    (hpost : ∀ w, C w → wpListIn Fence.wide n P l.toArray Q (l.drop m) A w) : ∀ (fuel : Nat) (lp : Array Bool) (a : Act) (w : World), lp.size = m → unl lp = fuel → (j < m → lp.getD j false = true) → C w →
      wpAnyQ P .any (rep (l.take m) j N).toArray C (fun a' => a' = A) fuel lp a → wpAnyIn Fence.wide n P .any l.toArray Q (fuel + (l.length - m)) (lp ++ Array.replicate (l.length - m) false) a w := by
  intro fuel
  induction fuel with
  | zero =>
    intro lp a w hs hu hj hC h
    rw [h.2, unl_zero lp hu, hs, Nat.zero_add, show l.length - m = (l.drop m).length by simp]
    refine any_seqIn (l.drop m) m _ A w (fun i => by simp) ?_ (hpost w hC)
    have := ok.seq
    rwa [show l.length - m = (l.drop m).length by simp] at this
  | succ fuel ih =>
    intro lp a w hs hu hj hC h
    rw [show fuel + 1 + (l.length - m) = (fuel + (l.length - m)) + 1 by omega]
    have key : ∀ i ∈ Region.ready .any l.toArray (lp ++ Array.replicate (l.length - m) false), wpOpIn Fence.wide n P l.toArray Q i (wpAnyIn Fence.wide n P .any l.toArray Q (fuel + (l.length - m)) ((lp ++ Array.replicate (l.length - m) false).setIfInBounds i true)) a w := by
      intro i hi
      obtain ⟨him, hir⟩ := ready_pre l m j N ok.ml ok.wait lp hs fuel hu i hi
      obtain ⟨hun, _⟩ := mem_ready.1 hir
      have hij : i ≠ j := by
        intro e
        subst e
        have hj := hj him
        rw [Array.getD_eq_getD_getElem?] at hun hj
        cases q : lp[i]? with
        | none => rw [q] at hun; simp at hun
        | some b => rw [q] at hun hj; simp at hun hj; rw [hun] at hj; cases hj
      obtain ⟨_, o, ho, _⟩ := mem_ready.1 hi
      have ho' : l[i]? = some o := by simpa using ho
      have hor : (rep (l.take m) j N).toArray[i]? = some o := by
        simp only [List.getElem?_toArray]
        rw [rep_ne _ _ _ _ hij, List.getElem?_take, if_pos him]; exact ho'
      obtain ⟨v, hy, hK⟩ := yieldsIn_of_qOp hor (h.2 i hir)
      refine wpIn_of_yields ho (wanted_rep l m j N a o o rfl (ok.guards i o ho')) hy hC (fun w' hw' => ?_)
      rw [set_app lp _ i (by omega)]
      refine ih _ _ w' (by simp [hs]) (by have := unl_set lp i hun; omega) ?_ hw' hK
      exact fun q => getD_set_true (hj q)
    refine ⟨fun e => ?_, key⟩
    obtain ⟨k, hk, hf⟩ := unl_some lp fuel hu
    exact absurd e (some_ready ok lp hs k (by omega) hf)
/-- The law. -/
theorem yd_region {id : Nat} {l : List Oper} (n m : Nat) (ok : QpOk l m m) {C : World → Prop} {Q : Exit → Act → World → Prop} {a : Act} {w : World} (ds : List (Option Tmp)) (vals : List Value) (hm : P.follows .mixedOrders = true)
    (hC : C w.drew) (hwalk : wpQuiet P (l.take m).toArray C (fun a' => a' = putAll a ds vals) (l.take m) a) (hpost : ∀ w, C w → wpListIn Fence.wide n P l.toArray Q (l.drop m) (putAll a ds vals) w) : (Code.region id l.toArray true).wp P Q a w := by
  refine (wpIn_wide (n := n)).1 ?_
  refine wpIn_region_any hm ?_
  have hml := ok.ml
  have hlen : (l.take m).length = m := by rw [List.length_take]; omega
  have any : wpAnyQ P .any (l.take m).toArray C (fun a' => a' = putAll a ds vals) m (Array.replicate m false) a := by
    have hB := ok.lex undef
    rw [rep_out _ _ _ (by omega)] at hB
    simp only [Region.lexB, Bool.and_eq_true] at hB
    have := wpAnyQ_lex (C := C) (md := .any) hB.1 (l.take m) 0 (Array.replicate m false) a (by simp) (by have := hB.2; simpa [hlen, hml] using this) hwalk
    rwa [hlen] at this
  have hu : unl (Array.replicate m false) = m := by unfold unl; simp
  have main := done_anyIn (P := P) (n := n) (N := undef) ok hpost m (Array.replicate m false) a w.drew (by simp) hu (fun q => absurd q (Nat.lt_irrefl _)) hC (by rw [rep_out _ _ _ (by omega)]; exact any)
  have e1 : m + (l.length - m) = l.toArray.size := by simp; omega
  have e2 : Array.replicate m false ++ Array.replicate (l.length - m) false = Array.replicate l.toArray.size false := by
    rw [Array.replicate_append_replicate]; congr 1
  rw [e1, e2] at main
  exact main
/-- The call of the body itself, the rest plain. -/
theorem yd_call {n : Nat} {ops : Array Oper} {Q : Exit → Act → World → Prop} {a : Act} {w : World} {o : Oper} {rest : List Oper} {l : Nat} {args : Array Value} {R : Ending → World → Prop} (hgd : o.guard = none)
    (hy : YieldAt Fence.wide (n - 1) P l args w R) (hex : ∀ r, (Instr.yield l args).run P w = r → (execOp a.eval o).run P w = r) (hR : ∀ e w', R e w' → (∃ v, e = .returned v ∧ wpListIn Fence.wide n P ops Q rest (a.put o.dst v) w')) : wpListIn Fence.wide n P ops Q (o :: rest) a w := by
  obtain ⟨fn, tmps, assign, body, h1, h2⟩ := hy
  have h3 := hex _ h1
  unfold wpListIn
  rw [if_pos (by simp [Region.wanted, hgd])]
  refine ⟨fun _ _ => trivial, ?_⟩
  rw [Fence.wide_round, Oper.semAt_none, h3]
  refine ⟨fun q => (by cases q), h2.mono ?_⟩
  intro e w' hr
  obtain ⟨v, rfl, hv⟩ := hR e w' hr
  exact hv
theorem yd_plain {n : Nat} {ops : Array Oper} {Q : Exit → Act → World → Prop} {a : Act} {w : World} {o : Oper} {rest : List Oper} {v : Value} (hgd : o.guard = none) (hex : (execOp a.eval o).run P w = .ok (.value v) w) (h : wpListIn Fence.wide n P ops Q rest (a.put o.dst v) w) : wpListIn Fence.wide n P ops Q (o :: rest) a w := by
  unfold wpListIn
  rw [if_pos (by simp [Region.wanted, hgd])]
  refine ⟨fun _ _ => trivial, ?_⟩
  rw [Fence.wide_round, Oper.semAt_none, hex]
  exact h
end
end Go.Proofs.Ytmeaikmmhgmgnaa
/-
  A range over a function whose sequence ranges over another one within: a contract and a law.
-/
namespace Go.Proofs.Ytmeaikmmhgmgnaa
open Go.RowKit Go.Shelf
set_option linter.unusedSimpArgs false
set_option linter.unusedVariables false

section
variable {P : Program}
/-- What a sequence tells, of rounds whose invariant abides a turn of whatever later block that holds no cells. -/
def SeqX {α : Type} (n : Nat) (P : Program) (g : Nat) (lb : Array Value) (encs : α → Array Value) (Kp : World → World → Prop) (S Sp : List α → Prop) (Bd : Nat) (w : World) : Prop :=
  ∀ (l : Nat) (J Jx : List α → World → Prop) (W : World), Below w.heap.size w W → Bd ≤ W.heap.size → OwnFrom W.heap.size J → OwnFrom W.heap.size Jx →
    (∀ pre x V, J pre V → Sp (pre ++ [x]) → YieldAt Fence.wide (n - 1) P l (encs x) V fun e V' => (e = .returned (.bool true) ∧ J (pre ++ [x]) V' ∧ Kp V V') ∨ (e = .returned (.bool false) ∧ Jx (pre ++ [x]) V' ∧ Kp V V')) →
    J [] W → CallsIn Fence.wide n P g (#[.func (.yield l) #[] #[]] ++ lb) W fun e W' => (∃ v, e = .returned v) ∧ ((∃ xs, S xs ∧ J xs W') ∨ (∃ pre, Sp pre ∧ Jx pre W'))
/-- How the body of a round may be left. -/
def postX {α : Type} (B : Nat) (Kp : World → World → Prop) (I : List α → World → Prop) (Ix : Code → List α → World → Prop) (xs : List α) (W : World) : Exit → Act → World → Prop
  | .normal, _, W' => KeepsFrom B W W' ∧ Kp W W' ∧ I xs W'
  | .ret, _, W' => KeepsFrom B W W' ∧ Kp W W' ∧ Ix .ret xs W'
  | .exit id, _, W' => KeepsFrom B W W' ∧ Kp W W' ∧ Ix (.exit id) xs W'
  | .goto t, _, W' => KeepsFrom B W W' ∧ Kp W W' ∧ Ix (.goto t) xs W'
  | .panic _, _, _ => False
  | .outgrown, _, _ => False
theorem postX_out {α : Type} {B : Nat} {Kp : World → World → Prop} {I : List α → World → Prop} {Ix : Code → List α → World → Prop} {xs : List α} {W : World} : ¬ LetsOut (postX B Kp I Ix xs W) := fun ⟨_, _, h⟩ => h
/-- What stands in the loop's two blocks between two rounds. -/
structure Bk (B : Nat) (r : Loop) (W : World) : Prop where
  rec' : W.heap[B + 1]? = some (.loop r)
  dfr : W.heap[B]? = some (.deferred (some []))
theorem Bk.lt {B : Nat} {r : Loop} {W : World} (k : Bk B r W) : B + 1 < W.heap.size := (Array.getElem?_eq_some_iff.1 k.rec').1
theorem Bk.from {B : Nat} {r : Loop} {W W' : World} (k : Bk B r W) (h : KeepsFrom B W W') : Bk B r W' := ⟨h.same _ _ (by omega) k.rec' rfl, h.same _ _ (Nat.le_refl _) k.dfr rfl⟩
theorem Bk.turn {B : Nat} {r : Loop} {W : World} (k : Bk B r W) (r' : Loop) : Bk B r' (W.putObj (B + 1) (.loop r')) := ⟨World.putObj_heap_same k.lt, (World.putObj_heap_other (by omega)).trans k.dfr⟩
theorem Bk.grown {B : Nat} {r : Loop} {W W' : World} {row : Option Nat} (k : Bk B r W) (h : W.grownBy W' row) (hr : ∀ z, row = some z → B + 2 ≤ z) : Bk B r W' := by
  have hl := k.lt
  exact ⟨(h.block _ hl (fun e => by have := hr _ e.symm; omega)).trans k.rec', (h.block _ (by omega) (fun e => by have := hr _ e.symm; omega)).trans k.dfr⟩
/-- How a round is left. -/
theorem bk_end {B : Nat} {r : Loop} {W : World} (k : Bk B r W) (jump : Option Code) : (Instr.endRound (B + 1) jump).run P W = .ok (.bool jump.isNone) (W.putObj (B + 1) (.loop { r with state := if jump.isNone then .ready else .done, pending := jump })) := run_endRound jump k.rec'
/-- The law. -/
theorem rangeX {α : Type} {g : Operand} {ps : Array Tmp} {assign body : Code} {Q : Exit → Act → World → Prop} {a : Act} {w : World} (n : Nat) (h1 : 1 ≤ n) {gf : Nat} {lb : Array Value} (hg : a.eval g = .func (.func gf) #[] lb) (eg : ∀ args w, (callFunc gf args).run P w = .ok (.enter gf args) w)
    {encs : α → Array Value} {Kp : World → World → Prop} {S Sp : List α → Prop} {Bd : Nat} {w0 : World} (hseq : SeqX (n - 1) P gf lb encs Kp S Sp Bd w0) (hBd : Bd ≤ w.heap.size + 2)
    (hKt : ∀ {A B C : World}, Kp A B → Kp B C → Kp A C) (hKb : ∀ (W : World) (o o' : Obj), W.heap[w.heap.size + 1]? = some o → o.isCells = false → Kp W (W.putObj (w.heap.size + 1) o')) (hb0 : Below w0.heap.size w0 w) (hps : ∀ x, (encs x).size = ps.size)
    (I : List α → World → Prop) (Ix : Code → List α → World → Prop) (hI : OwnFrom w.heap.size I) (hIx : ∀ c, OwnFrom w.heap.size (Ix c)) (h0 : I [] w) (Ax : α → Act → World → Prop) (hAx : ∀ x a', OwnFrom w.heap.size (fun (_ : Unit) W => Ax x a' W))
    (hassign : ∀ (l : Nat) (pre : List α) (x : α) (W : World) (K : Act → World → Prop), I pre W → (∀ a' W', KeepsFrom w.heap.size W W' → Kp W W' → I pre W' → Ax x a' W' → K a' W') →
      assign.wpIn (Fence.wide.inRound l) (n - 1 - 1) P (Exit.then K (fun _ _ _ => False)) { tmps := (ps.zip (encs x)).foldl (fun t (p, v) => t.setIfInBounds p v) a.tmps, defers := [] } W)
    (hbody : ∀ (l : Nat) (pre : List α) (x : α) (a' : Act) (W : World), w.heap.size ≤ l → (∃ r, W.heap[l]? = some (.loop r)) → I pre W → Ax x a' W → Sp (pre ++ [x]) → body.wpIn (Fence.wide.inRound l) (n - 1 - 1) P (postX w.heap.size Kp I Ix (pre ++ [x]) W) a' W)
    (hdone : ∀ (D : Nat) (xs : List α) (W : World), w.heap.size ≤ D → S xs → I xs W → W.heap[D]? = some (.deferred (some [])) → Q .normal { a with defers := { target := .collected D, args := #[] } :: a.defers } W)
    (hstop : ∀ (D : Nat) (c : Code) (pre : List α) (W : World), w.heap.size ≤ D → Sp pre → Ix c pre W → W.heap[D]? = some (.deferred (some [])) → c.wpIn Fence.wide n P Q { a with defers := { target := .collected D, args := #[] } :: a.defers } W) :
    (Code.rangeFunc g ps assign body).wpIn Fence.wide n P Q a w := by
  refine wpIn_rangeFunc (fun fn hfn => ?_)
  rw [Fence.wide_round]
  -- the record, by its state and its pending jump
  obtain ⟨rc, hrc⟩ : ∃ rc : LoopState → Option Code → Loop, ∀ s p, rc s p = { state := s, pending := p, fn, tmps := a.tmps, params := ps, assign, body, defers := w.heap.size } := ⟨_, fun _ _ => rfl⟩
  have bw := bl1 w (.deferred (some []))
  have bw2 := bl1 (w.alloc (.deferred (some []))) (.loop (rc .ready none))
  have k1 : Bk w.heap.size (rc .ready none) ((w.alloc (.deferred (some []))).alloc (.loop (rc .ready none))) := by
    refine ⟨?_, ?_⟩
    · have := World.alloc_heap_new (w.alloc (.deferred (some []))) (.loop (rc .ready none))
      rwa [World.size_alloc] at this
    · exact (bw2.block _ (by simp)).trans (World.alloc_heap_new w _)
  have i1 : I [] ((w.alloc (.deferred (some []))).alloc (.loop (rc .ready none))) := hI.alloc _ (hI.alloc _ h0)
  have b1 : Below w0.heap.size w0 ((w.alloc (.deferred (some []))).alloc (.loop (rc .ready none))) := keepb bw2 (keepb bw hb0)
  have hent : (Instr.enterLoop fn a.tmps ps assign body none).run P w = .ok (w.heap.size + 1, [{ target := .collected w.heap.size, args := #[] }]) ((w.alloc (.deferred (some []))).alloc (.loop (rc .ready none))) := by
    rw [hrc]
    exact run_enterLoop_outer _ _ _ _ _
  have hs1 : ((w.alloc (.deferred (some []))).alloc (.loop (rc .ready none))).heap.size = w.heap.size + 2 := by simp
  revert k1 i1 b1 hent hs1
  generalize (w.alloc (.deferred (some []))).alloc (.loop (rc .ready none)) = V1
  intro k1 i1 b1 hent hs1
  clear bw bw2
  refine ⟨w.heap.size + 1, _, V1, { target := .fn (.func gf) lb, args := #[.func (.yield (w.heap.size + 1)) #[] #[]] }, V1, gf, #[.func (.yield (w.heap.size + 1)) #[] #[]] ++ lb, V1, hent, by simp only [resolve, hg]; simp [go_sem], fun _ _ => trivial, by simp [invoke, go_sem, eg], fun _ => h1, ?_⟩
  have far : ∀ {A : World} {row : Option Nat}, (∀ r, row = some r → V1.heap.size ≤ r ∧ ∃ o : Obj, A.heap[r]? = some o ∧ o.isCells = false) → (∀ r, row = some r → w.heap.size ≤ r ∧ ∃ o : Obj, A.heap[r]? = some o ∧ o.isCells = false) := fun hr r e => ⟨by have := (hr r e).1; omega, (hr r e).2⟩
  have far2 : ∀ {A : World} {row : Option Nat}, (∀ r, row = some r → V1.heap.size ≤ r ∧ ∃ o : Obj, A.heap[r]? = some o ∧ o.isCells = false) → ∀ z, row = some z → w.heap.size + 2 ≤ z := fun hr z e => by have := (hr z e).1; omega
  refine (hseq (w.heap.size + 1) (fun pre W => I pre W ∧ Bk w.heap.size (rc .ready none) W) (fun pre W => ∃ c, Ix c pre W ∧ Bk w.heap.size (rc .done (some c)) W) V1 b1 (by omega) (fun s A B row hs hgr hr => ⟨hI s A B row hs.1 hgr (far hr), hs.2.grown hgr (far2 hr)⟩) (fun s A B row hs hgr hr => ?_) ?round ⟨i1, k1⟩).mono ?behind
  · obtain ⟨c, hc, kc⟩ := hs
    exact ⟨c, hIx c s A B row hc hgr (far hr), kc.grown hgr (far2 hr)⟩
  case round =>
    rintro pre x V ⟨hi, hk⟩ hlen
    have hy := run_yield (P := P) (args := encs x) hk.rec' (by rw [hrc]; exact hps x)
    rw [hrc] at hy
    refine ⟨fn, _, assign, body, hy, roundIn_of_wpIn hfn (hassign _ pre x V _ hi ?_)⟩
    intro a' Va f1 f2 f3 f4
    have ka := hk.from f1
    have hlt := ka.lt
    refine ⟨_, run_beginRound ka.rec' (by rw [hrc]), ?_⟩
    have kb := ka.turn { rc .ready none with state := .busy }
    have nb : ∀ (o : Obj), w.heap.size ≤ w.heap.size + 1 := fun _ => by omega
    have g1 := hI.putObj (.loop { rc .ready none with state := .busy }) f3 (show w.heap.size ≤ w.heap.size + 1 by omega) ka.rec' rfl
    have g2 := (hAx x a').putObj (s := ()) (.loop { rc .ready none with state := .busy }) f4 (show w.heap.size ≤ w.heap.size + 1 by omega) ka.rec' rfl
    have g3 := hKb Va _ (.loop { rc .ready none with state := .busy }) ka.rec' rfl
    revert kb g1 g2 g3
    generalize Va.putObj (w.heap.size + 1) (.loop { rc .ready none with state := .busy }) = Vb
    intro kb g1 g2 g3
    refine wpIn_mono (hbody (w.heap.size + 1) pre x a' Vb (by omega) ⟨_, kb.rec'⟩ g1 g2 hlen) ?_
    have out : ∀ (c : Code) (V3 : World), KeepsFrom w.heap.size Vb V3 → Kp Vb V3 → Ix c (pre ++ [x]) V3 → ∃ (e : Value) (V4 : World), (Instr.endRound (w.heap.size + 1) (some c)).run P V3 = .ok e V4 ∧ (((.returned e : Ending) = .returned (.bool true) ∧ (I (pre ++ [x]) V4 ∧ Bk w.heap.size (rc .ready none) V4) ∧ Kp V V4) ∨ ((.returned e : Ending) = .returned (.bool false) ∧ (∃ c, Ix c (pre ++ [x]) V4 ∧ Bk w.heap.size (rc .done (some c)) V4) ∧ Kp V V4)) := fun c V3 hk3 hq3 hi3 => by
      have k3 := kb.from hk3
      have k4 := k3.turn (rc .done (some c))
      have := bk_end (P := P) k3 (some c)
      refine ⟨_, _, this, .inr ⟨rfl, ⟨c, ?_, ?_⟩, hKt f2 (hKt g3 (hKt hq3 (hKb _ _ _ k3.rec' rfl)))⟩⟩
      · exact (hIx c).putObj _ hi3 (by omega) k3.rec' rfl
      · have e : ({ ({ rc .ready none with state := .busy } : Loop) with state := if (some c).isNone then .ready else .done, pending := some c } : Loop) = rc .done (some c) := by rw [hrc, hrc]; rfl
        rw [e]
        exact k4
    rintro e a3 V3 hp
    cases e with
    | normal =>
      obtain ⟨hk3, hq3, hi3⟩ := hp
      have k3 := kb.from hk3
      have k4 := k3.turn (rc .ready none)
      have hr := bk_end (P := P) k3 none
      have e : ({ ({ rc .ready none with state := .busy } : Loop) with state := if (none : Option Code).isNone then .ready else .done, pending := none } : Loop) = rc .ready none := by rw [hrc]; rfl
      rw [e] at hr
      exact ⟨_, _, hr, .inl ⟨rfl, ⟨hI.putObj _ hi3 (by omega) k3.rec' rfl, k4⟩, hKt f2 (hKt g3 (hKt hq3 (hKb _ _ _ k3.rec' rfl)))⟩⟩
    | ret => exact out _ _ hp.1 hp.2.1 hp.2.2
    | exit id => exact out _ _ hp.1 hp.2.1 hp.2.2
    | goto t => exact out _ _ hp.1 hp.2.1 hp.2.2
    | panic ch => exact hp.elim
    | outgrown => exact hp.elim
  case behind =>
    rintro e V2 ⟨⟨v, rfl⟩, (⟨xs, hS, hi, hk⟩ | ⟨pre, hSp, c, hi, hk⟩)⟩
    · have hr := run_endLoop (P := P) hk.rec' (by rw [hrc]; simp)
      have kt := hk.turn { rc .ready none with state := .exhausted }
      exact ⟨_, _, by rw [hr], by rw [hrc]; exact hdone _ xs _ (Nat.le_refl _) hS (hI.putObj _ hi (by omega) hk.rec' rfl) (by rw [hrc] at kt; exact kt.dfr)⟩
    · have hr := run_endLoop (P := P) hk.rec' (by rw [hrc]; simp)
      have kt := hk.turn { rc .done (some c) with state := .exhausted }
      exact ⟨_, _, by rw [hr], by rw [hrc]; exact hstop _ c pre _ (Nat.le_refl _) hSp ((hIx c).putObj _ hi (by omega) hk.rec' rfl) (by rw [hrc] at kt; exact kt.dfr)⟩
/-- What a round keeps: some blocks, and whatever lies from a place on. -/
def KW (Z : Nat → Prop) (B : Nat) (W W' : World) : Prop := W.heap.size ≤ W'.heap.size ∧ ∀ (z : Nat) (o : Obj), W.heap[z]? = some o → (Z z ∨ B ≤ z) → W'.heap[z]? = some o
theorem KW.trans {Z : Nat → Prop} {B : Nat} {X Y V : World} (h : KW Z B X Y) (g : KW Z B Y V) : KW Z B X V := ⟨Nat.le_trans h.1 g.1, fun z o h1 h2 => g.2 z o (h.2 z o h1 h2) h2⟩
theorem KW.refl (Z : Nat → Prop) (B : Nat) (W : World) : KW Z B W W := ⟨Nat.le_refl _, fun _ _ h _ => h⟩
theorem kw_put {Z : Nat → Prop} {B l : Nat} (hZ : ¬ Z l) (hB : l < B) (W : World) (o o' : Obj) (h : W.heap[l]? = some o) (hc : o.isCells = false) : KW Z B W (W.putObj l o') := ⟨by simp, fun z x hz hx => by
  have hne : z ≠ l := by
    rintro rfl
    rcases hx with q | q
    · exact hZ q
    · omega
  rw [World.putObj_heap_other hne]; exact hz⟩
theorem kw_below {Z : Nat → Prop} {B : Nat} {W W' : World} (h : Below W.heap.size W W') : KW Z B W W' := ⟨h.size, fun z o hz _ => by rw [h.block z (Array.getElem?_eq_some_iff.mp hz).1]; exact hz⟩
theorem kw_sub {Z Z' : Nat → Prop} {B B' : Nat} {W W' : World} (h : KW Z B W W') (hs : ∀ z, (Z' z ∨ B' ≤ z) → (Z z ∨ B ≤ z)) : KW Z' B' W W' := ⟨h.1, fun z o h1 h2 => h.2 z o h1 (hs z h2)⟩
theorem kw_from {Z : Nat → Prop} {B C : Nat} {W W' : World} (h : KW Z B W W') (hc : B ≤ C) : KeepsFrom C W W' := ⟨h.1, fun k o h1 h2 _ => h.2 k o h2 (.inr (by omega))⟩
theorem kw_cell {Z : Nat → Prop} {B : Nat} {W W' : World} (h : KW Z B W W') {b o : Nat} {v : Value} (hz : Z b ∨ B ≤ b) (hc : W.cell? ⟨b, o, none⟩ = some v) : W'.cell? ⟨b, o, none⟩ = some v := by
  have hb := cell_in hc
  have e : W'.heap[b]? = W.heap[b]? := by rw [h.2 b _ (Array.getElem?_eq_getElem hb) hz, Array.getElem?_eq_getElem hb]
  exact (World.cell?_of_block (a := ⟨b, o, none⟩) e).trans hc
end
end Go.Proofs.Ytmeaikmmhgmgnaa
