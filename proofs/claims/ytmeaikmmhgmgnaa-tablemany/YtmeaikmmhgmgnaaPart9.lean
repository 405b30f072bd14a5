/-
  Part 9 of the proof: 3 texts, one behind the other.
-/
import Derived.Test.YtmeaikmmhgmgnaaPart8
import Derived.Test.YtmeaikmmhgmgnaaPart5
/-
  What the call of package table's place does.
-/
namespace Go.Proofs.Ytmeaikmmhgmgnaa
open Go.RowKit
set_option linter.unusedSimpArgs false
set_option linter.unusedVariables false

/-- The routes stand in an order by which a prefix can be sought. -/
def Mono (y : BitVec 128) (m : Int) (l : List Rte) : Prop := ∀ (a b : Nat) (hb : b < l.length) (hab : a ≤ b), toP y m l[b] < 0 → toP y m (l[a]'(by omega)) < 0
/-- How many routes are ahead of a prefix, and is it the next one's? -/
def Place (y : BitVec 128) (m : Int) (l : List Rte) (i : Nat) (ok : Bool) : Prop := i ≤ l.length ∧ (∀ (j : Nat) (hj : j < l.length), j < i ↔ toP y m l[j] < 0) ∧ ok = (match l[i]? with | some r => decide (toP y m r = 0) | none => false)
/-- There is but one place. -/
theorem Place.one {y : BitVec 128} {m : Int} {l : List Rte} {i j : Nat} {a b : Bool} (h : Place y m l i a) (g : Place y m l j b) : i = j ∧ a = b := by
  have e : i = j := by
    rcases Nat.lt_trichotomy i j with q | q | q
    · have h1 := (g.2.1 i (by have := g.1; omega)).1 q
      have h2 := (h.2.1 i (by have := g.1; omega)).2 h1
      omega
    · exact q
    · have h1 := (h.2.1 j (by have := h.1; omega)).1 q
      have h2 := (g.2.1 j (by have := h.1; omega)).2 h1
      omega
  subst e
  exact ⟨rfl, by rw [h.2.2, g.2.2]⟩
theorem place_any (y : BitVec 128) (m : Int) (v : Value) (l : List Rte) (w : World) (hv : RwR w v l) (hl : l.length ≤ 1000000000) (hm : Mono y m l) :
    Calls Try.prog 32 #[v, .agg #[.int .u64 (hI y), .int .u64 (lI y), .int .i64 m]] w fun e w' => (∃ (i : Nat) (ok : Bool), Place y m l i ok ∧ e = .returned (.tuple #[.int .i64 i, .bool ok])) ∧ Below w.heap.size w w' := by
  have b0 := bl1 w (.cells #[.int .u64 (hI y), .int .u64 (lI y), .int .i64 m] 38)
  obtain ⟨p0, p1, p2, -⟩ := atp_new w w.heap.size y m 38 rfl
  have KS : Calls Try.prog 44 #[v, .agg #[.int .u64 (hI y), .int .u64 (lI y), .int .i64 m], .func (.func 45) #[] #[]] (w.alloc (.cells #[.int .u64 (hI y), .int .u64 (lI y), .int .i64 m] 38)) fun e w' => (∃ (i : Nat) (ok : Bool), Place y m l i ok ∧ e = .returned (.tuple #[.int .i64 i, .bool ok])) ∧ Below (w.alloc (.cells #[.int .u64 (hI y), .int .u64 (lI y), .int .i64 m] 38)).heap.size (w.alloc (.cells #[.int .u64 (hI y), .int .u64 (lI y), .int .i64 m] 38)) w' := by
    refine (search_any y m v l _ (hv.below b0) hl hm).mono ?_
    rintro e w1 ⟨⟨i, h1, h2, h3⟩, hb⟩
    exact ⟨⟨i, _, ⟨h1, h2, rfl⟩, h3⟩, hb⟩
  have HB := hidR b0
  clear b0 hv hm
  go_enter Try.func32, Try.ntmps32
  go_wp2_with fail
  refine KS.mono ?_
  rintro e w1 ⟨⟨i, ok, hP, rfl⟩, hb⟩
  have HP := hidR hP
  have kB := keepb hb HB.out
  clear KS hb HB p0 p1 p2 hP
  go_wp2
  exact bodyPost_ret (v := .tuple #[.int .i64 (i : Int), .bool ok]) (by simp [results, Try.results32, go_sem]) rfl ⟨⟨i, ok, HP.out, rfl⟩, kB⟩
end Go.Proofs.Ytmeaikmmhgmgnaa
/-
  What the call of package table's Find does.
-/
namespace Go.Proofs.Ytmeaikmmhgmgnaa
open Go.RowKit
set_option linter.unusedSimpArgs false
set_option linter.unusedVariables false

/-- A table in memory. -/
def AtT (w : World) (B : Nat) (F : Int) (v : Value) : Prop := w.cell? ⟨B, 0, none⟩ = some (.int .i64 F) ∧ w.cell? ⟨B, 1, none⟩ = some v
theorem AtT.below {w w' : World} {B : Nat} {F : Int} {v : Value} (g : AtT w B F v) (hb : Below w.heap.size w w') : AtT w' B F v := ⟨keepc hb g.1, keepc hb g.2⟩
end Go.Proofs.Ytmeaikmmhgmgnaa
/-
  What the call of package table's upTo does.
-/
namespace Go.Proofs.Ytmeaikmmhgmgnaa
open Go.RowKit
set_option linter.unusedSimpArgs false
set_option linter.unusedVariables false

theorem Try.infoR : (Try.prog.info? 40).map (fun i => (i.zero, i.size, i.bytes)) = some (some (.agg #[.int .u64 0, .int .u64 0, .int .i64 0, .int .i64 0]), 4, 32) := by kernel_rfl
theorem rowR_len (l : List Rte) : (rowR l).length = l.length * 4 := by
  induction l with
  | nil => rfl
  | cons r l ih => simp [rowR, ih]; omega
theorem rowR_take : ∀ (l : List Rte) (k : Nat), (rowR l).take (k * 4) = rowR (l.take k)
  | [], k => by simp [rowR]
  | r :: l, 0 => by simp [rowR]
  | r :: l, k + 1 => by
    rw [show (k + 1) * 4 = k * 4 + 1 + 1 + 1 + 1 by omega]
    simp only [rowR, List.take_succ_cons, rowR_take l k]
/-- How many routes are not behind a prefix. -/
def UpTo (y : BitVec 128) (m : Int) (l : List Rte) (k : Nat) : Prop := k ≤ l.length ∧ ∃ i ok, Place y m l i ok ∧ k = if ok = true then i + 1 else i
theorem stopHereU {P : Program} {w : World} {ops : Array Oper} {rest : List Oper} {a : Act} {Q : Exit → Act → World → Prop} {o : Oper} (h : Hid (wpList P ops Q (o :: rest) a w)) : wpList P ops Q (o :: rest) a w := h.out
end Go.Proofs.Ytmeaikmmhgmgnaa
