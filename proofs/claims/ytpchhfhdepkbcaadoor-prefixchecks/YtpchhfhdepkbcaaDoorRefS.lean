/-
  What the call of turnpikeref2's split does.
-/
import Derived.Test.YtpchhfhdepkbcaaDoorRefR
import Derived.Deep.AppendLies
import Derived.OwnWalk
import Derived.Laws.OwnMore
namespace Go.Proofs.YtpchhfhdepkbcaaDoor
open Go.RowKit
set_option linter.unusedSimpArgs false
set_option linter.unusedVariables false

theorem rowBelow {base e size n : Nat} {v : Value} {xs : List Value} {W w' : World} (hb : Below W.heap.size W w') (h : W.ownsRow base e size v n xs) : w'.ownsRow base e size v n xs := by
  refine h.kept (row := none) ⟨hb.os, hb.tape, hb.output, hb.size, fun k hk _ => hb.block k hk⟩ ?_
  cases v.ownBlock with
  | none => exact Or.inl rfl
  | some a => exact Or.inr (by simp)
theorem newsS (W : World) (v : Value) (t : TypeId) : ∀ j u, [v][j]? = some u → (W.alloc (.cells #[v] t)).cell? ((⟨W.heap.size, 0, none⟩ : Addr).add j) = some u := by
  intro j u hj
  match j, hj with
  | 0, hj => simp at hj; subst hj; simp [Addr.add, go_sem]
theorem oneS (s : ByteArray) : ∀ u ∈ [Value.string s], u.oneCell' = true := by
  intro u hu; simp at hu; subst hu; rfl
theorem Tryd.infoS : (Tryd.prog.info? 9).map (fun i => (i.zero, i.size, i.bytes)) = some (some (.string ByteArray.empty), 1, 16) := by kernel_rfl

/-- The pieces of a text between the bytes c, from place i on, the piece at hand having begun at p. -/
def spl (t : ByteArray) (c : Int) : Nat → Nat → Nat → List ByteArray
  | 0, p, _ => [t.extract p t.size]
  | f + 1, p, i => if byteAt t i = c then t.extract p i :: spl t c f (i + 1) (i + 1) else spl t c f p (i + 1)
def strs (l : List ByteArray) : List Value := l.map Value.string

end Go.Proofs.YtpchhfhdepkbcaaDoor
