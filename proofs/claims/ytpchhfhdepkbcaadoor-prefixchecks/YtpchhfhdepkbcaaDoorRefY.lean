/-
  What the call of turnpikeref2's Parse does, of the family 128.
-/
import Derived.Test.YtpchhfhdepkbcaaDoorRefX
namespace Go.Proofs.YtpchhfhdepkbcaaDoor
open Go.RowKit
set_option linter.unusedSimpArgs false
set_option linter.unusedVariables false

theorem At.wset {w : World} {B : Nat} {y : BitVec 128} (h : At w B y) (z : BitVec 128) (he : hI y = hI z) : At (w.setCell ⟨B, 1, none⟩ (.int .u64 (lI z))) B z := by
  obtain ⟨h0, h1, h2, h3, h4⟩ := h
  refine ⟨?_, ?_, ?_, ?_, ?_⟩ <;> simp [go_sem, *]
theorem At.wother {w : World} {B C : Nat} {x : BitVec 128} (h : At w B x) (hn : ¬ C = B) (o : Nat) (v : Value) : At (w.setCell ⟨C, o, none⟩ v) B x := by
  obtain ⟨h0, h1, h2, h3, h4⟩ := h
  have hn' : ¬ B = C := fun e => hn e.symm
  refine ⟨?_, ?_, ?_, ?_, ?_⟩ <;> simp [go_sem, *]
theorem cell_wother {w : World} {b o C p : Nat} {u : Value} (h : w.cell? ⟨b, o, none⟩ = some u) (hn : ¬ C = b) (v : Value) : (w.setCell ⟨C, p, none⟩ v).cell? ⟨b, o, none⟩ = some u := by
  have hn' : ¬ b = C := fun e => hn e.symm
  simp [go_sem, *]

end Go.Proofs.YtpchhfhdepkbcaaDoor
