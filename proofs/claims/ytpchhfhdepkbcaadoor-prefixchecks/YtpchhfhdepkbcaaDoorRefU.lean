/-
  What the call of turnpikeref2's dotted does.
-/
import Derived.Test.YtpchhfhdepkbcaaDoorRefS
namespace Go.Proofs.YtpchhfhdepkbcaaDoor
open Go.RowKit
set_option linter.unusedSimpArgs false
set_option linter.unusedVariables false

theorem octG_bd (t : ByteArray) : ∀ f k n, 0 ≤ n → -1 ≤ octG t f k n := by
  intro f
  induction f with
  | zero => intro k n h; show -1 ≤ n; omega
  | succ f ih =>
    intro k n h
    show -1 ≤ if _ then _ else _
    split
    · exact ih _ _ (by omega)
    · omega
theorem octV_bd (t : ByteArray) : -1 ≤ octV t ∧ octV t ≤ 255 := by
  unfold octV
  split
  · omega
  · have := octG_bd t t.size 0 0 (by omega)
    split <;> omega
theorem spl_size (t : ByteArray) (c : Int) : ∀ f p i, ∀ q ∈ spl t c f p i, q.size ≤ t.size := by
  intro f
  induction f with
  | zero =>
    intro p i q hq
    have : q = t.extract p t.size := by simpa [spl] using hq
    subst this; simp
  | succ f ih =>
    intro p i q hq
    unfold spl at hq
    split at hq
    · rcases List.mem_cons.mp hq with rfl | h
      · simp; omega
      · exact ih _ _ q h
    · exact ih _ _ q hq
/-- The numbers of the pieces as one. -/
def dotG : List ByteArray → Int → Option Int
  | [], v => some v
  | p :: l, v => if octV p < 0 then none else dotG l (256 * v + octV p)
def dotO (t : ByteArray) : Option Int := if (spl t 46 t.size 0 0).length = 4 then dotG (spl t 46 t.size 0 0) 0 else none

theorem row_get {w : World} {base e g n cap : Nat} {l : List ByteArray} (h : w.ownsRow base e 1 (.slice (some ⟨g, 0, none⟩) n cap) n (strs l)) (hn : n = l.length) (k : Nat) (hk : k < n) : w.cell? ⟨g, k, none⟩ = some (.string (l[k]'(by omega))) := by
  rw [h.cellAt k (by omega)]
  unfold strs
  rw [List.getElem?_map, List.getElem?_eq_getElem (by omega)]
  rfl

end Go.Proofs.YtpchhfhdepkbcaaDoor
