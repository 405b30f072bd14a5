/-
  What the call of turnpikeref2's Parse does.
-/
import Derived.Test.YtpchhfhdepkbcaaDoorRefV
import Derived.Test.YtpchhfhdepkbcaaDoorRefA
import Derived.Laws.AppendOwnNone
namespace Go.Proofs.YtpchhfhdepkbcaaDoor
open Go.RowKit
set_option linter.unusedSimpArgs false
set_option linter.unusedVariables false

/-- Eight groups as a word. -/
def gW (L : List Int) : Nat → BitVec 128
  | 0 => 0#128
  | k + 1 => (gW L k <<< 16) ||| mkW 0 (L.getD k 0)
/-- The groups that the reference reads. -/
def rsA (t : ByteArray) : Option (List Int) := match gsO t true with | some m => if m.length = 8 then some m else none | none => none
def rsB (t : ByteArray) (p : Nat) : Option (List Int) := match gsO (t.extract 0 p) false, gsO (t.extract (p + 2) t.size) true with
  | some a, some b => if a.length + b.length ≤ 7 then some (a ++ List.replicate (8 - (a.length + b.length)) 0 ++ b) else none
  | _, _ => none
def rsO (t : ByteArray) : Option (List Int) := if gapV t < 0 then rsA t else rsB t (gapV t).toNat
def outV (o : Option (List Int)) : BitVec 128 := match o with | some L => gW L 8 | none => 0#128
def outE (o : Option (List Int)) : Int := match o with | some L => 0 | none => 12
def rpV (F : Int) (t : ByteArray) : BitVec 128 := if fam F = false ∨ 60 < t.size then 0#128 else if F = 32 then (match dotO t with | some v => mkW (v * 4294967296) 0 | none => 0#128) else outV (rsO t)
def rpE (F : Int) (t : ByteArray) : Int := if fam F = false then 11 else if 60 < t.size then 12 else if F = 32 then (match dotO t with | some v => 0 | none => 12) else outE (rsO t)

theorem grG_bd (t : ByteArray) : ∀ f k n, 0 ≤ n → n < 16 ^ k → k + f ≤ 4 → -1 ≤ grG t f k n ∧ grG t f k n ≤ 65535 := by
  intro f
  induction f with
  | zero =>
    intro k n h0 h1 hk
    have : (16 : Int) ^ k ≤ 65536 := by
      rcases (by omega : k = 0 ∨ k = 1 ∨ k = 2 ∨ k = 3 ∨ k = 4) with rfl | rfl | rfl | rfl | rfl <;> decide
    show -1 ≤ n ∧ n ≤ 65535
    omega
  | succ f ih =>
    intro k n h0 h1 hk
    have hd := hexV_bd (byteAt t k)
    show -1 ≤ (if _ then _ else _) ∧ (if _ then _ else _) ≤ _
    split
    · exact ih _ _ (by omega) (by rw [Int.pow_succ]; omega) (by omega)
    · omega
theorem grV_bd (t : ByteArray) : -1 ≤ grV t ∧ grV t ≤ 65535 := by
  unfold grV
  split
  · omega
  · exact grG_bd t t.size 0 0 (by omega) (by decide) (by omega)
theorem gsG_bd (last : Bool) : ∀ (l : List ByteArray) (acc xs : List Int), (∀ x ∈ acc, 0 ≤ x ∧ x ≤ 65535) → gsG last l acc = some xs → ∀ x ∈ xs, 0 ≤ x ∧ x ≤ 65535 := by
  intro l
  induction l with
  | nil => intro acc xs h e; simp [gsG] at e; subst e; exact h
  | cons q l ih =>
    intro acc xs h e
    unfold gsG at e
    split at e
    · rename_i hc
      injection e with e
      subst e
      intro x hx
      cases hd : dotO q with
      | none => rw [hd] at hc; simp at hc
      | some u =>
        have ub := dotO_bd q u hd
        rw [hd] at hx
        simp at hx
        rcases hx with hx | rfl | rfl
        · exact h x hx
        · omega
        · omega
    · split at e
      · cases e
      · refine ih _ _ ?_ e
        intro x hx
        have gb := grV_bd q
        simp at hx
        rcases hx with hx | rfl
        · exact h x hx
        · omega
theorem gsO_bd (t : ByteArray) (last : Bool) (xs : List Int) (e : gsO t last = some xs) : ∀ x ∈ xs, 0 ≤ x ∧ x ≤ 65535 := by
  unfold gsO at e
  split at e
  · injection e with e; subst e; intro x hx; cases hx
  · exact gsG_bd last _ [] xs (fun x hx => by cases hx) e
theorem own_slice {w : World} {base e size n : Nat} {v : Value} {xs : List Value} (h : w.ownsRow base e size v n xs) : ∃ ao cap, v = .slice ao n cap := by
  rcases h.2 with ⟨h1, h2⟩ | ⟨g, cap, cur, h1, _⟩
  · exact ⟨none, 0, by rw [h1, h2]⟩
  · exact ⟨_, _, h1⟩
theorem row_int {w : World} {base e g n cap : Nat} {l : List Int} (h : w.ownsRow base e 1 (.slice (some ⟨g, 0, none⟩) n cap) n (ints l)) (hn : n = l.length) (k : Nat) (hk : k < n) : w.cell? ⟨g, k, none⟩ = some (.int .i64 (l.getD k 0)) := by
  rw [h.cellAt k (by omega)]
  unfold ints
  rw [List.getElem?_map, List.getElem?_eq_getElem (by omega), List.getD_eq_getElem?_getD, List.getElem?_eq_getElem (by omega)]
  rfl
theorem orLo (y : BitVec 128) (v : Int) (h0 : 0 ≤ v) (h1 : v ≤ 65535) : bits .or .u64 (lI y) v = lI (y ||| mkW 0 v) ∧ hI y = hI (y ||| mkW 0 v) := by
  refine ⟨?_, ?_⟩
  · rw [← or_l, lI_mk 0 v h0 (by omega)]
  · rw [← or_h, hI_mk 0 v (by omega) (by omega)]
    have : bits .or .u64 (hI y) 0 = hI (y ||| 0#128) := by
      rw [← or_h, hI_zero]
    rw [this, BitVec.or_zero]

theorem wrap32 (v : Int) (h0 : 0 ≤ v) (h1 : v < 4294967296) : IntKind.u64.wrap (v * 4294967296) = v * 4294967296 := by
  simp [IntKind.wrap, IntKind.bits, IntKind.signed]; omega

end Go.Proofs.YtpchhfhdepkbcaaDoor
