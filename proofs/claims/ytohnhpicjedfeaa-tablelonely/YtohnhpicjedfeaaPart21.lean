/-
  Part 21 of the proof: 3 texts, one behind the other.
-/
import Derived.Test.YtohnhpicjedfeaaPart10
import Derived.Test.YtohnhpicjedfeaaPart20
namespace Go.Proofs.Ytohnhpicjedfeaa
open Go.RowKit
set_option linter.unusedSimpArgs false
set_option linter.unusedVariables false

theorem srt_at {X : List Rte} (h : SrtL X) {i j : Nat} {x y : Rte} (hi : X[i]? = some x) (hj : X[j]? = some y) (hij : i ≤ j) : ¬ kl y x := by
  obtain ⟨i1, rfl⟩ := List.getElem?_eq_some_iff.mp hi
  obtain ⟨j1, rfl⟩ := List.getElem?_eq_some_iff.mp hj
  by_cases c : i = j
  · subst c; exact kl_irr _
  · exact List.pairwise_iff_getElem.mp h i j i1 j1 (by omega)
structure CutS (K : Nat) (X Y : List Rte) (u r : Nat) : Prop where
  lo : K - Y.length ≤ u
  ur : u ≤ r
  hi : r ≤ X.length
  hk : r ≤ K
  no : ∀ t x y, X[t]? = some x → Y[K - 1 - t]? = some y → t < u → K - Y.length ≤ t → ¬ kl y x
  yes : ∀ t x y, X[t]? = some x → Y[K - 1 - t]? = some y → r ≤ t → t < K → kl y x
theorem CutS.up {K : Nat} {X Y : List Rte} {u r q : Nat} {x y : Rte} (h : CutS K X Y u r) (hX : SrtL X) (hY : SrtL Y) (h1 : u ≤ q) (h2 : q < r) (hx : X[q]? = some x) (hy : Y[K - 1 - q]? = some y) (hn : ¬ kl y x) : CutS K X Y (q + 1) r :=
  ⟨by have := h.lo; omega, by omega, h.hi, h.hk, fun t x' y' hx' hy' ht hl => by
    by_cases c : t < u
    · exact h.no t x' y' hx' hy' c hl
    · have a := srt_at hX hx' hx (by omega)
      have b := srt_at hY hy hy' (by have := h.hk; omega)
      exact kl_le a (kl_le hn b), h.yes⟩
theorem CutS.down {K : Nat} {X Y : List Rte} {u r q : Nat} {x y : Rte} (h : CutS K X Y u r) (hX : SrtL X) (hY : SrtL Y) (h1 : u ≤ q) (h2 : q < r) (hx : X[q]? = some x) (hy : Y[K - 1 - q]? = some y) (hn : kl y x) : CutS K X Y u q :=
  ⟨h.lo, by omega, by have := h.hi; omega, by have := h.hk; omega, h.no, fun t x' y' hx' hy' ht hl => by
    have a := srt_at hX hx hx' (by omega)
    have b := srt_at hY hy' hy (by omega)
    exact kl_lt_le (kl_le_lt b hn) a⟩
theorem CutS.fin {K : Nat} {X Y : List Rte} {u r0 : Nat} (h : CutS K X Y u u) (hr : r0 = X.length ∨ r0 = K) (hX : SrtL X) (hY : SrtL Y) :
    (∀ y ∈ Y.take (K - u), ∀ x ∈ X.drop u, kl y x) ∧ (∀ x ∈ X.take u, ∀ y ∈ Y.drop (K - u), ¬ kl y x) := by
  have h1 := h.lo
  have h2 := h.hi
  have h3 := h.hk
  refine ⟨fun y hy x hx => ?_, fun x hx y hy => ?_⟩
  · obtain ⟨t, ht, e⟩ := List.mem_iff_getElem.mp hy
    obtain ⟨s, hs, e2⟩ := List.mem_iff_getElem.mp hx
    rw [List.getElem_take] at e
    rw [List.getElem_drop] at e2
    rw [List.length_take] at ht
    rw [List.length_drop] at hs
    have hx0 : X[u]? = some (X[u]'(by omega)) := List.getElem?_eq_getElem _
    have hy0 : Y[K - 1 - u]? = some (Y[K - 1 - u]'(by omega)) := List.getElem?_eq_getElem _
    have k := h.yes u _ _ hx0 hy0 (Nat.le_refl _) (by omega)
    have a := srt_at hY (i := t) (j := K - 1 - u) (x := y) (by rw [← e]; exact List.getElem?_eq_getElem _) hy0 (by omega)
    have b := srt_at hX (i := u) (j := u + s) (y := x) hx0 (by rw [← e2]; exact List.getElem?_eq_getElem _) (by omega)
    exact kl_lt_le (kl_le_lt a k) b
  · obtain ⟨t, ht, e⟩ := List.mem_iff_getElem.mp hx
    obtain ⟨s, hs, e2⟩ := List.mem_iff_getElem.mp hy
    rw [List.getElem_take] at e
    rw [List.getElem_drop] at e2
    rw [List.length_take] at ht
    rw [List.length_drop] at hs
    have hx0 : X[u - 1]? = some (X[u - 1]'(by omega)) := List.getElem?_eq_getElem _
    have hy0 : Y[K - 1 - (u - 1)]? = some (Y[K - 1 - (u - 1)]'(by omega)) := List.getElem?_eq_getElem _
    have k := h.no (u - 1) _ _ hx0 hy0 (by omega) (by omega)
    have a := srt_at hX (i := t) (j := u - 1) (x := x) (by rw [← e]; exact List.getElem?_eq_getElem _) hx0 (by omega)
    have b := srt_at hY (i := K - 1 - (u - 1)) (j := K - u + s) (y := y) hy0 (by rw [← e2]; exact List.getElem?_eq_getElem _) (by omega)
    exact kl_le a (kl_le k b)
end Go.Proofs.Ytohnhpicjedfeaa
namespace Go.Proofs.Ytohnhpicjedfeaa
open Go.RowKit
def SymR (base g c n : Nat) (P X Y R : List Rte) (w : World) (e : Ending) (w' : World) : Prop := e = .returned (.tuple #[]) ∧ (∃ S, RwO w' base g c n (P ++ (S ++ R)) ∧ S.length = X.length + Y.length ∧ SrtL S ∧ SameK (X ++ Y) S) ∧ Bo g w w'
end Go.Proofs.Ytohnhpicjedfeaa
namespace Go.Proofs.Ytohnhpicjedfeaa
open Go.RowKit
set_option linter.unusedSimpArgs false
set_option linter.unusedVariables false
set_option maxRecDepth 100000 in
theorem arr220 (t : Array Value) (h : t.size = 220) : ∃ u : Nat → Value, (∀ i, u i = t.getD i undef) ∧ t = #[u 0, u 1, u 2, u 3, u 4, u 5, u 6, u 7, u 8, u 9, u 10, u 11, u 12, u 13, u 14, u 15, u 16, u 17, u 18, u 19, u 20, u 21, u 22, u 23, u 24, u 25, u 26, u 27, u 28, u 29, u 30, u 31, u 32, u 33, u 34, u 35, u 36, u 37, u 38, u 39, u 40, u 41, u 42, u 43, u 44, u 45, u 46, u 47, u 48, u 49, u 50, u 51, u 52, u 53, u 54, u 55, u 56, u 57, u 58, u 59, u 60, u 61, u 62, u 63, u 64, u 65, u 66, u 67, u 68, u 69, u 70, u 71, u 72, u 73, u 74, u 75, u 76, u 77, u 78, u 79, u 80, u 81, u 82, u 83, u 84, u 85, u 86, u 87, u 88, u 89, u 90, u 91, u 92, u 93, u 94, u 95, u 96, u 97, u 98, u 99, u 100, u 101, u 102, u 103, u 104, u 105, u 106, u 107, u 108, u 109, u 110, u 111, u 112, u 113, u 114, u 115, u 116, u 117, u 118, u 119, u 120, u 121, u 122, u 123, u 124, u 125, u 126, u 127, u 128, u 129, u 130, u 131, u 132, u 133, u 134, u 135, u 136, u 137, u 138, u 139, u 140, u 141, u 142, u 143, u 144, u 145, u 146, u 147, u 148, u 149, u 150, u 151, u 152, u 153, u 154, u 155, u 156, u 157, u 158, u 159, u 160, u 161, u 162, u 163, u 164, u 165, u 166, u 167, u 168, u 169, u 170, u 171, u 172, u 173, u 174, u 175, u 176, u 177, u 178, u 179, u 180, u 181, u 182, u 183, u 184, u 185, u 186, u 187, u 188, u 189, u 190, u 191, u 192, u 193, u 194, u 195, u 196, u 197, u 198, u 199, u 200, u 201, u 202, u 203, u 204, u 205, u 206, u 207, u 208, u 209, u 210, u 211, u 212, u 213, u 214, u 215, u 216, u 217, u 218, u 219] := by
  refine ⟨fun i => t.getD i undef, fun _ => rfl, ?_⟩
  obtain ⟨l⟩ := t
  have h' : l.length = 220 := h
  have e : l = (List.range 220).map (fun i => (⟨l⟩ : Array Value).getD i undef) := by
    apply List.ext_getElem
    · simp [h']
    · intro i h1 h2
      simp [Array.getD, h1]
  have e2 : (List.range 220).map (fun i => (⟨l⟩ : Array Value).getD i undef) = [(⟨l⟩ : Array Value).getD 0 undef, (⟨l⟩ : Array Value).getD 1 undef, (⟨l⟩ : Array Value).getD 2 undef, (⟨l⟩ : Array Value).getD 3 undef, (⟨l⟩ : Array Value).getD 4 undef, (⟨l⟩ : Array Value).getD 5 undef, (⟨l⟩ : Array Value).getD 6 undef, (⟨l⟩ : Array Value).getD 7 undef, (⟨l⟩ : Array Value).getD 8 undef, (⟨l⟩ : Array Value).getD 9 undef, (⟨l⟩ : Array Value).getD 10 undef, (⟨l⟩ : Array Value).getD 11 undef, (⟨l⟩ : Array Value).getD 12 undef, (⟨l⟩ : Array Value).getD 13 undef, (⟨l⟩ : Array Value).getD 14 undef, (⟨l⟩ : Array Value).getD 15 undef, (⟨l⟩ : Array Value).getD 16 undef, (⟨l⟩ : Array Value).getD 17 undef, (⟨l⟩ : Array Value).getD 18 undef, (⟨l⟩ : Array Value).getD 19 undef, (⟨l⟩ : Array Value).getD 20 undef, (⟨l⟩ : Array Value).getD 21 undef, (⟨l⟩ : Array Value).getD 22 undef, (⟨l⟩ : Array Value).getD 23 undef, (⟨l⟩ : Array Value).getD 24 undef, (⟨l⟩ : Array Value).getD 25 undef, (⟨l⟩ : Array Value).getD 26 undef, (⟨l⟩ : Array Value).getD 27 undef, (⟨l⟩ : Array Value).getD 28 undef, (⟨l⟩ : Array Value).getD 29 undef, (⟨l⟩ : Array Value).getD 30 undef, (⟨l⟩ : Array Value).getD 31 undef, (⟨l⟩ : Array Value).getD 32 undef, (⟨l⟩ : Array Value).getD 33 undef, (⟨l⟩ : Array Value).getD 34 undef, (⟨l⟩ : Array Value).getD 35 undef, (⟨l⟩ : Array Value).getD 36 undef, (⟨l⟩ : Array Value).getD 37 undef, (⟨l⟩ : Array Value).getD 38 undef, (⟨l⟩ : Array Value).getD 39 undef, (⟨l⟩ : Array Value).getD 40 undef, (⟨l⟩ : Array Value).getD 41 undef, (⟨l⟩ : Array Value).getD 42 undef, (⟨l⟩ : Array Value).getD 43 undef, (⟨l⟩ : Array Value).getD 44 undef, (⟨l⟩ : Array Value).getD 45 undef, (⟨l⟩ : Array Value).getD 46 undef, (⟨l⟩ : Array Value).getD 47 undef, (⟨l⟩ : Array Value).getD 48 undef, (⟨l⟩ : Array Value).getD 49 undef, (⟨l⟩ : Array Value).getD 50 undef, (⟨l⟩ : Array Value).getD 51 undef, (⟨l⟩ : Array Value).getD 52 undef, (⟨l⟩ : Array Value).getD 53 undef, (⟨l⟩ : Array Value).getD 54 undef, (⟨l⟩ : Array Value).getD 55 undef, (⟨l⟩ : Array Value).getD 56 undef, (⟨l⟩ : Array Value).getD 57 undef, (⟨l⟩ : Array Value).getD 58 undef, (⟨l⟩ : Array Value).getD 59 undef, (⟨l⟩ : Array Value).getD 60 undef, (⟨l⟩ : Array Value).getD 61 undef, (⟨l⟩ : Array Value).getD 62 undef, (⟨l⟩ : Array Value).getD 63 undef, (⟨l⟩ : Array Value).getD 64 undef, (⟨l⟩ : Array Value).getD 65 undef, (⟨l⟩ : Array Value).getD 66 undef, (⟨l⟩ : Array Value).getD 67 undef, (⟨l⟩ : Array Value).getD 68 undef, (⟨l⟩ : Array Value).getD 69 undef, (⟨l⟩ : Array Value).getD 70 undef, (⟨l⟩ : Array Value).getD 71 undef, (⟨l⟩ : Array Value).getD 72 undef, (⟨l⟩ : Array Value).getD 73 undef, (⟨l⟩ : Array Value).getD 74 undef, (⟨l⟩ : Array Value).getD 75 undef, (⟨l⟩ : Array Value).getD 76 undef, (⟨l⟩ : Array Value).getD 77 undef, (⟨l⟩ : Array Value).getD 78 undef, (⟨l⟩ : Array Value).getD 79 undef, (⟨l⟩ : Array Value).getD 80 undef, (⟨l⟩ : Array Value).getD 81 undef, (⟨l⟩ : Array Value).getD 82 undef, (⟨l⟩ : Array Value).getD 83 undef, (⟨l⟩ : Array Value).getD 84 undef, (⟨l⟩ : Array Value).getD 85 undef, (⟨l⟩ : Array Value).getD 86 undef, (⟨l⟩ : Array Value).getD 87 undef, (⟨l⟩ : Array Value).getD 88 undef, (⟨l⟩ : Array Value).getD 89 undef, (⟨l⟩ : Array Value).getD 90 undef, (⟨l⟩ : Array Value).getD 91 undef, (⟨l⟩ : Array Value).getD 92 undef, (⟨l⟩ : Array Value).getD 93 undef, (⟨l⟩ : Array Value).getD 94 undef, (⟨l⟩ : Array Value).getD 95 undef, (⟨l⟩ : Array Value).getD 96 undef, (⟨l⟩ : Array Value).getD 97 undef, (⟨l⟩ : Array Value).getD 98 undef, (⟨l⟩ : Array Value).getD 99 undef, (⟨l⟩ : Array Value).getD 100 undef, (⟨l⟩ : Array Value).getD 101 undef, (⟨l⟩ : Array Value).getD 102 undef, (⟨l⟩ : Array Value).getD 103 undef, (⟨l⟩ : Array Value).getD 104 undef, (⟨l⟩ : Array Value).getD 105 undef, (⟨l⟩ : Array Value).getD 106 undef, (⟨l⟩ : Array Value).getD 107 undef, (⟨l⟩ : Array Value).getD 108 undef, (⟨l⟩ : Array Value).getD 109 undef, (⟨l⟩ : Array Value).getD 110 undef, (⟨l⟩ : Array Value).getD 111 undef, (⟨l⟩ : Array Value).getD 112 undef, (⟨l⟩ : Array Value).getD 113 undef, (⟨l⟩ : Array Value).getD 114 undef, (⟨l⟩ : Array Value).getD 115 undef, (⟨l⟩ : Array Value).getD 116 undef, (⟨l⟩ : Array Value).getD 117 undef, (⟨l⟩ : Array Value).getD 118 undef, (⟨l⟩ : Array Value).getD 119 undef, (⟨l⟩ : Array Value).getD 120 undef, (⟨l⟩ : Array Value).getD 121 undef, (⟨l⟩ : Array Value).getD 122 undef, (⟨l⟩ : Array Value).getD 123 undef, (⟨l⟩ : Array Value).getD 124 undef, (⟨l⟩ : Array Value).getD 125 undef, (⟨l⟩ : Array Value).getD 126 undef, (⟨l⟩ : Array Value).getD 127 undef, (⟨l⟩ : Array Value).getD 128 undef, (⟨l⟩ : Array Value).getD 129 undef, (⟨l⟩ : Array Value).getD 130 undef, (⟨l⟩ : Array Value).getD 131 undef, (⟨l⟩ : Array Value).getD 132 undef, (⟨l⟩ : Array Value).getD 133 undef, (⟨l⟩ : Array Value).getD 134 undef, (⟨l⟩ : Array Value).getD 135 undef, (⟨l⟩ : Array Value).getD 136 undef, (⟨l⟩ : Array Value).getD 137 undef, (⟨l⟩ : Array Value).getD 138 undef, (⟨l⟩ : Array Value).getD 139 undef, (⟨l⟩ : Array Value).getD 140 undef, (⟨l⟩ : Array Value).getD 141 undef, (⟨l⟩ : Array Value).getD 142 undef, (⟨l⟩ : Array Value).getD 143 undef, (⟨l⟩ : Array Value).getD 144 undef, (⟨l⟩ : Array Value).getD 145 undef, (⟨l⟩ : Array Value).getD 146 undef, (⟨l⟩ : Array Value).getD 147 undef, (⟨l⟩ : Array Value).getD 148 undef, (⟨l⟩ : Array Value).getD 149 undef, (⟨l⟩ : Array Value).getD 150 undef, (⟨l⟩ : Array Value).getD 151 undef, (⟨l⟩ : Array Value).getD 152 undef, (⟨l⟩ : Array Value).getD 153 undef, (⟨l⟩ : Array Value).getD 154 undef, (⟨l⟩ : Array Value).getD 155 undef, (⟨l⟩ : Array Value).getD 156 undef, (⟨l⟩ : Array Value).getD 157 undef, (⟨l⟩ : Array Value).getD 158 undef, (⟨l⟩ : Array Value).getD 159 undef, (⟨l⟩ : Array Value).getD 160 undef, (⟨l⟩ : Array Value).getD 161 undef, (⟨l⟩ : Array Value).getD 162 undef, (⟨l⟩ : Array Value).getD 163 undef, (⟨l⟩ : Array Value).getD 164 undef, (⟨l⟩ : Array Value).getD 165 undef, (⟨l⟩ : Array Value).getD 166 undef, (⟨l⟩ : Array Value).getD 167 undef, (⟨l⟩ : Array Value).getD 168 undef, (⟨l⟩ : Array Value).getD 169 undef, (⟨l⟩ : Array Value).getD 170 undef, (⟨l⟩ : Array Value).getD 171 undef, (⟨l⟩ : Array Value).getD 172 undef, (⟨l⟩ : Array Value).getD 173 undef, (⟨l⟩ : Array Value).getD 174 undef, (⟨l⟩ : Array Value).getD 175 undef, (⟨l⟩ : Array Value).getD 176 undef, (⟨l⟩ : Array Value).getD 177 undef, (⟨l⟩ : Array Value).getD 178 undef, (⟨l⟩ : Array Value).getD 179 undef, (⟨l⟩ : Array Value).getD 180 undef, (⟨l⟩ : Array Value).getD 181 undef, (⟨l⟩ : Array Value).getD 182 undef, (⟨l⟩ : Array Value).getD 183 undef, (⟨l⟩ : Array Value).getD 184 undef, (⟨l⟩ : Array Value).getD 185 undef, (⟨l⟩ : Array Value).getD 186 undef, (⟨l⟩ : Array Value).getD 187 undef, (⟨l⟩ : Array Value).getD 188 undef, (⟨l⟩ : Array Value).getD 189 undef, (⟨l⟩ : Array Value).getD 190 undef, (⟨l⟩ : Array Value).getD 191 undef, (⟨l⟩ : Array Value).getD 192 undef, (⟨l⟩ : Array Value).getD 193 undef, (⟨l⟩ : Array Value).getD 194 undef, (⟨l⟩ : Array Value).getD 195 undef, (⟨l⟩ : Array Value).getD 196 undef, (⟨l⟩ : Array Value).getD 197 undef, (⟨l⟩ : Array Value).getD 198 undef, (⟨l⟩ : Array Value).getD 199 undef, (⟨l⟩ : Array Value).getD 200 undef, (⟨l⟩ : Array Value).getD 201 undef, (⟨l⟩ : Array Value).getD 202 undef, (⟨l⟩ : Array Value).getD 203 undef, (⟨l⟩ : Array Value).getD 204 undef, (⟨l⟩ : Array Value).getD 205 undef, (⟨l⟩ : Array Value).getD 206 undef, (⟨l⟩ : Array Value).getD 207 undef, (⟨l⟩ : Array Value).getD 208 undef, (⟨l⟩ : Array Value).getD 209 undef, (⟨l⟩ : Array Value).getD 210 undef, (⟨l⟩ : Array Value).getD 211 undef, (⟨l⟩ : Array Value).getD 212 undef, (⟨l⟩ : Array Value).getD 213 undef, (⟨l⟩ : Array Value).getD 214 undef, (⟨l⟩ : Array Value).getD 215 undef, (⟨l⟩ : Array Value).getD 216 undef, (⟨l⟩ : Array Value).getD 217 undef, (⟨l⟩ : Array Value).getD 218 undef, (⟨l⟩ : Array Value).getD 219 undef] := rfl
  rw [e2] at e
  exact congrArg _ e
theorem cut3 {p : Program} {Q : Exit → Act → World → Prop} {a : Act} {w : World} {x y z : Code} (I J : Act → World → Prop) (h1 : ∀ K : Act → World → Prop, (∀ a w, I a w → K a w) → x.wp p (Exit.then K Q) a w) (h2 : ∀ (K : Act → World → Prop) a w, (∀ a w, J a w → K a w) → I a w → y.wp p (Exit.then K Q) a w) (h3 : ∀ a w, J a w → z.wp p Q a w) : (x.seq (y.seq z)).wp p Q a w :=
  wp_seq (h1 _ (fun a w hi => wp_seq (h2 _ a w (fun _ _ hj => h3 _ _ hj) hi)))
def SlS (g n c a m b md rr en : Nat) (tm : Array Value) : Prop := tm.size = 220 ∧ tm.getD 0 undef = .slice (some ⟨g, 0, none⟩) n c ∧ tm.getD 1 undef = .int .i64 (a : Int) ∧ tm.getD 2 undef = .int .i64 (m : Int) ∧ tm.getD 3 undef = .int .i64 (b : Int) ∧ tm.getD 4 undef = .func (.func 37) #[] #[] ∧ tm.getD 18 undef = .int .i64 (md : Int) ∧ tm.getD 20 undef = .int .i64 (rr : Int) ∧ tm.getD 24 undef = .int .i64 (en : Int)
end Go.Proofs.Ytohnhpicjedfeaa
