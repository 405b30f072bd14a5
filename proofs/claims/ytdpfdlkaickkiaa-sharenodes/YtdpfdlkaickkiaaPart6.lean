/-
  Part 6 of the proof: 2 texts, one behind the other.
-/
import Derived.Test.YtdpfdlkaickkiaaPart5
import Derived.Test.YtdpfdlkaickkiaaPart1
namespace Go.Proofs.Ytdpfdlkaickkiaa
open Go.RowKit Go.Shelf
set_option linter.unusedSimpArgs false
set_option linter.unusedVariables false
attribute [local go_sem] Oper.semAt_some

theorem arr76 (t : Array Value) (h : t.size = 76) : ∃ u : Nat → Value, (∀ i, u i = t.getD i undef) ∧ t = #[u 0, u 1, u 2, u 3, u 4, u 5, u 6, u 7, u 8, u 9, u 10, u 11, u 12, u 13, u 14, u 15, u 16, u 17, u 18, u 19, u 20, u 21, u 22, u 23, u 24, u 25, u 26, u 27, u 28, u 29, u 30, u 31, u 32, u 33, u 34, u 35, u 36, u 37, u 38, u 39, u 40, u 41, u 42, u 43, u 44, u 45, u 46, u 47, u 48, u 49, u 50, u 51, u 52, u 53, u 54, u 55, u 56, u 57, u 58, u 59, u 60, u 61, u 62, u 63, u 64, u 65, u 66, u 67, u 68, u 69, u 70, u 71, u 72, u 73, u 74, u 75] := by
  refine ⟨fun i => t.getD i undef, fun _ => rfl, ?_⟩
  obtain ⟨l⟩ := t
  have h' : l.length = 76 := h
  have e : l = (List.range 76).map (fun i => (⟨l⟩ : Array Value).getD i undef) := by
    apply List.ext_getElem
    · simp [h']
    · intro i h1 h2
      simp [Array.getD, h1]
  have e2 : (List.range 76).map (fun i => (⟨l⟩ : Array Value).getD i undef) = [(⟨l⟩ : Array Value).getD 0 undef, (⟨l⟩ : Array Value).getD 1 undef, (⟨l⟩ : Array Value).getD 2 undef, (⟨l⟩ : Array Value).getD 3 undef, (⟨l⟩ : Array Value).getD 4 undef, (⟨l⟩ : Array Value).getD 5 undef, (⟨l⟩ : Array Value).getD 6 undef, (⟨l⟩ : Array Value).getD 7 undef, (⟨l⟩ : Array Value).getD 8 undef, (⟨l⟩ : Array Value).getD 9 undef, (⟨l⟩ : Array Value).getD 10 undef, (⟨l⟩ : Array Value).getD 11 undef, (⟨l⟩ : Array Value).getD 12 undef, (⟨l⟩ : Array Value).getD 13 undef, (⟨l⟩ : Array Value).getD 14 undef, (⟨l⟩ : Array Value).getD 15 undef, (⟨l⟩ : Array Value).getD 16 undef, (⟨l⟩ : Array Value).getD 17 undef, (⟨l⟩ : Array Value).getD 18 undef, (⟨l⟩ : Array Value).getD 19 undef, (⟨l⟩ : Array Value).getD 20 undef, (⟨l⟩ : Array Value).getD 21 undef, (⟨l⟩ : Array Value).getD 22 undef, (⟨l⟩ : Array Value).getD 23 undef, (⟨l⟩ : Array Value).getD 24 undef, (⟨l⟩ : Array Value).getD 25 undef, (⟨l⟩ : Array Value).getD 26 undef, (⟨l⟩ : Array Value).getD 27 undef, (⟨l⟩ : Array Value).getD 28 undef, (⟨l⟩ : Array Value).getD 29 undef, (⟨l⟩ : Array Value).getD 30 undef, (⟨l⟩ : Array Value).getD 31 undef, (⟨l⟩ : Array Value).getD 32 undef, (⟨l⟩ : Array Value).getD 33 undef, (⟨l⟩ : Array Value).getD 34 undef, (⟨l⟩ : Array Value).getD 35 undef, (⟨l⟩ : Array Value).getD 36 undef, (⟨l⟩ : Array Value).getD 37 undef, (⟨l⟩ : Array Value).getD 38 undef, (⟨l⟩ : Array Value).getD 39 undef, (⟨l⟩ : Array Value).getD 40 undef, (⟨l⟩ : Array Value).getD 41 undef, (⟨l⟩ : Array Value).getD 42 undef, (⟨l⟩ : Array Value).getD 43 undef, (⟨l⟩ : Array Value).getD 44 undef, (⟨l⟩ : Array Value).getD 45 undef, (⟨l⟩ : Array Value).getD 46 undef, (⟨l⟩ : Array Value).getD 47 undef, (⟨l⟩ : Array Value).getD 48 undef, (⟨l⟩ : Array Value).getD 49 undef, (⟨l⟩ : Array Value).getD 50 undef, (⟨l⟩ : Array Value).getD 51 undef, (⟨l⟩ : Array Value).getD 52 undef, (⟨l⟩ : Array Value).getD 53 undef, (⟨l⟩ : Array Value).getD 54 undef, (⟨l⟩ : Array Value).getD 55 undef, (⟨l⟩ : Array Value).getD 56 undef, (⟨l⟩ : Array Value).getD 57 undef, (⟨l⟩ : Array Value).getD 58 undef, (⟨l⟩ : Array Value).getD 59 undef, (⟨l⟩ : Array Value).getD 60 undef, (⟨l⟩ : Array Value).getD 61 undef, (⟨l⟩ : Array Value).getD 62 undef, (⟨l⟩ : Array Value).getD 63 undef, (⟨l⟩ : Array Value).getD 64 undef, (⟨l⟩ : Array Value).getD 65 undef, (⟨l⟩ : Array Value).getD 66 undef, (⟨l⟩ : Array Value).getD 67 undef, (⟨l⟩ : Array Value).getD 68 undef, (⟨l⟩ : Array Value).getD 69 undef, (⟨l⟩ : Array Value).getD 70 undef, (⟨l⟩ : Array Value).getD 71 undef, (⟨l⟩ : Array Value).getD 72 undef, (⟨l⟩ : Array Value).getD 73 undef, (⟨l⟩ : Array Value).getD 74 undef, (⟨l⟩ : Array Value).getD 75 undef] := rfl
  rw [e2] at e
  exact congrArg _ e
abbrev Prs := List (Int × Int)
def upR (b m : Int) (P : Prs) (k : Int) : Prs := P.set k.toNat (max (P.getD k.toNat (0, 0)).1 b, max (P.getD k.toNat (0, 0)).2 m)
def dpG (F : Int) : List Nde → Nat → Prs → Int → Int × Int
  | [], _, _, d => (d, 0)
  | n :: L, i, P, d => if F < (P.getD i (0, 0)).1 + n.b then (0, 27) else dpG F L (i + 1) ((kidL n.r).foldl (upR ((P.getD i (0, 0)).1 + n.b) ((P.getD i (0, 0)).2 + min 1 n.b)) P) (max d ((P.getD i (0, 0)).2 + min 1 n.b))
theorem dp_drop (F : Int) (L : List Nde) (i : Nat) (d : Nde) (h : L[i]? = some d) (P : Prs) (e : Int) : dpG F (L.drop i) i P e = if F < (P.getD i (0, 0)).1 + d.b then (0, 27) else dpG F (L.drop (i + 1)) (i + 1) ((kidL d.r).foldl (upR ((P.getD i (0, 0)).1 + d.b) ((P.getD i (0, 0)).2 + min 1 d.b)) P) (max e ((P.getD i (0, 0)).2 + min 1 d.b)) := by
  obtain ⟨hi, hd⟩ := List.getElem?_eq_some_iff.mp h
  rw [List.drop_eq_getElem_cons hi, hd]
  rfl
def deepR (F : Int) (L : List Nde) : Int × Int := dpG F L 0 (List.replicate L.length (0, 0)) 0
def InP (N i : Nat) (P : Prs) : Prop := P.length = N ∧ ∀ p ∈ P, 0 ≤ p.1 ∧ p.1 ≤ 128 ∧ 0 ≤ p.2 ∧ p.2 ≤ i
theorem InP.at {N i : Nat} {P : Prs} (h : InP N i P) (k : Nat) : 0 ≤ (P.getD k (0, 0)).1 ∧ (P.getD k (0, 0)).1 ≤ 128 ∧ 0 ≤ (P.getD k (0, 0)).2 ∧ (P.getD k (0, 0)).2 ≤ i := by
  rw [List.getD_eq_getElem?_getD]
  cases hk : P[k]? with
  | none => simp
  | some p => exact h.2 p (List.mem_of_getElem? hk)
theorem InP.up {N i : Nat} {P : Prs} (h : InP N i P) (b m : Int) (hb0 : 0 ≤ b) (hb : b ≤ 128) (hm0 : 0 ≤ m) (hm : m ≤ i) (k : Int) : InP N i (upR b m P k) := by
  unfold upR
  refine ⟨by simp [h.1], fun p hp => ?_⟩
  rcases List.mem_or_eq_of_mem_set hp with q | rfl
  · exact h.2 p q
  · have := h.at k.toNat
    dsimp only
    omega
theorem InP.ups {N i : Nat} (b m : Int) (hb0 : 0 ≤ b) (hb : b ≤ 128) (hm0 : 0 ≤ m) (hm : m ≤ i) : ∀ (ks : List Int) {P : Prs}, InP N i P → InP N i (ks.foldl (upR b m) P)
  | [], _, h => h
  | k :: ks, _, h => InP.ups b m hb0 hb hm0 hm ks (h.up b m hb0 hb hm0 hm k)
theorem InP.more {N i j : Nat} {P : Prs} (h : InP N i P) (hij : i ≤ j) : InP N j P := ⟨h.1, fun p hp => by have := h.2 p hp; omega⟩
def flatP (P : Prs) : List Value := P.flatMap fun p => [.int .i64 p.1, .int .i64 p.2]
theorem flp_at : ∀ (P : Prs) (k : Nat) (h : k < P.length), (flatP P)[k * 2]? = some (.int .i64 P[k].1) ∧ (flatP P)[k * 2 + 1]? = some (.int .i64 P[k].2)
  | p :: P, 0, h => ⟨rfl, rfl⟩
  | p :: P, k + 1, h => by
    have := flp_at P k (by simpa using h)
    rw [show (k + 1) * 2 = k * 2 + 2 by omega, show k * 2 + 2 + 1 = k * 2 + 1 + 2 by omega]
    simpa [flatP] using this
theorem flp_set0 : ∀ (P : Prs) (k : Nat) (h : k < P.length) (x : Int), (flatP P).set (k * 2) (.int .i64 x) = flatP (P.set k (x, P[k].2))
  | p :: P, 0, h, x => rfl
  | p :: P, k + 1, h, x => by
    have := flp_set0 P k (by simpa using h) x
    rw [show (k + 1) * 2 = k * 2 + 1 + 1 by omega]
    simp only [flatP, List.flatMap_cons, List.cons_append, List.nil_append, List.set_cons_succ, List.getElem_cons_succ] at this ⊢
    rw [this]
theorem flp_set1 : ∀ (P : Prs) (k : Nat) (h : k < P.length) (x : Int), (flatP P).set (k * 2 + 1) (.int .i64 x) = flatP (P.set k (P[k].1, x))
  | p :: P, 0, h, x => rfl
  | p :: P, k + 1, h, x => by
    have := flp_set1 P k (by simpa using h) x
    rw [show (k + 1) * 2 + 1 = k * 2 + 1 + 1 + 1 by omega]
    simp only [flatP, List.flatMap_cons, List.cons_append, List.nil_append, List.set_cons_succ, List.getElem_cons_succ] at this ⊢
    rw [this]
theorem flp_rep : ∀ (n : Nat), flatP (List.replicate n (0, 0)) = List.replicate (n * 2) (.int .i64 0)
  | 0 => rfl
  | n + 1 => by
    have := flp_rep n
    rw [List.replicate_succ, show (n + 1) * 2 = n * 2 + 1 + 1 by omega, List.replicate_succ, List.replicate_succ, ← this]
    rfl
theorem made_two16 (n : Nat) : madeCells #[.int .i64 0, .int .i64 0] n = (List.replicate n (.int .i64 0)).toArray := by
  unfold madeCells
  apply Array.ext
  · simp
  · intro i h1 h2
    simp only [Array.getElem_map, Array.getElem_range, List.getElem_toArray, List.getElem_replicate]
    have : i % 2 = 0 ∨ i % 2 = 1 := by omega
    show #[Value.int IntKind.i64 0, Value.int IntKind.i64 0][i % 2]! = _
    rcases this with q | q <;> rw [q] <;> rfl
structure DpV (w : World) (N : Nat) (P : Prs) (W : World) : Prop where
  g : W.heap[w.heap.size]? = some (.cells (flatP P).toArray 110)
  u : W.heap[w.heap.size + 1]? = some (.cells #[.slice (some ⟨w.heap.size, 0, none⟩) N N] 108)
  b : Below w.heap.size w W
  l : P.length = N
def DpX (w : World) (z : Nat) : Prop := z = w.heap.size
section
variable {w W W' : World} {N : Nat} {P : Prs}
theorem DpV.below (h : DpV w N P W) (hb : Below W.heap.size W W') : DpV w N P W' := ⟨(hb.block _ (lt_16 h.g)).trans h.g, (hb.block _ (lt_16 h.u)).trans h.u, keepb hb h.b, h.l⟩
theorem DpV.kept {row : Option Nat} (h : DpV w N P W) (hg : W.grownBy W' row) (hr : ∀ r, row = some r → w.heap.size ≤ r ∧ ∃ o : Obj, W.heap[r]? = some o ∧ o.isCells = false) : DpV w N P W' :=
  ⟨blk_16 hg (fun r e => (hr r e).2) h.g, blk_16 hg (fun r e => (hr r e).2) h.u, h.b.grown hg h.b.size (fun r e => (hr r e).1), h.l⟩
theorem DpV.set0 (h : DpV w N P W) (k : Nat) (hk : k < P.length) (x : Int) : DpV w N (P.set k (x, P[k].2)) (W.setCell ⟨w.heap.size, k * 2, none⟩ (.int .i64 x)) := by
  refine ⟨?_, (far_16 (by omega)).trans h.u, h.b.setCell (p := ⟨w.heap.size, k * 2, none⟩) (Nat.le_refl _) _, by simp [h.l]⟩
  rw [set_16 h.g, List.setIfInBounds_toArray, flp_set0 P k hk]
theorem DpV.set1 (h : DpV w N P W) (k : Nat) (hk : k < P.length) (x : Int) : DpV w N (P.set k (P[k].1, x)) (W.setCell ⟨w.heap.size, k * 2 + 1, none⟩ (.int .i64 x)) := by
  refine ⟨?_, (far_16 (by omega)).trans h.u, h.b.setCell (p := ⟨w.heap.size, k * 2 + 1, none⟩) (Nat.le_refl _) _, by simp [h.l]⟩
  rw [set_16 h.g, List.setIfInBounds_toArray, flp_set1 P k hk]
theorem DpV.cell (h : DpV w N P W) {k : Nat} (hk : k < N) : W.cell? ⟨w.heap.size, k * 2, none⟩ = some (.int .i64 (P.getD k (0, 0)).1) ∧ W.cell? ⟨w.heap.size, k * 2 + 1, none⟩ = some (.int .i64 (P.getD k (0, 0)).2) := by
  have hk' : k < P.length := by rw [h.l]; exact hk
  obtain ⟨a, b⟩ := flp_at P k hk'
  rw [List.getD_eq_getElem?_getD, List.getElem?_eq_getElem hk']
  exact ⟨at_16 h.g _ _ (by rw [List.getElem?_toArray, a]; rfl), at_16 h.g _ _ (by rw [List.getElem?_toArray, b]; rfl)⟩
end
theorem set_two16 (P : Prs) (k : Nat) (hk : k < P.length) (x y : Int) : (P.set k (x, P[k].2)).set k (((P.set k (x, P[k].2))[k]'(by simpa using hk)).1, y) = P.set k (x, y) := by
  rw [List.set_set]; simp
theorem Try.infoR16 : (Try.prog.info? 110).map (fun i => (i.zero, i.size, i.bytes)) = some (some (.agg #[.int .i64 0, .int .i64 0]), 2, 16) := by kernel_rfl
set_option maxRecDepth 100000 in
set_option maxHeartbeats 16000000 in
theorem deepest_any (F : Int) (v : Value) (L : List Nde) (w : World) (hF : F ≤ 128) (hv : RwD w v L) (h0 : 0 < L.length) (hl : L.length ≤ 1000000000) (hr : ∀ d ∈ L, d.r.length ≤ 1000000000) (hb : ∀ d ∈ L, 0 ≤ d.b ∧ d.b ≤ 128) (hk : ∀ d ∈ L, ∀ x ∈ kidL d.r, 0 ≤ x ∧ x < L.length) :
    Calls Try.prog 43 #[.int .i64 F, v] w fun e w' => e = .returned (.tuple #[.int .i64 (deepR F L).1, .int .i64 (deepR F L).2]) ∧ Below w.heap.size w w' := by
  obtain ⟨i0, hi, hz0, hz1, hz2⟩ := info13 Try.infoR16
  obtain ⟨ao, c, rfl, hc, hrow⟩ := hv
  obtain ⟨b, off, rfl, hcell⟩ : ∃ b off, ao = some ⟨b, off, none⟩ ∧ ∀ j d, L[j]? = some d → ∃ vr, w.cell? ⟨b, off + j * 2, none⟩ = some (.int .i64 d.b) ∧ w.cell? ⟨b, off + j * 2 + 1, none⟩ = some vr ∧ RwN w vr d.r := by
    rcases hrow with h | h
    · rw [h] at h0; simp at h0
    · exact h
  have HC := hid13 hcell
  have HL : Hid (0 < L.length ∧ L.length ≤ 1000000000 ∧ (∀ d ∈ L, d.r.length ≤ 1000000000) ∧ (∀ d ∈ L, 0 ≤ d.b ∧ d.b ≤ 128) ∧ (∀ d ∈ L, ∀ x ∈ kidL d.r, 0 ≤ x ∧ x < L.length)) := ⟨h0, hl, hr, hb, hk⟩
  have HFF : Hid (F ≤ 128) := hF
  obtain ⟨E, hE⟩ : ∃ E, E = deepR F L := ⟨_, rfl⟩
  rw [← hE]
  have HE0 : Hid (dpG F L 0 (List.replicate L.length (0, 0)) 0 = E) := hE.symm
  clear hcell hrow hr hk hb hE
  refine (callsIn_wide (n := 9)).1 ?_
  refine callsIn_of_wp_marks Try.func43 rfl trivial ?_ rfl
  simp only [Try.ntmps43, List.size_toArray, List.length_cons, List.length_nil, Nat.reduceAdd, Nat.reduceSub, Array.replicate_succ, Array.replicate_zero, List.push_toArray, List.append_toArray, List.nil_append, List.cons_append]
  refine wpIn_wide.2 ?_
  go_wp2_with (at_make; apply stopHere9)
  refine (show wpList _ _ _ _ _ _ from ?_)
  refine wpList_make16 _ rfl _ _ 108 rfl 110 i0 (.agg #[.int .i64 0, .int .i64 0]) Try.underlying108 hi hz0 .i64 .i64 _ _ L.length L.length rfl rfl rfl rfl (Nat.le_refl _) (by rw [hz2]; omega) (by unfold maxLen; omega) ?_
  have eO : madeCells (Value.agg #[.int .i64 0, .int .i64 0]).cells (L.length * i0.size) = (flatP (List.replicate L.length (0, 0))).toArray := by rw [hz1, flp_rep]; exact made_two16 _
  rw [eO]
  clear eO
  obtain ⟨O, hO⟩ : ∃ O : Obj, O = .cells (flatP (List.replicate L.length (0, 0))).toArray 110 := ⟨_, rfl⟩
  rw [← hO]
  have U3 : DpV w L.length (List.replicate L.length (0, 0)) ((w.alloc O).alloc (.cells #[.slice (some ⟨w.heap.size, 0, none⟩) L.length L.length] 108)) := by
    have e1 : (w.alloc O).heap.size = w.heap.size + 1 := by simp
    refine ⟨?_, ?_, ?_, by simp⟩
    · exact old_16 _ (by rw [← hO]; exact new_16 _ _)
    · have := new_16 (w.alloc O) (.cells #[.slice (some ⟨w.heap.size, 0, none⟩) L.length L.length] 108)
      rwa [e1] at this
    · exact bl2 w _ _
  have HU := hid13 U3
  clear U3 hO
  go_wp2_with fail
  revert HU
  generalize (w.alloc O).alloc (.cells #[.slice (some ⟨w.heap.size, 0, none⟩) L.length L.length] 108) = W0
  intro HU
  refine wp_loop (fun a W => ∃ (j : Nat) (ls : List Nat) (P : Prs) (dp : Int), a.tmps.size = 76 ∧ a.tmps.getD 0 undef = .int .i64 F ∧ a.tmps.getD 6 undef = .int .i64 dp ∧ a.tmps.getD 7 undef = .pointer (some ⟨w.heap.size + 1, 0, none⟩) ∧ a.tmps.getD 15 undef = .slice (some ⟨b, off, none⟩) L.length c ∧ a.tmps.getD 16 undef = .int .i64 (L.length : Int) ∧ a.tmps.getD 17 undef = .int .i64 (j : Int) ∧ a.defers = (ls.map fun D => { target := .collected D, args := #[] }) ∧ Hid (j ≤ L.length ∧ MkS (w.heap.size + 2) ls W ∧ DpV w L.length P W ∧ InP L.length j P ∧ dpG F (L.drop j) j P dp = E)) (fun a W => L.length - (intOf13 (a.tmps.getD 17 undef)).toNat) ?_ ?_
  · exact ⟨0, [], _, 0, rfl, rfl, rfl, rfl, rfl, rfl, rfl, rfl, hid13 ⟨Nat.zero_le _, MkS.nil _ _, HU.out, ⟨by simp, fun p hp => by rw [List.eq_of_mem_replicate hp]; simp⟩, HE0.out⟩⟩
  rintro ⟨tm, df⟩ W ⟨j, ls, P, dp, hs, h0', h6, h7, h15, h16, h17, hdf, HLL⟩
  dsimp only at hs h0' h6 h7 h15 h16 h17 hdf
  obtain ⟨u, hu, htm⟩ := arr76 tm hs
  rw [← hu] at h0' h6 h7 h15 h16 h17
  have HMu : Hid (L.length - (intOf13 (tm.getD 17 undef)).toNat = L.length - j) := hid13 (by rw [← hu, h17]; simp [intOf13])
  rw [HMu.out]
  rw [htm, hdf, h0', h6, h7, h15, h16, h17]
  clear hu htm hs hdf h0' h6 h7 h15 h16 h17 HMu tm df HU HE0
  by_cases hlt : j < L.length
  · have hli : (j : Int) < (L.length : Int) := by omega
    obtain ⟨d, hd⟩ : ∃ d, L[j]? = some d := ⟨L[j], by simp [hlt]⟩
    have HT := hid13 (dp_drop F L j d hd P dp)
    have hmem : d ∈ L := List.mem_of_getElem? hd
    have HD : Hid (d.r.length ≤ 1000000000 ∧ (0 ≤ d.b ∧ d.b ≤ 128) ∧ ∀ x ∈ kidL d.r, 0 ≤ x ∧ x < L.length) := ⟨HL.out.2.2.1 d hmem, HL.out.2.2.2.1 d hmem, HL.out.2.2.2.2 d hmem⟩
    obtain ⟨vr, x0, x1, hR⟩ := HC.out j d hd
    obtain ⟨db, dr⟩ := d
    dsimp only at HT HD x0 x1 hR
    have x0 := keepc HLL.out.2.2.1.b x0
    have x1 := keepc HLL.out.2.2.1.b x1
    obtain ⟨vo, vc, hvr, hvc, hvr2⟩ := id hR
    have HR := hid13 hR
    have y0 := at_16 HLL.out.2.2.1.u 0 _ rfl
    obtain ⟨y1, y2⟩ := HLL.out.2.2.1.cell hlt
    have HI := hid13 (HLL.out.2.2.2.1.at j)
    generalize hp1 : (P.getD j (0, 0)).1 = p1 at *
    generalize hp2 : (P.getD j (0, 0)).2 = p2 at *
    clear hp1 hp2
    have HZ : Hid (dr ≠ [] → ∀ ad, vo = some ad → ad.block < w.heap.size) := hid13 (fun hne ad e => by
      rcases hvr2 with h | ⟨b2, o2, e2, h2⟩
      · exact absurd h hne
      · rw [e2] at e
        cases e
        obtain ⟨r, t, hrt⟩ := List.exists_cons_of_ne_nil hne
        exact cell_in (h2 0 r (by rw [hrt]; rfl)).1)
    have KK := fun w => kids_any db vr w
    subst hvr
    have HJ : Hid (j < L.length ∧ L.length ≤ 1000000000) := ⟨hlt, hl⟩
    have mj : IntKind.i64.wrap ((j : Int) + 1) = ((j + 1 : Nat) : Int) := by rw [IntKind.wrap_i64]; push_cast; omega
    have m1 : wrap64 (p1 + db) = p1 + db := by unfold wrap64; have := HI.out; have := HD.out.2.1; omega
    have mn := min_16 1 db
    obtain ⟨mb, hmb⟩ : ∃ mb, mb = min 1 db := ⟨_, rfl⟩
    rw [← hmb] at mn HT
    have HMB : Hid (0 ≤ mb ∧ mb ≤ 1) := by have := HD.out.2.1; show _ ∧ _; omega
    have m2 : wrap64 (p2 + mb) = p2 + mb := by unfold wrap64; have := HI.out; have := HMB.out; have := HJ.out; omega
    have mx := max_16 dp (p2 + mb)
    have bW : w.heap.size + 1 < W.heap.size := lt_16 HLL.out.2.2.1.u
    have bW0 : w.heap.size < W.heap.size := by omega
    have bb : b < W.heap.size := cell_in x0
    have HSB := hid13 bW
    obtain ⟨B, hB⟩ : ∃ B, B = p1 + db := ⟨_, rfl⟩
    obtain ⟨M, hM⟩ : ∃ M, M = p2 + mb := ⟨_, rfl⟩
    rw [← hB] at HT
    rw [← hM] at mx HT
    replace m1 : wrap64 (p1 + db) = B := m1.trans hB.symm
    replace m2 : wrap64 (p2 + mb) = M := m2.trans hM.symm
    have HBM : Hid ((0 ≤ B ∧ B ≤ 256) ∧ 0 ≤ M ∧ M ≤ j + 1) := by have := HI.out; have := HD.out.2.1; have := HMB.out; show _ ∧ _; omega
    clear hR hd hmem hvr2 hlt hmb hB hM
    by_cases hf : F < B
    · have HEE : Hid (E = (0, 27)) := by show _ = _; rw [← HLL.out.2.2.2.2, HT.out, if_pos hf]
      have HMk := hid13 HLL.out.2.1
      have HBe := hid13 HLL.out.2.2.1.b
      clear HT HLL KK
      have HSz : Hid (w.heap.size + 2 ≤ W.heap.size) := by have := HSB.out; show _ ≤ _; omega
      have HQ := hid13 (bl2 W (.cells #[.int .i64 db, .slice vo dr.length vc] 57) (.cells #[.int .i64 B, .int .i64 M] 110))
      go_wp2
      refine leaves_16 (B := w.heap.size + 2) ls _ HMk.out.1 (fun D hD => ?_) (fun W' hb => ?_)
      · obtain ⟨d1, d2⟩ := HMk.out.2 D hD
        exact ⟨d1, (HQ.out.block D (lt_16 d2)).trans d2⟩
      · refine ⟨.tuple #[.int .i64 0, .int .i64 27], ?_, by rw [HEE.out], (keepb HQ.out HBe.out).trans (hb.mono (by omega))⟩
        simp [results, Try.results43, go_sem]
    · have HEE : Hid (dpG F (L.drop (j + 1)) (j + 1) ((kidL dr).foldl (upR B M) P) (max dp M) = E) := by show _ = _; rw [← HLL.out.2.2.2.2, HT.out, if_neg hf]
      have HBF : Hid (B ≤ F) := by show _ ≤ _; omega
      clear HT
      go_wp2_with fail
      refine (KK _).mono ?_
      rintro e W2 ⟨rfl, hW2⟩
      have HQ : Hid (Below W.heap.size W W2) := by show Below _ _ _; rw [hW2]; exact keepb (bl1 _ _) (bl2 W _ _)
      have hsz : W2.heap.size = W.heap.size + 3 := by rw [hW2]; simp
      have HSz := hid13 hsz
      have HA2 : Hid (AtD W2 (W.heap.size + 1 + 1) db (.slice vo dr.length vc)) := hid13 (by
        have := atd_new ((W.alloc (.cells #[.int .i64 db, .slice vo dr.length vc] 57)).alloc (.cells #[.int .i64 B, .int .i64 M] 110)) db (.slice vo dr.length vc) 57
        rw [← hW2] at this
        simpa using this)
      have HMt : Hid (W2.heap[W.heap.size + 1]? = some (.cells #[.int .i64 B, .int .i64 M] 110)) := hid13 (by
        rw [hW2]
        refine old_16 _ ?_
        have := new_16 (W.alloc (.cells #[.int .i64 db, .slice vo dr.length vc] 57)) (.cells #[.int .i64 B, .int .i64 M] 110)
        rwa [World.size_alloc] at this)
      clear hW2 KK x0 x1 hsz y0 y1 y2 mx mn m1 m2
      go_wp2_with fail
      refine (wpIn_wide (n := 9)).1 ?_
      refine rangeXA 9 (by decide) (gf := 83) (lb := #[.pointer (some ⟨W.heap.size + 1 + 1, 0, none⟩)]) rfl (enters_of Try.func83 (by kernel_rfl) rfl)
        (kids1_any (9 - 1) (fun z => z < w.heap.size ∨ z = W.heap.size + 1 + 1) (W.heap.size + 1 + 1) db vo vc dr HD.out.1 0 W2 ⟨HA2.out, .inr rfl, HR.out.below (keepb HQ.out HLL.out.2.2.1.b), fun hne ad e => .inl (HZ.out hne ad e)⟩) (Nat.zero_le _) (fun A => KZ.refl _ _) (fun h k => h.trans k) (fun V o o' h1 h2 => kz_put (by have := HSz.out; have := HLL.out.2.2.1.b.size; rintro (q | q) <;> omega) V o o' h1 h2) (Below.refl _ _) (fun _ => rfl)
        (fun pre V => DpV w L.length (pre.foldl (upR B M) P) V ∧ KX (DpX w) W2 V)
        (fun c pre V => False)
        (fun s X Y row hs hg hr => ⟨hs.1.kept hg (fun r e => ⟨by have := (hr r e).1; have := HSz.out; have := HLL.out.2.2.1.b.size; omega, (hr r e).2⟩), KX.own (β := Unit) (B := W2.heap.size) (Nat.le_refl _) () X Y row hs.2 hg hr⟩)
        (fun c s X Y row hs hg hr => hs)
        ⟨HLL.out.2.2.1.below HQ.out, KX.refl _ _⟩
        ?AX ?assign ?body ?done ?stop
      case assign =>
        intro lo y V K hK
        unfold encI
        simp only [List.zip_toArray, List.zip_cons_cons, List.zip_nil_left, List.zip_nil_right, List.foldl_toArray, List.foldl_cons, List.foldl_nil, List.setIfInBounds_toArray, List.set_cons_zero, List.set_cons_succ, Array.zip]
        have HKK := hid13 hK
        clear hK
        gi_wp2
        exact HKK.out
      case body =>
        rintro lo pre x V hlo - ⟨hU, hX⟩ hsp
        obtain ⟨hx0, hx1⟩ := HD.out.2.2 x (hsp.mem (by simp))
        obtain ⟨k, rfl⟩ : ∃ k : Nat, x = (k : Int) := ⟨x.toNat, by omega⟩
        have hkN : k < L.length := by omega
        have hki : (k : Int) < (L.length : Int) := by omega
        have HF : Hid ((pre ++ [(k : Int)]).foldl (upR B M) P = upR B M (pre.foldl (upR B M) P) (k : Int)) := by show _ = _; rw [List.foldl_append]; rfl
        generalize pre.foldl (upR B M) P = S at *
        have hkS : k < S.length := by rw [hU.l]; exact hkN
        have u0 := at_16 hU.u 0 _ rfl
        obtain ⟨v0, v1⟩ := hU.cell hkN
        have v0f := fr_16 (j := k * 2) hU.g
        have t0 := (hX.2 (W.heap.size + 1) (by have := HSz.out; omega) (fun q => by have := HSB.out; unfold DpX at q; omega)).trans HMt.out
        have t1 := at_16 t0 0 _ rfl
        have t2 := at_16 t0 1 _ rfl
        have HV : Hid (w.heap.size + 3 ≤ W2.heap.size ∧ W2.heap.size ≤ lo) := ⟨by have := HSB.out; have := HSz.out; omega, hlo⟩
        obtain ⟨pa, hpa⟩ : ∃ pa, pa = (S.getD k (0, 0)).1 := ⟨_, rfl⟩
        obtain ⟨pb, hpb⟩ : ∃ pb, pb = (S.getD k (0, 0)).2 := ⟨_, rfl⟩
        rw [← hpa] at v0
        rw [← hpb] at v1
        have hS1 : S[k].1 = pa ∧ S[k].2 = pb := by rw [hpa, hpb, List.getD_eq_getElem?_getD, List.getElem?_eq_getElem hkS]; exact ⟨rfl, rfl⟩
        have mx1 := max_16 pa B
        have mx2 := max_16 pb M
        have U1 := hU.set0 k hkS (max pa B)
        have bd : Below (V.setCell ⟨w.heap.size, k * 2, none⟩ (.int .i64 (max pa B))).heap.size (V.setCell ⟨w.heap.size, k * 2, none⟩ (.int .i64 (max pa B))) (V.setCell ⟨w.heap.size, k * 2, none⟩ (.int .i64 (max pa B))).drew := (Below.refl _ _).drew
        replace U1 := U1.below bd
        have u1 := at_16 U1.u 0 _ rfl
        have hkS1 : k < (S.set k (max pa B, S[k].2)).length := by simpa using hkS
        have hv1 := (U1.cell hkN).2
        have v1' : (V.setCell ⟨w.heap.size, k * 2, none⟩ (.int .i64 (max pa B))).drew.cell? ⟨w.heap.size, k * 2 + 1, none⟩ = some (.int .i64 pb) := by
          rw [hv1, List.getD_eq_getElem?_getD, List.getElem?_eq_getElem hkS1]
          simp [hS1.2]
        have v1f := fr_16 (j := k * 2 + 1) U1.g
        have X1 := ((KX.refl (DpX w) V).set w.heap.size (k * 2) (.int .i64 (max pa B)) (.inl rfl)).below bd
        have X1' := (hX.set w.heap.size (k * 2) (.int .i64 (max pa B)) (.inl rfl)).below bd
        have t0' := (X1'.2 (W.heap.size + 1) (by have := HSz.out; omega) (fun q => by have := HSB.out; unfold DpX at q; omega)).trans HMt.out
        have t2' := at_16 t0' 1 _ rfl
        obtain ⟨V1, hV1⟩ : ∃ V1, V1 = (V.setCell ⟨w.heap.size, k * 2, none⟩ (.int .i64 (max pa B))).drew := ⟨_, rfl⟩
        rw [← hV1] at U1 u1 v1' v1f X1 X1' t2'
        have U2 := U1.set1 k hkS1 (max pb M)
        have bd1 : Below (V1.setCell ⟨w.heap.size, k * 2 + 1, none⟩ (.int .i64 (max pb M))).heap.size (V1.setCell ⟨w.heap.size, k * 2 + 1, none⟩ (.int .i64 (max pb M))) (V1.setCell ⟨w.heap.size, k * 2 + 1, none⟩ (.int .i64 (max pb M))).drew := (Below.refl _ _).drew
        have X2 := (X1.set w.heap.size (k * 2 + 1) (.int .i64 (max pb M)) (.inl rfl)).below bd1
        have X2' := (X1'.set w.heap.size (k * 2 + 1) (.int .i64 (max pb M)) (.inl rfl)).below bd1
        rw [set_two16 S k hkS] at U2
        replace U2 := U2.below bd1
        have HU2 : Hid (DpV w L.length ((pre ++ [(k : Int)]).foldl (upR B M) P) (V1.setCell ⟨w.heap.size, k * 2 + 1, none⟩ (.int .i64 (max pb M))).drew) := by
          show DpV _ _ _ _
          rw [HF.out]
          unfold upR
          rw [Int.toNat_natCast, ← hpa, ← hpb]
          exact U2
        have HX2 := hid13 X2
        have HX2' := hid13 X2'
        clear hpa hpb hS1 hU hX hsp U1 U2 X1 X1' X2 X2' t0 t0' hv1 bd bd1
        gi_wp2
        refine qpw_regionR 10 (qpOk 10 10 (by decide) (fun N => by kernel_rfl) (by kernel_rfl) (by kernel_rfl) (by kernel_rfl) (by kernel_rfl)) (C := fun X => X = V.drew) (by rintro ⟨_, _, h⟩; exact h) [some 50, some 51, some 52, some 53, some 54, some 55, some 56, some 57, some 58, some 59] [.slice (some ⟨w.heap.size, 0, none⟩) L.length L.length, .int .i64 (k : Int), .slice (some ⟨w.heap.size, 0, none⟩) L.length L.length, .int .i64 (k : Int), .pointer (some ⟨w.heap.size, k * 2, none⟩), .pointer (some ⟨w.heap.size, k * 2, none⟩), .int .i64 (pa), .pointer (some ⟨W.heap.size + 1, 0, none⟩), .int .i64 B, .int .i64 (max pa B)] (by kernel_rfl) (by kernel_rfl) rfl ?walkq1 ?finq1
        case walkq1 =>
          refine qw_run (v := .slice (some ⟨w.heap.size, 0, none⟩) L.length L.length) (by rfl) ?_ ?_
          · (intro w9 hC; subst hC; go_simp; first | done | (simp; done) | (simp [*]; done) | omega | (simp; omega) | (rw [IntKind.wrap_i64]; omega) | (intro hx; omega) | rfl)
          simp only [Act.put, List.setIfInBounds_toArray, List.set_cons_zero, List.set_cons_succ]
          refine qw_run (v := .int .i64 (k : Int)) (by rfl) ?_ ?_
          · (intro w9 hC; subst hC; go_simp; first | done | (simp; done) | (simp [*]; done) | omega | (simp; omega) | (rw [IntKind.wrap_i64]; omega) | (intro hx; omega) | rfl)
          simp only [Act.put, List.setIfInBounds_toArray, List.set_cons_zero, List.set_cons_succ]
          refine qw_run (v := .slice (some ⟨w.heap.size, 0, none⟩) L.length L.length) (by rfl) ?_ ?_
          · (intro w9 hC; subst hC; go_simp; first | done | (simp; done) | (simp [*]; done) | omega | (simp; omega) | (rw [IntKind.wrap_i64]; omega) | (intro hx; omega) | rfl)
          simp only [Act.put, List.setIfInBounds_toArray, List.set_cons_zero, List.set_cons_succ]
          refine qw_run (v := .int .i64 (k : Int)) (by rfl) ?_ ?_
          · (intro w9 hC; subst hC; go_simp; first | done | (simp; done) | (simp [*]; done) | omega | (simp; omega) | (rw [IntKind.wrap_i64]; omega) | (intro hx; omega) | rfl)
          simp only [Act.put, List.setIfInBounds_toArray, List.set_cons_zero, List.set_cons_succ]
          refine qw_run (v := .pointer (some ⟨w.heap.size, k * 2, none⟩)) (by rfl) ?_ ?_
          · (intro w9 hC; subst hC; go_simp; first | done | (simp; done) | (simp [*]; done) | omega | (simp; omega) | (rw [IntKind.wrap_i64]; omega) | (intro hx; omega) | rfl)
          simp only [Act.put, List.setIfInBounds_toArray, List.set_cons_zero, List.set_cons_succ]
          refine qw_run (v := .pointer (some ⟨w.heap.size, k * 2, none⟩)) (by rfl) ?_ ?_
          · (intro w9 hC; subst hC; go_simp; first | done | (simp; done) | (simp [*]; done) | omega | (simp; omega) | (rw [IntKind.wrap_i64]; omega) | (intro hx; omega) | rfl)
          simp only [Act.put, List.setIfInBounds_toArray, List.set_cons_zero, List.set_cons_succ]
          refine qw_run (v := .int .i64 (pa)) (by rfl) ?_ ?_
          · (intro w9 hC; subst hC; go_simp; first | done | (simp; done) | (simp [*]; done) | omega | (simp; omega) | (rw [IntKind.wrap_i64]; omega) | (intro hx; omega) | rfl)
          simp only [Act.put, List.setIfInBounds_toArray, List.set_cons_zero, List.set_cons_succ]
          refine qw_run (v := .pointer (some ⟨W.heap.size + 1, 0, none⟩)) (by rfl) ?_ ?_
          · (intro w9 hC; subst hC; go_simp; first | done | (simp; done) | (simp [*]; done) | omega | (simp; omega) | (rw [IntKind.wrap_i64]; omega) | (intro hx; omega) | rfl)
          simp only [Act.put, List.setIfInBounds_toArray, List.set_cons_zero, List.set_cons_succ]
          refine qw_run (v := .int .i64 B) (by rfl) ?_ ?_
          · (intro w9 hC; subst hC; go_simp; first | done | (simp; done) | (simp [*]; done) | omega | (simp; omega) | (rw [IntKind.wrap_i64]; omega) | (intro hx; omega) | rfl)
          simp only [Act.put, List.setIfInBounds_toArray, List.set_cons_zero, List.set_cons_succ]
          refine qw_run (v := .int .i64 (max pa B)) (by rfl) ?_ ?_
          · (intro w9 hC; subst hC; go_simp; first | done | (simp; done) | (simp [*]; done) | omega | (simp; omega) | (rw [IntKind.wrap_i64]; omega) | (intro hx; omega) | rfl)
          simp only [Act.put, List.setIfInBounds_toArray, List.set_cons_zero, List.set_cons_succ]
          refine qw_nil ?_
          simp only [putAll, Act.put, List.setIfInBounds_toArray, List.set_cons_zero, List.set_cons_succ]
        case finq1 =>
          intro w9 hC
          subst hC
          simp only [putAll, Act.put, List.setIfInBounds_toArray, List.set_cons_zero, List.set_cons_succ]
          dsimp only [List.drop]
          clear v1 mx1
          have v0' : V.drew.cell? ⟨w.heap.size, k * 2, none⟩ = some (.int .i64 pa) := v0
          have v0f' : V.drew.frozen? ⟨w.heap.size, k * 2, none⟩ = false := v0f
          go_wp2
          rw [← hV1]
          clear v0 v0f v0' v0f' u0 t1 t2 hV1
          refine qpw_regionR 10 (qpOk 10 10 (by decide) (fun N => by kernel_rfl) (by kernel_rfl) (by kernel_rfl) (by kernel_rfl) (by kernel_rfl)) (C := fun X => X = V1.drew) (by rintro ⟨_, _, h⟩; exact h) [some 62, some 63, some 64, some 65, some 66, some 67, some 68, some 69, some 70, some 71] [.slice (some ⟨w.heap.size, 0, none⟩) L.length L.length, .int .i64 (k : Int), .slice (some ⟨w.heap.size, 0, none⟩) L.length L.length, .int .i64 (k : Int), .pointer (some ⟨w.heap.size, k * 2, none⟩), .pointer (some ⟨w.heap.size, k * 2 + 1, none⟩), .int .i64 (pb), .pointer (some ⟨W.heap.size + 1, 1, none⟩), .int .i64 M, .int .i64 (max pb M)] (by kernel_rfl) (by kernel_rfl) rfl ?walkq2 ?finq2
          case walkq2 =>
            refine qw_run (v := .slice (some ⟨w.heap.size, 0, none⟩) L.length L.length) (by rfl) ?_ ?_
            · (intro w9 hC; subst hC; go_simp; first | done | (simp; done) | (simp [*]; done) | omega | (simp; omega) | (rw [IntKind.wrap_i64]; omega) | (intro hx; omega) | rfl)
            simp only [Act.put, List.setIfInBounds_toArray, List.set_cons_zero, List.set_cons_succ]
            refine qw_run (v := .int .i64 (k : Int)) (by rfl) ?_ ?_
            · (intro w9 hC; subst hC; go_simp; first | done | (simp; done) | (simp [*]; done) | omega | (simp; omega) | (rw [IntKind.wrap_i64]; omega) | (intro hx; omega) | rfl)
            simp only [Act.put, List.setIfInBounds_toArray, List.set_cons_zero, List.set_cons_succ]
            refine qw_run (v := .slice (some ⟨w.heap.size, 0, none⟩) L.length L.length) (by rfl) ?_ ?_
            · (intro w9 hC; subst hC; go_simp; first | done | (simp; done) | (simp [*]; done) | omega | (simp; omega) | (rw [IntKind.wrap_i64]; omega) | (intro hx; omega) | rfl)
            simp only [Act.put, List.setIfInBounds_toArray, List.set_cons_zero, List.set_cons_succ]
            refine qw_run (v := .int .i64 (k : Int)) (by rfl) ?_ ?_
            · (intro w9 hC; subst hC; go_simp; first | done | (simp; done) | (simp [*]; done) | omega | (simp; omega) | (rw [IntKind.wrap_i64]; omega) | (intro hx; omega) | rfl)
            simp only [Act.put, List.setIfInBounds_toArray, List.set_cons_zero, List.set_cons_succ]
            refine qw_run (v := .pointer (some ⟨w.heap.size, k * 2, none⟩)) (by rfl) ?_ ?_
            · (intro w9 hC; subst hC; go_simp; first | done | (simp; done) | (simp [*]; done) | omega | (simp; omega) | (rw [IntKind.wrap_i64]; omega) | (intro hx; omega) | rfl)
            simp only [Act.put, List.setIfInBounds_toArray, List.set_cons_zero, List.set_cons_succ]
            refine qw_run (v := .pointer (some ⟨w.heap.size, k * 2 + 1, none⟩)) (by rfl) ?_ ?_
            · (intro w9 hC; subst hC; go_simp; first | done | (simp; done) | (simp [*]; done) | omega | (simp; omega) | (rw [IntKind.wrap_i64]; omega) | (intro hx; omega) | rfl)
            simp only [Act.put, List.setIfInBounds_toArray, List.set_cons_zero, List.set_cons_succ]
            refine qw_run (v := .int .i64 (pb)) (by rfl) ?_ ?_
            · (intro w9 hC; subst hC; go_simp; first | done | (simp; done) | (simp [*]; done) | omega | (simp; omega) | (rw [IntKind.wrap_i64]; omega) | (intro hx; omega) | rfl)
            simp only [Act.put, List.setIfInBounds_toArray, List.set_cons_zero, List.set_cons_succ]
            refine qw_run (v := .pointer (some ⟨W.heap.size + 1, 1, none⟩)) (by rfl) ?_ ?_
            · (intro w9 hC; subst hC; go_simp; first | done | (simp; done) | (simp [*]; done) | omega | (simp; omega) | (rw [IntKind.wrap_i64]; omega) | (intro hx; omega) | rfl)
            simp only [Act.put, List.setIfInBounds_toArray, List.set_cons_zero, List.set_cons_succ]
            refine qw_run (v := .int .i64 M) (by rfl) ?_ ?_
            · (intro w9 hC; subst hC; go_simp; first | done | (simp; done) | (simp [*]; done) | omega | (simp; omega) | (rw [IntKind.wrap_i64]; omega) | (intro hx; omega) | rfl)
            simp only [Act.put, List.setIfInBounds_toArray, List.set_cons_zero, List.set_cons_succ]
            refine qw_run (v := .int .i64 (max pb M)) (by rfl) ?_ ?_
            · (intro w9 hC; subst hC; go_simp; first | done | (simp; done) | (simp [*]; done) | omega | (simp; omega) | (rw [IntKind.wrap_i64]; omega) | (intro hx; omega) | rfl)
            simp only [Act.put, List.setIfInBounds_toArray, List.set_cons_zero, List.set_cons_succ]
            refine qw_nil ?_
            simp only [putAll, Act.put, List.setIfInBounds_toArray, List.set_cons_zero, List.set_cons_succ]
          case finq2 =>
            intro w9 hC
            subst hC
            simp only [putAll, Act.put, List.setIfInBounds_toArray, List.set_cons_zero, List.set_cons_succ]
            dsimp only [List.drop]
            clear mx2 u1 t2'
            have z0' : V1.drew.cell? ⟨w.heap.size, k * 2 + 1, none⟩ = some (.int .i64 pb) := v1'
            have z0f' : V1.drew.frozen? ⟨w.heap.size, k * 2 + 1, none⟩ = false := v1f
            go_wp2
            exact ⟨HX2.out.keeps (fun z hz => by have := HV.out; unfold DpX at hz; omega), HX2.out.kz (fun z hz q => by have := HSB.out; unfold DpX at q; rcases hz with z1 | z1 <;> omega), HU2.out, HX2'.out⟩
      case done =>
        rintro D ys V hD rfl ⟨hU, hX⟩ hK
        have HU := hid13 hU
        have HIn := hid13 (InP.ups B M HBM.out.1.1 (by have := HBF.out; have := HFF.out; omega) HBM.out.2.1 (by have := HBM.out.2.2; push_cast; omega) (kidL dr) (HLL.out.2.2.2.1.more (Nat.le_succ j)))
        have HM := hid13 ((HLL.out.2.1.keep (kx_below (X := DpX w) HQ.out) (fun z hz => by unfold DpX at hz; omega)).cons hX (fun z hz => by unfold DpX at hz; omega) hD (by have := HSB.out; have := HSz.out; omega) hK)
        clear hU hX hK HLL
        refine wl_nil16 (P := Try.prog) (ops := #[]) ?_
        go_wp2
        refine ⟨⟨j + 1, D :: ls, _, max dp M, rfl, rfl, rfl, rfl, rfl, rfl, rfl, rfl, hid13 ⟨by have := HJ.out; omega, HM.out, HU.out, HIn.out, HEE.out⟩⟩, ?_⟩
        have := HJ.out
        first | (simp [intOf13]; omega) | (unfold intOf13; simp; omega)
      case stop =>
        rintro D c pre V hD hpre h hK
        exact h.elim
  · have hli : ¬ (j : Int) < (L.length : Int) := by omega
    have hj : j = L.length := by have := HLL.out.1; omega
    have HEE : Hid (E = (dp, 0)) := by
      show _ = _
      rw [← HLL.out.2.2.2.2, List.drop_eq_nil_of_le (by omega)]; rfl
    have HSw := hid13 (lt_16 HLL.out.2.2.1.u)
    have HBe := hid13 HLL.out.2.2.1.b
    have HMk := hid13 HLL.out.2.1
    clear hj HLL
    go_wp2
    refine leaves_16 (B := w.heap.size + 2) ls _ HMk.out.1 HMk.out.2 (fun W' hb => ?_)
    refine ⟨.tuple #[.int .i64 dp, .int .i64 0], ?_, by rw [HEE.out], HBe.out.trans (hb.mono (by omega))⟩
    simp [results, Try.results43, go_sem]
end Go.Proofs.Ytdpfdlkaickkiaa
namespace Go.Proofs.Ytdpfdlkaickkiaa
open Go.RowKit
set_option linter.unusedSimpArgs false
set_option linter.unusedVariables false

def leadN (z : BitVec 128) : Nat := if z.toNat = 0 then 128 else 127 - z.toNat.log2
theorem lead_char (z : BitVec 128) (k : Nat) (hk : k ≤ 128) (h1 : z.toNat < 2 ^ (128 - k)) (h2 : k = 128 ∨ 2 ^ (127 - k) ≤ z.toNat) : leadN z = k := by
  unfold leadN
  split
  · rename_i h
    rcases h2 with h2 | h2
    · exact h2.symm
    · rw [h] at h2; have := Nat.two_pow_pos (127 - k); omega
  · rename_i h
    have hlt : z.toNat.log2 < 128 - k := (Nat.log2_lt h).mpr h1
    rcases h2 with h2 | h2
    · subst h2; simp at hlt
    · have := (Nat.le_log2 h).mpr h2; omega
theorem bit_step (z : BitVec 128) (k : Nat) (hk : k < 128) (h : z.toNat < 2 ^ (128 - k)) : (z.getLsbD (127 - k) = false → z.toNat < 2 ^ (128 - (k + 1))) ∧ (z.getLsbD (127 - k) = true → 2 ^ (127 - k) ≤ z.toNat) := by
  have e : 128 - k = (127 - k) + 1 := by omega
  have e2 : 128 - (k + 1) = 127 - k := by omega
  rw [e, Nat.pow_succ] at h
  rw [e2]
  have t : z.getLsbD (127 - k) = decide (z.toNat / 2 ^ (127 - k) % 2 = 1) := by
    unfold BitVec.getLsbD; rw [Nat.testBit_eq_decide_div_mod_eq]
  have hd : z.toNat / 2 ^ (127 - k) < 2 := by
    apply Nat.div_lt_of_lt_mul; omega
  constructor
  · intro hf
    rw [t] at hf
    have hq := of_decide_eq_false hf
    have : z.toNat / 2 ^ (127 - k) = 0 := by
      generalize z.toNat / 2 ^ (127 - k) = q at hq hd
      omega
    rcases Nat.div_eq_zero_iff.mp this with h0 | h0
    · have := Nat.two_pow_pos (127 - k); omega
    · exact h0
  · intro hf
    rw [t] at hf; simp at hf
    apply Classical.byContradiction; intro hn
    have : z.toNat / 2 ^ (127 - k) = 0 := Nat.div_eq_of_lt (by omega)
    omega
theorem bitZ_eq (x y : BitVec 128) (k : Nat) (hk : k < 128) : bitZ x (k : Int) = bitZ y (k : Int) ↔ (x ^^^ y).getLsbD (127 - k) = false := by
  have e : (127 - (k : Int)).toNat = 127 - k := by omega
  unfold bitZ
  rw [bitB_in x k (by omega) (by omega), bitB_in y k (by omega) (by omega), e, BitVec.getLsbD_xor]
  cases x.getLsbD (127 - k) <;> cases y.getLsbD (127 - k) <;> simp

theorem lead_wide (v : BitVec 128) (n : Int) (h0 : 0 ≤ n) (h1 : n ≤ 128) : ((leadN v : Nat) : Int) < 128 - n ↔ ¬ v >>> n.toNat = 0#128 := by
  have hv := v.isLt
  have key : v >>> n.toNat = 0#128 ↔ v.toNat < 2 ^ n.toNat := by
    constructor
    · intro h
      have := congrArg BitVec.toNat h
      rw [BitVec.toNat_ushiftRight, Nat.shiftRight_eq_div_pow] at this
      have this2 : v.toNat / 2 ^ n.toNat = 0 := this
      rcases Nat.div_eq_zero_iff.mp this2 with h0 | h0
      · have := Nat.two_pow_pos n.toNat; omega
      · exact h0
    · intro h
      apply BitVec.eq_of_toNat_eq
      rw [BitVec.toNat_ushiftRight, Nat.shiftRight_eq_div_pow, Nat.div_eq_of_lt h]; rfl
  rw [key]
  unfold leadN
  split
  · rename_i h
    rw [h]; have := Nat.two_pow_pos n.toNat
    constructor
    · intro; omega
    · intro; omega
  · rename_i h
    have hl : v.toNat.log2 < 128 := (Nat.log2_lt h).mpr hv
    have := Nat.log2_lt (k := n.toNat) h
    constructor
    · intro g g2
      have := this.mpr g2; omega
    · intro g
      have : ¬ v.toNat.log2 < n.toNat := fun q => g (this.mp q)
      omega

end Go.Proofs.Ytdpfdlkaickkiaa
