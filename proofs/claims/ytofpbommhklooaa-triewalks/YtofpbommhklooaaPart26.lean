/-
  Part 26 of the proof: 1 texts, one behind the other.
-/
import Derived.Test.YtofpbommhklooaaPart12
import Derived.Test.YtofpbommhklooaaPart15
import Derived.Test.YtofpbommhklooaaPart10
import Derived.Test.YtofpbommhklooaaPart23
/-
  What a round of the document's New does: a prefix is laid, a next hop is laid.
-/
namespace Go.Proofs.Ytofpbommhklooaa
open Go.RowKit Go.Shelf
set_option linter.unusedSimpArgs false
set_option linter.unusedVariables false
attribute [local go_sem] Oper.semAt_some

theorem news3 {W : World} {N : Nat} {a b c : Value} (h : W.cell? ⟨N, 0, none⟩ = some a ∧ W.cell? ⟨N, 1, none⟩ = some b ∧ W.cell? ⟨N, 2, none⟩ = some c) : ∀ j u, [a, b, c][j]? = some u → W.cell? ((⟨N, 0, none⟩ : Addr).add j) = some u := by
  intro j u hj
  rw [addA, Nat.zero_add]
  match j, hj with
  | 0, hj => simp at hj; subst hj; exact h.1
  | 1, hj => simp at hj; subst hj; exact h.2.1
  | 2, hj => simp at hj; subst hj; exact h.2.2
/-- The tree, a route's prefix (block Pb), the table's variable (block T), and what stays. -/
def DwE (base D : Nat) (F : Int) (v : Value) (P : List (BitVec 128 × Int)) (Z : List Int) (vp vh : Value) (Pb : Nat) (x : BitVec 128) (pn : Int) (T : Nat) (V1 V : World) : Prop := DwV V base D F v P Z vp vh ∧ V.heap[Pb]? = some (.cells #[.int .u64 (hI x), .int .u64 (lI x), .int .i64 pn] 45) ∧ V.heap[T]? = some (.cells #[.int .i64 F, v] 24) ∧ Below base V1 V ∧ (vp.ownBlock ≠ some Pb ∧ vh.ownBlock ≠ some Pb ∧ Pb ≠ D) ∧ T < base
/-- The prefixes have grown, and the tree does not know it yet. -/
def DwG (base D : Nat) (F : Int) (v : Value) (P : List (BitVec 128 × Int)) (Z : List Int) (vp vh : Value) (Pb : Nat) (x : BitVec 128) (pn : Int) (T : Nat) (V1 : World) (q : BitVec 128 × Int) (g cap : Nat) (V : World) : Prop := ∃ W0, DwE base D F v P Z vp vh Pb x pn T V1 W0 ∧ W0.grownBy V vp.ownBlock ∧ V.ownsRow base 45 3 (.slice (some ⟨g, 0, none⟩) (P.length + 1) cap) (P.length + 1) (rowPf (P ++ [q])) ∧ (vp.ownBlock = some g ∨ W0.heap.size ≤ g)
section
variable {base D Pb T g cap : Nat} {F pn : Int} {v vp vh : Value} {P : List (BitVec 128 × Int)} {Z : List Int} {x : BitVec 128} {V1 V V' : World} {q : BitVec 128 × Int}
theorem DwE.below (k : DwE base D F v P Z vp vh Pb x pn T V1 V) (hb : Below V.heap.size V V') : DwE base D F v P Z vp vh Pb x pn T V1 V' :=
  ⟨k.1.below hb, (hb.block _ (bkLt k.2.1)).trans k.2.1, (hb.block _ (bkLt k.2.2.1)).trans k.2.2.1, k.2.2.2.1.trans (hb.mono k.1.base_le), k.2.2.2.2.1, k.2.2.2.2.2⟩
theorem DwG.cell (k : DwG base D F v P Z vp vh Pb x pn T V1 q g cap V) : V.cell? ⟨D, 1, none⟩ = some vp ∧ V.frozen? ⟨D, 1, none⟩ = false := by
  obtain ⟨W0, k, h, -, -⟩ := k
  have e := (h.block D k.1.lt (fun e => k.1.np e.symm)).trans k.1.d
  exact ⟨at_block e 1 vp rfl, frB e⟩
theorem DwG.fin (k : DwG base D F v P Z vp vh Pb x pn T V1 q g cap V) : DwE base D F v (P ++ [q]) Z (.slice (some ⟨g, 0, none⟩) (P.length + 1) cap) vh Pb x pn T V1 (V.setCell ⟨D, 1, none⟩ (.slice (some ⟨g, 0, none⟩) (P.length + 1) cap)) := by
  obtain ⟨W0, k, h, ho, hg⟩ := k
  have hPb : (V.setCell ⟨D, 1, none⟩ (.slice (some ⟨g, 0, none⟩) (P.length + 1) cap)).heap[Pb]? = W0.heap[Pb]? := by
    rw [setB _ k.2.2.2.2.1.2.2]
    exact h.block Pb (bkLt k.2.1) (fun e => k.2.2.2.2.1.1 e.symm)
  have hT : (V.setCell ⟨D, 1, none⟩ (.slice (some ⟨g, 0, none⟩) (P.length + 1) cap)).heap[T]? = W0.heap[T]? := by
    rw [setB _ (by have := k.1.bD; have := k.2.2.2.2.2; omega)]
    exact h.block T (bkLt k.2.2.1) (fun e => by have := (k.1.op.lt T e.symm).1; have := k.2.2.2.2.2; omega)
  refine ⟨k.1.pfx h ho hg, hPb.trans k.2.1, hT.trans k.2.2.1, ((k.2.2.2.1.grown h k.1.base_le (fun z e => (k.1.op.lt z e).1)).setCell (p := ⟨D, 1, none⟩) k.1.bD _), ⟨?_, k.2.2.2.2.1.2⟩, k.2.2.2.2.2⟩
  intro e
  have e : g = Pb := by simpa [Value.ownBlock] using e
  subst e
  rcases hg with h9 | h9
  · exact k.2.2.2.2.1.1 h9
  · have := bkLt k.2.1; omega
end
/-- A next hop is laid. -/
theorem dwe_hop {base D Pb T g cap : Nat} {F pn : Int} {v vp vh : Value} {P : List (BitVec 128 × Int)} {Z : List Int} {x : BitVec 128} {V1 V W : World} (k : DwE base D F v P Z vp vh Pb x pn T V1 V) (ho : W.ownsRow base 3 1 (.slice (some ⟨g, 0, none⟩) (Z.length + 1) cap) (Z.length + 1) (rowZ Z ++ [.int .i64 0])) (hg : V.grownBy W vh.ownBlock) (hat : vh.ownBlock = some g ∨ g = V.heap.size) :
    DwE base D F v P (Z ++ [0]) vp (.slice (some ⟨g, 0, none⟩) (Z.length + 1) cap) Pb x pn T V1 (W.setCell ⟨D, 2, none⟩ (.slice (some ⟨g, 0, none⟩) (Z.length + 1) cap)) ∧ W.cell? ⟨D, 2, none⟩ = some vh ∧ W.frozen? ⟨D, 2, none⟩ = false := by
  have eD := (hg.block D k.1.lt (fun e => k.1.nz e.symm)).trans k.1.d
  have hPb : (W.setCell ⟨D, 2, none⟩ (.slice (some ⟨g, 0, none⟩) (Z.length + 1) cap)).heap[Pb]? = V.heap[Pb]? := by
    rw [setB _ k.2.2.2.2.1.2.2]
    exact hg.block Pb (bkLt k.2.1) (fun e => k.2.2.2.2.1.2.1 e.symm)
  have hT : (W.setCell ⟨D, 2, none⟩ (.slice (some ⟨g, 0, none⟩) (Z.length + 1) cap)).heap[T]? = V.heap[T]? := by
    rw [setB _ (by have := k.1.bD; have := k.2.2.2.2.2; omega)]
    exact hg.block T (bkLt k.2.2.1) (fun e => by have := (k.1.oz.lt T e.symm).1; have := k.2.2.2.2.2; omega)
  have hgt : vh.ownBlock = some g ∨ V.heap.size ≤ g := by
    rcases hat with h | h
    · exact .inl h
    · exact .inr (by omega)
  refine ⟨⟨k.1.hop (q := 0) hg (by rw [rowZ_app]; exact ho) hgt, hPb.trans k.2.1, hT.trans k.2.2.1, ((k.2.2.2.1.grown hg k.1.base_le (fun z e => (k.1.oz.lt z e).1)).setCell (p := ⟨D, 2, none⟩) k.1.bD _), ⟨k.2.2.2.2.1.1, ?_, k.2.2.2.2.1.2.2⟩, k.2.2.2.2.2⟩, at_block eD 2 vh rfl, frB eD⟩
  intro e
  have e : g = Pb := by simpa [Value.ownBlock] using e
  subst e
  rcases hgt with h9 | h9
  · exact k.2.2.2.2.1.2.1 h9
  · have := bkLt k.2.1; omega
/-- What is known while a prefix is laid. -/
structure RP (E : World → Prop) (Gr Fi : Nat → World → Prop) (cx : BitVec 128) (m : Int) (b4 b6 b8 b9 b10 b13 : Bool) (g : Nat × Nat) (V : World) : Prop where
  e : b10 = false → E V ∧ (b9 = true → V.cell? ⟨g.1, 0, none⟩ = some (.int .u64 (hI cx)) ∧ V.cell? ⟨g.1, 1, none⟩ = some (.int .u64 (lI cx)) ∧ V.cell? ⟨g.1, 2, none⟩ = some (.int .i64 m))
  gr : b10 = true → b13 = false → Gr g.2 V
  fi : b13 = true → Fi g.2 V
  d10 : b10 = true → b4 = true ∧ b6 = true ∧ b8 = true ∧ b9 = true
  d9 : b9 = true → b8 = true
  d8 : b8 = true → b6 = true
  d13 : b13 = true → b10 = true
section
variable {E : World → Prop} {Gr Fi : Nat → World → Prop} {cx : BitVec 128} {m : Int} {b4 b6 b8 b9 b10 b13 : Bool} {g : Nat × Nat} {V V' : World}
theorem no_tf {b : Bool} {p : Prop} (h : b = true) (k : b = false) : p := by rw [h] at k; cases k
theorem RP.s4 (k : RP E Gr Fi cx m false b6 b8 b9 b10 b13 g V) : RP E Gr Fi cx m true b6 b8 b9 b10 b13 g V := ⟨k.e, k.gr, k.fi, fun h => no_tf (k.d10 h).1 rfl, k.d9, k.d8, k.d13⟩
theorem RP.s6 (k : RP E Gr Fi cx m b4 false b8 b9 b10 b13 g V) : RP E Gr Fi cx m b4 true b8 b9 b10 b13 g V := ⟨k.e, k.gr, k.fi, fun h => no_tf (k.d10 h).2.1 rfl, k.d9, fun _ => rfl, k.d13⟩
theorem RP.s8 (k : RP E Gr Fi cx m b4 b6 false b9 b10 b13 g V) (hf : b10 = false) (h6 : b6 = true) (hE : E V') : RP E Gr Fi cx m b4 b6 true b9 b10 b13 g V' := ⟨fun _ => ⟨hE, fun h => no_tf (k.d9 h) rfl⟩, fun h => no_tf h hf, fun h => no_tf (k.d13 h) hf, fun h => no_tf h hf, fun _ => rfl, fun _ => h6, k.d13⟩
theorem RP.s9 (k : RP E Gr Fi cx m b4 b6 b8 false b10 b13 g V) (hf : b10 = false) (h8 : b8 = true) (hE : E (V.alloc (.cells #[.int .u64 (hI cx), .int .u64 (lI cx), .int .i64 m] 45))) : RP E Gr Fi cx m b4 b6 b8 true b10 b13 (V.heap.size, g.2) (V.alloc (.cells #[.int .u64 (hI cx), .int .u64 (lI cx), .int .i64 m] 45)) := ⟨fun _ => ⟨hE, fun _ => by
    have e : (V.alloc (.cells #[.int .u64 (hI cx), .int .u64 (lI cx), .int .i64 m] 45)).heap[V.heap.size]? = some (.cells #[.int .u64 (hI cx), .int .u64 (lI cx), .int .i64 m] 45) := Array.getElem?_push_size
    exact ⟨at_block e 0 _ rfl, at_block e 1 _ rfl, at_block e 2 _ rfl⟩⟩, fun h => no_tf h hf, fun h => no_tf (k.d13 h) hf, fun h => no_tf h hf, fun _ => h8, k.d8, k.d13⟩
theorem RP.s10 (k : RP E Gr Fi cx m b4 b6 b8 b9 false b13 g V) (h4 : b4 = true) (h6 : b6 = true) (h8 : b8 = true) (h9 : b9 = true) {M : Nat} (hG : Gr M V') : RP E Gr Fi cx m b4 b6 b8 b9 true b13 (g.1, M) V' := ⟨fun h => (by cases h), fun _ _ => hG, fun h => no_tf (k.d13 h) rfl, fun _ => ⟨h4, h6, h8, h9⟩, k.d9, k.d8, fun _ => rfl⟩
theorem RP.s13 (k : RP E Gr Fi cx m b4 b6 b8 b9 b10 false g V) (h10 : b10 = true) (hF : Fi g.2 V') : RP E Gr Fi cx m b4 b6 b8 b9 b10 true g V' := ⟨fun h => no_tf h10 h, fun _ h => (by cases h), fun _ => hF, k.d10, k.d9, k.d8, fun _ => h10⟩
end
theorem lit_row {base e size n : Nat} (w : World) (cs : Array Value) (hb : base ≤ w.heap.size) (hm : n ≤ 1000) (hs : cs.size = n * size) : (w.alloc (.cells cs e)).ownsRow base e size (.slice (some ⟨w.heap.size, 0, none⟩) n n) n cs.toList := World.ownsRow_lit w cs n hb (by unfold maxLen; omega) hs
theorem Try.infoP9 : (Try.prog.info? 45).map (fun i => (i.zero, i.size, i.bytes)) = some (some (.agg #[.int .u64 0, .int .u64 0, .int .i64 0]), 3, 24) := by kernel_rfl
/-- What the document's New tells of a table whose check is z. -/
def RnQ (F : Int) (v : Value) (l : List Rte) (h0 : Nat) (z : Int) (e : Ending) (w' : World) : Prop := (z ≠ 0 ∧ e = .returned (.tuple #[.pointer none, .int .i64 z])) ∨ (z = 0 ∧ ∃ (D : Nat) (last : BitVec 128 × Int) (s : GrS) (P : List (BitVec 128 × Int)) (Z : List Int) (vp vh : Value), e = .returned (.tuple #[.pointer (some ⟨D, 0, none⟩), .int .i64 0]) ∧ s = grwG l (0#128, 0) grO ∧ Gs l last s ∧ Dc s.2.1 s.1 P Z ∧ DwV w' (h0 + 1) D F v P Z vp vh)
set_option maxRecDepth 100000 in
set_option maxHeartbeats 16000000 in
theorem rnew8_any (F : Int) (v : Value) (l : List Rte) (w : World) (hv : RwR w v l) :
    Calls Try.prog 23 #[.agg #[.int .i64 F, v]] w fun e w' => (∃ z, TabE F l z ∧ RnQ F v l w.heap.size z e w') ∧ Below w.heap.size w w' := by
  obtain ⟨i0, hi, hz0, hz1, hz2⟩ := info_of Try.infoP9
  obtain ⟨j0, ji, jz0, jz1, jz2⟩ := info_of Try.infoI8
  have q0 := bl1 w (.cells #[.int .i64 F, v] 24)
  have KC0 := rcheckT_any F v l _ (hv.below q0)
  have HT : Hid ((w.alloc (.cells #[.int .i64 F, v] 24)).heap[w.heap.size]? = some (.cells #[.int .i64 F, v] 24)) := hidX Array.getElem?_push_size
  have HB0 := hidX q0
  have HVw := hidX hv
  have t0 := at_block HT.out 0 (.int .i64 F) rfl
  have t1 := at_block HT.out 1 v rfl
  have KC := fun x m w => rcut_any x m w
  obtain ⟨ao, c, rfl, -⟩ := hv
  clear q0
  go_enter Try.func23, Try.ntmps23
  go_wp2_with fail
  refine KC0.mono ?_
  rintro e w1 ⟨⟨z, hz, rfl⟩, hb⟩
  have HT1 := hidX ((hb.block _ (bkLt HT.out)).trans HT.out)
  have HB1 := hidX (keepb hb HB0.out)
  have Hz := hidX hz
  clear KC0 hb HT HB0 hz t0 t1
  by_cases h0 : z = 0
  · subst h0
    obtain ⟨hF, hl, hr, hO⟩ := tab8_ok Hz.out
    have hF1 : F ≤ 128 := by omega
    have HL := hidX (And.intro hr hO)
    have t0 := at_block HT1.out 0 (.int .i64 F) rfl
    have t1 := at_block HT1.out 1 (.slice ao l.length c) rfl
    have hw1 : w.heap.size < w1.heap.size := bkLt HT1.out
    have q1 := bl1 w1 (.cells #[.int .u64 0, .int .u64 0, .int .i64 0] 45)
    have q2 := bl1 (w1.alloc (.cells #[.int .u64 0, .int .u64 0, .int .i64 0] 45)) (.cells #[.int .i64 0] 3)
    have q3 := bl1 ((w1.alloc (.cells #[.int .u64 0, .int .u64 0, .int .i64 0] 45)).alloc (.cells #[.int .i64 0] 3)) (.cells #[.int .i64 F, .slice (some ⟨w1.heap.size, 0, none⟩) 1 1, .slice (some ⟨w1.heap.size + 1, 0, none⟩) 1 1, .int .i64 F, (.slice ao l.length c)] 66)
    have q23 := keepb q3 q2
    have q123 := keepb q23 q1
    have s1 : (w1.alloc (.cells #[.int .u64 0, .int .u64 0, .int .i64 0] 45)).heap.size = w1.heap.size + 1 := by simp
    have s2 : ((w1.alloc (.cells #[.int .u64 0, .int .u64 0, .int .i64 0] 45)).alloc (.cells #[.int .i64 0] 3)).heap.size = w1.heap.size + 2 := by simp
    have o1 := lit_row (base := w.heap.size + 1) (e := 45) (size := 3) (n := 1) w1 #[.int .u64 0, .int .u64 0, .int .i64 0] (by omega) (by omega) rfl
    have o2 := lit_row (base := w.heap.size + 1) (e := 3) (size := 1) (n := 1) (w1.alloc (.cells #[.int .u64 0, .int .u64 0, .int .i64 0] 45)) #[.int .i64 0] (by omega) (by omega) rfl
    rw [s1] at o2
    have HK3 : Hid (DwV (((w1.alloc (.cells #[.int .u64 0, .int .u64 0, .int .i64 0] 45)).alloc (.cells #[.int .i64 0] 3)).alloc (.cells #[.int .i64 F, .slice (some ⟨w1.heap.size, 0, none⟩) 1 1, .slice (some ⟨w1.heap.size + 1, 0, none⟩) 1 1, .int .i64 F, (.slice ao l.length c)] 66)) (w.heap.size + 1) (w1.heap.size + 2) F (.slice ao l.length c) [(0#128, 0)] [0] (.slice (some ⟨w1.heap.size, 0, none⟩) 1 1) (.slice (some ⟨w1.heap.size + 1, 0, none⟩) 1 1)) := hidX ⟨by rw [← s2]; exact Array.getElem?_push_size, by simp only [rowPf, hI_zero, lI_zero]; exact own_blk o1 (fun z e => q23.block z (o1.lt z e).2), own_blk o2 (fun z e => q3.block z (o2.lt z e).2), by simp [Value.ownBlock], by simp [Value.ownBlock], fun z e e2 => by simp [Value.ownBlock] at e e2; omega, by omega⟩
    have HT3 := hidX ((q123.block _ (bkLt HT1.out)).trans HT1.out)
    have HB3 := hidX (q123.mono (show w.heap.size + 1 ≤ w1.heap.size by omega))
    clear q1 q2 q3 q23 q123 s1 s2 o1 o2 hr hO hF
    go_wp2_with fail
    clear t0 t1 hw1
    revert HK3 HT3 HB3
    generalize ((w1.alloc (.cells #[.int .u64 0, .int .u64 0, .int .i64 0] 45)).alloc (.cells #[.int .i64 0] 3)).alloc (.cells #[.int .i64 F, .slice (some ⟨w1.heap.size, 0, none⟩) 1 1, .slice (some ⟨w1.heap.size + 1, 0, none⟩) 1 1, .int .i64 F, (.slice ao l.length c)] 66) = W3
    generalize w1.heap.size + 2 = D
    generalize (.slice (some ⟨w1.heap.size, 0, none⟩) 1 1 : Value) = vp3
    generalize (.slice (some ⟨w1.heap.size + 1, 0, none⟩) 1 1 : Value) = vh3
    intro HK3 HT3 HB3
    go_loopw [6] (fun i wr => ∃ (k : Nat) (last : BitVec 128 × Int) (s : GrS) (P : List (BitVec 128 × Int)) (Z : List Int) (vp vh : Value), k ≤ l.length ∧ i = .int .i64 k ∧ Hid (grwG (l.drop k) last s = grwG l (0#128, 0) grO) ∧ Hid (Gs (l.take k) last s) ∧ Hid ((0 ≤ last.2 ∧ last.2 ≤ 128 ∧ cutW last.1 last.2 = last.1 ∧ ∀ (j : Nat) (hj : j < l.length), j + 1 = k → last = l[j].1) ∧ (k = 0 → last = (0#128, 0))) ∧ Hid (Dc s.2.1 s.1 P Z) ∧ Hid (DwV wr (w.heap.size + 1) D F (.slice ao l.length c) P Z vp vh) ∧ Hid (wr.heap[w.heap.size]? = some (.cells #[.int .i64 F, (.slice ao l.length c)] 24)) ∧ Hid (Below (w.heap.size + 1) w1 wr)) (fun i _ => l.length - (intOf i).toNat)
    case atStart => exact ⟨0, (0#128, 0), grO, [(0#128, 0)], [0], vp3, vh3, by omega, rfl, hidX rfl, hidX (by rw [List.take_zero]; exact gs_new), hidX ⟨⟨Int.le_refl 0, by simp, cutZ8 _, fun j _ h => by omega⟩, fun _ => rfl⟩, hidX dc_new, HK3, HT3, HB3⟩
    case round =>
      clear HK3 HT3 HB3
      obtain ⟨k, last, s, P0, Z0, vp0, vh0, hk, rfl, HE, HG, HLa, HDc, HK, HT, HB⟩ := hrel
      have t1 := at_block HT.out 1 (.slice ao l.length c) rfl
      by_cases hlt : (k : Int) < (l.length : Int)
      · have hks : k < l.length := by omega
        have HBw := hidX (HB1.out.trans (HB.out.mono (Nat.le_succ _)))
        obtain ⟨ao2, c2, he, hrow⟩ := HVw.out
        have he1 : ao = ao2 := by injection he
        subst he1
        rcases hrow with h | ⟨b, off, rfl, hrow⟩
        · rw [h] at hks; simp at hks
        obtain ⟨x0, x1, x2, x3⟩ := rwr_cells hrow k hks
        have hrk := HL.out.1 l[k] (List.getElem_mem hks)
        have HG2 := hidX (HG.out.next hF1 HL.out.1 HL.out.2 hl hks HLa.out.1.1 HLa.out.1.2.1 HLa.out.1.2.2.1 HLa.out.1.2.2.2)
        have hor : l.take k = [] ∨ pcmpZ last.1 last.2 l[k].1.1 l[k].1.2 < 0 := by
          by_cases c0 : k = 0
          · left; rw [c0, List.take_zero]
          · right
            have := HLa.out.1.2.2.2 (k - 1) (by omega) (by omega)
            rw [this]
            exact HL.out.2 (k - 1) k hks (by omega)
        have HDs := hidX (fun M n hM hn => HDc.out.step hF1 HG.out hrk HLa.out.1.1 HLa.out.1.2.1 HLa.out.1.2.2.1 hor (by rw [List.length_take]; omega) M n hM hn)
        have HLa2 : Hid (0 ≤ l[k].1.2 ∧ l[k].1.2 ≤ 128 ∧ cutW l[k].1.1 l[k].1.2 = l[k].1.1 ∧ ∀ (j : Nat) (hj : j < l.length), j + 1 = k + 1 → l[k].1 = l[j].1) := hidX ⟨hrk.1.1, Int.le_trans hrk.1.2.1 hF1, hrk.1.2.2, fun j hj e => (by obtain rfl : j = k := Nat.succ.inj e; rfl)⟩
        have HE2 : Hid (grwG (l.drop (k + 1)) l[k].1 (grT s last l[k]) = grwG l (0#128, 0) grO) := hidX (by rw [← HE.out, List.drop_eq_getElem_cons hks]; rfl)
        have HX := hidX (And.intro x0 (And.intro x1 (And.intro x2 x3)))
        replace x0 := keepc HBw.out x0
        replace x1 := keepc HBw.out x1
        replace x2 := keepc HBw.out x2
        have Hjr : Hid (∀ jj, jj + 1 = k → ∃ h : jj < l.length, last = l[jj].1) := hidX (fun jj e => ⟨by omega, HLa.out.1.2.2.2 jj (by omega) e⟩)
        have Hrw := hidX hrow
        clear hor
        revert HG2 HLa2 HE2 HDs hrk x0 x1 x2 HX
        generalize l[k] = r
        obtain ⟨⟨px, pn⟩, ph⟩ := r
        intro hrk HG2 HDs HLa2 HE2 HX x0 x1 x2
        dsimp only at x0 x1 x2 HX HG2 HLa2 HE2 HDs
        obtain ⟨⟨hp0, hp1, hp2⟩, hp3, hp4⟩ := hrk
        dsimp only at hp0 hp1 hp2 hp3 hp4
        obtain ⟨nN, rfl⟩ : ∃ nN : Nat, pn = (nN : Int) := ⟨pn.toNat, by omega⟩
        have m0 := meetN_nn last.1 last.2 px (nN : Int) HLa.out.1.1 hp0
        have m1 := meetN_le last.1 last.2 px (nN : Int)
        obtain ⟨M, hM⟩ : ∃ M : Nat, meetN last.1 last.2 px (nN : Int) = (M : Int) := ⟨(meetN last.1 last.2 px (nN : Int)).toNat, by omega⟩
        rw [hM] at m1
        have hMn : M ≤ nN := by omega
        have hn128 : nN ≤ 128 := by omega
        have HD2 := hidX (HDs.out M nN hM rfl)
        have KM := fun w => rmeet_any last.1 last.2 px (nN : Int) w
        rw [hM] at KM
        have Hbd : Hid (P0.length ≤ 134217729 ∧ Z0.length = P0.length ∧ 1 ≤ Z0.length) := hidX (by
          have h1 := HG.out.nl
          have h2 := HDc.out.pl
          have h3 := HDc.out.zl
          have h4 := (HG.out.inv.way 0 HG.out.inv.y1).1
          rw [List.length_take] at h1
          exact ⟨by omega, by omega, by omega⟩)
        have q4 := bl1 wr (.cells #[.int .u64 (hI px), .int .u64 (lI px), .int .i64 (nN : Int)] 45)
        have HE4 : Hid (DwE (w.heap.size + 1) D F (.slice (some ⟨b, off, none⟩) l.length c) P0 Z0 vp0 vh0 wr.heap.size px (nN : Int) w.heap.size w1 (wr.alloc (.cells #[.int .u64 (hI px), .int .u64 (lI px), .int .i64 (nN : Int)] 45))) := hidX ⟨HK.out.below q4, Array.getElem?_push_size, (q4.block _ (bkLt HT.out)).trans HT.out, HB.out.trans (q4.mono HK.out.base_le), ⟨fun e => by have := (HK.out.op.lt _ e).2; omega, fun e => by have := (HK.out.oz.lt _ e).2; omega, by have := HK.out.lt; omega⟩, by omega⟩
        have hwr : w.heap.size < wr.heap.size := bkLt HT.out
        have wM : IntKind.i64.wrap ((M : Int) + 1) = (M : Int) + 1 := by rw [IntKind.wrap_i64]; omega
        have HMe : Hid (k = 0 → M = 0) := hidX (fun e => by have := HLa.out.2 e; rw [this] at m1; omega)
        have HkS := hidX hks
        have wk : IntKind.i64.wrap ((k : Int) + 1) = ((k + 1 : Nat) : Int) := by rw [IntKind.wrap_i64]; push_cast; omega
        have HN8 := hidX (And.intro hMn hn128)
        clear HG HK HB HT HDc HDs HE q4 hp0 hp1 hp2 hp3 hp4 m0 m1 hM hn128 hrow he
        by_cases hk0 : k = 0
        · have hd0 : decide ((0 : Int) < (k : Int)) = false := decide_eq_false (by omega)
          have eM := HMe.out hk0
          subst eM
          have Hk9 := hidX hk0
          clear hk0 HMe KM Hjr HLa
          go_wp2_with fail
          · (rename_i h9; have := Hk9.out; omega)
          clear hd0 x0 x1 x2 t1 hwr
          revert HE4
          generalize wr.alloc (.cells #[.int .u64 (hI px), .int .u64 (lI px), .int .i64 (nN : Int)] 45) = W4
          generalize wr.heap.size = Pb
          intro HE4
          have hk7 : decide (0 < k) = false := decide_eq_false (by have := Hk9.out; omega)
          try rw [hk7]
          clear hk7
          go_loopw [9] (fun i wr => ∃ (f : Nat) (P : List (BitVec 128 × Int)) (Z : List Int) (vp vh : Value), f ≤ nN - 0 ∧ i = .int .i64 ((0 : Int) + 1 + (f : Int)) ∧ Hid (P = P0 ++ dcN px 0 f ∧ Z = Z0 ++ List.replicate f 0) ∧ Hid (DwE (w.heap.size + 1) D F (.slice (some ⟨b, off, none⟩) l.length c) P Z vp vh Pb px (nN : Int) w.heap.size w1 wr)) (fun i _ => nN + 1 - (intOf i).toNat)
          case atStart => exact ⟨0, P0, Z0, vp0, vh0, by omega, by simp, hidX ⟨by simp [dcN], by simp⟩, HE4⟩
          case round =>
            clear HE4
            obtain ⟨f, P, Z, vp, vh, hf, rfl, HPZ, HEr⟩ := hrel
            obtain ⟨hMn, hn128⟩ := HN8.out
            have hPl : P.length ≤ 134217900 ∧ Z.length ≤ 134217900 := by
              have h1 := HPZ.out
              have h2 := Hbd.out
              rw [h1.1, h1.2, List.length_append, List.length_append, dcN_len, List.length_replicate]
              omega
            obtain ⟨m, hm⟩ : ∃ m : Int, m = (0 : Int) + 1 + (f : Int) := ⟨_, rfl⟩
            rw [← hm]
            have p2 := at_block HEr.out.2.1 2 (.int .i64 (nN : Int)) rfl
            by_cases hlt2 : m ≤ (nN : Int)
            · have Hm := hidX hm
              have wm : IntKind.i64.wrap (m + 1) = m + 1 := by rw [IntKind.wrap_i64]; omega
              have Hfm : Hid (f + 1 ≤ nN - 0) := hidX (by omega)
              have Hmm := hidX hlt2
              clear hm hf hMn hn128
              go_wp2_with fail
              clear p2
              have HE0 := hidX (HEr.out.below (below_drewN (Below.refl _ _) 1))
              have HEb : Hid (∀ A A' : World, DwE (w.heap.size + 1) D F (.slice (some ⟨b, off, none⟩) l.length c) P Z vp vh Pb px (nN : Int) w.heap.size w1 A → Below A.heap.size A A' → DwE (w.heap.size + 1) D F (.slice (some ⟨b, off, none⟩) l.length c) P Z vp vh Pb px (nN : Int) w.heap.size w1 A') := hidX (fun A A' h hb => h.below hb)
              have KC := fun W => rcut_any px m W
              clear HEr
              refine gh_region (γ := Nat × Nat) (qpOk 14 14 (by decide) (fun N => by kernel_rfl) (by kernel_rfl) (by kernel_rfl) (by kernel_rfl) (by kernel_rfl)) (by kernel_rfl) (by kernel_rfl) [some 56, some 57, some 58, some 59, some 60, some 61, some 62, some 63, some 64, some 65, some 66, some 67, some 68, none] (fun g => [.pointer (some ⟨D, 0, none⟩), .pointer (some ⟨D, 0, none⟩), .pointer (some ⟨D, 0, none⟩), .pointer (some ⟨D, 1, none⟩), vp, .pointer (some ⟨Pb, 0, none⟩), .agg #[.int .u64 (hI px), .int .u64 (lI px)], .int .i64 m, .agg #[.int .u64 (hI (cutW px m)), .int .u64 (lI (cutW px m)), .int .i64 m], .slice (some ⟨g.1, 0, none⟩) 1 1, valG (P.length + 1) g.2, .pointer (some ⟨D, 0, none⟩), .pointer (some ⟨D, 1, none⟩), undef]) (by kernel_rfl) (by simp) (fun lp g V => RP (fun V => DwE (w.heap.size + 1) D F (.slice (some ⟨b, off, none⟩) l.length c) P Z vp vh Pb px (nN : Int) w.heap.size w1 V) (fun M V => DwG (w.heap.size + 1) D F (.slice (some ⟨b, off, none⟩) l.length c) P Z vp vh Pb px (nN : Int) w.heap.size w1 (cutW px m, m) (decN M).1 (decN M).2 V) (fun M V => DwE (w.heap.size + 1) D F (.slice (some ⟨b, off, none⟩) l.length c) (P ++ [(cutW px m, m)]) Z (valG (P.length + 1) M) vh Pb px (nN : Int) w.heap.size w1 V) (cutW px m) m (lp.getD 4 false) (lp.getD 6 false) (lp.getD 8 false) (lp.getD 9 false) (lp.getD 10 false) (lp.getD 13 false) g V) (0, 0) ⟨fun _ => ⟨HE0.out, fun h => (by simp at h)⟩, fun h => (by simp at h), fun h => (by simp at h), fun h => (by simp at h), fun h => (by simp at h), fun h => (by simp at h), fun h => (by simp at h)⟩ ?step0 ?fin0
              case step0 =>
                intro q o lp g w' a' ho hsz hun hdep hR hS K Q' hK
                have hfl : ∀ j, j ≠ q → (lp.setIfInBounds q true).getD j false = lp.getD j false := fun j hj => by rw [Array.getD_eq_getD_getElem?, Array.getD_eq_getD_getElem?, Array.getElem?_setIfInBounds_ne (by omega)]
                have hq : q < 14 := (List.getElem?_eq_some_iff.mp ho).1
                match q, ho, hun, hdep, hK, hfl, hq with
                | 0, ho, hun, hdep, hK, hfl, _ =>
                  obtain rfl := Option.some.inj ho
                  have o5 : a'.tmps[5]? = some (.pointer (some ⟨D, 0, none⟩)) := (hS.old8 5 (by simp)).trans rfl
                  have hK' := hK g w' (fun _ _ _ _ _ _ => rfl) (by rw [hfl 4 (by decide), hfl 6 (by decide), hfl 8 (by decide), hfl 9 (by decide), hfl 10 (by decide), hfl 13 (by decide)]; exact hR) (.pointer (some ⟨D, 0, none⟩)) (by simp only [valO, Option.bind_some]; simp only [putAll, Act.put, List.setIfInBounds_toArray, List.set_cons_zero, List.set_cons_succ]; rfl)
                  clear hS hdep hR
                  refine gh_quiet8 (v := .pointer (some ⟨D, 0, none⟩)) ?_ ?_
                  · (simp only [execOp, Act.eval, o5]; go_simp; first | done | (simp; done) | (simp [*]; done))
                  · exact hK'
                | 1, ho, hun, hdep, hK, hfl, _ =>
                  obtain rfl := Option.some.inj ho
                  have o5 : a'.tmps[5]? = some (.pointer (some ⟨D, 0, none⟩)) := (hS.old8 5 (by simp)).trans rfl
                  have hK' := hK g w' (fun _ _ _ _ _ _ => rfl) (by rw [hfl 4 (by decide), hfl 6 (by decide), hfl 8 (by decide), hfl 9 (by decide), hfl 10 (by decide), hfl 13 (by decide)]; exact hR) (.pointer (some ⟨D, 0, none⟩)) (by simp only [valO, Option.bind_some]; simp only [putAll, Act.put, List.setIfInBounds_toArray, List.set_cons_zero, List.set_cons_succ]; rfl)
                  clear hS hdep hR
                  refine gh_quiet8 (v := .pointer (some ⟨D, 0, none⟩)) ?_ ?_
                  · (simp only [execOp, Act.eval, o5]; go_simp; first | done | (simp; done) | (simp [*]; done))
                  · exact hK'
                | 2, ho, hun, hdep, hK, hfl, _ =>
                  obtain rfl := Option.some.inj ho
                  have d1 : lp.getD 1 false = true := hdep { on := 1, ground := .data } (by simp) rfl
                  have e57 : a'.tmps[57]? = some (.pointer (some ⟨D, 0, none⟩)) := (hS.don 1 _ 57 rfl d1 rfl).trans (by simp only [putAll, Act.put, List.setIfInBounds_toArray, List.set_cons_zero, List.set_cons_succ]; rfl)
                  have hK' := hK g w' (fun _ _ _ _ _ _ => rfl) (by rw [hfl 4 (by decide), hfl 6 (by decide), hfl 8 (by decide), hfl 9 (by decide), hfl 10 (by decide), hfl 13 (by decide)]; exact hR) (.pointer (some ⟨D, 0, none⟩)) (by simp only [valO, Option.bind_some]; simp only [putAll, Act.put, List.setIfInBounds_toArray, List.set_cons_zero, List.set_cons_succ]; rfl)
                  clear hS hdep hR
                  refine gh_quiet8 (v := .pointer (some ⟨D, 0, none⟩)) ?_ ?_
                  · (simp only [execOp, Act.eval, e57]; go_simp; first | done | (simp; done) | (simp [*]; done))
                  · exact hK'
                | 3, ho, hun, hdep, hK, hfl, _ =>
                  obtain rfl := Option.some.inj ho
                  have d2 : lp.getD 2 false = true := hdep { on := 2, ground := .data } (by simp) rfl
                  have e58 : a'.tmps[58]? = some (.pointer (some ⟨D, 0, none⟩)) := (hS.don 2 _ 58 rfl d2 rfl).trans (by simp only [putAll, Act.put, List.setIfInBounds_toArray, List.set_cons_zero, List.set_cons_succ]; rfl)
                  have hK' := hK g w' (fun _ _ _ _ _ _ => rfl) (by rw [hfl 4 (by decide), hfl 6 (by decide), hfl 8 (by decide), hfl 9 (by decide), hfl 10 (by decide), hfl 13 (by decide)]; exact hR) (.pointer (some ⟨D, 1, none⟩)) (by simp only [valO, Option.bind_some]; simp only [putAll, Act.put, List.setIfInBounds_toArray, List.set_cons_zero, List.set_cons_succ]; rfl)
                  clear hS hdep hR
                  refine gh_quiet8 (v := .pointer (some ⟨D, 1, none⟩)) ?_ ?_
                  · (simp only [execOp, Act.eval, e58]; go_simp; first | done | (simp; done) | (simp [*]; done))
                  · exact hK'
                | 4, ho, hun, hdep, hK, hfl, _ =>
                  obtain rfl := Option.some.inj ho
                  have hf : lp.getD 10 false = false := by
                    cases h : lp.getD 10 false
                    · rfl
                    · have := (hR.d10 h).1; rw [hun] at this; cases this
                  have d3 : lp.getD 3 false = true := hdep { on := 3, ground := .data } (by simp) rfl
                  have e59 : a'.tmps[59]? = some (.pointer (some ⟨D, 1, none⟩)) := (hS.don 3 _ 59 rfl d3 rfl).trans (by simp only [putAll, Act.put, List.setIfInBounds_toArray, List.set_cons_zero, List.set_cons_succ]; rfl)
                  obtain ⟨hE, -⟩ := hR.e hf
                  rw [hun] at hR
                  have hK' := hK g w' (fun _ _ _ _ _ _ => rfl) (by rw [hfl 6 (by decide), hfl 8 (by decide), hfl 9 (by decide), hfl 10 (by decide), hfl 13 (by decide), getD_set_same (by rw [hsz]; decide)]; exact hR.s4) (vp) (by simp only [valO, Option.bind_some]; simp only [putAll, Act.put, List.setIfInBounds_toArray, List.set_cons_zero, List.set_cons_succ]; rfl)
                  have c0 := at_block hE.1.d 1 vp rfl
                  clear hS hdep hR hE
                  refine gh_quiet8 (v := vp) ?_ ?_
                  · (simp only [execOp, Act.eval, e59]; go_simp; first | done | (simp; done) | (simp [*]; done))
                  · exact hK'
                | 5, ho, hun, hdep, hK, hfl, _ =>
                  obtain rfl := Option.some.inj ho
                  have o7 : a'.tmps[7]? = some (.pointer (some ⟨Pb, 0, none⟩)) := (hS.old8 7 (by simp)).trans rfl
                  have hK' := hK g w' (fun _ _ _ _ _ _ => rfl) (by rw [hfl 4 (by decide), hfl 6 (by decide), hfl 8 (by decide), hfl 9 (by decide), hfl 10 (by decide), hfl 13 (by decide)]; exact hR) (.pointer (some ⟨Pb, 0, none⟩)) (by simp only [valO, Option.bind_some]; simp only [putAll, Act.put, List.setIfInBounds_toArray, List.set_cons_zero, List.set_cons_succ]; rfl)
                  clear hS hdep hR
                  refine gh_quiet8 (v := .pointer (some ⟨Pb, 0, none⟩)) ?_ ?_
                  · (simp only [execOp, Act.eval, o7]; go_simp; first | done | (simp; done) | (simp [*]; done))
                  · exact hK'
                | 6, ho, hun, hdep, hK, hfl, _ =>
                  obtain rfl := Option.some.inj ho
                  have hf : lp.getD 10 false = false := by
                    cases h : lp.getD 10 false
                    · rfl
                    · have := (hR.d10 h).2.1; rw [hun] at this; cases this
                  have d5 : lp.getD 5 false = true := hdep { on := 5, ground := .data } (by simp) rfl
                  have e61 : a'.tmps[61]? = some (.pointer (some ⟨Pb, 0, none⟩)) := (hS.don 5 _ 61 rfl d5 rfl).trans (by simp only [putAll, Act.put, List.setIfInBounds_toArray, List.set_cons_zero, List.set_cons_succ]; rfl)
                  obtain ⟨hE, -⟩ := hR.e hf
                  rw [hun] at hR
                  have hK' := hK g w' (fun _ _ _ _ _ _ => rfl) (by rw [hfl 4 (by decide), hfl 8 (by decide), hfl 9 (by decide), hfl 10 (by decide), hfl 13 (by decide), getD_set_same (by rw [hsz]; decide)]; exact hR.s6) (.agg #[.int .u64 (hI px), .int .u64 (lI px)]) (by simp only [valO, Option.bind_some]; simp only [putAll, Act.put, List.setIfInBounds_toArray, List.set_cons_zero, List.set_cons_succ]; rfl)
                  have c0 := at_block hE.2.1 0 (.int .u64 (hI px)) rfl
                  have c1 := at_block hE.2.1 1 (.int .u64 (lI px)) rfl
                  clear hS hdep hR hE
                  refine gh_quiet8 (v := .agg #[.int .u64 (hI px), .int .u64 (lI px)]) ?_ ?_
                  · (simp only [execOp, Act.eval, e61]; go_simp; first | done | (simp; done) | (simp [*]; done))
                  · exact hK'
                | 7, ho, hun, hdep, hK, hfl, _ =>
                  obtain rfl := Option.some.inj ho
                  have o9 : a'.tmps[9]? = some (.int .i64 m) := (hS.old8 9 (by simp)).trans rfl
                  have hK' := hK g w' (fun _ _ _ _ _ _ => rfl) (by rw [hfl 4 (by decide), hfl 6 (by decide), hfl 8 (by decide), hfl 9 (by decide), hfl 10 (by decide), hfl 13 (by decide)]; exact hR) (.int .i64 m) (by simp only [valO, Option.bind_some]; simp only [putAll, Act.put, List.setIfInBounds_toArray, List.set_cons_zero, List.set_cons_succ]; rfl)
                  clear hS hdep hR
                  refine gh_quiet8 (v := .int .i64 m) ?_ ?_
                  · (simp only [execOp, Act.eval, o9]; go_simp; first | done | (simp; done) | (simp [*]; done))
                  · exact hK'
                | 8, ho, hun, hdep, hK, hfl, _ =>
                  obtain rfl := Option.some.inj ho
                  have hf : lp.getD 10 false = false := by
                    cases h : lp.getD 10 false
                    · rfl
                    · have := (hR.d10 h).2.2.1; rw [hun] at this; cases this
                  have d6 : lp.getD 6 false = true := hdep { on := 6, ground := .data } (by simp) rfl
                  have e62 : a'.tmps[62]? = some (.agg #[.int .u64 (hI px), .int .u64 (lI px)]) := (hS.don 6 _ 62 rfl d6 rfl).trans (by simp only [putAll, Act.put, List.setIfInBounds_toArray, List.set_cons_zero, List.set_cons_succ]; rfl)
                  have d7 : lp.getD 7 false = true := hdep { on := 7, ground := .data } (by simp) rfl
                  have e63 : a'.tmps[63]? = some (.int .i64 m) := (hS.don 7 _ 63 rfl d7 rfl).trans (by simp only [putAll, Act.put, List.setIfInBounds_toArray, List.set_cons_zero, List.set_cons_succ]; rfl)
                  have KE := KC w'
                  rw [hun] at hR
                  clear hdep
                  unfold Oper.wp
                  simp only [execOp, Act.eval]
                  simp [go_sem, e62, e63, Oper.upon]
                  refine KE.mono ?_
                  rintro e W2 ⟨rfl, hb2⟩
                  exact hK g W2 (fun _ _ _ _ _ _ => rfl) (by rw [hfl 4 (by decide), hfl 6 (by decide), hfl 9 (by decide), hfl 10 (by decide), hfl 13 (by decide), getD_set_same (by rw [hsz]; decide)]; exact hR.s8 hf d6 (HEb.out _ _ (hR.e hf).1 hb2)) _ (by simp only [valO, Option.bind_some]; simp only [putAll, Act.put, List.setIfInBounds_toArray, List.set_cons_zero, List.set_cons_succ]; rfl)
                | 9, ho, hun, hdep, hK, hfl, _ =>
                  obtain rfl := Option.some.inj ho
                  have hf : lp.getD 10 false = false := by
                    cases h : lp.getD 10 false
                    · rfl
                    · have := (hR.d10 h).2.2.2; rw [hun] at this; cases this
                  have d8 : lp.getD 8 false = true := hdep { on := 8, ground := .data } (by simp) rfl
                  have e64 : a'.tmps[64]? = some (.agg #[.int .u64 (hI (cutW px m)), .int .u64 (lI (cutW px m)), .int .i64 m]) := (hS.don 8 _ 64 rfl d8 rfl).trans (by simp only [putAll, Act.put, List.setIfInBounds_toArray, List.set_cons_zero, List.set_cons_succ]; rfl)
                  rw [hun] at hR
                  have hK' := hK (w'.heap.size, g.2) (w'.alloc (.cells #[.int .u64 (hI (cutW px m)), .int .u64 (lI (cutW px m)), .int .i64 m] 45)) (fun k ok s hk hl hd => gh_same8 (d := 65) (s := s) (by simp only [putAll, Act.put, List.setIfInBounds_toArray, List.set_cons_zero, List.set_cons_succ]; rfl) (by rintro rfl; have := dstG_of (by kernel_rfl) k 9 ok _ 65 hk rfl hd rfl; subst this; rw [hun] at hl; cases hl)) (by rw [hfl 4 (by decide), hfl 6 (by decide), hfl 8 (by decide), hfl 10 (by decide), hfl 13 (by decide), getD_set_same (by rw [hsz]; decide)]; exact hR.s9 hf d8 (HEb.out _ _ (hR.e hf).1 (bl1 _ _))) (.slice (some ⟨w'.heap.size, 0, none⟩) 1 1) (by simp only [valO, Option.bind_some]; simp only [putAll, Act.put, List.setIfInBounds_toArray, List.set_cons_zero, List.set_cons_succ]; rfl)
                  clear hS hdep hR
                  unfold Oper.wp
                  simp [execOp, Act.eval, e64, go_sem, Oper.upon]
                  exact hK'
                | 10, ho, hun, hdep, hK, hfl, _ =>
                  obtain rfl := Option.some.inj ho
                  have d4 : lp.getD 4 false = true := hdep { on := 4, ground := .data } (by simp) rfl
                  have e60 : a'.tmps[60]? = some (vp) := (hS.don 4 _ 60 rfl d4 rfl).trans (by simp only [putAll, Act.put, List.setIfInBounds_toArray, List.set_cons_zero, List.set_cons_succ]; rfl)
                  have d9 : lp.getD 9 false = true := hdep { on := 9, ground := .data } (by simp) rfl
                  have e65 : a'.tmps[65]? = some (.slice (some ⟨g.1, 0, none⟩) 1 1) := (hS.don 9 _ 65 rfl d9 rfl).trans (by simp only [putAll, Act.put, List.setIfInBounds_toArray, List.set_cons_zero, List.set_cons_succ]; rfl)
                  have d8 := hR.d9 d9
                  have d6 := hR.d8 d8
                  obtain ⟨hE, hN⟩ := hR.e hun
                  have hN := hN d9
                  rw [hun] at hR
                  refine wp_append_lies w' (.tmp 60) (.tmp 65) 64 rfl (w.heap.size + 1) 45 i0 (.agg #[.int .u64 0, .int .u64 0, .int .i64 0]) 3 24 Try.underlying64 hi hz0 hz1 hz2 rfl (by decide) vp P.length (rowPf P) (by simp [Act.eval, e60]) hE.1.op ⟨g.1, 0, none⟩ 1 1 [.int .u64 (hI (cutW px m)), .int .u64 (lI (cutW px m)), .int .i64 m] (by simp [Act.eval, e65]) rfl (news3 hN) (by intro u hu; simp at hu; rcases hu with rfl | rfl | rfl <;> rfl) (by decide) (by unfold maxLen; omega) (by omega) hE.1.base_le _ rfl ?_
                  intro g4 cap4 w4 hown4 hgrow hat hlt4
                  obtain ⟨M, hM⟩ := decN_ex g4 cap4
                  have eM : (.slice (some ⟨g4, 0, none⟩) (P.length + 1) cap4 : Value) = valG (P.length + 1) M := by rw [valG, hM]
                  rw [eM]
                  exact hK (g.1, M) w4 (fun k ok s hk hl hd => gh_same8 (d := 66) (s := s) (by simp only [putAll, Act.put, List.setIfInBounds_toArray, List.set_cons_zero, List.set_cons_succ]; rfl) (by rintro rfl; have := dstG_of (by kernel_rfl) k 10 ok _ 66 hk rfl hd rfl; subst this; rw [hun] at hl; cases hl)) (by rw [hfl 4 (by decide), hfl 6 (by decide), hfl 8 (by decide), hfl 9 (by decide), hfl 13 (by decide), getD_set_same (by rw [hsz]; decide)]; exact hR.s10 d4 d6 d8 d9 ⟨w', hE, hgrow, by rw [hM, rowPf_app]; exact hown4, by rw [hM]; rcases hat with h | h; exact .inl h; exact .inr (by rw [h]; exact Nat.le_refl _)⟩) _ (by simp only [valO, Option.bind_some]; simp only [putAll, Act.put, List.setIfInBounds_toArray, List.set_cons_zero, List.set_cons_succ]; rfl)
                | 11, ho, hun, hdep, hK, hfl, _ =>
                  obtain rfl := Option.some.inj ho
                  have d0 : lp.getD 0 false = true := hdep { on := 0, ground := .data } (by simp) rfl
                  have e56 : a'.tmps[56]? = some (.pointer (some ⟨D, 0, none⟩)) := (hS.don 0 _ 56 rfl d0 rfl).trans (by simp only [putAll, Act.put, List.setIfInBounds_toArray, List.set_cons_zero, List.set_cons_succ]; rfl)
                  have hK' := hK g w' (fun _ _ _ _ _ _ => rfl) (by rw [hfl 4 (by decide), hfl 6 (by decide), hfl 8 (by decide), hfl 9 (by decide), hfl 10 (by decide), hfl 13 (by decide)]; exact hR) (.pointer (some ⟨D, 0, none⟩)) (by simp only [valO, Option.bind_some]; simp only [putAll, Act.put, List.setIfInBounds_toArray, List.set_cons_zero, List.set_cons_succ]; rfl)
                  clear hS hdep hR
                  refine gh_quiet8 (v := .pointer (some ⟨D, 0, none⟩)) ?_ ?_
                  · (simp only [execOp, Act.eval, e56]; go_simp; first | done | (simp; done) | (simp [*]; done))
                  · exact hK'
                | 12, ho, hun, hdep, hK, hfl, _ =>
                  obtain rfl := Option.some.inj ho
                  have d11 : lp.getD 11 false = true := hdep { on := 11, ground := .data } (by simp) rfl
                  have e67 : a'.tmps[67]? = some (.pointer (some ⟨D, 0, none⟩)) := (hS.don 11 _ 67 rfl d11 rfl).trans (by simp only [putAll, Act.put, List.setIfInBounds_toArray, List.set_cons_zero, List.set_cons_succ]; rfl)
                  have hK' := hK g w' (fun _ _ _ _ _ _ => rfl) (by rw [hfl 4 (by decide), hfl 6 (by decide), hfl 8 (by decide), hfl 9 (by decide), hfl 10 (by decide), hfl 13 (by decide)]; exact hR) (.pointer (some ⟨D, 1, none⟩)) (by simp only [valO, Option.bind_some]; simp only [putAll, Act.put, List.setIfInBounds_toArray, List.set_cons_zero, List.set_cons_succ]; rfl)
                  clear hS hdep hR
                  refine gh_quiet8 (v := .pointer (some ⟨D, 1, none⟩)) ?_ ?_
                  · (simp only [execOp, Act.eval, e67]; go_simp; first | done | (simp; done) | (simp [*]; done))
                  · exact hK'
                | 13, ho, hun, hdep, hK, hfl, _ =>
                  obtain rfl := Option.some.inj ho
                  have d12 : lp.getD 12 false = true := hdep { on := 12, ground := .data } (by simp) rfl
                  have e68 : a'.tmps[68]? = some (.pointer (some ⟨D, 1, none⟩)) := (hS.don 12 _ 68 rfl d12 rfl).trans (by simp only [putAll, Act.put, List.setIfInBounds_toArray, List.set_cons_zero, List.set_cons_succ]; rfl)
                  have d10 : lp.getD 10 false = true := hdep { on := 10, ground := .data } (by simp) rfl
                  have e66 : a'.tmps[66]? = some (valG (P.length + 1) g.2) := (hS.don 10 _ 66 rfl d10 rfl).trans (by simp only [putAll, Act.put, List.setIfInBounds_toArray, List.set_cons_zero, List.set_cons_succ]; rfl)
                  have hG := hR.gr d10 hun
                  rw [hun] at hR
                  obtain ⟨z0, zf⟩ := hG.cell
                  have hK' := hK g (w'.setCell ⟨D, 1, none⟩ (valG (P.length + 1) g.2)) (fun _ _ _ _ _ _ => rfl) (by rw [hfl 4 (by decide), hfl 6 (by decide), hfl 8 (by decide), hfl 9 (by decide), hfl 10 (by decide), getD_set_same (by rw [hsz]; decide)]; exact hR.s13 d10 hG.fin) undef rfl
                  obtain ⟨g6, c6, hd6⟩ : ∃ g6 c6, valG (P.length + 1) g.2 = .slice (some ⟨g6, 0, none⟩) (P.length + 1) c6 := ⟨_, _, rfl⟩
                  rw [hd6] at e66 hK'
                  clear hS hdep hR hG hd6
                  unfold Oper.wp
                  simp [execOp, Act.eval, e68, e66, go_sem, z0, zf, Oper.upon]
                  exact hK'
                | n + 14, ho, hun, hdep, hK, hfl, hq => exact absurd hq (by omega)
              case fin0 =>
                intro g V2 hR
                have HF := hidX (hR.fi (by simp))
                simp only [putAll, Act.put, List.setIfInBounds_toArray, List.set_cons_zero, List.set_cons_succ]
                clear hR
                refine wl_nil8 (P := Try.prog) (ops := #[]) ?_
                obtain ⟨g6, c6, hd6⟩ : ∃ g6 c6, valG (P.length + 1) g.2 = .slice (some ⟨g6, 0, none⟩) (P.length + 1) c6 := ⟨_, _, rfl⟩
                rw [hd6] at HF
                have hfr := frB (j := 2) HF.out.1.d
                have d2 := at_block HF.out.1.d 2 vh rfl
                have h63 : Z.length + 1 ≤ maxLen := by unfold maxLen; omega
                have h47 : (Z.length + 1) * 8 ≤ 140737488355328 := by omega
                have q9 := bl1 V2 (.cells #[.int .i64 0] 3)
                have HF9 := hidX (HF.out.below q9)
                have hV2 : D < V2.heap.size := HF.out.1.lt
                rw [hd6]
                clear HE0 HEb KC hd6 q9
                go_wp2_with (first | (
                    at_builtin
                    refine wpList_append_lies _ rfl _ _ 37 rfl (w.heap.size + 1) 3 j0 (.int .i64 0) 1 8 Try.underlying37 ji jz0 jz1 jz2 rfl (by decide) _ _ _ rfl HF9.out.1.oz ⟨V2.heap.size, 0, none⟩ 1 1 [.int .i64 0] rfl rfl (news1 (by simp [go_sem])) (by intro u hu; simp at hu; subst hu; rfl) (by decide) h63 h47 (by have := HF9.out.1.base_le; exact this) _ rfl ?_
                    intro g4 cap4 w4 hown4 hgrow hat hlt4
                    have HZ := hidX (dwe_hop HF9.out hown4 hgrow hat)
                    obtain ⟨u2, uf⟩ := HZ.out.2
                    clear hgrow hat hown4 hlt4 h63 h47 hfr d2))
                go_wp2
                go_roundw
                case rel => refine ⟨f + 1, P ++ [(cutW px m, m)], Z ++ [0], _, _, Hfm.out, ?_, hidX ⟨by rw [HPZ.out.1, List.append_assoc]; show _ = P0 ++ (dcN px 0 f ++ _); rw [Hm.out, show ((0 + f + 1 : Nat) : Int) = (0 : Int) + 1 + (f : Int) by push_cast; omega], by rw [HPZ.out.2, List.append_assoc, List.replicate_succ']⟩, hidX HZ.out.1⟩; (rw [Hm.out]; first | (congr 1; done) | (congr 1; push_cast; done) | (congr 1; push_cast; omega) | (congr 1; omega) | (push_cast; done) | (push_cast; omega))
                case measure => simp [intOf, wm]; have := Hmm.out; have := Hm.out; omega
            · have hd2 : decide (m ≤ (nN : Int)) = false := decide_eq_false hlt2
              have hfe : f = nN - 0 := by omega
              obtain ⟨gh, ch, hvh⟩ : ∃ gh ch, vh = .slice (some ⟨gh, 0, none⟩) Z.length ch := by
                obtain ⟨g, c, e, -, -⟩ := HEr.out.1.oz.form (by rw [HPZ.out.2, List.length_append]; have := Hbd.out.2.2; omega)
                exact ⟨g, c, e⟩
              subst hvh
              have hZ1 : 1 ≤ Z.length := by rw [HPZ.out.2, List.length_append]; have := Hbd.out.2.2; omega
              obtain ⟨zj, hzj⟩ : ∃ zj, Z.length = zj + 1 := ⟨Z.length - 1, by omega⟩
              have HPZ2 : Hid (P = P0 ++ dcN px 0 (nN - 0) ∧ Z.set zj ph = (Z0 ++ List.replicate (nN - 0) 0).set (Z0.length + (nN - 0) - 1) ph) := hidX (by
                have h1 := HPZ.out
                rw [hfe] at h1
                refine ⟨h1.1, ?_⟩
                have h2 : Z.length = Z0.length + (nN - 0) := by rw [h1.2, List.length_append, List.length_replicate]
                rw [h1.2, show zj = Z0.length + (nN - 0) - 1 by omega])
              have HZE := hidX (And.intro (HEr.out.1.setZ zj ph (by omega)) HEr.out)
              have Hzj := hidX hzj
              have hzi : (zj : Int) < (Z.length : Int) := by omega
              have hz0 : 0 ≤ (zj : Int) := by omega
              have wz : (Z.length : Int) - 1 = (zj : Int) := by omega
              have wz2 : IntKind.i64.wrap (zj : Int) = (zj : Int) := by rw [IntKind.wrap_i64]; omega
              have hki : (k : Int) < (l.length : Int) := by have := HkS.out; omega
              have hk00 : 0 ≤ (k : Int) := by omega
              clear hm hf hMn hn128 hfe hZ1 hzj
              go_wp2_with fail
              clear p2
              refine qp_region2 16 (qpOk 16 16 (by decide) (fun N => by kernel_rfl) (by kernel_rfl) (by kernel_rfl) (by kernel_rfl) (by kernel_rfl)) (C := fun A => DwE (w.heap.size + 1) D F (.slice (some ⟨b, off, none⟩) l.length c) P Z vp (.slice (some ⟨gh, 0, none⟩) Z.length ch) Pb px (nN : Int) w.heap.size w1 A) [some 78, some 79, some 80, some 81, some 82, some 83, some 84, some 85, some 86, some 87, some 88, some 89, some 90, some 91, some 92, some 93] [.pointer (some ⟨D, 0, none⟩), .pointer (some ⟨D, 0, none⟩), .pointer (some ⟨D, 2, none⟩), .slice (some ⟨gh, 0, none⟩) Z.length ch, .pointer (some ⟨D, 0, none⟩), .pointer (some ⟨D, 0, none⟩), .pointer (some ⟨D, 2, none⟩), .slice (some ⟨gh, 0, none⟩) Z.length ch, .int .i64 (Z.length : Int), .int .i64 (zj : Int), .pointer (some ⟨w.heap.size, 1, none⟩), .slice (some ⟨b, off, none⟩) l.length c, .int .i64 (k : Int), .pointer (some ⟨b, off + k * 4, none⟩), .pointer (some ⟨b, off + k * 4 + 3, none⟩), .int .i64 ph] (by kernel_rfl) (HEr.out.below (below_drewN (Below.refl _ _) 1)) ?walk0 ?fin0
              case walk0 =>
                dsimp only [List.take]
                refine q_run (v := .pointer (some ⟨D, 0, none⟩)) (by rfl) ?_ ?_
                · (intro w9 hC; have d2 := at_block hC.1.d 2 (.slice (some ⟨gh, 0, none⟩) Z.length ch) rfl; have t1 := at_block hC.2.2.1 1 (.slice (some ⟨b, off, none⟩) l.length c) rfl; have x3 := keepc (HB1.out.trans (hC.2.2.2.1.mono (Nat.le_succ _))) HX.out.2.2.2; clear hC; go_simp; first | done | (simp; done) | (simp [*]; done) | omega | (simp; omega) | (rw [IntKind.wrap_i64]; omega) | (intro hx; omega) | rfl)
                simp only [Act.put, List.setIfInBounds_toArray, List.set_cons_zero, List.set_cons_succ]
                refine q_run (v := .pointer (some ⟨D, 0, none⟩)) (by rfl) ?_ ?_
                · (intro w9 hC; have d2 := at_block hC.1.d 2 (.slice (some ⟨gh, 0, none⟩) Z.length ch) rfl; have t1 := at_block hC.2.2.1 1 (.slice (some ⟨b, off, none⟩) l.length c) rfl; have x3 := keepc (HB1.out.trans (hC.2.2.2.1.mono (Nat.le_succ _))) HX.out.2.2.2; clear hC; go_simp; first | done | (simp; done) | (simp [*]; done) | omega | (simp; omega) | (rw [IntKind.wrap_i64]; omega) | (intro hx; omega) | rfl)
                simp only [Act.put, List.setIfInBounds_toArray, List.set_cons_zero, List.set_cons_succ]
                refine q_run (v := .pointer (some ⟨D, 2, none⟩)) (by rfl) ?_ ?_
                · (intro w9 hC; have d2 := at_block hC.1.d 2 (.slice (some ⟨gh, 0, none⟩) Z.length ch) rfl; have t1 := at_block hC.2.2.1 1 (.slice (some ⟨b, off, none⟩) l.length c) rfl; have x3 := keepc (HB1.out.trans (hC.2.2.2.1.mono (Nat.le_succ _))) HX.out.2.2.2; clear hC; go_simp; first | done | (simp; done) | (simp [*]; done) | omega | (simp; omega) | (rw [IntKind.wrap_i64]; omega) | (intro hx; omega) | rfl)
                simp only [Act.put, List.setIfInBounds_toArray, List.set_cons_zero, List.set_cons_succ]
                refine q_run (v := .slice (some ⟨gh, 0, none⟩) Z.length ch) (by rfl) ?_ ?_
                · (intro w9 hC; have d2 := at_block hC.1.d 2 (.slice (some ⟨gh, 0, none⟩) Z.length ch) rfl; have t1 := at_block hC.2.2.1 1 (.slice (some ⟨b, off, none⟩) l.length c) rfl; have x3 := keepc (HB1.out.trans (hC.2.2.2.1.mono (Nat.le_succ _))) HX.out.2.2.2; clear hC; go_simp; first | done | (simp; done) | (simp [*]; done) | omega | (simp; omega) | (rw [IntKind.wrap_i64]; omega) | (intro hx; omega) | rfl)
                simp only [Act.put, List.setIfInBounds_toArray, List.set_cons_zero, List.set_cons_succ]
                refine q_run (v := .pointer (some ⟨D, 0, none⟩)) (by rfl) ?_ ?_
                · (intro w9 hC; have d2 := at_block hC.1.d 2 (.slice (some ⟨gh, 0, none⟩) Z.length ch) rfl; have t1 := at_block hC.2.2.1 1 (.slice (some ⟨b, off, none⟩) l.length c) rfl; have x3 := keepc (HB1.out.trans (hC.2.2.2.1.mono (Nat.le_succ _))) HX.out.2.2.2; clear hC; go_simp; first | done | (simp; done) | (simp [*]; done) | omega | (simp; omega) | (rw [IntKind.wrap_i64]; omega) | (intro hx; omega) | rfl)
                simp only [Act.put, List.setIfInBounds_toArray, List.set_cons_zero, List.set_cons_succ]
                refine q_run (v := .pointer (some ⟨D, 0, none⟩)) (by rfl) ?_ ?_
                · (intro w9 hC; have d2 := at_block hC.1.d 2 (.slice (some ⟨gh, 0, none⟩) Z.length ch) rfl; have t1 := at_block hC.2.2.1 1 (.slice (some ⟨b, off, none⟩) l.length c) rfl; have x3 := keepc (HB1.out.trans (hC.2.2.2.1.mono (Nat.le_succ _))) HX.out.2.2.2; clear hC; go_simp; first | done | (simp; done) | (simp [*]; done) | omega | (simp; omega) | (rw [IntKind.wrap_i64]; omega) | (intro hx; omega) | rfl)
                simp only [Act.put, List.setIfInBounds_toArray, List.set_cons_zero, List.set_cons_succ]
                refine q_run (v := .pointer (some ⟨D, 2, none⟩)) (by rfl) ?_ ?_
                · (intro w9 hC; have d2 := at_block hC.1.d 2 (.slice (some ⟨gh, 0, none⟩) Z.length ch) rfl; have t1 := at_block hC.2.2.1 1 (.slice (some ⟨b, off, none⟩) l.length c) rfl; have x3 := keepc (HB1.out.trans (hC.2.2.2.1.mono (Nat.le_succ _))) HX.out.2.2.2; clear hC; go_simp; first | done | (simp; done) | (simp [*]; done) | omega | (simp; omega) | (rw [IntKind.wrap_i64]; omega) | (intro hx; omega) | rfl)
                simp only [Act.put, List.setIfInBounds_toArray, List.set_cons_zero, List.set_cons_succ]
                refine q_run (v := .slice (some ⟨gh, 0, none⟩) Z.length ch) (by rfl) ?_ ?_
                · (intro w9 hC; have d2 := at_block hC.1.d 2 (.slice (some ⟨gh, 0, none⟩) Z.length ch) rfl; have t1 := at_block hC.2.2.1 1 (.slice (some ⟨b, off, none⟩) l.length c) rfl; have x3 := keepc (HB1.out.trans (hC.2.2.2.1.mono (Nat.le_succ _))) HX.out.2.2.2; clear hC; go_simp; first | done | (simp; done) | (simp [*]; done) | omega | (simp; omega) | (rw [IntKind.wrap_i64]; omega) | (intro hx; omega) | rfl)
                simp only [Act.put, List.setIfInBounds_toArray, List.set_cons_zero, List.set_cons_succ]
                refine q_run (v := .int .i64 (Z.length : Int)) (by rfl) ?_ ?_
                · (intro w9 hC; have d2 := at_block hC.1.d 2 (.slice (some ⟨gh, 0, none⟩) Z.length ch) rfl; have t1 := at_block hC.2.2.1 1 (.slice (some ⟨b, off, none⟩) l.length c) rfl; have x3 := keepc (HB1.out.trans (hC.2.2.2.1.mono (Nat.le_succ _))) HX.out.2.2.2; clear hC; go_simp; first | done | (simp; done) | (simp [*]; done) | omega | (simp; omega) | (rw [IntKind.wrap_i64]; omega) | (intro hx; omega) | rfl)
                simp only [Act.put, List.setIfInBounds_toArray, List.set_cons_zero, List.set_cons_succ]
                refine q_run (v := .int .i64 (zj : Int)) (by rfl) ?_ ?_
                · (intro w9 hC; have d2 := at_block hC.1.d 2 (.slice (some ⟨gh, 0, none⟩) Z.length ch) rfl; have t1 := at_block hC.2.2.1 1 (.slice (some ⟨b, off, none⟩) l.length c) rfl; have x3 := keepc (HB1.out.trans (hC.2.2.2.1.mono (Nat.le_succ _))) HX.out.2.2.2; clear hC; go_simp; first | done | (simp; done) | (simp [*]; done) | omega | (simp; omega) | (rw [IntKind.wrap_i64]; omega) | (intro hx; omega) | rfl)
                simp only [Act.put, List.setIfInBounds_toArray, List.set_cons_zero, List.set_cons_succ]
                refine q_run (v := .pointer (some ⟨w.heap.size, 1, none⟩)) (by rfl) ?_ ?_
                · (intro w9 hC; have d2 := at_block hC.1.d 2 (.slice (some ⟨gh, 0, none⟩) Z.length ch) rfl; have t1 := at_block hC.2.2.1 1 (.slice (some ⟨b, off, none⟩) l.length c) rfl; have x3 := keepc (HB1.out.trans (hC.2.2.2.1.mono (Nat.le_succ _))) HX.out.2.2.2; clear hC; go_simp; first | done | (simp; done) | (simp [*]; done) | omega | (simp; omega) | (rw [IntKind.wrap_i64]; omega) | (intro hx; omega) | rfl)
                simp only [Act.put, List.setIfInBounds_toArray, List.set_cons_zero, List.set_cons_succ]
                refine q_run (v := .slice (some ⟨b, off, none⟩) l.length c) (by rfl) ?_ ?_
                · (intro w9 hC; have d2 := at_block hC.1.d 2 (.slice (some ⟨gh, 0, none⟩) Z.length ch) rfl; have t1 := at_block hC.2.2.1 1 (.slice (some ⟨b, off, none⟩) l.length c) rfl; have x3 := keepc (HB1.out.trans (hC.2.2.2.1.mono (Nat.le_succ _))) HX.out.2.2.2; clear hC; go_simp; first | done | (simp; done) | (simp [*]; done) | omega | (simp; omega) | (rw [IntKind.wrap_i64]; omega) | (intro hx; omega) | rfl)
                simp only [Act.put, List.setIfInBounds_toArray, List.set_cons_zero, List.set_cons_succ]
                refine q_run (v := .int .i64 (k : Int)) (by rfl) ?_ ?_
                · (intro w9 hC; have d2 := at_block hC.1.d 2 (.slice (some ⟨gh, 0, none⟩) Z.length ch) rfl; have t1 := at_block hC.2.2.1 1 (.slice (some ⟨b, off, none⟩) l.length c) rfl; have x3 := keepc (HB1.out.trans (hC.2.2.2.1.mono (Nat.le_succ _))) HX.out.2.2.2; clear hC; go_simp; first | done | (simp; done) | (simp [*]; done) | omega | (simp; omega) | (rw [IntKind.wrap_i64]; omega) | (intro hx; omega) | rfl)
                simp only [Act.put, List.setIfInBounds_toArray, List.set_cons_zero, List.set_cons_succ]
                refine q_run (v := .pointer (some ⟨b, off + k * 4, none⟩)) (by rfl) ?_ ?_
                · (intro w9 hC; have d2 := at_block hC.1.d 2 (.slice (some ⟨gh, 0, none⟩) Z.length ch) rfl; have t1 := at_block hC.2.2.1 1 (.slice (some ⟨b, off, none⟩) l.length c) rfl; have x3 := keepc (HB1.out.trans (hC.2.2.2.1.mono (Nat.le_succ _))) HX.out.2.2.2; clear hC; go_simp; first | done | (simp; done) | (simp [*]; done) | omega | (simp; omega) | (rw [IntKind.wrap_i64]; omega) | (intro hx; omega) | rfl)
                simp only [Act.put, List.setIfInBounds_toArray, List.set_cons_zero, List.set_cons_succ]
                refine q_run (v := .pointer (some ⟨b, off + k * 4 + 3, none⟩)) (by rfl) ?_ ?_
                · (intro w9 hC; have d2 := at_block hC.1.d 2 (.slice (some ⟨gh, 0, none⟩) Z.length ch) rfl; have t1 := at_block hC.2.2.1 1 (.slice (some ⟨b, off, none⟩) l.length c) rfl; have x3 := keepc (HB1.out.trans (hC.2.2.2.1.mono (Nat.le_succ _))) HX.out.2.2.2; clear hC; go_simp; first | done | (simp; done) | (simp [*]; done) | omega | (simp; omega) | (rw [IntKind.wrap_i64]; omega) | (intro hx; omega) | rfl)
                simp only [Act.put, List.setIfInBounds_toArray, List.set_cons_zero, List.set_cons_succ]
                refine q_run (v := .int .i64 ph) (by rfl) ?_ ?_
                · (intro w9 hC; have d2 := at_block hC.1.d 2 (.slice (some ⟨gh, 0, none⟩) Z.length ch) rfl; have t1 := at_block hC.2.2.1 1 (.slice (some ⟨b, off, none⟩) l.length c) rfl; have x3 := keepc (HB1.out.trans (hC.2.2.2.1.mono (Nat.le_succ _))) HX.out.2.2.2; clear hC; go_simp; first | done | (simp; done) | (simp [*]; done) | omega | (simp; omega) | (rw [IntKind.wrap_i64]; omega) | (intro hx; omega) | rfl)
                simp only [Act.put, List.setIfInBounds_toArray, List.set_cons_zero, List.set_cons_succ]
                refine wpQuiet_nil ?_
                simp only [putAll, Act.put, List.setIfInBounds_toArray, List.set_cons_zero, List.set_cons_succ]
              case fin0 =>
                intro W hC
                simp only [putAll, Act.put, List.setIfInBounds_toArray, List.set_cons_zero, List.set_cons_succ]
                dsimp only [List.drop]
                obtain ⟨zc, zf⟩ := cells8 hC.1.oz (rowZ_get Z zj (by have := Hzj.out; omega))
                have HK9 := hidX (hC.1.setZ zj ph (by have := Hzj.out; omega))
                have hTg : w.heap.size ≠ gh := fun e => by have := (hC.1.oz.lt gh rfl).1; omega
                have HT9 := hidX ((setB (W := W) (o := zj) (.int .i64 ph) hTg).trans hC.2.2.1)
                have HB9 := hidX (hC.2.2.2.1.setCell (p := ⟨gh, zj, none⟩) (hC.1.oz.lt gh rfl).1 (.int .i64 ph))
                clear hC HEr HZE
                go_wp2
                go_roundw
                case rel => exact ⟨k + 1, (px, (nN : Int)), grT s last ((px, (nN : Int)), ph), P, Z.set zj ph, vp, _, by have := HkS.out; omega, rfl, HE2, HG2, hidX ⟨HLa2.out, fun h => by omega⟩, hidX (by rw [HPZ2.out.1, HPZ2.out.2]; exact HD2.out), HK9, HT9, HB9⟩
                case measure => simp [intOf]; have := HkS.out; omega
        · obtain ⟨jj, hjj⟩ : ∃ jj, jj + 1 = k := ⟨k - 1, by omega⟩
          obtain ⟨hjl, hlast⟩ := Hjr.out jj hjj
          obtain ⟨v0, v1, v2, -⟩ := rwr_cells Hrw.out jj hjl
          rw [← hlast] at v0 v1 v2
          have hd0 : (0 : Int) < (k : Int) := by omega
          have wj : IntKind.i64.wrap ((k : Int) - 1) = (jj : Int) := by rw [IntKind.wrap_i64]; omega
          have hji : (jj : Int) < (l.length : Int) := by omega
          have hj0 : 0 ≤ (jj : Int) := by omega
          have Hv := hidX (And.intro v0 (And.intro v1 v2))
          clear hk0 HMe Hjr HLa hlast v0 v1 v2
          go_wp2_with fail
          clear hd0 x0 x1 x2 t1 hwr
          revert HE4
          generalize wr.alloc (.cells #[.int .u64 (hI px), .int .u64 (lI px), .int .i64 (nN : Int)] 45) = W4
          generalize wr.heap.size = Pb
          intro HE4
          revert KM
          generalize cutW last.1 (M : Int) = mc
          intro KM
          have HDD : Hid (∀ X, Below W4.heap.size W4 X → X.cell? ⟨w.heap.size, 1, none⟩ = some (.slice (some ⟨b, off, none⟩) l.length c) ∧ (X.cell? ⟨b, off + jj * 4, none⟩ = some (.int .u64 (hI last.1)) ∧ X.cell? ⟨b, off + jj * 4 + 1, none⟩ = some (.int .u64 (lI last.1)) ∧ X.cell? ⟨b, off + jj * 4 + 2, none⟩ = some (.int .i64 last.2)) ∧ X.cell? ⟨Pb, 0, none⟩ = some (.int .u64 (hI px)) ∧ X.cell? ⟨Pb, 1, none⟩ = some (.int .u64 (lI px)) ∧ X.cell? ⟨Pb, 2, none⟩ = some (.int .i64 (nN : Int))) := hidX (fun X hb => by
            have k := HE4.out.below hb
            have hbw : Below w.heap.size w X := HB1.out.trans (k.2.2.2.1.mono (Nat.le_succ _))
            exact ⟨at_block k.2.2.1 1 _ rfl, ⟨keepc hbw Hv.out.1, keepc hbw Hv.out.2.1, keepc hbw Hv.out.2.2⟩, at_block k.2.1 0 _ rfl, at_block k.2.1 1 _ rfl, at_block k.2.1 2 _ rfl⟩)
          refine qw_region (C := fun X => Below W4.heap.size W4 X) (by kernel_rfl) (by kernel_rfl) (below_drewN (Below.refl _ _) 1) ?_
          refine qw_run (v := .pointer (some ⟨w.heap.size, 1, none⟩)) (by rfl) ?_ ?_
          · (intro w9 hC; obtain ⟨t1, ⟨u0, u1, u2⟩, v0, v1, v2⟩ := HDD.out w9 hC; clear hC; go_simp; first | done | (simp; done) | (simp [*]; done) | omega | (simp; omega) | (rw [IntKind.wrap_i64]; omega) | (intro hx; omega) | rfl)
          simp only [Act.put, List.setIfInBounds_toArray, List.set_cons_zero, List.set_cons_succ]
          refine qw_run (v := (.slice (some ⟨b, off, none⟩) l.length c)) (by rfl) ?_ ?_
          · (intro w9 hC; obtain ⟨t1, ⟨u0, u1, u2⟩, v0, v1, v2⟩ := HDD.out w9 hC; clear hC; go_simp; first | done | (simp; done) | (simp [*]; done) | omega | (simp; omega) | (rw [IntKind.wrap_i64]; omega) | (intro hx; omega) | rfl)
          simp only [Act.put, List.setIfInBounds_toArray, List.set_cons_zero, List.set_cons_succ]
          refine qw_run (v := .int .i64 (k : Int)) (by rfl) ?_ ?_
          · (intro w9 hC; obtain ⟨t1, ⟨u0, u1, u2⟩, v0, v1, v2⟩ := HDD.out w9 hC; clear hC; go_simp; first | done | (simp; done) | (simp [*]; done) | omega | (simp; omega) | (rw [IntKind.wrap_i64]; omega) | (intro hx; omega) | rfl)
          simp only [Act.put, List.setIfInBounds_toArray, List.set_cons_zero, List.set_cons_succ]
          refine qw_run (v := .int .i64 (jj : Int)) (by rfl) ?_ ?_
          · (intro w9 hC; obtain ⟨t1, ⟨u0, u1, u2⟩, v0, v1, v2⟩ := HDD.out w9 hC; clear hC; go_simp; first | done | (simp; done) | (simp [*]; done) | omega | (simp; omega) | (rw [IntKind.wrap_i64]; omega) | (intro hx; omega) | rfl)
          simp only [Act.put, List.setIfInBounds_toArray, List.set_cons_zero, List.set_cons_succ]
          refine qw_run (v := .pointer (some ⟨b, off + jj * 4, none⟩)) (by rfl) ?_ ?_
          · (intro w9 hC; obtain ⟨t1, ⟨u0, u1, u2⟩, v0, v1, v2⟩ := HDD.out w9 hC; clear hC; go_simp; first | done | (simp; done) | (simp [*]; done) | omega | (simp; omega) | (rw [IntKind.wrap_i64]; omega) | (intro hx; omega) | rfl)
          simp only [Act.put, List.setIfInBounds_toArray, List.set_cons_zero, List.set_cons_succ]
          refine qw_run (v := .pointer (some ⟨b, off + jj * 4, none⟩)) (by rfl) ?_ ?_
          · (intro w9 hC; obtain ⟨t1, ⟨u0, u1, u2⟩, v0, v1, v2⟩ := HDD.out w9 hC; clear hC; go_simp; first | done | (simp; done) | (simp [*]; done) | omega | (simp; omega) | (rw [IntKind.wrap_i64]; omega) | (intro hx; omega) | rfl)
          simp only [Act.put, List.setIfInBounds_toArray, List.set_cons_zero, List.set_cons_succ]
          refine qw_run (v := .agg #[.int .u64 (hI last.1), .int .u64 (lI last.1), .int .i64 last.2]) (by rfl) ?_ ?_
          · (intro w9 hC; obtain ⟨t1, ⟨u0, u1, u2⟩, v0, v1, v2⟩ := HDD.out w9 hC; clear hC; go_simp; first | done | (simp; done) | (simp [*]; done) | omega | (simp; omega) | (rw [IntKind.wrap_i64]; omega) | (intro hx; omega) | rfl)
          simp only [Act.put, List.setIfInBounds_toArray, List.set_cons_zero, List.set_cons_succ]
          refine qw_run (v := .agg #[.int .u64 (hI px), .int .u64 (lI px), .int .i64 (nN : Int)]) (by rfl) ?_ ?_
          · (intro w9 hC; obtain ⟨t1, ⟨u0, u1, u2⟩, v0, v1, v2⟩ := HDD.out w9 hC; clear hC; go_simp; first | done | (simp; done) | (simp [*]; done) | omega | (simp; omega) | (rw [IntKind.wrap_i64]; omega) | (intro hx; omega) | rfl)
          simp only [Act.put, List.setIfInBounds_toArray, List.set_cons_zero, List.set_cons_succ]
          refine qw_call (v := .agg #[.int .u64 (hI mc), .int .u64 (lI mc), .int .i64 (M : Int)]) (f := 37) (args := #[.agg #[.int .u64 (hI last.1), .int .u64 (lI last.1), .int .i64 last.2], .agg #[.int .u64 (hI px), .int .u64 (lI px), .int .i64 (nN : Int)]]) (by rfl) ?_ ?_ ?_
          · (intro w9 hC; clear hC; go_simp)
          · exact fun w9 hC => (KM w9).mono fun e w' ⟨he, hb⟩ => ⟨he, keepb hb hC⟩
          simp only [Act.put, List.setIfInBounds_toArray, List.set_cons_zero, List.set_cons_succ]
          refine qw_run (v := .int .i64 (M : Int)) (by rfl) ?_ ?_
          · (intro w9 hC; clear hC; have FP := fun a b c w => fldP1 a b c w; go_simp; first | done | (simp; done) | (simp [*]; done) | omega | (simp; omega) | (rw [IntKind.wrap_i64]; omega) | (intro hx; omega) | rfl)
          simp only [Act.put, List.setIfInBounds_toArray, List.set_cons_zero, List.set_cons_succ]
          refine qw_run (v := .int .i64 (M : Int)) (by rfl) ?_ ?_
          · (intro w9 hC; clear hC; have FP := fun a b c w => fldP1 a b c w; go_simp; first | done | (simp; done) | (simp [*]; done) | omega | (simp; omega) | (rw [IntKind.wrap_i64]; omega) | (intro hx; omega) | rfl)
          simp only [Act.put, List.setIfInBounds_toArray, List.set_cons_zero, List.set_cons_succ]
          refine qw_nil ?_
          intro W5 hC
          have HE5 := hidX (HE4.out.below hC)
          clear hC HDD HE4 KM wj hji hj0
          go_wp2_with fail
          have hk7 : decide (0 < k) = true := decide_eq_true (by omega)
          try rw [hk7]
          clear hk7
          go_loopw [9] (fun i wr => ∃ (f : Nat) (P : List (BitVec 128 × Int)) (Z : List Int) (vp vh : Value), f ≤ nN - M ∧ i = .int .i64 ((M : Int) + 1 + (f : Int)) ∧ Hid (P = P0 ++ dcN px M f ∧ Z = Z0 ++ List.replicate f 0) ∧ Hid (DwE (w.heap.size + 1) D F (.slice (some ⟨b, off, none⟩) l.length c) P Z vp vh Pb px (nN : Int) w.heap.size w1 wr)) (fun i _ => nN + 1 - (intOf i).toNat)
          case atStart => exact ⟨0, P0, Z0, vp0, vh0, by omega, by simp, hidX ⟨by simp [dcN], by simp⟩, HE5⟩
          case round =>
            clear HE5
            obtain ⟨f, P, Z, vp, vh, hf, rfl, HPZ, HEr⟩ := hrel
            obtain ⟨hMn, hn128⟩ := HN8.out
            have hPl : P.length ≤ 134217900 ∧ Z.length ≤ 134217900 := by
              have h1 := HPZ.out
              have h2 := Hbd.out
              rw [h1.1, h1.2, List.length_append, List.length_append, dcN_len, List.length_replicate]
              omega
            obtain ⟨m, hm⟩ : ∃ m : Int, m = (M : Int) + 1 + (f : Int) := ⟨_, rfl⟩
            rw [← hm]
            have p2 := at_block HEr.out.2.1 2 (.int .i64 (nN : Int)) rfl
            by_cases hlt2 : m ≤ (nN : Int)
            · have Hm := hidX hm
              have wm : IntKind.i64.wrap (m + 1) = m + 1 := by rw [IntKind.wrap_i64]; omega
              have Hfm : Hid (f + 1 ≤ nN - M) := hidX (by omega)
              have Hmm := hidX hlt2
              clear hm hf hMn hn128
              go_wp2_with fail
              clear p2
              have HE0 := hidX (HEr.out.below (below_drewN (Below.refl _ _) 1))
              have HEb : Hid (∀ A A' : World, DwE (w.heap.size + 1) D F (.slice (some ⟨b, off, none⟩) l.length c) P Z vp vh Pb px (nN : Int) w.heap.size w1 A → Below A.heap.size A A' → DwE (w.heap.size + 1) D F (.slice (some ⟨b, off, none⟩) l.length c) P Z vp vh Pb px (nN : Int) w.heap.size w1 A') := hidX (fun A A' h hb => h.below hb)
              have KC := fun W => rcut_any px m W
              clear HEr
              refine gh_region (γ := Nat × Nat) (qpOk 14 14 (by decide) (fun N => by kernel_rfl) (by kernel_rfl) (by kernel_rfl) (by kernel_rfl) (by kernel_rfl)) (by kernel_rfl) (by kernel_rfl) [some 56, some 57, some 58, some 59, some 60, some 61, some 62, some 63, some 64, some 65, some 66, some 67, some 68, none] (fun g => [.pointer (some ⟨D, 0, none⟩), .pointer (some ⟨D, 0, none⟩), .pointer (some ⟨D, 0, none⟩), .pointer (some ⟨D, 1, none⟩), vp, .pointer (some ⟨Pb, 0, none⟩), .agg #[.int .u64 (hI px), .int .u64 (lI px)], .int .i64 m, .agg #[.int .u64 (hI (cutW px m)), .int .u64 (lI (cutW px m)), .int .i64 m], .slice (some ⟨g.1, 0, none⟩) 1 1, valG (P.length + 1) g.2, .pointer (some ⟨D, 0, none⟩), .pointer (some ⟨D, 1, none⟩), undef]) (by kernel_rfl) (by simp) (fun lp g V => RP (fun V => DwE (w.heap.size + 1) D F (.slice (some ⟨b, off, none⟩) l.length c) P Z vp vh Pb px (nN : Int) w.heap.size w1 V) (fun M V => DwG (w.heap.size + 1) D F (.slice (some ⟨b, off, none⟩) l.length c) P Z vp vh Pb px (nN : Int) w.heap.size w1 (cutW px m, m) (decN M).1 (decN M).2 V) (fun M V => DwE (w.heap.size + 1) D F (.slice (some ⟨b, off, none⟩) l.length c) (P ++ [(cutW px m, m)]) Z (valG (P.length + 1) M) vh Pb px (nN : Int) w.heap.size w1 V) (cutW px m) m (lp.getD 4 false) (lp.getD 6 false) (lp.getD 8 false) (lp.getD 9 false) (lp.getD 10 false) (lp.getD 13 false) g V) (0, 0) ⟨fun _ => ⟨HE0.out, fun h => (by simp at h)⟩, fun h => (by simp at h), fun h => (by simp at h), fun h => (by simp at h), fun h => (by simp at h), fun h => (by simp at h), fun h => (by simp at h)⟩ ?step1 ?fin1
              case step1 =>
                intro q o lp g w' a' ho hsz hun hdep hR hS K Q' hK
                have hfl : ∀ j, j ≠ q → (lp.setIfInBounds q true).getD j false = lp.getD j false := fun j hj => by rw [Array.getD_eq_getD_getElem?, Array.getD_eq_getD_getElem?, Array.getElem?_setIfInBounds_ne (by omega)]
                have hq : q < 14 := (List.getElem?_eq_some_iff.mp ho).1
                match q, ho, hun, hdep, hK, hfl, hq with
                | 0, ho, hun, hdep, hK, hfl, _ =>
                  obtain rfl := Option.some.inj ho
                  have o5 : a'.tmps[5]? = some (.pointer (some ⟨D, 0, none⟩)) := (hS.old8 5 (by simp)).trans rfl
                  have hK' := hK g w' (fun _ _ _ _ _ _ => rfl) (by rw [hfl 4 (by decide), hfl 6 (by decide), hfl 8 (by decide), hfl 9 (by decide), hfl 10 (by decide), hfl 13 (by decide)]; exact hR) (.pointer (some ⟨D, 0, none⟩)) (by simp only [valO, Option.bind_some]; simp only [putAll, Act.put, List.setIfInBounds_toArray, List.set_cons_zero, List.set_cons_succ]; rfl)
                  clear hS hdep hR
                  refine gh_quiet8 (v := .pointer (some ⟨D, 0, none⟩)) ?_ ?_
                  · (simp only [execOp, Act.eval, o5]; go_simp; first | done | (simp; done) | (simp [*]; done))
                  · exact hK'
                | 1, ho, hun, hdep, hK, hfl, _ =>
                  obtain rfl := Option.some.inj ho
                  have o5 : a'.tmps[5]? = some (.pointer (some ⟨D, 0, none⟩)) := (hS.old8 5 (by simp)).trans rfl
                  have hK' := hK g w' (fun _ _ _ _ _ _ => rfl) (by rw [hfl 4 (by decide), hfl 6 (by decide), hfl 8 (by decide), hfl 9 (by decide), hfl 10 (by decide), hfl 13 (by decide)]; exact hR) (.pointer (some ⟨D, 0, none⟩)) (by simp only [valO, Option.bind_some]; simp only [putAll, Act.put, List.setIfInBounds_toArray, List.set_cons_zero, List.set_cons_succ]; rfl)
                  clear hS hdep hR
                  refine gh_quiet8 (v := .pointer (some ⟨D, 0, none⟩)) ?_ ?_
                  · (simp only [execOp, Act.eval, o5]; go_simp; first | done | (simp; done) | (simp [*]; done))
                  · exact hK'
                | 2, ho, hun, hdep, hK, hfl, _ =>
                  obtain rfl := Option.some.inj ho
                  have d1 : lp.getD 1 false = true := hdep { on := 1, ground := .data } (by simp) rfl
                  have e57 : a'.tmps[57]? = some (.pointer (some ⟨D, 0, none⟩)) := (hS.don 1 _ 57 rfl d1 rfl).trans (by simp only [putAll, Act.put, List.setIfInBounds_toArray, List.set_cons_zero, List.set_cons_succ]; rfl)
                  have hK' := hK g w' (fun _ _ _ _ _ _ => rfl) (by rw [hfl 4 (by decide), hfl 6 (by decide), hfl 8 (by decide), hfl 9 (by decide), hfl 10 (by decide), hfl 13 (by decide)]; exact hR) (.pointer (some ⟨D, 0, none⟩)) (by simp only [valO, Option.bind_some]; simp only [putAll, Act.put, List.setIfInBounds_toArray, List.set_cons_zero, List.set_cons_succ]; rfl)
                  clear hS hdep hR
                  refine gh_quiet8 (v := .pointer (some ⟨D, 0, none⟩)) ?_ ?_
                  · (simp only [execOp, Act.eval, e57]; go_simp; first | done | (simp; done) | (simp [*]; done))
                  · exact hK'
                | 3, ho, hun, hdep, hK, hfl, _ =>
                  obtain rfl := Option.some.inj ho
                  have d2 : lp.getD 2 false = true := hdep { on := 2, ground := .data } (by simp) rfl
                  have e58 : a'.tmps[58]? = some (.pointer (some ⟨D, 0, none⟩)) := (hS.don 2 _ 58 rfl d2 rfl).trans (by simp only [putAll, Act.put, List.setIfInBounds_toArray, List.set_cons_zero, List.set_cons_succ]; rfl)
                  have hK' := hK g w' (fun _ _ _ _ _ _ => rfl) (by rw [hfl 4 (by decide), hfl 6 (by decide), hfl 8 (by decide), hfl 9 (by decide), hfl 10 (by decide), hfl 13 (by decide)]; exact hR) (.pointer (some ⟨D, 1, none⟩)) (by simp only [valO, Option.bind_some]; simp only [putAll, Act.put, List.setIfInBounds_toArray, List.set_cons_zero, List.set_cons_succ]; rfl)
                  clear hS hdep hR
                  refine gh_quiet8 (v := .pointer (some ⟨D, 1, none⟩)) ?_ ?_
                  · (simp only [execOp, Act.eval, e58]; go_simp; first | done | (simp; done) | (simp [*]; done))
                  · exact hK'
                | 4, ho, hun, hdep, hK, hfl, _ =>
                  obtain rfl := Option.some.inj ho
                  have hf : lp.getD 10 false = false := by
                    cases h : lp.getD 10 false
                    · rfl
                    · have := (hR.d10 h).1; rw [hun] at this; cases this
                  have d3 : lp.getD 3 false = true := hdep { on := 3, ground := .data } (by simp) rfl
                  have e59 : a'.tmps[59]? = some (.pointer (some ⟨D, 1, none⟩)) := (hS.don 3 _ 59 rfl d3 rfl).trans (by simp only [putAll, Act.put, List.setIfInBounds_toArray, List.set_cons_zero, List.set_cons_succ]; rfl)
                  obtain ⟨hE, -⟩ := hR.e hf
                  rw [hun] at hR
                  have hK' := hK g w' (fun _ _ _ _ _ _ => rfl) (by rw [hfl 6 (by decide), hfl 8 (by decide), hfl 9 (by decide), hfl 10 (by decide), hfl 13 (by decide), getD_set_same (by rw [hsz]; decide)]; exact hR.s4) (vp) (by simp only [valO, Option.bind_some]; simp only [putAll, Act.put, List.setIfInBounds_toArray, List.set_cons_zero, List.set_cons_succ]; rfl)
                  have c0 := at_block hE.1.d 1 vp rfl
                  clear hS hdep hR hE
                  refine gh_quiet8 (v := vp) ?_ ?_
                  · (simp only [execOp, Act.eval, e59]; go_simp; first | done | (simp; done) | (simp [*]; done))
                  · exact hK'
                | 5, ho, hun, hdep, hK, hfl, _ =>
                  obtain rfl := Option.some.inj ho
                  have o7 : a'.tmps[7]? = some (.pointer (some ⟨Pb, 0, none⟩)) := (hS.old8 7 (by simp)).trans rfl
                  have hK' := hK g w' (fun _ _ _ _ _ _ => rfl) (by rw [hfl 4 (by decide), hfl 6 (by decide), hfl 8 (by decide), hfl 9 (by decide), hfl 10 (by decide), hfl 13 (by decide)]; exact hR) (.pointer (some ⟨Pb, 0, none⟩)) (by simp only [valO, Option.bind_some]; simp only [putAll, Act.put, List.setIfInBounds_toArray, List.set_cons_zero, List.set_cons_succ]; rfl)
                  clear hS hdep hR
                  refine gh_quiet8 (v := .pointer (some ⟨Pb, 0, none⟩)) ?_ ?_
                  · (simp only [execOp, Act.eval, o7]; go_simp; first | done | (simp; done) | (simp [*]; done))
                  · exact hK'
                | 6, ho, hun, hdep, hK, hfl, _ =>
                  obtain rfl := Option.some.inj ho
                  have hf : lp.getD 10 false = false := by
                    cases h : lp.getD 10 false
                    · rfl
                    · have := (hR.d10 h).2.1; rw [hun] at this; cases this
                  have d5 : lp.getD 5 false = true := hdep { on := 5, ground := .data } (by simp) rfl
                  have e61 : a'.tmps[61]? = some (.pointer (some ⟨Pb, 0, none⟩)) := (hS.don 5 _ 61 rfl d5 rfl).trans (by simp only [putAll, Act.put, List.setIfInBounds_toArray, List.set_cons_zero, List.set_cons_succ]; rfl)
                  obtain ⟨hE, -⟩ := hR.e hf
                  rw [hun] at hR
                  have hK' := hK g w' (fun _ _ _ _ _ _ => rfl) (by rw [hfl 4 (by decide), hfl 8 (by decide), hfl 9 (by decide), hfl 10 (by decide), hfl 13 (by decide), getD_set_same (by rw [hsz]; decide)]; exact hR.s6) (.agg #[.int .u64 (hI px), .int .u64 (lI px)]) (by simp only [valO, Option.bind_some]; simp only [putAll, Act.put, List.setIfInBounds_toArray, List.set_cons_zero, List.set_cons_succ]; rfl)
                  have c0 := at_block hE.2.1 0 (.int .u64 (hI px)) rfl
                  have c1 := at_block hE.2.1 1 (.int .u64 (lI px)) rfl
                  clear hS hdep hR hE
                  refine gh_quiet8 (v := .agg #[.int .u64 (hI px), .int .u64 (lI px)]) ?_ ?_
                  · (simp only [execOp, Act.eval, e61]; go_simp; first | done | (simp; done) | (simp [*]; done))
                  · exact hK'
                | 7, ho, hun, hdep, hK, hfl, _ =>
                  obtain rfl := Option.some.inj ho
                  have o9 : a'.tmps[9]? = some (.int .i64 m) := (hS.old8 9 (by simp)).trans rfl
                  have hK' := hK g w' (fun _ _ _ _ _ _ => rfl) (by rw [hfl 4 (by decide), hfl 6 (by decide), hfl 8 (by decide), hfl 9 (by decide), hfl 10 (by decide), hfl 13 (by decide)]; exact hR) (.int .i64 m) (by simp only [valO, Option.bind_some]; simp only [putAll, Act.put, List.setIfInBounds_toArray, List.set_cons_zero, List.set_cons_succ]; rfl)
                  clear hS hdep hR
                  refine gh_quiet8 (v := .int .i64 m) ?_ ?_
                  · (simp only [execOp, Act.eval, o9]; go_simp; first | done | (simp; done) | (simp [*]; done))
                  · exact hK'
                | 8, ho, hun, hdep, hK, hfl, _ =>
                  obtain rfl := Option.some.inj ho
                  have hf : lp.getD 10 false = false := by
                    cases h : lp.getD 10 false
                    · rfl
                    · have := (hR.d10 h).2.2.1; rw [hun] at this; cases this
                  have d6 : lp.getD 6 false = true := hdep { on := 6, ground := .data } (by simp) rfl
                  have e62 : a'.tmps[62]? = some (.agg #[.int .u64 (hI px), .int .u64 (lI px)]) := (hS.don 6 _ 62 rfl d6 rfl).trans (by simp only [putAll, Act.put, List.setIfInBounds_toArray, List.set_cons_zero, List.set_cons_succ]; rfl)
                  have d7 : lp.getD 7 false = true := hdep { on := 7, ground := .data } (by simp) rfl
                  have e63 : a'.tmps[63]? = some (.int .i64 m) := (hS.don 7 _ 63 rfl d7 rfl).trans (by simp only [putAll, Act.put, List.setIfInBounds_toArray, List.set_cons_zero, List.set_cons_succ]; rfl)
                  have KE := KC w'
                  rw [hun] at hR
                  clear hdep
                  unfold Oper.wp
                  simp only [execOp, Act.eval]
                  simp [go_sem, e62, e63, Oper.upon]
                  refine KE.mono ?_
                  rintro e W2 ⟨rfl, hb2⟩
                  exact hK g W2 (fun _ _ _ _ _ _ => rfl) (by rw [hfl 4 (by decide), hfl 6 (by decide), hfl 9 (by decide), hfl 10 (by decide), hfl 13 (by decide), getD_set_same (by rw [hsz]; decide)]; exact hR.s8 hf d6 (HEb.out _ _ (hR.e hf).1 hb2)) _ (by simp only [valO, Option.bind_some]; simp only [putAll, Act.put, List.setIfInBounds_toArray, List.set_cons_zero, List.set_cons_succ]; rfl)
                | 9, ho, hun, hdep, hK, hfl, _ =>
                  obtain rfl := Option.some.inj ho
                  have hf : lp.getD 10 false = false := by
                    cases h : lp.getD 10 false
                    · rfl
                    · have := (hR.d10 h).2.2.2; rw [hun] at this; cases this
                  have d8 : lp.getD 8 false = true := hdep { on := 8, ground := .data } (by simp) rfl
                  have e64 : a'.tmps[64]? = some (.agg #[.int .u64 (hI (cutW px m)), .int .u64 (lI (cutW px m)), .int .i64 m]) := (hS.don 8 _ 64 rfl d8 rfl).trans (by simp only [putAll, Act.put, List.setIfInBounds_toArray, List.set_cons_zero, List.set_cons_succ]; rfl)
                  rw [hun] at hR
                  have hK' := hK (w'.heap.size, g.2) (w'.alloc (.cells #[.int .u64 (hI (cutW px m)), .int .u64 (lI (cutW px m)), .int .i64 m] 45)) (fun k ok s hk hl hd => gh_same8 (d := 65) (s := s) (by simp only [putAll, Act.put, List.setIfInBounds_toArray, List.set_cons_zero, List.set_cons_succ]; rfl) (by rintro rfl; have := dstG_of (by kernel_rfl) k 9 ok _ 65 hk rfl hd rfl; subst this; rw [hun] at hl; cases hl)) (by rw [hfl 4 (by decide), hfl 6 (by decide), hfl 8 (by decide), hfl 10 (by decide), hfl 13 (by decide), getD_set_same (by rw [hsz]; decide)]; exact hR.s9 hf d8 (HEb.out _ _ (hR.e hf).1 (bl1 _ _))) (.slice (some ⟨w'.heap.size, 0, none⟩) 1 1) (by simp only [valO, Option.bind_some]; simp only [putAll, Act.put, List.setIfInBounds_toArray, List.set_cons_zero, List.set_cons_succ]; rfl)
                  clear hS hdep hR
                  unfold Oper.wp
                  simp [execOp, Act.eval, e64, go_sem, Oper.upon]
                  exact hK'
                | 10, ho, hun, hdep, hK, hfl, _ =>
                  obtain rfl := Option.some.inj ho
                  have d4 : lp.getD 4 false = true := hdep { on := 4, ground := .data } (by simp) rfl
                  have e60 : a'.tmps[60]? = some (vp) := (hS.don 4 _ 60 rfl d4 rfl).trans (by simp only [putAll, Act.put, List.setIfInBounds_toArray, List.set_cons_zero, List.set_cons_succ]; rfl)
                  have d9 : lp.getD 9 false = true := hdep { on := 9, ground := .data } (by simp) rfl
                  have e65 : a'.tmps[65]? = some (.slice (some ⟨g.1, 0, none⟩) 1 1) := (hS.don 9 _ 65 rfl d9 rfl).trans (by simp only [putAll, Act.put, List.setIfInBounds_toArray, List.set_cons_zero, List.set_cons_succ]; rfl)
                  have d8 := hR.d9 d9
                  have d6 := hR.d8 d8
                  obtain ⟨hE, hN⟩ := hR.e hun
                  have hN := hN d9
                  rw [hun] at hR
                  refine wp_append_lies w' (.tmp 60) (.tmp 65) 64 rfl (w.heap.size + 1) 45 i0 (.agg #[.int .u64 0, .int .u64 0, .int .i64 0]) 3 24 Try.underlying64 hi hz0 hz1 hz2 rfl (by decide) vp P.length (rowPf P) (by simp [Act.eval, e60]) hE.1.op ⟨g.1, 0, none⟩ 1 1 [.int .u64 (hI (cutW px m)), .int .u64 (lI (cutW px m)), .int .i64 m] (by simp [Act.eval, e65]) rfl (news3 hN) (by intro u hu; simp at hu; rcases hu with rfl | rfl | rfl <;> rfl) (by decide) (by unfold maxLen; omega) (by omega) hE.1.base_le _ rfl ?_
                  intro g4 cap4 w4 hown4 hgrow hat hlt4
                  obtain ⟨M, hM⟩ := decN_ex g4 cap4
                  have eM : (.slice (some ⟨g4, 0, none⟩) (P.length + 1) cap4 : Value) = valG (P.length + 1) M := by rw [valG, hM]
                  rw [eM]
                  exact hK (g.1, M) w4 (fun k ok s hk hl hd => gh_same8 (d := 66) (s := s) (by simp only [putAll, Act.put, List.setIfInBounds_toArray, List.set_cons_zero, List.set_cons_succ]; rfl) (by rintro rfl; have := dstG_of (by kernel_rfl) k 10 ok _ 66 hk rfl hd rfl; subst this; rw [hun] at hl; cases hl)) (by rw [hfl 4 (by decide), hfl 6 (by decide), hfl 8 (by decide), hfl 9 (by decide), hfl 13 (by decide), getD_set_same (by rw [hsz]; decide)]; exact hR.s10 d4 d6 d8 d9 ⟨w', hE, hgrow, by rw [hM, rowPf_app]; exact hown4, by rw [hM]; rcases hat with h | h; exact .inl h; exact .inr (by rw [h]; exact Nat.le_refl _)⟩) _ (by simp only [valO, Option.bind_some]; simp only [putAll, Act.put, List.setIfInBounds_toArray, List.set_cons_zero, List.set_cons_succ]; rfl)
                | 11, ho, hun, hdep, hK, hfl, _ =>
                  obtain rfl := Option.some.inj ho
                  have d0 : lp.getD 0 false = true := hdep { on := 0, ground := .data } (by simp) rfl
                  have e56 : a'.tmps[56]? = some (.pointer (some ⟨D, 0, none⟩)) := (hS.don 0 _ 56 rfl d0 rfl).trans (by simp only [putAll, Act.put, List.setIfInBounds_toArray, List.set_cons_zero, List.set_cons_succ]; rfl)
                  have hK' := hK g w' (fun _ _ _ _ _ _ => rfl) (by rw [hfl 4 (by decide), hfl 6 (by decide), hfl 8 (by decide), hfl 9 (by decide), hfl 10 (by decide), hfl 13 (by decide)]; exact hR) (.pointer (some ⟨D, 0, none⟩)) (by simp only [valO, Option.bind_some]; simp only [putAll, Act.put, List.setIfInBounds_toArray, List.set_cons_zero, List.set_cons_succ]; rfl)
                  clear hS hdep hR
                  refine gh_quiet8 (v := .pointer (some ⟨D, 0, none⟩)) ?_ ?_
                  · (simp only [execOp, Act.eval, e56]; go_simp; first | done | (simp; done) | (simp [*]; done))
                  · exact hK'
                | 12, ho, hun, hdep, hK, hfl, _ =>
                  obtain rfl := Option.some.inj ho
                  have d11 : lp.getD 11 false = true := hdep { on := 11, ground := .data } (by simp) rfl
                  have e67 : a'.tmps[67]? = some (.pointer (some ⟨D, 0, none⟩)) := (hS.don 11 _ 67 rfl d11 rfl).trans (by simp only [putAll, Act.put, List.setIfInBounds_toArray, List.set_cons_zero, List.set_cons_succ]; rfl)
                  have hK' := hK g w' (fun _ _ _ _ _ _ => rfl) (by rw [hfl 4 (by decide), hfl 6 (by decide), hfl 8 (by decide), hfl 9 (by decide), hfl 10 (by decide), hfl 13 (by decide)]; exact hR) (.pointer (some ⟨D, 1, none⟩)) (by simp only [valO, Option.bind_some]; simp only [putAll, Act.put, List.setIfInBounds_toArray, List.set_cons_zero, List.set_cons_succ]; rfl)
                  clear hS hdep hR
                  refine gh_quiet8 (v := .pointer (some ⟨D, 1, none⟩)) ?_ ?_
                  · (simp only [execOp, Act.eval, e67]; go_simp; first | done | (simp; done) | (simp [*]; done))
                  · exact hK'
                | 13, ho, hun, hdep, hK, hfl, _ =>
                  obtain rfl := Option.some.inj ho
                  have d12 : lp.getD 12 false = true := hdep { on := 12, ground := .data } (by simp) rfl
                  have e68 : a'.tmps[68]? = some (.pointer (some ⟨D, 1, none⟩)) := (hS.don 12 _ 68 rfl d12 rfl).trans (by simp only [putAll, Act.put, List.setIfInBounds_toArray, List.set_cons_zero, List.set_cons_succ]; rfl)
                  have d10 : lp.getD 10 false = true := hdep { on := 10, ground := .data } (by simp) rfl
                  have e66 : a'.tmps[66]? = some (valG (P.length + 1) g.2) := (hS.don 10 _ 66 rfl d10 rfl).trans (by simp only [putAll, Act.put, List.setIfInBounds_toArray, List.set_cons_zero, List.set_cons_succ]; rfl)
                  have hG := hR.gr d10 hun
                  rw [hun] at hR
                  obtain ⟨z0, zf⟩ := hG.cell
                  have hK' := hK g (w'.setCell ⟨D, 1, none⟩ (valG (P.length + 1) g.2)) (fun _ _ _ _ _ _ => rfl) (by rw [hfl 4 (by decide), hfl 6 (by decide), hfl 8 (by decide), hfl 9 (by decide), hfl 10 (by decide), getD_set_same (by rw [hsz]; decide)]; exact hR.s13 d10 hG.fin) undef rfl
                  obtain ⟨g6, c6, hd6⟩ : ∃ g6 c6, valG (P.length + 1) g.2 = .slice (some ⟨g6, 0, none⟩) (P.length + 1) c6 := ⟨_, _, rfl⟩
                  rw [hd6] at e66 hK'
                  clear hS hdep hR hG hd6
                  unfold Oper.wp
                  simp [execOp, Act.eval, e68, e66, go_sem, z0, zf, Oper.upon]
                  exact hK'
                | n + 14, ho, hun, hdep, hK, hfl, hq => exact absurd hq (by omega)
              case fin1 =>
                intro g V2 hR
                have HF := hidX (hR.fi (by simp))
                simp only [putAll, Act.put, List.setIfInBounds_toArray, List.set_cons_zero, List.set_cons_succ]
                clear hR
                refine wl_nil8 (P := Try.prog) (ops := #[]) ?_
                obtain ⟨g6, c6, hd6⟩ : ∃ g6 c6, valG (P.length + 1) g.2 = .slice (some ⟨g6, 0, none⟩) (P.length + 1) c6 := ⟨_, _, rfl⟩
                rw [hd6] at HF
                have hfr := frB (j := 2) HF.out.1.d
                have d2 := at_block HF.out.1.d 2 vh rfl
                have h63 : Z.length + 1 ≤ maxLen := by unfold maxLen; omega
                have h47 : (Z.length + 1) * 8 ≤ 140737488355328 := by omega
                have q9 := bl1 V2 (.cells #[.int .i64 0] 3)
                have HF9 := hidX (HF.out.below q9)
                have hV2 : D < V2.heap.size := HF.out.1.lt
                rw [hd6]
                clear HE0 HEb KC hd6 q9
                go_wp2_with (first | (
                    at_builtin
                    refine wpList_append_lies _ rfl _ _ 37 rfl (w.heap.size + 1) 3 j0 (.int .i64 0) 1 8 Try.underlying37 ji jz0 jz1 jz2 rfl (by decide) _ _ _ rfl HF9.out.1.oz ⟨V2.heap.size, 0, none⟩ 1 1 [.int .i64 0] rfl rfl (news1 (by simp [go_sem])) (by intro u hu; simp at hu; subst hu; rfl) (by decide) h63 h47 (by have := HF9.out.1.base_le; exact this) _ rfl ?_
                    intro g4 cap4 w4 hown4 hgrow hat hlt4
                    have HZ := hidX (dwe_hop HF9.out hown4 hgrow hat)
                    obtain ⟨u2, uf⟩ := HZ.out.2
                    clear hgrow hat hown4 hlt4 h63 h47 hfr d2))
                go_wp2
                go_roundw
                case rel => refine ⟨f + 1, P ++ [(cutW px m, m)], Z ++ [0], _, _, Hfm.out, ?_, hidX ⟨by rw [HPZ.out.1, List.append_assoc]; show _ = P0 ++ (dcN px M f ++ _); rw [Hm.out, show ((M + f + 1 : Nat) : Int) = (M : Int) + 1 + (f : Int) by push_cast; omega], by rw [HPZ.out.2, List.append_assoc, List.replicate_succ']⟩, hidX HZ.out.1⟩; (rw [Hm.out]; first | (congr 1; done) | (congr 1; push_cast; done) | (congr 1; push_cast; omega) | (congr 1; omega) | (push_cast; done) | (push_cast; omega))
                case measure => simp [intOf, wm]; have := Hmm.out; have := Hm.out; omega
            · have hd2 : decide (m ≤ (nN : Int)) = false := decide_eq_false hlt2
              have hfe : f = nN - M := by omega
              obtain ⟨gh, ch, hvh⟩ : ∃ gh ch, vh = .slice (some ⟨gh, 0, none⟩) Z.length ch := by
                obtain ⟨g, c, e, -, -⟩ := HEr.out.1.oz.form (by rw [HPZ.out.2, List.length_append]; have := Hbd.out.2.2; omega)
                exact ⟨g, c, e⟩
              subst hvh
              have hZ1 : 1 ≤ Z.length := by rw [HPZ.out.2, List.length_append]; have := Hbd.out.2.2; omega
              obtain ⟨zj, hzj⟩ : ∃ zj, Z.length = zj + 1 := ⟨Z.length - 1, by omega⟩
              have HPZ2 : Hid (P = P0 ++ dcN px M (nN - M) ∧ Z.set zj ph = (Z0 ++ List.replicate (nN - M) 0).set (Z0.length + (nN - M) - 1) ph) := hidX (by
                have h1 := HPZ.out
                rw [hfe] at h1
                refine ⟨h1.1, ?_⟩
                have h2 : Z.length = Z0.length + (nN - M) := by rw [h1.2, List.length_append, List.length_replicate]
                rw [h1.2, show zj = Z0.length + (nN - M) - 1 by omega])
              have HZE := hidX (And.intro (HEr.out.1.setZ zj ph (by omega)) HEr.out)
              have Hzj := hidX hzj
              have hzi : (zj : Int) < (Z.length : Int) := by omega
              have hz0 : 0 ≤ (zj : Int) := by omega
              have wz : (Z.length : Int) - 1 = (zj : Int) := by omega
              have wz2 : IntKind.i64.wrap (zj : Int) = (zj : Int) := by rw [IntKind.wrap_i64]; omega
              have hki : (k : Int) < (l.length : Int) := by have := HkS.out; omega
              have hk00 : 0 ≤ (k : Int) := by omega
              clear hm hf hMn hn128 hfe hZ1 hzj
              go_wp2_with fail
              clear p2
              refine qp_region2 16 (qpOk 16 16 (by decide) (fun N => by kernel_rfl) (by kernel_rfl) (by kernel_rfl) (by kernel_rfl) (by kernel_rfl)) (C := fun A => DwE (w.heap.size + 1) D F (.slice (some ⟨b, off, none⟩) l.length c) P Z vp (.slice (some ⟨gh, 0, none⟩) Z.length ch) Pb px (nN : Int) w.heap.size w1 A) [some 78, some 79, some 80, some 81, some 82, some 83, some 84, some 85, some 86, some 87, some 88, some 89, some 90, some 91, some 92, some 93] [.pointer (some ⟨D, 0, none⟩), .pointer (some ⟨D, 0, none⟩), .pointer (some ⟨D, 2, none⟩), .slice (some ⟨gh, 0, none⟩) Z.length ch, .pointer (some ⟨D, 0, none⟩), .pointer (some ⟨D, 0, none⟩), .pointer (some ⟨D, 2, none⟩), .slice (some ⟨gh, 0, none⟩) Z.length ch, .int .i64 (Z.length : Int), .int .i64 (zj : Int), .pointer (some ⟨w.heap.size, 1, none⟩), .slice (some ⟨b, off, none⟩) l.length c, .int .i64 (k : Int), .pointer (some ⟨b, off + k * 4, none⟩), .pointer (some ⟨b, off + k * 4 + 3, none⟩), .int .i64 ph] (by kernel_rfl) (HEr.out.below (below_drewN (Below.refl _ _) 1)) ?walk1 ?fin1
              case walk1 =>
                dsimp only [List.take]
                refine q_run (v := .pointer (some ⟨D, 0, none⟩)) (by rfl) ?_ ?_
                · (intro w9 hC; have d2 := at_block hC.1.d 2 (.slice (some ⟨gh, 0, none⟩) Z.length ch) rfl; have t1 := at_block hC.2.2.1 1 (.slice (some ⟨b, off, none⟩) l.length c) rfl; have x3 := keepc (HB1.out.trans (hC.2.2.2.1.mono (Nat.le_succ _))) HX.out.2.2.2; clear hC; go_simp; first | done | (simp; done) | (simp [*]; done) | omega | (simp; omega) | (rw [IntKind.wrap_i64]; omega) | (intro hx; omega) | rfl)
                simp only [Act.put, List.setIfInBounds_toArray, List.set_cons_zero, List.set_cons_succ]
                refine q_run (v := .pointer (some ⟨D, 0, none⟩)) (by rfl) ?_ ?_
                · (intro w9 hC; have d2 := at_block hC.1.d 2 (.slice (some ⟨gh, 0, none⟩) Z.length ch) rfl; have t1 := at_block hC.2.2.1 1 (.slice (some ⟨b, off, none⟩) l.length c) rfl; have x3 := keepc (HB1.out.trans (hC.2.2.2.1.mono (Nat.le_succ _))) HX.out.2.2.2; clear hC; go_simp; first | done | (simp; done) | (simp [*]; done) | omega | (simp; omega) | (rw [IntKind.wrap_i64]; omega) | (intro hx; omega) | rfl)
                simp only [Act.put, List.setIfInBounds_toArray, List.set_cons_zero, List.set_cons_succ]
                refine q_run (v := .pointer (some ⟨D, 2, none⟩)) (by rfl) ?_ ?_
                · (intro w9 hC; have d2 := at_block hC.1.d 2 (.slice (some ⟨gh, 0, none⟩) Z.length ch) rfl; have t1 := at_block hC.2.2.1 1 (.slice (some ⟨b, off, none⟩) l.length c) rfl; have x3 := keepc (HB1.out.trans (hC.2.2.2.1.mono (Nat.le_succ _))) HX.out.2.2.2; clear hC; go_simp; first | done | (simp; done) | (simp [*]; done) | omega | (simp; omega) | (rw [IntKind.wrap_i64]; omega) | (intro hx; omega) | rfl)
                simp only [Act.put, List.setIfInBounds_toArray, List.set_cons_zero, List.set_cons_succ]
                refine q_run (v := .slice (some ⟨gh, 0, none⟩) Z.length ch) (by rfl) ?_ ?_
                · (intro w9 hC; have d2 := at_block hC.1.d 2 (.slice (some ⟨gh, 0, none⟩) Z.length ch) rfl; have t1 := at_block hC.2.2.1 1 (.slice (some ⟨b, off, none⟩) l.length c) rfl; have x3 := keepc (HB1.out.trans (hC.2.2.2.1.mono (Nat.le_succ _))) HX.out.2.2.2; clear hC; go_simp; first | done | (simp; done) | (simp [*]; done) | omega | (simp; omega) | (rw [IntKind.wrap_i64]; omega) | (intro hx; omega) | rfl)
                simp only [Act.put, List.setIfInBounds_toArray, List.set_cons_zero, List.set_cons_succ]
                refine q_run (v := .pointer (some ⟨D, 0, none⟩)) (by rfl) ?_ ?_
                · (intro w9 hC; have d2 := at_block hC.1.d 2 (.slice (some ⟨gh, 0, none⟩) Z.length ch) rfl; have t1 := at_block hC.2.2.1 1 (.slice (some ⟨b, off, none⟩) l.length c) rfl; have x3 := keepc (HB1.out.trans (hC.2.2.2.1.mono (Nat.le_succ _))) HX.out.2.2.2; clear hC; go_simp; first | done | (simp; done) | (simp [*]; done) | omega | (simp; omega) | (rw [IntKind.wrap_i64]; omega) | (intro hx; omega) | rfl)
                simp only [Act.put, List.setIfInBounds_toArray, List.set_cons_zero, List.set_cons_succ]
                refine q_run (v := .pointer (some ⟨D, 0, none⟩)) (by rfl) ?_ ?_
                · (intro w9 hC; have d2 := at_block hC.1.d 2 (.slice (some ⟨gh, 0, none⟩) Z.length ch) rfl; have t1 := at_block hC.2.2.1 1 (.slice (some ⟨b, off, none⟩) l.length c) rfl; have x3 := keepc (HB1.out.trans (hC.2.2.2.1.mono (Nat.le_succ _))) HX.out.2.2.2; clear hC; go_simp; first | done | (simp; done) | (simp [*]; done) | omega | (simp; omega) | (rw [IntKind.wrap_i64]; omega) | (intro hx; omega) | rfl)
                simp only [Act.put, List.setIfInBounds_toArray, List.set_cons_zero, List.set_cons_succ]
                refine q_run (v := .pointer (some ⟨D, 2, none⟩)) (by rfl) ?_ ?_
                · (intro w9 hC; have d2 := at_block hC.1.d 2 (.slice (some ⟨gh, 0, none⟩) Z.length ch) rfl; have t1 := at_block hC.2.2.1 1 (.slice (some ⟨b, off, none⟩) l.length c) rfl; have x3 := keepc (HB1.out.trans (hC.2.2.2.1.mono (Nat.le_succ _))) HX.out.2.2.2; clear hC; go_simp; first | done | (simp; done) | (simp [*]; done) | omega | (simp; omega) | (rw [IntKind.wrap_i64]; omega) | (intro hx; omega) | rfl)
                simp only [Act.put, List.setIfInBounds_toArray, List.set_cons_zero, List.set_cons_succ]
                refine q_run (v := .slice (some ⟨gh, 0, none⟩) Z.length ch) (by rfl) ?_ ?_
                · (intro w9 hC; have d2 := at_block hC.1.d 2 (.slice (some ⟨gh, 0, none⟩) Z.length ch) rfl; have t1 := at_block hC.2.2.1 1 (.slice (some ⟨b, off, none⟩) l.length c) rfl; have x3 := keepc (HB1.out.trans (hC.2.2.2.1.mono (Nat.le_succ _))) HX.out.2.2.2; clear hC; go_simp; first | done | (simp; done) | (simp [*]; done) | omega | (simp; omega) | (rw [IntKind.wrap_i64]; omega) | (intro hx; omega) | rfl)
                simp only [Act.put, List.setIfInBounds_toArray, List.set_cons_zero, List.set_cons_succ]
                refine q_run (v := .int .i64 (Z.length : Int)) (by rfl) ?_ ?_
                · (intro w9 hC; have d2 := at_block hC.1.d 2 (.slice (some ⟨gh, 0, none⟩) Z.length ch) rfl; have t1 := at_block hC.2.2.1 1 (.slice (some ⟨b, off, none⟩) l.length c) rfl; have x3 := keepc (HB1.out.trans (hC.2.2.2.1.mono (Nat.le_succ _))) HX.out.2.2.2; clear hC; go_simp; first | done | (simp; done) | (simp [*]; done) | omega | (simp; omega) | (rw [IntKind.wrap_i64]; omega) | (intro hx; omega) | rfl)
                simp only [Act.put, List.setIfInBounds_toArray, List.set_cons_zero, List.set_cons_succ]
                refine q_run (v := .int .i64 (zj : Int)) (by rfl) ?_ ?_
                · (intro w9 hC; have d2 := at_block hC.1.d 2 (.slice (some ⟨gh, 0, none⟩) Z.length ch) rfl; have t1 := at_block hC.2.2.1 1 (.slice (some ⟨b, off, none⟩) l.length c) rfl; have x3 := keepc (HB1.out.trans (hC.2.2.2.1.mono (Nat.le_succ _))) HX.out.2.2.2; clear hC; go_simp; first | done | (simp; done) | (simp [*]; done) | omega | (simp; omega) | (rw [IntKind.wrap_i64]; omega) | (intro hx; omega) | rfl)
                simp only [Act.put, List.setIfInBounds_toArray, List.set_cons_zero, List.set_cons_succ]
                refine q_run (v := .pointer (some ⟨w.heap.size, 1, none⟩)) (by rfl) ?_ ?_
                · (intro w9 hC; have d2 := at_block hC.1.d 2 (.slice (some ⟨gh, 0, none⟩) Z.length ch) rfl; have t1 := at_block hC.2.2.1 1 (.slice (some ⟨b, off, none⟩) l.length c) rfl; have x3 := keepc (HB1.out.trans (hC.2.2.2.1.mono (Nat.le_succ _))) HX.out.2.2.2; clear hC; go_simp; first | done | (simp; done) | (simp [*]; done) | omega | (simp; omega) | (rw [IntKind.wrap_i64]; omega) | (intro hx; omega) | rfl)
                simp only [Act.put, List.setIfInBounds_toArray, List.set_cons_zero, List.set_cons_succ]
                refine q_run (v := .slice (some ⟨b, off, none⟩) l.length c) (by rfl) ?_ ?_
                · (intro w9 hC; have d2 := at_block hC.1.d 2 (.slice (some ⟨gh, 0, none⟩) Z.length ch) rfl; have t1 := at_block hC.2.2.1 1 (.slice (some ⟨b, off, none⟩) l.length c) rfl; have x3 := keepc (HB1.out.trans (hC.2.2.2.1.mono (Nat.le_succ _))) HX.out.2.2.2; clear hC; go_simp; first | done | (simp; done) | (simp [*]; done) | omega | (simp; omega) | (rw [IntKind.wrap_i64]; omega) | (intro hx; omega) | rfl)
                simp only [Act.put, List.setIfInBounds_toArray, List.set_cons_zero, List.set_cons_succ]
                refine q_run (v := .int .i64 (k : Int)) (by rfl) ?_ ?_
                · (intro w9 hC; have d2 := at_block hC.1.d 2 (.slice (some ⟨gh, 0, none⟩) Z.length ch) rfl; have t1 := at_block hC.2.2.1 1 (.slice (some ⟨b, off, none⟩) l.length c) rfl; have x3 := keepc (HB1.out.trans (hC.2.2.2.1.mono (Nat.le_succ _))) HX.out.2.2.2; clear hC; go_simp; first | done | (simp; done) | (simp [*]; done) | omega | (simp; omega) | (rw [IntKind.wrap_i64]; omega) | (intro hx; omega) | rfl)
                simp only [Act.put, List.setIfInBounds_toArray, List.set_cons_zero, List.set_cons_succ]
                refine q_run (v := .pointer (some ⟨b, off + k * 4, none⟩)) (by rfl) ?_ ?_
                · (intro w9 hC; have d2 := at_block hC.1.d 2 (.slice (some ⟨gh, 0, none⟩) Z.length ch) rfl; have t1 := at_block hC.2.2.1 1 (.slice (some ⟨b, off, none⟩) l.length c) rfl; have x3 := keepc (HB1.out.trans (hC.2.2.2.1.mono (Nat.le_succ _))) HX.out.2.2.2; clear hC; go_simp; first | done | (simp; done) | (simp [*]; done) | omega | (simp; omega) | (rw [IntKind.wrap_i64]; omega) | (intro hx; omega) | rfl)
                simp only [Act.put, List.setIfInBounds_toArray, List.set_cons_zero, List.set_cons_succ]
                refine q_run (v := .pointer (some ⟨b, off + k * 4 + 3, none⟩)) (by rfl) ?_ ?_
                · (intro w9 hC; have d2 := at_block hC.1.d 2 (.slice (some ⟨gh, 0, none⟩) Z.length ch) rfl; have t1 := at_block hC.2.2.1 1 (.slice (some ⟨b, off, none⟩) l.length c) rfl; have x3 := keepc (HB1.out.trans (hC.2.2.2.1.mono (Nat.le_succ _))) HX.out.2.2.2; clear hC; go_simp; first | done | (simp; done) | (simp [*]; done) | omega | (simp; omega) | (rw [IntKind.wrap_i64]; omega) | (intro hx; omega) | rfl)
                simp only [Act.put, List.setIfInBounds_toArray, List.set_cons_zero, List.set_cons_succ]
                refine q_run (v := .int .i64 ph) (by rfl) ?_ ?_
                · (intro w9 hC; have d2 := at_block hC.1.d 2 (.slice (some ⟨gh, 0, none⟩) Z.length ch) rfl; have t1 := at_block hC.2.2.1 1 (.slice (some ⟨b, off, none⟩) l.length c) rfl; have x3 := keepc (HB1.out.trans (hC.2.2.2.1.mono (Nat.le_succ _))) HX.out.2.2.2; clear hC; go_simp; first | done | (simp; done) | (simp [*]; done) | omega | (simp; omega) | (rw [IntKind.wrap_i64]; omega) | (intro hx; omega) | rfl)
                simp only [Act.put, List.setIfInBounds_toArray, List.set_cons_zero, List.set_cons_succ]
                refine wpQuiet_nil ?_
                simp only [putAll, Act.put, List.setIfInBounds_toArray, List.set_cons_zero, List.set_cons_succ]
              case fin1 =>
                intro W hC
                simp only [putAll, Act.put, List.setIfInBounds_toArray, List.set_cons_zero, List.set_cons_succ]
                dsimp only [List.drop]
                obtain ⟨zc, zf⟩ := cells8 hC.1.oz (rowZ_get Z zj (by have := Hzj.out; omega))
                have HK9 := hidX (hC.1.setZ zj ph (by have := Hzj.out; omega))
                have hTg : w.heap.size ≠ gh := fun e => by have := (hC.1.oz.lt gh rfl).1; omega
                have HT9 := hidX ((setB (W := W) (o := zj) (.int .i64 ph) hTg).trans hC.2.2.1)
                have HB9 := hidX (hC.2.2.2.1.setCell (p := ⟨gh, zj, none⟩) (hC.1.oz.lt gh rfl).1 (.int .i64 ph))
                clear hC HEr HZE
                go_wp2
                go_roundw
                case rel => exact ⟨k + 1, (px, (nN : Int)), grT s last ((px, (nN : Int)), ph), P, Z.set zj ph, vp, _, by have := HkS.out; omega, rfl, HE2, HG2, hidX ⟨HLa2.out, fun h => by omega⟩, hidX (by rw [HPZ2.out.1, HPZ2.out.2]; exact HD2.out), HK9, HT9, HB9⟩
                case measure => simp [intOf]; have := HkS.out; omega
      · have hke : k = l.length := by omega
        have hd : decide ((k : Int) < (l.length : Int)) = false := decide_eq_false hlt
        have HE9 : Hid (s = grwG l (0#128, 0) grO) := hidX (by rw [← HE.out, hke, List.drop_length]; rfl)
        have HG9 : Hid (Gs l last s) := hidX (by have := HG.out; rwa [hke, List.take_length] at this)
        have HB9 := hidX (HB1.out.trans (HB.out.mono (Nat.le_succ _)))
        clear hke HE HG HLa HT
        go_wp2
        exact bodyPost_ret (v := .tuple #[.pointer (some ⟨D, 0, none⟩), .int .i64 0]) (by simp [results, Try.results23, go_sem]) rfl ⟨⟨0, Hz.out, .inr ⟨rfl, D, last, s, P0, Z0, vp0, vh0, rfl, HE9.out, HG9.out, HDc.out, HK.out⟩⟩, HB9.out⟩
  · have Hn := hidX h0
    go_wp2
    exact bodyPost_ret (v := .tuple #[.pointer none, .int .i64 z]) (by simp [results, Try.results23, go_sem]) rfl ⟨⟨z, Hz.out, .inl ⟨Hn.out, rfl⟩⟩, HB1.out⟩
end Go.Proofs.Ytofpbommhklooaa
