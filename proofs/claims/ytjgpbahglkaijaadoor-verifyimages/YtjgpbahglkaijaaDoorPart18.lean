/-
  Part 18 of the proof: 17 texts, one behind the other.
-/
import Derived.Test.YtjgpbahglkaijaaDoorPart17
import Derived.Test.YtjgpbahglkaijaaDoorPart5
import Derived.Test.YtjgpbahglkaijaaDoorPart10
import Derived.Test.YtjgpbahglkaijaaDoorPart1
import Derived.Test.YtjgpbahglkaijaaDoorPart2
import Derived.Test.YtjgpbahglkaijaaDoorPart4
namespace Go.Proofs.YtjgpbahglkaijaaDoor
open Go.RowKit Go.Shelf
set_option linter.unusedSimpArgs false
set_option linter.unusedVariables false
attribute [local go_sem] Oper.semAt_some

def cBo (b : Bool) : Value := .bool b
structure UsV (w : World) (N : Nat) (s : List Bool × Nat) (W : World) : Prop where
  g : W.heap[w.heap.size]? = some (.cells (s.1.map cBo).toArray 4)
  u : W.heap[w.heap.size + 1]? = some (.cells #[.slice (some ⟨w.heap.size, 0, none⟩) N N] 87)
  c : W.heap[w.heap.size + 1 + 1]? = some (.cells #[.int .i64 (s.2 : Int)] 3)
  b : Below w.heap.size w W
  l : s.1.length = N
section
variable {w W W' : World} {N : Nat} {s : List Bool × Nat}
theorem UsV.below (h : UsV w N s W) (hb : Below W.heap.size W W') : UsV w N s W' := ⟨(hb.block _ (lt_16 h.g)).trans h.g, (hb.block _ (lt_16 h.u)).trans h.u, (hb.block _ (lt_16 h.c)).trans h.c, keepb hb h.b, h.l⟩
theorem UsV.kept {row : Option Nat} (h : UsV w N s W) (hg : W.grownBy W' row) (hr : ∀ r, row = some r → w.heap.size ≤ r ∧ ∃ o : Obj, W.heap[r]? = some o ∧ o.isCells = false) : UsV w N s W' :=
  ⟨blk_16 hg (fun r e => (hr r e).2) h.g, blk_16 hg (fun r e => (hr r e).2) h.u, blk_16 hg (fun r e => (hr r e).2) h.c, h.b.grown hg h.b.size (fun r e => (hr r e).1), h.l⟩
theorem map_set16 (l : List Bool) (k : Nat) (b : Bool) : (l.map cBo).toArray.setIfInBounds k (.bool b) = ((l.set k b).map cBo).toArray := by
  rw [List.setIfInBounds_toArray, List.map_set]; rfl
theorem UsV.put (h : UsV w N s W) (k : Nat) : UsV w N (s.1.set k true, s.2) (W.setCell ⟨w.heap.size, k, none⟩ (.bool true)) := by
  refine ⟨?_, (far_16 (by omega)).trans h.u, (far_16 (by omega)).trans h.c, h.b.setCell (p := ⟨w.heap.size, k, none⟩) (Nat.le_refl _) _, by simp [h.l]⟩
  rw [set_16 h.g, map_set16]
theorem UsV.cell (h : UsV w N s W) {k : Nat} (hk : k < N) : W.cell? ⟨w.heap.size, k, none⟩ = some (.bool (s.1.getD k false)) := by
  refine at_16 h.g k _ ?_
  rw [List.getElem?_toArray, List.getElem?_map, List.getElem?_eq_getElem (by rw [h.l]; exact hk), List.getD_eq_getElem?_getD, List.getElem?_eq_getElem (by rw [h.l]; exact hk)]
  rfl
end
end Go.Proofs.YtjgpbahglkaijaaDoor
namespace Go.Proofs.YtjgpbahglkaijaaDoor
open Go.RowKit Go.Shelf
set_option linter.unusedSimpArgs false
set_option linter.unusedVariables false
attribute [local go_sem] Oper.semAt_some

abbrev Prs := List (Int × Int)
def upR (b m : Int) (P : Prs) (k : Int) : Prs := P.set k.toNat (max (P.getD k.toNat (0, 0)).1 b, max (P.getD k.toNat (0, 0)).2 m)
def InP (N i : Nat) (P : Prs) : Prop := P.length = N ∧ ∀ p ∈ P, 0 ≤ p.1 ∧ p.1 ≤ 128 ∧ 0 ≤ p.2 ∧ p.2 ≤ i
theorem InP.at {N i : Nat} {P : Prs} (h : InP N i P) (k : Nat) : 0 ≤ (P.getD k (0, 0)).1 ∧ (P.getD k (0, 0)).1 ≤ 128 ∧ 0 ≤ (P.getD k (0, 0)).2 ∧ (P.getD k (0, 0)).2 ≤ i := by
  rw [List.getD_eq_getElem?_getD]
  cases hk : P[k]? with
  | none => simp
  | some p => exact h.2 p (List.mem_of_getElem? hk)
theorem InP.up {N i : Nat} {P : Prs} (h : InP N i P) (b m : Int) (hb0 : 0 ≤ b) (hb : b ≤ 128) (hm0 : 0 ≤ m) (hm : m ≤ i) (k : Int) : InP N i (upR b m P k) := by
  unfold upR
  refine ⟨by simp [h.1], fun p hp => ?_⟩
  rcases List.mem_or_eq_of_mem_set hp with q | rfl
  · exact h.2 p q
  · have := h.at k.toNat
    dsimp only
    omega
theorem InP.ups {N i : Nat} (b m : Int) (hb0 : 0 ≤ b) (hb : b ≤ 128) (hm0 : 0 ≤ m) (hm : m ≤ i) : ∀ (ks : List Int) {P : Prs}, InP N i P → InP N i (ks.foldl (upR b m) P)
  | [], _, h => h
  | k :: ks, _, h => InP.ups b m hb0 hb hm0 hm ks (h.up b m hb0 hb hm0 hm k)
theorem InP.more {N i j : Nat} {P : Prs} (h : InP N i P) (hij : i ≤ j) : InP N j P := ⟨h.1, fun p hp => by have := h.2 p hp; omega⟩
section
variable {w W W' : World} {N : Nat} {P : Prs}
end
end Go.Proofs.YtjgpbahglkaijaaDoor
namespace Go.Proofs.YtjgpbahglkaijaaDoor
open Go.RowKit
set_option linter.unusedSimpArgs false
set_option linter.unusedVariables false

end Go.Proofs.YtjgpbahglkaijaaDoor
namespace Go.Proofs.YtjgpbahglkaijaaDoor
open Go.RowKit
set_option linter.unusedSimpArgs false
set_option linter.unusedVariables false

def ocB (b : Nat) : Nat := b % 2 + b / 2 % 2 + b / 4 % 2 + b / 8 % 2 + b / 16 % 2 + b / 32 % 2 + b / 64 % 2 + b / 128 % 2
def bm (f : Nat → Nat) : Nat → Nat → Nat
  | 0, _ => 0
  | k + 1, x => f (x % 256) + 256 * bm f k (x / 256)
def mm (m : Nat) : Nat → Nat
  | 0 => 0
  | k + 1 => m + 256 * mm m k
def f1 (b : Nat) : Nat := ((b / 2) &&& 85) + (b &&& 85)
def f2 (b : Nat) : Nat := ((b / 4) &&& 51) + (b &&& 51)
theorem and_split (a m M : Nat) (hm : m < 256) : a &&& (m + 256 * M) = ((a % 256) &&& m) + 256 * ((a / 256) &&& M) := by
  have h1 : (a &&& (m + 256 * M)) % 2 ^ 8 = (a % 2 ^ 8) &&& ((m + 256 * M) % 2 ^ 8) := Nat.and_mod_two_pow
  have h2 : (a &&& (m + 256 * M)) / 2 ^ 8 = (a / 2 ^ 8) &&& ((m + 256 * M) / 2 ^ 8) := Nat.and_div_two_pow
  have e1 : (m + 256 * M) % 2 ^ 8 = m := by omega
  have e2 : (m + 256 * M) / 2 ^ 8 = M := by omega
  rw [e1] at h1
  rw [e2] at h2
  have e3 : (2 : Nat) ^ 8 = 256 := by decide
  rw [e3] at h1 h2
  have := Nat.div_add_mod (a &&& (m + 256 * M)) 256
  omega
set_option maxRecDepth 100000 in
theorem b1 : ∀ b : Fin 256, ∀ c : Fin 2, (b.val / 2 + 128 * c.val) &&& 85 = (b.val / 2) &&& 85 := by decide +kernel
theorem b2 : ∀ b : Fin 256, ∀ c : Fin 4, (b.val / 4 + 64 * c.val) &&& 51 = (b.val / 4) &&& 51 := by decide +kernel
theorem b3 : ∀ b : Fin 256, ∀ c : Fin 5, (f2 (f1 b.val) / 16 + 16 * c.val + f2 (f1 b.val)) &&& 15 = ocB b.val := by decide +kernel
theorem b4 : ∀ b : Fin 256, f1 b.val < 256 ∧ f2 (f1 b.val) % 16 ≤ 4 ∧ f2 (f1 b.val) / 16 ≤ 4 ∧ ocB b.val ≤ 8 ∧ ocB (255 - b.val) + ocB b.val = 8 := by decide +kernel
theorem l1 (k : Nat) : ∀ x, ((x / 2) &&& mm 85 k) + (x &&& mm 85 k) = bm f1 k x := by
  induction k with
  | zero => intro x; simp [mm, bm]
  | succ k ih =>
    intro x
    simp only [mm, bm]
    rw [and_split _ 85 _ (by decide), and_split _ 85 _ (by decide)]
    have e1 : (x / 2) % 256 = (x % 256) / 2 + 128 * (x / 256 % 2) := by omega
    have e2 : x / 2 / 256 = x / 256 / 2 := by omega
    have hb := b1 ⟨x % 256, by omega⟩ ⟨x / 256 % 2, by omega⟩
    have := ih (x / 256)
    rw [e1, e2]
    simp only at hb
    rw [hb]
    have hf : f1 (x % 256) = ((x % 256 / 2) &&& 85) + ((x % 256) &&& 85) := rfl
    omega
theorem l2 (k : Nat) : ∀ x, ((x / 4) &&& mm 51 k) + (x &&& mm 51 k) = bm f2 k x := by
  induction k with
  | zero => intro x; simp [mm, bm]
  | succ k ih =>
    intro x
    simp only [mm, bm]
    rw [and_split _ 51 _ (by decide), and_split _ 51 _ (by decide)]
    have e1 : (x / 4) % 256 = (x % 256) / 4 + 64 * (x / 256 % 4) := by omega
    have e2 : x / 4 / 256 = x / 256 / 4 := by omega
    have hb := b2 ⟨x % 256, by omega⟩ ⟨x / 256 % 4, by omega⟩
    have := ih (x / 256)
    rw [e1, e2]
    simp only at hb
    rw [hb]
    have hf : f2 (x % 256) = ((x % 256 / 4) &&& 51) + ((x % 256) &&& 51) := rfl
    omega
theorem bm_bm (k : Nat) : ∀ x, bm f2 k (bm f1 k x) = bm (fun b => f2 (f1 b)) k x := by
  induction k with
  | zero => intro x; rfl
  | succ k ih =>
    intro x
    have h := (b4 ⟨x % 256, by omega⟩).1
    simp only at h
    simp only [bm]
    have e1 : (f1 (x % 256) + 256 * bm f1 k (x / 256)) % 256 = f1 (x % 256) := by omega
    have e2 : (f1 (x % 256) + 256 * bm f1 k (x / 256)) / 256 = bm f1 k (x / 256) := by omega
    rw [e1, e2, ih]
theorem bm_mod (k : Nat) (x : Nat) : bm (fun b => f2 (f1 b)) k x % 16 ≤ 4 := by
  cases k with
  | zero => simp [bm]
  | succ k =>
    have h := (b4 ⟨x % 256, by omega⟩).2.1
    simp only at h
    simp only [bm]; omega
theorem l3 (k : Nat) : ∀ x, (bm (fun b => f2 (f1 b)) k x / 16 + bm (fun b => f2 (f1 b)) k x) &&& mm 15 k = bm ocB k x := by
  induction k with
  | zero => intro x; simp [mm, bm]
  | succ k ih =>
    intro x
    simp only [mm]
    rw [and_split _ 15 _ (by decide)]
    have hm := bm_mod k (x / 256)
    have h := (b4 ⟨x % 256, by omega⟩).2.1
    have h' := (b4 ⟨x % 256, by omega⟩).2.2.1
    have hb := b3 ⟨x % 256, by omega⟩ ⟨bm (fun b => f2 (f1 b)) k (x / 256) % 16, by omega⟩
    have := ih (x / 256)
    simp only [bm] at *
    generalize bm (fun b => f2 (f1 b)) k (x / 256) = y at *
    generalize f2 (f1 (x % 256)) = g at *
    have e1 : ((g + 256 * y) / 16 + (g + 256 * y)) % 256 = g / 16 + 16 * (y % 16) + g := by omega
    have e2 : ((g + 256 * y) / 16 + (g + 256 * y)) / 256 = y / 16 + y := by omega
    rw [e1, e2, hb, this]
theorem key (n a B z : Nat) (h : a < n) (e : z = a + n * B) : z / n = B := by
  rw [e, Nat.add_mul_div_left _ _ (by omega), Nat.div_eq_of_lt h]; omega
end Go.Proofs.YtjgpbahglkaijaaDoor
namespace Go.Proofs.YtjgpbahglkaijaaDoor
open Go.RowKit
set_option linter.unusedSimpArgs false
set_option linter.unusedVariables false

theorem wrapu_nat (n : Nat) (h : n < 18446744073709551616) : IntKind.u64.wrap (n : Int) = (n : Int) := wrap_nat n h
theorem m85 : mm 85 8 = 6148914691236517205 := by decide
theorem m51 : mm 51 8 = 3689348814741910323 := by decide
theorem m15 : mm 15 8 = 1085102592571150095 := by decide
theorem bm_lt (f : Nat → Nat) (hf : ∀ b : Fin 256, f b.val < 256) (k : Nat) : ∀ x, bm f k x < 256 ^ k := by
  induction k with
  | zero => intro x; simp [bm]
  | succ k ih =>
    intro x; have := ih (x / 256); have h := hf ⟨x % 256, by omega⟩; simp only at h
    simp only [bm]; rw [Nat.pow_succ]; omega
theorem bm1_lt (x : Nat) : bm f1 8 x < 18446744073709551616 := bm_lt f1 (fun b => (b4 b).1) 8 x
theorem bm2_lt (x : Nat) : bm (fun b => f2 (f1 b)) 8 x < 4 * 256 ^ 8 / 8 := by
  have h : ∀ k x, bm (fun b => f2 (f1 b)) k x ≤ 68 * mm 1 k := by
    intro k; induction k with
    | zero => intro x; simp [bm, mm]
    | succ k ih =>
      intro x; have := ih (x / 256); have h1 := (b4 ⟨x % 256, by omega⟩).2.1; have h2 := (b4 ⟨x % 256, by omega⟩).2.2.1; simp only at h1 h2
      simp only [bm, mm]; omega
  have := h 8 x
  have e : mm 1 8 = 72340172838076673 := by decide
  rw [e] at this; omega
theorem s1 (x : Nat) (h : x < 18446744073709551616) : IntKind.u64.wrap (bits .and .u64 ((x : Int) / 2) 6148914691236517205 + bits .and .u64 (x : Int) 6148914691236517205) = ((bm f1 8 x : Nat) : Int) := by
  have e : ((x : Int) / 2) = ((x / 2 : Nat) : Int) := by omega
  have a1 : bits .and .u64 ((x / 2 : Nat) : Int) 6148914691236517205 = ((x / 2 &&& 6148914691236517205 : Nat) : Int) := bits_and_u64_nat (x / 2) 6148914691236517205 (by omega) (by decide)
  have a2 : bits .and .u64 (x : Int) 6148914691236517205 = ((x &&& 6148914691236517205 : Nat) : Int) := bits_and_u64_nat x 6148914691236517205 h (by decide)
  have l := l1 8 x
  rw [m85] at l
  rw [e, a1, a2, ← Int.natCast_add, l]
  exact wrapu_nat _ (bm1_lt x)
theorem s2 (x : Nat) : IntKind.u64.wrap (bits .and .u64 (((bm f1 8 x : Nat) : Int) / 4) 3689348814741910323 + bits .and .u64 ((bm f1 8 x : Nat) : Int) 3689348814741910323) = ((bm (fun b => f2 (f1 b)) 8 x : Nat) : Int) := by
  have h := bm1_lt x
  have e : (((bm f1 8 x : Nat) : Int) / 4) = ((bm f1 8 x / 4 : Nat) : Int) := by omega
  have a1 : bits .and .u64 ((bm f1 8 x / 4 : Nat) : Int) 3689348814741910323 = ((bm f1 8 x / 4 &&& 3689348814741910323 : Nat) : Int) := bits_and_u64_nat (bm f1 8 x / 4) 3689348814741910323 (by omega) (by decide)
  have a2 : bits .and .u64 ((bm f1 8 x : Nat) : Int) 3689348814741910323 = ((bm f1 8 x &&& 3689348814741910323 : Nat) : Int) := bits_and_u64_nat (bm f1 8 x) 3689348814741910323 h (by decide)
  have l := l2 8 (bm f1 8 x)
  rw [m51, bm_bm] at l
  rw [e, a1, a2, ← Int.natCast_add, l]
  have := bm2_lt x
  exact wrapu_nat _ (by omega)
theorem s3 (x : Nat) : bits .and .u64 (IntKind.u64.wrap (((bm (fun b => f2 (f1 b)) 8 x : Nat) : Int) / 16 + ((bm (fun b => f2 (f1 b)) 8 x : Nat) : Int))) 1085102592571150095 = ((bm ocB 8 x : Nat) : Int) := by
  have h := bm2_lt x
  have l := l3 8 x
  rw [m15] at l
  generalize bm (fun b => f2 (f1 b)) 8 x = y at *
  have e : ((y : Int) / 16 + (y : Int)) = ((y / 16 + y : Nat) : Int) := by omega
  have a1 : bits .and .u64 ((y / 16 + y : Nat) : Int) 1085102592571150095 = (((y / 16 + y) &&& 1085102592571150095 : Nat) : Int) := bits_and_u64_nat (y / 16 + y) 1085102592571150095 (by omega) (by decide)
  rw [e, wrapu_nat _ (by omega), a1, l]

end Go.Proofs.YtjgpbahglkaijaaDoor
namespace Go.Proofs.YtjgpbahglkaijaaDoor
open Go.RowKit
set_option linter.unusedSimpArgs false
set_option linter.unusedVariables false

end Go.Proofs.YtjgpbahglkaijaaDoor
namespace Go.Proofs.YtjgpbahglkaijaaDoor
open Go.RowKit
set_option linter.unusedSimpArgs false
set_option linter.unusedVariables false

end Go.Proofs.YtjgpbahglkaijaaDoor
namespace Go.Proofs.YtjgpbahglkaijaaDoor
open Go.RowKit
set_option linter.unusedSimpArgs false
set_option linter.unusedVariables false
attribute [local go_sem] Oper.semAt_some

structure NdOk (d : Nde) (i N : Int) : Prop where
  b0 : 0 ≤ d.b
  b1 : d.b ≤ 128
  bz : d.b = 0 → N ≤ 1
  io : ioB d = true
  hop : ∀ r ∈ d.r, r.k = false → 0 ≤ r.n ∧ r.n ≤ 65535
  kid : ∀ r ∈ d.r, r.k = true → i < r.n ∧ r.n < N
def NdsOk (L : List Nde) : Prop := 0 < L.length ∧ ∀ (k : Nat) (d : Nde), L[k]? = some d → NdOk d k L.length
theorem NdsOk.bits {L : List Nde} (h : NdsOk L) : ∀ d ∈ L, 0 ≤ d.b ∧ d.b ≤ 128 := fun d hd => by
  obtain ⟨k, hk⟩ := List.getElem?_of_mem hd
  exact ⟨(h.2 k d hk).b0, (h.2 k d hk).b1⟩
end Go.Proofs.YtjgpbahglkaijaaDoor
namespace Go.Proofs.YtjgpbahglkaijaaDoor
open Go.RowKit Go.Shelf
set_option linter.unusedSimpArgs false
set_option linter.unusedVariables false
attribute [local go_sem] Oper.semAt_some

abbrev DfS := List Bool × List Int
end Go.Proofs.YtjgpbahglkaijaaDoor
namespace Go.Proofs.YtjgpbahglkaijaaDoor
open Go.RowKit Go.Shelf
set_option linter.unusedSimpArgs false
set_option linter.unusedVariables false
attribute [local go_sem] Oper.semAt_some

section
variable {w W W' : World} {v : Value} {N : Nat} {s : DfS}
theorem own_far16 {W : World} {base e size n : Nat} {v : Value} {xs : List Value} (h : W.ownsRow base e size v n xs) {B o : Nat} (u : Value) (hv : v.ownBlock ≠ some B) : (W.setCell ⟨B, o, none⟩ u).ownsRow base e size v n xs := by
  refine ⟨h.1, ?_⟩
  rcases h.2 with h1 | ⟨g, cap, cur, e, h1, h2, h3⟩
  · exact .inl h1
  · refine .inr ⟨g, cap, cur, e, h1, (far_16 ?_).trans h2, h3⟩
    rintro rfl
    exact hv (by rw [e]; rfl)
end
end Go.Proofs.YtjgpbahglkaijaaDoor
namespace Go.Proofs.YtjgpbahglkaijaaDoor
open Go.RowKit Go.Shelf
set_option linter.unusedSimpArgs false
set_option linter.unusedVariables false
attribute [local go_sem] Oper.semAt_some

theorem storeF_16 {P : Program} {w : World} {a : Addr} {m : Mode} (f : Fn) (x l : Array Value) : (store a (.func f x l) m).run P w = stored P w a (.func f x l) m := run_store P w a _ m rfl
attribute [local go_sem] storeF_16
end Go.Proofs.YtjgpbahglkaijaaDoor
namespace Go.Proofs.YtjgpbahglkaijaaDoor
open Go.RowKit Go.Shelf
set_option linter.unusedSimpArgs false
set_option linter.unusedVariables false
attribute [local go_sem] Oper.semAt_some

end Go.Proofs.YtjgpbahglkaijaaDoor
namespace Go.Proofs.YtjgpbahglkaijaaDoor
open Go.RowKit Go.Shelf
set_option linter.unusedSimpArgs false
set_option linter.unusedVariables false
attribute [local go_sem] Oper.semAt_some

end Go.Proofs.YtjgpbahglkaijaaDoor
namespace Go.Proofs.YtjgpbahglkaijaaDoor
open Go.RowKit Go.Shelf
set_option linter.unusedSimpArgs false
set_option linter.unusedVariables false
attribute [local go_sem] Oper.semAt_some

section
variable {w W W' : World} {vo : Value} {Bx Gp N n : Nat} {o P : List Int}
end
end Go.Proofs.YtjgpbahglkaijaaDoor
namespace Go.Proofs.YtjgpbahglkaijaaDoor
open Go.RowKit Go.Shelf
set_option linter.unusedSimpArgs false
set_option linter.unusedVariables false
attribute [local go_sem] Oper.semAt_some

structure DwV (w : World) (Gm : Nat) (v : Value) (s : DfS) (W : World) : Prop where
  gm : W.heap[Gm]? = some (.cells (s.1.map cBo).toArray 4)
  go : W.ownsRow w.heap.size 3 1 v s.2.length (s.2.map cI)
  b : Below w.heap.size w W
  gb : w.heap.size ≤ Gm
  ne : v.ownBlock ≠ some Gm
theorem own_ge16 {W : World} {base e size n : Nat} {v : Value} {xs : List Value} (h : W.ownsRow base e size v n xs) {z : Nat} (hz : v.ownBlock = some z) : base ≤ z := by
  rcases h.2 with h1 | ⟨g, cap, cur, e, h1, h2, h3⟩
  · rw [h1.1] at hz; cases hz
  · rw [e] at hz
    injection hz with hz
    subst hz
    exact h1
section
variable {w W W' : World} {Gm : Nat} {v : Value} {s : DfS}
theorem DwV.below (h : DwV w Gm v s W) (hb : Below W.heap.size W W') : DwV w Gm v s W' := ⟨(hb.block _ (lt_16 h.gm)).trans h.gm, own_b13 hb h.go, keepb hb h.b, h.gb, h.ne⟩
theorem DwV.cell (h : DwV w Gm v s W) {k : Nat} (hk : k < s.1.length) : W.cell? ⟨Gm, k, none⟩ = some (.bool (s.1.getD k false)) := by
  refine at_16 h.gm k _ ?_
  rw [List.getElem?_toArray, List.getElem?_map, List.getElem?_eq_getElem hk, List.getD_eq_getElem?_getD, List.getElem?_eq_getElem hk]
  rfl
theorem DwV.app (h : DwV w Gm v s W) {x : Int} {g cap : Nat} (ho : W'.ownsRow w.heap.size 3 1 (.slice (some ⟨g, 0, none⟩) (s.2.length + 1) cap) (s.2.length + 1) (s.2.map cI ++ [cI x])) (hg : W.grownBy W' v.ownBlock) (hat : v.ownBlock = some g ∨ g = W.heap.size) : DwV w Gm (.slice (some ⟨g, 0, none⟩) (s.2.length + 1) cap) (s.1, s.2 ++ [x]) W' := by
  refine ⟨(hg.block _ (lt_16 h.gm) (fun e => h.ne e.symm)).trans h.gm, ?_, h.b.grown hg h.b.size (fun r e => own_ge16 h.go e), h.gb, ?_⟩
  · simp only [List.length_append, List.map_append, List.length_cons, List.length_nil, List.map_cons, List.map_nil]
    exact ho
  · rcases hat with h1 | h1
    · show some g ≠ some Gm
      rw [← h1]; exact h.ne
    · have := lt_16 h.gm
      intro e
      have : g = Gm := Option.some.inj e
      omega
end
end Go.Proofs.YtjgpbahglkaijaaDoor
namespace Go.Proofs.YtjgpbahglkaijaaDoor
open Go.RowKit
set_option linter.unusedSimpArgs false
set_option linter.unusedVariables false

theorem rsum13 (v : Value) (l : List Nat) (w : World) (hv : RwX cB w v l) (hl : l.length ≤ 9223372036854775806) (hx : ∀ b ∈ l, b < 256) :
    Calls Tryd.prog 20 #[v] w fun e w' => e = .returned (.int .u32 (uI (crS l))) ∧ w' = w := by
  obtain ⟨ao, cc, rfl, hc, hv⟩ := hv
  have HV := hid13 hv
  have HX := hid13 hx
  have HL := hid13 hl
  clear hv hc hl hx
  go_enter Tryd.func20, Tryd.ntmps20
  go_wp2_with fail
  go_loopg [3, 4] l.length (fun g a i wr => wr = w ∧ ∃ (k : Nat) (C : BitVec 32), k + g = l.length ∧ a = .int .u32 (uI C) ∧ i = .int .i64 (k : Int) ∧ Hid (crF C (l.drop k) = crF (BitVec.allOnes 32) l))
  case atStart =>
    refine ⟨rfl, 0, BitVec.allOnes 32, by omega, ?_, rfl, rfl⟩
    exact congrArg (Value.int .u32) (by rw [uI_eq]; decide)
  case round =>
    obtain ⟨rfl, k, C, hk, rfl, rfl, HC⟩ := hrel
    by_cases hlt : k < l.length
    · have hli : (k : Int) < (l.length : Int) := by omega
      obtain ⟨bo, off, rfl, hcell⟩ : ∃ bo off, ao = some ⟨bo, off, none⟩ ∧ ∀ j x, l[j]? = some x → wr.cell? ⟨bo, off + j, none⟩ = some (cB x) := by
        rcases HV.out with h | h
        · rw [h] at hlt; simp at hlt
        · exact h
      obtain ⟨q, hq⟩ : ∃ q, q = l[k] := ⟨_, rfl⟩
      have hrd : wr.cell? ⟨bo, off + k, none⟩ = some (.int .u8 (q : Int)) := hcell k q (by rw [hq]; simp [hlt])
      have HE : Hid (crF (stp C q) (l.drop (k + 1)) = crF (BitVec.allOnes 32) l) := hid13 (by rw [hq, ← crF_at hlt]; exact HC.out)
      have KS := fun W => rstep13 C q (HX.out q (by rw [hq]; exact List.getElem_mem hlt)) W
      have mk : IntKind.i64.wrap ((k : Int) + 1) = (k : Int) + 1 := by have := HL.out; rw [IntKind.wrap_i64]; omega
      have HK : Hid (k + gk = l.length ∧ k < l.length) := ⟨hk, hlt⟩
      clear hq hcell HC hk hlt
      go_wp2_with (go_at_call 32; refine (KS _).mono ?_; rintro e w1 ⟨rfl, hw1⟩; replace hw1 := hw1.symm; subst hw1)
      go_roundg (gk - 1)
      case measure => have := HK.out; omega
      case rel => exact ⟨rfl, k + 1, _, by have := HK.out; omega, rfl, rfl, HE⟩
    · have hli : ¬ (k : Int) < (l.length : Int) := by omega
      have HE : Hid (~~~ C = crS l) := hid13 (by
        have := HC.out
        rw [List.drop_eq_nil_of_le (by omega), crF_nil] at this
        show ~~~ C = crS _
        unfold crS
        rw [this])
      have hn := notU C
      go_wp2_with fail
      go_ret
      exact ⟨congrArg Ending.returned (congrArg (Value.int .u32) (by first | exact congrArg uI HE.out | (rw [← HE.out]; exact hn))), rfl⟩
end Go.Proofs.YtjgpbahglkaijaaDoor
namespace Go.Proofs.YtjgpbahglkaijaaDoor
open Go.RowKit
set_option linter.unusedSimpArgs false
set_option linter.unusedVariables false

def cG (q : Nat × List Nat) : Value := .slice (some ⟨q.1, 0, none⟩) q.2.length (q.2.length + 9)
structure SM (w W : World) (va vm : Value) (A : List Nat) (G : List (Nat × List Nat)) : Prop where
  b : Below w.heap.size w W
  a : W.ownsRow w.heap.size 5 1 va A.length (A.map cB)
  m : W.ownsRow w.heap.size 22 1 vm G.length (G.map cG)
  l : ∀ q ∈ G, W.ownsRow w.heap.size 5 1 (.slice (some ⟨q.1, 0, none⟩) (q.2.length + 9) (q.2.length + 9)) (q.2.length + 9) ((mkZ q.2 9).map cB)
  n : ∀ q ∈ G, va.ownBlock ≠ some q.1
section
variable {w W W' : World} {va vm v' : Value} {A : List Nat} {G : List (Nat × List Nat)}
theorem own_type {base base' e e' s s' n n' : Nat} {v u : Value} {xs ys : List Value} (h : W.ownsRow base e s v n xs) (k : W.ownsRow base' e' s' u n' ys) (hne : e ≠ e') {z : Nat} (hz : v.ownBlock = some z) : u.ownBlock ≠ some z := by
  intro q
  rcases h.2 with ⟨rfl, -⟩ | ⟨g, cap, cur, rfl, -, h2, -⟩
  · cases hz
  · rcases k.2 with ⟨rfl, -⟩ | ⟨g', cap', cur', rfl, -, k2, -⟩
    · cases q
    · simp only [Value.ownBlock, Option.some.injEq] at hz q
      subst hz q
      rw [h2] at k2
      injection k2 with k2
      injection k2 with k3 k4
      exact hne k4
theorem SM.below (h : SM w W va vm A G) (hb : Below W.heap.size W W') : SM w W' va vm A G := ⟨keepb hb h.b, own_b13 hb h.a, own_b13 hb h.m, fun q hq => own_b13 hb (h.l q hq), h.n⟩
end
end Go.Proofs.YtjgpbahglkaijaaDoor
