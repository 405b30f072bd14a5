/-
  Part 8 of the proof: 13 texts, one behind the other.
-/
import Derived.Test.YtdpmhpmnkollaaaPart7
import Derived.Test.YtdpmhpmnkollaaaPart6
import Derived.Test.YtdpmhpmnkollaaaPart1
import Derived.Deep.RegionHeld3
import Derived.BigQuiet
import Derived.WalkMore
import Derived.Deep.LoopGhost
import Derived.Test.YtdpmhpmnkollaaaPart4
namespace Go.Proofs.Ytdpmhpmnkollaaa
open Go.RowKit
set_option linter.unusedSimpArgs false
set_option linter.unusedVariables false
attribute [local go_sem] Oper.semAt_some

def RbQ (w : World) (F : Int) (l : List Nat) (e : Ending) (W' : World) : Prop :=
  ∃ vb, e = .returned (.tuple #[.agg #[vb, .int .i64 (vfB F l).1, .int .i64 0], .int .i64 (vfB F l).2.1, .int .i64 (vfB F l).2.2]) ∧ Below w.heap.size w W' ∧ ((vfB F l).2.2 ≠ 0 → vb = .slice none 0 0) ∧ ((vfB F l).2.2 = 0 → ∃ L, BsV W' w.heap.size vb L (vfP l) ∧ 0 < (vfP l).length)
theorem RbQ.no {w W' : World} {F : Int} {l : List Nat} {a e : Int} (h : vfB F l = (0, a, e)) (h0 : e ≠ 0) (hb : Below w.heap.size w W') : RbQ w F l (.returned (.tuple #[.agg #[.slice none 0 0, .int .i64 0, .int .i64 0], .int .i64 a, .int .i64 e])) W' := by
  unfold RbQ
  rw [h]
  exact ⟨_, rfl, hb, fun _ => rfl, fun q => absurd q h0⟩
theorem pw_len18 : ∀ (q : List Int) (lo hi : Int), q.Pairwise (· < ·) → (∀ x ∈ q, lo ≤ x ∧ x < hi) → lo ≤ hi → (q.length : Int) ≤ hi - lo
  | [], lo, hi, _, _, h => by simp; omega
  | x :: t, lo, hi, hp, hb, h => by
    rw [List.pairwise_cons] at hp
    have hx := hb x (by simp)
    have := pw_len18 t (x + 1) hi hp.2 (fun y hy => by have := hp.1 y hy; have := hb y (by simp [hy]); omega) (by omega)
    simp
    omega
theorem PbF.len {l : List Nat} {P : List PB} (h : PbF l P) : (P.length : Int) ≤ wds l := by
  have := pw_len18 (P.map PB.a) 0 (wds l) h.s (fun x hx => by obtain ⟨b, hb, rfl⟩ := List.mem_map.mp hx; have := h.b b hb; omega) (by unfold wds; omega)
  rw [List.length_map] at this
  omega
end Go.Proofs.Ytdpmhpmnkollaaa
namespace Go.Proofs.Ytdpmhpmnkollaaa
open Go.RowKit
set_option linter.unusedSimpArgs false
set_option linter.unusedVariables false
attribute [local go_sem] Oper.semAt_some

noncomputable def vfN (F : Int) (l : List Nat) : Int := if dcE l 0 = 0 ∧ (dcI l 0).op = 4 ∧ (vfR F l).2.2 = 0 then (dcI l 0).n else 0
def ReQ (w : World) (F : Int) (l : List Nat) (e : Ending) (W' : World) : Prop :=
  ∃ vb, e = .returned (.tuple #[.agg #[vb, .int .i64 (vfR F l).1, .int .i64 (vfN F l)], .int .i64 (vfR F l).2.1, .int .i64 (vfR F l).2.2]) ∧ Below w.heap.size w W' ∧ ((vfR F l).2.2 ≠ 0 ∨ (dcE l 0 = 0 ∧ (dcI l 0).op = 4) → vb = .slice none 0 0) ∧ ((vfR F l).2.2 = 0 → ¬ (dcE l 0 = 0 ∧ (dcI l 0).op = 4) → ∃ L, BsV W' w.heap.size vb L (vfP l) ∧ 0 < (vfP l).length)
theorem ReQ.no {w W' : World} {F : Int} {l : List Nat} {a e : Int} (h : vfR F l = (0, a, e)) (h0 : e ≠ 0) (hb : Below w.heap.size w W') : ReQ w F l (.returned (.tuple #[.agg #[.slice none 0 0, .int .i64 0, .int .i64 0], .int .i64 a, .int .i64 e])) W' := by
  have hn : vfN F l = 0 := by unfold vfN; rw [if_neg (fun q => h0 (by rw [h] at q; exact q.2.2))]
  refine ⟨.slice none 0 0, by rw [h, hn], hb, fun _ => rfl, fun q => absurd (by rw [h] at q; exact q) h0⟩
end Go.Proofs.Ytdpmhpmnkollaaa
namespace Go.Proofs.Ytdpmhpmnkollaaa
open Go.RowKit
set_option linter.unusedSimpArgs false
set_option linter.unusedVariables false

end Go.Proofs.Ytdpmhpmnkollaaa
namespace Go.Proofs.Ytdpmhpmnkollaaa
open Go.RowKit
set_option linter.unusedSimpArgs false
set_option linter.unusedVariables false

set_option maxHeartbeats 400000 in
theorem rbit_any (x : BitVec 128) (i : Int) (w : World) :
    Calls Try.prog 67 #[.agg #[.int .u64 (hI x), .int .u64 (lI x)], .int .i64 i] w fun e w' => e = .returned (.int .i64 (bitZ x i)) ∧ Below w.heap.size w w' := by
  by_cases h0 : i < 0
  · rw [bitZ_out x i (Or.inl h0)]
    go_enter Try.func67, Try.ntmps67
    go_wp2
    go_ret
    exact ⟨rfl, bl1 _ _⟩
  by_cases h1 : 127 < i
  · rw [bitZ_out x i (Or.inr h1)]
    go_enter Try.func67, Try.ntmps67
    go_wp2
    go_ret
    exact ⟨rfl, bl1 _ _⟩
  by_cases h2 : i < 64
  · rw [← bit_hi x i (by omega) h2]
    go_enter Try.func67, Try.ntmps67
    go_wp2
    go_ret
    exact ⟨rfl, bl1 _ _⟩
  · rw [← bit_lo x i (by omega) (by omega)]
    go_enter Try.func67, Try.ntmps67
    go_wp2
    go_ret
    exact ⟨rfl, bl1 _ _⟩

def At (w : World) (B : Nat) (x : BitVec 128) : Prop := w.cell? ⟨B, 0, none⟩ = some (.int .u64 (hI x)) ∧ w.cell? ⟨B, 1, none⟩ = some (.int .u64 (lI x)) ∧ w.frozen? ⟨B, 0, none⟩ = false ∧ w.frozen? ⟨B, 1, none⟩ = false ∧ B < w.heap.size
theorem At.below {w w' : World} {B : Nat} {x : BitVec 128} (h : At w B x) (hb : Below w.heap.size w w') : At w' B x := by
  obtain ⟨h0, h1, h2, h3, h4⟩ := h
  obtain ⟨hc, hf⟩ := bcell hb
  exact ⟨by rw [hc _ _ h4]; exact h0, by rw [hc _ _ h4]; exact h1, by rw [hf _ _ h4]; exact h2, by rw [hf _ _ h4]; exact h3, Nat.lt_of_lt_of_le h4 hb.size⟩
theorem At.set {w : World} {B : Nat} {x : BitVec 128} (y : BitVec 128) (h : At w B x) : At ((w.setCell ⟨B, 0, none⟩ (.int .u64 (hI y))).setCell ⟨B, 1, none⟩ (.int .u64 (lI y))) B y := by
  obtain ⟨h0, h1, h2, h3, h4⟩ := h
  refine ⟨?_, ?_, ?_, ?_, ?_⟩ <;> simp [go_sem, *]

set_option maxHeartbeats 400000 in
theorem rcmp_any (x y : BitVec 128) (w : World) :
    Calls Try.prog 34 #[.agg #[.int .u64 (hI x), .int .u64 (lI x)], .agg #[.int .u64 (hI y), .int .u64 (lI y)]] w fun e w' => e = .returned (.int .i64 (cmpZ x y)) ∧ Below w.heap.size w w' := by
  rcases cmp_ways x y with ⟨h, c⟩ | ⟨h, g, c⟩ | ⟨h, c⟩ | ⟨h, c⟩ | ⟨h, g, c⟩
  · rw [c]; clear c
    go_enter Try.func34, Try.ntmps34
    go_wp2
    go_ret
    exact ⟨rfl, bl2 _ _ _⟩
  · rw [c, h]; clear c h
    go_enter Try.func34, Try.ntmps34
    go_wp2
    go_ret
    exact ⟨rfl, bl2 _ _ _⟩
  · rw [c]; clear c; subst h
    go_enter Try.func34, Try.ntmps34
    go_wp2
    go_ret
    exact ⟨rfl, bl2 _ _ _⟩
  · rw [c]; clear c
    have ne : ¬ hI x = hI y := by omega
    go_enter Try.func34, Try.ntmps34
    go_wp2
    go_ret
    exact ⟨rfl, bl2 _ _ _⟩
  · rw [c, h]; clear c h
    have ne : ¬ lI x = lI y := by omega
    go_enter Try.func34, Try.ntmps34
    go_wp2
    go_ret
    exact ⟨rfl, bl2 _ _ _⟩
end Go.Proofs.Ytdpmhpmnkollaaa
namespace Go.Proofs.Ytdpmhpmnkollaaa
open Go.RowKit
set_option linter.unusedSimpArgs false
set_option linter.unusedVariables false

end Go.Proofs.Ytdpmhpmnkollaaa
namespace Go.Proofs.Ytdpmhpmnkollaaa
open Go.RowKit
set_option linter.unusedSimpArgs false
set_option linter.unusedVariables false

end Go.Proofs.Ytdpmhpmnkollaaa
namespace Go.Proofs.Ytdpmhpmnkollaaa
open Go.RowKit
set_option linter.unusedSimpArgs false
set_option linter.unusedVariables false

theorem at_new (w : World) (B : Nat) (x : BitVec 128) (T : TypeId) (h : B = w.heap.size) : At (w.alloc (.cells #[.int .u64 (hI x), .int .u64 (lI x)] T)) B x := by
  subst h
  refine ⟨?_, ?_, ?_, ?_, ?_⟩ <;> simp [go_sem]

theorem bset2 {n C : Nat} {w W : World} (h : Below n w W) (hp : n ≤ C) (u v : Value) : Below n w ((W.setCell ⟨C, 0, none⟩ u).setCell ⟨C, 1, none⟩ v) := (h.setCell hp _).setCell hp _

end Go.Proofs.Ytdpmhpmnkollaaa
namespace Go.Proofs.Ytdpmhpmnkollaaa
open Go.RowKit
set_option linter.unusedSimpArgs false
set_option linter.unusedVariables false

def fam (F : Int) : Bool := decide (F = 32) || decide (F = 128)
theorem fam_ways (F : Int) (h : fam F = true) : F = 32 ∨ F = 128 := by unfold fam at h; simpa using h
theorem fam_no (F : Int) (h : fam F = false) : ¬ F = 32 ∧ ¬ F = 128 := by unfold fam at h; simpa using h
def lastV (F : Int) : BitVec 128 := if fam F = true then maskW F else 0#128
def lastE (F : Int) : Int := if fam F = true then 0 else 11
end Go.Proofs.Ytdpmhpmnkollaaa
namespace Go.Proofs.Ytdpmhpmnkollaaa
open Go.RowKit
set_option linter.unusedSimpArgs false
set_option linter.unusedVariables false

set_option maxHeartbeats 1000000 in
theorem alast_any (F : Int) (w : World) :
    Calls Try.prog 91 #[.int .i64 F] w fun e w' => e = .returned (.tuple #[.agg #[.int .u64 (hI (lastV F)), .int .u64 (lI (lastV F))], .int .i64 (lastE F)]) ∧ Below w.heap.size w w' := by
  unfold lastV lastE
  cases h : fam F
  · rw [if_neg (by simp), if_neg (by simp), hI_zero, lI_zero]
    obtain ⟨h1, h2⟩ := fam_no F h
    have b1 : (F != 32) = true := by simp [h1]
    have b2 : (F != 128) = true := by simp [h2]
    clear h
    go_enter Try.func91, Try.ntmps91
    go_wp2
    exact bodyPost_ret (v := .tuple #[.agg #[.int .u64 0, .int .u64 0], .int .i64 11]) (by simp [results, Try.results91, go_sem]) rfl ⟨rfl, bl1 _ _⟩
  · rw [if_pos rfl, if_pos rfl]
    rcases fam_ways F h with rfl | rfl
    all_goals
      clear h
      go_enter Try.func91, Try.ntmps91
      go_wp2_with fail
      refine (mask_any _ _).mono ?_
      rintro e w1 ⟨rfl, hb1⟩
      have hZ := (at_new w w.heap.size 0#128 48 rfl).below hb1
      have kB := keepb hb1 (bl1 w _)
      obtain ⟨z0, z1, z2, z3, z4⟩ := hZ
      clear hb1
      go_wp2
      exact bodyPost_ret (by simp [results, Try.results91, go_sem, *]) rfl ⟨rfl, bset2 kB (Nat.le_refl _) _ _⟩

end Go.Proofs.Ytdpmhpmnkollaaa
namespace Go.Proofs.Ytdpmhpmnkollaaa
open Go.RowKit
set_option linter.unusedSimpArgs false
set_option linter.unusedVariables false

def cutW (x : BitVec 128) (n : Int) : BitVec 128 := x &&& maskW n
def AtP (w : World) (B : Nat) (x : BitVec 128) (n : Int) : Prop := w.cell? ⟨B, 0, none⟩ = some (.int .u64 (hI x)) ∧ w.cell? ⟨B, 1, none⟩ = some (.int .u64 (lI x)) ∧ w.cell? ⟨B, 2, none⟩ = some (.int .i64 n) ∧ w.frozen? ⟨B, 0, none⟩ = false ∧ w.frozen? ⟨B, 1, none⟩ = false ∧ w.frozen? ⟨B, 2, none⟩ = false
theorem AtP.below {w w' : World} {B : Nat} {x : BitVec 128} {n : Int} (h : AtP w B x n) (hb : Below w.heap.size w w') : AtP w' B x n := by
  obtain ⟨h0, h1, h2, h3, h4, h5⟩ := h
  exact ⟨keepc hb h0, keepc hb h1, keepc hb h2, keepf hb h0 h3, keepf hb h1 h4, keepf hb h2 h5⟩
theorem atp_new (w : World) (B : Nat) (x : BitVec 128) (n : Int) (T : TypeId) (h : B = w.heap.size) : AtP (w.alloc (.cells #[.int .u64 (hI x), .int .u64 (lI x), .int .i64 n] T)) B x n := by
  subst h
  refine ⟨?_, ?_, ?_, ?_, ?_, ?_⟩ <;> simp [go_sem]
theorem bset3 {n C : Nat} {w W : World} (h : Below n w W) (hp : n ≤ C) (u v t : Value) : Below n w (((W.setCell ⟨C, 0, none⟩ u).setCell ⟨C, 1, none⟩ v).setCell ⟨C, 2, none⟩ t) := ((h.setCell hp _).setCell hp _).setCell hp _

set_option maxHeartbeats 1000000 in
theorem cut_any (x : BitVec 128) (n : Int) (w : World) :
    Calls Try.prog 92 #[.agg #[.int .u64 (hI x), .int .u64 (lI x)], .int .i64 n] w fun e w' => e = .returned (.agg #[.int .u64 (hI (cutW x n)), .int .u64 (lI (cutW x n)), .int .i64 n]) ∧ Below w.heap.size w w' := by
  have hbl := fun o p => (bl2 w o p).drew
  unfold cutW
  go_enter Try.func92, Try.ntmps92
  go_wp2
  go_region_held3 (fun w' => w'.cell? ⟨w.heap.size, 0, none⟩ = some (.int .u64 (hI x)) ∧ w'.cell? ⟨w.heap.size, 1, none⟩ = some (.int .u64 (lI x)) ∧ w'.cell? ⟨w.heap.size + 1, 0, none⟩ = some (cv w' (w.heap.size + 1) 0) ∧ w'.cell? ⟨w.heap.size + 1, 1, none⟩ = some (cv w' (w.heap.size + 1) 1) ∧ w'.cell? ⟨w.heap.size + 1, 2, none⟩ = some (cv w' (w.heap.size + 1) 2) ∧ w'.frozen? ⟨w.heap.size + 1, 0, none⟩ = false ∧ w'.frozen? ⟨w.heap.size + 1, 1, none⟩ = false ∧ w'.frozen? ⟨w.heap.size + 1, 2, none⟩ = false ∧ Below w.heap.size w w')
    (first
      | (obtain ⟨k1, k2, k3, k4, k5, k6, k7, k8, k9⟩ := ‹_ ∧ _›; exact ⟨keepc hb2 k1, keepc hb2 k2, cv_of (keepc hb2 k3), cv_of (keepc hb2 k4), cv_of (keepc hb2 k5), keepf hb2 k3 k6, keepf hb2 k4 k7, keepf hb2 k5 k8, keepb hb2 k9⟩)
      | (obtain ⟨k1, k2, k3, k4, k5, k6, k7, k8, k9⟩ := ‹_ ∧ _›; exact ⟨keepc hb1 k1, keepc hb1 k2, cv_of (keepc hb1 k3), cv_of (keepc hb1 k4), cv_of (keepc hb1 k5), keepf hb1 k3 k6, keepf hb1 k4 k7, keepf hb1 k5 k8, keepb hb1 k9⟩)
      | (refine ⟨?_, ?_, cv_new ?_, cv_new ?_, cv_new ?_, ?_, ?_, ?_, ?_⟩ <;> first | (simp [go_sem, *]; done) | exact bset3 (by simp [*]) (by simp) _ _ _))
    (first | (go_at_call 111; refine (mask_any _ _).mono ?_; rintro e w1 ⟨rfl, hb1⟩) | (go_at_call 112; refine (and_any _ _ _).mono ?_; rintro e w2 ⟨rfl, hb2⟩))
  obtain ⟨-, -, -, -, -, -, -, -, kB⟩ := ‹_ ∧ _›
  have e0 : w2.cell? ⟨w.heap.size + 1, 0, none⟩ = some (.int .u64 0) := keepc hb2 (keepc hb1 (by simp [go_sem]))
  have e1 : w2.cell? ⟨w.heap.size + 1, 1, none⟩ = some (.int .u64 0) := keepc hb2 (keepc hb1 (by simp [go_sem]))
  have e2 : w2.cell? ⟨w.heap.size + 1, 2, none⟩ = some (.int .i64 0) := keepc hb2 (keepc hb1 (by simp [go_sem]))
  go_wp2
  exact bodyPost_ret (v := .agg #[.int .u64 (hI (x &&& maskW n)), .int .u64 (lI (x &&& maskW n)), .int .i64 n]) (by simp [results, Try.results92, go_sem, e0, e1, e2]) rfl ⟨rfl, kB⟩

theorem eqw (c x : BitVec 128) : ((hI c == hI x) = true ∧ (lI c == lI x) = true ∧ (c == x) = true) ∨ ((hI c == hI x) = false ∧ (c == x) = false) ∨ ((hI c == hI x) = true ∧ (lI c == lI x) = false ∧ (c == x) = false) := by
  rw [← beq_ints c x]
  cases hI c == hI x <;> cases lI c == lI x <;> simp

end Go.Proofs.Ytdpmhpmnkollaaa
namespace Go.Proofs.Ytdpmhpmnkollaaa
open Go.RowKit
set_option linter.unusedSimpArgs false
set_option linter.unusedVariables false

theorem eqW_run (x y : BitVec 128) (w : World) :
    (Op.equalIn 10000 48 (.agg #[.int .u64 (hI x), .int .u64 (lI x)]) (.agg #[.int .u64 (hI y), .int .u64 (lI y)])).run Try.prog w = .ok (x == y) w := by
  rcases eqw x y with ⟨q1, q2, q3⟩ | ⟨q1, q3⟩ | ⟨q1, q2, q3⟩
  all_goals
    rw [q3]
    go_simp
    try simp [*]
end Go.Proofs.Ytdpmhpmnkollaaa
namespace Go.Proofs.Ytdpmhpmnkollaaa
open Go.RowKit
set_option linter.unusedSimpArgs false
set_option linter.unusedVariables false

structure Rn where
  f : BitVec 128
  k : Bool
  n : Int
structure Nde where
  b : Int
  r : List Rn
def rnV (r : Rn) : Value := .agg #[.int .u64 (hI r.f), .int .u64 (lI r.f), .bool r.k, .int .i64 r.n]
def RnAt (w : World) (b o : Nat) (r : Rn) : Prop := w.cell? ⟨b, o, none⟩ = some (.int .u64 (hI r.f)) ∧ w.cell? ⟨b, o + 1, none⟩ = some (.int .u64 (lI r.f)) ∧ w.cell? ⟨b, o + 2, none⟩ = some (.bool r.k) ∧ w.cell? ⟨b, o + 3, none⟩ = some (.int .i64 r.n)
theorem RnAt.below {w w' : World} {b o : Nat} {r : Rn} (h : RnAt w b o r) (hb : Below w.heap.size w w') : RnAt w' b o r := ⟨keepc hb h.1, keepc hb h.2.1, keepc hb h.2.2.1, keepc hb h.2.2.2⟩
theorem rnat_new (w : World) (r : Rn) (T : TypeId) : RnAt (w.alloc (.cells #[.int .u64 (hI r.f), .int .u64 (lI r.f), .bool r.k, .int .i64 r.n] T)) w.heap.size 0 r := by
  refine ⟨?_, ?_, ?_, ?_⟩ <;> simp [go_sem]
def RwN (w : World) (v : Value) (l : List Rn) : Prop := ∃ ao c, v = .slice ao l.length c ∧ l.length ≤ c ∧ (l = [] ∨ ∃ b off, ao = some ⟨b, off, none⟩ ∧ ∀ j r, l[j]? = some r → RnAt w b (off + j * 4) r)
theorem RwN.below {w w' : World} {v : Value} {l : List Rn} (h : RwN w v l) (hb : Below w.heap.size w w') : RwN w' v l := by
  obtain ⟨ao, c, e, hc, h⟩ := h
  refine ⟨ao, c, e, hc, h.imp id ?_⟩
  rintro ⟨b, off, e, h⟩
  exact ⟨b, off, e, fun j r hj => (h j r hj).below hb⟩
def RwD (w : World) (v : Value) (L : List Nde) : Prop := ∃ ao c, v = .slice ao L.length c ∧ L.length ≤ c ∧ (L = [] ∨ ∃ b off, ao = some ⟨b, off, none⟩ ∧ ∀ j d, L[j]? = some d → ∃ vr, w.cell? ⟨b, off + j * 2, none⟩ = some (.int .i64 d.b) ∧ w.cell? ⟨b, off + j * 2 + 1, none⟩ = some vr ∧ RwN w vr d.r)
theorem RwD.below {w w' : World} {v : Value} {L : List Nde} (h : RwD w v L) (hb : Below w.heap.size w w') : RwD w' v L := by
  obtain ⟨ao, c, e, hc, h⟩ := h
  refine ⟨ao, c, e, hc, h.imp id ?_⟩
  rintro ⟨b, off, e, h⟩
  refine ⟨b, off, e, fun j d hj => ?_⟩
  obtain ⟨vr, h1, h2, h3⟩ := h j d hj
  exact ⟨vr, keepc hb h1, keepc hb h2, h3.below hb⟩
def bitsB (n : Int) : Bool := decide (0 ≤ n) && decide (n ≤ 128)
theorem isBits_any (n : Int) (w : World) : Calls Try.prog 113 #[.int .i64 n] w fun e w' => e = .returned (.bool (bitsB n)) ∧ w' = w := by
  unfold bitsB
  go_enter Try.func113, Try.ntmps113
  by_cases h1 : 0 ≤ n
  · by_cases h2 : n ≤ 128
    · go_wp2
      go_ret
      exact ⟨by simp [h1, h2], rfl⟩
    · go_wp2
      go_ret
      exact ⟨by simp [h1, h2], rfl⟩
  · go_wp2
    go_ret
    exact ⟨by rw [decide_eq_false (by omega : ¬ 0 ≤ n)]; rfl, rfl⟩
def cntV (r : Rn) : Value := if r.k then .iface 196 (.int .i64 r.n) else .iface 206 (.int .i64 r.n)
theorem Try.leadC (v : Value) (w : World) : (Instr.makeInterface 196 v).run Try.prog w = .ok (.iface 196 v) w := by kernel_rfl
theorem Try.answC (v : Value) (w : World) : (Instr.makeInterface 206 v).run Try.prog w = .ok (.iface 206 v) w := by kernel_rfl
theorem content_any (r : Rn) (w : World) :
    Calls Try.prog 116 #[rnV r] w fun e w' => e = .returned (cntV r) ∧ Below w.heap.size w w' := by
  have c1 := Try.leadC (.int .i64 r.n)
  have c2 := Try.answC (.int .i64 r.n)
  obtain ⟨f, k, n⟩ := r
  unfold cntV rnV
  dsimp only
  cases k
  · go_enter Try.func116, Try.ntmps116
    go_wp2
    go_ret
    exact ⟨rfl, bl1 _ _⟩
  · go_enter Try.func116, Try.ntmps116
    go_wp2
    go_ret
    exact ⟨rfl, bl1 _ _⟩
theorem Try.as1 (W : World) (v : Value) : (Instr.typeAssert (.iface 206 v) 194 206 true).run Try.prog W = .ok (.tuple #[v, .bool true]) W := by kernel_rfl
theorem Try.as2 (W : World) (v : Value) : (Instr.typeAssert (.iface 196 v) 194 196 true).run Try.prog W = .ok (.tuple #[v, .bool true]) W := by kernel_rfl
theorem Try.as3 (W : World) (v : Value) : (Instr.typeAssert (.iface 196 v) 194 206 true).run Try.prog W = .ok (.tuple #[.int .i64 0, .bool false]) W := by kernel_rfl
theorem Try.as4 (W : World) (v : Value) : (Instr.typeAssert (.iface 206 v) 194 196 true).run Try.prog W = .ok (.tuple #[.int .i64 0, .bool false]) W := by kernel_rfl
def runE (r : Rn) (i N : Int) : Int := if r.k then (if r.n ≤ i ∨ N ≤ r.n then 26 else 0) else (if r.n < 0 ∨ 65535 < r.n then 15 else 0)
theorem checkContent_any (r : Rn) (i N : Int) (w : World) :
    Calls Try.prog 115 #[cntV r, .int .i64 i, .int .i64 N] w fun e w' => e = .returned (.int .i64 (runE r i N)) ∧ w' = w := by
  have a1 := Try.as1
  have a2 := Try.as2
  have a3 := Try.as3
  obtain ⟨f, k, n⟩ := r
  unfold cntV runE
  dsimp only
  cases k
  · simp only [Bool.false_eq_true, if_false]
    by_cases h1 : n < 0
    · rw [if_pos (.inl h1)]
      go_enter Try.func115, Try.ntmps115
      go_wp2
      go_ret
      exact ⟨rfl, rfl⟩
    · by_cases h2 : 65535 < n
      · rw [if_pos (.inr h2)]
        go_enter Try.func115, Try.ntmps115
        go_wp2
        go_ret
        exact ⟨rfl, rfl⟩
      · rw [if_neg (by omega)]
        go_enter Try.func115, Try.ntmps115
        go_wp2
        go_ret
        exact ⟨rfl, rfl⟩
  · simp only [if_true]
    by_cases h1 : n ≤ i
    · rw [if_pos (.inl h1)]
      go_enter Try.func115, Try.ntmps115
      go_wp2
      go_ret
      exact ⟨rfl, rfl⟩
    · by_cases h2 : N ≤ n
      · rw [if_pos (.inr h2)]
        go_enter Try.func115, Try.ntmps115
        go_wp2
        go_ret
        exact ⟨rfl, rfl⟩
      · rw [if_neg (by omega)]
        go_enter Try.func115, Try.ntmps115
        go_wp2
        go_ret
        exact ⟨rfl, rfl⟩
def smR (r s : Rn) : Bool := (r.k == s.k) && (r.n == s.n)
set_option maxHeartbeats 1000000 in
theorem sayTheSame_any (r s : Rn) (w : World) :
    Calls Try.prog 129 #[rnV r, rnV s] w fun e w' => e = .returned (.bool (smR r s)) ∧ Below w.heap.size w w' := by
  obtain ⟨f, k, n⟩ := r
  obtain ⟨g, j, m⟩ := s
  unfold smR rnV
  dsimp only
  by_cases h1 : k = j
  · subst h1
    have e1 : (k == k) = true := by simp
    rw [e1, Bool.true_and]
    go_enter Try.func129, Try.ntmps129
    go_wp2
    go_ret
    exact ⟨by first | rfl | simp, bl2 _ _ _⟩
  · have e1 : (k == j) = false := by simpa using h1
    rw [e1, Bool.false_and]
    clear h1
    go_enter Try.func129, Try.ntmps129
    go_wp2
    go_ret
    exact ⟨by first | rfl | simp, bl2 _ _ _⟩
end Go.Proofs.Ytdpmhpmnkollaaa
namespace Go.Proofs.Ytdpmhpmnkollaaa
open Go.RowKit
set_option linter.unusedSimpArgs false
set_option linter.unusedVariables false
attribute [local go_sem] Oper.semAt_some

def adjG : List Rn → Bool
  | a :: b :: t => (decide (cmpZ a.f b.f < 0) && !smR a b) && adjG (b :: t)
  | _ => true
theorem adj_drop (l : List Rn) (k : Nat) (h : k + 1 < l.length) : adjG (l.drop k) = ((decide (cmpZ l[k].f l[k+1].f < 0) && !smR l[k] l[k+1]) && adjG (l.drop (k + 1))) := by
  rw [List.drop_eq_getElem_cons (by omega), List.drop_eq_getElem_cons h]
  rfl
theorem adj_end (l : List Rn) (k : Nat) (h : l.length ≤ k + 1) : adjG (l.drop k) = true := by
  have : (l.drop k).length ≤ 1 := by rw [List.length_drop]; omega
  match l.drop k, this with
  | [], _ => rfl
  | [_], _ => rfl
def ioB (d : Nde) : Bool := match d.r.head?, d.r.getLast? with
  | some a, some z => (a.f == 0#128) && (adjG d.r && (z.f >>> d.b.toNat == 0#128))
  | _, _ => false
theorem io_nil (b : Int) : ioB ⟨b, []⟩ = false := rfl
theorem io_one (b : Int) (l : List Rn) (h : l ≠ []) : ioB ⟨b, l⟩ = ((l[0]'(List.length_pos_iff.mpr h)).f == 0#128 && (adjG l && ((l[l.length - 1]'(by have := List.length_pos_iff.mpr h; omega)).f >>> b.toNat == 0#128))) := by
  unfold ioB
  dsimp only
  rw [List.head?_eq_getElem?, List.getLast?_eq_getElem?, List.getElem?_eq_getElem (List.length_pos_iff.mpr h), List.getElem?_eq_getElem (by have := List.length_pos_iff.mpr h; omega)]
def AtD (w : World) (B : Nat) (b : Int) (v : Value) : Prop := w.cell? ⟨B, 0, none⟩ = some (.int .i64 b) ∧ w.cell? ⟨B, 1, none⟩ = some v
theorem AtD.below {w w' : World} {B : Nat} {b : Int} {v : Value} (h : AtD w B b v) (hb : Below w.heap.size w w') : AtD w' B b v := ⟨keepc hb h.1, keepc hb h.2⟩
theorem atd_new (w : World) (b : Int) (v : Value) (T : TypeId) : AtD (w.alloc (.cells #[.int .i64 b, v] T)) w.heap.size b v := by
  refine ⟨?_, ?_⟩ <;> simp [go_sem]
theorem eqWz (x : BitVec 128) (w : World) : (Op.equalIn 10000 48 (.agg #[.int .u64 (hI x), .int .u64 (lI x)]) (.agg #[.int .u64 0, .int .u64 0])).run Try.prog w = .ok (x == 0#128) w := by
  have := eqW_run x 0#128 w
  rwa [hI_zero, lI_zero] at this
set_option maxRecDepth 20000 in
set_option maxHeartbeats 4000000 in
theorem inOrder_any (b : Int) (v : Value) (l : List Rn) (w : World) (hv : RwN w v l) (hl : l.length ≤ 1000000000) :
    Calls Try.prog 114 #[.agg #[.int .i64 b, v]] w fun e w' => e = .returned (.bool (ioB ⟨b, l⟩)) ∧ Below w.heap.size w w' := by
  have q1 := bl1 w (.cells #[.int .i64 b, v] 53)
  have HA := hid13 (atd_new w b v 53)
  obtain ⟨ao, c, rfl, hc, hr⟩ := hv
  by_cases h0 : l = []
  · subst h0
    have HB := hid13 q1
    clear hr q1
    go_enter Try.func114, Try.ntmps114
    go_wp2
    go_ret
    exact ⟨rfl, HB.out⟩
  · have hp := List.length_pos_iff.mpr h0
    rw [io_one b l h0]
    obtain ⟨bb, off, rfl, hcell⟩ : ∃ b off, ao = some ⟨b, off, none⟩ ∧ ∀ j r, l[j]? = some r → RnAt w b (off + j * 4) r := by
      rcases hr with h | h
      · exact absurd h h0
      · exact h
    have HC := hid13 hcell
    have HB := hid13 q1
    have x0 := (((hcell 0 _ (List.getElem?_eq_getElem hp)).below q1))
    obtain ⟨x0, x1, -, -⟩ := x0
    rw [Nat.zero_mul, Nat.add_zero] at x0 x1
    have e1 : ((l.length : Int) == 0) = false := by rw [beq_eq_false_iff_ne]; omega
    have E0 := fun w => eqWz (l[0]).f w
    generalize (l[0]).f = f0 at *
    have hp' : (0 : Int) < (l.length : Int) := by omega
    have HH : Hid (0 < l.length ∧ l.length ≤ 1000000000) := ⟨hp, hl⟩
    clear hcell hr q1
    cases ht : (f0 == 0#128) with
    | false =>
      rw [ht] at E0
      rw [Bool.false_and]
      clear ht
      go_enter Try.func114, Try.ntmps114
      go_wp2
      go_ret
      exact ⟨rfl, HB.out⟩
    | true =>
      rw [ht] at E0
      rw [Bool.true_and]
      clear ht
      go_enter Try.func114, Try.ntmps114
      go_wp2_with fail
      obtain ⟨N, hN⟩ : ∃ N, N = l.length - 1 := ⟨_, rfl⟩
      have HN : Hid (N + 1 = l.length) := by show _ = _; omega
      have HZ : Hid (l.length - 1 = N) := hN.symm
      clear x0 x1 E0 e1 hN
      go_loopw [3] (fun i wr => ∃ k : Nat, k + 1 ≤ l.length ∧ i = .int .i64 ((k + 1 : Nat) : Int) ∧ Hid (adjG (l.drop k) = adjG l) ∧ Hid (Below w.heap.size w wr) ∧ AtD wr w.heap.size b (.slice (some ⟨bb, off, none⟩) l.length c)) (fun i _ => l.length - (intOf i).toNat)
      case atStart => exact ⟨0, by have := HH.out; omega, rfl, (rfl : adjG (l.drop 0) = adjG l), HB, HA.out⟩
      case round =>
        clear HA HB
        obtain ⟨k, hk, rfl, hG, hB, z0, z1⟩ := hrel
        by_cases hlt : ((k + 1 : Nat) : Int) < (l.length : Int)
        · have hks : k + 1 < l.length := by omega
          have hD := hid13 (adj_drop l k hks)
          obtain ⟨r0, r1, r2, r3⟩ := (HC.out k _ (List.getElem?_eq_getElem (by omega)))
          obtain ⟨s0, s1, s2, s3⟩ := (HC.out (k + 1) _ (List.getElem?_eq_getElem hks))
          have r0 := keepc hB.out r0
          have r1 := keepc hB.out r1
          have r2 := keepc hB.out r2
          have r3 := keepc hB.out r3
          have s0 := keepc hB.out s0
          have s1 := keepc hB.out s1
          have s2 := keepc hB.out s2
          have s3 := keepc hB.out s3
          have w1 : IntKind.i64.wrap (k : Int) = (k : Int) := by rw [IntKind.wrap_i64]; have := HH.out; omega
          have b1 : w.heap.size < wr.heap.size := cell_in z0
          have b2 : bb < wr.heap.size := cell_in r0
          have k1 : (k : Int) < (l.length : Int) := by omega
          have KC := fun w => cmp_any l[k].f l[k+1].f w
          have KS := fun w => sayTheSame_any l[k] l[k+1] w
          have hz : cmpZ l[k].f l[k+1].f = -1 ∨ cmpZ l[k].f l[k+1].f = 0 ∨ cmpZ l[k].f l[k+1].f = 1 := by unfold cmpZ; split; exact .inl rfl; split; exact .inr (.inl rfl); exact .inr (.inr rfl)
          generalize l[k] = r at *
          generalize l[k+1] = s at *
          unfold rnV at KS
          generalize cmpZ r.f s.f = z at *
          go_wp2_with fail
          go_region
          · go_wp2_with fail
            refine (KC _).mono ?_
            rintro e w2 ⟨rfl, hb2⟩
            have hb1 := (bl2 wr (.cells #[.int .u64 (hI r.f), .int .u64 (lI r.f), .bool r.k, .int .i64 r.n] 50) (.cells #[.int .u64 (hI s.f), .int .u64 (lI s.f), .bool s.k, .int .i64 s.n] 50)).drew
            have HB2 := hid13 (keepb hb2 (keepb hb1 hB.out))
            have HA2 : Hid (AtD w2 w.heap.size b (.slice (some ⟨bb, off, none⟩) l.length c)) := ⟨keepc hb2 (keepc hb1 z0), keepc hb2 (keepc hb1 z1)⟩
            have HX : Hid (RnAt w2 wr.heap.size 0 r) := RnAt.below (by refine ⟨?_, ?_, ?_, ?_⟩ <;> simp [go_sem]) hb2
            have HY : Hid (RnAt w2 (wr.heap.size + 1) 0 s) := RnAt.below (by refine ⟨?_, ?_, ?_, ?_⟩ <;> simp [go_sem]) hb2
            clear hb1 hb2 z0 z1 KC r0 r1 r2 r3 s0 s1 s2 s3
            rcases hz with rfl | rfl | rfl
            · replace hD : Hid (adjG (l.drop k) = (!smR r s && adjG (l.drop (k + 1)))) := hD
              obtain ⟨a0, a1, a2, a3⟩ := HX.out
              obtain ⟨d0, d1, d2, d3⟩ := HY.out
              go_wp2_with fail
              refine (KS _).mono ?_
              rintro e w3 ⟨rfl, hb3⟩
              have HB3 := hid13 (keepb hb3 HB2.out)
              have HA3 := hid13 (HA2.out.below hb3)
              clear a0 a1 a2 a3 d0 d1 d2 d3 HX HY hb3 KS HA2 HB2
              generalize smR r s = t at *
              cases t with
              | true =>
                have HE : Hid (adjG l = false) := by show _ = _; rw [← hG.out, hD.out]; rfl
                go_wp2
                go_ret
                exact ⟨by rw [HE.out]; rfl, HB3.out⟩
              | false =>
                have HE : Hid (adjG (l.drop (k + 1)) = adjG l) := by show _ = _; rw [← hG.out, hD.out]; rfl
                have w2' : IntKind.i64.wrap (((k + 1 : Nat) : Int) + 1) = ((k + 1 + 1 : Nat) : Int) := by rw [IntKind.wrap_i64]; have := HH.out; omega
                clear hD hG
                go_wp2
                go_roundw
                case rel => exact ⟨k + 1, by omega, by first | rfl | simp, HE, HB3, HA3.out⟩
                case measure => first | (simp [intOf]; omega) | (unfold intOf; simp; omega)
            · have HE : Hid (adjG l = false) := by show _ = _; rw [← hG.out, hD.out]; rfl
              clear hD hG HX HY KS
              go_wp2
              go_ret
              exact ⟨by rw [HE.out]; rfl, HB2.out⟩
            · have HE : Hid (adjG l = false) := by show _ = _; rw [← hG.out, hD.out]; rfl
              clear hD hG HX HY KS
              go_wp2
              go_ret
              exact ⟨by rw [HE.out]; rfl, HB2.out⟩
          · go_wp2_with fail
            refine (KC _).mono ?_
            rintro e w2 ⟨rfl, hb2⟩
            have hb1 := (bl2 wr (.cells #[.int .u64 (hI s.f), .int .u64 (lI s.f), .bool s.k, .int .i64 s.n] 50) (.cells #[.int .u64 (hI r.f), .int .u64 (lI r.f), .bool r.k, .int .i64 r.n] 50)).drew
            have HB2 := hid13 (keepb hb2 (keepb hb1 hB.out))
            have HA2 : Hid (AtD w2 w.heap.size b (.slice (some ⟨bb, off, none⟩) l.length c)) := ⟨keepc hb2 (keepc hb1 z0), keepc hb2 (keepc hb1 z1)⟩
            have HX : Hid (RnAt w2 (wr.heap.size + 1) 0 r) := RnAt.below (by refine ⟨?_, ?_, ?_, ?_⟩ <;> simp [go_sem]) hb2
            have HY : Hid (RnAt w2 wr.heap.size 0 s) := RnAt.below (by refine ⟨?_, ?_, ?_, ?_⟩ <;> simp [go_sem]) hb2
            clear hb1 hb2 z0 z1 KC r0 r1 r2 r3 s0 s1 s2 s3
            rcases hz with rfl | rfl | rfl
            · replace hD : Hid (adjG (l.drop k) = (!smR r s && adjG (l.drop (k + 1)))) := hD
              obtain ⟨a0, a1, a2, a3⟩ := HX.out
              obtain ⟨d0, d1, d2, d3⟩ := HY.out
              go_wp2_with fail
              refine (KS _).mono ?_
              rintro e w3 ⟨rfl, hb3⟩
              have HB3 := hid13 (keepb hb3 HB2.out)
              have HA3 := hid13 (HA2.out.below hb3)
              clear a0 a1 a2 a3 d0 d1 d2 d3 HX HY hb3 KS HA2 HB2
              generalize smR r s = t at *
              cases t with
              | true =>
                have HE : Hid (adjG l = false) := by show _ = _; rw [← hG.out, hD.out]; rfl
                go_wp2
                go_ret
                exact ⟨by rw [HE.out]; rfl, HB3.out⟩
              | false =>
                have HE : Hid (adjG (l.drop (k + 1)) = adjG l) := by show _ = _; rw [← hG.out, hD.out]; rfl
                have w2' : IntKind.i64.wrap (((k + 1 : Nat) : Int) + 1) = ((k + 1 + 1 : Nat) : Int) := by rw [IntKind.wrap_i64]; have := HH.out; omega
                clear hD hG
                go_wp2
                go_roundw
                case rel => exact ⟨k + 1, by omega, by first | rfl | simp, HE, HB3, HA3.out⟩
                case measure => first | (simp [intOf]; omega) | (unfold intOf; simp; omega)
            · have HE : Hid (adjG l = false) := by show _ = _; rw [← hG.out, hD.out]; rfl
              clear hD hG HX HY KS
              go_wp2
              go_ret
              exact ⟨by rw [HE.out]; rfl, HB2.out⟩
            · have HE : Hid (adjG l = false) := by show _ = _; rw [← hG.out, hD.out]; rfl
              clear hD hG HX HY KS
              go_wp2
              go_ret
              exact ⟨by rw [HE.out]; rfl, HB2.out⟩
        · have hkN : k = N := by have := HN.out; omega
          subst hkN
          have HE : Hid (adjG l = true) := by show _ = _; rw [← hG.out]; exact adj_end l k (by omega)
          obtain ⟨r0, r1, r2, r3⟩ := (HC.out k _ (List.getElem?_eq_getElem (by omega)))
          have r0 := keepc hB.out r0
          have r1 := keepc hB.out r1
          have w1 : IntKind.i64.wrap ((l.length : Int) - 1) = (k : Int) := by rw [IntKind.wrap_i64]; have := HH.out; have := HN.out; omega
          have b1 : w.heap.size < wr.heap.size := cell_in z0
          have b2 : bb < wr.heap.size := cell_in r0
          have k1 : (k : Int) < (l.length : Int) := by have := HN.out; omega
          have KS := fun w => shr_any l[k].f b w
          have eZ : l[l.length - 1] = l[k] := by congr 1
          have HF : Hid (l[l.length - 1].f >>> b.toNat = l[k].f >>> b.toNat) := by show _ = _; rw [eZ]
          clear eZ
          have E9 := fun w => eqWz (l[k].f >>> b.toNat) w
          generalize l[k] = r at *
          clear hG HZ
          go_wp2_with fail
          refine (KS _).mono ?_
          rintro e w2 ⟨rfl, hb2⟩
          have HB2 := hid13 (keepb hb2 (keepb (bl1 wr _) hB.out))
          clear hb2 KS r0 r1 z0 z1
          go_wp2
          go_ret
          exact ⟨by rw [HE.out, HF.out]; rfl, HB2.out⟩
end Go.Proofs.Ytdpmhpmnkollaaa
