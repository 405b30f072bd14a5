/-
  Part 6 of the proof: 10 texts, one behind the other.
-/
import Derived.Test.YtbgoclfifhdonaaPart5
import Derived.Test.YtbgoclfifhdonaaPart1
import Derived.Deep.RegionHeld3
import Derived.BigQuiet
import Derived.WalkMore
import Derived.Deep.LoopGhost
import Derived.Test.YtbgoclfifhdonaaPart3
import Derived.Test.YtbgoclfifhdonaaPart4
import Derived.Test.YtbgoclfifhdonaaPart2
namespace Go.Proofs.Ytbgoclfifhdonaa
open Go.RowKit
set_option linter.unusedSimpArgs false
set_option linter.unusedVariables false

set_option maxHeartbeats 400000 in
theorem put_any (x : BitVec 128) (i b : Int) (w : World) (hb : b = 0 ∨ b = 1) (h0 : 0 ≤ i) (h1 : i ≤ 127) :
    Calls Try.prog 49 #[.agg #[.int .u64 (hI x), .int .u64 (lI x)], .int .i64 i, .int .i64 b] w fun e w' => e = .returned (.agg #[.int .u64 (hI (putW x i b)), .int .u64 (lI (putW x i b))]) ∧ Below w.heap.size w w' := by
  by_cases h2 : i < 64
  · rcases hb with rfl | rfl
    · rw [put_l0 x i 0 (Or.inl rfl) h0 h2, ← put_h0 x i h0 h2]
      go_enter Try.func49, Try.ntmps49
      go_wp2
      go_region
      all_goals go_wp2
      all_goals exact bodyPost_ret (v := .agg #[.int .u64 (bits .or .u64 (bits .andNot .u64 (hI x) (IntKind.u64.wrap (2 ^ (63 - i).toNat))) 0), .int .u64 (lI x)]) (by simp [results, Try.results49, go_sem]) rfl ⟨rfl, (bl2 _ _ _).drew⟩
    · rw [put_l0 x i 1 (Or.inr rfl) h0 h2, ← put_h1 x i h0 h2]
      go_enter Try.func49, Try.ntmps49
      go_wp2
      go_region
      all_goals go_wp2
      all_goals exact bodyPost_ret (v := .agg #[.int .u64 (bits .or .u64 (bits .andNot .u64 (hI x) (IntKind.u64.wrap (2 ^ (63 - i).toNat))) (IntKind.u64.wrap (2 ^ (63 - i).toNat))), .int .u64 (lI x)]) (by simp [results, Try.results49, go_sem]) rfl ⟨rfl, (bl2 _ _ _).drew⟩
  · rcases hb with rfl | rfl
    · rw [put_hh x i 0 (Or.inl rfl) (by omega) h1, ← put_l00 x i (by omega) h1]
      go_enter Try.func49, Try.ntmps49
      go_wp2
      go_region
      all_goals go_wp2
      all_goals exact bodyPost_ret (v := .agg #[.int .u64 (hI x), .int .u64 (bits .or .u64 (bits .andNot .u64 (lI x) (IntKind.u64.wrap (2 ^ (127 - i).toNat))) 0)]) (by simp [results, Try.results49, go_sem]) rfl ⟨rfl, (bl2 _ _ _).drew⟩
    · rw [put_hh x i 1 (Or.inr rfl) (by omega) h1, ← put_l1 x i (by omega) h1]
      go_enter Try.func49, Try.ntmps49
      go_wp2
      go_region
      all_goals go_wp2
      all_goals exact bodyPost_ret (v := .agg #[.int .u64 (hI x), .int .u64 (bits .or .u64 (bits .andNot .u64 (lI x) (IntKind.u64.wrap (2 ^ (127 - i).toNat))) (IntKind.u64.wrap (2 ^ (127 - i).toNat)))]) (by simp [results, Try.results49, go_sem]) rfl ⟨rfl, (bl2 _ _ _).drew⟩

def At (w : World) (B : Nat) (x : BitVec 128) : Prop := w.cell? ⟨B, 0, none⟩ = some (.int .u64 (hI x)) ∧ w.cell? ⟨B, 1, none⟩ = some (.int .u64 (lI x)) ∧ w.frozen? ⟨B, 0, none⟩ = false ∧ w.frozen? ⟨B, 1, none⟩ = false ∧ B < w.heap.size
theorem At.below {w w' : World} {B : Nat} {x : BitVec 128} (h : At w B x) (hb : Below w.heap.size w w') : At w' B x := by
  obtain ⟨h0, h1, h2, h3, h4⟩ := h
  obtain ⟨hc, hf⟩ := bcell hb
  exact ⟨by rw [hc _ _ h4]; exact h0, by rw [hc _ _ h4]; exact h1, by rw [hf _ _ h4]; exact h2, by rw [hf _ _ h4]; exact h3, Nat.lt_of_lt_of_le h4 hb.size⟩
theorem At.set {w : World} {B : Nat} {x : BitVec 128} (y : BitVec 128) (h : At w B x) : At ((w.setCell ⟨B, 0, none⟩ (.int .u64 (hI y))).setCell ⟨B, 1, none⟩ (.int .u64 (lI y))) B y := by
  obtain ⟨h0, h1, h2, h3, h4⟩ := h
  refine ⟨?_, ?_, ?_, ?_, ?_⟩ <;> simp [go_sem, *]

theorem At.other {w : World} {B C : Nat} {x : BitVec 128} (u v : Value) (h : At w B x) (hn : B ≠ C) : At ((w.setCell ⟨C, 0, none⟩ u).setCell ⟨C, 1, none⟩ v) B x := by
  obtain ⟨h0, h1, h2, h3, h4⟩ := h
  have hn' : ¬ C = B := fun e => hn e.symm
  refine ⟨?_, ?_, ?_, ?_, ?_⟩ <;> simp [go_sem, *]
theorem maskW_end (n : Int) (k : Nat) (hk : k ≤ 128) (hkn : k = 0 ∨ (k : Int) ≤ n) (hc : ¬ ((k : Int) < n ∧ k < 128)) : maskW (k : Int) = maskW n := by
  by_cases h : n ≤ 0
  · have : k = 0 := by omega
    subst this
    rw [maskW_neg n h]; exact maskW_0
  · by_cases g : (k : Int) = n
    · rw [g]
    · have : k = 128 := by omega
      subst this
      rw [maskW_all n (by omega)]; rfl

set_option maxHeartbeats 400000 in
theorem rmask_any (n : Int) (w : World) :
    Calls Try.prog 35 #[.int .i64 n] w fun e w' => e = .returned (.agg #[.int .u64 (hI (maskW n)), .int .u64 (lI (maskW n))]) ∧ Below w.heap.size w w' := by
  go_enter Try.func35, Try.ntmps35
  go_wp2
  go_loopw [4] (fun i wr => ∃ k : Nat, k ≤ 128 ∧ (k = 0 ∨ (k : Int) ≤ n) ∧ i = .int .i64 k ∧ At wr (w.heap.size + 1) (maskW k) ∧ At wr w.heap.size 0#128 ∧ Below w.heap.size w wr)
    (fun i _ => 128 - (intOf i).toNat)
  case atStart =>
    refine ⟨0, by omega, Or.inl rfl, rfl, ?_, ?_, bl2 _ _ _⟩
    · show At _ _ (maskW 0)
      rw [maskW_0]; refine ⟨?_, ?_, ?_, ?_, ?_⟩ <;> simp [go_sem, hI_zero, lI_zero]
    · refine ⟨?_, ?_, ?_, ?_, ?_⟩ <;> simp [go_sem, hI_zero, lI_zero]
  case round =>
    obtain ⟨k, hk, hkn, rfl, hA, hR, hB⟩ := hrel
    by_cases hc : (k : Int) < n ∧ k < 128
    · obtain ⟨h1, h2⟩ := hc
      have h3 : (k : Int) < 128 := by omega
      obtain ⟨a0, a1, a2, a3, a4⟩ := id hA
      clear hkn
      go_wp2_with fail
      refine (put_any _ _ _ _ (Or.inr rfl) (by omega) (by omega)).mono ?_
      rintro e w1 ⟨rfl, hb1⟩
      have hA1 := hA.below hb1
      have hR1 := hR.below hb1
      obtain ⟨b0, b1, b2, b3, b4⟩ := id hA1
      go_wp2
      go_roundw
      case rel =>
        refine ⟨k + 1, by omega, Or.inr (by omega), by go_num, ?_, ?_, ?_⟩
        · rw [← maskW_succ k h2]; exact hA1.set _
        · exact hR1.other _ _ (by omega)
        · exact ((hB.trans (hb1.mono hB.size)).setCell (by simp) _).setCell (by simp) _
      case measure => simp [intOf]; omega
    · have he := maskW_end n k hk hkn hc
      obtain ⟨a0, a1, a2, a3, a4⟩ := id hA
      obtain ⟨r0, r1, r2, r3, r4⟩ := id hR
      have HE : Hid (maskW (k : Int) = maskW n) := he
      clear he
      by_cases h1 : (k : Int) < n
      · have h2 : ¬ (k : Int) < 128 := by omega
        clear hkn hc
        go_wp2
        exact bodyPost_ret (v := .agg #[.int .u64 (hI (maskW k)), .int .u64 (lI (maskW k))]) (by simp [results, Try.results35, go_sem, *]) rfl ⟨by rw [HE.out], (hB.setCell (by simp) _).setCell (by simp) _⟩
      · clear hkn hc
        go_wp2
        exact bodyPost_ret (v := .agg #[.int .u64 (hI (maskW k)), .int .u64 (lI (maskW k))]) (by simp [results, Try.results35, go_sem, *]) rfl ⟨by rw [HE.out], (hB.setCell (by simp) _).setCell (by simp) _⟩

end Go.Proofs.Ytbgoclfifhdonaa
namespace Go.Proofs.Ytbgoclfifhdonaa
open Go.RowKit
set_option linter.unusedSimpArgs false
set_option linter.unusedVariables false

end Go.Proofs.Ytbgoclfifhdonaa
namespace Go.Proofs.Ytbgoclfifhdonaa
open Go.RowKit
set_option linter.unusedSimpArgs false
set_option linter.unusedVariables false

end Go.Proofs.Ytbgoclfifhdonaa
namespace Go.Proofs.Ytbgoclfifhdonaa
open Go.RowKit
set_option linter.unusedSimpArgs false
set_option linter.unusedVariables false

theorem at_new (w : World) (B : Nat) (x : BitVec 128) (T : TypeId) (h : B = w.heap.size) : At (w.alloc (.cells #[.int .u64 (hI x), .int .u64 (lI x)] T)) B x := by
  subst h
  refine ⟨?_, ?_, ?_, ?_, ?_⟩ <;> simp [go_sem]

theorem bset2 {n C : Nat} {w W : World} (h : Below n w W) (hp : n ≤ C) (u v : Value) : Below n w ((W.setCell ⟨C, 0, none⟩ u).setCell ⟨C, 1, none⟩ v) := (h.setCell hp _).setCell hp _

end Go.Proofs.Ytbgoclfifhdonaa
namespace Go.Proofs.Ytbgoclfifhdonaa
open Go.RowKit
set_option linter.unusedSimpArgs false
set_option linter.unusedVariables false

def fam (F : Int) : Bool := decide (F = 32) || decide (F = 128)
theorem fam_ways (F : Int) (h : fam F = true) : F = 32 ∨ F = 128 := by unfold fam at h; simpa using h
theorem fam_no (F : Int) (h : fam F = false) : ¬ F = 32 ∧ ¬ F = 128 := by unfold fam at h; simpa using h
def lastV (F : Int) : BitVec 128 := if fam F = true then maskW F else 0#128
def lastE (F : Int) : Int := if fam F = true then 0 else 11
def rightE (F : Int) (x : BitVec 128) : Int := if fam F = true then (if x &&& maskW F = x then 0 else 6) else 11
theorem and_not_mask (F : Int) (x : BitVec 128) : (x &&& ~~~(maskW F) = 0#128) ↔ x &&& maskW F = x := by
  constructor
  · intro h
    apply BitVec.eq_of_getLsbD_eq; intro i hi
    have := congrArg (fun z => z.getLsbD i) h
    simp only [BitVec.getLsbD_and, BitVec.getLsbD_not, BitVec.getLsbD_zero, hi, decide_true, Bool.true_and] at this ⊢
    cases hx : x.getLsbD i <;> cases hm : (maskW F).getLsbD i <;> rw [hx, hm] at this <;> simp at this ⊢
  · intro h
    apply BitVec.eq_of_getLsbD_eq; intro i hi
    have := congrArg (fun z => z.getLsbD i) h
    simp only [BitVec.getLsbD_and, BitVec.getLsbD_not, BitVec.getLsbD_zero, hi, decide_true, Bool.true_and] at this ⊢
    cases hx : x.getLsbD i <;> cases hm : (maskW F).getLsbD i <;> rw [hx, hm] at this <;> simp at this ⊢
end Go.Proofs.Ytbgoclfifhdonaa
namespace Go.Proofs.Ytbgoclfifhdonaa
open Go.RowKit
set_option linter.unusedSimpArgs false
set_option linter.unusedVariables false

set_option maxHeartbeats 1000000 in
theorem alast_any (F : Int) (w : World) :
    Calls Try.prog 43 #[.int .i64 F] w fun e w' => e = .returned (.tuple #[.agg #[.int .u64 (hI (lastV F)), .int .u64 (lI (lastV F))], .int .i64 (lastE F)]) ∧ Below w.heap.size w w' := by
  unfold lastV lastE
  cases h : fam F
  · rw [if_neg (by simp), if_neg (by simp), hI_zero, lI_zero]
    obtain ⟨h1, h2⟩ := fam_no F h
    have b1 : (F != 32) = true := by simp [h1]
    have b2 : (F != 128) = true := by simp [h2]
    clear h
    go_enter Try.func43, Try.ntmps43
    go_wp2
    exact bodyPost_ret (v := .tuple #[.agg #[.int .u64 0, .int .u64 0], .int .i64 11]) (by simp [results, Try.results43, go_sem]) rfl ⟨rfl, bl1 _ _⟩
  · rw [if_pos rfl, if_pos rfl]
    rcases fam_ways F h with rfl | rfl
    all_goals
      clear h
      go_enter Try.func43, Try.ntmps43
      go_wp2_with fail
      refine (mask_any _ _).mono ?_
      rintro e w1 ⟨rfl, hb1⟩
      have hZ := (at_new w w.heap.size 0#128 25 rfl).below hb1
      have kB := keepb hb1 (bl1 w _)
      obtain ⟨z0, z1, z2, z3, z4⟩ := hZ
      clear hb1
      go_wp2
      exact bodyPost_ret (by simp [results, Try.results43, go_sem, *]) rfl ⟨rfl, bset2 kB (Nat.le_refl _) _ _⟩

set_option maxHeartbeats 1000000 in
theorem aright_any (F : Int) (x : BitVec 128) (w : World) :
    Calls Try.prog 29 #[.int .i64 F, .agg #[.int .u64 (hI x), .int .u64 (lI x)]] w fun e w' => e = .returned (.int .i64 (rightE F x)) ∧ Below w.heap.size w w' := by
  have KL := fun w => alast_any F w
  unfold lastV lastE at KL
  unfold rightE
  cases h : fam F
  · rw [if_neg (by simp)]
    rw [h, if_neg (by simp), if_neg (by simp), hI_zero, lI_zero] at KL
    clear h
    go_enter Try.func29, Try.ntmps29
    go_wp2_with fail
    refine (KL _).mono ?_
    rintro e w1 ⟨rfl, hb1⟩
    have kB := keepb hb1 (bl1 w _)
    clear hb1 KL
    go_wp2
    go_ret
    exact ⟨rfl, kB.alloc (by have := kB.size; omega) _⟩
  · rw [if_pos rfl]
    rw [h, if_pos rfl, if_pos rfl] at KL
    clear h
    generalize maskW F = m at *
    have KA := fun w => and_any x m w
    revert KA
    generalize x &&& m = y
    intro KA
    have fin : ∀ (v : Int), v = (if y = x then 0 else 6) → ((hI y == hI x) = true ∧ (lI y == lI x) = true ∧ v = 0 ∨ (hI y == hI x) = false ∧ v = 6 ∨ (hI y == hI x) = true ∧ (lI y == lI x) = false ∧ v = 6) := by
      intro v hv
      by_cases e : y = x
      · rw [if_pos e] at hv
        exact Or.inl ⟨by simp [e], by simp [e], hv⟩
      · rw [if_neg e] at hv
        by_cases e1 : hI y = hI x
        · exact Or.inr (Or.inr ⟨by simp [e1], by simp; exact fun e2 => e (eq_ints e1 e2), hv⟩)
        · exact Or.inr (Or.inl ⟨by simp [e1], hv⟩)
    generalize (if y = x then (0 : Int) else 6) = v at *
    rcases fin v rfl with ⟨q1, q2, rfl⟩ | ⟨q1, rfl⟩ | ⟨q1, q2, rfl⟩
    all_goals
      clear fin
      go_enter Try.func29, Try.ntmps29
      go_wp2_with fail
      refine (KL _).mono ?_
      rintro e w1 ⟨rfl, hb1⟩
      have kB := keepb hb1 (bl1 w _)
      have x0 : (w1.alloc (.cells #[.int .u64 (hI m), .int .u64 (lI m)] 25)).cell? ⟨w.heap.size, 0, none⟩ = some (.int .u64 (hI x)) := keepc (bl1 _ _) (keepc hb1 (by simp [go_sem]))
      have x1 : (w1.alloc (.cells #[.int .u64 (hI m), .int .u64 (lI m)] 25)).cell? ⟨w.heap.size, 1, none⟩ = some (.int .u64 (lI x)) := keepc (bl1 _ _) (keepc hb1 (by simp [go_sem]))
      have kB2 := (kB.alloc (by have := kB.size; omega) (.cells #[.int .u64 (hI m), .int .u64 (lI m)] 25)).drew
      clear hb1 KL kB
      go_wp2_with fail
      go_region_held3 (fun w' => w'.cell? ⟨w.heap.size, 0, none⟩ = some (.int .u64 (hI x)) ∧ w'.cell? ⟨w.heap.size, 1, none⟩ = some (.int .u64 (lI x)) ∧ w'.cell? ⟨w1.heap.size, 0, none⟩ = some (.int .u64 (hI m)) ∧ w'.cell? ⟨w1.heap.size, 1, none⟩ = some (.int .u64 (lI m)) ∧ Below w.heap.size w w')
        (first
          | (obtain ⟨k1, k2, k3, k4, k9⟩ := ‹_ ∧ _›; exact ⟨keepc hb3 k1, keepc hb3 k2, keepc hb3 k3, keepc hb3 k4, keepb hb3 k9⟩)
          | exact ⟨x0, x1, by simp [go_sem], by simp [go_sem], kB2⟩)
        (first
          | (go_at_call 44; refine (KA _).mono ?_; rintro e w3 ⟨rfl, hb3⟩))
      obtain ⟨-, -, -, -, kB3⟩ := ‹_ ∧ _›
      go_wp2
      go_ret
      exact ⟨rfl, kB3⟩
end Go.Proofs.Ytbgoclfifhdonaa
namespace Go.Proofs.Ytbgoclfifhdonaa
open Go.RowKit
set_option linter.unusedSimpArgs false
set_option linter.unusedVariables false

structure Mc where
  pl : Int
  en : Bool
  hop : Int
  err : Int
  st : Int
  ex : Int
  ix : Int
  bt : Int
  hb : Int
  hn : Int
def mcA (F : Int) (vc : Value) (x : BitVec 128) (m : Mc) : Array Value := #[.int .i64 F, vc, .int .u64 (hI x), .int .u64 (lI x), .int .i64 m.pl, .bool m.en, .int .i64 m.hop, .int .i64 m.err, .int .i64 m.st, .int .i64 m.ex, .int .i64 m.ix, .int .i64 m.bt, .int .i64 m.hb, .int .i64 m.hn]
def MV (w : World) (B : Nat) (F : Int) (vc : Value) (x : BitVec 128) (m : Mc) : Prop := w.heap[B]? = some (.cells (mcA F vc x m) 50)
structure KM (B : Nat) (w w' : World) : Prop where
  lo : Below B w w'
  ot : KX (· = B) w w'
theorem KM.refl (B : Nat) (w : World) : KM B w w := ⟨Below.refl _ _, KX.refl _ _⟩
theorem KM.trans {B : Nat} {a b c : World} (h : KM B a b) (g : KM B b c) : KM B a c := ⟨h.lo.trans g.lo, h.ot.trans g.ot⟩
theorem KM.below {B : Nat} {a b c : World} (h : KM B a b) (hB : B < a.heap.size) (g : Below b.heap.size b c) : KM B a c := ⟨h.lo.trans (g.mono (by have := h.ot.1; omega)), h.ot.below g⟩
theorem KM.set {B o : Nat} {a b : World} (h : KM B a b) (u : Value) : KM B a (b.setCell ⟨B, o, none⟩ u) := ⟨h.lo.setCell (p := ⟨B, o, none⟩) (Nat.le_refl _) u, h.ot.set B o u (.inl rfl)⟩
theorem KM.setN {B N o : Nat} {a b : World} (h : KM B a b) (hB : B < a.heap.size) (hN : a.heap.size ≤ N) (u : Value) : KM B a (b.setCell ⟨N, o, none⟩ u) := ⟨h.lo.setCell (p := ⟨N, o, none⟩) (show B ≤ N by omega) u, h.ot.set N o u (.inr hN)⟩
theorem MV.below {w w' : World} {B : Nat} {F : Int} {vc : Value} {x : BitVec 128} {m : Mc} (h : MV w B F vc x m) (hb : Below w.heap.size w w') : MV w' B F vc x m := (hb.block B (lt_16 h)).trans h
theorem MV.lt {w : World} {B : Nat} {F : Int} {vc : Value} {x : BitVec 128} {m : Mc} (h : MV w B F vc x m) : B < w.heap.size := lt_16 h
theorem MV.fr {w : World} {B : Nat} {F : Int} {vc : Value} {x : BitVec 128} {m : Mc} (h : MV w B F vc x m) (j : Nat) : w.frozen? ⟨B, j, none⟩ = false := fr_16 h
theorem MV.cl {w : World} {B : Nat} {F : Int} {vc : Value} {x : BitVec 128} {m : Mc} (h : MV w B F vc x m) (j : Nat) (u : Value) (hj : (mcA F vc x m)[j]? = some u) : w.cell? ⟨B, j, none⟩ = some u := at_16 h j u hj
theorem MV.st {w : World} {B : Nat} {F : Int} {vc : Value} {x : BitVec 128} {m m' : Mc} (h : MV w B F vc x m) (j : Nat) (u : Value) (hj : (mcA F vc x m).setIfInBounds j u = mcA F vc x m') : MV (w.setCell ⟨B, j, none⟩ u) B F vc x m' := by
  unfold MV; rw [← hj]; exact set_16 h u
theorem MV.c0 {w : World} {B : Nat} {F : Int} {vc : Value} {x : BitVec 128} {m : Mc} (h : MV w B F vc x m) : w.cell? ⟨B, 0, none⟩ = some (.int .i64 F) := h.cl 0 _ rfl
theorem MV.c1 {w : World} {B : Nat} {F : Int} {vc : Value} {x : BitVec 128} {m : Mc} (h : MV w B F vc x m) : w.cell? ⟨B, 1, none⟩ = some (vc) := h.cl 1 _ rfl
theorem MV.c2 {w : World} {B : Nat} {F : Int} {vc : Value} {x : BitVec 128} {m : Mc} (h : MV w B F vc x m) : w.cell? ⟨B, 2, none⟩ = some (.int .u64 (hI x)) := h.cl 2 _ rfl
theorem MV.c3 {w : World} {B : Nat} {F : Int} {vc : Value} {x : BitVec 128} {m : Mc} (h : MV w B F vc x m) : w.cell? ⟨B, 3, none⟩ = some (.int .u64 (lI x)) := h.cl 3 _ rfl
theorem MV.c4 {w : World} {B : Nat} {F : Int} {vc : Value} {x : BitVec 128} {m : Mc} (h : MV w B F vc x m) : w.cell? ⟨B, 4, none⟩ = some (.int .i64 m.pl) := h.cl 4 _ rfl
theorem MV.c5 {w : World} {B : Nat} {F : Int} {vc : Value} {x : BitVec 128} {m : Mc} (h : MV w B F vc x m) : w.cell? ⟨B, 5, none⟩ = some (.bool m.en) := h.cl 5 _ rfl
theorem MV.c6 {w : World} {B : Nat} {F : Int} {vc : Value} {x : BitVec 128} {m : Mc} (h : MV w B F vc x m) : w.cell? ⟨B, 6, none⟩ = some (.int .i64 m.hop) := h.cl 6 _ rfl
theorem MV.c7 {w : World} {B : Nat} {F : Int} {vc : Value} {x : BitVec 128} {m : Mc} (h : MV w B F vc x m) : w.cell? ⟨B, 7, none⟩ = some (.int .i64 m.err) := h.cl 7 _ rfl
theorem MV.c8 {w : World} {B : Nat} {F : Int} {vc : Value} {x : BitVec 128} {m : Mc} (h : MV w B F vc x m) : w.cell? ⟨B, 8, none⟩ = some (.int .i64 m.st) := h.cl 8 _ rfl
theorem MV.c9 {w : World} {B : Nat} {F : Int} {vc : Value} {x : BitVec 128} {m : Mc} (h : MV w B F vc x m) : w.cell? ⟨B, 9, none⟩ = some (.int .i64 m.ex) := h.cl 9 _ rfl
theorem MV.c10 {w : World} {B : Nat} {F : Int} {vc : Value} {x : BitVec 128} {m : Mc} (h : MV w B F vc x m) : w.cell? ⟨B, 10, none⟩ = some (.int .i64 m.ix) := h.cl 10 _ rfl
theorem MV.c11 {w : World} {B : Nat} {F : Int} {vc : Value} {x : BitVec 128} {m : Mc} (h : MV w B F vc x m) : w.cell? ⟨B, 11, none⟩ = some (.int .i64 m.bt) := h.cl 11 _ rfl
theorem MV.c12 {w : World} {B : Nat} {F : Int} {vc : Value} {x : BitVec 128} {m : Mc} (h : MV w B F vc x m) : w.cell? ⟨B, 12, none⟩ = some (.int .i64 m.hb) := h.cl 12 _ rfl
theorem MV.c13 {w : World} {B : Nat} {F : Int} {vc : Value} {x : BitVec 128} {m : Mc} (h : MV w B F vc x m) : w.cell? ⟨B, 13, none⟩ = some (.int .i64 m.hn) := h.cl 13 _ rfl
theorem MV.s4 {w : World} {B : Nat} {F : Int} {vc : Value} {x : BitVec 128} {m : Mc} (h : MV w B F vc x m) (v : Int) : MV (w.setCell ⟨B, 4, none⟩ (.int .i64 v)) B F vc x { m with pl := v } := h.st 4 _ rfl
theorem MV.s6 {w : World} {B : Nat} {F : Int} {vc : Value} {x : BitVec 128} {m : Mc} (h : MV w B F vc x m) (v : Int) : MV (w.setCell ⟨B, 6, none⟩ (.int .i64 v)) B F vc x { m with hop := v } := h.st 6 _ rfl
theorem MV.s7 {w : World} {B : Nat} {F : Int} {vc : Value} {x : BitVec 128} {m : Mc} (h : MV w B F vc x m) (v : Int) : MV (w.setCell ⟨B, 7, none⟩ (.int .i64 v)) B F vc x { m with err := v } := h.st 7 _ rfl
theorem MV.s8 {w : World} {B : Nat} {F : Int} {vc : Value} {x : BitVec 128} {m : Mc} (h : MV w B F vc x m) (v : Int) : MV (w.setCell ⟨B, 8, none⟩ (.int .i64 v)) B F vc x { m with st := v } := h.st 8 _ rfl
theorem MV.s9 {w : World} {B : Nat} {F : Int} {vc : Value} {x : BitVec 128} {m : Mc} (h : MV w B F vc x m) (v : Int) : MV (w.setCell ⟨B, 9, none⟩ (.int .i64 v)) B F vc x { m with ex := v } := h.st 9 _ rfl
theorem MV.s10 {w : World} {B : Nat} {F : Int} {vc : Value} {x : BitVec 128} {m : Mc} (h : MV w B F vc x m) (v : Int) : MV (w.setCell ⟨B, 10, none⟩ (.int .i64 v)) B F vc x { m with ix := v } := h.st 10 _ rfl
theorem MV.s11 {w : World} {B : Nat} {F : Int} {vc : Value} {x : BitVec 128} {m : Mc} (h : MV w B F vc x m) (v : Int) : MV (w.setCell ⟨B, 11, none⟩ (.int .i64 v)) B F vc x { m with bt := v } := h.st 11 _ rfl
theorem MV.s12 {w : World} {B : Nat} {F : Int} {vc : Value} {x : BitVec 128} {m : Mc} (h : MV w B F vc x m) (v : Int) : MV (w.setCell ⟨B, 12, none⟩ (.int .i64 v)) B F vc x { m with hb := v } := h.st 12 _ rfl
theorem MV.s13 {w : World} {B : Nat} {F : Int} {vc : Value} {x : BitVec 128} {m : Mc} (h : MV w B F vc x m) (v : Int) : MV (w.setCell ⟨B, 13, none⟩ (.int .i64 v)) B F vc x { m with hn := v } := h.st 13 _ rfl
theorem MV.s5 {w : World} {B : Nat} {F : Int} {vc : Value} {x : BitVec 128} {m : Mc} (h : MV w B F vc x m) (v : Bool) : MV (w.setCell ⟨B, 5, none⟩ (.bool v)) B F vc x { m with en := v } := h.st 5 _ rfl
theorem MV.far {w : World} {B : Nat} {F : Int} {vc : Value} {x : BitVec 128} {m : Mc} (h : MV w B F vc x m) {N o : Nat} (hN : B ≠ N) (u : Value) : MV (w.setCell ⟨N, o, none⟩ u) B F vc x m := (far_16 hN).trans h

set_option maxHeartbeats 2000000 in
theorem end19 (B : Nat) (F : Int) (vc : Value) (x : BitVec 128) (m : Mc) (e : Int) (w : World) (h : MV w B F vc x m) :
    Calls Try.prog 22 #[.pointer (some ⟨B, 0, none⟩), .int .i64 e] w fun r w' => r = .returned (.tuple #[]) ∧ MV w' B F vc x { m with en := true, err := e } ∧ KM B w w' := by
  have HM := hid13 h
  have c5 := h.c5
  have f5 := h.fr 5
  have c7 := h.c7
  have f7 := h.fr 7
  clear h
  go_enter Try.func22, Try.ntmps22
  go_wp2
  exact bodyPost_end (v := .tuple #[]) (by simp [results, Try.results22, go_sem]) rfl ⟨rfl, (HM.out.s5 true).s7 e, ((KM.refl B w).set _).set _⟩
set_option maxHeartbeats 2000000 in
theorem moveTo19 (B : Nat) (F : Int) (vc : Value) (x : BitVec 128) (m : Mc) (a b c : Int) (w : World) (h : MV w B F vc x m) :
    Calls Try.prog 48 #[.pointer (some ⟨B, 0, none⟩), .int .i64 a, .agg #[.int .i64 b, .int .i64 c]] w fun r w' => r = .returned (.tuple #[]) ∧ MV w' B F vc x { m with pl := a, hb := b, hn := c } ∧ KM B w w' := by
  have q1 := bl1 w (.cells #[.int .i64 b, .int .i64 c] 48)
  have HM := hid13 (h.below q1)
  have HB := hid13 h.lt
  have HQ := hid13 q1
  have hne : ¬ w.heap.size = B := by have := h.lt; omega
  have hne2 : ¬ B = w.heap.size := by have := h.lt; omega
  have c4 := HM.out.c4
  have f4 := HM.out.fr 4
  have c12 := HM.out.c12
  have f12 := HM.out.fr 12
  have c13 := HM.out.c13
  have f13 := HM.out.fr 13
  clear h q1
  go_enter Try.func48, Try.ntmps48
  go_wp2
  exact bodyPost_end (v := .tuple #[]) (by simp [results, Try.results48, go_sem]) rfl ⟨rfl, ((HM.out.s4 a).s12 b).s13 c, ((((KM.refl B w).below HB.out HQ.out).set _).set _).set _⟩
end Go.Proofs.Ytbgoclfifhdonaa
namespace Go.Proofs.Ytbgoclfifhdonaa
open Go.RowKit
set_option linter.unusedSimpArgs false
set_option linter.unusedVariables false

def fitB (f n : Int) : Bool := decide (0 ≤ f) && decide (f ≤ 128) && decide (0 ≤ n) && decide (n ≤ 128 - f)
theorem fitB_t {f n : Int} (h : fitB f n = true) : 0 ≤ f ∧ f ≤ 128 ∧ 0 ≤ n ∧ n ≤ 128 - f := by
  unfold fitB at h; simp at h; omega
def readW (x : BitVec 128) (f n : Int) : BitVec 128 := (x <<< f.toNat) >>> (128 - n).toNat
end Go.Proofs.Ytbgoclfifhdonaa
namespace Go.Proofs.Ytbgoclfifhdonaa
open Go.RowKit
set_option linter.unusedSimpArgs false
set_option linter.unusedVariables false

def fdN (x : BitVec 128) (f n : Int) : Int := lI (readW x f n)
def exM (F : Int) (x : BitVec 128) (m : Mc) (n : Int) : Mc := if n > F - m.bt then m else { m with ex := m.ex + 1, bt := m.bt + n, pl := m.pl + 1, hb := n, hn := fdN x m.bt n }
def exE (F : Int) (m : Mc) (n : Int) : Int := if n > F - m.bt then 27 else 0
def ixM (m : Mc) (n : Int) (U : List (BitVec 32)) (z : Int) : Mc := if m.hb = n ∧ rkE U m.hn = 0 then { m with ix := m.ix + 1, pl := m.pl + z + (rkN U m.hn : Int) - 1, hb := 0, hn := 0 } else m
def ixE (m : Mc) (n : Int) (U : List (BitVec 32)) : Int := if m.hb = n then rkE U m.hn else 25
theorem fdN_lo (x : BitVec 128) (f n : Int) : 0 ≤ fdN x f n := lI_lo _
theorem fdN_hi (x : BitVec 128) (f n : Int) (h0 : 0 ≤ n) (h1 : n ≤ 24) : fdN x f n < 2 ^ n.toNat := by
  unfold fdN readW
  obtain ⟨k, rfl⟩ : ∃ k : Nat, n = (k : Int) := ⟨n.toNat, by omega⟩
  have e : (128 - (k : Int)).toNat = 128 - k := by omega
  rw [e, Int.toNat_natCast, lIN]
  generalize x <<< f.toNat = y
  have h : (y >>> (128 - k)).toNat < 2 ^ k := by
    rw [BitVec.toNat_ushiftRight, Nat.shiftRight_eq_div_pow, Nat.div_lt_iff_lt_mul (Nat.two_pow_pos _), ← Nat.pow_add, show k + (128 - k) = 128 by omega]
    exact y.isLt
  have h2 : (y >>> (128 - k)).toNat % 18446744073709551616 ≤ (y >>> (128 - k)).toNat := Nat.mod_le _ _
  have h3 : (((2 ^ k : Nat)) : Int) = 2 ^ k := by norm_cast
  rw [← h3]
  omega
end Go.Proofs.Ytbgoclfifhdonaa
namespace Go.Proofs.Ytbgoclfifhdonaa
open Go.RowKit Go.Shelf
set_option linter.unusedSimpArgs false
set_option linter.unusedVariables false

section
variable {P : Program}
theorem qpw_any {l : List Oper} (m : Nat) (ok : QpOk l m m) {C : World → Prop} {Q : Exit → Act → World → Prop} {a : Act} {w : World} (ds : List (Option Tmp)) (vals : List Value)
    (hC : C w) (hwalk : QW P (l.take m).toArray C (fun a' => a' = putAll a ds vals) (l.take m) a) (hpost : ∀ w, C w → wpList P l.toArray Q (l.drop m) (putAll a ds vals) w) : wpAny P .any l.toArray Q l.toArray.size (Array.replicate l.toArray.size false) a w := by
  have hml := ok.ml
  have hlen : (l.take m).length = m := by rw [List.length_take]; omega
  have any : wpAnyQ P .any (l.take m).toArray C (fun a' => a' = putAll a ds vals) m (Array.replicate m false) a := by
    have hB := ok.lex undef
    rw [rep_out _ _ _ (by omega)] at hB
    simp only [Region.lexB, Bool.and_eq_true] at hB
    have := wpAnyQ_lex (C := C) (md := .any) hB.1 (l.take m) 0 (Array.replicate m false) a (by simp) (by have := hB.2; simpa [hlen, hml] using this) hwalk.out
    rwa [hlen] at this
  have hu : unl (Array.replicate m false) = m := by unfold unl; simp
  have main := done_any (P := P) (N := undef) ok hpost m (Array.replicate m false) a w (by simp) hu (fun q => absurd q (Nat.lt_irrefl _)) hC (by rw [rep_out _ _ _ (by omega)]; exact any)
  have e1 : m + (l.length - m) = l.toArray.size := by simp; omega
  have e2 : Array.replicate m false ++ Array.replicate (l.length - m) false = Array.replicate l.toArray.size false := by
    rw [Array.replicate_append_replicate]; congr 1
  rw [e1, e2] at main
  exact main
theorem qpw_region {id : Nat} {l : List Oper} (m : Nat) (ok : QpOk l m m) {C : World → Prop} {Q : Exit → Act → World → Prop} {a : Act} {w : World} (ds : List (Option Tmp)) (vals : List Value) (hm : P.follows .mixedOrders = true)
    (hC : C w.drew) (hwalk : QW P (l.take m).toArray C (fun a' => a' = putAll a ds vals) (l.take m) a) (hpost : ∀ w, C w → wpList P l.toArray Q (l.drop m) (putAll a ds vals) w) : (Code.region id l.toArray true).wp P Q a w :=
  wp_region_any hm (qpw_any m ok ds vals hC hwalk hpost)
end
end Go.Proofs.Ytbgoclfifhdonaa
