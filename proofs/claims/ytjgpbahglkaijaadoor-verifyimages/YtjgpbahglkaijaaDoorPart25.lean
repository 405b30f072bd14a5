/-
  Part 25 of the proof: 5 texts, one behind the other.
-/
import Derived.Test.YtjgpbahglkaijaaDoorPart24
import Derived.Test.YtjgpbahglkaijaaDoorPart2
import Derived.ArgAppend
import Derived.Lib.SmallJoins
import Derived.Test.YtjgpbahglkaijaaDoorPart4
namespace Go.Proofs.YtjgpbahglkaijaaDoor
open Go.RowKit
set_option linter.unusedSimpArgs false
set_option linter.unusedVariables false

end Go.Proofs.YtjgpbahglkaijaaDoor
namespace Go.Proofs.YtjgpbahglkaijaaDoor
open Go.RowKit
set_option linter.unusedSimpArgs false
set_option linter.unusedVariables false

end Go.Proofs.YtjgpbahglkaijaaDoor
namespace Go.Proofs.YtjgpbahglkaijaaDoor
open Go.RowKit
set_option linter.unusedSimpArgs false
set_option linter.unusedVariables false

theorem gt_take {r : List Nat} {k m : Nat} (h : k + m ≤ r.length) : gtN r (k : Int) m = numN13 ((r.drop k).take m) := by
  unfold gtN
  rw [if_pos ⟨by omega, by omega⟩, Int.toNat_natCast]
theorem rwx_at {w : World} {v : Value} {l : List Nat} (h : RwX cB w v l) (hl : 16 ≤ l.length) : ∃ b off c, v = .slice (some ⟨b, off, none⟩) l.length c ∧ l.length ≤ c ∧ ∀ (j x : Nat), l[j]? = some x → w.cell? ⟨b, off + j, none⟩ = some (.int .u8 (x : Int)) := by
  obtain ⟨ao, c, e, hc, h⟩ := h
  rcases h with h | ⟨b, off, e2, h⟩
  · rw [h] at hl; cases hl
  · subst e2; exact ⟨b, off, c, e, hc, h⟩
set_option maxRecDepth 20000 in
set_option maxHeartbeats 8000000 in
theorem headOf_any (v : Value) (l : List Nat) (w : World) (hv : RwX cB w v l) (h16 : 16 ≤ l.length) (hl : l.length ≤ 140737488355328) (hx : ∀ b ∈ l, b < 256) :
    Calls Tryd.prog 25 #[v] w fun e w' => e = .returned (.agg #[.int .i64 ((rW l : Nat) : Int), .int .i64 ((rD l : Nat) : Int), .int .i64 ((rS l : Nat) : Int), .int .i64 ((rN l : Nat) : Int)]) ∧ Below w.heap.size w w' := by
  obtain ⟨b, off, cc, hvf, hcc, hcell⟩ := rwx_at hv h16
  have h4 := hcell 4 (rW l) (by unfold rW; rw [List.getD_eq_getElem?_getD, List.getElem?_eq_getElem (by omega)]; rfl)
  have h5 := hcell 5 (rD l) (by unfold rD; rw [List.getD_eq_getElem?_getD, List.getElem?_eq_getElem (by omega)]; rfl)
  have gS : gtN l 6 2 = rS l := gt_take (k := 6) (m := 2) (by omega)
  have gN : gtN l 8 4 = rN l := gt_take (k := 8) (m := 4) (by omega)
  have hlt : ∀ k m, (∀ b ∈ (l.drop k).take m, b < 256) := fun k m b hb => hx b (List.mem_of_mem_drop (List.mem_of_mem_take hb))
  have bW : rW l < 256 := hx _ (by unfold rW; rw [List.getD_eq_getElem?_getD, List.getElem?_eq_getElem (by omega)]; exact List.getElem_mem _)
  have bD : rD l < 256 := hx _ (by unfold rD; rw [List.getD_eq_getElem?_getD, List.getElem?_eq_getElem (by omega)]; exact List.getElem_mem _)
  have bS : rS l < 65536 := Nat.lt_of_lt_of_le (numN_lt _ (hlt 6 2)) (Nat.le_trans (Nat.pow_le_pow_right (by decide) (by rw [List.length_take]; exact Nat.min_le_left _ _)) (by decide))
  have bN : rN l < 4294967296 := Nat.lt_of_lt_of_le (numN_lt _ (hlt 8 4)) (Nat.le_trans (Nat.pow_le_pow_right (by decide) (by rw [List.length_take]; exact Nat.min_le_left _ _)) (by decide))
  have q1 := bl1 w (.cells #[.int .i64 0, .int .i64 0, .int .i64 0, .int .i64 0] 46)
  have K2 := get16_any v l 6 (w.alloc (.cells #[.int .i64 0, .int .i64 0, .int .i64 0, .int .i64 0] 46)) (hv.below q1) hl hx (by decide) (by decide)
  have K3 := fun w1 (hb : Below (w.alloc (.cells #[.int .i64 0, .int .i64 0, .int .i64 0, .int .i64 0] 46)).heap.size (w.alloc (.cells #[.int .i64 0, .int .i64 0, .int .i64 0, .int .i64 0] 46)) w1) => get32_any v l 8 w1 ((hv.below q1).below hb) hl hx (by decide) (by decide)
  rw [gS] at K2
  rw [gN] at K3
  obtain ⟨s, hs⟩ : ∃ s : Int, s = (rS l : Int) := ⟨_, rfl⟩
  obtain ⟨m, hm⟩ : ∃ m : Int, m = (rN l : Int) := ⟨_, rfl⟩
  obtain ⟨x4, hx4⟩ : ∃ x : Int, x = (rW l : Int) := ⟨_, rfl⟩
  obtain ⟨x5, hx5⟩ : ∃ x : Int, x = (rD l : Int) := ⟨_, rfl⟩
  rw [← hs] at K2
  rw [← hm] at K3
  rw [← hs, ← hm, ← hx4, ← hx5]
  rw [← hx4] at h4
  rw [← hx5] at h5
  have n4 : 0 ≤ x4 := by omega
  have n4' : x4 < 256 := by omega
  have n5 : 0 ≤ x5 := by omega
  have n5' : x5 < 256 := by omega
  have ns : 0 ≤ s := by omega
  have ns' : s < 65536 := by omega
  have nm : 0 ≤ m := by omega
  have nm' : m < 4294967296 := by omega
  generalize gtE l 6 2 = y2 at *
  generalize gtE l 8 4 = y4 at *
  have HC : Hid (w.cell? ⟨b, off + 4, none⟩ = some (.int .u8 x4) ∧ w.cell? ⟨b, off + 5, none⟩ = some (.int .u8 x5)) := ⟨h4, h5⟩
  have HQ := hid13 q1
  have HL : Hid (16 ≤ l.length) := h16
  have hl5 : (5 : Int) < (l.length : Int) := by omega
  subst hvf
  clear hs hm hx4 hx5 bW bD bS bN gS gN hlt h4 h5 hcell hv hx q1 hcc hl h16
  go_enter Tryd.func25, Tryd.ntmps25
  go_wp2_with fail
  refine K2.mono ?_
  rintro e2 w2 ⟨rfl, hb2⟩
  have K4 := K3 w2 hb2
  have HB2 := hid13 hb2
  clear K2 K3 hb2
  go_wp2_with fail
  refine K4.mono ?_
  rintro e3 w3 ⟨rfl, hb3⟩
  have HB3 := hid13 (keepb hb3 HB2.out)
  have c4 := keepc HB3.out (keepc HQ.out HC.out.1)
  have c5 := keepc HB3.out (keepc HQ.out HC.out.2)
  have z0 := keepc HB3.out (show (w.alloc (.cells #[.int .i64 0, .int .i64 0, .int .i64 0, .int .i64 0] 46)).cell? ⟨w.heap.size, 0, none⟩ = some (.int .i64 0) by simp [go_sem])
  have z1 := keepc HB3.out (show (w.alloc (.cells #[.int .i64 0, .int .i64 0, .int .i64 0, .int .i64 0] 46)).cell? ⟨w.heap.size, 1, none⟩ = some (.int .i64 0) by simp [go_sem])
  have z2 := keepc HB3.out (show (w.alloc (.cells #[.int .i64 0, .int .i64 0, .int .i64 0, .int .i64 0] 46)).cell? ⟨w.heap.size, 2, none⟩ = some (.int .i64 0) by simp [go_sem])
  have z3 := keepc HB3.out (show (w.alloc (.cells #[.int .i64 0, .int .i64 0, .int .i64 0, .int .i64 0] 46)).cell? ⟨w.heap.size, 3, none⟩ = some (.int .i64 0) by simp [go_sem])
  have f0 := keepf HB3.out (show (w.alloc (.cells #[.int .i64 0, .int .i64 0, .int .i64 0, .int .i64 0] 46)).cell? ⟨w.heap.size, 0, none⟩ = some (.int .i64 0) by simp [go_sem]) (show (w.alloc (.cells #[.int .i64 0, .int .i64 0, .int .i64 0, .int .i64 0] 46)).frozen? ⟨w.heap.size, 0, none⟩ = false by simp [go_sem])
  have f1 := keepf HB3.out (show (w.alloc (.cells #[.int .i64 0, .int .i64 0, .int .i64 0, .int .i64 0] 46)).cell? ⟨w.heap.size, 1, none⟩ = some (.int .i64 0) by simp [go_sem]) (show (w.alloc (.cells #[.int .i64 0, .int .i64 0, .int .i64 0, .int .i64 0] 46)).frozen? ⟨w.heap.size, 1, none⟩ = false by simp [go_sem])
  have f2 := keepf HB3.out (show (w.alloc (.cells #[.int .i64 0, .int .i64 0, .int .i64 0, .int .i64 0] 46)).cell? ⟨w.heap.size, 2, none⟩ = some (.int .i64 0) by simp [go_sem]) (show (w.alloc (.cells #[.int .i64 0, .int .i64 0, .int .i64 0, .int .i64 0] 46)).frozen? ⟨w.heap.size, 2, none⟩ = false by simp [go_sem])
  have f3 := keepf HB3.out (show (w.alloc (.cells #[.int .i64 0, .int .i64 0, .int .i64 0, .int .i64 0] 46)).cell? ⟨w.heap.size, 3, none⟩ = some (.int .i64 0) by simp [go_sem]) (show (w.alloc (.cells #[.int .i64 0, .int .i64 0, .int .i64 0, .int .i64 0] 46)).frozen? ⟨w.heap.size, 3, none⟩ = false by simp [go_sem])
  have HBw := hid13 (keepb HB3.out HQ.out)
  clear K4 hb3 HB2 HC
  go_wp2_with fail
  go_region
  go_wp2
  exact bodyPost_ret (v := .agg #[.int .i64 x4, .int .i64 x5, .int .i64 s, .int .i64 m]) (by simp [results, Tryd.results25, go_sem, *]) rfl ⟨rfl, ((((HBw.out.setCell (p := ⟨w.heap.size, 0, none⟩) (Nat.le_refl _) _).setCell (p := ⟨w.heap.size, 1, none⟩) (Nat.le_refl _) _).setCell (p := ⟨w.heap.size, 2, none⟩) (Nat.le_refl _) _).setCell (p := ⟨w.heap.size, 3, none⟩) (Nat.le_refl _) _).drew⟩
def Bx (w : World) (B : Nat) (cs : List Value) (X : World) : Prop := Below w.heap.size w X ∧ ∀ j u, cs[j]? = some u → X.cell? ⟨B, j, none⟩ = some u
theorem Bx.keep {w X X' : World} {B : Nat} {cs : List Value} (h : Bx w B cs X) (hb : Below X.heap.size X X') : Bx w B cs X' := ⟨keepb hb h.1, fun j u hj => keepc hb (h.2 j u hj)⟩
theorem Bx.drew {w X : World} {B : Nat} {cs : List Value} (h : Bx w B cs X) : Bx w B cs X.drew := ⟨h.1.drew, h.2⟩
theorem bx_new {w X : World} {t : TypeId} (hb : Below w.heap.size w X) (arr : Array Value) : Bx w X.heap.size arr.toList (X.alloc (.cells arr t)) :=
  ⟨hb.alloc hb.size _, fun j u hj => by rw [World.cell?_alloc_mark, ← Array.getElem?_toList]; exact hj⟩
theorem slice_mid17 {P : Program} {w : World} {t e : TypeId} {i : TypeInfo} {size : Nat} (ht : P.underlying t = some (.slice e)) (hi : P.info? e = some i) (hsize : i.size = size) (ao : Option Addr) (n c k h : Nat) (hk : k ≤ h) (hh : h ≤ c) :
    Sem.run P (Instr.sliceAt t (.slice ao n c) (some (.int .i64 k)) (some (.int .i64 h)) none) w = .ok (.slice (if c = k then ao else ao.map (·.add (k * size))) (h - k) (c - k)) w := by
  subst hsize
  simp [Instr.sliceAt, Instr.slice, Instr.sliceBounds, Instr.sliceBound, run_underlying ht, sizeOf, typeInfo, hi, hk, hh, go_sem]
theorem ex17 {P : Program} {w : World} {s : Sem Value} {v : Value} (h : s.run P w = .ok v w) : (do pure (Next.value (← s)) : Sem Next).run P w = .ok (.value v) w := by
  simp only [Sem.run_bind, h, Sem.run_pure, Result.andThen_ok]
def cdV (b off c k : Nat) : Value := .slice (if c = 16 then some ⟨b, off, none⟩ else (some (⟨b, off, none⟩ : Addr)).map (·.add (16 * 1))) k (c - 16)
theorem cd_rowA {W : World} {b off c n : Nat} {l : List Nat} (h : ∀ j x : Nat, l[j]? = some x → W.cell? ⟨b, off + j, none⟩ = some (.int .u8 (x : Int))) (hc : l.length ≤ c) (hn : 16 + 4 * n ≤ l.length) :
    RowA W 1 (cdV b off c (4 * n)) ((l.drop 16).take (4 * n)).length (((l.drop 16).take (4 * n)).map cB) ∧ RwX cB W (cdV b off c (4 * n)) ((l.drop 16).take (4 * n)) := by
  have hl : ((l.drop 16).take (4 * n)).length = 4 * n := by rw [List.length_take, List.length_drop]; omega
  by_cases h16 : c = 16
  · have hn0 : n = 0 := by omega
    subst hn0
    unfold cdV
    rw [if_pos h16]
    refine ⟨⟨by simp, _, _, by rw [hl], by rw [hl]; omega, .inr ⟨_, rfl, fun j u hj => ?_⟩⟩, ⟨_, _, by rw [hl], by rw [hl]; omega, .inl (by simp)⟩⟩
    simp at hj
  · unfold cdV
    rw [if_neg h16]
    have hc2 : ∀ j x : Nat, ((l.drop 16).take (4 * n))[j]? = some x → W.cell? ⟨b, off + 16 + j, none⟩ = some (.int .u8 (x : Int)) := by
      intro j x hj
      rw [List.getElem?_take] at hj
      split at hj
      · rw [List.getElem?_drop] at hj
        rw [Nat.add_assoc]
        exact h _ _ hj
      · cases hj
    refine ⟨⟨by simp, _, _, by rw [hl], by rw [hl]; omega, .inr ⟨⟨b, off + 16, none⟩, by simp [addA], fun j u hj => ?_⟩⟩, ⟨_, _, by rw [hl], by rw [hl]; omega, .inr ⟨b, off + 16, by simp [addA], fun j x hj => hc2 j x hj⟩⟩⟩
    rw [List.getElem?_map] at hj
    cases hx : ((l.drop 16).take (4 * n))[j]? with
    | none => rw [hx] at hj; cases hj
    | some y => rw [hx] at hj; cases hj; rw [addA]; exact hc2 j y hx
end Go.Proofs.YtjgpbahglkaijaaDoor
namespace Go.Proofs.YtjgpbahglkaijaaDoor
open Go.RowKit
set_option linter.unusedSimpArgs false
set_option linter.unusedVariables false

section
variable {P : Program}

end
end Go.Proofs.YtjgpbahglkaijaaDoor
namespace Go.Proofs.YtjgpbahglkaijaaDoor
open Go.RowKit
set_option linter.unusedSimpArgs false
set_option linter.unusedVariables false

set_option maxRecDepth 20000 in
set_option maxHeartbeats 8000000 in
theorem code_any17 (W D S : Int) (n b off c : Nat) (l : List Nat) (hn : n ≤ 1048572) (hc : l.length ≤ c) (h16 : 16 + 4 * n ≤ l.length) (w : World) :
    Calls Tryd.prog 15 #[.agg #[.int .i64 W, .int .i64 D, .int .i64 S, .int .i64 (n : Int), .slice (some ⟨b, off, none⟩) l.length c]] w fun e w' => e = .returned (cdV b off c (4 * n)) ∧ Below w.heap.size w w' := by
  obtain ⟨i0, hi, hz0, hz1, hz2⟩ := info13 Tryd.infoB13
  have HX := hid13 (bx_new (t := 48) (Below.refl w.heap.size w) #[.int .i64 W, .int .i64 D, .int .i64 S, .int .i64 (n : Int), .slice (some ⟨b, off, none⟩) l.length c]).drew
  have HS : Hid (∀ X, Sem.run Tryd.prog (Instr.sliceAt 22 (.slice (some ⟨b, off, none⟩) l.length c) (some (.int .i64 16)) (some (.int .i64 (16 + (n : Int) * 4))) none) X = .ok (cdV b off c (4 * n)) X) := hid13 (fun X => by
    have := slice_mid17 (P := Tryd.prog) (w := X) Tryd.underlying22 hi hz1 (some ⟨b, off, none⟩) l.length c 16 (16 + n * 4) (by omega) (by omega)
    rw [show ((16 + n * 4 : Nat) : Int) = 16 + (n : Int) * 4 by push_cast; rfl, show 16 + n * 4 - 16 = 4 * n by omega] at this
    exact this)
  have KZ := fun X => hsize_any W D S (n : Int) (by omega) (by omega) X
  generalize cdV b off c (4 * n) = Z at *
  clear hn hc h16 hi hz0 hz1 hz2
  go_enter Tryd.func15, Tryd.ntmps15
  go_wp2_with fail
  refine qw_region (C := Bx w w.heap.size [.int .i64 W, .int .i64 D, .int .i64 S, .int .i64 (n : Int), .slice (some ⟨b, off, none⟩) l.length c]) (by kernel_rfl) (by kernel_rfl) HX.out ?_
  clear HX
  refine qw_run (v := .pointer (some ⟨w.heap.size, 4, none⟩)) (by rfl) ?_ ?_
  · (intro w9 hC; clear hC; go_simp; first | done | (simp; done) | (simp [*]; done) | omega | (simp; omega) | (rw [IntKind.wrap_i64]; omega) | (intro hx; omega) | rfl)
  simp only [Act.put, List.setIfInBounds_toArray, List.set_cons_zero, List.set_cons_succ]
  refine qw_run (v := .slice (some ⟨b, off, none⟩) l.length c) (by rfl) ?_ ?_
  · (intro w9 hC; have h0 := hC.2 0 _ rfl; have h1 := hC.2 1 _ rfl; have h2 := hC.2 2 _ rfl; have h3 := hC.2 3 _ rfl; have h4 := hC.2 4 _ rfl; clear hC; go_simp; first | done | (simp; done) | (simp [*]; done) | omega | (simp; omega) | (rw [IntKind.wrap_i64]; omega) | (intro hx; omega) | rfl)
  simp only [Act.put, List.setIfInBounds_toArray, List.set_cons_zero, List.set_cons_succ]
  refine qw_run (v := .pointer (some ⟨w.heap.size, 0, none⟩)) (by rfl) ?_ ?_
  · (intro w9 hC; clear hC; go_simp; first | done | (simp; done) | (simp [*]; done) | omega | (simp; omega) | (rw [IntKind.wrap_i64]; omega) | (intro hx; omega) | rfl)
  simp only [Act.put, List.setIfInBounds_toArray, List.set_cons_zero, List.set_cons_succ]
  refine qw_run (v := .agg #[.int .i64 W, .int .i64 D, .int .i64 S, .int .i64 (n : Int)]) (by rfl) ?_ ?_
  · (intro w9 hC; have h0 := hC.2 0 _ rfl; have h1 := hC.2 1 _ rfl; have h2 := hC.2 2 _ rfl; have h3 := hC.2 3 _ rfl; have h4 := hC.2 4 _ rfl; clear hC; go_simp; first | done | (simp; done) | (simp [*]; done) | omega | (simp; omega) | (rw [IntKind.wrap_i64]; omega) | (intro hx; omega) | rfl)
  simp only [Act.put, List.setIfInBounds_toArray, List.set_cons_zero, List.set_cons_succ]
  refine qw_call (v := .int .i64 (16 + (n : Int) * 4)) (f := 28) (args := #[.agg #[.int .i64 W, .int .i64 D, .int .i64 S, .int .i64 (n : Int)]]) (by rfl) ?_ ?_ ?_
  · (intro w9 hC; clear hC; go_simp; first | done | (simp; done) | rfl)
  · exact fun w9 hC => (KZ w9).mono fun e w' ⟨he, hb⟩ => ⟨he, hC.keep hb⟩
  simp only [Act.put, List.setIfInBounds_toArray, List.set_cons_zero, List.set_cons_succ]
  refine qw_run (v := Z) (by rfl) ?_ ?_
  · (intro w9 hC; clear hC; exact ex17 (HS.out w9))
  simp only [Act.put, List.setIfInBounds_toArray, List.set_cons_zero, List.set_cons_succ]
  refine qw_run (v := Z) (by rfl) ?_ ?_
  · (intro w9 hC; clear hC; go_simp; first | done | (simp; done) | (simp [*]; done) | omega | (simp; omega) | (rw [IntKind.wrap_i64]; omega) | (intro hx; omega) | rfl)
  simp only [Act.put, List.setIfInBounds_toArray, List.set_cons_zero, List.set_cons_succ]
  refine qw_nil ?_
  intro w8 hX
  have HB := hid13 hX.1
  clear hX
  go_wp2
  exact bodyPost_ret (v := Z) (by simp [results, Tryd.results15, go_sem]) rfl ⟨rfl, HB.out⟩
def smB (l : List Nat) (z : BitVec 32) : Bool := numN13 ((l.drop 12).take 4) == (hbN (8 * (4 * rN l)) (crS (l.take 12)) ^^^ z).toNat
set_option maxRecDepth 20000 in
set_option maxHeartbeats 8000000 in
theorem sumIsOf_any (W D S : Int) (n b off c : Nat) (l : List Nat) (z : BitVec 32) (hn : n ≤ 1048572) (hc : l.length ≤ c) (h16 : 16 ≤ l.length) (hl : l.length ≤ 140737488000000) (hx : ∀ b ∈ l, b < 256) (w : World) (hcell : ∀ j x : Nat, l[j]? = some x → w.cell? ⟨b, off + j, none⟩ = some (.int .u8 (x : Int))) (hT : Hf w) (hrn : rN l = n) :
    Calls Tryd.prog 13 #[.agg #[.int .i64 W, .int .i64 D, .int .i64 S, .int .i64 (n : Int), .slice (some ⟨b, off, none⟩) l.length c], .int .u32 (uI z)] w fun e w' => e = .returned (.bool (smB l z)) ∧ Below w.heap.size w w' := by
  obtain ⟨i0, hi, hz0, hz1, hz2⟩ := info13 Tryd.infoB13
  have hvw : RwX cB w (.slice (some ⟨b, off, none⟩) l.length c) l := ⟨_, _, rfl, hc, .inr ⟨b, off, rfl, hcell⟩⟩
  have hX := bx_new (t := 48) (Below.refl w.heap.size w) #[.int .i64 W, .int .i64 D, .int .i64 S, .int .i64 (n : Int), .slice (some ⟨b, off, none⟩) l.length c]
  have hsaid : gtN l 12 4 = numN13 ((l.drop 12).take 4) := gt_take (k := 12) (m := 4) (by omega)
  have hsl : numN13 ((l.drop 12).take 4) < 4294967296 := Nat.lt_of_lt_of_le (numN_lt _ (fun b hb => hx b (List.mem_of_mem_drop (List.mem_of_mem_take hb)))) (Nat.le_trans (Nat.pow_le_pow_right (by decide) (by rw [List.length_take]; exact Nat.min_le_left _ _)) (by decide))
  have K1 := get32_any (.slice (some ⟨b, off, none⟩) l.length c) l 12 (w.alloc (.cells #[.int .i64 W, .int .i64 D, .int .i64 S, .int .i64 (n : Int), .slice (some ⟨b, off, none⟩) l.length c] 48)) (hvw.below (hX.1)) (by omega) hx (by decide) (by decide)
  obtain ⟨said, hsd⟩ : ∃ s : Int, s = ((gtN l 12 4 : Nat) : Int) := ⟨_, rfl⟩
  rw [← hsd] at K1
  have HRes : Hid ((said == uI (hbN (8 * (4 * n)) (crS (l.take 12)) ^^^ z)) = smB l z) := by
    show _ = _
    unfold smB
    rw [hsd, hsaid, uI_eq, hrn]
    rw [Bool.eq_iff_iff]
    simp
    omega
  have HS : Hid (∀ X, Sem.run Tryd.prog (Instr.sliceAt 22 (.slice (some ⟨b, off, none⟩) l.length c) none (some (.int .i64 12)) none) X = .ok (.slice (some ⟨b, off, none⟩) 12 c) X) := hid13 (fun X => run_slice_to (P := Tryd.prog) (w := X) Tryd.underlying22 hi (some ⟨b, off, none⟩) l.length c 12 (by omega))
  have KZ : Hid (∀ X, Calls Tryd.prog 28 #[.agg #[.int .i64 W, .int .i64 D, .int .i64 S, .int .i64 (n : Int)]] X fun e w' => e = .returned (.int .i64 (16 + (n : Int) * 4)) ∧ Below X.heap.size X w') := hid13 (fun X => hsize_any W D S (n : Int) (by omega) (by omega) X)
  have KU : Hid (∀ (X : World) (N : Nat), Below w.heap.size w X → X.cell? ⟨N, 0, none⟩ = some (.slice (some ⟨b, off, none⟩) 12 c) → Calls Tryd.prog 14 #[.slice (some ⟨N, 0, none⟩) 1 1] X fun e w' => e = .returned (.int .u32 (uI (crS (l.take 12)))) ∧ w' = X) := hid13 (fun X N hB hc => by
    have h : RwX cB X (.slice (some ⟨b, off, none⟩) l.length c) (l.take 12 ++ l.drop 12) := by rw [List.take_append_drop]; exact hvw.below hB
    have h2 := rwx_take h
    have h12 : (l.take 12).length = 12 := by rw [List.length_take]; omega
    rw [h12] at h2
    exact sum_one hc h2 (by rw [h12]; decide) (fun b hb => hx b (List.mem_of_mem_take hb)) (hT.below hB))
  have KJ : Hid (∀ X, Calls Tryd.prog 30 #[.int .u32 (uI (crS (l.take 12))), .int .u32 (uI z), .int .i64 ((n : Int) * 4)] X fun e w' => e = .returned (.int .u32 (uI (hbN (8 * (4 * n)) (crS (l.take 12)) ^^^ z))) ∧ w' = X) := hid13 (fun X => by
    have := joined_any (crS (l.take 12)) z ((n : Int) * 4) (by omega) (by omega) X
    rw [show ((n : Int) * 4).toNat = 4 * n by omega] at this
    exact this)
  have hm : IntKind.i64.wrap (16 + (n : Int) * 4 - 16) = (n : Int) * 4 := by rw [IntKind.wrap_i64]; omega
  generalize uI (crS (l.take 12)) = s12 at *
  generalize uI (hbN (8 * (4 * n)) (crS (l.take 12)) ^^^ z) = sj at *
  generalize uI z = sz at *
  generalize smB l z = res at *
  generalize gtE l 12 4 = y4 at *
  have HX := hid13 hX
  have hwn : wrap64 (n : Int) = (n : Int) := by unfold wrap64; omega
  clear hn hc h16 hi hz0 hz1 hz2 hl hx hcell hT hrn hvw hX hsaid hsl hsd
  go_enter Tryd.func13, Tryd.ntmps13
  go_wp2_with fail
  refine K1.mono ?_
  rintro e1 w1 ⟨rfl, hb1⟩
  have HX1 := hid13 (HX.out.keep hb1)
  clear K1 hb1 HX
  go_wp2_with fail
  refine gh_region (γ := Nat) (qpOk 14 14 (by decide) (fun N => by kernel_rfl) (by kernel_rfl) (by kernel_rfl) (by kernel_rfl) (by kernel_rfl)) (by kernel_rfl) (by kernel_rfl) [some 13, some 14, some 15, some 16, some 17, some 18, some 19, some 20, some 21, some 22, some 23, some 24, some 25, some 4] (fun g => [.int .u32 said, .pointer (some ⟨w.heap.size, 4, none⟩), .slice (some ⟨b, off, none⟩) l.length c, .slice (some ⟨b, off, none⟩) 12 c, .slice (some ⟨g, 0, none⟩) 1 1, .int .u32 s12, .int .u32 sz, .pointer (some ⟨w.heap.size, 0, none⟩), .agg #[.int .i64 W, .int .i64 D, .int .i64 S, .int .i64 (n : Int)], .int .i64 (16 + (n : Int) * 4), .int .i64 ((n : Int) * 4), .int .u32 sj, .bool (said == sj), .bool (said == sj)]) (by kernel_rfl) (by simp) (fun lp g X => Bx w w.heap.size [.int .i64 W, .int .i64 D, .int .i64 S, .int .i64 (n : Int), .slice (some ⟨b, off, none⟩) l.length c] X ∧ (lp.getD 4 false = true → X.cell? ⟨g, 0, none⟩ = some (.slice (some ⟨b, off, none⟩) 12 c))) 0 ⟨HX1.out.drew, fun h => (by simp at h)⟩ ?step0 ?fin0
  case step0 =>
    intro q o lp g w' a' ho hsz hun hdep hR hS K Q' hK
    have hfl : ∀ j, j ≠ q → (lp.setIfInBounds q true).getD j false = lp.getD j false := fun j hj => by rw [Array.getD_eq_getD_getElem?, Array.getD_eq_getD_getElem?, Array.getElem?_setIfInBounds_ne (by omega)]
    have hq : q < 14 := (List.getElem?_eq_some_iff.mp ho).1
    match q, ho, hun, hdep, hK, hfl, hq with
    | 0, ho, hun, hdep, hK, hfl, _ =>
      obtain rfl := Option.some.inj ho
      have o5 : a'.tmps[5]? = some (.int .u32 said) := (hS.old14 5 (by simp)).trans rfl
      have hK' := hK g w' (fun _ _ _ _ _ _ => rfl) (by rw [hfl 4 (by decide)]; exact hR) (.int .u32 said) (by simp only [valO, Option.bind_some]; (try simp only [putAll, Act.put, List.setIfInBounds_toArray, List.set_cons_zero, List.set_cons_succ]); (try rfl))
      clear hS hdep hR
      refine gh_quiet14 (v := .int .u32 said) ?_ ?_
      · (simp only [execOp, Act.eval, o5]; go_simp; first | done | (simp; done) | (simp [*]; done) | omega | (rw [IntKind.wrap_i64]; omega))
      · exact hK'
    | 1, ho, hun, hdep, hK, hfl, _ =>
      obtain rfl := Option.some.inj ho
      have o2 : a'.tmps[2]? = some (.pointer (some ⟨w.heap.size, 0, none⟩)) := (hS.old14 2 (by simp)).trans rfl
      have hK' := hK g w' (fun _ _ _ _ _ _ => rfl) (by rw [hfl 4 (by decide)]; exact hR) (.pointer (some ⟨w.heap.size, 4, none⟩)) (by simp only [valO, Option.bind_some]; (try simp only [putAll, Act.put, List.setIfInBounds_toArray, List.set_cons_zero, List.set_cons_succ]); (try rfl))
      clear hS hdep hR
      refine gh_quiet14 (v := .pointer (some ⟨w.heap.size, 4, none⟩)) ?_ ?_
      · (simp only [execOp, Act.eval, o2]; go_simp; first | done | (simp; done) | (simp [*]; done) | omega | (rw [IntKind.wrap_i64]; omega))
      · exact hK'
    | 2, ho, hun, hdep, hK, hfl, _ =>
      obtain rfl := Option.some.inj ho
      have d1 : lp.getD 1 false = true := hdep { on := 1, ground := .data } (by simp) rfl
      have e14 : a'.tmps[14]? = some (.pointer (some ⟨w.heap.size, 4, none⟩)) := (hS.don 1 _ 14 rfl d1 rfl).trans (by simp only [putAll, Act.put, List.setIfInBounds_toArray, List.set_cons_zero, List.set_cons_succ]; rfl)
      have k4 := hR.1.2 4 _ rfl
      have hK' := hK g w' (fun _ _ _ _ _ _ => rfl) (by rw [hfl 4 (by decide)]; exact hR) (.slice (some ⟨b, off, none⟩) l.length c) (by simp only [valO, Option.bind_some]; (try simp only [putAll, Act.put, List.setIfInBounds_toArray, List.set_cons_zero, List.set_cons_succ]); (try rfl))
      clear hS hdep hR
      refine gh_quiet14 (v := .slice (some ⟨b, off, none⟩) l.length c) ?_ ?_
      · (simp only [execOp, Act.eval, e14]; go_simp; first | done | (simp; done) | (simp [*]; done) | omega | (rw [IntKind.wrap_i64]; omega))
      · exact hK'
    | 3, ho, hun, hdep, hK, hfl, _ =>
      obtain rfl := Option.some.inj ho
      have d2 : lp.getD 2 false = true := hdep { on := 2, ground := .data } (by simp) rfl
      have e15 : a'.tmps[15]? = some (.slice (some ⟨b, off, none⟩) l.length c) := (hS.don 2 _ 15 rfl d2 rfl).trans (by simp only [putAll, Act.put, List.setIfInBounds_toArray, List.set_cons_zero, List.set_cons_succ]; rfl)
      have hK' := hK g w' (fun _ _ _ _ _ _ => rfl) (by rw [hfl 4 (by decide)]; exact hR) (.slice (some ⟨b, off, none⟩) 12 c) (by simp only [valO, Option.bind_some]; simp only [putAll, Act.put, List.setIfInBounds_toArray, List.set_cons_zero, List.set_cons_succ]; rfl)
      clear hS hdep hR
      refine gh_quiet14 (v := .slice (some ⟨b, off, none⟩) 12 c) ?_ ?_
      · (simp only [execOp, Act.eval, Option.map_some, Option.map_none, Array.getD_eq_getD_getElem?, e15, Option.getD_some]; exact ex17 (HS.out w'))
      · exact hK'
    | 4, ho, hun, hdep, hK, hfl, _ =>
      obtain rfl := Option.some.inj ho
      have d3 : lp.getD 3 false = true := hdep { on := 3, ground := .data } (by simp) rfl
      have e16 : a'.tmps[16]? = some (.slice (some ⟨b, off, none⟩) 12 c) := (hS.don 3 _ 16 rfl d3 rfl).trans (by simp only [putAll, Act.put, List.setIfInBounds_toArray, List.set_cons_zero, List.set_cons_succ]; rfl)
      have q := bl1 w' (.cells #[.slice (some ⟨b, off, none⟩) 12 c] 22)
      have hK' := hK w'.heap.size (w'.alloc (.cells #[.slice (some ⟨b, off, none⟩) 12 c] 22)) (fun k' ok s hk hl hd => gh_same14 (d := 17) (s := s) (by simp only [putAll, Act.put, List.setIfInBounds_toArray, List.set_cons_zero, List.set_cons_succ]; rfl) (by rintro rfl; have := dstG_of (by kernel_rfl) k' 4 ok _ 17 hk rfl hd rfl; subst this; rw [hun] at hl; cases hl)) (by rw [getD_set_same (by rw [hsz]; decide)]; exact ⟨hR.1.keep q, fun _ => (by simp [go_sem])⟩) (.slice (some ⟨w'.heap.size, 0, none⟩) 1 1) (by simp only [valO, Option.bind_some]; simp only [putAll, Act.put, List.setIfInBounds_toArray, List.set_cons_zero, List.set_cons_succ]; rfl)
      clear hS hdep hR hK
      unfold Oper.wp
      simp only [execOp, Act.eval, Array.getD_eq_getD_getElem?]
      simp [go_sem, e16, Oper.upon]
      exact hK'
    | 5, ho, hun, hdep, hK, hfl, _ =>
      obtain rfl := Option.some.inj ho
      have d4 : lp.getD 4 false = true := hdep { on := 4, ground := .data } (by simp) rfl
      have e17 : a'.tmps[17]? = some (.slice (some ⟨g, 0, none⟩) 1 1) := (hS.don 4 _ 17 rfl d4 rfl).trans (by simp only [putAll, Act.put, List.setIfInBounds_toArray, List.set_cons_zero, List.set_cons_succ]; rfl)
      have KC := KU.out w' g hR.1.1 (hR.2 d4)
      clear hdep
      unfold Oper.wp
      simp only [execOp, Act.eval, Array.getD_eq_getD_getElem?]
      simp [go_sem, e17, Oper.upon]
      refine KC.mono ?_
      rintro e W2 ⟨rfl, hw2⟩
      replace hw2 := hw2.symm
      subst hw2
      exact hK g w' (fun _ _ _ _ _ _ => rfl) (by rw [hfl 4 (by decide)]; exact hR) _ (by simp only [valO, Option.bind_some]; simp only [putAll, Act.put, List.setIfInBounds_toArray, List.set_cons_zero, List.set_cons_succ]; rfl)
    | 6, ho, hun, hdep, hK, hfl, _ =>
      obtain rfl := Option.some.inj ho
      have o1 : a'.tmps[1]? = some (.int .u32 sz) := (hS.old14 1 (by simp)).trans rfl
      have hK' := hK g w' (fun _ _ _ _ _ _ => rfl) (by rw [hfl 4 (by decide)]; exact hR) (.int .u32 sz) (by simp only [valO, Option.bind_some]; (try simp only [putAll, Act.put, List.setIfInBounds_toArray, List.set_cons_zero, List.set_cons_succ]); (try rfl))
      clear hS hdep hR
      refine gh_quiet14 (v := .int .u32 sz) ?_ ?_
      · (simp only [execOp, Act.eval, o1]; go_simp; first | done | (simp; done) | (simp [*]; done) | omega | (rw [IntKind.wrap_i64]; omega))
      · exact hK'
    | 7, ho, hun, hdep, hK, hfl, _ =>
      obtain rfl := Option.some.inj ho
      have o2 : a'.tmps[2]? = some (.pointer (some ⟨w.heap.size, 0, none⟩)) := (hS.old14 2 (by simp)).trans rfl
      have hK' := hK g w' (fun _ _ _ _ _ _ => rfl) (by rw [hfl 4 (by decide)]; exact hR) (.pointer (some ⟨w.heap.size, 0, none⟩)) (by simp only [valO, Option.bind_some]; (try simp only [putAll, Act.put, List.setIfInBounds_toArray, List.set_cons_zero, List.set_cons_succ]); (try rfl))
      clear hS hdep hR
      refine gh_quiet14 (v := .pointer (some ⟨w.heap.size, 0, none⟩)) ?_ ?_
      · (simp only [execOp, Act.eval, o2]; go_simp; first | done | (simp; done) | (simp [*]; done) | omega | (rw [IntKind.wrap_i64]; omega))
      · exact hK'
    | 8, ho, hun, hdep, hK, hfl, _ =>
      obtain rfl := Option.some.inj ho
      have d7 : lp.getD 7 false = true := hdep { on := 7, ground := .data } (by simp) rfl
      have e20 : a'.tmps[20]? = some (.pointer (some ⟨w.heap.size, 0, none⟩)) := (hS.don 7 _ 20 rfl d7 rfl).trans (by simp only [putAll, Act.put, List.setIfInBounds_toArray, List.set_cons_zero, List.set_cons_succ]; rfl)
      have k0 := hR.1.2 0 _ rfl
      have k1 := hR.1.2 1 _ rfl
      have k2 := hR.1.2 2 _ rfl
      have k3 := hR.1.2 3 _ rfl
      have hK' := hK g w' (fun _ _ _ _ _ _ => rfl) (by rw [hfl 4 (by decide)]; exact hR) (.agg #[.int .i64 W, .int .i64 D, .int .i64 S, .int .i64 (n : Int)]) (by simp only [valO, Option.bind_some]; (try simp only [putAll, Act.put, List.setIfInBounds_toArray, List.set_cons_zero, List.set_cons_succ]); (try rfl))
      clear hS hdep hR
      refine gh_quiet14 (v := .agg #[.int .i64 W, .int .i64 D, .int .i64 S, .int .i64 (n : Int)]) ?_ ?_
      · (simp only [execOp, Act.eval, e20]; go_simp; first | done | (simp; done) | (simp [*]; done) | omega | (rw [IntKind.wrap_i64]; omega))
      · exact hK'
    | 9, ho, hun, hdep, hK, hfl, _ =>
      obtain rfl := Option.some.inj ho
      have d8 : lp.getD 8 false = true := hdep { on := 8, ground := .data } (by simp) rfl
      have e21 : a'.tmps[21]? = some (.agg #[.int .i64 W, .int .i64 D, .int .i64 S, .int .i64 (n : Int)]) := (hS.don 8 _ 21 rfl d8 rfl).trans (by simp only [putAll, Act.put, List.setIfInBounds_toArray, List.set_cons_zero, List.set_cons_succ]; rfl)
      have KC := KZ.out w'
      clear hdep
      unfold Oper.wp
      simp only [execOp, Act.eval, Array.getD_eq_getD_getElem?]
      simp [go_sem, e21, Oper.upon]
      refine KC.mono ?_
      rintro e W2 ⟨rfl, hb⟩
      exact hK g W2 (fun _ _ _ _ _ _ => rfl) (by rw [hfl 4 (by decide)]; exact ⟨hR.1.keep hb, fun h => keepc hb (hR.2 h)⟩) _ (by simp only [valO, Option.bind_some]; simp only [putAll, Act.put, List.setIfInBounds_toArray, List.set_cons_zero, List.set_cons_succ]; rfl)
    | 10, ho, hun, hdep, hK, hfl, _ =>
      obtain rfl := Option.some.inj ho
      have d9 : lp.getD 9 false = true := hdep { on := 9, ground := .data } (by simp) rfl
      have e22 : a'.tmps[22]? = some (.int .i64 (16 + (n : Int) * 4)) := (hS.don 9 _ 22 rfl d9 rfl).trans (by simp only [putAll, Act.put, List.setIfInBounds_toArray, List.set_cons_zero, List.set_cons_succ]; rfl)
      have hK' := hK g w' (fun _ _ _ _ _ _ => rfl) (by rw [hfl 4 (by decide)]; exact hR) (.int .i64 ((n : Int) * 4)) (by simp only [valO, Option.bind_some]; (try simp only [putAll, Act.put, List.setIfInBounds_toArray, List.set_cons_zero, List.set_cons_succ]); (try rfl))
      clear hS hdep hR
      refine gh_quiet14 (v := .int .i64 ((n : Int) * 4)) ?_ ?_
      · (simp only [execOp, Act.eval, e22]; go_simp; first | done | (simp; done) | (simp [*]; done) | omega | (rw [IntKind.wrap_i64]; omega))
      · exact hK'
    | 11, ho, hun, hdep, hK, hfl, _ =>
      obtain rfl := Option.some.inj ho
      have d5 : lp.getD 5 false = true := hdep { on := 5, ground := .data } (by simp) rfl
      have e18 : a'.tmps[18]? = some (.int .u32 s12) := (hS.don 5 _ 18 rfl d5 rfl).trans (by simp only [putAll, Act.put, List.setIfInBounds_toArray, List.set_cons_zero, List.set_cons_succ]; rfl)
      have d6 : lp.getD 6 false = true := hdep { on := 6, ground := .data } (by simp) rfl
      have e19 : a'.tmps[19]? = some (.int .u32 sz) := (hS.don 6 _ 19 rfl d6 rfl).trans (by simp only [putAll, Act.put, List.setIfInBounds_toArray, List.set_cons_zero, List.set_cons_succ]; rfl)
      have d10 : lp.getD 10 false = true := hdep { on := 10, ground := .data } (by simp) rfl
      have e23 : a'.tmps[23]? = some (.int .i64 ((n : Int) * 4)) := (hS.don 10 _ 23 rfl d10 rfl).trans (by simp only [putAll, Act.put, List.setIfInBounds_toArray, List.set_cons_zero, List.set_cons_succ]; rfl)
      have KC := KJ.out w'
      clear hdep
      unfold Oper.wp
      simp only [execOp, Act.eval, Array.getD_eq_getD_getElem?]
      simp [go_sem, e18, e19, e23, Oper.upon]
      refine KC.mono ?_
      rintro e W2 ⟨rfl, hw2⟩
      replace hw2 := hw2.symm
      subst hw2
      exact hK g w' (fun _ _ _ _ _ _ => rfl) (by rw [hfl 4 (by decide)]; exact hR) _ (by simp only [valO, Option.bind_some]; simp only [putAll, Act.put, List.setIfInBounds_toArray, List.set_cons_zero, List.set_cons_succ]; rfl)
    | 12, ho, hun, hdep, hK, hfl, _ =>
      obtain rfl := Option.some.inj ho
      have d0 : lp.getD 0 false = true := hdep { on := 0, ground := .data } (by simp) rfl
      have e13 : a'.tmps[13]? = some (.int .u32 said) := (hS.don 0 _ 13 rfl d0 rfl).trans (by simp only [putAll, Act.put, List.setIfInBounds_toArray, List.set_cons_zero, List.set_cons_succ]; rfl)
      have d11 : lp.getD 11 false = true := hdep { on := 11, ground := .data } (by simp) rfl
      have e24 : a'.tmps[24]? = some (.int .u32 sj) := (hS.don 11 _ 24 rfl d11 rfl).trans (by simp only [putAll, Act.put, List.setIfInBounds_toArray, List.set_cons_zero, List.set_cons_succ]; rfl)
      have hK' := hK g w' (fun _ _ _ _ _ _ => rfl) (by rw [hfl 4 (by decide)]; exact hR) (.bool (said == sj)) (by simp only [valO, Option.bind_some]; (try simp only [putAll, Act.put, List.setIfInBounds_toArray, List.set_cons_zero, List.set_cons_succ]); (try rfl))
      clear hS hdep hR
      refine gh_quiet14 (v := .bool (said == sj)) ?_ ?_
      · (simp only [execOp, Act.eval, e13, e24]; go_simp; first | done | (simp; done) | (simp [*]; done) | omega | (rw [IntKind.wrap_i64]; omega))
      · exact hK'
    | 13, ho, hun, hdep, hK, hfl, _ =>
      obtain rfl := Option.some.inj ho
      have d12 : lp.getD 12 false = true := hdep { on := 12, ground := .data } (by simp) rfl
      have e25 : a'.tmps[25]? = some (.bool (said == sj)) := (hS.don 12 _ 25 rfl d12 rfl).trans (by simp only [putAll, Act.put, List.setIfInBounds_toArray, List.set_cons_zero, List.set_cons_succ]; rfl)
      have hK' := hK g w' (fun _ _ _ _ _ _ => rfl) (by rw [hfl 4 (by decide)]; exact hR) (.bool (said == sj)) (by simp only [valO, Option.bind_some]; (try simp only [putAll, Act.put, List.setIfInBounds_toArray, List.set_cons_zero, List.set_cons_succ]); (try rfl))
      clear hS hdep hR
      refine gh_quiet14 (v := .bool (said == sj)) ?_ ?_
      · (simp only [execOp, Act.eval, e25]; go_simp; first | done | (simp; done) | (simp [*]; done) | omega | (rw [IntKind.wrap_i64]; omega))
      · exact hK'
    | n + 14, ho, hun, hdep, hK, hfl, hq => exact absurd hq (by omega)
  case fin0 =>
    intro g V10 hR
    have HB10 := hid13 hR.1.1
    simp only [putAll, Act.put, List.setIfInBounds_toArray, List.set_cons_zero, List.set_cons_succ]
    clear hR
    go_wp2
    exact bodyPost_ret (v := .bool (said == sj)) (by simp [results, Tryd.results13, go_sem]) rfl ⟨by rw [HRes.out], HB10.out⟩
end Go.Proofs.YtjgpbahglkaijaaDoor
