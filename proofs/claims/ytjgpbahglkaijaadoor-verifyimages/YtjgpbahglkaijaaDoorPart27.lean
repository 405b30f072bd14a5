/-
  Part 27 of the proof: 3 texts, one behind the other.
-/
import Derived.Test.YtjgpbahglkaijaaDoorPart26
import Derived.Test.YtjgpbahglkaijaaDoorPart25
import Derived.Test.YtjgpbahglkaijaaDoorPart2
import Derived.Test.YtjgpbahglkaijaaDoorPart23
import Derived.Test.YtjgpbahglkaijaaDoorPart18
namespace Go.Proofs.YtjgpbahglkaijaaDoor
open Go.RowKit
set_option linter.unusedSimpArgs false
set_option linter.unusedVariables false

theorem smB_ok {r : List Nat} (h : rdE r = 0) : smB r (crS (rC r)) = rOk r := by
  unfold smB rOk
  rw [crS_join, rC_len h]
def opV (l : List Nat) (a : Int) : Value := if opE l a = 0 then .agg #[.int .i64 ((rW (l.drop a.toNat) : Nat) : Int), .int .i64 ((rD (l.drop a.toNat) : Nat) : Int), .int .i64 ((rS (l.drop a.toNat) : Nat) : Int), .int .i64 ((rN (l.drop a.toNat) : Nat) : Int)] else .agg #[.int .i64 0, .int .i64 0, .int .i64 0, .int .i64 0]
def opC (l : List Nat) (a : Int) : List Nat := if opE l a = 0 then rC (l.drop a.toNat) else []
theorem opV_no {l : List Nat} {a : Int} (h : opE l a ≠ 0) : opV l a = .agg #[.int .i64 0, .int .i64 0, .int .i64 0, .int .i64 0] ∧ opC l a = [] := by unfold opV opC; rw [if_neg h, if_neg h]; exact ⟨rfl, rfl⟩
theorem bset4 {w W : World} (h : Below w.heap.size w W) (v0 v1 v2 v3 : Value) : Below w.heap.size w ((((W.setCell ⟨w.heap.size, 0, none⟩ v0).setCell ⟨w.heap.size, 1, none⟩ v1).setCell ⟨w.heap.size, 2, none⟩ v2).setCell ⟨w.heap.size, 3, none⟩ v3) :=
  (((h.setCell (p := ⟨w.heap.size, 0, none⟩) (Nat.le_refl _) _).setCell (p := ⟨w.heap.size, 1, none⟩) (Nat.le_refl _) _).setCell (p := ⟨w.heap.size, 2, none⟩) (Nat.le_refl _) _).setCell (p := ⟨w.heap.size, 3, none⟩) (Nat.le_refl _) _
def Rz (B : Nat) (cs : List Value) (f : Bool) (X : World) : Prop := (∀ j, j < 4 → (∃ u, X.cell? ⟨B, j, none⟩ = some u) ∧ X.frozen? ⟨B, j, none⟩ = false) ∧ (f = true → ∀ j u, cs[j]? = some u → X.cell? ⟨B, j, none⟩ = some u)
theorem Rz.keep {B : Nat} {cs : List Value} {f : Bool} {X X' : World} (h : Rz B cs f X) (hb : Below X.heap.size X X') : Rz B cs f X' :=
  ⟨fun j hj => by obtain ⟨⟨u, hu⟩, hf⟩ := h.1 j hj; exact ⟨⟨u, keepc hb hu⟩, keepf hb hu hf⟩, fun hf j u hj => keepc hb (h.2 hf j u hj)⟩
theorem Bx.set1 {w X : World} {R B k : Nat} {cs : List Value} (h : Bx w R cs X) (hB : w.heap.size ≤ B) (hne : R ≠ B) (v : Value) : Bx w R cs (X.setCell ⟨B, k, none⟩ v) :=
  ⟨h.1.setCell (p := ⟨B, k, none⟩) hB _, fun j u hj => by rw [World.cell?_of_block (w := X) (Below.heap_setCell X ⟨B, k, none⟩ v R hne)]; exact h.2 j u hj⟩
theorem Bx.set4 {w X : World} {R B : Nat} {cs : List Value} (h : Bx w R cs X) (hB : w.heap.size ≤ B) (hne : R ≠ B) (v0 v1 v2 v3 : Value) : Bx w R cs ((((X.setCell ⟨B, 0, none⟩ v0).setCell ⟨B, 1, none⟩ v1).setCell ⟨B, 2, none⟩ v2).setCell ⟨B, 3, none⟩ v3) :=
  (((h.set1 hB hne v0).set1 hB hne v1).set1 hB hne v2).set1 hB hne v3
theorem gh_same17 {x y : Array Value} {d e s : Nat} (h : (x.toList.set e undef).eraseIdx d = (y.toList.set e undef).eraseIdx d) (hs : s ≠ d) (ht : s ≠ e) : x[s]? = y[s]? := by
  have := erase_get _ _ d s h hs
  rw [List.getElem?_set_ne (Ne.symm ht), List.getElem?_set_ne (Ne.symm ht)] at this
  simpa using this
set_option maxRecDepth 20000 in
set_option maxHeartbeats 8000000 in
theorem open_any (v : Value) (l : List Nat) (a : Int) (w : World) (hv : RwX cB w v l) (hl : l.length ≤ 140737480000000) (hx : ∀ b ∈ l, b < 256) (hT : Hf w) :
    Calls Tryd.prog 8 #[v, .int .i64 a] w fun e w' => ∃ v', e = .returned (.tuple #[opV l a, v', .int .i64 (opE l a)]) ∧ w'.ownsRow w.heap.size 5 1 v' (opC l a).length ((opC l a).map cB) ∧ Below w.heap.size w w' := by
  obtain ⟨i0, hi, hz0, hz1, hz2⟩ := info13 Tryd.infoB13
  have q1 := bl1 w (.cells #[.int .i64 0, .int .i64 0, .int .i64 0, .int .i64 0] 25)
  have HQ := hid13 q1
  obtain ⟨ao, cc, hvf, hcc, -⟩ := id hv
  by_cases hat : a < 0 ∨ (l.length : Int) < a
  · have hE : opE l a = 30 := by unfold opE; rw [if_pos hat]
    have hV := opV_no (l := l) (a := a) (by rw [hE]; decide)
    rw [hE, hV.1, hV.2]
    subst hvf
    clear hE hV q1 hl hx hi hz0 hz1 hz2 hv hT hcc
    go_enter Tryd.func8, Tryd.ntmps8
    rcases hat with hat | hat
    · go_wp2
      exact bodyPost_ret (v := .tuple #[.agg #[.int .i64 0, .int .i64 0, .int .i64 0, .int .i64 0], .slice none 0 0, .int .i64 30]) (by simp [results, Tryd.results8, go_sem, *]) rfl ⟨_, rfl, World.ownsRow_nil _ _ _ _, by first | exact HQ.out | exact bset4 HQ.out _ _ _ _⟩
    · have hn0 : ¬ a < 0 := by omega
      go_wp2
      exact bodyPost_ret (v := .tuple #[.agg #[.int .i64 0, .int .i64 0, .int .i64 0, .int .i64 0], .slice none 0 0, .int .i64 30]) (by simp [results, Tryd.results8, go_sem, *]) rfl ⟨_, rfl, World.ownsRow_nil _ _ _ _, by first | exact HQ.out | exact bset4 HQ.out _ _ _ _⟩
  obtain ⟨k, rfl⟩ : ∃ k : Nat, a = (k : Int) := ⟨a.toNat, by omega⟩
  have hk : k ≤ l.length := by omega
  have hE0 : opE l (k : Int) = ofE17 (l.drop k) := by unfold opE; rw [if_neg hat, Int.toNat_natCast]
  have hV0 : opV l (k : Int) = if ofE17 (l.drop k) = 0 then .agg #[.int .i64 ((rW (l.drop k) : Nat) : Int), .int .i64 ((rD (l.drop k) : Nat) : Int), .int .i64 ((rS (l.drop k) : Nat) : Int), .int .i64 ((rN (l.drop k) : Nat) : Int)] else .agg #[.int .i64 0, .int .i64 0, .int .i64 0, .int .i64 0] := by unfold opV; rw [hE0, Int.toNat_natCast]
  have hC0 : opC l (k : Int) = if ofE17 (l.drop k) = 0 then rC (l.drop k) else [] := by unfold opC; rw [hE0, Int.toNat_natCast]
  rw [hE0, hV0, hC0]
  have hrl : (l.drop k).length = l.length - k := List.length_drop ..
  have hxr : ∀ b ∈ l.drop k, b < 256 := fun b hb => hx b (List.mem_of_mem_drop hb)
  subst hvf
  have hvr := rwx_from hv hk
  rw [← hrl] at hvr
  have HSl : Hid (∀ X, Sem.run Tryd.prog (Instr.sliceAt 22 (.slice ao l.length cc) (some (.int .i64 k)) none none) X = .ok (.slice (if cc = k then ao else ao.map (·.add (k * 1))) (l.drop k).length (cc - k)) X) := hid13 (fun X => by
    rw [hrl]; exact run_slice_from (P := Tryd.prog) (w := X) Tryd.underlying22 hi hz1 ao l.length cc k hk)
  have hlr : (l.drop k).length ≤ 140737480000000 := by omega
  have hlk : (k : Int) ≤ (l.length : Int) := by omega
  have hlk' : ¬ (l.length : Int) < (k : Int) := by omega
  generalize l.drop k = r at *
  generalize (if cc = k then ao else ao.map (·.add (k * 1))) = so at *
  generalize cc - k = sc at *
  have hs1 := HSl.out (w.alloc (.cells #[.int .i64 0, .int .i64 0, .int .i64 0, .int .i64 0] 25))
  have K2 := readerOf_any (.slice so r.length sc) r (w.alloc (.cells #[.int .i64 0, .int .i64 0, .int .i64 0, .int .i64 0] 25)) (hvr.below q1) (by omega) hxr
  have HV := hid13 hvr
  have HX := hid13 hxr
  have HL := hid13 hlr
  have HT := hid13 hT
  by_cases h0 : rdE r = 0
  rotate_left 1
  · have hof : ofE17 r = rdE r := by unfold ofE17; rw [if_pos h0]
    rw [hof, if_neg h0, if_neg h0]
    have hrv : rdV (.slice so r.length sc) r = .agg #[.int .i64 0, .int .i64 0, .int .i64 0, .int .i64 0, .slice none 0 0] := by unfold rdV; rw [if_neg h0]
    rw [hrv] at K2
    generalize rdE r = E at *
    have hn : (E != 0) = true := by simpa using h0
    clear hof hrv hE0 hV0 hC0 hrl hvr hlr h0 q1 hv hl hx hT hcc hat hk hxr hi hz0 hz1 hz2
    go_enter Tryd.func8, Tryd.ntmps8
    go_wp2_with fail
    refine K2.mono ?_
    rintro e2 w2 ⟨rfl, hb2⟩
    have HB2 := hid13 (keepb hb2 HQ.out)
    have z0 := keepc hb2 (show (w.alloc (.cells #[.int .i64 0, .int .i64 0, .int .i64 0, .int .i64 0] 25)).cell? ⟨w.heap.size, 0, none⟩ = some (.int .i64 0) by simp [go_sem])
    have fz0 := keepf hb2 (show (w.alloc (.cells #[.int .i64 0, .int .i64 0, .int .i64 0, .int .i64 0] 25)).cell? ⟨w.heap.size, 0, none⟩ = some (.int .i64 0) by simp [go_sem]) (show (w.alloc (.cells #[.int .i64 0, .int .i64 0, .int .i64 0, .int .i64 0] 25)).frozen? ⟨w.heap.size, 0, none⟩ = false by simp [go_sem])
    have z1 := keepc hb2 (show (w.alloc (.cells #[.int .i64 0, .int .i64 0, .int .i64 0, .int .i64 0] 25)).cell? ⟨w.heap.size, 1, none⟩ = some (.int .i64 0) by simp [go_sem])
    have fz1 := keepf hb2 (show (w.alloc (.cells #[.int .i64 0, .int .i64 0, .int .i64 0, .int .i64 0] 25)).cell? ⟨w.heap.size, 1, none⟩ = some (.int .i64 0) by simp [go_sem]) (show (w.alloc (.cells #[.int .i64 0, .int .i64 0, .int .i64 0, .int .i64 0] 25)).frozen? ⟨w.heap.size, 1, none⟩ = false by simp [go_sem])
    have z2 := keepc hb2 (show (w.alloc (.cells #[.int .i64 0, .int .i64 0, .int .i64 0, .int .i64 0] 25)).cell? ⟨w.heap.size, 2, none⟩ = some (.int .i64 0) by simp [go_sem])
    have fz2 := keepf hb2 (show (w.alloc (.cells #[.int .i64 0, .int .i64 0, .int .i64 0, .int .i64 0] 25)).cell? ⟨w.heap.size, 2, none⟩ = some (.int .i64 0) by simp [go_sem]) (show (w.alloc (.cells #[.int .i64 0, .int .i64 0, .int .i64 0, .int .i64 0] 25)).frozen? ⟨w.heap.size, 2, none⟩ = false by simp [go_sem])
    have z3 := keepc hb2 (show (w.alloc (.cells #[.int .i64 0, .int .i64 0, .int .i64 0, .int .i64 0] 25)).cell? ⟨w.heap.size, 3, none⟩ = some (.int .i64 0) by simp [go_sem])
    have fz3 := keepf hb2 (show (w.alloc (.cells #[.int .i64 0, .int .i64 0, .int .i64 0, .int .i64 0] 25)).cell? ⟨w.heap.size, 3, none⟩ = some (.int .i64 0) by simp [go_sem]) (show (w.alloc (.cells #[.int .i64 0, .int .i64 0, .int .i64 0, .int .i64 0] 25)).frozen? ⟨w.heap.size, 3, none⟩ = false by simp [go_sem])
    have q3 := bl1 w2 (.cells #[.int .i64 0, .int .i64 0, .int .i64 0, .int .i64 0, .slice none 0 0] 48)
    have za0 := keepc q3 z0
    have za1 := keepc q3 z1
    have za2 := keepc q3 z2
    have za3 := keepc q3 z3
    have fa0 := keepf q3 z0 fz0
    have fa1 := keepf q3 z1 fz1
    have fa2 := keepf q3 z2 fz2
    have fa3 := keepf q3 z3 fz3
    clear K2 hb2 z0 z1 z2 z3 fz0 fz1 fz2 fz3 q3
    go_wp2
    exact bodyPost_ret (v := .tuple #[.agg #[.int .i64 0, .int .i64 0, .int .i64 0, .int .i64 0], .slice none 0 0, .int .i64 E]) (by simp [results, Tryd.results8, go_sem, *]) rfl ⟨_, rfl, World.ownsRow_nil _ _ _ _, by first | exact (HB2.out.alloc HB2.out.size _) | exact bset4 (HB2.out.alloc HB2.out.size _) _ _ _ _⟩
  obtain ⟨g1, g2, g3, g4, g5⟩ := rd_zero h0
  obtain ⟨b, off, c, hvf, hcc2, hcell⟩ := rwx_at hvr g1
  injection hvf with hv1 hv2 hv3
  subst hv1 hv3
  have hrv : rdV (.slice (some ⟨b, off, none⟩) r.length sc) r = .agg #[.int .i64 ((rW r : Nat) : Int), .int .i64 ((rD r : Nat) : Int), .int .i64 ((rS r : Nat) : Int), .int .i64 ((rN r : Nat) : Int), .slice (some ⟨b, off, none⟩) r.length sc] := by unfold rdV; rw [if_pos h0]
  rw [hrv, h0] at K2
  have hof : ofE17 r = if rOk r then 0 else 23 := by unfold ofE17; rw [if_neg (fun q => q h0)]
  have HCode : Hid (∀ X, Calls Tryd.prog 15 #[.agg #[.int .i64 ((rW r : Nat) : Int), .int .i64 ((rD r : Nat) : Int), .int .i64 ((rS r : Nat) : Int), .int .i64 ((rN r : Nat) : Int), .slice (some ⟨b, off, none⟩) r.length sc]] X fun e w' => e = .returned (cdV b off sc (4 * rN r)) ∧ Below X.heap.size X w') := hid13 (fun X => code_any17 _ _ _ (rN r) b off sc r g4 hcc2 g5 X)
  have HSum : Hid (∀ X, Below w.heap.size w X → Calls Tryd.prog 13 #[.agg #[.int .i64 ((rW r : Nat) : Int), .int .i64 ((rD r : Nat) : Int), .int .i64 ((rS r : Nat) : Int), .int .i64 ((rN r : Nat) : Int), .slice (some ⟨b, off, none⟩) r.length sc], .int .u32 (uI (crS (rC r)))] X fun e w' => e = .returned (.bool (rOk r)) ∧ Below X.heap.size X w') := hid13 (fun X hB => by
    have := sumIsOf_any ((rW r : Nat) : Int) ((rD r : Nat) : Int) ((rS r : Nat) : Int) (rN r) b off sc r (crS (rC r)) g4 hcc2 g1 (by omega) hxr X (fun j x hj => keepc hB (hcell j x hj)) (hT.below hB) rfl
    rw [smB_ok h0] at this
    exact this)
  have HRows : Hid (∀ X, Below w.heap.size w X → RowA X 1 (cdV b off sc (4 * rN r)) (rC r).length ((rC r).map cB) ∧ RwX cB X (cdV b off sc (4 * rN r)) (rC r)) := hid13 (fun X hB => cd_rowA (fun j x hj => keepc hB (hcell j x hj)) hcc2 g5)
  have HClen : Hid ((rC r).length ≤ 140737480000000 ∧ ∀ b ∈ rC r, b < 256) := ⟨by rw [rC_len h0]; omega, fun b hb => hxr b (List.mem_of_mem_drop (List.mem_of_mem_take hb))⟩
  have HU : Hid (∀ (X : World) (N : Nat), Below w.heap.size w X → X.cell? ⟨N, 0, none⟩ = some (cdV b off sc (4 * rN r)) → Calls Tryd.prog 14 #[.slice (some ⟨N, 0, none⟩) 1 1] X fun e w' => e = .returned (.int .u32 (uI (crS (rC r)))) ∧ w' = X) := hid13 (fun X N hB hc => sum_one hc (HRows.out X hB).2 (by have := HClen.out.1; omega) HClen.out.2 (hT.below hB))
  have HCl : Hid (∀ X, Below w.heap.size w X → Calls Tryd.prog 16 #[cdV b off sc (4 * rN r)] X fun e w' => ∃ v', e = .returned v' ∧ w'.ownsRow X.heap.size 5 1 v' (rC r).length ((rC r).map cB) ∧ Below X.heap.size X w') := hid13 (fun X hB => clone14 _ _ X (HRows.out X hB).1 HClen.out.1)
  rw [hof]
  obtain ⟨ca, cn, cd, hcd⟩ : ∃ ca cn cd, cdV b off sc (4 * rN r) = .slice ca cn cd := ⟨_, _, _, rfl⟩
  rw [hcd] at HCode HRows HU HCl
  obtain ⟨x0, hx0⟩ : ∃ x : Int, x = (rW r : Int) := ⟨_, rfl⟩
  obtain ⟨x1, hx1⟩ : ∃ x : Int, x = (rD r : Int) := ⟨_, rfl⟩
  obtain ⟨x2, hx2⟩ : ∃ x : Int, x = (rS r : Int) := ⟨_, rfl⟩
  obtain ⟨x3, hx3⟩ : ∃ x : Int, x = (rN r : Int) := ⟨_, rfl⟩
  rw [← hx0, ← hx1, ← hx2, ← hx3] at HCode HSum K2
  rw [← hx0, ← hx1, ← hx2, ← hx3]
  generalize uI (crS (rC r)) = sc4 at *
  generalize rC r = L at *
  generalize hres : rOk r = res at *
  clear hres hcd hof hrv hE0 hV0 hC0 hrl hvr hlr h0 q1 hv hl hx hcc hat hk hxr hi hz0 hz1 hz2 g1 g2 g3 g4 g5 hcell hcc2 hx0 hx1 hx2 hx3 hT HRows hv2
  go_enter Tryd.func8, Tryd.ntmps8
  go_wp2_with fail
  refine K2.mono ?_
  rintro e2 w2 ⟨rfl, hb2⟩
  have HB2 := hid13 (keepb hb2 HQ.out)
  have z0 := keepc hb2 (show (w.alloc (.cells #[.int .i64 0, .int .i64 0, .int .i64 0, .int .i64 0] 25)).cell? ⟨w.heap.size, 0, none⟩ = some (.int .i64 0) by simp [go_sem])
  have fz0 := keepf hb2 (show (w.alloc (.cells #[.int .i64 0, .int .i64 0, .int .i64 0, .int .i64 0] 25)).cell? ⟨w.heap.size, 0, none⟩ = some (.int .i64 0) by simp [go_sem]) (show (w.alloc (.cells #[.int .i64 0, .int .i64 0, .int .i64 0, .int .i64 0] 25)).frozen? ⟨w.heap.size, 0, none⟩ = false by simp [go_sem])
  have z1 := keepc hb2 (show (w.alloc (.cells #[.int .i64 0, .int .i64 0, .int .i64 0, .int .i64 0] 25)).cell? ⟨w.heap.size, 1, none⟩ = some (.int .i64 0) by simp [go_sem])
  have fz1 := keepf hb2 (show (w.alloc (.cells #[.int .i64 0, .int .i64 0, .int .i64 0, .int .i64 0] 25)).cell? ⟨w.heap.size, 1, none⟩ = some (.int .i64 0) by simp [go_sem]) (show (w.alloc (.cells #[.int .i64 0, .int .i64 0, .int .i64 0, .int .i64 0] 25)).frozen? ⟨w.heap.size, 1, none⟩ = false by simp [go_sem])
  have z2 := keepc hb2 (show (w.alloc (.cells #[.int .i64 0, .int .i64 0, .int .i64 0, .int .i64 0] 25)).cell? ⟨w.heap.size, 2, none⟩ = some (.int .i64 0) by simp [go_sem])
  have fz2 := keepf hb2 (show (w.alloc (.cells #[.int .i64 0, .int .i64 0, .int .i64 0, .int .i64 0] 25)).cell? ⟨w.heap.size, 2, none⟩ = some (.int .i64 0) by simp [go_sem]) (show (w.alloc (.cells #[.int .i64 0, .int .i64 0, .int .i64 0, .int .i64 0] 25)).frozen? ⟨w.heap.size, 2, none⟩ = false by simp [go_sem])
  have z3 := keepc hb2 (show (w.alloc (.cells #[.int .i64 0, .int .i64 0, .int .i64 0, .int .i64 0] 25)).cell? ⟨w.heap.size, 3, none⟩ = some (.int .i64 0) by simp [go_sem])
  have fz3 := keepf hb2 (show (w.alloc (.cells #[.int .i64 0, .int .i64 0, .int .i64 0, .int .i64 0] 25)).cell? ⟨w.heap.size, 3, none⟩ = some (.int .i64 0) by simp [go_sem]) (show (w.alloc (.cells #[.int .i64 0, .int .i64 0, .int .i64 0, .int .i64 0] 25)).frozen? ⟨w.heap.size, 3, none⟩ = false by simp [go_sem])
  have hne : w2.heap.size ≠ w.heap.size := by have := cell_in z0; omega
  have HNe := hid13 hne
  have HW2 : Hid (w.heap.size < w2.heap.size) := by have := cell_in z0; exact this
  have HX3 := hid13 (bx_new (t := 48) HB2.out #[.int .i64 x0, .int .i64 x1, .int .i64 x2, .int .i64 x3, .slice (some ⟨b, off, none⟩) r.length sc])
  have q3 := bl1 w2 (.cells #[.int .i64 x0, .int .i64 x1, .int .i64 x2, .int .i64 x3, .slice (some ⟨b, off, none⟩) r.length sc] 48)
  have HR3 : Hid (Rz w.heap.size [.int .i64 x0, .int .i64 x1, .int .i64 x2, .int .i64 x3] false (w2.alloc (.cells #[.int .i64 x0, .int .i64 x1, .int .i64 x2, .int .i64 x3, .slice (some ⟨b, off, none⟩) r.length sc] 48))) := hid13 (Rz.keep (X := w2) ⟨fun j hj => by
    match j, hj with
    | 0, _ => exact ⟨⟨_, z0⟩, fz0⟩
    | 1, _ => exact ⟨⟨_, z1⟩, fz1⟩
    | 2, _ => exact ⟨⟨_, z2⟩, fz2⟩
    | 3, _ => exact ⟨⟨_, z3⟩, fz3⟩, fun h => by cases h⟩ q3)
  clear K2 hb2 q3 hne z0 z1 z2 z3 fz0 fz1 fz2 fz3
  go_wp2_with fail
  refine gh_region (γ := Nat) (qpOk 7 7 (by decide) (fun N => by kernel_rfl) (by kernel_rfl) (by kernel_rfl) (by kernel_rfl) (by kernel_rfl)) (by kernel_rfl) (by kernel_rfl) [some 29, some 30, some 31, some 32, some 33, some 34, some 35] (fun g => [.agg #[.int .i64 x0, .int .i64 x1, .int .i64 x2, .int .i64 x3, .slice (some ⟨b, off, none⟩) r.length sc], .agg #[.int .i64 x0, .int .i64 x1, .int .i64 x2, .int .i64 x3, .slice (some ⟨b, off, none⟩) r.length sc], .slice ca cn cd, .slice (some ⟨g, 0, none⟩) 1 1, .int .u32 sc4, .bool res, .bool (!res)]) (by kernel_rfl) (by simp) (fun lp g X => Bx w w2.heap.size [.int .i64 x0, .int .i64 x1, .int .i64 x2, .int .i64 x3, .slice (some ⟨b, off, none⟩) r.length sc] X ∧ (lp.getD 3 false = true → X.cell? ⟨g, 0, none⟩ = some (.slice ca cn cd)) ∧ Rz w.heap.size [.int .i64 x0, .int .i64 x1, .int .i64 x2, .int .i64 x3] false X) 0 ⟨HX3.out.drew, fun h => (by simp at h), HR3.out⟩ ?step0 ?fin0
  case step0 =>
    intro q o lp g w' a' ho hsz hun hdep hR hS K Q' hK
    have hfl : ∀ j, j ≠ q → (lp.setIfInBounds q true).getD j false = lp.getD j false := fun j hj => by rw [Array.getD_eq_getD_getElem?, Array.getD_eq_getD_getElem?, Array.getElem?_setIfInBounds_ne (by omega)]
    have hq : q < 7 := (List.getElem?_eq_some_iff.mp ho).1
    match q, ho, hun, hdep, hK, hfl, hq with
    | 0, ho, hun, hdep, hK, hfl, _ =>
      obtain rfl := Option.some.inj ho
      have o7 : a'.tmps[7]? = some (.pointer (some ⟨w2.heap.size, 0, none⟩)) := (hS.old14 7 (by simp)).trans rfl
      have k0 := hR.1.2 0 _ rfl
      have k1 := hR.1.2 1 _ rfl
      have k2 := hR.1.2 2 _ rfl
      have k3 := hR.1.2 3 _ rfl
      have k4 := hR.1.2 4 _ rfl
      have hK' := hK g w' (fun _ _ _ _ _ _ => rfl) (by rw [hfl 3 (by decide)]; exact hR) (.agg #[.int .i64 x0, .int .i64 x1, .int .i64 x2, .int .i64 x3, .slice (some ⟨b, off, none⟩) r.length sc]) (by simp only [valO, Option.bind_some]; (try simp only [putAll, Act.put, List.setIfInBounds_toArray, List.set_cons_zero, List.set_cons_succ]); (try rfl))
      clear hS hdep hR
      refine gh_quiet14 (v := .agg #[.int .i64 x0, .int .i64 x1, .int .i64 x2, .int .i64 x3, .slice (some ⟨b, off, none⟩) r.length sc]) ?_ ?_
      · (simp only [execOp, Act.eval, o7]; go_simp; first | done | (simp; done) | (simp [*]; done) | omega | (rw [IntKind.wrap_i64]; omega))
      · exact hK'
    | 1, ho, hun, hdep, hK, hfl, _ =>
      obtain rfl := Option.some.inj ho
      have o7 : a'.tmps[7]? = some (.pointer (some ⟨w2.heap.size, 0, none⟩)) := (hS.old14 7 (by simp)).trans rfl
      have k0 := hR.1.2 0 _ rfl
      have k1 := hR.1.2 1 _ rfl
      have k2 := hR.1.2 2 _ rfl
      have k3 := hR.1.2 3 _ rfl
      have k4 := hR.1.2 4 _ rfl
      have hK' := hK g w' (fun _ _ _ _ _ _ => rfl) (by rw [hfl 3 (by decide)]; exact hR) (.agg #[.int .i64 x0, .int .i64 x1, .int .i64 x2, .int .i64 x3, .slice (some ⟨b, off, none⟩) r.length sc]) (by simp only [valO, Option.bind_some]; (try simp only [putAll, Act.put, List.setIfInBounds_toArray, List.set_cons_zero, List.set_cons_succ]); (try rfl))
      clear hS hdep hR
      refine gh_quiet14 (v := .agg #[.int .i64 x0, .int .i64 x1, .int .i64 x2, .int .i64 x3, .slice (some ⟨b, off, none⟩) r.length sc]) ?_ ?_
      · (simp only [execOp, Act.eval, o7]; go_simp; first | done | (simp; done) | (simp [*]; done) | omega | (rw [IntKind.wrap_i64]; omega))
      · exact hK'
    | 2, ho, hun, hdep, hK, hfl, _ =>
      obtain rfl := Option.some.inj ho
      have d1 : lp.getD 1 false = true := hdep { on := 1, ground := .data } (by simp) rfl
      have e30 : a'.tmps[30]? = some (.agg #[.int .i64 x0, .int .i64 x1, .int .i64 x2, .int .i64 x3, .slice (some ⟨b, off, none⟩) r.length sc]) := (hS.don 1 _ 30 rfl d1 rfl).trans (by simp only [putAll, Act.put, List.setIfInBounds_toArray, List.set_cons_zero, List.set_cons_succ]; rfl)
      have KC := HCode.out w'
      clear hdep
      unfold Oper.wp
      simp only [execOp, Act.eval, Array.getD_eq_getD_getElem?]
      simp [go_sem, e30, Oper.upon]
      refine KC.mono ?_
      rintro e W2 ⟨rfl, hb⟩
      exact hK g W2 (fun _ _ _ _ _ _ => rfl) (by rw [hfl 3 (by decide)]; exact ⟨hR.1.keep hb, fun h => keepc hb (hR.2.1 h), hR.2.2.keep hb⟩) _ (by simp only [valO, Option.bind_some]; simp only [putAll, Act.put, List.setIfInBounds_toArray, List.set_cons_zero, List.set_cons_succ]; rfl)
    | 3, ho, hun, hdep, hK, hfl, _ =>
      obtain rfl := Option.some.inj ho
      have d2 : lp.getD 2 false = true := hdep { on := 2, ground := .data } (by simp) rfl
      have e31 : a'.tmps[31]? = some (.slice ca cn cd) := (hS.don 2 _ 31 rfl d2 rfl).trans (by simp only [putAll, Act.put, List.setIfInBounds_toArray, List.set_cons_zero, List.set_cons_succ]; rfl)
      have q := bl1 w' (.cells #[.slice ca cn cd] 22)
      have hK' := hK w'.heap.size (w'.alloc (.cells #[.slice ca cn cd] 22)) (fun k' ok s hk hl hd => gh_same14 (d := 32) (s := s) (by simp only [putAll, Act.put, List.setIfInBounds_toArray, List.set_cons_zero, List.set_cons_succ]; rfl) (by rintro rfl; have := dstG_of (by kernel_rfl) k' 3 ok _ 32 hk rfl hd rfl; subst this; rw [hun] at hl; cases hl)) (by rw [getD_set_same (by rw [hsz]; decide)]; exact ⟨hR.1.keep q, fun _ => (by simp [go_sem]), hR.2.2.keep q⟩) (.slice (some ⟨w'.heap.size, 0, none⟩) 1 1) (by simp only [valO, Option.bind_some]; simp only [putAll, Act.put, List.setIfInBounds_toArray, List.set_cons_zero, List.set_cons_succ]; rfl)
      clear hS hdep hR hK
      unfold Oper.wp
      simp only [execOp, Act.eval, Array.getD_eq_getD_getElem?]
      simp [go_sem, e31, Oper.upon]
      exact hK'
    | 4, ho, hun, hdep, hK, hfl, _ =>
      obtain rfl := Option.some.inj ho
      have d3 : lp.getD 3 false = true := hdep { on := 3, ground := .data } (by simp) rfl
      have e32 : a'.tmps[32]? = some (.slice (some ⟨g, 0, none⟩) 1 1) := (hS.don 3 _ 32 rfl d3 rfl).trans (by simp only [putAll, Act.put, List.setIfInBounds_toArray, List.set_cons_zero, List.set_cons_succ]; rfl)
      have KC := HU.out w' g hR.1.1 (hR.2.1 d3)
      clear hdep
      unfold Oper.wp
      simp only [execOp, Act.eval, Array.getD_eq_getD_getElem?]
      simp [go_sem, e32, Oper.upon]
      refine KC.mono ?_
      rintro e W2 ⟨rfl, hw2⟩
      replace hw2 := hw2.symm
      subst hw2
      exact hK g w' (fun _ _ _ _ _ _ => rfl) (by rw [hfl 3 (by decide)]; exact hR) _ (by simp only [valO, Option.bind_some]; simp only [putAll, Act.put, List.setIfInBounds_toArray, List.set_cons_zero, List.set_cons_succ]; rfl)
    | 5, ho, hun, hdep, hK, hfl, _ =>
      obtain rfl := Option.some.inj ho
      have d0 : lp.getD 0 false = true := hdep { on := 0, ground := .data } (by simp) rfl
      have e29 : a'.tmps[29]? = some (.agg #[.int .i64 x0, .int .i64 x1, .int .i64 x2, .int .i64 x3, .slice (some ⟨b, off, none⟩) r.length sc]) := (hS.don 0 _ 29 rfl d0 rfl).trans (by simp only [putAll, Act.put, List.setIfInBounds_toArray, List.set_cons_zero, List.set_cons_succ]; rfl)
      have d4 : lp.getD 4 false = true := hdep { on := 4, ground := .data } (by simp) rfl
      have e33 : a'.tmps[33]? = some (.int .u32 sc4) := (hS.don 4 _ 33 rfl d4 rfl).trans (by simp only [putAll, Act.put, List.setIfInBounds_toArray, List.set_cons_zero, List.set_cons_succ]; rfl)
      have KC := HSum.out w' hR.1.1
      clear hdep
      unfold Oper.wp
      simp only [execOp, Act.eval, Array.getD_eq_getD_getElem?]
      simp [go_sem, e29, e33, Oper.upon]
      refine KC.mono ?_
      rintro e W2 ⟨rfl, hb⟩
      exact hK g W2 (fun _ _ _ _ _ _ => rfl) (by rw [hfl 3 (by decide)]; exact ⟨hR.1.keep hb, fun h => keepc hb (hR.2.1 h), hR.2.2.keep hb⟩) _ (by simp only [valO, Option.bind_some]; simp only [putAll, Act.put, List.setIfInBounds_toArray, List.set_cons_zero, List.set_cons_succ]; rfl)
    | 6, ho, hun, hdep, hK, hfl, _ =>
      obtain rfl := Option.some.inj ho
      have d5 : lp.getD 5 false = true := hdep { on := 5, ground := .data } (by simp) rfl
      have e34 : a'.tmps[34]? = some (.bool res) := (hS.don 5 _ 34 rfl d5 rfl).trans (by simp only [putAll, Act.put, List.setIfInBounds_toArray, List.set_cons_zero, List.set_cons_succ]; rfl)
      have hK' := hK g w' (fun _ _ _ _ _ _ => rfl) (by rw [hfl 3 (by decide)]; exact hR) (.bool (!res)) (by simp only [valO, Option.bind_some]; (try simp only [putAll, Act.put, List.setIfInBounds_toArray, List.set_cons_zero, List.set_cons_succ]); (try rfl))
      clear hS hdep hR
      refine gh_quiet14 (v := .bool (!res)) ?_ ?_
      · (simp only [execOp, Act.eval, e34]; go_simp; first | done | (simp; done) | (simp [*]; done) | omega | (rw [IntKind.wrap_i64]; omega))
      · exact hK'
    | n + 7, ho, hun, hdep, hK, hfl, hq => exact absurd hq (by omega)
  case fin0 =>
    intro g V6 hR
    have HX6 := hid13 hR.1
    have HR6 := hid13 hR.2.2
    simp only [putAll, Act.put, List.setIfInBounds_toArray, List.set_cons_zero, List.set_cons_succ]
    clear hR HX3 HR3
    cases res with
    | false =>
      obtain ⟨⟨u0, z0⟩, fz0⟩ := HR6.out.1 0 (by decide)
      obtain ⟨⟨u1, z1⟩, fz1⟩ := HR6.out.1 1 (by decide)
      obtain ⟨⟨u2, z2⟩, fz2⟩ := HR6.out.1 2 (by decide)
      obtain ⟨⟨u3, z3⟩, fz3⟩ := HR6.out.1 3 (by decide)
      have HB6 := hid13 HX6.out.1
      clear HR6 HX6 HCode HSum HU HCl
      go_wp2
      refine bodyPost_ret (v := .tuple #[.agg #[.int .i64 0, .int .i64 0, .int .i64 0, .int .i64 0], .slice none 0 0, .int .i64 23]) (by simp [results, Tryd.results8, go_sem, *]) rfl ⟨_, rfl, World.ownsRow_nil _ _ _ _, by first | exact HB6.out | exact bset4 HB6.out _ _ _ _⟩
    | true =>
      go_wp2_with fail
      refine gh_region (γ := Value) (qpOk 9 9 (by decide) (fun N => by kernel_rfl) (by kernel_rfl) (by kernel_rfl) (by kernel_rfl) (by kernel_rfl)) (by kernel_rfl) (by kernel_rfl) [some 37, some 38, some 39, some 40, some 41, some 42, none, some 5, some 6] (fun g => [.pointer (some ⟨w2.heap.size, 0, none⟩), .pointer (some ⟨w2.heap.size, 0, none⟩), .agg #[.int .i64 x0, .int .i64 x1, .int .i64 x2, .int .i64 x3], .agg #[.int .i64 x0, .int .i64 x1, .int .i64 x2, .int .i64 x3, .slice (some ⟨b, off, none⟩) r.length sc], .slice ca cn cd, g, undef, g, .int .i64 0]) (by kernel_rfl) (by simp) (fun lp g X => Bx w w2.heap.size [.int .i64 x0, .int .i64 x1, .int .i64 x2, .int .i64 x3, .slice (some ⟨b, off, none⟩) r.length sc] X ∧ (lp.getD 5 false = true → X.ownsRow (w.heap.size + 1) 5 1 g L.length (L.map cB)) ∧ Rz w.heap.size [.int .i64 x0, .int .i64 x1, .int .i64 x2, .int .i64 x3] (lp.getD 6 false) X ∧ (lp.getD 7 false = true → lp.getD 5 false = true)) undef ⟨HX6.out.drew, fun h => (by simp at h), HR6.out, fun h => (by simp at h)⟩ ?step8 ?fin8
      case step8 =>
        intro q o lp g w' a' ho hsz hun hdep hR hS K Q' hK
        have hfl : ∀ j, j ≠ q → (lp.setIfInBounds q true).getD j false = lp.getD j false := fun j hj => by rw [Array.getD_eq_getD_getElem?, Array.getD_eq_getD_getElem?, Array.getElem?_setIfInBounds_ne (by omega)]
        have hq : q < 9 := (List.getElem?_eq_some_iff.mp ho).1
        match q, ho, hun, hdep, hK, hfl, hq with
        | 0, ho, hun, hdep, hK, hfl, _ =>
          obtain rfl := Option.some.inj ho
          have o7 : a'.tmps[7]? = some (.pointer (some ⟨w2.heap.size, 0, none⟩)) := (hS.old14 7 (by simp)).trans rfl
          have hK' := hK g w' (fun _ _ _ _ _ _ => rfl) (by rw [hfl 5 (by decide), hfl 6 (by decide), hfl 7 (by decide)]; exact hR) (.pointer (some ⟨w2.heap.size, 0, none⟩)) (by simp only [valO, Option.bind_some]; (try simp only [putAll, Act.put, List.setIfInBounds_toArray, List.set_cons_zero, List.set_cons_succ]); (try rfl))
          clear hS hdep hR
          refine gh_quiet14 (v := .pointer (some ⟨w2.heap.size, 0, none⟩)) ?_ ?_
          · (simp only [execOp, Act.eval, o7]; go_simp; first | done | (simp; done) | (simp [*]; done) | omega | (rw [IntKind.wrap_i64]; omega))
          · exact hK'
        | 1, ho, hun, hdep, hK, hfl, _ =>
          obtain rfl := Option.some.inj ho
          have d0 : lp.getD 0 false = true := hdep { on := 0, ground := .data } (by simp) rfl
          have e37 : a'.tmps[37]? = some (.pointer (some ⟨w2.heap.size, 0, none⟩)) := (hS.don 0 _ 37 rfl d0 rfl).trans (by simp only [putAll, Act.put, List.setIfInBounds_toArray, List.set_cons_zero, List.set_cons_succ]; rfl)
          have hK' := hK g w' (fun _ _ _ _ _ _ => rfl) (by rw [hfl 5 (by decide), hfl 6 (by decide), hfl 7 (by decide)]; exact hR) (.pointer (some ⟨w2.heap.size, 0, none⟩)) (by simp only [valO, Option.bind_some]; (try simp only [putAll, Act.put, List.setIfInBounds_toArray, List.set_cons_zero, List.set_cons_succ]); (try rfl))
          clear hS hdep hR
          refine gh_quiet14 (v := .pointer (some ⟨w2.heap.size, 0, none⟩)) ?_ ?_
          · (simp only [execOp, Act.eval, e37]; go_simp; first | done | (simp; done) | (simp [*]; done) | omega | (rw [IntKind.wrap_i64]; omega))
          · exact hK'
        | 2, ho, hun, hdep, hK, hfl, _ =>
          obtain rfl := Option.some.inj ho
          have d1 : lp.getD 1 false = true := hdep { on := 1, ground := .data } (by simp) rfl
          have e38 : a'.tmps[38]? = some (.pointer (some ⟨w2.heap.size, 0, none⟩)) := (hS.don 1 _ 38 rfl d1 rfl).trans (by simp only [putAll, Act.put, List.setIfInBounds_toArray, List.set_cons_zero, List.set_cons_succ]; rfl)
          have k0 := hR.1.2 0 _ rfl
          have k1 := hR.1.2 1 _ rfl
          have k2 := hR.1.2 2 _ rfl
          have k3 := hR.1.2 3 _ rfl
          have hK' := hK g w' (fun _ _ _ _ _ _ => rfl) (by rw [hfl 5 (by decide), hfl 6 (by decide), hfl 7 (by decide)]; exact hR) (.agg #[.int .i64 x0, .int .i64 x1, .int .i64 x2, .int .i64 x3]) (by simp only [valO, Option.bind_some]; (try simp only [putAll, Act.put, List.setIfInBounds_toArray, List.set_cons_zero, List.set_cons_succ]); (try rfl))
          clear hS hdep hR
          refine gh_quiet14 (v := .agg #[.int .i64 x0, .int .i64 x1, .int .i64 x2, .int .i64 x3]) ?_ ?_
          · (simp only [execOp, Act.eval, e38]; go_simp; first | done | (simp; done) | (simp [*]; done) | omega | (rw [IntKind.wrap_i64]; omega))
          · exact hK'
        | 3, ho, hun, hdep, hK, hfl, _ =>
          obtain rfl := Option.some.inj ho
          have o7 : a'.tmps[7]? = some (.pointer (some ⟨w2.heap.size, 0, none⟩)) := (hS.old14 7 (by simp)).trans rfl
          have k0 := hR.1.2 0 _ rfl
          have k1 := hR.1.2 1 _ rfl
          have k2 := hR.1.2 2 _ rfl
          have k3 := hR.1.2 3 _ rfl
          have k4 := hR.1.2 4 _ rfl
          have hK' := hK g w' (fun _ _ _ _ _ _ => rfl) (by rw [hfl 5 (by decide), hfl 6 (by decide), hfl 7 (by decide)]; exact hR) (.agg #[.int .i64 x0, .int .i64 x1, .int .i64 x2, .int .i64 x3, .slice (some ⟨b, off, none⟩) r.length sc]) (by simp only [valO, Option.bind_some]; (try simp only [putAll, Act.put, List.setIfInBounds_toArray, List.set_cons_zero, List.set_cons_succ]); (try rfl))
          clear hS hdep hR
          refine gh_quiet14 (v := .agg #[.int .i64 x0, .int .i64 x1, .int .i64 x2, .int .i64 x3, .slice (some ⟨b, off, none⟩) r.length sc]) ?_ ?_
          · (simp only [execOp, Act.eval, o7]; go_simp; first | done | (simp; done) | (simp [*]; done) | omega | (rw [IntKind.wrap_i64]; omega))
          · exact hK'
        | 4, ho, hun, hdep, hK, hfl, _ =>
          obtain rfl := Option.some.inj ho
          have d3 : lp.getD 3 false = true := hdep { on := 3, ground := .data } (by simp) rfl
          have e40 : a'.tmps[40]? = some (.agg #[.int .i64 x0, .int .i64 x1, .int .i64 x2, .int .i64 x3, .slice (some ⟨b, off, none⟩) r.length sc]) := (hS.don 3 _ 40 rfl d3 rfl).trans (by simp only [putAll, Act.put, List.setIfInBounds_toArray, List.set_cons_zero, List.set_cons_succ]; rfl)
          have KC := HCode.out w'
          clear hdep
          unfold Oper.wp
          simp only [execOp, Act.eval, Array.getD_eq_getD_getElem?]
          simp [go_sem, e40, Oper.upon]
          refine KC.mono ?_
          rintro e W2 ⟨rfl, hb⟩
          exact hK g W2 (fun _ _ _ _ _ _ => rfl) (by rw [hfl 5 (by decide), hfl 6 (by decide), hfl 7 (by decide)]; exact ⟨hR.1.keep hb, fun h => own_b13 hb (hR.2.1 h), hR.2.2.1.keep hb, hR.2.2.2⟩) _ (by simp only [valO, Option.bind_some]; simp only [putAll, Act.put, List.setIfInBounds_toArray, List.set_cons_zero, List.set_cons_succ]; rfl)
        | 5, ho, hun, hdep, hK, hfl, _ =>
          obtain rfl := Option.some.inj ho
          have d4 : lp.getD 4 false = true := hdep { on := 4, ground := .data } (by simp) rfl
          have e41 : a'.tmps[41]? = some (.slice ca cn cd) := (hS.don 4 _ 41 rfl d4 rfl).trans (by simp only [putAll, Act.put, List.setIfInBounds_toArray, List.set_cons_zero, List.set_cons_succ]; rfl)
          have KC := HCl.out w' hR.1.1
          have hsz' : w.heap.size + 1 ≤ w'.heap.size := by have := cell_in (hR.1.2 0 _ rfl); have := hR.1.1.size; have := HNe.out; have := HW2.out; omega
          clear hdep
          unfold Oper.wp
          simp only [execOp, Act.eval, Array.getD_eq_getD_getElem?]
          simp [go_sem, e41, Oper.upon]
          refine KC.mono ?_
          rintro e W2 ⟨v9, rfl, hO9, hb⟩
          exact hK v9 W2 (fun k' ok s hk hl hd => gh_same17 (d := 42) (e := 5) (s := s) (by simp only [putAll, Act.put, List.setIfInBounds_toArray, List.set_cons_zero, List.set_cons_succ]; rfl) (by rintro rfl; have := dstG_of (by kernel_rfl) k' 5 ok _ 42 hk rfl hd rfl; subst this; rw [hun] at hl; cases hl) (by rintro rfl; have := dstG_of (by kernel_rfl) k' 7 ok _ 5 hk rfl hd rfl; subst this; have := hR.2.2.2 hl; rw [hun] at this; cases this)) (by rw [hfl 6 (by decide), hfl 7 (by decide), getD_set_same (by rw [hsz]; decide)]; exact ⟨hR.1.keep hb, fun _ => own_wide13 hO9 hsz', hR.2.2.1.keep hb, fun _ => rfl⟩) _ (by simp only [valO, Option.bind_some]; simp only [putAll, Act.put, List.setIfInBounds_toArray, List.set_cons_zero, List.set_cons_succ]; rfl)
        | 6, ho, hun, hdep, hK, hfl, _ =>
          obtain rfl := Option.some.inj ho
          have o4 : a'.tmps[4]? = some (.pointer (some ⟨w.heap.size, 0, none⟩)) := (hS.old14 4 (by simp)).trans rfl
          have d2 : lp.getD 2 false = true := hdep { on := 2, ground := .data } (by simp) rfl
          have e39 : a'.tmps[39]? = some (.agg #[.int .i64 x0, .int .i64 x1, .int .i64 x2, .int .i64 x3]) := (hS.don 2 _ 39 rfl d2 rfl).trans (by simp only [putAll, Act.put, List.setIfInBounds_toArray, List.set_cons_zero, List.set_cons_succ]; rfl)
          obtain ⟨⟨u0, z0⟩, fz0⟩ := hR.2.2.1.1 0 (by decide)
          obtain ⟨⟨u1, z1⟩, fz1⟩ := hR.2.2.1.1 1 (by decide)
          obtain ⟨⟨u2, z2⟩, fz2⟩ := hR.2.2.1.1 2 (by decide)
          obtain ⟨⟨u3, z3⟩, fz3⟩ := hR.2.2.1.1 3 (by decide)
          have hZ : Rz w.heap.size [.int .i64 x0, .int .i64 x1, .int .i64 x2, .int .i64 x3] true ((((w'.setCell ⟨w.heap.size, 0, none⟩ (.int .i64 x0)).setCell ⟨w.heap.size, 1, none⟩ (.int .i64 x1)).setCell ⟨w.heap.size, 2, none⟩ (.int .i64 x2)).setCell ⟨w.heap.size, 3, none⟩ (.int .i64 x3)) := by
            refine ⟨fun j hj => ?_, fun _ j u hj => ?_⟩
            · match j, hj with
              | 0, _ => exact ⟨⟨_, by simp [go_sem, z0, z1, z2, z3]; rfl⟩, by simp [go_sem, fz0, fz1, fz2, fz3]⟩
              | 1, _ => exact ⟨⟨_, by simp [go_sem, z0, z1, z2, z3]; rfl⟩, by simp [go_sem, fz0, fz1, fz2, fz3]⟩
              | 2, _ => exact ⟨⟨_, by simp [go_sem, z0, z1, z2, z3]; rfl⟩, by simp [go_sem, fz0, fz1, fz2, fz3]⟩
              | 3, _ => exact ⟨⟨_, by simp [go_sem, z0, z1, z2, z3]; rfl⟩, by simp [go_sem, fz0, fz1, fz2, fz3]⟩
            · match j, hj with
              | 0, hj => cases hj; simp [go_sem, z0, z1, z2, z3]
              | 1, hj => cases hj; simp [go_sem, z0, z1, z2, z3]
              | 2, hj => cases hj; simp [go_sem, z0, z1, z2, z3]
              | 3, hj => cases hj; simp [go_sem, z0, z1, z2, z3]
              | j + 4, hj => cases hj
          have hK' := hK g ((((w'.setCell ⟨w.heap.size, 0, none⟩ (.int .i64 x0)).setCell ⟨w.heap.size, 1, none⟩ (.int .i64 x1)).setCell ⟨w.heap.size, 2, none⟩ (.int .i64 x2)).setCell ⟨w.heap.size, 3, none⟩ (.int .i64 x3)) (fun _ _ _ _ _ _ => rfl) (by rw [hfl 5 (by decide), hfl 7 (by decide), getD_set_same (by rw [hsz]; decide)]; exact ⟨hR.1.set4 (Nat.le_refl _) HNe.out _ _ _ _, fun h => ownsRow_setCell_below (ownsRow_setCell_below (ownsRow_setCell_below (ownsRow_setCell_below (hR.2.1 h) (Nat.lt_succ_self _) _) (Nat.lt_succ_self _) _) (Nat.lt_succ_self _) _) (Nat.lt_succ_self _) _, hZ, hR.2.2.2⟩) undef rfl
          clear hS hdep hR hZ hK
          unfold Oper.wp
          simp only [execOp, Act.eval, Array.getD_eq_getD_getElem?]
          simp [go_sem, o4, e39, z0, z1, z2, z3, fz0, fz1, fz2, fz3, Oper.upon]
          exact hK'
        | 7, ho, hun, hdep, hK, hfl, _ =>
          obtain rfl := Option.some.inj ho
          have d5 : lp.getD 5 false = true := hdep { on := 5, ground := .data } (by simp) rfl
          have e42 : a'.tmps[42]? = some (g) := (hS.don 5 _ 42 rfl d5 rfl).trans (by simp only [putAll, Act.put, List.setIfInBounds_toArray, List.set_cons_zero, List.set_cons_succ]; rfl)
          have hK' := hK g w' (fun _ _ _ _ _ _ => rfl) (by rw [hfl 5 (by decide), hfl 6 (by decide), getD_set_same (by rw [hsz]; decide)]; exact ⟨hR.1, hR.2.1, hR.2.2.1, fun _ => d5⟩) (g) (by simp only [valO, Option.bind_some]; (try simp only [putAll, Act.put, List.setIfInBounds_toArray, List.set_cons_zero, List.set_cons_succ]); (try rfl))
          clear hS hdep hR
          refine gh_quiet14 (v := g) ?_ ?_
          · (simp only [execOp, Act.eval, e42]; go_simp; first | done | (simp; done) | (simp [*]; done) | omega | (rw [IntKind.wrap_i64]; omega))
          · exact hK'
        | 8, ho, hun, hdep, hK, hfl, _ =>
          obtain rfl := Option.some.inj ho
          have hK' := hK g w' (fun _ _ _ _ _ _ => rfl) (by rw [hfl 5 (by decide), hfl 6 (by decide), hfl 7 (by decide)]; exact hR) (.int .i64 0) (by simp only [valO, Option.bind_some]; (try simp only [putAll, Act.put, List.setIfInBounds_toArray, List.set_cons_zero, List.set_cons_succ]); (try rfl))
          clear hS hdep hR
          refine gh_quiet14 (v := .int .i64 0) ?_ ?_
          · (simp only [execOp, Act.eval]; go_simp; first | done | (simp; done) | (simp [*]; done) | omega | (rw [IntKind.wrap_i64]; omega))
          · exact hK'
        | n + 9, ho, hun, hdep, hK, hfl, hq => exact absurd hq (by omega)
      case fin8 =>
        intro g V8 hR
        have HB8 := hid13 hR.1.1
        have HO8 := hid13 (own_wide13 (hR.2.1 (by simp)) (Nat.le_succ w.heap.size))
        have y0 := hR.2.2.1.2 (by simp) 0 _ rfl
        have y1 := hR.2.2.1.2 (by simp) 1 _ rfl
        have y2 := hR.2.2.1.2 (by simp) 2 _ rfl
        have y3 := hR.2.2.1.2 (by simp) 3 _ rfl
        simp only [putAll, Act.put, List.setIfInBounds_toArray, List.set_cons_zero, List.set_cons_succ]
        clear hR HX6 HR6 HCode HSum HU HCl
        go_wp2
        exact bodyPost_ret (v := .tuple #[.agg #[.int .i64 x0, .int .i64 x1, .int .i64 x2, .int .i64 x3], g, .int .i64 0]) (by simp [results, Tryd.results8, go_sem, *]) rfl ⟨_, rfl, HO8.out, HB8.out⟩
end Go.Proofs.YtjgpbahglkaijaaDoor
namespace Go.Proofs.YtjgpbahglkaijaaDoor
open Go.RowKit
set_option linter.unusedSimpArgs false
set_option linter.unusedVariables false

theorem eqH_run (a b c d a' b' c' d' : Int) (w : World) :
    (Op.equalIn 10000 25 (.agg #[.int .i64 a, .int .i64 b, .int .i64 c, .int .i64 d]) (.agg #[.int .i64 a', .int .i64 b', .int .i64 c', .int .i64 d'])).run Tryd.prog w = .ok ((a == a') && ((b == b') && ((c == c') && (d == d')))) w := by
  by_cases h1 : a = a'
  · by_cases h2 : b = b'
    · by_cases h3 : c = c'
      · by_cases h4 : d = d'
        · subst h1 h2 h3 h4; go_simp
          try simp [*]
        · subst h1 h2 h3; go_simp
          try simp [*]
      · subst h1 h2; go_simp
        try simp [*]
    · subst h1; go_simp
      try simp [*]
  · go_simp
    try simp [*]
end Go.Proofs.YtjgpbahglkaijaaDoor
namespace Go.Proofs.YtjgpbahglkaijaaDoor
open Go.RowKit
set_option linter.unusedSimpArgs false
set_option linter.unusedVariables false

theorem isFam17 (W : Int) (w : World) :
    Calls Tryd.prog 18 #[.int .i64 W] w fun e w' => e = .returned (.bool (decide (W = 32 ∨ W = 128))) ∧ w' = w := by
  by_cases h : W = 32
  · subst h
    go_enter Tryd.func18, Tryd.ntmps18
    go_wp2
    go_ret
    exact ⟨rfl, rfl⟩
  · by_cases h2 : W = 128
    · subst h2
      go_enter Tryd.func18, Tryd.ntmps18
      go_wp2
      go_ret
      exact ⟨rfl, rfl⟩
    · rw [decide_eq_false (by omega)]
      have c1 : (W == 32) = false := by simpa using h
      have c2 : (W == 128) = false := by simpa using h2
      go_enter Tryd.func18, Tryd.ntmps18
      go_wp2
      go_ret
      exact ⟨by simp [*], rfl⟩
set_option maxHeartbeats 2000000 in
theorem counted17 (W D S n : Int) (hW : W ≤ 1000) (w : World) :
    Calls Tryd.prog 19 #[.agg #[.int .i64 W, .int .i64 D, .int .i64 S, .int .i64 n]] w fun e w' => e = .returned (.bool (decide (0 ≤ D ∧ D ≤ W ∧ S = max 1 (3 * D)))) ∧ Below w.heap.size w w' := by
  have HQ := hid13 (bl1 w (.cells #[.int .i64 W, .int .i64 D, .int .i64 S, .int .i64 n] 25))
  by_cases h1 : D < 0
  · rw [decide_eq_false (by omega)]
    go_enter Tryd.func19, Tryd.ntmps19
    go_wp2
    go_ret
    exact ⟨rfl, HQ.out⟩
  by_cases h2 : W < D
  · rw [decide_eq_false (by omega)]
    go_enter Tryd.func19, Tryd.ntmps19
    go_wp2
    go_ret
    exact ⟨rfl, HQ.out⟩
  by_cases h3 : D = 0
  · subst h3
    by_cases h4 : S = 1
    · subst h4
      rw [decide_eq_true (by omega)]
      go_enter Tryd.func19, Tryd.ntmps19
      go_wp2
      go_ret
      exact ⟨rfl, HQ.out⟩
    · rw [decide_eq_false (by omega)]
      have c4 : (S == 1) = false := by simpa using h4
      go_enter Tryd.func19, Tryd.ntmps19
      go_wp2
      go_ret
      exact ⟨by simp [*], HQ.out⟩
  have c3 : (D == 0) = false := by simpa using h3
  have h5 : 0 < D := by omega
  have m3 : wrap64 (D * 3) = 3 * D := by unfold wrap64; omega
  by_cases h4 : S = 3 * D
  · rw [decide_eq_true (by omega)]
    have c4 : (S == 3 * D) = true := by simpa using h4
    clear h4
    go_enter Tryd.func19, Tryd.ntmps19
    go_wp2
    go_ret
    exact ⟨by simp [*], HQ.out⟩
  · rw [decide_eq_false (by omega)]
    have c4 : (S == 3 * D) = false := by simpa using h4
    go_enter Tryd.func19, Tryd.ntmps19
    go_wp2
    go_ret
    exact ⟨by simp [*], HQ.out⟩
end Go.Proofs.YtjgpbahglkaijaaDoor
