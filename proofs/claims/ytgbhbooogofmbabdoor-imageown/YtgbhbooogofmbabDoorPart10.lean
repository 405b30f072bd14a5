/-
  Part 10 of the proof: 5 texts, one behind the other.
-/
import Derived.Test.YtgbhbooogofmbabDoorPart2
import Derived.Test.YtgbhbooogofmbabDoorPart1
import Derived.Deep.AppendLies
import Derived.Test.YtgbhbooogofmbabDoorPart9
import Derived.Test.YtgbhbooogofmbabDoorPart4
import Derived.Deep.Slices
import Derived.Carry
import Derived.SizedLaws
import Derived.ProofKit
import Derived.Lib.SmallJoins
namespace Go.Proofs.YtgbhbooogofmbabDoor
open Go.RowKit
set_option linter.unusedSimpArgs false
set_option linter.unusedVariables false

def upd {α : Type} (f : Nat → α) (i : Nat) (y : α) : Nat → α := fun j => if j = i then y else f j
theorem upd_same {α : Type} (f : Nat → α) (i : Nat) (y : α) : upd f i y i = y := by unfold upd; rw [if_pos rfl]
theorem upd_ne {α : Type} (f : Nat → α) {i j : Nat} (y : α) (h : j ≠ i) : upd f i y j = f j := by unfold upd; rw [if_neg h]
theorem own_setO {W : World} {base e size n g j : Nat} {v x : Value} {xs : List Value} (h : W.ownsRow base e size v n xs) (hne : v.ownBlock ≠ some g) : (W.setCell ⟨g, j, none⟩ x).ownsRow base e size v n xs := by
  refine ⟨h.1, ?_⟩
  rcases h.2 with h1 | ⟨g', cap, cur, e, h1, h2, h3⟩
  · exact .inl h1
  · refine .inr ⟨g', cap, cur, e, h1, ?_, h3⟩
    have hg : ¬ g' = g := by
      rintro rfl
      exact hne (by rw [e]; rfl)
    exact (Below.heap_setCell W ⟨g, j, none⟩ x g' hg).trans h2
structure Rw5 (w V0 W : World) (A C : Nat) (v : Nat → Value) (e : Nat → TypeId) (xs : Nat → List Value) : Prop where
  b : Below w.heap.size w W
  k : ∀ z ob, V0.heap[z]? = some ob → (z < A ∨ C ≤ z) → W.heap[z]? = some ob
  s : V0.heap.size ≤ W.heap.size
  o : ∀ i, i < 5 → W.ownsRow A (e i) 1 (v i) (xs i).length (xs i)
  d : ∀ i j z, i < 5 → j < 5 → (v i).ownBlock = some z → (v j).ownBlock = some z → i = j
  n : ∀ i z, i < 5 → (v i).ownBlock = some z → (A ≤ z ∧ z < C) ∨ V0.heap.size ≤ z
section
variable {w V0 W W' : World} {A C : Nat} {v : Nat → Value} {e : Nat → TypeId} {xs : Nat → List Value}
theorem Rw5.below (h : Rw5 w V0 W A C v e xs) (hb : Below W.heap.size W W') : Rw5 w V0 W' A C v e xs :=
  ⟨keepb hb h.b, fun z ob h1 h2 => (hb.block z (Array.getElem?_eq_some_iff.1 (h.k z ob h1 h2)).1).trans (h.k z ob h1 h2), Nat.le_trans h.s hb.size, fun i hi => own_b13 hb (h.o i hi), h.d, h.n⟩
theorem Rw5.store (h : Rw5 w V0 W A C v e xs) (hA : w.heap.size ≤ A) {i g cap : Nat} (hi : i < 5) (hv : v i = .slice (some ⟨g, 0, none⟩) (xs i).length cap) (j : Nat) (x : Value) : Rw5 w V0 (W.setCell ⟨g, j, none⟩ x) A C v e (upd xs i ((xs i).set j x)) := by
  have hbk : (v i).ownBlock = some g := by rw [hv]; rfl
  have hg := (h.o i hi).lt g hbk
  have hn := h.n i g hi hbk
  refine ⟨h.b.setCell (p := ⟨g, j, none⟩) (by show w.heap.size ≤ g; omega) _, fun z ob h1 h2 => ?_, by simp [World.setCell]; exact h.s, fun t ht => ?_, h.d, h.n⟩
  · have hz : z < V0.heap.size := (Array.getElem?_eq_some_iff.1 h1).1
    exact (Below.heap_setCell W ⟨g, j, none⟩ x z (by show ¬ z = g; omega)).trans (h.k z ob h1 h2)
  · by_cases c : t = i
    · subst c
      have ho := h.o t ht
      rw [upd_same, List.length_set]
      rw [hv] at ho ⊢
      exact (ho.stored j x).1
    · rw [upd_ne _ _ c]
      exact own_setO (h.o t ht) (fun q => c (h.d t i g ht hi q hbk))
theorem Rw5.app (h : Rw5 w V0 W A C v e xs) (hA : w.heap.size ≤ A) (hAs : A ≤ V0.heap.size) {i : Nat} (hi : i < 5) {v' x : Value} (ho : W'.ownsRow A (e i) 1 v' ((xs i).length + 1) (xs i ++ [x])) (hg : W.grownBy W' (v i).ownBlock) (hat : ∀ z, v'.ownBlock = some z → (v i).ownBlock = some z ∨ z = W.heap.size) : Rw5 w V0 W' A C (upd v i v') e (upd xs i (xs i ++ [x])) := by
  have hlt : ∀ t z, t < 5 → (v t).ownBlock = some z → z < W.heap.size := fun t z ht hz => ((h.o t ht).lt z hz).2
  refine ⟨h.b.grown hg (Nat.le_trans hA (Nat.le_trans hAs h.s)) (fun z q => Nat.le_trans hA ((h.o i hi).lt z q).1), fun z ob h1 h2 => ?_, Nat.le_trans h.s hg.size, fun t ht => ?_, fun a b z ha hb h1 h2 => ?_, fun t z ht hz => ?_⟩
  · have hz : z < V0.heap.size := (Array.getElem?_eq_some_iff.1 h1).1
    have hw := h.k z ob h1 h2
    refine (hg.block z (Array.getElem?_eq_some_iff.1 hw).1 (fun q => ?_)).trans hw
    have := h.n i z hi q.symm
    omega
  · by_cases c : t = i
    · subst c
      rw [upd_same, upd_same, List.length_append]
      exact ho
    · rw [upd_ne _ _ c, upd_ne _ _ c]
      refine (h.o t ht).kept hg ?_
      cases q : (v t).ownBlock with
      | none => exact .inl rfl
      | some z => exact .inr (fun q2 => c (h.d t i z ht hi q q2.symm))
  · by_cases ca : a = i
    · by_cases cb : b = i
      · rw [ca, cb]
      · subst ca
        rw [upd_same] at h1
        rw [upd_ne _ _ cb] at h2
        rcases hat z h1 with q | q
        · exact h.d a b z ha hb q h2
        · have := hlt b z hb h2; omega
    · rw [upd_ne _ _ ca] at h1
      by_cases cb : b = i
      · subst cb
        rw [upd_same] at h2
        rcases hat z h2 with q | q
        · exact h.d a b z ha hb h1 q
        · have := hlt a z ha h1; omega
      · rw [upd_ne _ _ cb] at h2
        exact h.d a b z ha hb h1 h2
  · by_cases c : t = i
    · subst c
      rw [upd_same] at hz
      rcases hat z hz with q | q
      · exact h.n t z ht q
      · exact .inr (by rw [q]; exact h.s)
    · rw [upd_ne _ _ c] at hz
      exact h.n t z ht hz
theorem Rw5.cell (h : Rw5 w V0 W A C v e xs) {z j : Nat} {u : Value} (hz : z < A ∨ C ≤ z) (hc : V0.cell? ⟨z, j, none⟩ = some u) : W.cell? ⟨z, j, none⟩ = some u := by
  have hb := cell_in hc
  have e : W.heap[z]? = V0.heap[z]? := by rw [h.k z _ (Array.getElem?_eq_getElem hb) hz, Array.getElem?_eq_getElem hb]
  exact (World.cell?_of_block (a := ⟨z, j, none⟩) e).trans hc
end
end Go.Proofs.YtgbhbooogofmbabDoor
namespace Go.Proofs.YtgbhbooogofmbabDoor
open Go.RowKit
set_option linter.unusedSimpArgs false
set_option linter.unusedVariables false

def v5 {α : Type} (a b c d e : α) : Nat → α
  | 0 => a
  | 1 => b
  | 2 => c
  | 3 => d
  | _ => e
def e5 : Nat → TypeId := fun _ => 5
theorem lt5o {i : Nat} (h : i < 5) : i = 0 ∨ i = 1 ∨ i = 2 ∨ i = 3 ∨ i = 4 := by omega
def Lo17 (X xs : Nat → List Value) (k : Nat) : Prop := (∀ i, i < 5 → (xs i).length = (X i).length + k ∨ (i = 1 ∨ i = 3) ∧ (xs i).length = (X i).length) ∧ xs 1 = X 1 ∧ xs 3 = X 3
theorem rw5_start17 {w V0 : World} {A C s1 s2 s3 s4 : Nat} {va vb vc vd vm : Value} {xa xb xc xd xm : List Value} (hb : Below w.heap.size w V0)
    (oa : V0.ownsRow A 5 1 va xa.length xa) (ob : V0.ownsRow A 5 1 vb xb.length xb) (oc : V0.ownsRow A 5 1 vc xc.length xc) (od : V0.ownsRow A 5 1 vd xd.length xd) (om : V0.ownsRow A 5 1 vm xm.length xm)
    (bm : ∀ z, vm.ownBlock = some z → A ≤ z ∧ z < s1) (ba : ∀ z, va.ownBlock = some z → s1 ≤ z ∧ z < s2) (bb : ∀ z, vb.ownBlock = some z → s2 ≤ z ∧ z < s3) (bc : ∀ z, vc.ownBlock = some z → s3 ≤ z ∧ z < s4) (bd : ∀ z, vd.ownBlock = some z → s4 ≤ z ∧ z < C) (hs : A ≤ s1 ∧ s1 ≤ s2 ∧ s2 ≤ s3 ∧ s3 ≤ s4 ∧ s4 ≤ C) :
    Rw5 w V0 V0 A C (v5 va vb vc vd vm) e5 (v5 xa xb xc xd xm) := by
  refine ⟨hb, fun z ob h _ => h, Nat.le_refl _, fun i hi => ?_, fun i j z hi hj h1 h2 => ?_, fun i z hi h => .inl ?_⟩
  · rcases lt5o hi with rfl | rfl | rfl | rfl | rfl
    · exact oa
    · exact ob
    · exact oc
    · exact od
    · exact om
  · rcases lt5o hi with rfl | rfl | rfl | rfl | rfl <;> rcases lt5o hj with rfl | rfl | rfl | rfl | rfl <;> first
      | rfl
      | (have := ba z h1; have := bb z h2; omega)
      | (have := ba z h1; have := bc z h2; omega)
      | (have := ba z h1; have := bd z h2; omega)
      | (have := ba z h1; have := bm z h2; omega)
      | (have := bb z h1; have := ba z h2; omega)
      | (have := bb z h1; have := bc z h2; omega)
      | (have := bb z h1; have := bd z h2; omega)
      | (have := bb z h1; have := bm z h2; omega)
      | (have := bc z h1; have := ba z h2; omega)
      | (have := bc z h1; have := bb z h2; omega)
      | (have := bc z h1; have := bd z h2; omega)
      | (have := bc z h1; have := bm z h2; omega)
      | (have := bd z h1; have := ba z h2; omega)
      | (have := bd z h1; have := bb z h2; omega)
      | (have := bd z h1; have := bc z h2; omega)
      | (have := bd z h1; have := bm z h2; omega)
      | (have := bm z h1; have := ba z h2; omega)
      | (have := bm z h1; have := bb z h2; omega)
      | (have := bm z h1; have := bc z h2; omega)
      | (have := bm z h1; have := bd z h2; omega)
  · rcases lt5o hi with rfl | rfl | rfl | rfl | rfl
    · have := ba z h; omega
    · have := bb z h; omega
    · have := bc z h; omega
    · have := bd z h; omega
    · have := bm z h; omega
theorem Rw5.put17 {w V0 W : World} {A C : Nat} {v : Nat → Value} {e : Nat → TypeId} {xs : Nat → List Value} (h : Rw5 w V0 W A C v e xs) (hA : w.heap.size ≤ A) {i : Nat} (hi : i < 5) {ao : Option Addr} {N cap : Nat} (hv : v i = .slice ao N cap) (hN : (xs i).length = N) {j : Nat} (hj : j < N) :
    ∃ g, ao = some ⟨g, 0, none⟩ ∧ (∃ u, W.cell? ⟨g, j, none⟩ = some u) ∧ W.frozen? ⟨g, j, none⟩ = false ∧ ∀ x, Rw5 w V0 (W.setCell ⟨g, j, none⟩ x) A C v e (upd xs i ((xs i).set j x)) := by
  have ho := h.o i hi
  rw [hv, hN] at ho
  obtain ⟨g, cg, e1, -, -⟩ := ho.form (by omega)
  injection e1 with e1 e2 e3
  subst e1
  refine ⟨g, rfl, ?_, ho.frozenAt j, fun x => h.store hA hi (cap := cap) (by rw [hv, hN]) j x⟩
  rw [ho.cellAt j (by omega)]
  exact ⟨_, List.getElem?_eq_getElem (by omega)⟩
theorem Rw5.congr17 {w V0 W : World} {A C : Nat} {v v' : Nat → Value} {e : Nat → TypeId} {xs : Nat → List Value} (h : Rw5 w V0 W A C v e xs) (hv : ∀ i, i < 5 → v' i = v i) : Rw5 w V0 W A C v' e xs := by
  refine ⟨h.b, h.k, h.s, fun i hi => ?_, fun i j z hi hj h1 h2 => ?_, fun i z hi h1 => ?_⟩
  · rw [hv i hi]; exact h.o i hi
  · rw [hv i hi] at h1; rw [hv j hj] at h2; exact h.d i j z hi hj h1 h2
  · rw [hv i hi] at h1; exact h.n i z hi h1
theorem Lo17.set {X xs : Nat → List Value} (h : Lo17 X xs 0) {i : Nat} (hi : i ≠ 1 ∧ i ≠ 3) (j : Nat) (x : Value) : Lo17 X (upd xs i ((xs i).set j x)) 0 := by
  refine ⟨fun t ht => ?_, ?_, ?_⟩
  · by_cases c : t = i
    · subst c; rw [upd_same, List.length_set]; exact h.1 t ht
    · rw [upd_ne _ _ c]; exact h.1 t ht
  · rw [upd_ne _ _ (Ne.symm hi.1)]; exact h.2.1
  · rw [upd_ne _ _ (Ne.symm hi.2)]; exact h.2.2
theorem Lo17.grow {X xs : Nat → List Value} {k : Nat} (h : Lo17 X xs k) (x y z : Value) : Lo17 X (upd (upd (upd xs 0 (xs 0 ++ [x])) 2 (xs 2 ++ [y])) 4 (xs 4 ++ [z])) (k + 1) := by
  refine ⟨fun t ht => ?_, ?_, ?_⟩
  · have h0 := h.1 t ht
    rcases lt5o ht with rfl | rfl | rfl | rfl | rfl
    · left; rw [upd_ne _ _ (by decide), upd_ne _ _ (by decide), upd_same, List.length_append]; show _ + 1 = _; omega
    · right; refine ⟨.inl rfl, ?_⟩; rw [upd_ne _ _ (by decide), upd_ne _ _ (by decide), upd_ne _ _ (by decide), h.2.1]
    · left; rw [upd_ne _ _ (by decide), upd_same, List.length_append]; show _ + 1 = _; omega
    · right; refine ⟨.inr rfl, ?_⟩; rw [upd_ne _ _ (by decide), upd_ne _ _ (by decide), upd_ne _ _ (by decide), h.2.2]
    · left; rw [upd_same, List.length_append]; show _ + 1 = _; omega
  · rw [upd_ne _ _ (by decide), upd_ne _ _ (by decide), upd_ne _ _ (by decide)]; exact h.2.1
  · rw [upd_ne _ _ (by decide), upd_ne _ _ (by decide), upd_ne _ _ (by decide)]; exact h.2.2
theorem Rw5.app17 {w V0 W W' : World} {A C N : Nat} {v : Nat → Value} {xs : Nat → List Value} (h : Rw5 w V0 W A C v e5 xs) (hA : w.heap.size ≤ A) (hAs : A ≤ V0.heap.size) {i g cap : Nat} (hi : i < 5) {x : Value} (ho : W'.ownsRow A 5 1 (.slice (some ⟨g, 0, none⟩) ((xs i).length + 1) cap) ((xs i).length + 1) (xs i ++ [x])) (hg : W.grownBy W' (v i).ownBlock) (hat : (v i).ownBlock = some g ∨ g = W.heap.size) :
    Rw5 w V0 W' A C (upd v i (.slice (some ⟨g, 0, none⟩) ((xs i).length + 1) cap)) e5 (upd xs i (xs i ++ [x])) :=
  h.app hA hAs hi ho hg (fun z hz => by
    have : g = z := by simpa [Value.ownBlock] using hz
    subst this; exact hat)
end Go.Proofs.YtgbhbooogofmbabDoor
namespace Go.Proofs.YtgbhbooogofmbabDoor
open Go.RowKit
set_option linter.unusedSimpArgs false
set_option linter.unusedVariables false

set_option maxRecDepth 100000 in
set_option maxHeartbeats 32000000 in
theorem imageOwn_any (v : Value) (l : List Nat) (w : World) (hA : RowA w 1 v l.length (l.map cB)) (hv : RwX cB w v l) (hl : l.length * 1 ≤ 140737488351232) (hx : ∀ b ∈ l, b < 256) (hT : Hf w) :
    Calls Tryd.prog 3 #[v] w fun e w' => e = .returned (.bool true) ∧ Below w.heap.size w w' := by
  obtain ⟨i0, hi, hz0, hz1, hz2⟩ := info13 Tryd.infoB13
  obtain ⟨ao, cc, hvf, hcc, -⟩ := id hv
  have HT := hid13 hT
  have HV := hid13 hv
  have HA := hid13 hA
  have HX0 := hid13 hx
  have HC := hid13 hcc
  have K1 := known17 _ hT
  subst hvf
  clear hA hv hx hT hcc hl
  go_enter Tryd.func3, Tryd.ntmps3
  go_wp2_with fail
  refine K1.mono ?_
  rintro e w1 ⟨rfl, hb1⟩
  have HB1 := hid13 hb1
  clear hb1 K1
  by_cases hl : (65536 : Int) < (l.length : Int)
  · go_wp2
    go_ret
    exact ⟨rfl, HB1.out⟩
  have HL : Hid (l.length ≤ 65536) := by show _ ≤ _; omega
  obtain ⟨m, hm⟩ : ∃ m, m = l.length / 4 * 4 := ⟨_, rfl⟩
  have HM : Hid (m = l.length / 4 * 4) := hm
  have hs := fun X => run_slice_to (P := Tryd.prog) (w := X) Tryd.underlying22 hi ao l.length cc m (by have := HC.out; omega)
  have m1 : (l.length : Int) / 4 * 4 = (m : Int) := by omega
  have m2 : (m : Int) ≤ (l.length : Int) := by omega
  have m3 : (m : Int) / 4 = ((m / 4 : Nat) : Int) := by omega
  have KH := header17 false 0 ((m / 4 : Nat) : Int) w1
  have hLl : (l.take m).length = m := by rw [List.length_take]; omega
  have HpkE := h_pk false 0 (l.take m) (by rw [hLl]; omega) (by rw [hLl]; omega)
  rw [hLl] at HpkE
  have hB0 : pkB (hW false) (hD false 0) (hS false 0) ((m / 4 : Nat) : Int) (l.take m) = imB (hW false) (hD false 0) (hS false 0) (m / 4) (l.take m) := by
    unfold pkB; rw [if_pos HpkE, Int.toNat_natCast, Int.toNat_natCast, Int.toNat_natCast, Int.toNat_natCast]
  have HRA : Hid (RowA w 1 (.slice ao m cc) m ((l.take m).map cB)) := by
    have := rowA_take17 (m := m) HA.out rfl (by omega)
    rw [hLl] at this
    exact this
  have HRV : Hid (RwX cB w (.slice ao m cc) (l.take m)) := by
    have h : RwX cB w (.slice ao l.length cc) (l.take m ++ l.drop m) := by rw [List.take_append_drop]; exact HV.out
    have := rwx_take h
    rw [hLl] at this
    exact this
  have HX : Hid (∀ b ∈ l.take m, b < 256) := hid13 (fun b hb => HX0.out b (List.mem_of_mem_take hb))
  have HLl := hid13 hLl
  have KP : Hid (∀ v3 w3, RowA w3 1 v3 (l.take m).length ((l.take m).map cB) → RwX cB w3 v3 (l.take m) → Hf w3 → Calls Tryd.prog 6 #[.agg #[.int .i64 ((hW false : Nat) : Int), .int .i64 ((hD false 0 : Nat) : Int), .int .i64 ((hS false 0 : Nat) : Int), .int .i64 ((m / 4 : Nat) : Int)], v3] w3 fun e w' => ∃ v', e = .returned (.tuple #[v', .int .i64 0]) ∧ w'.ownsRow w3.heap.size 5 1 v' (imB (hW false) (hD false 0) (hS false 0) (m / 4) (l.take m)).length ((imB (hW false) (hD false 0) (hS false 0) (m / 4) (l.take m)).map cB) ∧ Below w3.heap.size w3 w') := hid13 (fun v3 w3 h1 h2 h3 => by
    have K := pack_any (hW false) (hD false 0) (hS false 0) ((m / 4 : Nat) : Int) v3 (l.take m) w3 h1 h2 (by rw [HLl.out]; omega) HX.out h3
    rw [HpkE, hB0] at K
    exact K)
  have KQ : Hid (∀ w3, RowA w3 1 (.slice ao m cc) m ((l.take m).map cB) → RwX cB w3 (.slice ao m cc) (l.take m) → Calls Tryd.prog 8 #[.agg #[.int .i64 ((hW false : Nat) : Int), .int .i64 ((hD false 0 : Nat) : Int), .int .i64 ((hS false 0 : Nat) : Int), .int .i64 ((m / 4 : Nat) : Int)], .slice ao m cc] w3 fun e w' => ∃ v', e = .returned (.tuple #[v', .int .i64 0]) ∧ w'.ownsRow w3.heap.size 5 1 v' (imB (hW false) (hD false 0) (hS false 0) (m / 4) (l.take m)).length ((imB (hW false) (hD false 0) (hS false 0) (m / 4) (l.take m)).map cB) ∧ Below w3.heap.size w3 w') := hid13 (fun w3 h1 h2 => by
    have K := rpack17 (hW false) (hD false 0) (hS false 0) ((m / 4 : Nat) : Int) (.slice ao m cc) (l.take m) w3 (by rw [HLl.out]; exact h1) h2 (by rw [HLl.out]; omega) HX.out
    rw [HpkE, hB0] at K
    exact K)
  have HBx := hid13 (pkB_lt (W := (hW false : Int)) (D := (hD false 0 : Int)) (S := (hS false 0 : Int)) (n := ((m / 4 : Nat) : Int)) HX.out)
  rw [hB0] at HBx
  have HBl : Hid ((imB (hW false) (hD false 0) (hS false 0) (m / 4) (l.take m)).length = 16 + m) := by show _ = _; rw [imB_len, hLl]
  have KO : Hid (∀ v3 w3, RwX cB w3 v3 (imB (hW false) (hD false 0) (hS false 0) (m / 4) (l.take m)) → Hf w3 → Calls Tryd.prog 7 #[v3, .int .i64 0] w3 fun e w' => ∃ v', e = .returned (.tuple #[.agg #[.int .i64 ((hW false : Nat) : Int), .int .i64 ((hD false 0 : Nat) : Int), .int .i64 ((hS false 0 : Nat) : Int), .int .i64 ((m / 4 : Nat) : Int)], v', .int .i64 0]) ∧ w'.ownsRow w3.heap.size 5 1 v' (l.take m).length ((l.take m).map cB) ∧ Below w3.heap.size w3 w') := hid13 (fun v3 w3 h1 h2 => by
    have K := open_any v3 _ 0 w3 h1 (by rw [HBl.out]; omega) HBx.out h2
    have hz : opE (imB (hW false) (hD false 0) (hS false 0) (m / 4) (l.take m)) 0 = 0 := by
      rw [op_zero]
      have := im_of HpkE []
      rw [List.append_nil] at this
      exact this
    obtain ⟨f1, f2, f3, -, -, -⟩ := pk_facts HpkE
    obtain ⟨-, a2, a3, a4, a5, a6, -, -⟩ := im_read (W := hW false) (D := hD false 0) (S := hS false 0) f1 f2 f3 []
    rw [List.append_nil] at a2 a3 a4 a5 a6
    have hV : opV (imB (hW false) (hD false 0) (hS false 0) (m / 4) (l.take m)) 0 = .agg #[.int .i64 ((hW false : Nat) : Int), .int .i64 ((hD false 0 : Nat) : Int), .int .i64 ((hS false 0 : Nat) : Int), .int .i64 ((m / 4 : Nat) : Int)] := by
      unfold opV; rw [if_pos hz, show (0 : Int).toNat = 0 from rfl, List.drop_zero, a2, a3, a4, a5]
    have hC : opC (imB (hW false) (hD false 0) (hS false 0) (m / 4) (l.take m)) 0 = l.take m := by
      unfold opC; rw [if_pos hz, show (0 : Int).toNat = 0 from rfl, List.drop_zero, a6]
    rw [hz, hV, hC] at K
    exact K)
  generalize imB (hW false) (hD false 0) (hS false 0) (m / 4) (l.take m) = B at *
  generalize ((hW false : Nat) : Int) = x0 at *
  generalize ((hD false 0 : Nat) : Int) = x1 at *
  generalize ((hS false 0 : Nat) : Int) = x2 at *
  generalize ((m / 4 : Nat) : Int) = x3 at *
  generalize l.take m = L at *
  clear HpkE hB0 hm hLl HA HX0
  go_wp2_with fail
  refine KH.mono ?_
  rintro e w2 ⟨rfl, hb2⟩
  have HX3 := hid13 (bx_new (t := 25) (keepb hb2 HB1.out) #[.int .i64 x0, .int .i64 x1, .int .i64 x2, .int .i64 x3])
  have m40 : IntKind.i64.wrap ((m : Int) + 40) = (m : Int) + 40 := by rw [IntKind.wrap_i64]; have := HM.out; have := HL.out; omega
  obtain ⟨w3, hw3⟩ : ∃ w3, w3 = w2.alloc (.cells #[.int .i64 x0, .int .i64 x1, .int .i64 x2, .int .i64 x3] 25) := ⟨_, rfl⟩
  have HW3 := hid13 hw3
  rw [← hw3] at HX3
  clear KH hb2 HB1 hs hw3 m1 m2 m3
  go_wp2_with (at_make; apply stopHere9)
  refine (show wpList _ _ _ _ _ _ from ?_)
  rw [← HW3.out]
  refine wpList_make_mid _ rfl _ _ 22 rfl w3.heap.size 5 i0 (.int .u8 0) Tryd.underlying22 hi hz0 hz1 rfl .i64 .i64 _ _ 0 (m + 40) rfl rfl rfl (by push_cast; rfl) (by omega) (by rw [hz2]; have := HM.out; have := HL.out; omega) (by unfold maxLen; have := HM.out; have := HL.out; omega) (Nat.le_refl _) ?_
  intro w4 hO4 hg4
  have hB4 : Below w3.heap.size w3 w4 := (Below.refl _ _).grown hg4 (Nat.le_refl _) (fun z hz => by cases hz)
  have HO4 := hid13 hO4
  have HB4 := hid13 hB4
  clear hO4 hg4 hB4
  go_wp2_with (at_builtin; apply stopHere9)
  try go_wp2_with (at_builtin; apply stopHere9)
  refine (show wpList _ _ _ _ _ _ from ?_)
  refine wpList_append_rowA rfl _ _ 22 rfl w3.heap.size 5 i0 (.int .u8 0) 1 1 Tryd.underlying22 hi hz0 hz1 hz2 rfl (by decide) _ 0 [] rfl HO4.out _ m (L.map cB) rfl ((HRA.out.below HX3.out.1).below HB4.out) (cB_one L) (by have := HM.out; have := HL.out; unfold maxLen; omega) (by have := HM.out; have := HL.out; omega) HB4.out.size ?_
  intro ma mc w5 hO5 hg5
  rw [Nat.zero_add, List.nil_append] at hO5
  rw [Nat.zero_add]
  have hB5 : Below w3.heap.size w3 w5 := HB4.out.grown hg5 HB4.out.size (fun z hz => (HO4.out.lt z hz).1)
  have HO5 := hid13 hO5
  have HS35 : Hid (w3.heap.size ≤ w5.heap.size) := hB5.size
  have HX5 := hid13 (HX3.out.keep hB5)
  have HLt5 : Hid (∀ z, (Value.slice ma m mc).ownBlock = some z → w3.heap.size ≤ z ∧ z < w5.heap.size) := hid13 (fun z hz => HO5.out.lt z hz)
  have hO5L : w5.ownsRow w3.heap.size 5 1 (.slice ma m mc) L.length (L.map cB) := by rw [HLl.out]; exact hO5
  have K6 := KP.out (.slice ma m mc) w5 (own_rowA hO5L) (own_rwx hO5L) (HT.out.below HX5.out.1)
  have HA3 : Hid (w.heap.size ≤ w3.heap.size ∧ w2.heap.size < w3.heap.size) := ⟨HX3.out.1.size, cell_in (HX3.out.2 0 _ rfl)⟩
  clear hO5 hg5 hB5 HO4 HB4 hO5L HX3 m40 HW3
  have y0 := HX5.out.2 0 _ rfl
  have y1 := HX5.out.2 1 _ rfl
  have y2 := HX5.out.2 2 _ rfl
  have y3 := HX5.out.2 3 _ rfl
  go_wp2_with fail
  refine K6.mono ?_
  rintro e w6 ⟨va, rfl, hO6, hb6⟩
  obtain ⟨aa, ca, hva⟩ := own_form hO6
  subst hva
  have HX6 := hid13 (HX5.out.keep hb6)
  have HM6 := hid13 (own_b13 hb6 HO5.out)
  have HA6 := hid13 hO6
  have HLt6 : Hid (∀ z, (Value.slice aa B.length ca).ownBlock = some z → w5.heap.size ≤ z ∧ z < w6.heap.size) := hid13 (fun z hz => hO6.lt z hz)
  have hM6L : w6.ownsRow w3.heap.size 5 1 (.slice ma m mc) L.length (L.map cB) := by rw [HLl.out]; exact HM6.out
  have K7 := KP.out (.slice ma m mc) w6 (own_rowA hM6L) (own_rwx hM6L) (HT.out.below HX6.out.1)
  have HS56 : Hid (w3.heap.size ≤ w5.heap.size ∧ w5.heap.size ≤ w6.heap.size) := ⟨HS35.out, hb6.size⟩
  clear K6 hO6 hb6 HX5 HO5 hM6L y0 y1 y2 y3
  have y0 := HX6.out.2 0 _ rfl
  have y1 := HX6.out.2 1 _ rfl
  have y2 := HX6.out.2 2 _ rfl
  have y3 := HX6.out.2 3 _ rfl
  go_wp2_with fail
  refine K7.mono ?_
  rintro e w7 ⟨vb, rfl, hO7, hb7⟩
  obtain ⟨ba, cb, hvb⟩ := own_form hO7
  subst hvb
  have HX7 := hid13 (HX6.out.keep hb7)
  have HM7 := hid13 (own_b13 hb7 HM6.out)
  have HA7 := hid13 (own_b13 hb7 HA6.out)
  have HBb7 := hid13 hO7
  have HLt7 : Hid (∀ z, (Value.slice ba B.length cb).ownBlock = some z → w6.heap.size ≤ z ∧ z < w7.heap.size) := hid13 (fun z hz => hO7.lt z hz)
  have HS67 : Hid (w6.heap.size ≤ w7.heap.size) := hb7.size
  have hM7L : w7.ownsRow w3.heap.size 5 1 (.slice ma m mc) L.length (L.map cB) := by rw [HLl.out]; exact HM7.out
  have s1 := conv13 (own_rwx hM7L) HX.out
  have s2 := conv13 (HRV.out.below HX7.out.1) HX.out
  have s3 := conv13 (own_rwx hO7) HBx.out
  have K8 := KO.out (.slice ba B.length cb) w7 (own_rwx hO7) (HT.out.below HX7.out.1)
  generalize hstB : bsA B = stB at *
  generalize hstL : bsA L = stL at *
  have HStB := hid13 hstB
  have HStL := hid13 hstL
  clear K7 hO7 hb7 HX6 HM6 HA6 hM7L y0 y1 y2 y3 hstB hstL
  go_wp2_with fail
  refine K8.mono ?_
  rintro e w8 ⟨vc, rfl, hO8, hb8⟩
  obtain ⟨xa, xc, hvc⟩ := own_form hO8
  subst hvc
  have q9 := bl1 w8 (.cells #[.int .i64 x0, .int .i64 x1, .int .i64 x2, .int .i64 x3] 25)
  have HS78 : Hid (w7.heap.size ≤ w8.heap.size) := hb8.size
  have hb9 := keepb q9 hb8
  have HX9 := hid13 (HX7.out.keep hb9)
  have HM9 := hid13 (own_b13 hb9 HM7.out)
  have HA9 := hid13 (own_b13 hb9 HA7.out)
  have HB9 := hid13 (own_b13 hb9 HBb7.out)
  have HC9 := hid13 (own_b13 q9 hO8)
  have HLt8 : Hid (∀ z, (Value.slice xa L.length xc).ownBlock = some z → w7.heap.size ≤ z ∧ z < w8.heap.size) := hid13 (fun z hz => hO8.lt z hz)
  have K10 := KO.out (.slice ba B.length cb) (w8.alloc (.cells #[.int .i64 x0, .int .i64 x1, .int .i64 x2, .int .i64 x3] 25)) (own_rwx HB9.out) (HT.out.below HX9.out.1)
  have HS89 : Hid (w8.heap.size ≤ (w8.alloc (.cells #[.int .i64 x0, .int .i64 x1, .int .i64 x2, .int .i64 x3] 25)).heap.size) := q9.size
  clear K8 hO8 hb8 hb9 q9 HX7 HM7 HA7 HBb7 s1 s2 s3
  go_wp2_with fail
  refine K10.mono ?_
  rintro e w10 ⟨vd, rfl, hO10, hb10⟩
  obtain ⟨da, dc, hvd⟩ := own_form hO10
  subst hvd
  have q11 := bl1 w10 (.cells #[.int .i64 x0, .int .i64 x1, .int .i64 x2, .int .i64 x3] 25)
  have hb11 := keepb q11 hb10
  have hX11 := HX9.out.keep hb11
  have hM11 := own_b13 hb11 HM9.out
  have hA11 := own_b13 hb11 HA9.out
  have hB11 := own_b13 hb11 HB9.out
  have hC11 := own_b13 hb11 HC9.out
  have hD11 := own_b13 q11 hO10
  obtain ⟨V0, hV0⟩ : ∃ V0, V0 = w10.alloc (.cells #[.int .i64 x0, .int .i64 x1, .int .i64 x2, .int .i64 x3] 25) := ⟨_, rfl⟩
  rw [← hV0] at hX11 hM11 hA11 hB11 hC11 hD11 hb11
  have hM11L : V0.ownsRow w3.heap.size 5 1 (.slice ma m mc) (L.map cB).length (L.map cB) := by rw [List.length_map, HLl.out]; exact hM11
  have HR0 : Hid (Rw5 w V0 V0 w3.heap.size V0.heap.size (v5 (.slice aa B.length ca) (.slice ba B.length cb) (.slice xa L.length xc) (.slice da L.length dc) (.slice ma m mc)) e5 (v5 (B.map cB) (B.map cB) (L.map cB) (L.map cB) (L.map cB))) :=
    rw5_start17 (s1 := w5.heap.size) (s2 := w6.heap.size) (s3 := w7.heap.size) (s4 := w8.heap.size) hX11.1 (by rw [List.length_map]; exact own_wide13 hA11 HS56.out.1) (by rw [List.length_map]; exact own_wide13 hB11 (by have := HS56.out; omega)) (by rw [List.length_map]; exact own_wide13 hC11 (by have := HS56.out; have := HS67.out; omega)) (by rw [List.length_map]; exact own_wide13 hD11 (by have := HS56.out; have := HS67.out; have := HS78.out; have := HS89.out; omega)) hM11L HLt5.out HLt6.out HLt7.out HLt8.out (fun z hz => ⟨by have := (hO10.lt z hz).1; have := HS89.out; omega, (hD11.lt z hz).2⟩) ⟨HS56.out.1, HS56.out.2, HS67.out, HS78.out, by have := hb11.size; have := HS89.out; omega⟩
  have HXv := hid13 hX11
  have HVs : Hid (w3.heap.size ≤ V0.heap.size) := by have := hb11.size; have := HS89.out; have := HS78.out; have := HS67.out; have := HS56.out; show _ ≤ _; omega
  have HV0 := hid13 hV0
  obtain ⟨X0, hX0⟩ : ∃ X0, X0 = v5 (B.map cB) (B.map cB) (L.map cB) (L.map cB) (L.map cB) := ⟨_, rfl⟩
  rw [← hX0] at HR0
  have HX0l : Hid ((X0 0).length = B.length ∧ (X0 2).length = L.length ∧ (X0 4).length = m ∧ X0 1 = B.map cB ∧ X0 3 = L.map cB) := by rw [hX0]; exact ⟨List.length_map .., List.length_map .., (List.length_map ..).trans HLl.out, rfl, rfl⟩
  have HLo0 : Hid (Lo17 X0 X0 0) := ⟨fun i _ => .inl rfl, rfl, rfl⟩
  have HBn : Hid (B.length ≤ 70000 ∧ L.length ≤ 70000) := ⟨by have := HBl.out; have := HM.out; have := HL.out; omega, by have := HLl.out; have := HM.out; have := HL.out; omega⟩
  clear K10 hO10 hb10 q11 hb11 hX11 hM11 hA11 hB11 hC11 hD11 hM11L HX9 HM9 HA9 HB9 HC9 hV0 hX0 HLt5 HLt6 HLt7 HLt8 HS56 HS67 HS78 HS89
  go_wp2_with fail
  rw [← HV0.out]
  go_loopg [16] B.length (fun g i wr => ∃ (j : Nat) (xs : Nat → List Value), j + g = B.length ∧ i = .int .i64 (j : Int) ∧ Hid (Rw5 w V0 wr w3.heap.size V0.heap.size (v5 (.slice aa B.length ca) (.slice ba B.length cb) (.slice xa L.length xc) (.slice da L.length dc) (.slice ma m mc)) e5 xs) ∧ Hid (Lo17 X0 xs 0))
  case atStart => exact ⟨0, X0, by omega, rfl, HR0, HLo0⟩
  case round =>
    clear HR0 HLo0
    obtain ⟨j, xs, hjg, rfl, HR, HLo⟩ := hrel
    by_cases hlt : j < B.length
    · obtain ⟨g, hag, ⟨u, hu⟩, hf, hput⟩ := HR.out.put17 HA3.out.1 (i := 0) (by decide) rfl (by have h1 := HLo.out.1 0 (by decide); have h2 := HX0l.out.1; omega) hlt
      have HR2 := hid13 (hput (.int .u8 238))
      have HLo2 := hid13 (HLo.out.set (i := 0) ⟨by decide, by decide⟩ j (.int .u8 238))
      have HJ : Hid (j + 1 + (B.length - (j + 1)) = B.length ∧ B.length - (j + 1) < gk) := ⟨by omega, by omega⟩
      have hji : (j : Int) < (B.length : Int) := by omega
      have wj : wrap64 ((j : Int) + 1) = ((j + 1 : Nat) : Int) := by unfold wrap64; have := HBn.out; omega
      subst hag
      clear hput HR HLo hjg hlt
      go_wp2
      go_roundg (B.length - (j + 1))
      case measure => exact HJ.out.2
      case rel => exact ⟨j + 1, _, HJ.out.1, by first | rfl | (rw [wj]), HR2, HLo2⟩
    have hge : ¬ (j : Int) < (B.length : Int) := by omega
    clear hlt hjg
    go_wp2_with fail
    go_loopg [17] L.length (fun g i wr => ∃ (j : Nat) (xs : Nat → List Value), j + g = L.length ∧ i = .int .i64 (j : Int) ∧ Hid (Rw5 w V0 wr w3.heap.size V0.heap.size (v5 (.slice aa B.length ca) (.slice ba B.length cb) (.slice xa L.length xc) (.slice da L.length dc) (.slice ma m mc)) e5 xs) ∧ Hid (Lo17 X0 xs 0))
    case atStart => exact ⟨0, xs, by omega, rfl, HR, HLo⟩
    case round =>
      clear HR HLo hge
      obtain ⟨j, xs, hjg, rfl, HR, HLo⟩ := hrel
      by_cases hlt : j < L.length
      · obtain ⟨g, hag, ⟨u, hu⟩, hf, hput⟩ := HR.out.put17 HA3.out.1 (i := 2) (by decide) rfl (by have h1 := HLo.out.1 2 (by decide); have h2 := HX0l.out.2.1; omega) hlt
        have HR2 := hid13 (hput (.int .u8 238))
        have HLo2 := hid13 (HLo.out.set (i := 2) ⟨by decide, by decide⟩ j (.int .u8 238))
        have HJ : Hid (j + 1 + (L.length - (j + 1)) = L.length ∧ L.length - (j + 1) < gk) := ⟨by omega, by omega⟩
        have hji : (j : Int) < (L.length : Int) := by omega
        have wj : wrap64 ((j : Int) + 1) = ((j + 1 : Nat) : Int) := by unfold wrap64; have := HBn.out; omega
        subst hag
        clear hput HR HLo hjg hlt
        go_wp2
        go_roundg (L.length - (j + 1))
        case measure => exact HJ.out.2
        case rel => exact ⟨j + 1, _, HJ.out.1, by first | rfl | (rw [wj]), HR2, HLo2⟩
      have hge : ¬ (j : Int) < (L.length : Int) := by omega
      clear hlt hjg
      go_wp2_with fail
      go_loopg [4, 5, 11, 18] 30 (fun g u4 u5 u11 i wr => ∃ (k : Nat) (xs : Nat → List Value), k + g = 30 ∧ i = .int .i64 (k : Int) ∧ Hid (Rw5 w V0 wr w3.heap.size V0.heap.size (v5 u5 (.slice ba B.length cb) u11 (.slice da L.length dc) u4) e5 xs) ∧ Hid (Lo17 X0 xs k))
      case atStart => exact ⟨0, xs, by omega, rfl, HR, HLo⟩
      case round =>
        clear HR HLo hge
        obtain ⟨k, xs, hkg, hik, HR, HLo⟩ := hrel
        subst hik
        obtain ⟨a0, c0, hv0⟩ := own_form (HR.out.o 0 (by decide))
        obtain ⟨a2, c2, hv2⟩ := own_form (HR.out.o 2 (by decide))
        obtain ⟨a4, c4, hv4⟩ := own_form (HR.out.o 4 (by decide))
        replace hv0 : u5 = .slice a0 (xs 0).length c0 := hv0
        replace hv2 : u11 = .slice a2 (xs 2).length c2 := hv2
        replace hv4 : u4 = .slice a4 (xs 4).length c4 := hv4
        subst hv0 hv2 hv4
        by_cases hlt : k < 30
        · have HLn : Hid ((xs 0).length ≤ 80000 ∧ (xs 2).length ≤ 80000 ∧ (xs 4).length ≤ 80000) := ⟨by have h1 := HLo.out.1 0 (by decide); have := HX0l.out; have := HBn.out; omega, by have h1 := HLo.out.1 2 (by decide); have := HX0l.out; have := HBn.out; omega, by have h1 := HLo.out.1 4 (by decide); have := HX0l.out; have := HBn.out; have := HLl.out; omega⟩
          have HJ : Hid (k + 1 + (30 - (k + 1)) = 30 ∧ 30 - (k + 1) < gk) := ⟨by omega, by omega⟩
          have hki : (k : Int) < 30 := by omega
          have wk : wrap64 ((k : Int) + 1) = ((k + 1 : Nat) : Int) := by unfold wrap64; omega
          have HLo2 := hid13 (HLo.out.grow (.int .u8 1) (.int .u8 2) (.int .u8 3))
          clear hkg hlt HLo
          have q0 := bl1 wr (.cells #[.int .u8 1] 5)
          have HQ0 := hid13 (HR.out.below q0)
          have hw0 : w3.heap.size ≤ (wr.alloc (.cells #[.int .u8 1] 5)).heap.size := Nat.le_trans HVs.out HQ0.out.s
          go_wp2_with (at_builtin; apply stopHere9)
          refine (show wpList _ _ _ _ _ _ from ?_)
          refine wpList_append_lies _ rfl _ _ 22 rfl w3.heap.size 5 i0 (.int .u8 0) 1 1 Tryd.underlying22 hi hz0 hz1 hz2 rfl (by decide) (.slice a0 (xs 0).length c0) (xs 0).length (xs 0) rfl (HQ0.out.o 0 (by decide)) ⟨wr.heap.size, 0, none⟩ 1 1 [.int .u8 1] rfl rfl (news13 (by simp [go_sem])) (by intro u hu; simp at hu; subst hu; rfl) (by decide) (by have := HLn.out; unfold maxLen; omega) (by have := HLn.out; omega) hw0 _ rfl ?_
          intro g0 p0 W0 ho0 hg0 hat0 _
          have HR1 : Hid (Rw5 w V0 W0 w3.heap.size V0.heap.size (v5 (.slice (some ⟨g0, 0, none⟩) ((xs 0).length + 1) p0) (.slice ba B.length cb) (.slice a2 (xs 2).length c2) (.slice da L.length dc) (.slice a4 (xs 4).length c4)) e5 (upd xs 0 (xs 0 ++ [.int .u8 1]))) := hid13 (Rw5.congr17 (HQ0.out.app17 (N := 0) HA3.out.1 HVs.out (i := 0) (by decide) ho0 hg0 hat0) (fun i hi => by rcases lt5o hi with rfl | rfl | rfl | rfl | rfl <;> rfl))
          clear q0 HQ0 hw0 ho0 hg0 hat0 HR
          have q2 := bl1 W0 (.cells #[.int .u8 2] 5)
          have HQ2 := hid13 (HR1.out.below q2)
          have hw2 : w3.heap.size ≤ (W0.alloc (.cells #[.int .u8 2] 5)).heap.size := Nat.le_trans HVs.out HQ2.out.s
          go_wp2_with (at_builtin; apply stopHere9)
          refine (show wpList _ _ _ _ _ _ from ?_)
          refine wpList_append_lies _ rfl _ _ 22 rfl w3.heap.size 5 i0 (.int .u8 0) 1 1 Tryd.underlying22 hi hz0 hz1 hz2 rfl (by decide) (.slice a2 (xs 2).length c2) (xs 2).length (xs 2) rfl (HQ2.out.o 2 (by decide)) ⟨W0.heap.size, 0, none⟩ 1 1 [.int .u8 2] rfl rfl (news13 (by simp [go_sem])) (by intro u hu; simp at hu; subst hu; rfl) (by decide) (by have := HLn.out; unfold maxLen; omega) (by have := HLn.out; omega) hw2 _ rfl ?_
          intro g2 p2 W2 ho2 hg2 hat2 _
          have HR2 : Hid (Rw5 w V0 W2 w3.heap.size V0.heap.size (v5 (.slice (some ⟨g0, 0, none⟩) ((xs 0).length + 1) p0) (.slice ba B.length cb) (.slice (some ⟨g2, 0, none⟩) ((xs 2).length + 1) p2) (.slice da L.length dc) (.slice a4 (xs 4).length c4)) e5 (upd (upd xs 0 (xs 0 ++ [.int .u8 1])) 2 (xs 2 ++ [.int .u8 2]))) := hid13 (Rw5.congr17 (HQ2.out.app17 (N := 0) HA3.out.1 HVs.out (i := 2) (by decide) ho2 hg2 hat2) (fun i hi => by rcases lt5o hi with rfl | rfl | rfl | rfl | rfl <;> rfl))
          clear q2 HQ2 hw2 ho2 hg2 hat2 HR1
          have q4 := bl1 W2 (.cells #[.int .u8 3] 5)
          have HQ4 := hid13 (HR2.out.below q4)
          have hw4 : w3.heap.size ≤ (W2.alloc (.cells #[.int .u8 3] 5)).heap.size := Nat.le_trans HVs.out HQ4.out.s
          go_wp2_with (at_builtin; apply stopHere9)
          refine (show wpList _ _ _ _ _ _ from ?_)
          refine wpList_append_lies _ rfl _ _ 22 rfl w3.heap.size 5 i0 (.int .u8 0) 1 1 Tryd.underlying22 hi hz0 hz1 hz2 rfl (by decide) (.slice a4 (xs 4).length c4) (xs 4).length (xs 4) rfl (HQ4.out.o 4 (by decide)) ⟨W2.heap.size, 0, none⟩ 1 1 [.int .u8 3] rfl rfl (news13 (by simp [go_sem])) (by intro u hu; simp at hu; subst hu; rfl) (by decide) (by have := HLn.out; unfold maxLen; omega) (by have := HLn.out; omega) hw4 _ rfl ?_
          intro g4 p4 W4 ho4 hg4 hat4 _
          have HR4 : Hid (Rw5 w V0 W4 w3.heap.size V0.heap.size (v5 (.slice (some ⟨g0, 0, none⟩) ((xs 0).length + 1) p0) (.slice ba B.length cb) (.slice (some ⟨g2, 0, none⟩) ((xs 2).length + 1) p2) (.slice da L.length dc) (.slice (some ⟨g4, 0, none⟩) ((xs 4).length + 1) p4)) e5 (upd (upd (upd xs 0 (xs 0 ++ [.int .u8 1])) 2 (xs 2 ++ [.int .u8 2])) 4 (xs 4 ++ [.int .u8 3]))) := hid13 (Rw5.congr17 (HQ4.out.app17 (N := 0) HA3.out.1 HVs.out (i := 4) (by decide) ho4 hg4 hat4) (fun i hi => by rcases lt5o hi with rfl | rfl | rfl | rfl | rfl <;> rfl))
          clear q4 HQ4 hw4 ho4 hg4 hat4 HR2
          go_wp2
          go_roundg (30 - (k + 1))
          case measure => exact HJ.out.2
          case rel => exact ⟨k + 1, _, HJ.out.1, by first | rfl | (rw [wk]), HR4, HLo2⟩
        have hki : ¬ (k : Int) < 30 := by omega
        have hx1 : xs 1 = B.map cB := HLo.out.2.1.trans HX0l.out.2.2.2.1
        have hx3 : xs 3 = L.map cB := HLo.out.2.2.trans HX0l.out.2.2.2.2
        have hBo : wr.ownsRow w3.heap.size 5 1 (.slice ba B.length cb) B.length (B.map cB) := by
          have h := HR.out.o 1 (by decide)
          rw [hx1, List.length_map] at h
          exact h
        have hDo : wr.ownsRow w3.heap.size 5 1 (.slice da L.length dc) L.length (L.map cB) := by
          have h := HR.out.o 3 (by decide)
          rw [hx3, List.length_map] at h
          exact h
        have HXr : Hid (Bx w w2.heap.size [.int .i64 x0, .int .i64 x1, .int .i64 x2, .int .i64 x3] wr) := ⟨HR.out.b, fun j u hj => HR.out.cell (.inl HA3.out.2) (HXv.out.2 j u hj)⟩
        have HBo := hid13 hBo
        have HDo := hid13 hDo
        have K29 := KO.out (.slice ba B.length cb) wr (own_rwx hBo) (HT.out.below HXr.out.1)
        clear hx1 hx3 hBo hDo HR HLo hkg hlt HXv HX0l
        go_wp2_with fail
        refine K29.mono ?_
        rintro e w20 ⟨vx, rfl, hO20, hb20⟩
        obtain ⟨ex, cx, hvx⟩ := own_form hO20
        subst hvx
        have q21 := bl1 w20 (.cells #[.int .i64 x0, .int .i64 x1, .int .i64 x2, .int .i64 x3] 25)
        have hb21 := keepb q21 hb20
        have HX21 := hid13 (HXr.out.keep hb21)
        have HB21 := hid13 (own_b13 hb21 HBo.out)
        have HD21 := hid13 (own_b13 hb21 HDo.out)
        have HE21 := hid13 (own_b13 q21 hO20)
        have K30 := KQ.out _ (HRA.out.below HX21.out.1) (HRV.out.below HX21.out.1)
        have y0 := HX21.out.2 0 _ rfl
        have y1 := HX21.out.2 1 _ rfl
        have y2 := HX21.out.2 2 _ rfl
        have y3 := HX21.out.2 3 _ rfl
        clear K29 hO20 hb20 q21 hb21 HXr HBo HDo
        go_wp2_with fail
        refine K30.mono ?_
        rintro e w22 ⟨vy, rfl, hO22, hb22⟩
        obtain ⟨ey, cy, hvy⟩ := own_form hO22
        subst hvy
        have HB22 := hid13 (HX21.out.keep hb22).1
        have s1 := conv13 (own_rwx (own_b13 hb22 HB21.out)) HBx.out
        have s2 := conv13 (own_rwx (own_b13 hb22 HD21.out)) HX.out
        have s3 := conv13 (HRV.out.below HB22.out) HX.out
        have s4 := conv13 (own_rwx (own_b13 hb22 HE21.out)) HX.out
        have s5 := conv13 (own_rwx hO22) HBx.out
        rw [HStB.out] at s1 s5
        rw [HStL.out] at s2 s3 s4
        clear K30 hO22 hb22 HX21 HB21 HD21 HE21 y0 y1 y2 y3
        go_wp2
        exact bodyPost_ret (v := .bool true) (by simp [results, Tryd.results3, go_sem]) rfl ⟨rfl, HB22.out⟩
end Go.Proofs.YtgbhbooogofmbabDoor
namespace Go.Proofs.YtgbhbooogofmbabDoor
open Go.ChangeShapes Go.WideShapes Go.ChangeAt Go.RowKit Go.Joins
set_option linter.unusedSimpArgs false
set_option linter.unusedVariables false

theorem Tryd.laidOut : laidOutB Tryd.prog = true := by kernel_rfl
theorem reach13 : reachBytes ≤ 140737488351232 := by decide
section
variable {H : Type} {enc : TypeId × Value → H} {w : World} {spare : Nat → Bool} {held : Bool}
theorem RwX.map13 {α β : Type} {f : α → Value} {g : β → Value} (h : α → β) {v : Value} {l : List α} (hr : RwX f w v l) (he : ∀ x ∈ l, f x = g (h x)) : RwX g w v (l.map h) := by
  obtain ⟨ao, c, e, hc, hr⟩ := hr
  refine ⟨ao, c, by rw [List.length_map]; exact e, by rw [List.length_map]; exact hc, ?_⟩
  rcases hr with hr | ⟨b, off, e, hr⟩
  · exact .inl (by rw [hr]; rfl)
  · refine .inr ⟨b, off, e, fun j x hj => ?_⟩
    rw [List.getElem?_map] at hj
    cases hx : l[j]? with
    | none => rw [hx] at hj; cases hj
    | some y =>
      rw [hx] at hj
      simp only [Option.map_some, Option.some.injEq] at hj
      rw [hr j y hx, he y (List.mem_of_getElem? hx), hj]
set_option maxRecDepth 100000 in
theorem open_ints13 {t e : TypeId} {k : IntKind} (ht : Tryd.prog.underlying t = some (.slice e)) (he : Tryd.prog.underlying e = some (.int k)) (hce : Tryd.prog.cellsOf e = 1) {r : Reach} {b0 : Nat} {v : Value} {d : DataW H} {p : List MemPlace} (hv : Value.okWide Tryd.prog w r b0 t v) (h : DataW.Trod enc Tryd.prog w 0 (fun _ => true) held t v d p) :
    ∃ l : List Int, RowA w 1 v l.length (l.map fun a => .int k a) ∧ RwX (fun a => Value.int k a) w v l ∧ (∀ a ∈ l, (Lit.int k a).wf = true) ∧ (l = [] ∨ ∃ el sp, d = .slice el sp ∧ el.length = l.length) := by
  obtain ⟨a0, len, cap, rfl⟩ := okWide_slice ht hv
  obtain ⟨fuel, hf⟩ := h
  rcases Deep.open_slice ht hf with ⟨hcs, hx⟩ | ⟨a, len', cap', m, n, D, Pl, hcs, _, hl, hm, hmm, hx, hel⟩
  · simp [Value.cells] at hcs
    obtain ⟨rfl, rfl, rfl⟩ := hcs
    exact ⟨[], ⟨rfl, none, 0, rfl, Nat.le_refl _, .inl ⟨rfl, rfl, rfl⟩⟩, ⟨none, 0, rfl, Nat.le_refl _, .inl rfl⟩, (fun _ h => by cases h), .inl rfl⟩
  · simp [Value.cells] at hcs
    obtain ⟨rfl, rfl, rfl⟩ := hcs
    simp at hmm
    subst hmm
    rw [hce] at hel
    obtain ⟨f, hf⟩ := Deep.choose_lt (α := Int) (n := len) (p := fun i x => w.cell? (a.add i) = some (.int k x) ∧ (Lit.int k x).wf = true) (fun i hi => by
      obtain ⟨cs', h1, h2⟩ := hel i (by omega)
      obtain ⟨_, hlen, hc⟩ := World.cells?_some h1
      match cs', hlen with
      | [c0], _ =>
        obtain ⟨x, ex, -, wx⟩ := DataW.trod_int he h2
        simp at ex
        subst ex
        refine ⟨x, ?_, wx⟩
        have := hc 0 (by omega)
        simpa [Addr.add] using this)
    have hlen : ((List.range len).map f).length = len := by simp
    have hcells : ∀ j x, ((List.range len).map f)[j]? = some x → w.cell? (a.add j) = some (.int k x) := by
      intro j x hj
      have hlt : j < len := by have := (List.getElem?_eq_some_iff.1 hj).1; simpa using this
      rw [List.getElem?_map, List.getElem?_range hlt] at hj
      simp only [Option.map_some, Option.some.injEq] at hj
      rw [← hj]; exact (hf j hlt).1
    refine ⟨(List.range len).map f, ⟨by simp, some a, m, by rw [hlen], by rw [hlen]; exact hl, .inr ⟨a, rfl, fun j u hj => ?_⟩⟩, ⟨some a, m, by rw [hlen], by rw [hlen]; exact hl, ?_⟩, ?_, ?_⟩
    · rw [List.getElem?_map] at hj
      cases hx : ((List.range len).map f)[j]? with
      | none => rw [hx] at hj; cases hj
      | some y =>
        rw [hx] at hj
        simp only [Option.map_some, Option.some.injEq] at hj
        rw [← hj]; exact hcells j y hx
    · by_cases hz : len = 0
      · subst hz
        exact .inl (by simp)
      · have h00 := (hf 0 (by omega)).1
        have ea : a = ⟨a.block, a.off, none⟩ := by
          have : a.add 0 = a := by simp [Addr.add]
          rw [this] at h00
          exact spot9 h00
        refine .inr ⟨a.block, a.off, by rw [← ea], fun j u hj => ?_⟩
        have := hcells j u hj
        rw [ea, addA] at this
        exact this
    · intro x hx
      simp only [List.mem_map, List.mem_range] at hx
      obtain ⟨i, hi, rfl⟩ := hx
      exact (hf i hi).2
    · simp only [Prod.mk.injEq] at hx
      exact .inr ⟨_, _, hx.1, by simp⟩
end
end Go.Proofs.YtgbhbooogofmbabDoor
namespace Go.Proofs.YtgbhbooogofmbabDoor
open Go.ChangeShapes Go.WideShapes Go.ChangeAt Go.RowKit Go.Joins
set_option linter.unusedSimpArgs false
set_option linter.unusedVariables false

section
variable {P : Program} {H : Type} {enc : TypeId × Value → H} {w : World} {base : Nat} {spare : Nat → Bool} {held : Bool}
end
end Go.Proofs.YtgbhbooogofmbabDoor
