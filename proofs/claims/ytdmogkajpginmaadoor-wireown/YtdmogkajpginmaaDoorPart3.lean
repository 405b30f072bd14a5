/-
  Part 3 of the proof: 6 texts, one behind the other.
-/
import Derived.Test.YtdmogkajpginmaaDoorPart2
import Derived.Laws.MakeOwn
import Derived.Laws.OwnMore
import Derived.RangeFuncNested
import Derived.WalkMore
import Derived.ScopeJumps
import Derived.Lib.SlBytesConst
import Derived.Lib.AppendZerosOnto
/-
  Five rows that are written over and grown, all else stays.
-/
namespace Go.Proofs.YtdmogkajpginmaaDoor
open Go.RowKit
set_option linter.unusedSimpArgs false
set_option linter.unusedVariables false

def upd {α : Type} (f : Nat → α) (i : Nat) (y : α) : Nat → α := fun j => if j = i then y else f j
theorem upd_same {α : Type} (f : Nat → α) (i : Nat) (y : α) : upd f i y i = y := by unfold upd; rw [if_pos rfl]
theorem upd_ne {α : Type} (f : Nat → α) {i j : Nat} (y : α) (h : j ≠ i) : upd f i y j = f j := by unfold upd; rw [if_neg h]
theorem own_setO {W : World} {base e size n g j : Nat} {v x : Value} {xs : List Value} (h : W.ownsRow base e size v n xs) (hne : v.ownBlock ≠ some g) : (W.setCell ⟨g, j, none⟩ x).ownsRow base e size v n xs := by
  refine ⟨h.1, ?_⟩
  rcases h.2 with h1 | ⟨g', cap, cur, e, h1, h2, h3⟩
  · exact .inl h1
  · refine .inr ⟨g', cap, cur, e, h1, ?_, h3⟩
    have hg : ¬ g' = g := by
      rintro rfl
      exact hne (by rw [e]; rfl)
    exact (Below.heap_setCell W ⟨g, j, none⟩ x g' hg).trans h2
structure Rw5 (w V0 W : World) (A C : Nat) (v : Nat → Value) (e : Nat → TypeId) (xs : Nat → List Value) : Prop where
  b : Below w.heap.size w W
  k : ∀ z ob, V0.heap[z]? = some ob → (z < A ∨ C ≤ z) → W.heap[z]? = some ob
  s : V0.heap.size ≤ W.heap.size
  o : ∀ i, i < 5 → W.ownsRow A (e i) 1 (v i) (xs i).length (xs i)
  d : ∀ i j z, i < 5 → j < 5 → (v i).ownBlock = some z → (v j).ownBlock = some z → i = j
  n : ∀ i z, i < 5 → (v i).ownBlock = some z → (A ≤ z ∧ z < C) ∨ V0.heap.size ≤ z
section
variable {w V0 W W' : World} {A C : Nat} {v : Nat → Value} {e : Nat → TypeId} {xs : Nat → List Value}
theorem Rw5.below (h : Rw5 w V0 W A C v e xs) (hb : Below W.heap.size W W') : Rw5 w V0 W' A C v e xs :=
  ⟨keepb hb h.b, fun z ob h1 h2 => (hb.block z (Array.getElem?_eq_some_iff.1 (h.k z ob h1 h2)).1).trans (h.k z ob h1 h2), Nat.le_trans h.s hb.size, fun i hi => own_b13 hb (h.o i hi), h.d, h.n⟩
theorem Rw5.store (h : Rw5 w V0 W A C v e xs) (hA : w.heap.size ≤ A) {i g cap : Nat} (hi : i < 5) (hv : v i = .slice (some ⟨g, 0, none⟩) (xs i).length cap) (j : Nat) (x : Value) : Rw5 w V0 (W.setCell ⟨g, j, none⟩ x) A C v e (upd xs i ((xs i).set j x)) := by
  have hbk : (v i).ownBlock = some g := by rw [hv]; rfl
  have hg := (h.o i hi).lt g hbk
  have hn := h.n i g hi hbk
  refine ⟨h.b.setCell (p := ⟨g, j, none⟩) (by show w.heap.size ≤ g; omega) _, fun z ob h1 h2 => ?_, by simp [World.setCell]; exact h.s, fun t ht => ?_, h.d, h.n⟩
  · have hz : z < V0.heap.size := (Array.getElem?_eq_some_iff.1 h1).1
    exact (Below.heap_setCell W ⟨g, j, none⟩ x z (by show ¬ z = g; omega)).trans (h.k z ob h1 h2)
  · by_cases c : t = i
    · subst c
      have ho := h.o t ht
      rw [upd_same, List.length_set]
      rw [hv] at ho ⊢
      exact (ho.stored j x).1
    · rw [upd_ne _ _ c]
      exact own_setO (h.o t ht) (fun q => c (h.d t i g ht hi q hbk))
theorem Rw5.app (h : Rw5 w V0 W A C v e xs) (hA : w.heap.size ≤ A) (hAs : A ≤ V0.heap.size) {i : Nat} (hi : i < 5) {v' x : Value} (ho : W'.ownsRow A (e i) 1 v' ((xs i).length + 1) (xs i ++ [x])) (hg : W.grownBy W' (v i).ownBlock) (hat : ∀ z, v'.ownBlock = some z → (v i).ownBlock = some z ∨ z = W.heap.size) : Rw5 w V0 W' A C (upd v i v') e (upd xs i (xs i ++ [x])) := by
  have hlt : ∀ t z, t < 5 → (v t).ownBlock = some z → z < W.heap.size := fun t z ht hz => ((h.o t ht).lt z hz).2
  refine ⟨h.b.grown hg (Nat.le_trans hA (Nat.le_trans hAs h.s)) (fun z q => Nat.le_trans hA ((h.o i hi).lt z q).1), fun z ob h1 h2 => ?_, Nat.le_trans h.s hg.size, fun t ht => ?_, fun a b z ha hb h1 h2 => ?_, fun t z ht hz => ?_⟩
  · have hz : z < V0.heap.size := (Array.getElem?_eq_some_iff.1 h1).1
    have hw := h.k z ob h1 h2
    refine (hg.block z (Array.getElem?_eq_some_iff.1 hw).1 (fun q => ?_)).trans hw
    have := h.n i z hi q.symm
    omega
  · by_cases c : t = i
    · subst c
      rw [upd_same, upd_same, List.length_append]
      exact ho
    · rw [upd_ne _ _ c, upd_ne _ _ c]
      refine (h.o t ht).kept hg ?_
      cases q : (v t).ownBlock with
      | none => exact .inl rfl
      | some z => exact .inr (fun q2 => c (h.d t i z ht hi q q2.symm))
  · by_cases ca : a = i
    · by_cases cb : b = i
      · rw [ca, cb]
      · subst ca
        rw [upd_same] at h1
        rw [upd_ne _ _ cb] at h2
        rcases hat z h1 with q | q
        · exact h.d a b z ha hb q h2
        · have := hlt b z hb h2; omega
    · rw [upd_ne _ _ ca] at h1
      by_cases cb : b = i
      · subst cb
        rw [upd_same] at h2
        rcases hat z h2 with q | q
        · exact h.d a b z ha hb h1 q
        · have := hlt a z ha h1; omega
      · rw [upd_ne _ _ cb] at h2
        exact h.d a b z ha hb h1 h2
  · by_cases c : t = i
    · subst c
      rw [upd_same] at hz
      rcases hat z hz with q | q
      · exact h.n t z ht q
      · exact .inr (by rw [q]; exact h.s)
    · rw [upd_ne _ _ c] at hz
      exact h.n t z ht hz
theorem Rw5.cell (h : Rw5 w V0 W A C v e xs) {z j : Nat} {u : Value} (hz : z < A ∨ C ≤ z) (hc : V0.cell? ⟨z, j, none⟩ = some u) : W.cell? ⟨z, j, none⟩ = some u := by
  have hb := cell_in hc
  have e : W.heap[z]? = V0.heap[z]? := by rw [h.k z _ (Array.getElem?_eq_getElem hb) hz, Array.getElem?_eq_getElem hb]
  exact (World.cell?_of_block (a := ⟨z, j, none⟩) e).trans hc
theorem Rw5.row (h : Rw5 w V0 W A C v e xs) {α : Type} {f : α → Value} {vr : Value} {l : List α} (hr : RwX f V0 vr l) (hz : ∀ b off nn cc, vr = .slice (some ⟨b, off, none⟩) nn cc → l ≠ [] → b < A ∨ C ≤ b) : RwX f W vr l := by
  obtain ⟨ao, c, e, hc, hr⟩ := hr
  refine ⟨ao, c, e, hc, ?_⟩
  rcases hr with hr | ⟨b, off, e2, hr⟩
  · exact .inl hr
  · refine .inr ⟨b, off, e2, fun j x hj => h.cell (hz b off _ _ (by rw [e, e2]) (by rintro rfl; cases hj)) (hr j x hj)⟩
end
theorem rwx_ltO {α : Type} {f : α → Value} {W : World} {v : Value} {l : List α} (h : RwX f W v l) {b off nn cc : Nat} (e : v = .slice (some ⟨b, off, none⟩) nn cc) (hl : l ≠ []) : b < W.heap.size := by
  obtain ⟨ao, c, e1, hc, hr⟩ := h
  rw [e] at e1
  injection e1 with e1 e2 e3
  rcases hr with hr | ⟨b', off', e4, hr⟩
  · exact absurd hr hl
  · rw [e4] at e1
    injection e1 with e1
    injection e1 with e1 e5
    subst e1
    obtain ⟨x, t, hx⟩ := List.exists_cons_of_ne_nil hl
    exact cell_in (hr 0 x (by rw [hx]; rfl))
end Go.Proofs.YtdmogkajpginmaaDoor
/-
  make of a row with room.
-/
namespace Go.Proofs.YtdmogkajpginmaaDoor
open Go.RowKit
set_option linter.unusedSimpArgs false
set_option linter.unusedVariables false

theorem run_make_mid {P : Program} (w : World) (base : Nat) (t e : TypeId) (i : TypeInfo) (z : Value) (ht : P.underlying t = some (.slice e)) (hi : P.info? e = some i) (hz : i.zero = some z) (hsize : i.size = 1) (hz1 : z.cells = #[z])
    (kl kc : IntKind) (n c : Nat) (hnc : n ≤ c) (hbytes : i.bytes * c ≤ 281474976710656) (h63 : c ≤ maxLen) (hbase : base ≤ w.heap.size) :
    ∃ w', (Instr.makeSlice t (.int kl (n : Int)) (.int kc (c : Int))).run P w = .ok (.slice (some ⟨w.heap.size, 0, none⟩) n c) w' ∧
      w'.ownsRow base e 1 (.slice (some ⟨w.heap.size, 0, none⟩) n c) n (List.replicate n z) ∧ w.grownBy w' none := by
  have h63' : (c : Int) ≤ 9223372036854775807 := by
    have h := h63
    simp [maxLen] at h
    omega
  have hb' : (i.bytes : Int) * (c : Int) ≤ 281474976710656 := by
    have h : ((i.bytes * c : Nat) : Int) ≤ 281474976710656 := by omega
    rwa [Int.natCast_mul] at h
  have hr := run_make (P := P) w t e i z ht hi hz kl kc n c (by omega) (by omega) hb' h63'
  simp only [Int.toNat_natCast, hsize, hz1] at hr
  refine ⟨_, hr, ⟨by simp, .inr ⟨w.heap.size, c, _, rfl, hbase, World.alloc_heap_new w _, hnc, h63, ?_, ?_⟩⟩, World.grownBy_alloc w _ none⟩
  · exact size_madeCells _ _
  · rw [toList_madeCells_one, Nat.mul_one, List.take_replicate, Nat.mul_one, Nat.min_eq_left hnc]
theorem wpList_make_mid {P : Program} (w : World) {ops : Array Oper} {rest : List Oper} {o : Oper} {a : Act} {Q : Exit → Act → World → Prop}
    (hg : o.guard = none) (l c : Operand) (t : TypeId) (hop : o.op = Op.makeSlice t l c)
    (base : Nat) (e : TypeId) (i : TypeInfo) (z : Value) (h1 : P.underlying t = some (.slice e)) (h2 : P.info? e = some i) (h3 : i.zero = some z) (h4 : i.size = 1) (h5 : z.cells = #[z])
    (kl kc : IntKind) (L C : Int) (n m : Nat) (hl : a.eval l = .int kl L) (hc : a.eval c = .int kc C) (hL : L = (n : Int)) (hC : C = (m : Int)) (hnm : n ≤ m) (b2 : i.bytes * m ≤ 281474976710656) (b3 : m ≤ maxLen) (b4 : base ≤ w.heap.size)
    (hK : ∀ w', w'.ownsRow base e 1 (.slice (some ⟨w.heap.size, 0, none⟩) n m) n (List.replicate n z) → w.grownBy w' none → wpList P ops Q rest (a.put o.dst (.slice (some ⟨w.heap.size, 0, none⟩) n m)) w') :
    wpList P ops Q (o :: rest) a w := by
  refine wpList_plain hg fun K hK' => ?_
  obtain ⟨w', hrun, r1, r2⟩ := run_make_mid (P := P) w base t e i z h1 h2 h3 h4 h5 kl kc n m hnm b2 b3 b4
  subst hL
  subst hC
  unfold Oper.wp
  simp [execOp, hop, hl, hc, hrun, Result.andThen]
  exact hK' _ _ (hK w' r1 r2)
end Go.Proofs.YtdmogkajpginmaaDoor
/-
  What package wire's along and Sum do.
-/
namespace Go.Proofs.YtdmogkajpginmaaDoor
open Go.RowKit
set_option linter.unusedSimpArgs false
set_option linter.unusedVariables false

/-- The table of the project's own lies in its variable. -/
def Hf (w : World) : Prop := ∀ j, j < 16 → w.cell? ⟨0, j, none⟩ = some (.int .u32 (uI (cT j)))
theorem Hf.below {w w' : World} (h : Hf w) (hb : Below w.heap.size w w') : Hf w' := fun j hj => keepc hb (h j hj)
theorem nib32 (x : BitVec 32) : bits .and .u32 (uI x) 15 = ((x.toNat % 16 : Nat) : Int) := by
  have e : (15 : Int) = uI 15#32 := lit32 15 (by decide)
  have h : bits .and .u32 (uI x) (uI 15#32) = ((x.toNat % 16 : Nat) : Int) := by
    rw [and32, and15, uI_of _ (by omega)]
  rw [← e] at h
  exact h
theorem sh4 (x : BitVec 32) : uI x / (16 : Int) = uI (x >>> 4) := by have := shr32 x 4; simpa using this
theorem byX (c : BitVec 32) (b : Nat) (h : b < 256) : bits .xor .u32 (uI c) (b : Int) = uI (c ^^^ BitVec.ofNat 32 b) := by
  rw [← xor32, uI_of b (by omega)]
theorem stp_4 (c : BitVec 32) (b : Nat) : hbN 4 (hbN 4 (c ^^^ BitVec.ofNat 32 b)) = stp c b := by
  unfold stp; rw [← hbN_add]
def intOf13 : Value → Int | .int _ q => q | _ => 0
theorem crF_at {l : List Nat} {k : Nat} (hk : k < l.length) (C : BitVec 32) : crF C (l.drop k) = crF (stp C (l[k])) (l.drop (k + 1)) := by
  rw [List.drop_eq_getElem_cons hk, crF_cons]
/-- What one step asks of the table: a letter for the place. -/
theorem nibF {w : World} (hT : Hf w) (x : BitVec 32) : ∃ d : Nat, ∃ t : Int, d < 16 ∧ bits .and .u32 (uI x) 15 = (d : Int) ∧ w.cell? ⟨0, d, none⟩ = some (.int .u32 t) ∧ bits .xor .u32 (uI x / (16 : Int)) t = uI (hbN 4 x) := by
  refine ⟨x.toNat % 16, uI (cT (x.toNat % 16)), by omega, nib32 x, hT _ (by omega), ?_⟩
  rw [sh4, xor32, hb_four]
/-- What holds at the label. -/
def AlI (l : List Nat) (ao : Option Addr) (cc : Nat) (c : BitVec 32) (a' : Act) : Prop := ∃ (k : Nat) (C : BitVec 32) (u6 u7 u8 u9 u10 u11 u12 u13 u14 u15 u16 u17 u18 u19 u20 u21 u22 u23 u24 u25 u26 u27 u28 u29 u30 u31 u32 u33 : Value), a' = { tmps := #[.int .u32 (uI C), .slice ao l.length cc, undef, undef, .int .u32 0, .int .i64 (k : Int), u6, u7, u8, u9, u10, u11, u12, u13, u14, u15, u16, u17, u18, u19, u20, u21, u22, u23, u24, u25, u26, u27, u28, u29, u30, u31, u32, u33], defers := [] } ∧ k ≤ l.length ∧ Hid (crF C (l.drop k) = crF c l)
theorem AlI.mk {l : List Nat} {ao : Option Addr} {cc : Nat} {c : BitVec 32} (k : Nat) (C : BitVec 32) (u6 u7 u8 u9 u10 u11 u12 u13 u14 u15 u16 u17 u18 u19 u20 u21 u22 u23 u24 u25 u26 u27 u28 u29 u30 u31 u32 u33 : Value) (hk : k ≤ l.length) (h : Hid (crF C (l.drop k) = crF c l)) : AlI l ao cc c { tmps := #[.int .u32 (uI C), .slice ao l.length cc, undef, undef, .int .u32 0, .int .i64 (k : Int), u6, u7, u8, u9, u10, u11, u12, u13, u14, u15, u16, u17, u18, u19, u20, u21, u22, u23, u24, u25, u26, u27, u28, u29, u30, u31, u32, u33], defers := [] } := ⟨k, C, u6, u7, u8, u9, u10, u11, u12, u13, u14, u15, u16, u17, u18, u19, u20, u21, u22, u23, u24, u25, u26, u27, u28, u29, u30, u31, u32, u33, rfl, hk, h⟩
def AlM (l : List Nat) (a' : Act) : Nat := l.length - (intOf13 (a'.tmps.getD 5 undef)).toNat
set_option maxRecDepth 1000000 in
set_option maxHeartbeats 8000000 in
theorem along_any (c : BitVec 32) (v : Value) (l : List Nat) (w : World) (hv : RwX cB w v l) (hl : l.length ≤ 9223372036854775806) (hb : ∀ b ∈ l, b < 256) (hT : Hf w) :
    Calls Tryd.prog 24 #[.int .u32 (uI c), v] w fun e w' => e = .returned (.int .u32 (uI (crF c l))) ∧ w' = w := by
  obtain ⟨ao, cc, rfl, hc, hv⟩ := hv
  have HV := hid13 hv
  have HT := hid13 hT
  have HB := hid13 hb
  have HL := hid13 hl
  clear hv hT hb hc hl
  go_enter Tryd.func24, Tryd.ntmps24
  go_wp2
  refine wp_scope_jumps 0 (fun a' w' => w' = w ∧ AlI l ao cc c a') (fun a' _ => AlM l a') rfl ?_ ?_
  · have HC : Hid (crF c (l.drop 0) = crF c l) := by show crF c (l.drop 0) = crF c l; simp
    by_cases hlt : 0 < l.length
    · have hne : ¬ ((0 : Int) = (l.length : Int)) := by omega
      obtain ⟨b, hb0⟩ : ∃ b, b = l[0]'hlt := ⟨_, rfl⟩
      have hb1 : b < 256 := HB.out b (by rw [hb0]; exact List.getElem_mem hlt)
      obtain ⟨bo, off, rfl, hcell⟩ : ∃ bo off, ao = some ⟨bo, off, none⟩ ∧ ∀ j x, l[j]? = some x → w.cell? ⟨bo, off + j, none⟩ = some (cB x) := by
        rcases HV.out with h | h
        · rw [h] at hlt; simp at hlt
        · exact h
      have hrd : w.cell? ⟨bo, off + 0, none⟩ = some (.int .u8 (b : Int)) := by
        have := hcell 0 b (by rw [hb0]; simp [hlt])
        exact this
      clear hcell HV
      have hx := byX c b hb1
      have HE : Hid (crF (hbN 4 (hbN 4 (c ^^^ BitVec.ofNat 32 b))) (l.drop (0 + 1)) = crF c l) := by
        show _ = _
        rw [stp_4, hb0, ← crF_at hlt]; exact HC.out
      obtain ⟨X, hX⟩ : ∃ X, X = c ^^^ BitVec.ofNat 32 b := ⟨_, rfl⟩
      rw [← hX] at hx HE
      obtain ⟨d, t, hd, f1, f2, f3⟩ := nibF HT.out X
      obtain ⟨Y, hY⟩ : ∃ Y, Y = hbN 4 X := ⟨_, rfl⟩
      rw [← hY] at f3 HE
      obtain ⟨d2, t2, hd2, g1, g2, g3⟩ := nibF HT.out Y
      have hd' : ((d : Nat) : Int) < 16 := by omega
      have hd2' : ((d2 : Nat) : Int) < 16 := by omega
      have hbi : ((b : Nat) : Int) < 256 := by omega
      have mk : IntKind.i64.wrap ((0 : Int) + 1) = (0 : Int) + 1 := by have := HL.out; rw [IntKind.wrap_i64]; omega
      have HLT := hid13 hlt
      have HB0 := hid13 hb0
      clear hX hY HC hb0
      rw [Nat.add_zero] at hrd
      clear mk
      go_wp2
      go_step3
      go_wp2
      go_step3
      exact ⟨rfl, rfl, AlI.mk 1 (hbN 4 Y) _ _ _ _ _ _ _ _ _ _ _ _ _ _ _ _ _ _ _ _ _ _ _ _ _ _ _ _ HLT.out HE⟩
    · have h0 : l = [] := List.eq_nil_of_length_eq_zero (by omega)
      subst h0
      go_wp2
      go_step3
      go_wp2
      simp only [Exit.jump]
      go_ret
      exact ⟨rfl, rfl⟩
  · rintro a' w' ⟨rfl, k, C, u6, u7, u8, u9, u10, u11, u12, u13, u14, u15, u16, u17, u18, u19, u20, u21, u22, u23, u24, u25, u26, u27, u28, u29, u30, u31, u32, u33, rfl, hk, HC⟩
    by_cases hlt : k < l.length
    · have hne : ¬ ((k : Int) = (l.length : Int)) := by omega
      obtain ⟨b, hb0⟩ : ∃ b, b = l[k]'hlt := ⟨_, rfl⟩
      have hb1 : b < 256 := HB.out b (by rw [hb0]; exact List.getElem_mem hlt)
      obtain ⟨bo, off, rfl, hcell⟩ : ∃ bo off, ao = some ⟨bo, off, none⟩ ∧ ∀ j x, l[j]? = some x → w'.cell? ⟨bo, off + j, none⟩ = some (cB x) := by
        rcases HV.out with h | h
        · rw [h] at hlt; simp at hlt
        · exact h
      have hrd : w'.cell? ⟨bo, off + k, none⟩ = some (.int .u8 (b : Int)) := by
        have := hcell k b (by rw [hb0]; simp [hlt])
        exact this
      clear hcell HV
      have hx := byX C b hb1
      have HE : Hid (crF (hbN 4 (hbN 4 (C ^^^ BitVec.ofNat 32 b))) (l.drop (k + 1)) = crF c l) := by
        show _ = _
        rw [stp_4, hb0, ← crF_at hlt]; exact HC.out
      obtain ⟨X, hX⟩ : ∃ X, X = C ^^^ BitVec.ofNat 32 b := ⟨_, rfl⟩
      rw [← hX] at hx HE
      obtain ⟨d, t, hd, f1, f2, f3⟩ := nibF HT.out X
      obtain ⟨Y, hY⟩ : ∃ Y, Y = hbN 4 X := ⟨_, rfl⟩
      rw [← hY] at f3 HE
      obtain ⟨d2, t2, hd2, g1, g2, g3⟩ := nibF HT.out Y
      have hd' : ((d : Nat) : Int) < 16 := by omega
      have hd2' : ((d2 : Nat) : Int) < 16 := by omega
      have hbi : ((b : Nat) : Int) < 256 := by omega
      have mk : IntKind.i64.wrap ((k : Int) + 1) = (k : Int) + 1 := by have := HL.out; rw [IntKind.wrap_i64]; omega
      have HLT := hid13 hlt
      have HB0 := hid13 hb0
      clear hX hY HC hb0
      go_wp2
      go_step3
      refine ⟨rfl, ⟨rfl, AlI.mk (k + 1) (hbN 4 Y) _ _ _ _ _ _ _ _ _ _ _ _ _ _ _ _ _ _ _ _ _ _ _ _ _ _ _ _ HLT.out HE⟩, ?_⟩
      show l.length - ((k : Int) + 1).toNat < l.length - (k : Int).toNat
      have := HLT.out
      omega
    · have hq : (k : Int) = (l.length : Int) := by omega
      have HE : Hid (C = crF c l) := by
        have := HC.out
        rw [List.drop_eq_nil_of_le (by omega), crF_nil] at this
        exact this
      go_wp2
      simp only [Exit.jump]
      go_ret
      exact ⟨by rw [← HE.out]; rfl, rfl⟩

theorem flat_at {P : List (Value × List Nat)} {k : Nat} (hk : k < P.length) (C : BitVec 32) : crF C ((P.drop k).map (·.2)).flatten = crF (crF C (P[k].2)) ((P.drop (k + 1)).map (·.2)).flatten := by
  rw [List.drop_eq_getElem_cons hk, List.map_cons, List.flatten_cons, crF_app]
theorem notU (x : BitVec 32) : bits .xor .u32 IntKind.u32.max (uI x) = uI (~~~ x) := by
  have e : IntKind.u32.max = uI (BitVec.allOnes 32) := by rw [uI_eq]; decide
  rw [e, xor32, not_xor]
set_option maxRecDepth 100000 in
set_option maxHeartbeats 8000000 in
theorem sum_any (v : Value) (P : List (Value × List Nat)) (w : World) (hv : RwX (fun p : Value × List Nat => p.1) w v P) (hP : ∀ p ∈ P, RwX cB w p.1 p.2 ∧ p.2.length ≤ 9223372036854775806 ∧ ∀ b ∈ p.2, b < 256) (hl : P.length ≤ 9223372036854775806) (hT : Hf w) :
    Calls Tryd.prog 9 #[v] w fun e w' => e = .returned (.int .u32 (uI (crS (P.map (·.2)).flatten))) ∧ w' = w := by
  obtain ⟨ao, cc, rfl, hc, hv⟩ := hv
  have HV := hid13 hv
  have HT := hid13 hT
  have HP := hid13 hP
  have HL := hid13 hl
  have hs : ¬ IntKind.u32.signed = true := by decide
  clear hv hT hP hc hl
  go_enter Tryd.func9, Tryd.ntmps9
  go_wp2_with fail
  go_loopg [3, 5, 8] P.length (fun g a b i wr => wr = w ∧ ∃ (k : Nat) (C : BitVec 32), k + g = P.length ∧ a = .int .u32 (uI C) ∧ i = .int .i64 (k : Int) ∧ Hid (crF C ((P.drop k).map (·.2)).flatten = crF (BitVec.allOnes 32) (P.map (·.2)).flatten))
  case atStart =>
    refine ⟨rfl, 0, BitVec.allOnes 32, by omega, ?_, rfl, rfl⟩
    exact congrArg (Value.int .u32) (by rw [uI_eq]; decide)
  case round =>
    obtain ⟨rfl, k, C, hk, rfl, rfl, HC⟩ := hrel
    by_cases hlt : k < P.length
    · have hli : (k : Int) < (P.length : Int) := by omega
      obtain ⟨bo, off, rfl, hcell⟩ : ∃ bo off, ao = some ⟨bo, off, none⟩ ∧ ∀ j x, P[j]? = some x → wr.cell? ⟨bo, off + j, none⟩ = some x.1 := by
        rcases HV.out with h | h
        · rw [h] at hlt; simp at hlt
        · exact h
      obtain ⟨q, hq⟩ : ∃ q, q = P[k] := ⟨_, rfl⟩
      have hrd : wr.cell? ⟨bo, off + k, none⟩ = some q.1 := hcell k q (by rw [hq]; simp [hlt])
      have hq2 := hid13 (HP.out q (by rw [hq]; exact List.getElem_mem hlt))
      have HE : Hid (crF (crF C q.2) ((P.drop (k + 1)).map (·.2)).flatten = crF (BitVec.allOnes 32) (P.map (·.2)).flatten) := by
        show _ = _
        rw [hq, ← flat_at hlt]; exact HC.out
      have mk : IntKind.i64.wrap ((k : Int) + 1) = (k : Int) + 1 := by have := HL.out; rw [IntKind.wrap_i64]; omega
      have HK := hid13 hk
      have HLT := hid13 hlt
      clear hq hcell HC hk
      obtain ⟨qv, ql⟩ := q
      go_wp2_with (go_at_call 24; refine (along_any C qv ql _ hq2.out.1 hq2.out.2.1 hq2.out.2.2 HT.out).mono ?_; rintro e w1 ⟨rfl, rfl⟩)
      go_roundg (gk - 1)
      case measure => have := HK.out; have := HLT.out; omega
      case rel => exact ⟨rfl, k + 1, _, by have := HK.out; have := HLT.out; omega, rfl, rfl, HE⟩
    · have hli : ¬ (k : Int) < (P.length : Int) := by omega
      have HE : Hid (~~~ C = crS (P.map (·.2)).flatten) := by
        have := HC.out
        rw [List.drop_eq_nil_of_le (by omega), List.map_nil, List.flatten_nil, crF_nil] at this
        show ~~~ C = crS _
        unfold crS
        rw [this]
      have hn := notU C
      go_wp2_with fail
      go_ret
      exact ⟨congrArg Ending.returned (congrArg (Value.int .u32) (by first | exact congrArg uI HE.out | (rw [← HE.out]; exact hn))), rfl⟩
end Go.Proofs.YtdmogkajpginmaaDoor
/-
  The chapter's examples.
-/
namespace Go.Proofs.YtdmogkajpginmaaDoor
open Go.RowKit
set_option linter.unusedSimpArgs false
set_option linter.unusedVariables false

theorem known_sum : crS [49, 50, 51, 52, 53, 54, 55, 56, 57] = 3808858755#32 := by decide +kernel
theorem known_U : fdU [(5 : Int), 5, 7, 5] 4 = [2952790016#32] := by decide +kernel
theorem known_R : fdR [(5 : Int), 5, 7, 5] 4 = [5, 7, 5] := by decide +kernel
theorem lit_rwx {α : Type} {f : α → Value} (w : World) (cs : Array Value) (T : TypeId) (fr : Nat × Nat) (l : List α) (h : cs.toList = l.map f) : RwX f (w.alloc (.cells cs T fr)) (.slice (some ⟨w.heap.size, 0, none⟩) l.length l.length) l := by
  refine ⟨_, _, rfl, Nat.le_refl _, .inr ⟨w.heap.size, 0, rfl, fun j x hj => ?_⟩⟩
  have e : (w.alloc (.cells cs T fr)).heap[w.heap.size]? = some (.cells cs T fr) := by
    show (w.heap.push _)[w.heap.size]? = _
    simp
  have hc : cs[j]? = some (f x) := by
    rw [← Array.getElem?_toList, h, List.getElem?_map, hj]; rfl
  rw [Nat.zero_add]
  rw [cell_of_row _ _ _ _ _ _ e]; exact hc
set_option maxRecDepth 100000 in
set_option maxHeartbeats 16000000 in
theorem known13 (w : World) (hT : Hf w) :
    Calls Tryd.prog 7 #[] w fun e w' => e = .returned (.bool true) ∧ Below w.heap.size w w' := by
  have HT := hid13 hT
  clear hT
  have q1 := bl1 w (.cells #[.int .i64 5, .int .i64 5, .int .i64 7, .int .i64 5] 3)
  have HB1 := hid13 q1
  have HV1 := hid13 (lit_rwx (f := cI) w #[.int .i64 5, .int .i64 5, .int .i64 7, .int .i64 5] 3 (0, 0) [5, 5, 7, 5] rfl)
  clear q1
  go_enter Tryd.func7, Tryd.ntmps7
  go_wp2_with fail
  refine (foldI_any _ [5, 5, 7, 5] _ HV1.out (by decide)).mono ?_
  rintro e w1 ⟨vf, rfl, hF⟩
  have hB : Below w.heap.size w w1 := keepb hF.b HB1.out
  rw [show ([5, 5, 7, 5] : List Int).length = 4 from rfl, known_U, known_R] at hF
  have hs1 : (w.alloc (.cells #[.int .i64 5, .int .i64 5, .int .i64 7, .int .i64 5] 3)).heap.size = w.heap.size + 1 := by simp
  rw [hs1, show (([5, 5, 7, 5] : List Int).length + 31) / 32 = 1 from rfl]
  have hm0 : w1.cell? ⟨w.heap.size + 1, 0, none⟩ = some (.int .u32 2952790016) := by
    have := (hF.cell 0 (by decide)).1
    rw [show ([2952790016#32] : List (BitVec 32)).getD (0 / 32) 0#32 = 2952790016#32 from rfl, uI_of 2952790016 (by decide)] at this
    rw [hs1] at this
    exact this
  obtain ⟨gf, cf, rfl, hr1⟩ : ∃ gf cf, vf = .slice (some ⟨gf, 0, none⟩) 3 cf ∧ w1.cell? ⟨gf, 1, none⟩ = some (.int .i64 7) := by
    have hr := hF.r
    rcases hr.2 with ⟨-, h⟩ | ⟨g, cap, cur, rfl, -⟩
    · cases h
    · exact ⟨g, cap, rfl, by rw [hr.cellAt 1 (by decide)]; rfl⟩
  have HT1 := hid13 (HT.out.below hB)
  have HB := hid13 hB
  clear hF hB HB1 HV1 hs1 HT
  have q2 := bl1 w1 (.cells #[.int .u8 49, .int .u8 50, .int .u8 51, .int .u8 52] 5 (4, 5))
  have r2 := lit_rwx (f := cB) w1 #[.int .u8 49, .int .u8 50, .int .u8 51, .int .u8 52] 5 (4, 5) [49, 50, 51, 52] rfl
  obtain ⟨w2, hw2⟩ : ∃ w2, w2 = w1.alloc (.cells #[.int .u8 49, .int .u8 50, .int .u8 51, .int .u8 52] 5 (4, 5)) := ⟨_, rfl⟩
  have e2 : w2.heap.size = w1.heap.size + 1 := by rw [hw2]; simp
  rw [← hw2] at q2 r2
  have q3 := bl1 w2 (.cells #[.int .u8 53, .int .u8 54, .int .u8 55, .int .u8 56, .int .u8 57] 5 (5, 6))
  have r3 := lit_rwx (f := cB) w2 #[.int .u8 53, .int .u8 54, .int .u8 55, .int .u8 56, .int .u8 57] 5 (5, 6) [53, 54, 55, 56, 57] rfl
  obtain ⟨w3, hw3⟩ : ∃ w3, w3 = w2.alloc (.cells #[.int .u8 53, .int .u8 54, .int .u8 55, .int .u8 56, .int .u8 57] 5 (5, 6)) := ⟨_, rfl⟩
  have e3 : w3.heap.size = w1.heap.size + 2 := by rw [hw3, ← Nat.add_right_comm w1.heap.size 1 1, ← e2]; simp
  rw [← hw3] at q3 r3
  rw [e2] at r3
  have q4 := bl1 w3 (.cells #[.slice (some ⟨w1.heap.size, 0, none⟩) 4 4, .slice (some ⟨w1.heap.size + 1, 0, none⟩) 5 5] 24)
  have r4 := lit_rwx (f := fun p : Value × List Nat => p.1) w3 #[.slice (some ⟨w1.heap.size, 0, none⟩) 4 4, .slice (some ⟨w1.heap.size + 1, 0, none⟩) 5 5] 24 (0, 0) [(.slice (some ⟨w1.heap.size, 0, none⟩) 4 4, [49, 50, 51, 52]), (.slice (some ⟨w1.heap.size + 1, 0, none⟩) 5 5, [53, 54, 55, 56, 57])] rfl
  rw [e3] at r4
  have HS := sum_any _ _ _ r4 (by
    intro p hp
    simp only [List.mem_cons, List.mem_nil_iff, or_false] at hp
    rcases hp with rfl | rfl
    · exact ⟨(r2.below q3).below q4, by show 4 ≤ _; decide, by show ∀ b ∈ [49, 50, 51, 52], b < 256; decide⟩
    · exact ⟨r3.below q4, by show 5 ≤ _; decide, by show ∀ b ∈ [53, 54, 55, 56, 57], b < 256; decide⟩) (by show 2 ≤ _; decide) (((HT1.out.below q2).below q3).below q4)
  have HB4 := hid13 (keepb q4 (keepb q3 (keepb q2 HB.out)))
  have hsum : uI (crS (([(.slice (some ⟨w1.heap.size, 0, none⟩) 4 4, [49, 50, 51, 52]), (.slice (some ⟨w1.heap.size + 1, 0, none⟩) 5 5, [53, 54, 55, 56, 57])] : List (Value × List Nat)).map (·.2)).flatten) = 3808858755 := by
    show uI (crS [49, 50, 51, 52, 53, 54, 55, 56, 57]) = 3808858755
    rw [known_sum, uI_of 3808858755 (by decide)]
    rfl
  rw [hsum] at HS
  have hm4 := keepc q4 (keepc q3 (keepc q2 hm0))
  have hr4 := keepc q4 (keepc q3 (keepc q2 hr1))
  rw [hw3, hw2] at HS HB4 hm4 hr4
  have HS' := hid13 HS
  have HM4 := hid13 hm4
  have HR4 := hid13 hr4
  clear q2 r2 q3 r3 q4 r4 HS hsum hm0 hr1 e2 e3 hw2 hw3 w2 w3 HB HT1 hm4 hr4
  have kc := fun (w : World) (C : Array Value) (n c : Nat) => Lib.run_convert_bytes_const (P := Tryd.prog) w 24 5 C n c Tryd.underlying24 Tryd.underlying5
  have kc2 := kc (w1.alloc (.cells #[.int .u8 49, .int .u8 50, .int .u8 51, .int .u8 52] 5 (4, 5))) #[.int .u8 53, .int .u8 54, .int .u8 55, .int .u8 56, .int .u8 57] 5 5
  rw [show (w1.alloc (.cells #[.int .u8 49, .int .u8 50, .int .u8 51, .int .u8 52] 5 (4, 5))).heap.size = w1.heap.size + 1 by simp] at kc2
  go_wp2_with fail
  refine HS'.out.mono ?_
  rintro e w5 ⟨rfl, hw5⟩
  rw [← hw5] at HM4 HR4 HB4
  have hm5 := HM4.out
  have hr5 := HR4.out
  clear HS' hw5 HM4 HR4 kc kc2
  go_wp2
  go_ret
  exact ⟨rfl, HB4.out⟩
end Go.Proofs.YtdmogkajpginmaaDoor
/-
  What the law's same32 and sameInts do with two rows that are the same.
-/
namespace Go.Proofs.YtdmogkajpginmaaDoor
open Go.RowKit
set_option linter.unusedSimpArgs false
set_option linter.unusedVariables false

set_option maxRecDepth 100000 in
set_option maxHeartbeats 8000000 in
/-- Two rows that are the same. -/
theorem same32_any (v1 v2 : Value) (l : List (BitVec 32)) (w : World) (h1 : RwX cU w v1 l) (h2 : RwX cU w v2 l) (hl : l.length ≤ 9223372036854775806) :
    Calls Tryd.prog 23 #[v1, v2] w fun e w' => e = .returned (.bool true) ∧ Below w.heap.size w w' := by
  obtain ⟨ao, cc, rfl, -, hv1⟩ := h1
  obtain ⟨ao2, cc2, rfl, -, hv2⟩ := h2
  have HV1 := hid13 hv1
  have HV2 := hid13 hv2
  have HL := hid13 hl
  have HB := hid13 (Below.refl w.heap.size w)
  clear hv1 hv2 hl
  go_enter Tryd.func23, Tryd.ntmps23
  go_wp2_with fail
  go_loopg [5] l.length (fun g i wr => ∃ k : Nat, k + g = l.length ∧ i = .int .i64 (k : Int) ∧ Hid (Below w.heap.size w wr))
  case atStart => exact ⟨0, by omega, rfl, HB⟩
  case round =>
    clear HB
    obtain ⟨k, hk, rfl, HB⟩ := hrel
    by_cases hlt : k < l.length
    · have hli : (k : Int) < (l.length : Int) := by omega
      obtain ⟨bo, off, rfl, hc1⟩ : ∃ bo off, ao = some ⟨bo, off, none⟩ ∧ ∀ j x, l[j]? = some x → w.cell? ⟨bo, off + j, none⟩ = some (cU x) := by
        rcases HV1.out with h | h
        · rw [h] at hlt; simp at hlt
        · exact h
      obtain ⟨bo2, off2, rfl, hc2⟩ : ∃ bo off, ao2 = some ⟨bo, off, none⟩ ∧ ∀ j x, l[j]? = some x → w.cell? ⟨bo, off + j, none⟩ = some (cU x) := by
        rcases HV2.out with h | h
        · rw [h] at hlt; simp at hlt
        · exact h
      obtain ⟨x, hx⟩ : ∃ x, l[k]? = some x := ⟨l[k], by simp [hlt]⟩
      have r1 : wr.cell? ⟨bo, off + k, none⟩ = some (.int .u32 (uI x)) := keepc HB.out (hc1 k x hx)
      have r2 : wr.cell? ⟨bo2, off2 + k, none⟩ = some (.int .u32 (uI x)) := keepc HB.out (hc2 k x hx)
      have mk : IntKind.i64.wrap ((k : Int) + 1) = (k : Int) + 1 := by have := HL.out; rw [IntKind.wrap_i64]; omega
      have HK : Hid (k + gk = l.length ∧ k < l.length) := ⟨hk, hlt⟩
      have HB2 := hid13 HB.out.drew
      clear hc1 hc2 hx hk
      go_wp2_with fail
      go_region
      go_wp2
      go_roundg (gk - 1)
      case measure => have := HK.out; omega
      case rel => exact ⟨k + 1, by have := HK.out; omega, rfl, HB2⟩
    · have hli : ¬ (k : Int) < (l.length : Int) := by omega
      go_wp2_with fail
      go_ret
      exact ⟨rfl, HB.out⟩
set_option maxRecDepth 100000 in
set_option maxHeartbeats 8000000 in
/-- Two rows that are the same. -/
theorem sameInts_any (v1 v2 : Value) (l : List Int) (w : World) (h1 : RwX cI w v1 l) (h2 : RwX cI w v2 l) (hl : l.length ≤ 9223372036854775806) :
    Calls Tryd.prog 16 #[v1, v2] w fun e w' => e = .returned (.bool true) ∧ Below w.heap.size w w' := by
  obtain ⟨ao, cc, rfl, -, hv1⟩ := h1
  obtain ⟨ao2, cc2, rfl, -, hv2⟩ := h2
  have HV1 := hid13 hv1
  have HV2 := hid13 hv2
  have HL := hid13 hl
  have HB := hid13 (Below.refl w.heap.size w)
  clear hv1 hv2 hl
  go_enter Tryd.func16, Tryd.ntmps16
  go_wp2_with fail
  go_loopg [5] l.length (fun g i wr => ∃ k : Nat, k + g = l.length ∧ i = .int .i64 (k : Int) ∧ Hid (Below w.heap.size w wr))
  case atStart => exact ⟨0, by omega, rfl, HB⟩
  case round =>
    clear HB
    obtain ⟨k, hk, rfl, HB⟩ := hrel
    by_cases hlt : k < l.length
    · have hli : (k : Int) < (l.length : Int) := by omega
      obtain ⟨bo, off, rfl, hc1⟩ : ∃ bo off, ao = some ⟨bo, off, none⟩ ∧ ∀ j x, l[j]? = some x → w.cell? ⟨bo, off + j, none⟩ = some (cI x) := by
        rcases HV1.out with h | h
        · rw [h] at hlt; simp at hlt
        · exact h
      obtain ⟨bo2, off2, rfl, hc2⟩ : ∃ bo off, ao2 = some ⟨bo, off, none⟩ ∧ ∀ j x, l[j]? = some x → w.cell? ⟨bo, off + j, none⟩ = some (cI x) := by
        rcases HV2.out with h | h
        · rw [h] at hlt; simp at hlt
        · exact h
      obtain ⟨x, hx⟩ : ∃ x, l[k]? = some x := ⟨l[k], by simp [hlt]⟩
      have r1 : wr.cell? ⟨bo, off + k, none⟩ = some (.int .i64 x) := keepc HB.out (hc1 k x hx)
      have r2 : wr.cell? ⟨bo2, off2 + k, none⟩ = some (.int .i64 x) := keepc HB.out (hc2 k x hx)
      have mk : IntKind.i64.wrap ((k : Int) + 1) = (k : Int) + 1 := by have := HL.out; rw [IntKind.wrap_i64]; omega
      have HK : Hid (k + gk = l.length ∧ k < l.length) := ⟨hk, hlt⟩
      have HB2 := hid13 HB.out.drew
      clear hc1 hc2 hx hk
      go_wp2_with fail
      go_region
      go_wp2
      go_roundg (gk - 1)
      case measure => have := HK.out; omega
      case rel => exact ⟨k + 1, by have := HK.out; omega, rfl, HB2⟩
    · have hli : ¬ (k : Int) < (l.length : Int) := by omega
      go_wp2_with fail
      go_ret
      exact ⟨rfl, HB.out⟩
end Go.Proofs.YtdmogkajpginmaaDoor
/-
  What the library's Grow of no row and Concat of bytes do.
-/
namespace Go.Proofs.YtdmogkajpginmaaDoor
open Go.RowKit
set_option linter.unusedSimpArgs false
set_option linter.unusedVariables false

theorem Tryd.infoB13 : (Tryd.prog.info? 5).map (fun i => (i.zero, i.size, i.bytes)) = some (some (.int .u8 0), 1, 1) := by kernel_rfl
set_option maxRecDepth 100000 in
set_option maxHeartbeats 4000000 in
theorem grow13 (n : Nat) (hn : n ≤ 140737488355328) (w : World) :
    Calls Tryd.prog 41 #[.slice none 0 0, .int .i64 (n : Int)] w fun e w' => ∃ v, e = .returned v ∧ w'.ownsRow w.heap.size 5 1 v 0 [] ∧ Below w.heap.size w w' := by
  obtain ⟨i0, hi, hz0, hz1, hz2⟩ := info13 Tryd.infoB13
  have h0 : ¬ ((n : Int) < 0) := by omega
  by_cases c : n = 0
  · subst c
    go_enter Tryd.func41, Tryd.ntmps41
    go_wp2
    go_ret
    exact ⟨_, rfl, World.ownsRow_nil _ _ _ _, Below.refl _ _⟩
  · have hold : (Builtin.firstCells i0.size 0 (.slice none 0 0)).run Tryd.prog w.drew = .ok ([] : List Value).toArray w.drew := run_firstCells_none w.drew i0.size 0 0 0
    have hpos : 0 < (n : Int) := by omega
    have hrz : ∀ ty, (Builtin.append_ #[24, 3] ty #[.slice none 0 0, .int .i64 (n : Int)]).run Tryd.prog w =
        .ok (.slice (some ⟨w.heap.size, 0, none⟩) (0 + n) (grownCap w (0 + n) 0 5)) (w.drew.alloc (.cells (([] : List Value).toArray ++ Builtin.zeroCells (Value.int .u8 0).cells n ++ Builtin.zeroCells (Value.int .u8 0).cells (grownCap w (0 + n) 0 5 - (0 + n))) 5)) := fun ty =>
      Lib.run_append_grow_zeros w 24 3 ty 5 i0 (.int .u8 0) .i64 .i64 Tryd.underlying24 Tryd.underlying3 hi hz0 none 0 0 [] hold n (by omega) (by omega) (by omega) (by omega) (by rw [hz2]; omega)
        (growslice_fits (by omega) (by rw [hz2]; omega))
    obtain ⟨G, hG⟩ : ∃ G, G = grownCap w (0 + n) 0 5 := ⟨_, rfl⟩
    have hGn : 0 + n ≤ G := by rw [hG]; exact grownCap_ge w _ _ _
    have hG63 : G ≤ maxLen := by rw [hG]; exact grownCap_le_maxLen w (0 + n) 0 5 (by unfold maxLen; omega)
    rw [← hG] at hrz
    rw [Nat.zero_add] at hrz hGn
    have HO : Hid ((w.drew.alloc (.cells (([] : List Value).toArray ++ Builtin.zeroCells (Value.int .u8 0).cells n ++ Builtin.zeroCells (Value.int .u8 0).cells (G - n)) 5)).ownsRow w.heap.size 5 1 (.slice (some ⟨w.heap.size, 0, none⟩) 0 G) 0 []) := by
      refine World.ownsRow_made w.drew _ G (Nat.le_refl _) hG63 ?_
      simp only [Array.size_append, size_zeroCells, Value.cells]
      simp; omega
    have HB : Hid (Below w.heap.size w (w.drew.alloc (.cells (([] : List Value).toArray ++ Builtin.zeroCells (Value.int .u8 0).cells n ++ Builtin.zeroCells (Value.int .u8 0).cells (G - n)) 5))) := (Below.refl _ _).drew.alloc (Nat.le_refl _) _
    generalize (w.drew.alloc (.cells (([] : List Value).toArray ++ Builtin.zeroCells (Value.int .u8 0).cells n ++ Builtin.zeroCells (Value.int .u8 0).cells (G - n)) 5)) = W at hrz HO HB
    have hG2 : ((G : Nat) : Int) ≤ 9223372036854775807 := by unfold maxLen at hG63; omega
    clear hG hold
    go_enter Tryd.func41, Tryd.ntmps41
    go_wp2_with (at_builtin; refine Lib.wpList_append_run _ rfl _ _ _ _ rfl _ _ rfl rfl _ _ (hrz _) ?_)
    go_ret
    exact ⟨_, rfl, HO.out, HB.out⟩
theorem cB_one (l : List Nat) : ∀ y ∈ l.map cB, y.oneCell' = true := by
  intro y hy
  obtain ⟨x, -, rfl⟩ := List.mem_map.1 hy
  rfl
/-- The bytes of all parts. -/
def allB (P : List (Value × List Nat)) : List Nat := (P.map (·.2)).flatten
theorem allB_take {P : List (Value × List Nat)} {k : Nat} (hk : k < P.length) : allB (P.take (k + 1)) = allB (P.take k) ++ P[k].2 := by
  unfold allB
  rw [List.take_succ_eq_append_getElem hk]
  simp only [List.map_append, List.map_cons, List.map_nil, List.flatten_append, List.flatten_cons, List.flatten_nil, List.append_nil]
theorem allB_le {P : List (Value × List Nat)} (k : Nat) : (allB (P.take k)).length ≤ (allB P).length := by
  have e : allB P = allB (P.take k) ++ allB (P.drop k) := by
    unfold allB
    rw [← List.flatten_append, ← List.map_append, List.take_append_drop]
  rw [e, List.length_append]; omega
set_option maxRecDepth 100000 in
set_option maxHeartbeats 8000000 in
theorem concat13 (v : Value) (P : List (Value × List Nat)) (w : World) (hv : RwX (fun p : Value × List Nat => p.1) w v P) (hP : ∀ p ∈ P, RowA w 1 p.1 p.2.length (p.2.map cB)) (hl : P.length ≤ 1000) (hn : (allB P).length ≤ 140737488355328) :
    Calls Tryd.prog 37 #[v] w fun e w' => ∃ v', e = .returned v' ∧ w'.ownsRow w.heap.size 5 1 v' (allB P).length ((allB P).map cB) ∧ Below w.heap.size w w' := by
  obtain ⟨i0, hi, hz0, hz1, hz2⟩ := info13 Tryd.infoB13
  obtain ⟨ao, cc, rfl, hc, hv⟩ := hv
  have HV := hid13 hv
  have HP := hid13 hP
  have HL := hid13 hl
  have HN := hid13 hn
  clear hv hP hc hl hn
  go_enter Tryd.func37, Tryd.ntmps37
  go_wp2_with fail
  go_loopg [3, 5, 11] P.length (fun g a b i wr => wr = w ∧ ∃ (k m : Nat), k + g = P.length ∧ a = .int .i64 (m : Int) ∧ i = .int .i64 (k : Int) ∧ Hid (m = (allB (P.take k)).length))
  case atStart => exact ⟨rfl, 0, 0, by omega, rfl, rfl, rfl⟩
  case round =>
    obtain ⟨hw, k, m, hk, rfl, rfl, HM⟩ := hrel
    replace hw := hw.symm
    subst hw
    by_cases hlt : k < P.length
    · have hli : (k : Int) < (P.length : Int) := by omega
      obtain ⟨bo, off, rfl, hcell⟩ : ∃ bo off, ao = some ⟨bo, off, none⟩ ∧ ∀ j x, P[j]? = some x → w.cell? ⟨bo, off + j, none⟩ = some x.1 := by
        rcases HV.out with h | h
        · rw [h] at hlt; simp at hlt
        · exact h
      obtain ⟨q, hq⟩ : ∃ q, q = P[k] := ⟨_, rfl⟩
      have hrd : w.cell? ⟨bo, off + k, none⟩ = some q.1 := hcell k q (by rw [hq]; simp [hlt])
      obtain ⟨-, xo, xc, hform, -⟩ := HP.out q (by rw [hq]; exact List.getElem_mem hlt)
      have hat := allB_take hlt
      have hle := allB_le (P := P) (k + 1)
      rw [hat, List.length_append, ← hq, ← HM.out] at hle
      have HE : Hid (m + q.2.length = (allB (P.take (k + 1))).length) := by show _ = _; rw [hat, List.length_append, ← hq, ← HM.out]
      have hsum : ((m : Int) + (q.2.length : Int)) ≤ 140737488355328 := by have := HN.out; omega
      have mk : IntKind.i64.wrap ((k : Int) + 1) = (k : Int) + 1 := by have := HL.out; rw [IntKind.wrap_i64]; omega
      have mm : IntKind.i64.wrap ((m : Int) + (q.2.length : Int)) = (m : Int) + (q.2.length : Int) := by rw [IntKind.wrap_i64]; omega
      have hnn : ¬ ((m : Int) + (q.2.length : Int) < 0) := by omega
      have HK : Hid (k + gk = P.length ∧ k < P.length) := ⟨hk, hlt⟩
      rw [hform] at hrd
      clear hq hcell hat hle hk HM hform
      go_wp2_with fail
      go_roundg (gk - 1)
      case measure => have := HK.out; omega
      case rel => exact ⟨rfl, k + 1, m + q.2.length, by have := HK.out; omega, rfl, rfl, HE⟩
    · have hli : ¬ (k : Int) < (P.length : Int) := by omega
      have hmn : m ≤ 140737488355328 := by
        have h1 := allB_le (P := P) k
        rw [← HM.out] at h1
        have := HN.out; omega
      clear HM
      go_wp2_with (go_at_call 41; refine (grow13 m hmn _).mono ?_; rintro e w1 ⟨vn, rfl, hown, hb1⟩; have HO := hid13 hown; have HB := hid13 hb1; clear hown hb1)
      go_loopg [6, 8, 27] P.length (fun g a b i wr => ∃ (k : Nat) (va : Value), va = a ∧ k + g = P.length ∧ i = .int .i64 (k : Int) ∧ Hid (wr.ownsRow w.heap.size 5 1 va (allB (P.take k)).length ((allB (P.take k)).map cB) ∧ Below w.heap.size w wr))
      case atStart => exact ⟨0, _, rfl, by omega, rfl, HO.out, HB.out⟩
      case round =>
        clear HO HB
        obtain ⟨k, va, rfl, hk, rfl, HS⟩ := hrel
        by_cases hlt : k < P.length
        · have hli : (k : Int) < (P.length : Int) := by omega
          obtain ⟨bo, off, rfl, hcell⟩ : ∃ bo off, ao = some ⟨bo, off, none⟩ ∧ ∀ j x, P[j]? = some x → w.cell? ⟨bo, off + j, none⟩ = some x.1 := by
            rcases HV.out with h | h
            · rw [h] at hlt; simp at hlt
            · exact h
          obtain ⟨q, hq⟩ : ∃ q, q = P[k] := ⟨_, rfl⟩
          have hrd : wr.cell? ⟨bo, off + k, none⟩ = some q.1 := keepc HS.out.2 (hcell k q (by rw [hq]; simp [hlt]))
          have HA := hid13 ((HP.out q (by rw [hq]; exact List.getElem_mem hlt)).below HS.out.2)
          have hat := allB_take hlt
          have hle := allB_le (P := P) (k + 1)
          rw [hat, List.length_append, ← hq] at hle
          obtain ⟨Z, hZ⟩ : ∃ Z, Z = allB (P.take k) := ⟨_, rfl⟩
          rw [← hZ] at HS hle hat
          rw [← hq] at hat
          have HE := hid13 hat
          have h63 : Z.length + q.2.length ≤ maxLen := by have := HN.out; unfold maxLen; omega
          have h47 : (Z.length + q.2.length) * 1 ≤ 140737488355328 := by have := HN.out; omega
          have mk : IntKind.i64.wrap ((k : Int) + 1) = (k : Int) + 1 := by have := HL.out; rw [IntKind.wrap_i64]; omega
          have HK : Hid (k + gk = P.length ∧ k < P.length) := ⟨hk, hlt⟩
          clear hq hcell hat hle hk hZ
          obtain ⟨qv, ql⟩ := q
          go_wp2_with (at_builtin; apply stopHere9)
          refine (show wpList _ _ _ _ _ _ from ?_)
          refine wpList_append_rowA rfl _ _ 24 rfl w.heap.size 5 i0 (.int .u8 0) 1 1 Tryd.underlying24 hi hz0 hz1 hz2 rfl (by decide) _ _ _ rfl HS.out.1 qv ql.length (ql.map cB) rfl HA.out (cB_one ql) h63 h47 HS.out.2.size ?_
          intro ao3 cap3 w3 hown3 hgrow
          have HS3 : Hid (w3.ownsRow w.heap.size 5 1 (.slice ao3 (Z.length + ql.length) cap3) (allB (P.take (k + 1))).length ((allB (P.take (k + 1))).map cB) ∧ Below w.heap.size w w3) := by
            rw [HE.out]
            refine ⟨?_, HS.out.2.grown hgrow HS.out.2.size (fun z e => (HS.out.1.lt z e).1)⟩
            rw [List.map_append, List.length_append]; exact hown3
          clear hown3 hgrow HS HA h63 h47 hrd
          go_wp2
          go_roundg (gk - 1)
          case measure => have := HK.out; omega
          case rel => exact ⟨k + 1, _, rfl, by have := HK.out; omega, rfl, HS3⟩
        · have hli : ¬ (k : Int) < (P.length : Int) := by omega
          have HS3 : Hid (wr.ownsRow w.heap.size 5 1 va (allB P).length ((allB P).map cB) ∧ Below w.heap.size w wr) := by
            have := HS.out
            rw [List.take_of_length_le (by omega)] at this
            exact this
          go_wp2_with fail
          go_ret
          exact ⟨_, rfl, HS3.out.1, HS3.out.2⟩
end Go.Proofs.YtdmogkajpginmaaDoor
