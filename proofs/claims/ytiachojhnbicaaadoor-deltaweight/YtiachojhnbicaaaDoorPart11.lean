/-
  Part 11 of the proof: 2 texts, one behind the other.
-/
import Derived.Test.YtiachojhnbicaaaDoorPart5
import Derived.Deep.RegionHeld3
import Derived.Deep.AppendLies
import Derived.Laws.AppendOwnNone
import Derived.Test.YtiachojhnbicaaaDoorPart9
namespace Go.Proofs.YtiachojhnbicaaaDoor
open Go.RowKit
set_option linter.unusedSimpArgs false
set_option linter.unusedVariables false
attribute [local go_sem] Oper.semAt_some

def Dt21 (W : World) (v : Value) (l : List Nat) : Prop := RwX cB W v l ∧ RowA W 1 v l.length (l.map cB)
theorem Dt21.below {w w' : World} {v : Value} {l : List Nat} (h : Dt21 w v l) (hb : Below w.heap.size w w') : Dt21 w' v l := ⟨h.1.below hb, h.2.below hb⟩
theorem own_dt21 {W : World} {base : Nat} {v : Value} {l : List Nat} (h : W.ownsRow base 5 1 v l.length (l.map cB)) : Dt21 W v l := ⟨own_rwx h, own_rowA h⟩
theorem dt_blk21 {w W : World} {v : Value} {l : List Nat} (h : Dt21 w v l) (hk : ∀ z, v.ownBlock = some z → z < w.heap.size → W.heap[z]? = w.heap[z]?) : Dt21 W v l := by
  obtain ⟨⟨ao, c, e, hc, h⟩, ⟨hl, ao', c', e', hc', h'⟩⟩ := h
  refine ⟨⟨ao, c, e, hc, h.imp id ?_⟩, ⟨hl, ao', c', e', hc', h'.imp id ?_⟩⟩
  · rintro ⟨b, off, e2, h⟩
    refine ⟨b, off, e2, fun j r hj => ?_⟩
    have c0 := h j r hj
    exact (World.cell?_of_block (a := ⟨b, off + j, none⟩) (hk b (by rw [e, e2]; rfl) (cell_in c0))).trans c0
  · rintro ⟨⟨ab, af, asb⟩, e2, h⟩
    refine ⟨⟨ab, af, asb⟩, e2, fun j u hj => ?_⟩
    obtain ⟨a, ha⟩ : ∃ a : Addr, a = ⟨ab, af, asb⟩ := ⟨_, rfl⟩
    have hbk : (Value.slice (some a) l.length c').ownBlock = some a.block := by rw [ha]; rfl
    rw [← ha] at e2 h ⊢
    clear ha
    have c0 := h j u hj
    have sp := spot9 c0
    have hb : W.heap[(a.add j).block]? = w.heap[(a.add j).block]? := by
      refine hk (a.add j).block (by rw [e', e2, hbk]; congr 1; unfold Addr.add; split <;> rfl) ?_
      rw [sp] at c0
      exact cell_in c0
    exact (World.cell?_of_block (a := a.add j) hb).trans c0
def rowP21 : List Pt → List Value → List Value
  | d :: L, v :: V => .int .i64 d.k :: .int .i64 d.d :: v :: rowP21 L V
  | _, _ => []
theorem rowP21_app : ∀ (L : List Pt) (V : List Value) (d : Pt) (v : Value), L.length = V.length → rowP21 (L ++ [d]) (V ++ [v]) = rowP21 L V ++ [.int .i64 d.k, .int .i64 d.d, v]
  | [], [], d, v, _ => rfl
  | x :: L, y :: V, d, v, h => by
    show _ :: _ :: _ :: rowP21 (L ++ [d]) (V ++ [v]) = _
    rw [rowP21_app L V d v (by simpa using h)]; rfl
  | [], y :: V, d, v, h => by simp at h
  | x :: L, [], d, v, h => by simp at h
theorem rowP21_get : ∀ (L : List Pt) (V : List Value) (j : Nat) (d : Pt) (v : Value), L[j]? = some d → V[j]? = some v → (rowP21 L V)[j * 3]? = some (.int .i64 d.k) ∧ (rowP21 L V)[j * 3 + 1]? = some (.int .i64 d.d) ∧ (rowP21 L V)[j * 3 + 2]? = some v
  | [], V, j, d, v, h, _ => by simp at h
  | x :: L, [], j, d, v, _, h => by simp at h
  | x :: L, y :: V, 0, d, v, h1, h2 => by
    simp at h1 h2
    subst h1 h2
    exact ⟨rfl, rfl, rfl⟩
  | x :: L, y :: V, j + 1, d, v, h1, h2 => by
    have ih := rowP21_get L V j d v (by simpa using h1) (by simpa using h2)
    have e0 : (j + 1) * 3 = j * 3 + 3 := by omega
    rw [e0]
    exact ih
theorem ptr_of21 {W : World} {base : Nat} {v : Value} {L : List Pt} {V : List Value} (h : W.ownsRow base 34 3 v L.length (rowP21 L V)) (hl : V.length = L.length) (hr : ∀ (j : Nat) (d : Pt) (vr : Value), L[j]? = some d → V[j]? = some vr → Dt21 W vr d.x) : PtR21 W v L := by
  by_cases hL : L = []
  · subst hL
    obtain ⟨ao, c, hv⟩ := own_form h
    exact ⟨ao, c, hv, Nat.zero_le _, .inl rfl⟩
  · have hp := List.length_pos_iff.mpr hL
    obtain ⟨g, c, hv, hc⟩ : ∃ g c, v = .slice (some ⟨g, 0, none⟩) L.length c ∧ L.length ≤ c := by
      rcases h.2 with ⟨-, h0⟩ | ⟨g, c, cur, e, -, -, h3, -⟩
      · omega
      · exact ⟨g, c, e, h3⟩
    subst hv
    refine ⟨_, c, rfl, hc, .inr ⟨g, 0, rfl, fun j d hj => ?_⟩⟩
    have hjl := (List.getElem?_eq_some_iff.mp hj).1
    have hvj : V[j]? = some V[j] := List.getElem?_eq_getElem (by omega)
    obtain ⟨c0, c1, c2⟩ := rowP21_get L V j d _ hj hvj
    rw [Nat.zero_add]
    have hq := hr j d _ hj hvj
    exact ⟨V[j], (h.cellAt _ (by omega)).trans c0, (h.cellAt _ (by omega)).trans c1, (h.cellAt _ (by omega)).trans c2, hq.1, hq.2⟩
theorem Tryd.infoP21 : (Tryd.prog.info? 34).map (fun i => (i.zero, i.size, i.bytes)) = some (some (.agg #[.int .i64 0, .int .i64 0, .slice none 0 0]), 3, 40) := by kernel_rfl
theorem news_three21 (w : World) (x y z : Value) (T : TypeId) : ∀ j u, [x, y, z][j]? = some u → (w.alloc (.cells #[x, y, z] T)).cell? ((⟨w.heap.size, 0, none⟩ : Addr).add j) = some u := by
  intro j u h
  match j, h with
  | 0, h => simp at h; subst h; simp [go_sem, Addr.add]
  | 1, h => simp at h; subst h; simp [go_sem, Addr.add]
  | 2, h => simp at h; subst h; simp [go_sem, Addr.add]
  | j + 3, h => simp at h
theorem three_one21 (a b : Int) (ao : Option Addr) (n c : Nat) : ∀ u ∈ [Value.int .i64 a, .int .i64 b, .slice ao n c], u.oneCell' = true := by
  intro u hu
  simp at hu
  rcases hu with h | h | h <;> subst h <;> rfl
def fewB21 (L : List Pt) : Bool := decide (L.length < 500) && decide (wt21 (L.take 500) < 32768)
set_option maxRecDepth 100000 in
set_option maxHeartbeats 4000000 in
theorem few21 (v : Value) (L : List Pt) (w : World) (hv : PtR21 w v L) (hl : L.length ≤ 140737488355328) (hr : ∀ d ∈ L, d.x.length ≤ 140737488355328) :
    Calls Tryd.prog 8 #[v] w fun e w' => e = .returned (.bool (fewB21 L)) ∧ Below w.heap.size w w' := by
  obtain ⟨ao, c, hvf, -⟩ := id hv
  subst hvf
  have HT := hid13 hv
  have HB : Hid (Below w.heap.size w w) := Below.refl _ _
  have HL : Hid (L.length ≤ 140737488355328 ∧ ∀ d ∈ L, d.x.length ≤ 140737488355328) := ⟨hl, hr⟩
  clear hv hl hr
  go_enter Tryd.func8, Tryd.ntmps8
  go_wp2
  go_loopg [3, 4] L.length (fun g s x wr => ∃ (k : Nat) (S : Nat), k + g = L.length ∧ s = .int .i64 (S : Int) ∧ x = .int .i64 (k : Int) ∧ k ≤ 500 ∧ Hid (S = wt21 (L.take k) ∧ S ≤ k * 140737488355328) ∧ Hid (PtR21 wr (.slice ao L.length c) L ∧ Below w.heap.size w wr))
  case atStart => exact ⟨0, 0, by omega, rfl, rfl, by omega, ⟨by simp [wt21], by omega⟩, ⟨HT.out, HB.out⟩⟩
  case round =>
    clear HT HB
    obtain ⟨k, S, hk, rfl, rfl, h5, HS, HW⟩ := hrel
    have HLn : Hid ((L.length < 500) → ¬ k < L.length → wt21 (L.take 500) = S) := by
      intro q1 q2
      rw [HS.out.1, List.take_of_length_le (by omega), List.take_of_length_le (by omega)]
    by_cases hlt : k < L.length
    · by_cases h50 : k < 500
      · have l1 : (k : Int) < (L.length : Int) := by omega
        have l2 : (k : Int) < 500 := by omega
        obtain ⟨p, hp⟩ : ∃ p, L[k]? = some p := ⟨L[k], by simp [hlt]⟩
        obtain ⟨b1, f1, xo, xc, hao, r0, r1, r2, -, -⟩ := ptr_at HW.out.1 hp
        subst hao
        have hpl := HL.out.2 p (List.mem_of_getElem? hp)
        have wk : IntKind.i64.wrap ((k : Int) + 1) = (k : Int) + 1 := by rw [IntKind.wrap_i64]; have := HL.out; omega
        have ws : IntKind.i64.wrap ((S : Int) + (p.x.length : Int)) = ((S + p.x.length : Nat) : Int) := by rw [IntKind.wrap_i64]; have := HS.out; omega
        have HX : Hid (k < L.length ∧ k + gk = L.length ∧ S + p.x.length = wt21 (L.take (k + 1)) ∧ S + p.x.length ≤ (k + 1) * 140737488355328 ∧ k < 500) := ⟨hlt, hk, by rw [wt21_take hp, HS.out.1], by have := HS.out; omega, h50⟩
        obtain ⟨S2, hS2⟩ : ∃ S2 : Nat, S2 = S + p.x.length := ⟨_, rfl⟩
        rw [← hS2] at ws HX
        clear hp hlt hk hpl h5 h50 hS2 r0 r1 HS
        go_wp2
        go_roundg (gk - 1)
        case measure => have := HX.out; omega
        case rel => exact ⟨k + 1, S2, by have := HX.out; omega, rfl, rfl, by have := HX.out; omega, ⟨HX.out.2.2.1, HX.out.2.2.2.1⟩, HW⟩
      · have l1 : (k : Int) < (L.length : Int) := by omega
        have l2 : ¬ (k : Int) < 500 := by omega
        have l3 : decide ((L.length : Int) < 500) = false := decide_eq_false (by omega)
        have HE : Hid (fewB21 L = false) := by show _ = _; unfold fewB21; rw [decide_eq_false (by omega : ¬ L.length < 500)]; rfl
        clear hlt hk h5 h50
        go_wp2
        go_ret
        exact ⟨by rw [HE.out]; rfl, HW.out.2⟩
    · have l1 : ¬ (k : Int) < (L.length : Int) := by omega
      by_cases h5' : L.length < 500
      · have l3 : decide ((L.length : Int) < 500) = true := decide_eq_true (by omega)
        have HE : Hid (fewB21 L = decide ((S : Int) < 32768)) := by
          show _ = _
          unfold fewB21
          rw [decide_eq_true h5', HLn.out h5' hlt, Bool.true_and]
          exact decide_eq_decide.2 (by omega)
        clear hlt hk h5 h5' HLn
        go_wp2
        go_ret
        exact ⟨by rw [HE.out]; rfl, HW.out.2⟩
      · have l3 : decide ((L.length : Int) < 500) = false := decide_eq_false (by omega)
        have HE : Hid (fewB21 L = false) := by show _ = _; unfold fewB21; rw [decide_eq_false h5']; rfl
        clear hlt hk h5 h5' HLn
        go_wp2
        go_ret
        exact ⟨by rw [HE.out]; rfl, HW.out.2⟩
end Go.Proofs.YtiachojhnbicaaaDoor
namespace Go.Proofs.YtiachojhnbicaaaDoor
open Go.RowKit Go.Shelf
set_option linter.unusedSimpArgs false
set_option linter.unusedVariables false
attribute [local go_sem] Oper.semAt_some

def DtN21 (N : Nat) (w : World) (vb vr : Value) (l : List Nat) : Prop := ∀ W : World, (∀ z, N ≤ z → z < w.heap.size → vb.ownBlock ≠ some z → W.heap[z]? = w.heap[z]?) → Dt21 W vr l
def PtN21 (N : Nat) (w : World) (v : Value) (L : List Pt) : Prop := ∀ W : World, (∀ z, N ≤ z → z < w.heap.size → W.heap[z]? = w.heap[z]?) → PtR21 W v L
theorem tw_stepN21 {N : Nat} {wr w1 w4 : World} {L : List Pt} {V : List Value} {k g m c1 : Nat} {vb vr : Value} {d : Pt} {x : Obj} (hV : ∀ (j : Nat) (d : Pt) (u : Value), L[j]? = some d → V[j]? = some u → DtN21 N wr vb u d.x)
    (hvb : ∀ z, vb.ownBlock = some z → z < wr.heap.size) (hsz : wr.heap.size ≤ w1.heap.size) (hNw : N ≤ wr.heap.size) (hb1 : ∀ z, N ≤ z → z < wr.heap.size → w1.heap[z]? = wr.heap[z]?) (hr : Dt21 w1 vr d.x) (hrz : ∀ z, vr.ownBlock = some z → wr.heap.size ≤ z)
    (hg : (w1.alloc x).grownBy w4 vb.ownBlock) (hat : vb.ownBlock = some g ∨ g = (w1.alloc x).heap.size) (hVl : V.length = k) (hL : L.length = k) :
    ∀ (j : Nat) (d' : Pt) (u : Value), (L ++ [d])[j]? = some d' → (V ++ [vr])[j]? = some u → DtN21 N w4 (.slice (some ⟨g, 0, none⟩) m c1) u d'.x := by
  have hs : (w1.alloc x).heap.size = w1.heap.size + 1 := by simp
  have s4 := hg.size
  have old : ∀ z, z < w1.heap.size → vb.ownBlock ≠ some z → w4.heap[z]? = w1.heap[z]? := fun z hz hn => (hg.block z (by omega) (fun e => hn e.symm)).trans (Below.heap_alloc w1 x z hz)
  intro j d' u h1 h2 W hW
  have hW' : ∀ z, N ≤ z → z < w1.heap.size → vb.ownBlock ≠ some z → W.heap[z]? = w1.heap[z]? := fun z hNz hz hn => by
    refine (hW z hNz (by omega) ?_).trans (old z hz hn)
    intro e
    simp only [Value.ownBlock, Option.some.injEq] at e
    subst e
    rcases hat with h | h
    · exact hn h
    · omega
  by_cases hj : j < V.length
  · rw [List.getElem?_append_left hj] at h2
    rw [List.getElem?_append_left (by omega)] at h1
    refine hV j d' u h1 h2 W (fun z hNz hz hn => ?_)
    exact (hW' z hNz (by omega) hn).trans (hb1 z hNz hz)
  · have hjl := (List.getElem?_eq_some_iff.mp h2).1
    have : j = k := by simp at hjl; omega
    subst this
    rw [List.getElem?_append_right (by omega), hL] at h1
    simp at h1
    subst h1
    rw [List.getElem?_append_right (by omega), hVl] at h2
    simp at h2
    subst h2
    refine dt_blk21 hr (fun z hz hlt => hW' z (by have := hrz z hz; omega) hlt (fun e => ?_))
    have := hvb z e
    have := hrz z hz
    omega
def TmQ21 (w0 : World) (B : Nat) (va vp : Value) (n : Nat) (l : List Nat) (w : World) (e : Ending) (w' : World) : Prop := (∃ L r v' vl', lsP n l = some (L, r) ∧ e = .returned v' ∧ PtN21 w.heap.size w' v' L ∧ RS21 w0 B va vl' r vp w' ∧ KR21 B w w') ∨ (lsP n l = none ∧ e = .panicked (pan21 22) ∧ KR21 B w w')
set_option maxRecDepth 100000 in
set_option maxHeartbeats 16000000 in
theorem times21 (w0 : World) (B : Nat) (va vl : Value) (l : List Nat) (vp : Value) (n : Nat) (w : World) (h : RS21 w0 B va vl l vp w) (hn : n < 4294967296) :
    Calls Tryd.prog 47 #[.int .u32 (n : Int), .func (.func 48) #[.pointer (some ⟨B, 0, none⟩)] #[]] w fun e w' => TmQ21 w0 B va vp n l w e w' := by
  obtain ⟨j0, ji, jz0, jz1, jz2⟩ := info13 Tryd.infoP21
  have HS := hid13 h
  have HN := hid13 hn
  have HO0 : Hid (w.ownsRow w.heap.size 34 3 (.slice none 0 0) 0 []) := World.ownsRow_nil _ _ _ _
  clear h hn
  go_enter Tryd.func47, Tryd.ntmps47
  go_wp2_with fail
  go_loopg [5, 7] n (fun g vb kv wr => ∃ (k : Nat) (V : List Value) (L : List Pt) (vl' : Value) (r : List Nat) (bo : Option Addr) (bc : Nat), k + g = n ∧ kv = .int .u32 (k : Int) ∧ vb = .slice bo k bc ∧ Hid (wr.ownsRow w.heap.size 34 3 (.slice bo k bc) k (rowP21 L V)) ∧ Hid (V.length = k ∧ L.length = k) ∧ Hid (∀ (j : Nat) (d : Pt) (u : Value), L[j]? = some d → V[j]? = some u → DtN21 w.heap.size wr (.slice bo k bc) u d.x) ∧ Hid (RS21 w0 B va vl' r vp wr ∧ KR21 B w wr) ∧ Hid (lsP n l = (lsP g r).map fun q => (L ++ q.1, q.2)))
  case atStart => exact ⟨0, [], [], vl, l, none, 0, by omega, rfl, rfl, HO0, ⟨rfl, rfl⟩, (fun j d u _ h => by simp at h), ⟨HS.out, KR21.refl _ _⟩, by show _ = _; cases lsP n l <;> simp⟩
  case round =>
    clear HO0
    obtain ⟨k, V, L, vl', r, bo, bc, hk, rfl, rfl, HO, HVl, HVr, HR, HE⟩ := hrel
    by_cases hlt : k < n
    rotate_left 1
    · have hg0 : gk = 0 := by omega
      have l1 : ¬ (k : Int) < (n : Int) := by omega
      have HEq : Hid (lsP n l = some (L, r)) := by
        show _ = _
        rw [HE.out, hg0]
        simp [lsP]
      have HPt : Hid (PtN21 w.heap.size wr (.slice bo k bc) L) := by
        intro W hW
        have ho : W.ownsRow w.heap.size 34 3 (.slice bo k bc) L.length (rowP21 L V) := by
          rw [HVl.out.2]
          refine own_keep18 HO.out (fun g hg => hW g (HO.out.lt g hg).1 (HO.out.lt g hg).2)
        exact ptr_of21 ho (by rw [HVl.out.1, HVl.out.2]) (fun j d u h1 h2 => HVr.out j d u h1 h2 W (fun z hz hlt _ => hW z hz hlt))
      clear hlt hk hg0 HO HVl HVr HE
      go_wp2
      go_ret
      exact .inl ⟨_, _, _, _, HEq.out, rfl, HPt.out, HR.out⟩
    have l1 : (k : Int) < (n : Int) := by omega
    obtain ⟨g1, hg1⟩ : ∃ g1, gk = g1 + 1 := ⟨gk - 1, by omega⟩
    have wk : IntKind.u32.wrap ((k : Int) + 1) = ((k + 1 : Nat) : Int) := by rw [IntKind.wrap_u32]; have := HN.out; omega
    cases hpc : pcP r with
    | none =>
      have HEq : Hid (lsP n l = none) := by
        show _ = _
        rw [HE.out, hg1]
        simp [lsP, hpc]
      have K1 := patchN21 w0 B va vl' r vp wr HR.out.1 hpc
      clear hlt hk hpc hg1 HO HVl HVr HE wk
      go_wp2_with fail
      refine K1.mono ?_
      rintro e w1 ⟨rfl, hk1⟩
      exact ⟨rfl, .inr ⟨HEq.out, rfl, HR.out.2.trans hk1⟩⟩
    | some q =>
      obtain ⟨p, r2⟩ := q
      have HEq : Hid (lsP n l = (lsP g1 r2).map fun q => ((L ++ [p]) ++ q.1, q.2)) := by
        show _ = _
        rw [HE.out, hg1]
        cases hq : lsP g1 r2 with
        | none => simp [lsP, hpc, hq]
        | some q => simp [lsP, hpc, hq]
      have K1 := patchY21 w0 B va vl' r vp p r2 wr HR.out.1 hpc
      have HK : Hid (k < n ∧ k + gk = n ∧ gk = g1 + 1) := ⟨hlt, hk, hg1⟩
      have h63 : k + 1 ≤ maxLen := by unfold maxLen; have := HN.out; omega
      have h47 : (k + 1) * 40 ≤ 140737488355328 := by have := HN.out; omega
      clear hlt hk hpc hg1 HE
      go_wp2_with fail
      refine K1.mono ?_
      rintro e w1 ⟨vx, vl2, rfl, ho1, hs1, hk1⟩
      have hBl : B < w.heap.size := HS.out.lt
      have hwz : w.heap.size ≤ wr.heap.size := HR.out.2.ot.1
      have H1 : Hid (RS21 w0 B va vl2 r2 vp w1 ∧ KR21 B w w1 ∧ wr.heap.size ≤ w1.heap.size ∧ w.heap.size ≤ wr.heap.size ∧ B < w.heap.size ∧ (∀ z, w.heap.size ≤ z → z < wr.heap.size → w1.heap[z]? = wr.heap[z]?)) := ⟨hs1, HR.out.2.trans hk1, hk1.ot.1, hwz, hBl, fun z h1 h2 => hk1.ot.2 z h2 (by omega)⟩
      have hown1 : w1.ownsRow w.heap.size 34 3 (.slice bo k bc) k (rowP21 L V) := own_keep18 HO.out (fun g hg => hk1.ot.2 g (HO.out.lt g hg).2 (by have := (HO.out.lt g hg).1; omega))
      have HOx := hid13 ho1
      have HO1 := hid13 hown1
      obtain ⟨xo, xc, hvx⟩ := own_form ho1
      subst hvx
      have hbase : w.heap.size ≤ (w1.alloc (.cells #[.int .i64 p.k, .int .i64 p.d, .slice xo p.x.length xc] 34)).heap.size := by have := hk1.ot.1; simp; omega
      clear K1 ho1 hs1 hk1 hown1 hBl hwz
      go_wp2_with (at_builtin; apply stopHere9)
      refine (show wpList _ _ _ _ _ _ from ?_)
      refine wpList_append_lies _ rfl _ _ 23 rfl w.heap.size 34 j0 (.agg #[.int .i64 0, .int .i64 0, .slice none 0 0]) 3 40 Tryd.underlying23 ji jz0 jz1 jz2 rfl (by decide) _ _ _ rfl (HO1.out.alloc _) ⟨w1.heap.size, 0, none⟩ 1 1 [_, _, _] rfl rfl (news_three21 _ _ _ _ _) (three_one21 _ _ _ _ _) (by decide) h63 h47 hbase _ rfl ?_
      intro g cap w4 hown4 hgrow hat hlt4
      have HB4 : Hid (RS21 w0 B va vl2 r2 vp w4 ∧ KR21 B w w4) := by
        have hb : Below w1.heap.size w1 (w1.alloc (.cells #[.int .i64 p.k, .int .i64 p.d, .slice xo p.x.length xc] 34)) := bl1 _ _
        have hsz : (w1.alloc (.cells #[.int .i64 p.k, .int .i64 p.d, .slice xo p.x.length xc] 34)).heap.size = w1.heap.size + 1 := by simp
        have hr1 := H1.out.1.below hb
        have hk1 := H1.out.2.1.below H1.out.2.2.2.2.1 hb
        have hob : ∀ z, (Value.slice bo k bc).ownBlock = some z → w.heap.size ≤ z := fun z hz => (HO1.out.lt z hz).1
        have hw0 : w0.heap.size ≤ w.heap.size := HS.out.b.size
        refine ⟨⟨hr1.b.grown hgrow (by omega) (fun z hz => by have := hob z hz; omega), hr1.s, ?_, hr1.r, hr1.a, hr1.x, hr1.n⟩, ⟨hk1.lo.grown hgrow (by have := H1.out.2.2.2.2.1; omega) (fun z hz => by have := hob z hz; have := H1.out.2.2.2.2.1; omega), ?_⟩⟩
        · refine (hgrow.block B (by have := H1.out.2.2.2.2.1; omega) (fun e => ?_)).trans hr1.c
          have := hob B e.symm
          have := H1.out.2.2.2.2.1
          omega
        · refine ⟨Nat.le_trans hk1.ot.1 hgrow.size, fun z h1 h2 => (hgrow.block z (by have := hk1.ot.1; omega) (fun e => ?_)).trans (hk1.ot.2 z h1 h2)⟩
          have := hob z e.symm
          omega
      have HV4 := hid13 (tw_stepN21 (m := k + 1) (c1 := cap) HVr.out (fun z hz => (HO.out.lt z hz).2) H1.out.2.2.1 H1.out.2.2.2.1 H1.out.2.2.2.2.2 (own_dt21 HOx.out) (fun z hz => (HOx.out.lt z hz).1) hgrow hat HVl.out.1 HVl.out.2)
      have HO4 : Hid (w4.ownsRow w.heap.size 34 3 (.slice (some ⟨g, 0, none⟩) (k + 1) cap) (k + 1) (rowP21 (L ++ [p]) (V ++ [.slice xo p.x.length xc]))) := by
        show World.ownsRow _ _ _ _ _ _ _
        rw [rowP21_app _ _ _ _ (by rw [HVl.out.1, HVl.out.2])]
        exact hown4
      have HVl4 : Hid ((V ++ [Value.slice xo p.x.length xc]).length = k + 1 ∧ (L ++ [p]).length = k + 1) := ⟨by rw [List.length_append, HVl.out.1]; rfl, by rw [List.length_append, HVl.out.2]; rfl⟩
      clear hown4 hgrow hat hlt4 HVr HO HOx HO1 H1 hbase h63 h47
      go_wp2
      go_roundg g1
      case measure => have := HK.out; omega
      case rel => exact ⟨k + 1, _, _, vl2, r2, _, _, by have := HK.out; omega, rfl, rfl, HO4, HVl4, HV4, HB4, HEq⟩
end Go.Proofs.YtiachojhnbicaaaDoor
