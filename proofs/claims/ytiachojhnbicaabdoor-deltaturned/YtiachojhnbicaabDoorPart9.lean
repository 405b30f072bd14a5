/-
  Part 9 of the proof: 1 texts, one behind the other.
-/
import Derived.Test.YtiachojhnbicaabDoorPart7
import Derived.Test.YtiachojhnbicaabDoorPart6
namespace Go.Proofs.YtiachojhnbicaabDoor
open Go.RowKit Go.Shelf
set_option linter.unusedSimpArgs false
set_option linter.unusedVariables false
attribute [local go_sem] Oper.semAt_some

def DtN21 (N : Nat) (w : World) (vb vr : Value) (l : List Nat) : Prop := ∀ W : World, (∀ z, N ≤ z → z < w.heap.size → vb.ownBlock ≠ some z → W.heap[z]? = w.heap[z]?) → Dt21 W vr l
def PtN21 (N : Nat) (w : World) (v : Value) (L : List Pt) : Prop := ∀ W : World, (∀ z, N ≤ z → z < w.heap.size → W.heap[z]? = w.heap[z]?) → PtR21 W v L
theorem tw_stepN21 {N : Nat} {wr w1 w4 : World} {L : List Pt} {V : List Value} {k g m c1 : Nat} {vb vr : Value} {d : Pt} {x : Obj} (hV : ∀ (j : Nat) (d : Pt) (u : Value), L[j]? = some d → V[j]? = some u → DtN21 N wr vb u d.x)
    (hvb : ∀ z, vb.ownBlock = some z → z < wr.heap.size) (hsz : wr.heap.size ≤ w1.heap.size) (hNw : N ≤ wr.heap.size) (hb1 : ∀ z, N ≤ z → z < wr.heap.size → w1.heap[z]? = wr.heap[z]?) (hr : Dt21 w1 vr d.x) (hrz : ∀ z, vr.ownBlock = some z → wr.heap.size ≤ z)
    (hg : (w1.alloc x).grownBy w4 vb.ownBlock) (hat : vb.ownBlock = some g ∨ g = (w1.alloc x).heap.size) (hVl : V.length = k) (hL : L.length = k) :
    ∀ (j : Nat) (d' : Pt) (u : Value), (L ++ [d])[j]? = some d' → (V ++ [vr])[j]? = some u → DtN21 N w4 (.slice (some ⟨g, 0, none⟩) m c1) u d'.x := by
  have hs : (w1.alloc x).heap.size = w1.heap.size + 1 := by simp
  have s4 := hg.size
  have old : ∀ z, z < w1.heap.size → vb.ownBlock ≠ some z → w4.heap[z]? = w1.heap[z]? := fun z hz hn => (hg.block z (by omega) (fun e => hn e.symm)).trans (Below.heap_alloc w1 x z hz)
  intro j d' u h1 h2 W hW
  have hW' : ∀ z, N ≤ z → z < w1.heap.size → vb.ownBlock ≠ some z → W.heap[z]? = w1.heap[z]? := fun z hNz hz hn => by
    refine (hW z hNz (by omega) ?_).trans (old z hz hn)
    intro e
    simp only [Value.ownBlock, Option.some.injEq] at e
    subst e
    rcases hat with h | h
    · exact hn h
    · omega
  by_cases hj : j < V.length
  · rw [List.getElem?_append_left hj] at h2
    rw [List.getElem?_append_left (by omega)] at h1
    refine hV j d' u h1 h2 W (fun z hNz hz hn => ?_)
    exact (hW' z hNz (by omega) hn).trans (hb1 z hNz hz)
  · have hjl := (List.getElem?_eq_some_iff.mp h2).1
    have : j = k := by simp at hjl; omega
    subst this
    rw [List.getElem?_append_right (by omega), hL] at h1
    simp at h1
    subst h1
    rw [List.getElem?_append_right (by omega), hVl] at h2
    simp at h2
    subst h2
    refine dt_blk21 hr (fun z hz hlt => hW' z (by have := hrz z hz; omega) hlt (fun e => ?_))
    have := hvb z e
    have := hrz z hz
    omega
def TmQ21 (w0 : World) (B : Nat) (va vp : Value) (n : Nat) (l : List Nat) (w : World) (e : Ending) (w' : World) : Prop := (∃ L r v' vl', lsP n l = some (L, r) ∧ e = .returned v' ∧ PtN21 w.heap.size w' v' L ∧ RS21 w0 B va vl' r vp w' ∧ KR21 B w w') ∨ (lsP n l = none ∧ e = .panicked (pan21 22) ∧ KR21 B w w')
set_option maxRecDepth 100000 in
set_option maxHeartbeats 16000000 in
theorem times21 (w0 : World) (B : Nat) (va vl : Value) (l : List Nat) (vp : Value) (n : Nat) (w : World) (h : RS21 w0 B va vl l vp w) (hn : n < 4294967296) :
    Calls Tryd.prog 40 #[.int .u32 (n : Int), .func (.func 41) #[.pointer (some ⟨B, 0, none⟩)] #[]] w fun e w' => TmQ21 w0 B va vp n l w e w' := by
  obtain ⟨j0, ji, jz0, jz1, jz2⟩ := info13 Tryd.infoP21
  have HS := hid13 h
  have HN := hid13 hn
  have HO0 : Hid (w.ownsRow w.heap.size 38 3 (.slice none 0 0) 0 []) := World.ownsRow_nil _ _ _ _
  clear h hn
  go_enter Tryd.func40, Tryd.ntmps40
  go_wp2_with fail
  go_loopg [5, 7] n (fun g vb kv wr => ∃ (k : Nat) (V : List Value) (L : List Pt) (vl' : Value) (r : List Nat) (bo : Option Addr) (bc : Nat), k + g = n ∧ kv = .int .u32 (k : Int) ∧ vb = .slice bo k bc ∧ Hid (wr.ownsRow w.heap.size 38 3 (.slice bo k bc) k (rowP21 L V)) ∧ Hid (V.length = k ∧ L.length = k) ∧ Hid (∀ (j : Nat) (d : Pt) (u : Value), L[j]? = some d → V[j]? = some u → DtN21 w.heap.size wr (.slice bo k bc) u d.x) ∧ Hid (RS21 w0 B va vl' r vp wr ∧ KR21 B w wr) ∧ Hid (lsP n l = (lsP g r).map fun q => (L ++ q.1, q.2)))
  case atStart => exact ⟨0, [], [], vl, l, none, 0, by omega, rfl, rfl, HO0, ⟨rfl, rfl⟩, (fun j d u _ h => by simp at h), ⟨HS.out, KR21.refl _ _⟩, by show _ = _; cases lsP n l <;> simp⟩
  case round =>
    clear HO0
    obtain ⟨k, V, L, vl', r, bo, bc, hk, rfl, rfl, HO, HVl, HVr, HR, HE⟩ := hrel
    by_cases hlt : k < n
    rotate_left 1
    · have hg0 : gk = 0 := by omega
      have l1 : ¬ (k : Int) < (n : Int) := by omega
      have HEq : Hid (lsP n l = some (L, r)) := by
        show _ = _
        rw [HE.out, hg0]
        simp [lsP]
      have HPt : Hid (PtN21 w.heap.size wr (.slice bo k bc) L) := by
        intro W hW
        have ho : W.ownsRow w.heap.size 38 3 (.slice bo k bc) L.length (rowP21 L V) := by
          rw [HVl.out.2]
          refine own_keep18 HO.out (fun g hg => hW g (HO.out.lt g hg).1 (HO.out.lt g hg).2)
        exact ptr_of21 ho (by rw [HVl.out.1, HVl.out.2]) (fun j d u h1 h2 => HVr.out j d u h1 h2 W (fun z hz hlt _ => hW z hz hlt))
      clear hlt hk hg0 HO HVl HVr HE
      go_wp2
      go_ret
      exact .inl ⟨_, _, _, _, HEq.out, rfl, HPt.out, HR.out⟩
    have l1 : (k : Int) < (n : Int) := by omega
    obtain ⟨g1, hg1⟩ : ∃ g1, gk = g1 + 1 := ⟨gk - 1, by omega⟩
    have wk : IntKind.u32.wrap ((k : Int) + 1) = ((k + 1 : Nat) : Int) := by rw [IntKind.wrap_u32]; have := HN.out; omega
    cases hpc : pcP r with
    | none =>
      have HEq : Hid (lsP n l = none) := by
        show _ = _
        rw [HE.out, hg1]
        simp [lsP, hpc]
      have K1 := patchN21 w0 B va vl' r vp wr HR.out.1 hpc
      clear hlt hk hpc hg1 HO HVl HVr HE wk
      go_wp2_with fail
      refine K1.mono ?_
      rintro e w1 ⟨rfl, hk1⟩
      exact ⟨rfl, .inr ⟨HEq.out, rfl, HR.out.2.trans hk1⟩⟩
    | some q =>
      obtain ⟨p, r2⟩ := q
      have HEq : Hid (lsP n l = (lsP g1 r2).map fun q => ((L ++ [p]) ++ q.1, q.2)) := by
        show _ = _
        rw [HE.out, hg1]
        cases hq : lsP g1 r2 with
        | none => simp [lsP, hpc, hq]
        | some q => simp [lsP, hpc, hq]
      have K1 := patchY21 w0 B va vl' r vp p r2 wr HR.out.1 hpc
      have HK : Hid (k < n ∧ k + gk = n ∧ gk = g1 + 1) := ⟨hlt, hk, hg1⟩
      have h63 : k + 1 ≤ maxLen := by unfold maxLen; have := HN.out; omega
      have h47 : (k + 1) * 40 ≤ 140737488355328 := by have := HN.out; omega
      clear hlt hk hpc hg1 HE
      go_wp2_with fail
      refine K1.mono ?_
      rintro e w1 ⟨vx, vl2, rfl, ho1, hs1, hk1⟩
      have hBl : B < w.heap.size := HS.out.lt
      have hwz : w.heap.size ≤ wr.heap.size := HR.out.2.ot.1
      have H1 : Hid (RS21 w0 B va vl2 r2 vp w1 ∧ KR21 B w w1 ∧ wr.heap.size ≤ w1.heap.size ∧ w.heap.size ≤ wr.heap.size ∧ B < w.heap.size ∧ (∀ z, w.heap.size ≤ z → z < wr.heap.size → w1.heap[z]? = wr.heap[z]?)) := ⟨hs1, HR.out.2.trans hk1, hk1.ot.1, hwz, hBl, fun z h1 h2 => hk1.ot.2 z h2 (by omega)⟩
      have hown1 : w1.ownsRow w.heap.size 38 3 (.slice bo k bc) k (rowP21 L V) := own_keep18 HO.out (fun g hg => hk1.ot.2 g (HO.out.lt g hg).2 (by have := (HO.out.lt g hg).1; omega))
      have HOx := hid13 ho1
      have HO1 := hid13 hown1
      obtain ⟨xo, xc, hvx⟩ := own_form ho1
      subst hvx
      have hbase : w.heap.size ≤ (w1.alloc (.cells #[.int .i64 p.k, .int .i64 p.d, .slice xo p.x.length xc] 38)).heap.size := by have := hk1.ot.1; simp; omega
      clear K1 ho1 hs1 hk1 hown1 hBl hwz
      go_wp2_with (at_builtin; apply stopHere9)
      refine (show wpList _ _ _ _ _ _ from ?_)
      refine wpList_append_lies _ rfl _ _ 27 rfl w.heap.size 38 j0 (.agg #[.int .i64 0, .int .i64 0, .slice none 0 0]) 3 40 Tryd.underlying27 ji jz0 jz1 jz2 rfl (by decide) _ _ _ rfl (HO1.out.alloc _) ⟨w1.heap.size, 0, none⟩ 1 1 [_, _, _] rfl rfl (news_three21 _ _ _ _ _) (three_one21 _ _ _ _ _) (by decide) h63 h47 hbase _ rfl ?_
      intro g cap w4 hown4 hgrow hat hlt4
      have HB4 : Hid (RS21 w0 B va vl2 r2 vp w4 ∧ KR21 B w w4) := by
        have hb : Below w1.heap.size w1 (w1.alloc (.cells #[.int .i64 p.k, .int .i64 p.d, .slice xo p.x.length xc] 38)) := bl1 _ _
        have hsz : (w1.alloc (.cells #[.int .i64 p.k, .int .i64 p.d, .slice xo p.x.length xc] 38)).heap.size = w1.heap.size + 1 := by simp
        have hr1 := H1.out.1.below hb
        have hk1 := H1.out.2.1.below H1.out.2.2.2.2.1 hb
        have hob : ∀ z, (Value.slice bo k bc).ownBlock = some z → w.heap.size ≤ z := fun z hz => (HO1.out.lt z hz).1
        have hw0 : w0.heap.size ≤ w.heap.size := HS.out.b.size
        refine ⟨⟨hr1.b.grown hgrow (by omega) (fun z hz => by have := hob z hz; omega), hr1.s, ?_, hr1.r, hr1.a, hr1.x, hr1.n⟩, ⟨hk1.lo.grown hgrow (by have := H1.out.2.2.2.2.1; omega) (fun z hz => by have := hob z hz; have := H1.out.2.2.2.2.1; omega), ?_⟩⟩
        · refine (hgrow.block B (by have := H1.out.2.2.2.2.1; omega) (fun e => ?_)).trans hr1.c
          have := hob B e.symm
          have := H1.out.2.2.2.2.1
          omega
        · refine ⟨Nat.le_trans hk1.ot.1 hgrow.size, fun z h1 h2 => (hgrow.block z (by have := hk1.ot.1; omega) (fun e => ?_)).trans (hk1.ot.2 z h1 h2)⟩
          have := hob z e.symm
          omega
      have HV4 := hid13 (tw_stepN21 (m := k + 1) (c1 := cap) HVr.out (fun z hz => (HO.out.lt z hz).2) H1.out.2.2.1 H1.out.2.2.2.1 H1.out.2.2.2.2.2 (own_dt21 HOx.out) (fun z hz => (HOx.out.lt z hz).1) hgrow hat HVl.out.1 HVl.out.2)
      have HO4 : Hid (w4.ownsRow w.heap.size 38 3 (.slice (some ⟨g, 0, none⟩) (k + 1) cap) (k + 1) (rowP21 (L ++ [p]) (V ++ [.slice xo p.x.length xc]))) := by
        show World.ownsRow _ _ _ _ _ _ _
        rw [rowP21_app _ _ _ _ (by rw [HVl.out.1, HVl.out.2])]
        exact hown4
      have HVl4 : Hid ((V ++ [Value.slice xo p.x.length xc]).length = k + 1 ∧ (L ++ [p]).length = k + 1) := ⟨by rw [List.length_append, HVl.out.1]; rfl, by rw [List.length_append, HVl.out.2]; rfl⟩
      clear hown4 hgrow hat hlt4 HVr HO HOx HO1 H1 hbase h63 h47
      go_wp2
      go_roundg g1
      case measure => have := HK.out; omega
      case rel => exact ⟨k + 1, _, _, vl2, r2, _, _, by have := HK.out; omega, rfl, rfl, HO4, HVl4, HV4, HB4, HEq⟩
end Go.Proofs.YtiachojhnbicaabDoor
