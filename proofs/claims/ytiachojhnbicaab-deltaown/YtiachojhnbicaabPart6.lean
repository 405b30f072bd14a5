/-
  Part 6 of the proof: 2 texts, one behind the other.
-/
import Derived.Test.YtiachojhnbicaabPart4
import Derived.Test.YtiachojhnbicaabPart5
import Derived.Test.YtiachojhnbicaabPart2
import Derived.Test.YtiachojhnbicaabPart1
import Derived.Test.YtiachojhnbicaabPart3
import Derived.Lib.SmallJoins
namespace Go.Proofs.Ytiachojhnbicaab
open Go.RowKit Go.Shelf
set_option linter.unusedSimpArgs false
set_option linter.unusedVariables false
attribute [local go_sem] Oper.semAt_some
theorem fit_dfO (a b : List Nat) : fitB a.length (dfL a b) = true := by
  unfold dfL
  split
  · rfl
  · have h := df_le a b
    have ho : okP (a.length : Int) (dfP a b) := by
      unfold okP dfP
      dsimp only
      omega
    unfold fitB ftS ftF
    simp only [List.foldl_cons, List.foldl_nil]
    rw [if_pos ho]
    rfl
theorem ap_dfO (a b : List Nat) : apL a (dfL a b) = b := by
  have hf := fit_dfO a b
  unfold apL
  rw [if_pos hf]
  unfold dfL
  by_cases hab : a = b
  · rw [if_pos hab]
    exact hab
  · rw [if_neg hab]
    have h := df_le a b
    unfold apS apF
    simp only [List.foldl_cons, List.foldl_nil, List.nil_append]
    have e1 : (dfP a b).k.toNat = dfK a b := by unfold dfP; simp
    have e2 : ((dfP a b).k + (dfP a b).d).toNat = a.length - dfT a b := by unfold dfP; simp only; omega
    rw [e1, e2]
    have h1 : a.take (dfK a b) = b.take (dfK a b) := cpN_take a b
    have h2 := csN_drop (a.drop (dfK a b)) (b.drop (dfK a b))
    have h3 : csN (a.drop (dfK a b)) (b.drop (dfK a b)) = dfT a b := rfl
    rw [h3, List.length_drop, List.length_drop, List.drop_drop, List.drop_drop] at h2
    have e3 : dfK a b + (a.length - dfK a b - dfT a b) = a.length - dfT a b := by omega
    have e4 : dfK a b + (b.length - dfK a b - dfT a b) = b.length - dfT a b := by omega
    rw [e3, e4] at h2
    rw [h1, h2]
    show b.take (dfK a b) ++ dfX a b ++ b.drop (b.length - dfT a b) = b
    unfold dfX
    have h5 := List.take_append_drop (b.length - dfK a b - dfT a b) (b.drop (dfK a b))
    rw [List.drop_drop, e4] at h5
    rw [List.append_assoc, h5, List.take_append_drop]
theorem wt_dfO (a b : List Nat) : wt21 (dfL a b) ≤ b.length := by
  unfold wt21
  rw [df_bring]
  split <;> omega
set_option maxRecDepth 20000 in
theorem make0_21 (w : World) (j0 : TypeInfo) (ji : Try.prog.info? 5 = some j0) (jz0 : j0.zero = some (.int .u8 0)) (jz1 : j0.size = 1) (jz2 : j0.bytes = 1) (M : Nat) (hM : M ≤ 100000000) :
    ∃ cur, (Instr.makeSlice 22 (.int .i64 0) (.int .i64 (M : Int))).run Try.prog w = .ok (.slice (some ⟨w.heap.size, 0, none⟩) 0 M) (w.alloc (.cells cur 5)) ∧ cur.size = M * 1 := by
  have hr := run_make (P := Try.prog) w 22 5 j0 _ Try.underlying22 ji jz0 .i64 .i64 0 (M : Int) (by omega) (by omega) (by rw [jz2]; omega) (by omega)
  simp only [Int.toNat_natCast, Int.toNat_zero] at hr
  exact ⟨_, hr, by rw [size_madeCells, jz1]⟩
def DtM21 (N : Nat) (w : World) (vb vr : Value) (l : List Nat) : Prop := ∀ W : World, (∀ z, N ≤ z → z < w.heap.size → vb.ownBlock ≠ some z → W.heap[z]? = w.heap[z]?) → Dt21 W vr l
def PtM21 (N : Nat) (w : World) (v : Value) (L : List Pt) : Prop := ∀ W : World, (∀ z, N ≤ z → z < w.heap.size → W.heap[z]? = w.heap[z]?) → PtR21 W v L
theorem tw_stepM21 {N : Nat} {wr w1 w4 : World} {L : List Pt} {V : List Value} {k g m c1 : Nat} {vb vr : Value} {d : Pt} {x : Obj} (hV : ∀ (j : Nat) (d : Pt) (u : Value), L[j]? = some d → V[j]? = some u → DtM21 N wr vb u d.x)
    (hvb : ∀ z, vb.ownBlock = some z → z < wr.heap.size) (hsz : wr.heap.size ≤ w1.heap.size) (hNw : N ≤ wr.heap.size) (hb1 : ∀ z, N ≤ z → z < wr.heap.size → w1.heap[z]? = wr.heap[z]?) (hr : Dt21 w1 vr d.x) (hrz : ∀ z, vr.ownBlock = some z → wr.heap.size ≤ z)
    (hg : (w1.alloc x).grownBy w4 vb.ownBlock) (hat : vb.ownBlock = some g ∨ g = (w1.alloc x).heap.size) (hVl : V.length = k) (hL : L.length = k) :
    ∀ (j : Nat) (d' : Pt) (u : Value), (L ++ [d])[j]? = some d' → (V ++ [vr])[j]? = some u → DtM21 N w4 (.slice (some ⟨g, 0, none⟩) m c1) u d'.x := by
  have hs : (w1.alloc x).heap.size = w1.heap.size + 1 := by simp
  have s4 := hg.size
  have old : ∀ z, z < w1.heap.size → vb.ownBlock ≠ some z → w4.heap[z]? = w1.heap[z]? := fun z hz hn => (hg.block z (by omega) (fun e => hn e.symm)).trans (Below.heap_alloc w1 x z hz)
  intro j d' u h1 h2 W hW
  have hW' : ∀ z, N ≤ z → z < w1.heap.size → vb.ownBlock ≠ some z → W.heap[z]? = w1.heap[z]? := fun z hNz hz hn => by
    refine (hW z hNz (by omega) ?_).trans (old z hz hn)
    intro e
    simp only [Value.ownBlock, Option.some.injEq] at e
    subst e
    rcases hat with h | h
    · exact hn h
    · omega
  by_cases hj : j < V.length
  · rw [List.getElem?_append_left hj] at h2
    rw [List.getElem?_append_left (by omega)] at h1
    refine hV j d' u h1 h2 W (fun z hNz hz hn => ?_)
    exact (hW' z hNz (by omega) hn).trans (hb1 z hNz hz)
  · have hjl := (List.getElem?_eq_some_iff.mp h2).1
    have : j = k := by simp at hjl; omega
    subst this
    rw [List.getElem?_append_right (by omega), hL] at h1
    simp at h1
    subst h1
    rw [List.getElem?_append_right (by omega), hVl] at h2
    simp at h2
    subst h2
    refine dt_blk21 hr (fun z hz hlt => hW' z (by have := hrz z hz; omega) hlt (fun e => ?_))
    have := hvb z e
    have := hrz z hz
    omega
set_option maxRecDepth 100000 in
set_option maxHeartbeats 16000000 in
theorem twinM21 (v : Value) (L : List Pt) (w : World) (hv : PtR21 w v L) (hl : L.length ≤ 1000000) (hr : ∀ d ∈ L, d.x.length ≤ 1000000) :
    Calls Try.prog 6 #[v] w fun e w' => ∃ v', e = .returned v' ∧ PtM21 w.heap.size w' v' L ∧ Below w.heap.size w w' := by
  obtain ⟨i0, hi, hz0, hz1, hz2⟩ := info13 Try.infoB13
  obtain ⟨j0, ji, jz0, jz1, jz2⟩ := info13 Try.infoP21
  obtain ⟨ao, c, rfl, hc, hrow⟩ := hv
  have HC := hid13 hrow
  have HL : Hid (L.length ≤ 1000000 ∧ ∀ d ∈ L, d.x.length ≤ 1000000) := ⟨hl, hr⟩
  have HO0 : Hid (w.ownsRow w.heap.size 28 3 (.slice none 0 0) 0 []) := World.ownsRow_nil _ _ _ _
  have HB0 := hid13 (Below.refl w.heap.size w)
  clear hr hrow
  go_enter Try.func6, Try.ntmps6
  go_wp2_with fail
  go_loopg [3, 4] L.length (fun g vb kv wr => ∃ (k : Nat) (V : List Value), k + g = L.length ∧ kv = .int .i64 (k : Int) ∧ Hid (wr.ownsRow w.heap.size 28 3 vb k (rowP21 (L.take k) V)) ∧ Hid (V.length = k) ∧ Hid (∀ (j : Nat) (d : Pt) (u : Value), (L.take k)[j]? = some d → V[j]? = some u → DtM21 w.heap.size wr vb u d.x) ∧ Hid (Below w.heap.size w wr))
  case atStart => exact ⟨0, [], by omega, rfl, HO0, rfl, (fun j d u _ h => by simp at h), HB0⟩
  case round =>
    clear HO0 HB0
    obtain ⟨k, V, hk, rfl, HO, HVl, HVr, HB⟩ := hrel
    by_cases hlt : (k : Int) < (L.length : Int)
    · have hks : k < L.length := by omega
      obtain ⟨b, off, rfl, hcell⟩ := HC.out.resolve_left (by rintro rfl; simp at hks)
      obtain ⟨d, hd⟩ : ∃ d, L[k]? = some d := ⟨_, List.getElem?_eq_getElem hks⟩
      obtain ⟨vr, x0, x1, x2, -, hA⟩ := hcell k d hd
      have hdr := HL.out.2 d (List.mem_of_getElem? hd)
      have HD := hid13 hd
      have HT : Hid (L.take (k + 1) = L.take k ++ [d]) := by show _ = _; rw [List.take_succ_eq_append_getElem hks]; rw [List.getElem?_eq_getElem hks] at hd; injection hd with hd; rw [hd]
      have HA : Hid (∀ W, Below w.heap.size w W → W.cell? ⟨b, off + k * 3, none⟩ = some (.int .i64 d.k) ∧ W.cell? ⟨b, off + k * 3 + 1, none⟩ = some (.int .i64 d.d) ∧ W.cell? ⟨b, off + k * 3 + 2, none⟩ = some vr ∧ Below w.heap.size w W) := fun W h => ⟨keepc h x0, keepc h x1, keepc h x2, h⟩
      have HRA := hid13 hA
      have mj : IntKind.i64.wrap ((k : Int) + 1) = (k : Int) + 1 := by rw [IntKind.wrap_i64]; omega
      have HK : Hid (k + gk = L.length ∧ k < L.length) := ⟨hk, hks⟩
      have h63 : k + 1 ≤ maxLen := by unfold maxLen; omega
      have h47 : (k + 1) * 40 ≤ 140737488355328 := by omega
      have h63a : 0 + d.x.length ≤ maxLen := by unfold maxLen; omega
      have h47a : (0 + d.x.length) * 1 ≤ 140737488355328 := by omega
      have hbl := HB.out.drew
      have hown : Hid (wr.drew.ownsRow w.heap.size 28 3 u3 k (rowP21 (L.take k) V)) := HO.out.drew
      obtain ⟨x0, x1, x2, -⟩ := HA.out _ hbl
      have qd : Below wr.heap.size wr (wr.drew.alloc (.cells #[] 5)) := (Below.refl _ _).drew.alloc (Nat.le_refl _) _
      have hmade : Hid ((wr.drew.alloc (.cells #[] 5)).ownsRow wr.heap.size 5 1 (.slice (some ⟨wr.heap.size, 0, none⟩) 0 0) 0 []) := World.ownsRow_made wr.drew #[] 0 (Nat.le_refl _) (by unfold maxLen; omega) (by simp)
      have hsrc := hid13 ((HRA.out.below HB.out).below qd)
      have hbase : Hid (wr.heap.size ≤ (wr.drew.alloc (.cells #[] 5)).heap.size) := qd.size
      have tw_b1 : ∀ {w1 : World}, (wr.drew.alloc (.cells #[] 5)).grownBy w1 (Value.slice (some ⟨wr.heap.size, 0, none⟩) 0 0).ownBlock → Below wr.heap.size wr w1 := fun hg => qd.grown hg qd.size (fun z hz => by simp only [Value.ownBlock, Option.some.injEq] at hz; omega)
      have tw_own : ∀ {w1 : World}, Below wr.heap.size wr w1 → Hid (wr.ownsRow w.heap.size 28 3 u3 k (rowP21 (L.take k) V)) → Hid (w1.ownsRow w.heap.size 28 3 u3 k (rowP21 (L.take k) V)) := fun hb h => own_b13 hb h.out
      have hown0 := hid13 HB.out.size
      have tw_base : ∀ {w1 : World} {x : Obj}, Hid (w.heap.size ≤ wr.heap.size) → Below wr.heap.size wr w1 → w.heap.size ≤ (w1.alloc x).heap.size := fun h hb => by have := h.out; have := hb.size; simp; omega
      clear hd hcell hA hk hdr qd
      go_wp2_with fail
      go_region_held3 (fun w' => w'.cell? ⟨b, off + k * 3, none⟩ = some (.int .i64 d.k) ∧ w'.cell? ⟨b, off + k * 3 + 1, none⟩ = some (.int .i64 d.d) ∧ w'.cell? ⟨b, off + k * 3 + 2, none⟩ = some vr ∧ Below w.heap.size w w')
        (first
          | exact HA.out _ hbl
          | (obtain ⟨-, -, -, k9⟩ := ‹_ ∧ _ ∧ _ ∧ Below _ _ _›; exact HA.out _ (k9.grown hgrow k9.size (fun z hz => (hown.out.lt z hz).1)))
          | (obtain ⟨-, -, -, k9⟩ := ‹_ ∧ _ ∧ _ ∧ Below _ _ _›; exact HA.out _ (keepb hb1 HB.out))
          | (obtain ⟨-, -, -, k9⟩ := ‹_ ∧ _ ∧ _ ∧ Below _ _ _›; exact HA.out _ (k9.alloc k9.size _))
          | (obtain ⟨-, -, -, k9⟩ := ‹_ ∧ _ ∧ _ ∧ Below _ _ _›; exact HA.out _ k9))
        (first
          | (refine step_append_rowA21 rfl (.tmp 22) (.tmp 27) 22 rfl wr.heap.size 5 i0 (.int .u8 0) 1 1 Try.underlying22 hi hz0 hz1 hz2 rfl (by decide) _ 0 [] rfl hmade.out _ d.x.length (d.x.map cB) rfl hsrc.out (cB_one d.x) h63a h47a hbase.out ?_; intro o1 c1 w1 hO1 hg1; have hb1 := tw_b1 hg1; have hown := tw_own hb1 HO)
          | (refine step_append_lies _ rfl (.tmp 11) (.tmp 30) 24 rfl w.heap.size 28 j0 (.agg #[.int .i64 0, .int .i64 0, .slice none 0 0]) 3 40 Try.underlying24 ji jz0 jz1 jz2 rfl (by decide) _ _ _ rfl (hown.out.alloc _) _ 1 1 [_, _, _] rfl rfl (news_three21 _ _ _ _ _) (three_one21 _ _ _ _ _) (by decide) h63 h47 (tw_base hown0 hb1) _ rfl ?_; intro g cap w4 hown4 hgrow hat hlt4))
      obtain ⟨-, -, -, k9⟩ := ‹_ ∧ _ ∧ _ ∧ Below _ _ _›
      have HB4 := hid13 k9
      have hO1' : w1.ownsRow wr.heap.size 5 1 (.slice o1 d.x.length c1) d.x.length (d.x.map cB) := by rw [Nat.zero_add, List.nil_append] at hO1; exact hO1
      have hgrow' : (w1.alloc (.cells #[.int .i64 d.k, .int .i64 d.d, .slice o1 d.x.length c1] 28)).grownBy w4 u3.ownBlock := hgrow
      have hat' : u3.ownBlock = some g ∨ g = (w1.alloc (.cells #[.int .i64 d.k, .int .i64 d.d, .slice o1 d.x.length c1] 28)).heap.size := hat
      have HV4 := hid13 (tw_stepM21 (m := k + 1) (c1 := cap) HVr.out (fun z hz => (HO.out.lt z hz).2) hb1.size hown0.out (fun z _ hz => hb1.block z hz) (own_dt21 hO1') (fun z hz => (hO1'.lt z hz).1) hgrow' hat' HVl.out (by rw [List.length_take]; have := HK.out; omega))
      rw [← HT.out] at HV4
      have HO4 : Hid (w4.ownsRow w.heap.size 28 3 (.slice (some ⟨g, 0, none⟩) (k + 1) cap) (k + 1) (rowP21 (L.take (k + 1)) (V ++ [.slice o1 d.x.length c1]))) := by
        show World.ownsRow _ _ _ _ _ _ _
        rw [HT.out, rowP21_app _ _ _ _ (by rw [HVl.out, List.length_take]; omega)]
        exact hown4
      have HVl4 : Hid ((V ++ [Value.slice o1 d.x.length c1]).length = k + 1) := by show _ = _; rw [List.length_append, HVl.out]; rfl
      clear hown4 hgrow hat hlt4 hown hO1 hg1 hO1' hgrow' hat' k9 x0 x1 x2 HA hsrc hmade hbase tw_b1 tw_own tw_base hown0 HC HVr HO hb1
      go_wp2
      go_roundg (gk - 1)
      case measure => have := HK.out; omega
      case rel => exact ⟨k + 1, _, by have := HK.out; omega, rfl, HO4, HVl4, HV4, HB4⟩
    · have hke : k = L.length := by omega
      subst hke
      have HO2 := HO.out
      rw [List.take_of_length_le (Nat.le_refl _)] at HO2
      have HV2 := HVr.out
      rw [List.take_of_length_le (Nat.le_refl _)] at HV2
      have HR : Hid (PtM21 w.heap.size wr u3 L) := fun W hW => ptr_of21 (own_keep18 HO2 (fun g hg => hW g (HO2.lt g hg).1 (HO2.lt g hg).2)) HVl.out (fun j d u h1 h2 => HV2 j d u h1 h2 W (fun z h1 h2 _ => hW z h1 h2))
      clear HC HO2 HO HVr
      go_wp2
      go_ret
      exact ⟨_, rfl, HR.out, HB.out⟩

theorem dfo_ptM {base : Nat} {W : World} {v : Value} {a b : List Nat} (h : DfO base W v a b) : PtM21 base W v (dfL a b) := by
  intro W' hW
  refine dfo_ptr (base := base) ?_
  unfold DfO at h ⊢
  by_cases hab : a = b
  · rw [if_pos hab] at h ⊢; exact h
  · rw [if_neg hab] at h ⊢
    obtain ⟨z, vx, e, h1, h2, h3⟩ := h
    exact ⟨z, vx, e, own_keep18 h1 (fun g hg => hW g (h1.lt g hg).1 (h1.lt g hg).2), own_keep18 h2 (fun g hg => hW g (h2.lt g hg).1 (h2.lt g hg).2), h3⟩
structure OwX21 (w V0 W : World) (A C B : Nat) (o n : Int) (vb : Value) (R : List Nat) : Prop where
  b : Below w.heap.size w W
  k : KX (fun z => A ≤ z ∧ z < C) V0 W
  i : W.heap[B]? = some (.cells #[.int .i64 o, .int .i64 n, vb] 28)
  o : W.ownsRow A 5 1 vb R.length (R.map cB)
  nn : ∀ z, vb.ownBlock = some z → ((A ≤ z ∧ z < C) ∨ V0.heap.size ≤ z) ∧ z ≠ B
section
variable {w V0 W W' : World} {A B C : Nat} {o n : Int} {vb v' : Value} {R R' : List Nat}
theorem OwX21.below (h : OwX21 w V0 W A C B o n vb R) (hb : Below W.heap.size W W') : OwX21 w V0 W' A C B o n vb R :=
  ⟨keepb hb h.b, h.k.below hb, (hb.block _ (lt_16 h.i)).trans h.i, own_b13 hb h.o, h.nn⟩
theorem OwX21.store {g cap j : Nat} (h : OwX21 w V0 W A C B o n (.slice (some ⟨g, 0, none⟩) R.length cap) R) (hA : w.heap.size ≤ A) (x : Nat) : OwX21 w V0 (W.setCell ⟨g, j, none⟩ (.int .u8 (x : Int))) A C B o n (.slice (some ⟨g, 0, none⟩) (R.set j x).length cap) (R.set j x) := by
  have hg := (h.o.lt g rfl).1
  have hn := h.nn g rfl
  rw [List.length_set]
  refine ⟨h.b.setCell (p := ⟨g, j, none⟩) (by show w.heap.size ≤ g; omega) _, h.k.set g j _ hn.1, (far_16 (fun e => hn.2 e.symm)).trans h.i, ?_, h.nn⟩
  have := (h.o.stored j (.int .u8 (x : Int))).1
  rw [List.length_set, List.map_set]
  exact this
theorem OwX21.app (h : OwX21 w V0 W A C B o n vb R) (hA : w.heap.size ≤ A) (hAB : A ≤ B) (hBC : B < C) (hC : C ≤ V0.heap.size) (ho : W'.ownsRow A 5 1 v' R'.length (R'.map cB)) (hg : W.grownBy W' vb.ownBlock) (hat : ∀ z, v'.ownBlock = some z → vb.ownBlock = some z ∨ z = W.heap.size) : W'.heap[B]? = some (.cells #[.int .i64 o, .int .i64 n, vb] 28) ∧ OwX21 w V0 (W'.setCell ⟨B, 2, none⟩ v') A C B o n v' R' := by
  have hBW := lt_16 h.i
  have eB : W'.heap[B]? = W.heap[B]? := hg.block B hBW (fun e => (h.nn B e.symm).2 rfl)
  have i' := eB.trans h.i
  have hs := h.k.1
  have hnn : ∀ z, v'.ownBlock = some z → ((A ≤ z ∧ z < C) ∨ V0.heap.size ≤ z) ∧ z ≠ B := fun z hz => by
    rcases hat z hz with q | q
    · exact h.nn z q
    · exact ⟨.inr (by omega), by omega⟩
  refine ⟨i', (h.b.grown hg (by omega) (fun z e => Nat.le_trans hA (h.o.lt z e).1)).setCell (p := ⟨B, 2, none⟩) (Nat.le_trans hA hAB) _, ?_, ?_, ?_, hnn⟩
  · refine KX.set ?_ B 2 _ (.inl ⟨hAB, hBC⟩)
    refine ⟨Nat.le_trans hs hg.size, fun z h1 h2 => (hg.block z (by omega) (fun e => ?_)).trans (h.k.2 z h1 h2)⟩
    rcases (h.nn z e.symm).1 with q | q
    · exact h2 q
    · omega
  · have := set_16 (o := 2) i' v'
    simpa using this
  · exact own_keep18 ho (fun g e => far_16 (fun q => (hnn g e).2 q))
theorem OwX21.put (h : OwX21 w V0 W A C B o n vb R) (hA : w.heap.size ≤ A) (hAB : A ≤ B) (hBC : B < C) (u0 u1 u2 : Value) : Below w.heap.size w (((W.setCell ⟨B, 0, none⟩ u0).setCell ⟨B, 1, none⟩ u1).setCell ⟨B, 2, none⟩ u2) ∧ KX (fun z => A ≤ z ∧ z < C) V0 (((W.setCell ⟨B, 0, none⟩ u0).setCell ⟨B, 1, none⟩ u1).setCell ⟨B, 2, none⟩ u2) :=
  ⟨bset3i h.b (by omega) _ _ _, ((h.k.set B 0 _ (.inl ⟨hAB, hBC⟩)).set B 1 _ (.inl ⟨hAB, hBC⟩)).set B 2 _ (.inl ⟨hAB, hBC⟩)⟩
end
structure OwC21 (w V1 W : World) (A C : Nat) (vb : Value) (R : List Nat) : Prop where
  b : Below w.heap.size w W
  k : KX (fun z => A ≤ z ∧ z < C) V1 W
  o : W.ownsRow A 5 1 vb R.length (R.map cB)
  nn : ∀ z, vb.ownBlock = some z → (A ≤ z ∧ z < C) ∨ V1.heap.size ≤ z
section
variable {w V1 W W' : World} {A C : Nat} {vb v' : Value} {R R' : List Nat}
theorem OwC21.below (h : OwC21 w V1 W A C vb R) (hb : Below W.heap.size W W') : OwC21 w V1 W' A C vb R :=
  ⟨keepb hb h.b, h.k.below hb, own_b13 hb h.o, h.nn⟩
theorem OwC21.store {g cap j : Nat} (h : OwC21 w V1 W A C (.slice (some ⟨g, 0, none⟩) R.length cap) R) (hA : w.heap.size ≤ A) (x : Nat) : OwC21 w V1 (W.setCell ⟨g, j, none⟩ (.int .u8 (x : Int))) A C (.slice (some ⟨g, 0, none⟩) (R.set j x).length cap) (R.set j x) := by
  have hg := (h.o.lt g rfl).1
  have hn := h.nn g rfl
  rw [List.length_set]
  refine ⟨h.b.setCell (p := ⟨g, j, none⟩) (by show w.heap.size ≤ g; omega) _, h.k.set g j _ hn, ?_, h.nn⟩
  have := (h.o.stored j (.int .u8 (x : Int))).1
  rw [List.length_set, List.map_set]
  exact this
theorem OwC21.app (h : OwC21 w V1 W A C vb R) (hA : w.heap.size ≤ A) (hw : w.heap.size ≤ V1.heap.size) (ho : W'.ownsRow A 5 1 v' R'.length (R'.map cB)) (hg : W.grownBy W' vb.ownBlock) (hat : ∀ z, v'.ownBlock = some z → vb.ownBlock = some z ∨ z = W.heap.size) : OwC21 w V1 W' A C v' R' := by
  have hs := h.k.1
  have hnn : ∀ z, v'.ownBlock = some z → (A ≤ z ∧ z < C) ∨ V1.heap.size ≤ z := fun z hz => by
    rcases hat z hz with q | q
    · exact h.nn z q
    · exact .inr (by omega)
  refine ⟨h.b.grown hg (by omega) (fun z e => Nat.le_trans hA (h.o.lt z e).1), ⟨Nat.le_trans hs hg.size, fun z h1 h2 => (hg.block z (by omega) (fun e => ?_)).trans (h.k.2 z h1 h2)⟩, ho, hnn⟩
  rcases h.nn z e.symm with q | q
  · exact h2 q
  · omega
end
end Go.Proofs.Ytiachojhnbicaab
namespace Go.Proofs.Ytiachojhnbicaab
open Go.RowKit
set_option linter.unusedSimpArgs false
set_option linter.unusedVariables false

theorem kn21_ne : ¬ ([97, 98, 99, 100, 101] : List Nat) = [97, 98, 88, 101] := by decide
theorem kn21_P : dfP [97, 98, 99, 100, 101] [97, 98, 88, 101] = ⟨2, 2, [88]⟩ := by rfl
set_option maxRecDepth 100000 in
set_option maxHeartbeats 8000000 in
theorem known21 (w : World) :
    Calls Try.prog 4 #[] w fun e w' => e = .returned (.bool true) ∧ Below w.heap.size w w' := by
  have kc1 := Go.Joins.run_convert_bytes_const_at (P := Try.prog) w 22 5 #[.int .u8 97, .int .u8 98, .int .u8 99, .int .u8 100, .int .u8 101] 5 5 w.heap.size rfl Try.underlying22 Try.underlying5
  have q1 := bl1 w (.cells #[.int .u8 97, .int .u8 98, .int .u8 99, .int .u8 100, .int .u8 101] 5 (5, 6))
  have o1 := lit_rwx (f := cB) w #[.int .u8 97, .int .u8 98, .int .u8 99, .int .u8 100, .int .u8 101] 5 (5, 6) [97, 98, 99, 100, 101] rfl
  obtain ⟨w1, hw1⟩ : ∃ w1, w1 = w.alloc (.cells #[.int .u8 97, .int .u8 98, .int .u8 99, .int .u8 100, .int .u8 101] 5 (5, 6)) := ⟨_, rfl⟩
  have kc2 := Go.Joins.run_convert_bytes_const_at (P := Try.prog) w1 22 5 #[.int .u8 97, .int .u8 98, .int .u8 88, .int .u8 101] 4 4 (w.heap.size + 1) (by rw [hw1]; simp) Try.underlying22 Try.underlying5
  rw [hw1] at kc2
  rw [← hw1] at q1 o1
  have q2 := bl1 w1 (.cells #[.int .u8 97, .int .u8 98, .int .u8 88, .int .u8 101] 5 (4, 5))
  have o2 := lit_rwx (f := cB) w1 #[.int .u8 97, .int .u8 98, .int .u8 88, .int .u8 101] 5 (4, 5) [97, 98, 88, 101] rfl
  obtain ⟨w2, hw2⟩ : ∃ w2, w2 = w1.alloc (.cells #[.int .u8 97, .int .u8 98, .int .u8 88, .int .u8 101] 5 (4, 5)) := ⟨_, rfl⟩
  rw [← hw2] at q2 o2
  have o1' := o1.below q2
  have K1 := diff21 _ _ [97, 98, 99, 100, 101] [97, 98, 88, 101] w2 o1' o2 (o1'.row (fun h => by cases h)) (o2.row (fun h => by cases h)) (by decide) (by decide) (by decide) (by decide)
  have HQ : Hid (Below w.heap.size w w2) := keepb q2 q1
  have HW : Hid (w2 = (w.alloc (.cells #[.int .u8 97, .int .u8 98, .int .u8 99, .int .u8 100, .int .u8 101] 5 (5, 6))).alloc (.cells #[.int .u8 97, .int .u8 98, .int .u8 88, .int .u8 101] 5 (4, 5))) := by rw [hw2, hw1]; rfl
  have hsz : w1.heap.size = w.heap.size + 1 := by rw [hw1]; simp
  rw [hsz] at K1
  clear q1 q2 o1 o2 o1' hw1 hw2 hsz
  go_enter Try.func4, Try.ntmps4
  go_wp2_with fail
  rw [← HW.out]
  refine K1.mono ?_
  rintro e w3 ⟨v3, rfl, hd, hb3⟩
  have HB3 : Hid (Below w.heap.size w w3) := keepb hb3 HQ.out
  unfold DfO at hd
  rw [if_neg kn21_ne, kn21_P] at hd
  obtain ⟨z, vx, rfl, h1, h2, -⟩ := hd
  have c0 : w3.cell? ⟨z, 0, none⟩ = some (.int .i64 2) := (h1.cellAt 0 (by decide)).trans rfl
  have c1 : w3.cell? ⟨z, 1, none⟩ = some (.int .i64 2) := (h1.cellAt 1 (by decide)).trans rfl
  have c2 : w3.cell? ⟨z, 2, none⟩ = some vx := (h1.cellAt 2 (by decide)).trans rfl
  have cv := conv13 (own_rwx h2) (by decide)
  obtain ⟨xo, xc, hvx⟩ := own_form h2
  subst hvx
  dsimp only at cv c2
  rw [show ([88] : List Nat).length = 1 from rfl] at cv c2
  have hbq : ((bsA [88]).toList == [88]) = true := by rw [bsA_list]; decide
  generalize bsA [88] = st at *
  clear h1 h2 hb3 HQ K1 HW kc1 kc2
  go_wp2
  go_ret
  exact ⟨by first | rfl | decide, HB3.out⟩
end Go.Proofs.Ytiachojhnbicaab
