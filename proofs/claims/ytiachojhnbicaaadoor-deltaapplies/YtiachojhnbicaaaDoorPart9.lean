/-
  Part 9 of the proof: 5 texts, one behind the other.
-/
import Derived.Test.YtiachojhnbicaaaDoorPart4
import Derived.Deep.RegionHeld3
import Derived.Deep.AppendLies
import Derived.Laws.AppendOwnNone
import Derived.Test.YtiachojhnbicaaaDoorPart2
import Derived.Lib.SmallJoins
import Derived.Test.YtiachojhnbicaaaDoorPart7
import Derived.Test.YtiachojhnbicaaaDoorPart8
import Derived.Deep.Slices
import Derived.Carry
import Derived.SizedLaws
import Derived.ProofKit
namespace Go.Proofs.YtiachojhnbicaaaDoor
open Go.RowKit
set_option linter.unusedSimpArgs false
set_option linter.unusedVariables false
attribute [local go_sem] Oper.semAt_some

theorem step_append_rowA21 {P : Program} {w : World} {ops : Array Oper} {o : Oper} {a : Act} {K : Act → World → Prop} {Q : Exit → Act → World → Prop} {E : Prop} (hgd : o.guard = none) (s x : Operand) (t : TypeId)
    (ho : o.op = .call { callee := .builtin .append, args := #[s, x], argTypes := #[t, t] })
    (base : Nat) (e : TypeId) (i : TypeInfo) (z : Value) (size bytes : Nat) (ht : P.underlying t = some (.slice e)) (hi : P.info? e = some i) (hz : i.zero = some z)
    (hsize : i.size = size) (hby : i.bytes = bytes) (hzs : z.cells.size = size) (hsz : 0 < size)
    (v : Value) (n : Nat) (xs : List Value) (hs : a.eval s = v) (hown : w.ownsRow base e size v n xs)
    (vx : Value) (m : Nat) (news : List Value) (hx : a.eval x = vx) (hsrc : RowA w size vx m news) (h1 : ∀ y ∈ news, y.oneCell' = true)
    (h63 : n + m ≤ maxLen) (hbytes : (n + m) * bytes ≤ 140737488355328) (hbase : base ≤ w.heap.size)
    (h : ∀ ao cap w', w'.ownsRow base e size (.slice ao (n + m) cap) (n + m) (xs ++ news) → w.grownBy w' v.ownBlock → K (a.put o.dst (.slice ao (n + m) cap)) w') :
    if Region.wanted o (yielded ops a.tmps) = true then Oper.wp P o a w K Q else E := by
  have hw : Region.wanted o (yielded ops a.tmps) = true := by simp [Region.wanted, hgd]
  rw [if_pos hw]
  obtain ⟨hl, xo, c, rfl, hcc, hsrc⟩ := hsrc
  rcases hsrc with ⟨rfl, rfl, rfl⟩ | ⟨ad, rfl, hc⟩
  · have : news = [] := List.eq_nil_of_length_eq_zero (by omega)
    subst this
    obtain ⟨ao, cp, hv⟩ := own_form hown
    have hK := h ao cp w (by rw [List.append_nil, Nat.add_zero, ← hv]; exact hown) ⟨rfl, rfl, rfl, Nat.le_refl _, fun _ _ _ => rfl⟩
    rw [Nat.add_zero, ← hv] at hK
    have hrun := run_append_owned_none (P := P) (w := w) base t o.type e i size ht hi v n xs hown
    unfold Oper.wp
    simp [execOp, ho, resolve, invoke, builtin, hs, hx, hrun, Result.andThen]
    exact hK
  · refine wp_append_own w s x t ho base e i z size bytes ht hi hz hsize hby hzs hsz v n xs hs hown ad m c news hx hl hc h1 h63 hbytes hbase ?_
    intro v' w' h2 h3 _
    obtain ⟨ao, cp, hv⟩ := own_form h2
    rw [hv]
    rw [hv] at h2
    exact h ao cp w' h2 h3
def Dt21 (W : World) (v : Value) (l : List Nat) : Prop := RwX cB W v l ∧ RowA W 1 v l.length (l.map cB)
theorem Dt21.below {w w' : World} {v : Value} {l : List Nat} (h : Dt21 w v l) (hb : Below w.heap.size w w') : Dt21 w' v l := ⟨h.1.below hb, h.2.below hb⟩
theorem own_dt21 {W : World} {base : Nat} {v : Value} {l : List Nat} (h : W.ownsRow base 5 1 v l.length (l.map cB)) : Dt21 W v l := ⟨own_rwx h, own_rowA h⟩
theorem dt_blk21 {w W : World} {v : Value} {l : List Nat} (h : Dt21 w v l) (hk : ∀ z, v.ownBlock = some z → z < w.heap.size → W.heap[z]? = w.heap[z]?) : Dt21 W v l := by
  obtain ⟨⟨ao, c, e, hc, h⟩, ⟨hl, ao', c', e', hc', h'⟩⟩ := h
  refine ⟨⟨ao, c, e, hc, h.imp id ?_⟩, ⟨hl, ao', c', e', hc', h'.imp id ?_⟩⟩
  · rintro ⟨b, off, e2, h⟩
    refine ⟨b, off, e2, fun j r hj => ?_⟩
    have c0 := h j r hj
    exact (World.cell?_of_block (a := ⟨b, off + j, none⟩) (hk b (by rw [e, e2]; rfl) (cell_in c0))).trans c0
  · rintro ⟨⟨ab, af, asb⟩, e2, h⟩
    refine ⟨⟨ab, af, asb⟩, e2, fun j u hj => ?_⟩
    obtain ⟨a, ha⟩ : ∃ a : Addr, a = ⟨ab, af, asb⟩ := ⟨_, rfl⟩
    have hbk : (Value.slice (some a) l.length c').ownBlock = some a.block := by rw [ha]; rfl
    rw [← ha] at e2 h ⊢
    clear ha
    have c0 := h j u hj
    have sp := spot9 c0
    have hb : W.heap[(a.add j).block]? = w.heap[(a.add j).block]? := by
      refine hk (a.add j).block (by rw [e', e2, hbk]; congr 1; unfold Addr.add; split <;> rfl) ?_
      rw [sp] at c0
      exact cell_in c0
    exact (World.cell?_of_block (a := a.add j) hb).trans c0
def DtX21 (w : World) (vb vr : Value) (l : List Nat) : Prop := ∀ W : World, (∀ z, z < w.heap.size → vb.ownBlock ≠ some z → W.heap[z]? = w.heap[z]?) → Dt21 W vr l
def rowP21 : List Pt → List Value → List Value
  | d :: L, v :: V => .int .i64 d.k :: .int .i64 d.d :: v :: rowP21 L V
  | _, _ => []
theorem rowP21_app : ∀ (L : List Pt) (V : List Value) (d : Pt) (v : Value), L.length = V.length → rowP21 (L ++ [d]) (V ++ [v]) = rowP21 L V ++ [.int .i64 d.k, .int .i64 d.d, v]
  | [], [], d, v, _ => rfl
  | x :: L, y :: V, d, v, h => by
    show _ :: _ :: _ :: rowP21 (L ++ [d]) (V ++ [v]) = _
    rw [rowP21_app L V d v (by simpa using h)]; rfl
  | [], y :: V, d, v, h => by simp at h
  | x :: L, [], d, v, h => by simp at h
theorem rowP21_get : ∀ (L : List Pt) (V : List Value) (j : Nat) (d : Pt) (v : Value), L[j]? = some d → V[j]? = some v → (rowP21 L V)[j * 3]? = some (.int .i64 d.k) ∧ (rowP21 L V)[j * 3 + 1]? = some (.int .i64 d.d) ∧ (rowP21 L V)[j * 3 + 2]? = some v
  | [], V, j, d, v, h, _ => by simp at h
  | x :: L, [], j, d, v, _, h => by simp at h
  | x :: L, y :: V, 0, d, v, h1, h2 => by
    simp at h1 h2
    subst h1 h2
    exact ⟨rfl, rfl, rfl⟩
  | x :: L, y :: V, j + 1, d, v, h1, h2 => by
    have ih := rowP21_get L V j d v (by simpa using h1) (by simpa using h2)
    have e0 : (j + 1) * 3 = j * 3 + 3 := by omega
    rw [e0]
    exact ih
theorem ptr_of21 {W : World} {base : Nat} {v : Value} {L : List Pt} {V : List Value} (h : W.ownsRow base 34 3 v L.length (rowP21 L V)) (hl : V.length = L.length) (hr : ∀ (j : Nat) (d : Pt) (vr : Value), L[j]? = some d → V[j]? = some vr → Dt21 W vr d.x) : PtR21 W v L := by
  by_cases hL : L = []
  · subst hL
    obtain ⟨ao, c, hv⟩ := own_form h
    exact ⟨ao, c, hv, Nat.zero_le _, .inl rfl⟩
  · have hp := List.length_pos_iff.mpr hL
    obtain ⟨g, c, hv, hc⟩ : ∃ g c, v = .slice (some ⟨g, 0, none⟩) L.length c ∧ L.length ≤ c := by
      rcases h.2 with ⟨-, h0⟩ | ⟨g, c, cur, e, -, -, h3, -⟩
      · omega
      · exact ⟨g, c, e, h3⟩
    subst hv
    refine ⟨_, c, rfl, hc, .inr ⟨g, 0, rfl, fun j d hj => ?_⟩⟩
    have hjl := (List.getElem?_eq_some_iff.mp hj).1
    have hvj : V[j]? = some V[j] := List.getElem?_eq_getElem (by omega)
    obtain ⟨c0, c1, c2⟩ := rowP21_get L V j d _ hj hvj
    rw [Nat.zero_add]
    have hq := hr j d _ hj hvj
    exact ⟨V[j], (h.cellAt _ (by omega)).trans c0, (h.cellAt _ (by omega)).trans c1, (h.cellAt _ (by omega)).trans c2, hq.1, hq.2⟩
theorem Tryd.infoP21 : (Tryd.prog.info? 34).map (fun i => (i.zero, i.size, i.bytes)) = some (some (.agg #[.int .i64 0, .int .i64 0, .slice none 0 0]), 3, 40) := by kernel_rfl
theorem news_three21 (w : World) (x y z : Value) (T : TypeId) : ∀ j u, [x, y, z][j]? = some u → (w.alloc (.cells #[x, y, z] T)).cell? ((⟨w.heap.size, 0, none⟩ : Addr).add j) = some u := by
  intro j u h
  match j, h with
  | 0, h => simp at h; subst h; simp [go_sem, Addr.add]
  | 1, h => simp at h; subst h; simp [go_sem, Addr.add]
  | 2, h => simp at h; subst h; simp [go_sem, Addr.add]
  | j + 3, h => simp at h
theorem tw_step21 {w wr w1 w4 : World} {L : List Pt} {V : List Value} {k g cap m c1 : Nat} {vb vr : Value} {d : Pt} {x : Obj} (hV : ∀ (j : Nat) (d : Pt) (u : Value), L[j]? = some d → V[j]? = some u → DtX21 wr vb u d.x)
    (hvb : ∀ z, vb.ownBlock = some z → z < wr.heap.size) (hb1 : Below wr.heap.size wr w1) (hr : Dt21 w1 vr d.x) (hrz : ∀ z, vr.ownBlock = some z → wr.heap.size ≤ z)
    (hg : (w1.alloc x).grownBy w4 vb.ownBlock) (hat : vb.ownBlock = some g ∨ g = (w1.alloc x).heap.size) (hVl : V.length = k) (hd : L[k]? = some d) :
    ∀ (j : Nat) (d : Pt) (u : Value), L[j]? = some d → (V ++ [vr])[j]? = some u → DtX21 w4 (.slice (some ⟨g, 0, none⟩) m c1) u d.x := by
  have hs : (w1.alloc x).heap.size = w1.heap.size + 1 := by simp
  have s1 := hb1.size
  have s4 := hg.size
  have old : ∀ z, z < w1.heap.size → vb.ownBlock ≠ some z → w4.heap[z]? = w1.heap[z]? := fun z hz hn => (hg.block z (by omega) (fun e => hn e.symm)).trans (Below.heap_alloc w1 x z hz)
  intro j d' u h1 h2 W hW
  have hW' : ∀ z, z < w1.heap.size → vb.ownBlock ≠ some z → W.heap[z]? = w1.heap[z]? := fun z hz hn => by
    refine (hW z (by omega) ?_).trans (old z hz hn)
    intro e
    simp only [Value.ownBlock, Option.some.injEq] at e
    subst e
    rcases hat with h | h
    · exact hn h
    · omega
  by_cases hj : j < V.length
  · rw [List.getElem?_append_left hj] at h2
    refine hV j d' u h1 h2 W (fun z hz hn => ?_)
    exact (hW' z (by omega) hn).trans (hb1.block z hz)
  · have hjl := (List.getElem?_eq_some_iff.mp h2).1
    have : j = k := by simp at hjl; omega
    subst this
    rw [hd] at h1
    injection h1 with h1
    subst h1
    rw [List.getElem?_append_right (by omega), hVl] at h2
    simp at h2
    subst h2
    refine dt_blk21 hr (fun z hz hlt => hW' z hlt (fun e => ?_))
    have := hvb z e
    have := hrz z hz
    omega
theorem three_one21 (a b : Int) (ao : Option Addr) (n c : Nat) : ∀ u ∈ [Value.int .i64 a, .int .i64 b, .slice ao n c], u.oneCell' = true := by
  intro u hu
  simp at hu
  rcases hu with h | h | h <;> subst h <;> rfl
set_option maxRecDepth 100000 in
set_option maxHeartbeats 16000000 in
theorem twin21 (v : Value) (L : List Pt) (w : World) (hv : PtR21 w v L) (hl : L.length ≤ 1000000) (hr : ∀ d ∈ L, d.x.length ≤ 1000000) :
    Calls Tryd.prog 9 #[v] w fun e w' => ∃ v', e = .returned v' ∧ PtR21 w' v' L ∧ Below w.heap.size w w' := by
  obtain ⟨i0, hi, hz0, hz1, hz2⟩ := info13 Tryd.infoB13
  obtain ⟨j0, ji, jz0, jz1, jz2⟩ := info13 Tryd.infoP21
  obtain ⟨ao, c, rfl, hc, hrow⟩ := hv
  have HC := hid13 hrow
  have HL : Hid (L.length ≤ 1000000 ∧ ∀ d ∈ L, d.x.length ≤ 1000000) := ⟨hl, hr⟩
  have HO0 : Hid (w.ownsRow w.heap.size 34 3 (.slice none 0 0) 0 []) := World.ownsRow_nil _ _ _ _
  have HB0 := hid13 (Below.refl w.heap.size w)
  clear hr hrow
  go_enter Tryd.func9, Tryd.ntmps9
  go_wp2_with fail
  go_loopg [3, 4] L.length (fun g vb kv wr => ∃ (k : Nat) (V : List Value), k + g = L.length ∧ kv = .int .i64 (k : Int) ∧ Hid (wr.ownsRow w.heap.size 34 3 vb k (rowP21 (L.take k) V)) ∧ Hid (V.length = k) ∧ Hid (∀ (j : Nat) (d : Pt) (u : Value), L[j]? = some d → V[j]? = some u → DtX21 wr vb u d.x) ∧ Hid (Below w.heap.size w wr))
  case atStart => exact ⟨0, [], by omega, rfl, HO0, rfl, (fun j d u _ h => by simp at h), HB0⟩
  case round =>
    clear HO0 HB0
    obtain ⟨k, V, hk, rfl, HO, HVl, HVr, HB⟩ := hrel
    by_cases hlt : (k : Int) < (L.length : Int)
    · have hks : k < L.length := by omega
      obtain ⟨b, off, rfl, hcell⟩ := HC.out.resolve_left (by rintro rfl; simp at hks)
      obtain ⟨d, hd⟩ : ∃ d, L[k]? = some d := ⟨_, List.getElem?_eq_getElem hks⟩
      obtain ⟨vr, x0, x1, x2, -, hA⟩ := hcell k d hd
      have hdr := HL.out.2 d (List.mem_of_getElem? hd)
      have HD := hid13 hd
      have HT : Hid (L.take (k + 1) = L.take k ++ [d]) := by show _ = _; rw [List.take_succ_eq_append_getElem hks]; rw [List.getElem?_eq_getElem hks] at hd; injection hd with hd; rw [hd]
      have HA : Hid (∀ W, Below w.heap.size w W → W.cell? ⟨b, off + k * 3, none⟩ = some (.int .i64 d.k) ∧ W.cell? ⟨b, off + k * 3 + 1, none⟩ = some (.int .i64 d.d) ∧ W.cell? ⟨b, off + k * 3 + 2, none⟩ = some vr ∧ Below w.heap.size w W) := fun W h => ⟨keepc h x0, keepc h x1, keepc h x2, h⟩
      have HRA := hid13 hA
      have mj : IntKind.i64.wrap ((k : Int) + 1) = (k : Int) + 1 := by rw [IntKind.wrap_i64]; omega
      have HK : Hid (k + gk = L.length ∧ k < L.length) := ⟨hk, hks⟩
      have h63 : k + 1 ≤ maxLen := by unfold maxLen; omega
      have h47 : (k + 1) * 40 ≤ 140737488355328 := by omega
      have h63a : 0 + d.x.length ≤ maxLen := by unfold maxLen; omega
      have h47a : (0 + d.x.length) * 1 ≤ 140737488355328 := by omega
      have hbl := HB.out.drew
      have hown : Hid (wr.drew.ownsRow w.heap.size 34 3 u3 k (rowP21 (L.take k) V)) := HO.out.drew
      obtain ⟨x0, x1, x2, -⟩ := HA.out _ hbl
      have qd : Below wr.heap.size wr (wr.drew.alloc (.cells #[] 5)) := (Below.refl _ _).drew.alloc (Nat.le_refl _) _
      have hmade : Hid ((wr.drew.alloc (.cells #[] 5)).ownsRow wr.heap.size 5 1 (.slice (some ⟨wr.heap.size, 0, none⟩) 0 0) 0 []) := World.ownsRow_made wr.drew #[] 0 (Nat.le_refl _) (by unfold maxLen; omega) (by simp)
      have hsrc := hid13 ((HRA.out.below HB.out).below qd)
      have hbase : Hid (wr.heap.size ≤ (wr.drew.alloc (.cells #[] 5)).heap.size) := qd.size
      have tw_b1 : ∀ {w1 : World}, (wr.drew.alloc (.cells #[] 5)).grownBy w1 (Value.slice (some ⟨wr.heap.size, 0, none⟩) 0 0).ownBlock → Below wr.heap.size wr w1 := fun hg => qd.grown hg qd.size (fun z hz => by simp only [Value.ownBlock, Option.some.injEq] at hz; omega)
      have tw_own : ∀ {w1 : World}, Below wr.heap.size wr w1 → Hid (wr.ownsRow w.heap.size 34 3 u3 k (rowP21 (L.take k) V)) → Hid (w1.ownsRow w.heap.size 34 3 u3 k (rowP21 (L.take k) V)) := fun hb h => own_b13 hb h.out
      have hown0 := hid13 HB.out.size
      have tw_base : ∀ {w1 : World} {x : Obj}, Hid (w.heap.size ≤ wr.heap.size) → Below wr.heap.size wr w1 → w.heap.size ≤ (w1.alloc x).heap.size := fun h hb => by have := h.out; have := hb.size; simp; omega
      clear hd hcell hA hk hdr qd
      go_wp2_with fail
      go_region_held3 (fun w' => w'.cell? ⟨b, off + k * 3, none⟩ = some (.int .i64 d.k) ∧ w'.cell? ⟨b, off + k * 3 + 1, none⟩ = some (.int .i64 d.d) ∧ w'.cell? ⟨b, off + k * 3 + 2, none⟩ = some vr ∧ Below w.heap.size w w')
        (first
          | exact HA.out _ hbl
          | (obtain ⟨-, -, -, k9⟩ := ‹_ ∧ _ ∧ _ ∧ Below _ _ _›; exact HA.out _ (k9.grown hgrow k9.size (fun z hz => (hown.out.lt z hz).1)))
          | (obtain ⟨-, -, -, k9⟩ := ‹_ ∧ _ ∧ _ ∧ Below _ _ _›; exact HA.out _ (keepb hb1 HB.out))
          | (obtain ⟨-, -, -, k9⟩ := ‹_ ∧ _ ∧ _ ∧ Below _ _ _›; exact HA.out _ (k9.alloc k9.size _))
          | (obtain ⟨-, -, -, k9⟩ := ‹_ ∧ _ ∧ _ ∧ Below _ _ _›; exact HA.out _ k9))
        (first
          | (refine step_append_rowA21 rfl (.tmp 22) (.tmp 27) 22 rfl wr.heap.size 5 i0 (.int .u8 0) 1 1 Tryd.underlying22 hi hz0 hz1 hz2 rfl (by decide) _ 0 [] rfl hmade.out _ d.x.length (d.x.map cB) rfl hsrc.out (cB_one d.x) h63a h47a hbase.out ?_; intro o1 c1 w1 hO1 hg1; have hb1 := tw_b1 hg1; have hown := tw_own hb1 HO)
          | (refine step_append_lies _ rfl (.tmp 11) (.tmp 30) 23 rfl w.heap.size 34 j0 (.agg #[.int .i64 0, .int .i64 0, .slice none 0 0]) 3 40 Tryd.underlying23 ji jz0 jz1 jz2 rfl (by decide) _ _ _ rfl (hown.out.alloc _) _ 1 1 [_, _, _] rfl rfl (news_three21 _ _ _ _ _) (three_one21 _ _ _ _ _) (by decide) h63 h47 (tw_base hown0 hb1) _ rfl ?_; intro g cap w4 hown4 hgrow hat hlt4))
      obtain ⟨-, -, -, k9⟩ := ‹_ ∧ _ ∧ _ ∧ Below _ _ _›
      have HB4 := hid13 k9
      have hO1' : w1.ownsRow wr.heap.size 5 1 (.slice o1 d.x.length c1) d.x.length (d.x.map cB) := by rw [Nat.zero_add, List.nil_append] at hO1; exact hO1
      have hgrow' : (w1.alloc (.cells #[.int .i64 d.k, .int .i64 d.d, .slice o1 d.x.length c1] 34)).grownBy w4 u3.ownBlock := hgrow
      have hat' : u3.ownBlock = some g ∨ g = (w1.alloc (.cells #[.int .i64 d.k, .int .i64 d.d, .slice o1 d.x.length c1] 34)).heap.size := hat
      have HV4 := hid13 (tw_step21 (w := w) (m := k + 1) (c1 := cap) (cap := cap) HVr.out (fun z hz => (HO.out.lt z hz).2) hb1 (own_dt21 hO1') (fun z hz => (hO1'.lt z hz).1) hgrow' hat' HVl.out HD.out)
      have HO4 : Hid (w4.ownsRow w.heap.size 34 3 (.slice (some ⟨g, 0, none⟩) (k + 1) cap) (k + 1) (rowP21 (L.take (k + 1)) (V ++ [.slice o1 d.x.length c1]))) := by
        show World.ownsRow _ _ _ _ _ _ _
        rw [HT.out, rowP21_app _ _ _ _ (by rw [HVl.out, List.length_take]; omega)]
        exact hown4
      have HVl4 : Hid ((V ++ [Value.slice o1 d.x.length c1]).length = k + 1) := by show _ = _; rw [List.length_append, HVl.out]; rfl
      clear hown4 hgrow hat hlt4 hown hO1 hg1 hO1' hgrow' hat' k9 x0 x1 x2 HA hsrc hmade hbase tw_b1 tw_own tw_base hown0 HC HVr HO hb1
      go_wp2
      go_roundg (gk - 1)
      case measure => have := HK.out; omega
      case rel => exact ⟨k + 1, _, by have := HK.out; omega, rfl, HO4, HVl4, HV4, HB4⟩
    · have hke : k = L.length := by omega
      subst hke
      have HO2 := HO.out
      rw [List.take_of_length_le (Nat.le_refl _)] at HO2
      have HR := hid13 (ptr_of21 HO2 HVl.out (fun j d u h1 h2 => HVr.out j d u h1 h2 wr (fun _ _ _ => rfl)))
      clear HC HO2 HO HVr
      go_wp2
      go_ret
      exact ⟨_, rfl, HR.out, HB.out⟩
def fewB21 (L : List Pt) : Bool := decide (L.length < 500) && decide (wt21 (L.take 500) < 32768)
set_option maxRecDepth 100000 in
set_option maxHeartbeats 4000000 in
theorem few21 (v : Value) (L : List Pt) (w : World) (hv : PtR21 w v L) (hl : L.length ≤ 140737488355328) (hr : ∀ d ∈ L, d.x.length ≤ 140737488355328) :
    Calls Tryd.prog 8 #[v] w fun e w' => e = .returned (.bool (fewB21 L)) ∧ Below w.heap.size w w' := by
  obtain ⟨ao, c, hvf, -⟩ := id hv
  subst hvf
  have HT := hid13 hv
  have HB : Hid (Below w.heap.size w w) := Below.refl _ _
  have HL : Hid (L.length ≤ 140737488355328 ∧ ∀ d ∈ L, d.x.length ≤ 140737488355328) := ⟨hl, hr⟩
  clear hv hl hr
  go_enter Tryd.func8, Tryd.ntmps8
  go_wp2
  go_loopg [3, 4] L.length (fun g s x wr => ∃ (k : Nat) (S : Nat), k + g = L.length ∧ s = .int .i64 (S : Int) ∧ x = .int .i64 (k : Int) ∧ k ≤ 500 ∧ Hid (S = wt21 (L.take k) ∧ S ≤ k * 140737488355328) ∧ Hid (PtR21 wr (.slice ao L.length c) L ∧ Below w.heap.size w wr))
  case atStart => exact ⟨0, 0, by omega, rfl, rfl, by omega, ⟨by simp [wt21], by omega⟩, ⟨HT.out, HB.out⟩⟩
  case round =>
    clear HT HB
    obtain ⟨k, S, hk, rfl, rfl, h5, HS, HW⟩ := hrel
    have HLn : Hid ((L.length < 500) → ¬ k < L.length → wt21 (L.take 500) = S) := by
      intro q1 q2
      rw [HS.out.1, List.take_of_length_le (by omega), List.take_of_length_le (by omega)]
    by_cases hlt : k < L.length
    · by_cases h50 : k < 500
      · have l1 : (k : Int) < (L.length : Int) := by omega
        have l2 : (k : Int) < 500 := by omega
        obtain ⟨p, hp⟩ : ∃ p, L[k]? = some p := ⟨L[k], by simp [hlt]⟩
        obtain ⟨b1, f1, xo, xc, hao, r0, r1, r2, -, -⟩ := ptr_at HW.out.1 hp
        subst hao
        have hpl := HL.out.2 p (List.mem_of_getElem? hp)
        have wk : IntKind.i64.wrap ((k : Int) + 1) = (k : Int) + 1 := by rw [IntKind.wrap_i64]; have := HL.out; omega
        have ws : IntKind.i64.wrap ((S : Int) + (p.x.length : Int)) = ((S + p.x.length : Nat) : Int) := by rw [IntKind.wrap_i64]; have := HS.out; omega
        have HX : Hid (k < L.length ∧ k + gk = L.length ∧ S + p.x.length = wt21 (L.take (k + 1)) ∧ S + p.x.length ≤ (k + 1) * 140737488355328 ∧ k < 500) := ⟨hlt, hk, by rw [wt21_take hp, HS.out.1], by have := HS.out; omega, h50⟩
        obtain ⟨S2, hS2⟩ : ∃ S2 : Nat, S2 = S + p.x.length := ⟨_, rfl⟩
        rw [← hS2] at ws HX
        clear hp hlt hk hpl h5 h50 hS2 r0 r1 HS
        go_wp2
        go_roundg (gk - 1)
        case measure => have := HX.out; omega
        case rel => exact ⟨k + 1, S2, by have := HX.out; omega, rfl, rfl, by have := HX.out; omega, ⟨HX.out.2.2.1, HX.out.2.2.2.1⟩, HW⟩
      · have l1 : (k : Int) < (L.length : Int) := by omega
        have l2 : ¬ (k : Int) < 500 := by omega
        have l3 : decide ((L.length : Int) < 500) = false := decide_eq_false (by omega)
        have HE : Hid (fewB21 L = false) := by show _ = _; unfold fewB21; rw [decide_eq_false (by omega : ¬ L.length < 500)]; rfl
        clear hlt hk h5 h50
        go_wp2
        go_ret
        exact ⟨by rw [HE.out]; rfl, HW.out.2⟩
    · have l1 : ¬ (k : Int) < (L.length : Int) := by omega
      by_cases h5' : L.length < 500
      · have l3 : decide ((L.length : Int) < 500) = true := decide_eq_true (by omega)
        have HE : Hid (fewB21 L = decide ((S : Int) < 32768)) := by
          show _ = _
          unfold fewB21
          rw [decide_eq_true h5', HLn.out h5' hlt, Bool.true_and]
          exact decide_eq_decide.2 (by omega)
        clear hlt hk h5 h5' HLn
        go_wp2
        go_ret
        exact ⟨by rw [HE.out]; rfl, HW.out.2⟩
      · have l3 : decide ((L.length : Int) < 500) = false := decide_eq_false (by omega)
        have HE : Hid (fewB21 L = false) := by show _ = _; unfold fewB21; rw [decide_eq_false h5']; rfl
        clear hlt hk h5 h5' HLn
        go_wp2
        go_ret
        exact ⟨by rw [HE.out]; rfl, HW.out.2⟩
end Go.Proofs.YtiachojhnbicaaaDoor
namespace Go.Proofs.YtiachojhnbicaaaDoor
open Go.RowKit
set_option linter.unusedSimpArgs false
set_option linter.unusedVariables false

theorem kn21_ne : ¬ ([97, 98, 99, 100, 101] : List Nat) = [97, 98, 88, 101] := by decide
theorem kn21_P : dfP [97, 98, 99, 100, 101] [97, 98, 88, 101] = ⟨2, 2, [88]⟩ := by rfl
set_option maxRecDepth 100000 in
set_option maxHeartbeats 8000000 in
theorem known21 (w : World) :
    Calls Tryd.prog 7 #[] w fun e w' => e = .returned (.bool true) ∧ Below w.heap.size w w' := by
  have kc1 := Go.Joins.run_convert_bytes_const_at (P := Tryd.prog) w 22 5 #[.int .u8 97, .int .u8 98, .int .u8 99, .int .u8 100, .int .u8 101] 5 5 w.heap.size rfl Tryd.underlying22 Tryd.underlying5
  have q1 := bl1 w (.cells #[.int .u8 97, .int .u8 98, .int .u8 99, .int .u8 100, .int .u8 101] 5 (5, 6))
  have o1 := lit_rwx (f := cB) w #[.int .u8 97, .int .u8 98, .int .u8 99, .int .u8 100, .int .u8 101] 5 (5, 6) [97, 98, 99, 100, 101] rfl
  obtain ⟨w1, hw1⟩ : ∃ w1, w1 = w.alloc (.cells #[.int .u8 97, .int .u8 98, .int .u8 99, .int .u8 100, .int .u8 101] 5 (5, 6)) := ⟨_, rfl⟩
  have kc2 := Go.Joins.run_convert_bytes_const_at (P := Tryd.prog) w1 22 5 #[.int .u8 97, .int .u8 98, .int .u8 88, .int .u8 101] 4 4 (w.heap.size + 1) (by rw [hw1]; simp) Tryd.underlying22 Tryd.underlying5
  rw [hw1] at kc2
  rw [← hw1] at q1 o1
  have q2 := bl1 w1 (.cells #[.int .u8 97, .int .u8 98, .int .u8 88, .int .u8 101] 5 (4, 5))
  have o2 := lit_rwx (f := cB) w1 #[.int .u8 97, .int .u8 98, .int .u8 88, .int .u8 101] 5 (4, 5) [97, 98, 88, 101] rfl
  obtain ⟨w2, hw2⟩ : ∃ w2, w2 = w1.alloc (.cells #[.int .u8 97, .int .u8 98, .int .u8 88, .int .u8 101] 5 (4, 5)) := ⟨_, rfl⟩
  rw [← hw2] at q2 o2
  have o1' := o1.below q2
  have K1 := diff21 _ _ [97, 98, 99, 100, 101] [97, 98, 88, 101] w2 o1' o2 (o1'.row (fun h => by cases h)) (o2.row (fun h => by cases h)) (by decide) (by decide) (by decide) (by decide)
  have HQ : Hid (Below w.heap.size w w2) := keepb q2 q1
  have HW : Hid (w2 = (w.alloc (.cells #[.int .u8 97, .int .u8 98, .int .u8 99, .int .u8 100, .int .u8 101] 5 (5, 6))).alloc (.cells #[.int .u8 97, .int .u8 98, .int .u8 88, .int .u8 101] 5 (4, 5))) := by rw [hw2, hw1]; rfl
  have hsz : w1.heap.size = w.heap.size + 1 := by rw [hw1]; simp
  rw [hsz] at K1
  clear q1 q2 o1 o2 o1' hw1 hw2 hsz
  go_enter Tryd.func7, Tryd.ntmps7
  go_wp2_with fail
  rw [← HW.out]
  refine K1.mono ?_
  rintro e w3 ⟨v3, rfl, hd, hb3⟩
  have HB3 : Hid (Below w.heap.size w w3) := keepb hb3 HQ.out
  unfold DfO at hd
  rw [if_neg kn21_ne, kn21_P] at hd
  obtain ⟨z, vx, rfl, h1, h2, -⟩ := hd
  have c0 : w3.cell? ⟨z, 0, none⟩ = some (.int .i64 2) := (h1.cellAt 0 (by decide)).trans rfl
  have c1 : w3.cell? ⟨z, 1, none⟩ = some (.int .i64 2) := (h1.cellAt 1 (by decide)).trans rfl
  have c2 : w3.cell? ⟨z, 2, none⟩ = some vx := (h1.cellAt 2 (by decide)).trans rfl
  have cv := conv13 (own_rwx h2) (by decide)
  obtain ⟨xo, xc, hvx⟩ := own_form h2
  subst hvx
  dsimp only at cv c2
  rw [show ([88] : List Nat).length = 1 from rfl] at cv c2
  have hbq : ((bsA [88]).toList == [88]) = true := by rw [bsA_list]; decide
  generalize bsA [88] = st at *
  clear h1 h2 hb3 HQ K1 HW kc1 kc2
  go_wp2
  go_ret
  exact ⟨by first | rfl | decide, HB3.out⟩
end Go.Proofs.YtiachojhnbicaaaDoor
namespace Go.Proofs.YtiachojhnbicaaaDoor
open Go.RowKit Go.Shelf
set_option linter.unusedSimpArgs false
set_option linter.unusedVariables false
attribute [local go_sem] Oper.semAt_some

theorem few_wt21 {L : List Pt} (h : fewB21 L = true) : L.length < 500 ∧ wt21 L < 32768 := by
  unfold fewB21 at h
  rw [Bool.and_eq_true, decide_eq_true_eq, decide_eq_true_eq] at h
  refine ⟨h.1, ?_⟩
  have := h.2
  rw [List.take_of_length_le (by omega)] at this
  exact this
theorem len_mem_wt21 {L : List Pt} {p : Pt} (h : p ∈ L) : p.x.length ≤ wt21 L := by
  obtain ⟨j, hj⟩ := List.getElem?_of_mem h
  exact len_le_wt21 hj
set_option maxRecDepth 100000 in
set_option maxHeartbeats 32000000 in
theorem deltaApplies_any (u : Value) (a : List Nat) (v : Value) (L : List Pt) (w : World) (hA : RowA w 1 u a.length (a.map cB)) (hu : RwX cB w u a) (hal : a.length * 1 ≤ 140737488351232) (hx : ∀ z ∈ a, z < 256) (hv : PtR21 w v L) (hp : ∀ p ∈ L, (∀ z ∈ p.x, z < 256) ∧ (-9223372036854775808 ≤ p.k ∧ p.k ≤ 9223372036854775807) ∧ (-9223372036854775808 ≤ p.d ∧ p.d ≤ 9223372036854775807)) (hl : L.length ≤ 140737488355328 ∧ ∀ d' ∈ L, d'.x.length ≤ 140737488355328) (hT : Hf w) :
    Calls Tryd.prog 3 #[u, v] w fun e w' => e = .returned (.bool true) ∧ Below w.heap.size w w' := by
  obtain ⟨i0, hi, hz0, hz1, hz2⟩ := info13 Tryd.infoB13
  obtain ⟨ao, c, hvf, hc, -⟩ := id hu
  obtain ⟨bo, d, huf, hd, -⟩ := id hv
  have HV : Hid (RowA w 1 u a.length (a.map cB) ∧ RwX cB w u a ∧ PtR21 w v L ∧ (∀ z ∈ a, z < 256) ∧ (∀ p ∈ L, ∀ z ∈ p.x, z < 256) ∧ Hf w) := ⟨hA, hu, hv, hx, fun p h => (hp p h).1, hT⟩
  have HS := hid13 hl
  subst hvf huf
  clear hA hv hu hx hp hl hT hc hd hal
  go_enter Tryd.func3, Tryd.ntmps3
  go_wp2_with fail
  refine (known21 w).mono ?_
  rintro e w1 ⟨rfl, hb⟩
  have HB1 := hid13 hb
  clear hb
  by_cases h1 : (32768 : Int) < (a.length : Int)
  · have d1 : decide ((32768 : Int) < (a.length : Int)) = true := decide_eq_true h1
    go_wp2
    go_ret
    exact ⟨rfl, HB1.out⟩
  have d1 : decide ((32768 : Int) < (a.length : Int)) = false := decide_eq_false h1
  have KF := few21 _ L w1 (HV.out.2.2.1.below HB1.out) HS.out.1 HS.out.2
  cases hfw : fewB21 L with
  | false =>
    rw [hfw] at KF
    clear hfw
    go_wp2_with fail
    refine KF.mono ?_
    rintro e w2 ⟨rfl, hb⟩
    have HB2 : Hid (Below w.heap.size w w2) := keepb hb HB1.out
    clear hb KF
    go_wp2
    go_ret
    exact ⟨rfl, HB2.out⟩
  | true =>
    rw [hfw] at KF
    have hfs := few_wt21 hfw
    have HL : Hid (a.length ≤ 32768 ∧ L.length < 500 ∧ wt21 L < 32768) := ⟨by omega, hfs.1, hfs.2⟩
    clear hfw hfs
    go_wp2_with fail
    refine KF.mono ?_
    rintro e w2 ⟨rfl, hb⟩
    have HB2 : Hid (Below w.heap.size w w2) := keepb hb HB1.out
    clear hb KF HB1
    go_wp2_with (at_builtin; apply stopHere9)
    have q2 := bl1 w2 (.cells #[] 5)
    have o2 : (w2.alloc (.cells #[] 5)).ownsRow w.heap.size 5 1 (.slice (some ⟨w2.heap.size, 0, none⟩) 0 0) 0 [] := World.ownsRow_made w2 #[] 0 HB2.out.size (by unfold maxLen; omega) (by simp)
    have r2 := HV.out.1.below (keepb q2 HB2.out)
    refine (show wpList _ _ _ _ _ _ from ?_)
    refine wpList_append_rowA rfl _ _ 22 rfl w.heap.size 5 i0 (.int .u8 0) 1 1 Tryd.underlying22 hi hz0 hz1 hz2 rfl (by decide) _ 0 [] rfl o2 _ a.length (a.map cB) rfl r2 (cB_one a) (by have := HL.out; unfold maxLen; omega) (by have := HL.out; omega) (keepb q2 HB2.out).size ?_
    intro xo xc w3 hO hg
    rw [Nat.zero_add, List.nil_append] at hO
    rw [Nat.zero_add]
    have HB3 : Hid (Below w.heap.size w w3) := hid13 ((keepb q2 HB2.out).grown hg (keepb q2 HB2.out).size (fun z hz => (o2.lt z hz).1))
    have HX3 := hid13 hO
    clear hO hg o2 r2 q2 HB2 d1 h1
    go_wp2_with fail
    refine (twin21 _ L w3 (HV.out.2.2.1.below HB3.out) (by have := HL.out; omega) (fun p hp => by have := len_mem_wt21 hp; have := HL.out; omega)).mono ?_
    rintro e w4 ⟨v4, rfl, ht4, hb⟩
    have HB4 : Hid (Below w.heap.size w w4) := keepb hb HB3.out
    have HX4 := hid13 (own_b13 hb HX3.out)
    have HT4 := hid13 ht4
    obtain ⟨tw4, tc4, hv4⟩ : ∃ o c, v4 = .slice o L.length c := by obtain ⟨o, c, h, -⟩ := ht4; exact ⟨o, c, h⟩
    subst hv4
    clear hb ht4 HX3 HB3
    go_wp2_with fail
    refine (apply21 _ a _ L w4 (own_rowA HX4.out) HT4.out (by have := HL.out; omega) (by have := HL.out; omega)).mono ?_
    rintro e w5 ⟨v5, rfl, ho5, hb⟩
    have HB5 : Hid (Below w.heap.size w w5) := keepb hb HB4.out
    have HX5 := hid13 (own_b13 hb HX4.out)
    have HT5 := hid13 (HT4.out.below hb)
    have HP5 := hid13 (own_base16 ho5 HB4.out.size)
    clear hb ho5 HX4 HT4 HB4
    go_wp2_with fail
    refine (bytes21 _ a _ L w5 (own_rwx HX5.out) HV.out.2.2.2.1 HT5.out HV.out.2.2.2.2.1 (by have := HL.out; omega) (by have := HL.out; omega) (by have := HL.out; omega) (HV.out.2.2.2.2.2.below HB5.out)).mono ?_
    rintro e w6 ⟨v6, rfl, ho6, hb⟩
    have HB6 : Hid (Below w.heap.size w w6) := keepb hb HB5.out
    have HX6 := hid13 (own_b13 hb HX5.out)
    have HT6 := hid13 (HT5.out.below hb)
    have HP6 := hid13 (own_b13 hb HP5.out)
    have HQ6 := hid13 (own_base16 ho6 HB5.out.size)
    clear hb ho6 HX5 HT5 HB5 HP5
    go_wp2_with fail
    refine (weight21 _ L w6 HT6.out (by have := HL.out; omega) (by have := HL.out; omega)).mono ?_
    rintro e w7 ⟨rfl, hb⟩
    have HB7 : Hid (Below w.heap.size w w7) := keepb hb HB6.out
    have HX7 := hid13 (own_b13 hb HX6.out)
    have HT7 := hid13 (HT6.out.below hb)
    have HP7 := hid13 (own_b13 hb HP6.out)
    have HQ7 := hid13 (own_b13 hb HQ6.out)
    clear hb HX6 HT6 HB6 HP6 HQ6
    go_wp2_with fail
    refine (rapply21 _ a _ L w7 (HV.out.1.below HB7.out) (HV.out.2.2.1.below HB7.out) (by have := HL.out; omega) (by have := HL.out; omega)).mono ?_
    rintro e w8 ⟨v8, rfl, ho8, hb⟩
    have HB8 : Hid (Below w.heap.size w w8) := keepb hb HB7.out
    have HX8 := hid13 (own_b13 hb HX7.out)
    have HT8 := hid13 (HT7.out.below hb)
    have HP8 := hid13 (own_b13 hb HP7.out)
    have HQ8 := hid13 (own_b13 hb HQ7.out)
    have HR8 := hid13 (own_base16 ho8 HB7.out.size)
    clear hb ho8 HX7 HT7 HB7 HP7 HQ7
    go_wp2_with fail
    refine (rbytes21 _ a _ L w8 (HV.out.2.1.below HB8.out) HV.out.2.2.2.1 (HV.out.2.2.1.below HB8.out) HV.out.2.2.2.2.1 (by have := HL.out; omega) (by have := HL.out; omega) (by have := HL.out; omega)).mono ?_
    rintro e w9 ⟨v9, rfl, ho9, hb⟩
    have HB9 : Hid (Below w.heap.size w w9) := keepb hb HB8.out
    have HX9 := hid13 (own_b13 hb HX8.out)
    have HT9 := hid13 (HT8.out.below hb)
    have HP9 := hid13 (own_b13 hb HP8.out)
    have HQ9 := hid13 (own_b13 hb HQ8.out)
    have HR9 := hid13 (own_b13 hb HR8.out)
    have HS9 := hid13 (own_base16 ho9 HB8.out.size)
    clear hb ho9 HX8 HT8 HB8 HP8 HQ8 HR8
    have hpl : Hid (∀ z ∈ apL a L, z < 256) := apL_lt a L HV.out.2.2.2.1 HV.out.2.2.2.2.1
    have hql : Hid (∀ z ∈ byB a L, z < 256) := byB_lt a L HV.out.2.2.2.2.1 (by have := HL.out; omega) (by have := HL.out; omega) (by have := HL.out; omega)
    generalize apL a L = P at *
    generalize byB a L = Q at *
    generalize apE a L = E1 at *
    generalize byE a L = E2 at *
    obtain ⟨p1, p2, hp5⟩ := own_form HP9.out
    obtain ⟨q1, q2, hq6⟩ := own_form HQ9.out
    obtain ⟨s1, s2, hr8⟩ := own_form HR9.out
    obtain ⟨t1, t2, hs9⟩ := own_form HS9.out
    subst hp5 hq6 hr8 hs9
    obtain ⟨WT, hWT⟩ : ∃ WT : Nat, WT = wt21 L := ⟨_, rfl⟩
    rw [← hWT]
    have HWT : Hid (WT = wt21 L) := hWT
    clear hWT
    go_wp2
    go_loopg [16, 17] L.length (fun g s x wr => ∃ (k : Nat), k + g = L.length ∧ s = .int .i64 ((wt21 (L.take k) : Nat) : Int) ∧ x = .int .i64 (k : Int) ∧ Hid (wr = w9))
    case atStart => exact ⟨0, by omega, rfl, rfl, rfl⟩
    case round =>
      obtain ⟨k, hk, rfl, rfl, HWr⟩ := hrel
      have hwr := HWr.out
      subst hwr
      by_cases hlt : k < L.length
      · have l1 : (k : Int) < (L.length : Int) := by omega
        obtain ⟨p, hp⟩ : ∃ p, L[k]? = some p := ⟨L[k], by simp [hlt]⟩
        obtain ⟨b1, f1, xo, xc, hao, r0, r1, r2, -, -⟩ := ptr_at (HV.out.2.2.1.below HB9.out) hp
        subst hao
        obtain ⟨S, hS⟩ : ∃ S, S = wt21 (L.take k) := ⟨_, rfl⟩
        have hS1 := wt21_take hp
        have hS2 := wt21_le (L := L) (k + 1)
        rw [← hS] at hS1 ⊢
        have wk : IntKind.i64.wrap ((k : Int) + 1) = (k : Int) + 1 := by rw [IntKind.wrap_i64]; have := HL.out; omega
        have ws : IntKind.i64.wrap ((S : Int) + (p.x.length : Int)) = (S : Int) + (p.x.length : Int) := by rw [IntKind.wrap_i64]; have := HL.out; omega
        have HK : Hid (k < L.length ∧ k + gk = L.length ∧ ((wt21 (L.take (k + 1)) : Nat) : Int) = (S : Int) + (p.x.length : Int)) := ⟨hlt, hk, by rw [hS1]; push_cast; rfl⟩
        clear hp hlt hk hS hS1 hS2 r0 r1
        go_wp2
        go_roundg (gk - 1)
        case measure => have := HK.out; omega
        case rel => exact ⟨k + 1, by have := HK.out; omega, by rw [HK.out.2.2], rfl, rfl⟩
      · have l1 : ¬ (k : Int) < (L.length : Int) := by omega
        have HE : Hid (wt21 (L.take k) = WT) := by show _ = _; rw [HWT.out, List.take_of_length_le (by omega)]
        rw [HE.out]
        have c1 := conv13 (own_rwx HX9.out) HV.out.2.2.2.1
        have c2 := conv13 (HV.out.2.1.below HB9.out) HV.out.2.2.2.1
        have e1 : ((bsA a).toList == (bsA a).toList) = true := by simp
        generalize bsA a = s at *
        clear hlt hk
        go_wp2_with fail
        refine (same21 _ _ L L _ HT9.out (HV.out.2.2.1.below HB9.out) HV.out.2.2.2.2.1 HV.out.2.2.2.2.1 (by have := HL.out; omega)).mono ?_
        rintro e wz ⟨rfl, hb⟩
        rw [smL_self]
        have HBz : Hid (Below w.heap.size w wz) := keepb hb HB9.out
        have c3 := conv13 (own_rwx (own_b13 hb HP9.out)) hpl.out
        have c4 := conv13 (own_rwx (own_b13 hb HR9.out)) hpl.out
        have c5 := conv13 (own_rwx (own_b13 hb HQ9.out)) hql.out
        have c6 := conv13 (own_rwx (own_b13 hb HS9.out)) hql.out
        have e2 : ((bsA P).toList == (bsA P).toList) = true := by simp
        have e3 : ((bsA Q).toList == (bsA Q).toList) = true := by simp
        generalize bsA P = sp at *
        generalize bsA Q = sq at *
        clear hb c1 c2 HX9 HT9 HP9 HQ9 HR9 HS9
        go_wp2
        go_ret
        exact ⟨by first | rfl | simp, HBz.out⟩
end Go.Proofs.YtiachojhnbicaaaDoor
namespace Go.Proofs.YtiachojhnbicaaaDoor
open Go.ChangeShapes Go.WideShapes Go.ChangeAt Go.RowKit Go.Joins
set_option linter.unusedSimpArgs false
set_option linter.unusedVariables false

theorem Tryd.laidOut : laidOutB Tryd.prog = true := by kernel_rfl
theorem reach13 : reachBytes ≤ 140737488351232 := by decide
section
variable {H : Type} {enc : TypeId × Value → H} {w : World} {spare : Nat → Bool} {held : Bool}
theorem RwX.map13 {α β : Type} {f : α → Value} {g : β → Value} (h : α → β) {v : Value} {l : List α} (hr : RwX f w v l) (he : ∀ x ∈ l, f x = g (h x)) : RwX g w v (l.map h) := by
  obtain ⟨ao, c, e, hc, hr⟩ := hr
  refine ⟨ao, c, by rw [List.length_map]; exact e, by rw [List.length_map]; exact hc, ?_⟩
  rcases hr with hr | ⟨b, off, e, hr⟩
  · exact .inl (by rw [hr]; rfl)
  · refine .inr ⟨b, off, e, fun j x hj => ?_⟩
    rw [List.getElem?_map] at hj
    cases hx : l[j]? with
    | none => rw [hx] at hj; cases hj
    | some y =>
      rw [hx] at hj
      simp only [Option.map_some, Option.some.injEq] at hj
      rw [hr j y hx, he y (List.mem_of_getElem? hx), hj]
set_option maxRecDepth 100000 in
theorem open_ints13 {t e : TypeId} {k : IntKind} (ht : Tryd.prog.underlying t = some (.slice e)) (he : Tryd.prog.underlying e = some (.int k)) (hce : Tryd.prog.cellsOf e = 1) {r : Reach} {b0 : Nat} {v : Value} {d : DataW H} {p : List MemPlace} (hv : Value.okWide Tryd.prog w r b0 t v) (h : DataW.Trod enc Tryd.prog w 0 (fun _ => true) held t v d p) :
    ∃ l : List Int, RowA w 1 v l.length (l.map fun a => .int k a) ∧ RwX (fun a => Value.int k a) w v l ∧ (∀ a ∈ l, (Lit.int k a).wf = true) ∧ (l = [] ∨ ∃ el sp, d = .slice el sp ∧ el.length = l.length) := by
  obtain ⟨a0, len, cap, rfl⟩ := okWide_slice ht hv
  obtain ⟨fuel, hf⟩ := h
  rcases Deep.open_slice ht hf with ⟨hcs, hx⟩ | ⟨a, len', cap', m, n, D, Pl, hcs, _, hl, hm, hmm, hx, hel⟩
  · simp [Value.cells] at hcs
    obtain ⟨rfl, rfl, rfl⟩ := hcs
    exact ⟨[], ⟨rfl, none, 0, rfl, Nat.le_refl _, .inl ⟨rfl, rfl, rfl⟩⟩, ⟨none, 0, rfl, Nat.le_refl _, .inl rfl⟩, (fun _ h => by cases h), .inl rfl⟩
  · simp [Value.cells] at hcs
    obtain ⟨rfl, rfl, rfl⟩ := hcs
    simp at hmm
    subst hmm
    rw [hce] at hel
    obtain ⟨f, hf⟩ := Deep.choose_lt (α := Int) (n := len) (p := fun i x => w.cell? (a.add i) = some (.int k x) ∧ (Lit.int k x).wf = true) (fun i hi => by
      obtain ⟨cs', h1, h2⟩ := hel i (by omega)
      obtain ⟨_, hlen, hc⟩ := World.cells?_some h1
      match cs', hlen with
      | [c0], _ =>
        obtain ⟨x, ex, -, wx⟩ := DataW.trod_int he h2
        simp at ex
        subst ex
        refine ⟨x, ?_, wx⟩
        have := hc 0 (by omega)
        simpa [Addr.add] using this)
    have hlen : ((List.range len).map f).length = len := by simp
    have hcells : ∀ j x, ((List.range len).map f)[j]? = some x → w.cell? (a.add j) = some (.int k x) := by
      intro j x hj
      have hlt : j < len := by have := (List.getElem?_eq_some_iff.1 hj).1; simpa using this
      rw [List.getElem?_map, List.getElem?_range hlt] at hj
      simp only [Option.map_some, Option.some.injEq] at hj
      rw [← hj]; exact (hf j hlt).1
    refine ⟨(List.range len).map f, ⟨by simp, some a, m, by rw [hlen], by rw [hlen]; exact hl, .inr ⟨a, rfl, fun j u hj => ?_⟩⟩, ⟨some a, m, by rw [hlen], by rw [hlen]; exact hl, ?_⟩, ?_, ?_⟩
    · rw [List.getElem?_map] at hj
      cases hx : ((List.range len).map f)[j]? with
      | none => rw [hx] at hj; cases hj
      | some y =>
        rw [hx] at hj
        simp only [Option.map_some, Option.some.injEq] at hj
        rw [← hj]; exact hcells j y hx
    · by_cases hz : len = 0
      · subst hz
        exact .inl (by simp)
      · have h00 := (hf 0 (by omega)).1
        have ea : a = ⟨a.block, a.off, none⟩ := by
          have : a.add 0 = a := by simp [Addr.add]
          rw [this] at h00
          exact spot9 h00
        refine .inr ⟨a.block, a.off, by rw [← ea], fun j u hj => ?_⟩
        have := hcells j u hj
        rw [ea, addA] at this
        exact this
    · intro x hx
      simp only [List.mem_map, List.mem_range] at hx
      obtain ⟨i, hi, rfl⟩ := hx
      exact (hf i hi).2
    · simp only [Prod.mk.injEq] at hx
      exact .inr ⟨_, _, hx.1, by simp⟩
end
end Go.Proofs.YtiachojhnbicaaaDoor
namespace Go.Proofs.YtiachojhnbicaaaDoor
open Go.ChangeShapes Go.WideShapes Go.ChangeAt Go.RowKit Go.Joins
set_option linter.unusedSimpArgs false
set_option linter.unusedVariables false

section
variable {H : Type} {enc : TypeId × Value → H} {w : World} {spare : Nat → Bool} {held : Bool}
set_option maxRecDepth 100000 in
theorem open_in13 {t e : TypeId} {k : IntKind} (ht : Tryd.prog.underlying t = some (.slice e)) (he : Tryd.prog.underlying e = some (.int k)) (hce : Tryd.prog.cellsOf e = 1) {fuel : Nat} {v : Value} {x : DataW H × List MemPlace} (h : DataW.trod enc Tryd.prog w 0 (fun _ => true) held fuel t [v] = some x) :
    ∃ l : List Int, RowA w 1 v l.length (l.map fun a => .int k a) ∧ RwX (fun a => Value.int k a) w v l ∧ (∀ a ∈ l, (Lit.int k a).wf = true) ∧ (l = [] ∨ ∃ el sp, x.1 = .slice el sp ∧ el.length = l.length) := by
  rcases Deep.open_slice1 ht hce h with ⟨hcs, hx⟩ | ⟨a, len, cap, m, n, V, D, Pl, hcs, _, hl, hm, hmm, hx, hel⟩
  · injection hcs with hcs
    subst hcs
    exact ⟨[], ⟨rfl, none, 0, rfl, Nat.le_refl _, .inl ⟨rfl, rfl, rfl⟩⟩, ⟨none, 0, rfl, Nat.le_refl _, .inl rfl⟩, (fun _ h => by cases h), .inl rfl⟩
  · injection hcs with hcs
    subst hcs
    simp at hmm
    subst hmm
    obtain ⟨f, hf⟩ := Deep.choose_lt (α := Int) (n := len) (p := fun i x => w.cell? (a.add i) = some (.int k x) ∧ (Lit.int k x).wf = true) (fun i hi => by
      obtain ⟨h1, h2⟩ := hel i (by omega)
      obtain ⟨x, ex, -, wx⟩ := DataW.trod_int he h2
      simp at ex
      rw [ex] at h1
      exact ⟨x, h1, wx⟩)
    have hlen : ((List.range len).map f).length = len := by simp
    have hcells : ∀ j x, ((List.range len).map f)[j]? = some x → w.cell? (a.add j) = some (.int k x) := by
      intro j x hj
      have hlt : j < len := by have := (List.getElem?_eq_some_iff.1 hj).1; simpa using this
      rw [List.getElem?_map, List.getElem?_range hlt] at hj
      simp only [Option.map_some, Option.some.injEq] at hj
      rw [← hj]; exact (hf j hlt).1
    refine ⟨(List.range len).map f, ⟨by simp, some a, m, by rw [hlen], by rw [hlen]; exact hl, .inr ⟨a, rfl, fun j u hj => ?_⟩⟩, ⟨some a, m, by rw [hlen], by rw [hlen]; exact hl, ?_⟩, ?_, ?_⟩
    · rw [List.getElem?_map] at hj
      cases hx : ((List.range len).map f)[j]? with
      | none => rw [hx] at hj; cases hj
      | some y =>
        rw [hx] at hj
        simp only [Option.map_some, Option.some.injEq] at hj
        rw [← hj]; exact hcells j y hx
    · by_cases hz : len = 0
      · subst hz
        exact .inl (by simp)
      · have h00 := (hf 0 (by omega)).1
        have ea : a = ⟨a.block, a.off, none⟩ := by
          have : a.add 0 = a := by simp [Addr.add]
          rw [this] at h00
          exact spot9 h00
        refine .inr ⟨a.block, a.off, by rw [← ea], fun j u hj => ?_⟩
        have := hcells j u hj
        rw [ea, addA] at this
        exact this
    · intro x hx
      simp only [List.mem_map, List.mem_range] at hx
      obtain ⟨i, hi, rfl⟩ := hx
      exact (hf i hi).2
    · rw [hx]
      exact .inr ⟨_, _, rfl, by simp⟩
theorem weightsAll_mem {P : Program} {e : TypeId} {n : Nat} {d : DataW H} : ∀ {el : List (DataW H)}, d ∈ el → n ∈ d.weights P e → n ∈ DataW.weightsAll P e el
  | x :: el, hd, hn => by
    rcases List.mem_cons.1 hd with rfl | hd
    · simp [DataW.weightsAll, hn]
    · simp [DataW.weightsAll, weightsAll_mem hd hn]
end
end Go.Proofs.YtiachojhnbicaaaDoor
