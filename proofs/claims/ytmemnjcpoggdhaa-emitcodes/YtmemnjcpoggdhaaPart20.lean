/-
  Part 20 of the proof: 5 texts, one behind the other.
-/
import Derived.Test.YtmemnjcpoggdhaaPart19
import Derived.Deep.RegionHeld3
import Derived.Deep.AppendLies
import Derived.Laws.AppendOwnNone
import Derived.Test.YtmemnjcpoggdhaaPart17
import Derived.Test.YtmemnjcpoggdhaaPart18
namespace Go.Proofs.Ytmemnjcpoggdhaa
open Go.RowKit
set_option linter.unusedSimpArgs false
set_option linter.unusedVariables false
attribute [local go_sem] Oper.semAt_some

theorem step_append_rowA16 {P : Program} {w : World} {ops : Array Oper} {o : Oper} {a : Act} {K : Act → World → Prop} {Q : Exit → Act → World → Prop} {E : Prop} (hgd : o.guard = none) (s x : Operand) (t : TypeId)
    (ho : o.op = .call { callee := .builtin .append, args := #[s, x], argTypes := #[t, t] })
    (base : Nat) (e : TypeId) (i : TypeInfo) (z : Value) (size bytes : Nat) (ht : P.underlying t = some (.slice e)) (hi : P.info? e = some i) (hz : i.zero = some z)
    (hsize : i.size = size) (hby : i.bytes = bytes) (hzs : z.cells.size = size) (hsz : 0 < size)
    (v : Value) (n : Nat) (xs : List Value) (hs : a.eval s = v) (hown : w.ownsRow base e size v n xs)
    (vx : Value) (m : Nat) (news : List Value) (hx : a.eval x = vx) (hsrc : RowA w size vx m news) (h1 : ∀ y ∈ news, y.oneCell' = true)
    (h63 : n + m ≤ maxLen) (hbytes : (n + m) * bytes ≤ 140737488355328) (hbase : base ≤ w.heap.size)
    (h : ∀ ao cap w', w'.ownsRow base e size (.slice ao (n + m) cap) (n + m) (xs ++ news) → w.grownBy w' v.ownBlock → K (a.put o.dst (.slice ao (n + m) cap)) w') :
    if Region.wanted o (yielded ops a.tmps) = true then Oper.wp P o a w K Q else E := by
  have hw : Region.wanted o (yielded ops a.tmps) = true := by simp [Region.wanted, hgd]
  rw [if_pos hw]
  obtain ⟨hl, xo, c, rfl, hcc, hsrc⟩ := hsrc
  rcases hsrc with ⟨rfl, rfl, rfl⟩ | ⟨ad, rfl, hc⟩
  · have : news = [] := List.eq_nil_of_length_eq_zero (by omega)
    subst this
    obtain ⟨ao, cp, hv⟩ := own_form hown
    have hK := h ao cp w (by rw [List.append_nil, Nat.add_zero, ← hv]; exact hown) ⟨rfl, rfl, rfl, Nat.le_refl _, fun _ _ _ => rfl⟩
    rw [Nat.add_zero, ← hv] at hK
    have hrun := run_append_owned_none (P := P) (w := w) base t o.type e i size ht hi v n xs hown
    unfold Oper.wp
    simp [execOp, ho, resolve, invoke, builtin, hs, hx, hrun, Result.andThen]
    exact hK
  · refine wp_append_own w s x t ho base e i z size bytes ht hi hz hsize hby hzs hsz v n xs hs hown ad m c news hx hl hc h1 h63 hbytes hbase ?_
    intro v' w' h2 h3 _
    obtain ⟨ao, cp, hv⟩ := own_form h2
    rw [hv]
    rw [hv] at h2
    exact h ao cp w' h2 h3
def TwIn (w : World) (v : Value) (L : List Nde) : Prop := ∃ ao c, v = .slice ao L.length c ∧ L.length ≤ c ∧ (L = [] ∨ ∃ b off, ao = some ⟨b, off, none⟩ ∧ ∀ j d, L[j]? = some d → ∃ vr, w.cell? ⟨b, off + j * 2, none⟩ = some (.int .i64 d.b) ∧ w.cell? ⟨b, off + j * 2 + 1, none⟩ = some vr ∧ RowA w 4 vr d.r.length (rowN d.r))
theorem nds_tw {w : World} {v : Value} {V : List Value} {L : List Nde} (h : NdsIn w v V L) : TwIn w v L := by
  obtain ⟨ao, c, hv, hc, hr⟩ := id h.d
  refine ⟨ao, c, hv, hc, ?_⟩
  rcases hr with hr | ⟨b, off, e, hr⟩
  · exact .inl hr
  · refine .inr ⟨b, off, e, fun j d hj => ?_⟩
    obtain ⟨vr, h1, h2, h3⟩ := hr j d hj
    have hjl : j < V.length := by rw [h.l]; exact (List.getElem?_eq_some_iff.mp hj).1
    obtain ⟨b', off', e', c1, c2⟩ := h.c ao c hv j V[j] d (List.getElem?_eq_getElem hjl) hj
    rw [e] at e'
    injection e' with e'
    injection e' with e1 e2
    subst e1 e2
    exact ⟨V[j], c1, c2, (h.e j V[j] d (List.getElem?_eq_getElem hjl) hj).a⟩
theorem TwIn.below {w w' : World} {v : Value} {L : List Nde} (h : TwIn w v L) (hb : Below w.heap.size w w') : TwIn w' v L := by
  obtain ⟨ao, c, e, hc, h⟩ := h
  refine ⟨ao, c, e, hc, h.imp id ?_⟩
  rintro ⟨b, off, e, h⟩
  refine ⟨b, off, e, fun j d hj => ?_⟩
  obtain ⟨vr, h1, h2, h3⟩ := h j d hj
  exact ⟨vr, keepc hb h1, keepc hb h2, h3.below hb⟩
theorem rowN_get : ∀ (l : List Rn) (j : Nat) (r : Rn), l[j]? = some r → (rowN l)[j * 4]? = some (.int .u64 (hI r.f)) ∧ (rowN l)[j * 4 + 1]? = some (.int .u64 (lI r.f)) ∧ (rowN l)[j * 4 + 2]? = some (.bool r.k) ∧ (rowN l)[j * 4 + 3]? = some (.int .i64 r.n)
  | [], j, r, h => by simp at h
  | x :: l, 0, r, h => by
    simp at h
    subst h
    unfold rowN
    rw [List.flatMap_cons]
    exact ⟨rfl, rfl, rfl, rfl⟩
  | x :: l, j + 1, r, h => by
    have ih := rowN_get l j r (by simpa using h)
    have e : ∀ t, (rowN (x :: l))[(j + 1) * 4 + t]? = (rowN l)[j * 4 + t]? := fun t => by
      have : rowN (x :: l) = [Value.int .u64 (hI x.f), .int .u64 (lI x.f), .bool x.k, .int .i64 x.n] ++ rowN l := by unfold rowN; rw [List.flatMap_cons]
      rw [this, List.getElem?_append_right (by simp; omega)]
      congr 1
      simp; omega
    have e0 := e 0
    simp only [Nat.add_zero] at e0
    rw [e0, e, e, e]
    exact ih
theorem own_rwn16 {W : World} {base : Nat} {v : Value} {l : List Rn} (h : W.ownsRow base 68 4 v l.length (rowN l)) : RwN W v l := by
  by_cases hl : l = []
  · subst hl
    obtain ⟨ao, c, hv⟩ := own_form h
    exact ⟨ao, c, hv, Nat.zero_le _, .inl rfl⟩
  · have hp := List.length_pos_iff.mpr hl
    obtain ⟨g, c, hv, hc⟩ : ∃ g c, v = .slice (some ⟨g, 0, none⟩) l.length c ∧ l.length ≤ c := by
      rcases h.2 with ⟨-, h0⟩ | ⟨g, c, cur, e, -, -, h3, -⟩
      · omega
      · exact ⟨g, c, e, h3⟩
    subst hv
    refine ⟨_, c, rfl, hc, .inr ⟨g, 0, rfl, fun j r hj => ?_⟩⟩
    have hjl := (List.getElem?_eq_some_iff.mp hj).1
    obtain ⟨c0, c1, c2, c3⟩ := rowN_get l j r hj
    have q := fun t (ht : t < l.length * 4) => h.cellAt t ht
    rw [Nat.zero_add]
    exact ⟨(q _ (by omega)).trans c0, (q _ (by omega)).trans c1, (q _ (by omega)).trans c2, (q _ (by omega)).trans c3⟩
theorem rwn_blk16 {w W : World} {v : Value} {l : List Rn} (h : RwN w v l) (hk : ∀ z, v.ownBlock = some z → z < w.heap.size → W.heap[z]? = w.heap[z]?) : RwN W v l := by
  obtain ⟨ao, c, e, hc, h⟩ := h
  refine ⟨ao, c, e, hc, h.imp id ?_⟩
  rintro ⟨b, off, e2, h⟩
  refine ⟨b, off, e2, fun j r hj => ?_⟩
  obtain ⟨c0, c1, c2, c3⟩ := h j r hj
  have hb := hk b (by rw [e, e2]; rfl) (cell_in c0)
  have q := fun t => World.cell?_of_block (a := ⟨b, t, none⟩) hb
  exact ⟨(q _).trans c0, (q _).trans c1, (q _).trans c2, (q _).trans c3⟩
def RwNX (w : World) (vb vr : Value) (l : List Rn) : Prop := ∀ W : World, (∀ z, z < w.heap.size → vb.ownBlock ≠ some z → W.heap[z]? = w.heap[z]?) → RwN W vr l
def rowD : List Nde → List Value → List Value
  | d :: L, v :: V => .int .i64 d.b :: v :: rowD L V
  | _, _ => []
theorem rowD_app : ∀ (L : List Nde) (V : List Value) (d : Nde) (v : Value), L.length = V.length → rowD (L ++ [d]) (V ++ [v]) = rowD L V ++ [.int .i64 d.b, v]
  | [], [], d, v, _ => rfl
  | x :: L, y :: V, d, v, h => by
    show _ :: _ :: rowD (L ++ [d]) (V ++ [v]) = _
    rw [rowD_app L V d v (by simpa using h)]; rfl
  | [], y :: V, d, v, h => by simp at h
  | x :: L, [], d, v, h => by simp at h
theorem rowD_get : ∀ (L : List Nde) (V : List Value) (j : Nat) (d : Nde) (v : Value), L[j]? = some d → V[j]? = some v → (rowD L V)[j * 2]? = some (.int .i64 d.b) ∧ (rowD L V)[j * 2 + 1]? = some v
  | [], V, j, d, v, h, _ => by simp at h
  | x :: L, [], j, d, v, _, h => by simp at h
  | x :: L, y :: V, 0, d, v, h1, h2 => by
    simp at h1 h2
    subst h1 h2
    exact ⟨rfl, rfl⟩
  | x :: L, y :: V, j + 1, d, v, h1, h2 => by
    have ih := rowD_get L V j d v (by simpa using h1) (by simpa using h2)
    have e0 : (j + 1) * 2 = j * 2 + 2 := by omega
    rw [e0]
    exact ih
theorem rwd_of {W : World} {base : Nat} {v : Value} {L : List Nde} {V : List Value} (h : W.ownsRow base 71 2 v L.length (rowD L V)) (hl : V.length = L.length) (hr : ∀ (j : Nat) (d : Nde) (vr : Value), L[j]? = some d → V[j]? = some vr → RwN W vr d.r) : RwD W v L := by
  by_cases hL : L = []
  · subst hL
    obtain ⟨ao, c, hv⟩ := own_form h
    exact ⟨ao, c, hv, Nat.zero_le _, .inl rfl⟩
  · have hp := List.length_pos_iff.mpr hL
    obtain ⟨g, c, hv, hc⟩ : ∃ g c, v = .slice (some ⟨g, 0, none⟩) L.length c ∧ L.length ≤ c := by
      rcases h.2 with ⟨-, h0⟩ | ⟨g, c, cur, e, -, -, h3, -⟩
      · omega
      · exact ⟨g, c, e, h3⟩
    subst hv
    refine ⟨_, c, rfl, hc, .inr ⟨g, 0, rfl, fun j d hj => ?_⟩⟩
    have hjl := (List.getElem?_eq_some_iff.mp hj).1
    have hvj : V[j]? = some V[j] := List.getElem?_eq_getElem (by omega)
    obtain ⟨c0, c1⟩ := rowD_get L V j d _ hj hvj
    rw [Nat.zero_add]
    exact ⟨V[j], (h.cellAt _ (by omega)).trans c0, (h.cellAt _ (by omega)).trans c1, hr j d _ hj hvj⟩
theorem Try.infoRn16 : (Try.prog.info? 68).map (fun i => (i.zero, i.size, i.bytes)) = some (some (.agg #[.int .u64 0, .int .u64 0, .bool false, .int .i64 0]), 4, 32) := by kernel_rfl
theorem Try.infoD16 : (Try.prog.info? 71).map (fun i => (i.zero, i.size, i.bytes)) = some (some (.agg #[.int .i64 0, .slice none 0 0]), 2, 32) := by kernel_rfl
theorem rowN_one (l : List Rn) : ∀ y ∈ rowN l, y.oneCell' = true := by
  intro y hy
  unfold rowN at hy
  obtain ⟨r, -, h⟩ := List.mem_flatMap.mp hy
  simp at h
  rcases h with h | h | h | h <;> subst h <;> rfl
theorem news_two16 (w : World) (x y : Value) (T : TypeId) : ∀ j u, [x, y][j]? = some u → (w.alloc (.cells #[x, y] T)).cell? ((⟨w.heap.size, 0, none⟩ : Addr).add j) = some u := by
  intro j u h
  match j, h with
  | 0, h => simp at h; subst h; simp [go_sem, Addr.add]
  | 1, h => simp at h; subst h; simp [go_sem, Addr.add]
  | j + 2, h => simp at h
theorem tw_step {w wr w1 w4 : World} {L : List Nde} {V : List Value} {k g cap m c1 : Nat} {vb vr : Value} {d : Nde} {x : Obj} (hV : ∀ (j : Nat) (d : Nde) (u : Value), L[j]? = some d → V[j]? = some u → RwNX wr vb u d.r)
    (hvb : ∀ z, vb.ownBlock = some z → z < wr.heap.size) (hb1 : Below wr.heap.size wr w1) (hr : RwN w1 vr d.r) (hrz : ∀ z, vr.ownBlock = some z → wr.heap.size ≤ z)
    (hg : (w1.alloc x).grownBy w4 vb.ownBlock) (hat : vb.ownBlock = some g ∨ g = (w1.alloc x).heap.size) (hVl : V.length = k) (hd : L[k]? = some d) :
    ∀ (j : Nat) (d : Nde) (u : Value), L[j]? = some d → (V ++ [vr])[j]? = some u → RwNX w4 (.slice (some ⟨g, 0, none⟩) m c1) u d.r := by
  have hs : (w1.alloc x).heap.size = w1.heap.size + 1 := by simp
  have s1 := hb1.size
  have s4 := hg.size
  have old : ∀ z, z < w1.heap.size → vb.ownBlock ≠ some z → w4.heap[z]? = w1.heap[z]? := fun z hz hn => (hg.block z (by omega) (fun e => hn e.symm)).trans (Below.heap_alloc w1 x z hz)
  intro j d' u h1 h2 W hW
  have hW' : ∀ z, z < w1.heap.size → vb.ownBlock ≠ some z → W.heap[z]? = w1.heap[z]? := fun z hz hn => by
    refine (hW z (by omega) ?_).trans (old z hz hn)
    intro e
    simp only [Value.ownBlock, Option.some.injEq] at e
    subst e
    rcases hat with h | h
    · exact hn h
    · omega
  by_cases hj : j < V.length
  · rw [List.getElem?_append_left hj] at h2
    refine hV j d' u h1 h2 W (fun z hz hn => ?_)
    exact (hW' z (by omega) hn).trans (hb1.block z hz)
  · have hjl := (List.getElem?_eq_some_iff.mp h2).1
    have : j = k := by simp at hjl; omega
    subst this
    rw [hd] at h1
    injection h1 with h1
    subst h1
    rw [List.getElem?_append_right (by omega), hVl] at h2
    simp at h2
    subst h2
    refine rwn_blk16 hr (fun z hz hlt => hW' z hlt (fun e => ?_))
    have := hvb z e
    have := hrz z hz
    omega
theorem two_one16 (b : Int) (ao : Option Addr) (n c : Nat) : ∀ u ∈ [Value.int .i64 b, .slice ao n c], u.oneCell' = true := by
  intro u hu
  simp at hu
  rcases hu with h | h <;> subst h <;> rfl
set_option maxRecDepth 100000 in
set_option maxHeartbeats 16000000 in
theorem twin_any (v : Value) (L : List Nde) (w : World) (hv : TwIn w v L) (hl : L.length ≤ 1000000) (hr : ∀ d ∈ L, d.r.length ≤ 1000000) :
    Calls Try.prog 11 #[v] w fun e w' => ∃ v', e = .returned v' ∧ RwD w' v' L ∧ Below w.heap.size w w' := by
  obtain ⟨i0, hi, hz0, hz1, hz2⟩ := info13 Try.infoRn16
  obtain ⟨j0, ji, jz0, jz1, jz2⟩ := info13 Try.infoD16
  obtain ⟨ao, c, rfl, hc, hrow⟩ := hv
  have HC := hid13 hrow
  have HL : Hid (L.length ≤ 1000000 ∧ ∀ d ∈ L, d.r.length ≤ 1000000) := ⟨hl, hr⟩
  have HO0 : Hid (w.ownsRow w.heap.size 71 2 (.slice none 0 0) 0 []) := World.ownsRow_nil _ _ _ _
  have HB0 := hid13 (Below.refl w.heap.size w)
  clear hr hrow
  go_enter Try.func11, Try.ntmps11
  go_wp2_with fail
  go_loopg [3, 4] L.length (fun g vb kv wr => ∃ (k : Nat) (V : List Value), k + g = L.length ∧ kv = .int .i64 (k : Int) ∧ Hid (wr.ownsRow w.heap.size 71 2 vb k (rowD (L.take k) V)) ∧ Hid (V.length = k) ∧ Hid (∀ (j : Nat) (d : Nde) (u : Value), L[j]? = some d → V[j]? = some u → RwNX wr vb u d.r) ∧ Hid (Below w.heap.size w wr))
  case atStart => exact ⟨0, [], by omega, rfl, HO0, rfl, (fun j d u _ h => by simp at h), HB0⟩
  case round =>
    clear HO0 HB0
    obtain ⟨k, V, hk, rfl, HO, HVl, HVr, HB⟩ := hrel
    by_cases hlt : (k : Int) < (L.length : Int)
    · have hks : k < L.length := by omega
      obtain ⟨b, off, rfl, hcell⟩ := HC.out.resolve_left (by rintro rfl; simp at hks)
      obtain ⟨d, hd⟩ : ∃ d, L[k]? = some d := ⟨_, List.getElem?_eq_getElem hks⟩
      obtain ⟨vr, x0, x1, hA⟩ := hcell k d hd
      have hdr := HL.out.2 d (List.mem_of_getElem? hd)
      have HD := hid13 hd
      have HT : Hid (L.take (k + 1) = L.take k ++ [d]) := by show _ = _; rw [List.take_succ_eq_append_getElem hks]; rw [List.getElem?_eq_getElem hks] at hd; injection hd with hd; rw [hd]
      have HA : Hid (∀ W, Below w.heap.size w W → W.cell? ⟨b, off + k * 2, none⟩ = some (.int .i64 d.b) ∧ W.cell? ⟨b, off + k * 2 + 1, none⟩ = some vr ∧ Below w.heap.size w W) := fun W h => ⟨keepc h x0, keepc h x1, h⟩
      have HRA := hid13 hA
      have mj : IntKind.i64.wrap ((k : Int) + 1) = (k : Int) + 1 := by rw [IntKind.wrap_i64]; omega
      have HK : Hid (k + gk = L.length ∧ k < L.length) := ⟨hk, hks⟩
      have h63 : k + 1 ≤ maxLen := by unfold maxLen; omega
      have h47 : (k + 1) * 32 ≤ 140737488355328 := by omega
      have h63a : 0 + d.r.length ≤ maxLen := by unfold maxLen; omega
      have h47a : (0 + d.r.length) * 32 ≤ 140737488355328 := by omega
      have hbl := HB.out.drew
      have hown : Hid (wr.drew.ownsRow w.heap.size 71 2 u3 k (rowD (L.take k) V)) := HO.out.drew
      obtain ⟨x0, x1, -⟩ := HA.out _ hbl
      have qd : Below wr.heap.size wr (wr.drew.alloc (.cells #[] 68)) := (Below.refl _ _).drew.alloc (Nat.le_refl _) _
      have hmade : Hid ((wr.drew.alloc (.cells #[] 68)).ownsRow wr.heap.size 68 4 (.slice (some ⟨wr.heap.size, 0, none⟩) 0 0) 0 []) := World.ownsRow_made wr.drew #[] 0 (Nat.le_refl _) (by unfold maxLen; omega) (by simp)
      have hsrc := hid13 ((HRA.out.below HB.out).below qd)
      have hbase : Hid (wr.heap.size ≤ (wr.drew.alloc (.cells #[] 68)).heap.size) := qd.size
      have tw_b1 : ∀ {w1 : World}, (wr.drew.alloc (.cells #[] 68)).grownBy w1 (Value.slice (some ⟨wr.heap.size, 0, none⟩) 0 0).ownBlock → Below wr.heap.size wr w1 := fun hg => qd.grown hg qd.size (fun z hz => by simp only [Value.ownBlock, Option.some.injEq] at hz; omega)
      have tw_own : ∀ {w1 : World}, Below wr.heap.size wr w1 → Hid (wr.ownsRow w.heap.size 71 2 u3 k (rowD (L.take k) V)) → Hid (w1.ownsRow w.heap.size 71 2 u3 k (rowD (L.take k) V)) := fun hb h => own_b13 hb h.out
      have hown0 := hid13 HB.out.size
      have tw_base : ∀ {w1 : World} {x : Obj}, Hid (w.heap.size ≤ wr.heap.size) → Below wr.heap.size wr w1 → w.heap.size ≤ (w1.alloc x).heap.size := fun h hb => by have := h.out; have := hb.size; simp; omega
      clear hd hcell hA hk hdr qd
      go_wp2_with fail
      go_region_held3 (fun w' => w'.cell? ⟨b, off + k * 2, none⟩ = some (.int .i64 d.b) ∧ w'.cell? ⟨b, off + k * 2 + 1, none⟩ = some vr ∧ Below w.heap.size w w')
        (first
          | exact HA.out _ hbl
          | (obtain ⟨-, -, k9⟩ := ‹_ ∧ _ ∧ Below _ _ _›; exact HA.out _ (k9.grown hgrow k9.size (fun z hz => (hown.out.lt z hz).1)))
          | (obtain ⟨-, -, k9⟩ := ‹_ ∧ _ ∧ Below _ _ _›; exact HA.out _ (keepb hb1 HB.out))
          | (obtain ⟨-, -, k9⟩ := ‹_ ∧ _ ∧ Below _ _ _›; exact HA.out _ (k9.alloc k9.size _))
          | (obtain ⟨-, -, k9⟩ := ‹_ ∧ _ ∧ Below _ _ _›; exact HA.out _ k9))
        (first
          | (refine step_append_rowA16 rfl (.tmp 17) (.tmp 22) 69 rfl wr.heap.size 68 i0 (.agg #[.int .u64 0, .int .u64 0, .bool false, .int .i64 0]) 4 32 Try.underlying69 hi hz0 hz1 hz2 rfl (by decide) _ 0 [] rfl hmade.out _ d.r.length (rowN d.r) rfl hsrc.out (rowN_one d.r) h63a h47a hbase.out ?_; intro o1 c1 w1 hO1 hg1; have hb1 := tw_b1 hg1; have hown := tw_own hb1 HO)
          | (refine step_append_lies _ rfl (.tmp 11) (.tmp 25) 22 rfl w.heap.size 71 j0 (.agg #[.int .i64 0, .slice none 0 0]) 2 32 Try.underlying22 ji jz0 jz1 jz2 rfl (by decide) _ _ _ rfl (hown.out.alloc _) _ 1 1 [_, _] rfl rfl (news_two16 _ _ _ _) (two_one16 _ _ _ _) (by decide) h63 h47 (tw_base hown0 hb1) _ rfl ?_; intro g cap w4 hown4 hgrow hat hlt4))
      obtain ⟨-, -, k9⟩ := ‹_ ∧ _ ∧ Below _ _ _›
      have HB4 := hid13 k9
      have hO1' : w1.ownsRow wr.heap.size 68 4 (.slice o1 d.r.length c1) d.r.length (rowN d.r) := by rw [Nat.zero_add, List.nil_append] at hO1; exact hO1
      have hgrow' : (w1.alloc (.cells #[.int .i64 d.b, .slice o1 d.r.length c1] 71)).grownBy w4 u3.ownBlock := hgrow
      have hat' : u3.ownBlock = some g ∨ g = (w1.alloc (.cells #[.int .i64 d.b, .slice o1 d.r.length c1] 71)).heap.size := hat
      have HV4 := hid13 (tw_step (w := w) (m := k + 1) (c1 := cap) (cap := cap) HVr.out (fun z hz => (HO.out.lt z hz).2) hb1 (own_rwn16 hO1') (fun z hz => (hO1'.lt z hz).1) hgrow' hat' HVl.out HD.out)
      have HO4 : Hid (w4.ownsRow w.heap.size 71 2 (.slice (some ⟨g, 0, none⟩) (k + 1) cap) (k + 1) (rowD (L.take (k + 1)) (V ++ [.slice o1 d.r.length c1]))) := by
        show World.ownsRow _ _ _ _ _ _ _
        rw [HT.out, rowD_app _ _ _ _ (by rw [HVl.out, List.length_take]; omega)]
        exact hown4
      have HVl4 : Hid ((V ++ [Value.slice o1 d.r.length c1]).length = k + 1) := by show _ = _; rw [List.length_append, HVl.out]; rfl
      clear hown4 hgrow hat hlt4 hown hO1 hg1 hO1' hgrow' hat' k9 x0 x1 HA hsrc hmade hbase tw_b1 tw_own tw_base hown0 HC HVr HO hb1
      go_wp2
      go_roundg (gk - 1)
      case measure => have := HK.out; omega
      case rel => exact ⟨k + 1, _, by have := HK.out; omega, rfl, HO4, HVl4, HV4, HB4⟩
    · have hke : k = L.length := by omega
      subst hke
      have HO2 := HO.out
      rw [List.take_of_length_le (Nat.le_refl _)] at HO2
      have HR := hid13 (rwd_of HO2 HVl.out (fun j d u h1 h2 => HVr.out j d u h1 h2 wr (fun _ _ _ => rfl)))
      clear HC HO2 HO HVr
      go_wp2
      go_ret
      exact ⟨_, rfl, HR.out, HB.out⟩
end Go.Proofs.Ytmemnjcpoggdhaa
namespace Go.Proofs.Ytmemnjcpoggdhaa
open Go.RowKit
set_option linter.unusedSimpArgs false
set_option linter.unusedVariables false

structure EpOk (L : List Nde) (o P : List Int) (n : Nat) : Prop where
  pl : P.length = L.length
  at' : ∀ (i k : Nat) (d : Nde), o[i]? = some (k : Int) → L[k]? = some d → P[k]? = some ((wsum L (o.take i) : Nat) : Int) ∧ wdsE d = 0 ∧ wsum L (o.take (i + 1)) = wsum L (o.take i) + szN d ∧ ∀ r ∈ d.r, r.k = true → ∃ (q : Nat) (y : Nat), r.n = (q : Int) ∧ q < L.length ∧ P[q]? = some (y : Int) ∧ wsum L (o.take i) < y
  sum : wsum L o = n
  le : ∀ i, wsum L (o.take i) ≤ n
theorem ep_ok {L : List Nde} {P : List Int} {n : Nat} (ok : NdsOk L) (hp : plG L (ordL L) (List.replicate L.length 0) 0 = some (P, n)) : EpOk L (ordL L) P n := by
  have ho := ord_ok ok
  have hin := ord_in ok
  have pl := pl_ok (ordL L) _ P 0 n ho.nd (fun k hk => by have := hin k hk; simp; omega) hp
  generalize ordL L = o at *
  have hs : wsum L o = n := by have := pl.n; omega
  refine ⟨by rw [pl.len]; simp, fun i k d hi hd => ?_, hs, fun i => ?_⟩
  · obtain ⟨hil, he⟩ := List.getElem?_eq_some_iff.mp hi
    have hsp : o = o.take i ++ (k : Int) :: o.drop (i + 1) := by
      rw [← he, List.getElem_cons_drop, List.take_append_drop]
    have hsz : L.getD (k : Int).toNat ⟨0, []⟩ = d := by rw [Int.toNat_natCast, List.getD_eq_getElem?_getD, hd]; rfl
    have nd := ok.2 k d hd
    have hb := pl.bits (k : Int) (List.mem_of_getElem? hi)
    rw [hsz] at hb
    have h1 := pl.at' _ _ _ hsp
    rw [Int.toNat_natCast, Nat.zero_add] at h1
    refine ⟨h1, ?_, ?_, fun r hr hk => ?_⟩
    · have hbb : bitsB d.b = true := by unfold bitsB; have := nd.b0; have := nd.b1; simp; omega
      unfold wdsE
      rw [if_pos hbb, if_pos nd.io, if_pos hb]
    · rw [List.take_succ_eq_append_getElem hil, wsum_app, he]
      show _ + (szN (L.getD (k : Int).toNat ⟨0, []⟩) + 0) = _
      rw [hsz]; omega
    · obtain ⟨a1, a2, a3⟩ := ok.lead hd hr hk
      have hin2 := ho.kid _ (k : Int) _ hsp d r (by rw [Int.toNat_natCast]; exact hd) hr hk
      obtain ⟨B1, B2, hB⟩ := List.append_of_mem hin2
      have hat := pl.at' (o.take i ++ (k : Int) :: B1) r.n B2 (by rw [List.append_assoc, List.cons_append, ← hB]; exact hsp)
      rw [Nat.zero_add, wsum_app] at hat
      have hs1 : wsum L ((k : Int) :: B1) = szN d + wsum L B1 := by
        show szN (L.getD (k : Int).toNat ⟨0, []⟩) + wsum L B1 = _
        rw [hsz]
      rw [hs1] at hat
      have := sz_pos d
      exact ⟨r.n.toNat, _, by omega, by omega, hat, by omega⟩
  · rw [← hs]
    conv => rhs; rw [← List.take_append_drop i o, wsum_app]
    omega
end Go.Proofs.Ytmemnjcpoggdhaa
namespace Go.Proofs.Ytmemnjcpoggdhaa
open Go.RowKit Go.Shelf
set_option linter.unusedSimpArgs false
set_option linter.unusedVariables false
attribute [local go_sem] Oper.semAt_some

theorem NdsOk.nokid {L : List Nde} (ok : NdsOk L) {k : Nat} {d : Nde} (hd : L[k]? = some d) (hb : d.b = 0) : ∀ r ∈ d.r, r.k = false := by
  intro r hr
  cases hk : r.k with
  | false => rfl
  | true =>
    have o := ok.2 k d hd
    have h1 := o.kid r hr hk
    have h2 := o.bz hb
    omega
set_option maxRecDepth 100000 in
set_option maxHeartbeats 16000000 in
theorem rcode16_any (F : Int) (v : Value) (L : List Nde) (most : Int) (w : World) (hv : RwD w v L) (hl : L.length ≤ 1000000) (hr : ∀ d ∈ L, d.r.length ≤ 1000000) :
    Calls Try.prog 20 #[.int .i64 F, v, .int .i64 most] w fun e w' => ∃ v', e = .returned (.tuple #[v', .int .i64 (codE F L most)]) ∧ w'.ownsRow w.heap.size 5 1 v' (codB F L most).length ((codB F L most).map cB) ∧ Below w.heap.size w w' := by
  obtain ⟨u0, hu, hy0, hy1, hy2⟩ := info13 Try.infoB13
  have KL := rplaces16_any F v L w hv hl hr
  have HLw := hid13 (lay_words (F := F) (L := L) (by omega) (fun d hd => by have := hr d hd; omega))
  have HLz := hid13 (fun h => lay_zero (F := F) (L := L) h)
  have HV := hid13 hv
  have HS : Hid (L.length ≤ 1000000 ∧ ∀ d ∈ L, d.r.length ≤ 1000000) := ⟨hl, hr⟩
  have HE : Hid (∀ R, layR F L = R → codE F L most = (if R.2 = 0 then (if min most 4194304 < 4 * (R.1.2.2 : Int) then 18 else 0) else R.2) ∧ codB F L most = if codE F L most = 0 then lyB L R.1.2.1 0 R.1.1 else []) := hid13 (fun R h => by subst h; exact ⟨rfl, rfl⟩)
  generalize codE F L most = cE at *
  generalize codB F L most = cB' at *
  generalize layR F L = R at *
  obtain ⟨⟨o, P, n⟩, e⟩ := R
  dsimp only at KL HLw HLz
  obtain ⟨ao, c, hvf, -, hrow⟩ := id hv
  have HRow := hid13 hrow
  subst hvf
  clear hv hr hl hrow
  go_enter Try.func20, Try.ntmps20
  go_wp2_with fail
  refine KL.mono ?_
  rintro e2 w2 ⟨vp, rfl, hp, hb⟩
  have HP := hid13 hp
  have HB := hid13 hb
  obtain ⟨pa, pc, hvp⟩ := own_form hp
  subst hvp
  clear KL hp hb
  by_cases h0 : e = 0
  · obtain ⟨ok, hck, hpl, hoo⟩ := HLz.out h0
    have hE := HE.out _ rfl
    dsimp only at hE
    rw [if_pos h0] at hE
    obtain ⟨b4, hb4⟩ : ∃ b4, b4 = 4 * (n : Int) := ⟨_, rfl⟩
    have m4' : wrap64 (4 * (n : Int)) = b4 := by unfold wrap64; have := HLw.out; omega
    have HH4 := hid13 hb4
    subst h0
    by_cases hc1 : most < b4
    · have HE2 : Hid (cE = 18 ∧ cB' = []) := by
        have h1 : cE = 18 := by rw [hE.1, if_pos (by omega)]
        exact ⟨h1, by rw [hE.2, h1]; rfl⟩
      clear hE HE HLz hb4 ok hck hpl hoo
      go_wp2
      refine bodyPost_ret (v := .tuple #[.slice none 0 0, .int .i64 18]) (by simp [results, Try.results20, go_sem]) rfl ⟨_, by rw [HE2.out.1], ?_, HB.out⟩
      rw [HE2.out.2]; exact World.ownsRow_nil _ _ _ _
    by_cases hc2 : 4194304 < b4
    · have HE2 : Hid (cE = 18 ∧ cB' = []) := by
        have h1 : cE = 18 := by rw [hE.1, if_pos (by omega)]
        exact ⟨h1, by rw [hE.2, h1]; rfl⟩
      clear hE HE HLz hb4 ok hck hpl hoo
      go_wp2
      refine bodyPost_ret (v := .tuple #[.slice none 0 0, .int .i64 18]) (by simp [results, Try.results20, go_sem]) rfl ⟨_, by rw [HE2.out.1], ?_, HB.out⟩
      rw [HE2.out.2]; exact World.ownsRow_nil _ _ _ _
    have hn : n ≤ 1048576 := by omega
    obtain ⟨hlo, hws⟩ := lay_ok ok hpl hn
    have hep := ep_ok ok hpl
    have hol := ord_len ok
    have hin := ord_in ok
    have HE2 : Hid (cE = 0 ∧ cB' = lyB L P 0 o) := by
      have h1 : cE = 0 := by rw [hE.1, if_neg (by omega)]
      exact ⟨h1, by rw [hE.2, if_pos h1]⟩
    have KO := rorder12_any _ L w2 (HV.out.below HB.out) ok HS.out.1 HS.out.2
    rw [← hoo] at hlo hws hep hol hin KO
    have HN : Hid (n ≤ 1048576 ∧ o.length ≤ L.length ∧ L.length ≤ 1000000 ∧ wsum L o = n) := ⟨hn, hol, HS.out.1, hws⟩
    have HLo := hid13 hlo
    have HEp := hid13 hep
    have HIn := hid13 hin
    have HOk := hid13 ok
    obtain ⟨nb, nof, e5, hnc⟩ := HRow.out.resolve_left (by rintro rfl; exact absurd ok.1 (by simp))
    subst e5
    have HNc := hid13 hnc
    clear hE HE HLz hb4 ok hck hpl hoo hlo hws hn hep hol hin hnc
    go_wp2_with fail
    refine KO.mono ?_
    rintro e3 w3 ⟨vo, rfl, ho3, hb3⟩
    obtain ⟨oa, oc, hvo⟩ := own_form ho3
    subst hvo
    have HRo := hid13 (own_rwx ho3)
    have HRp := hid13 ((own_rwx HP.out).below hb3)
    have HB3 := hid13 (keepb hb3 HB.out)
    clear KO ho3 hb3 HP HB m4' hc1 hc2
    go_wp2_with fail
    go_loopg [11, 13] o.length (fun g bv iv wr => ∃ (i : Nat) (code : List Nat) (ab : Option Addr) (bc : Nat), i + g = o.length ∧ bv = .slice ab code.length bc ∧ iv = .int .i64 (i : Int) ∧ Hid (wr.ownsRow w3.heap.size 5 1 (.slice ab code.length bc) code.length (code.map cB) ∧ Below w3.heap.size w3 wr ∧ code.length = 4 * wsum L (o.take i) ∧ code ++ lyB L P (wsum L (o.take i)) (o.drop i) = lyB L P 0 o ∧ LayOk L P (wsum L (o.take i)) (o.drop i)))
    case atStart => exact ⟨0, [], none, 0, by omega, rfl, rfl, hid13 ⟨World.ownsRow_nil _ _ _ _, Below.refl _ _, rfl, rfl, HLo.out⟩⟩
    case round =>
      obtain ⟨i, code, ab, bc, hk, rfl, rfl, HI⟩ := hrel
      by_cases hlt : (i : Int) < (o.length : Int)
      · have hli : i < o.length := by omega
        obtain ⟨x, hx⟩ : ∃ x, o[i]? = some x := ⟨o[i], by simp [hli]⟩
        obtain ⟨hx0, hx1⟩ := HIn.out x (List.mem_of_getElem? hx)
        obtain ⟨k, rfl⟩ : ∃ k : Nat, x = (k : Int) := ⟨x.toNat, by omega⟩
        have hkL : k < L.length := by omega
        obtain ⟨⟨db, dr⟩, hd⟩ : ∃ d, L[k]? = some d := ⟨L[k], by simp [hkL]⟩
        obtain ⟨p1, p2, p3, -⟩ := HEp.out.at' i k _ hx hd
        have hle := HEp.out.le i
        have hle1 := HEp.out.le (i + 1)
        have hdr := HS.out.2 _ (List.mem_of_getElem? hd)
        obtain ⟨y1, -, y3⟩ := ly_drop (P := P) hx hd (wsum L (o.take i))
        obtain ⟨z1, z2⟩ := y3 HI.out.2.2.2.2
        have hnk := HOk.out.nokid hd
        obtain ⟨vr, x0, x1, hR⟩ := HNc.out k _ hd
        dsimp only at x0 hR hdr
        have x0 := keepc HB3.out x0
        have x1 := keepc HB3.out x1
        have hR := hR.below HB3.out
        obtain ⟨oa', oc', eo, -, hor⟩ := HRo.out
        injection eo with eo1 eo2 eo3
        subst eo1 eo3
        obtain ⟨ob, oof, rfl, hoc⟩ := hor.resolve_left (by rintro rfl; simp at hli)
        have co : w3.cell? ⟨ob, oof + i, none⟩ = some (.int .i64 (k : Int)) := hoc i _ hx
        obtain ⟨pa', pc', ep, -, hpr⟩ := HRp.out
        injection ep with ep1 ep2 ep3
        subst ep1 ep3
        obtain ⟨pb, pof, rfl, hpc⟩ := hpr.resolve_left (by rintro rfl; simp at p1)
        have cp : w3.cell? ⟨pb, pof + k, none⟩ = some (.int .i64 ((wsum L (o.take i) : Nat) : Int)) := hpc k _ p1
        have hkP : (k : Int) < (P.length : Int) := by have := (List.getElem?_eq_some_iff.mp p1).1; omega
        have HZ : Hid (code.length = 4 * wsum L (o.take i) ∧ wsum L (o.take (i + 1)) = wsum L (o.take i) + szN ⟨db, dr⟩ ∧ wsum L (o.take (i + 1)) ≤ n ∧ (ndB P (wsum L (o.take i)) ⟨db, dr⟩).length = 4 * szN ⟨db, dr⟩) := ⟨HI.out.2.2.1, p3, hle1, ndB_len z1⟩
        have HY : Hid (code ++ (ndB P (wsum L (o.take i)) ⟨db, dr⟩ ++ lyB L P (wsum L (o.take (i + 1))) (o.drop (i + 1))) = lyB L P 0 o ∧ LayOk L P (wsum L (o.take (i + 1))) (o.drop (i + 1))) := by
          rw [p3]
          exact ⟨by rw [← y1]; exact HI.out.2.2.2.1, z2⟩
        have KD := fun W (h : Below w3.heap.size w3 W) => rlaid_any db vr dr P (.slice (some ⟨pb, pof, none⟩) P.length pc) (wsum L (o.take i)) W (hR.below h) (HRp.out.below h) z1 hdr (by have := HN.out; omega) hnk
        obtain ⟨S1, hS1⟩ : ∃ S1, S1 = wsum L (o.take (i + 1)) := ⟨_, rfl⟩
        rw [← hS1] at HZ HY
        have HS1 := hid13 hS1
        generalize wsum L (o.take i) = a at *
        generalize ndB P a ⟨db, dr⟩ = B at *
        generalize szN ⟨db, dr⟩ = sz at *
        have HA : Hid (∀ W, Below w3.heap.size w3 W → W.cell? ⟨ob, oof + i, none⟩ = some (.int .i64 (k : Int)) ∧ W.cell? ⟨nb, nof + k * 2, none⟩ = some (.int .i64 db) ∧ W.cell? ⟨nb, nof + k * 2 + 1, none⟩ = some vr ∧ W.cell? ⟨pb, pof + k, none⟩ = some (.int .i64 (a : Int)) ∧ Below w3.heap.size w3 W) := fun W h => ⟨keepc h co, keepc h x0, keepc h x1, keepc h cp, h⟩
        have hbl := HI.out.2.1.drew
        have KDd := KD _ hbl
        have hki : (k : Int) < (L.length : Int) := by omega
        have h63 : code.length + B.length ≤ maxLen := by have := HZ.out; have := HN.out; unfold maxLen; omega
        have h47 : (code.length + B.length) * 1 ≤ 140737488355328 := by have := HZ.out; have := HN.out; omega
        have HO9 : Hid (wr.drew.ownsRow w3.heap.size 5 1 (.slice ab code.length bc) code.length (code.map cB)) := HI.out.1.drew
        have mj : IntKind.i64.wrap ((i : Int) + 1) = (i : Int) + 1 := by rw [IntKind.wrap_i64]; have := HN.out; omega
        have HK : Hid (i + gk = o.length ∧ i < o.length) := ⟨hk, hli⟩
        have HW : Hid (w3.heap.size ≤ wr.drew.heap.size) := hbl.size
        obtain ⟨va, vc, hvr, -, -⟩ := id hR
        subst hvr
        obtain ⟨c0, c1, c2, c3, -⟩ := HA.out _ hbl
        clear hd hx hk hor hoc hpr hpc co x0 x1 cp p1 p2 p3 hle hle1 y1 y3 z1 z2 hnk hR eo2 ep2 KD HI hS1 hdr
        go_wp2_with fail
        go_region_held3 (fun w' => w'.cell? ⟨ob, oof + i, none⟩ = some (.int .i64 (k : Int)) ∧ w'.cell? ⟨nb, nof + k * 2, none⟩ = some (.int .i64 db) ∧ w'.cell? ⟨nb, nof + k * 2 + 1, none⟩ = some (.slice va dr.length vc) ∧ w'.cell? ⟨pb, pof + k, none⟩ = some (.int .i64 (a : Int)) ∧ Below w3.heap.size w3 w')
          (first
            | exact HA.out _ hbl
            | (obtain ⟨-, -, -, -, k9⟩ := ‹_ ∧ _ ∧ _ ∧ _ ∧ Below _ _ _›; exact HA.out _ (k9.grown hgrow k9.size (fun z hz => (hown.out.lt z hz).1)))
            | (obtain ⟨-, -, -, -, k9⟩ := ‹_ ∧ _ ∧ _ ∧ _ ∧ Below _ _ _›; exact HA.out _ (keepb hb4 k9))
            | (obtain ⟨-, -, -, -, k9⟩ := ‹_ ∧ _ ∧ _ ∧ _ ∧ Below _ _ _›; exact HA.out _ k9))
          (first
            | (go_at_call 38; refine KDd.mono ?_; rintro e4 w4 ⟨v4, rfl, ho4, hb4⟩; have hown := hid13 (own_b13 hb4 HO9.out); have hsrc := hid13 (own_rowA ho4); have hbase := hid13 (Nat.le_trans HW.out hb4.size))
            | (refine step_append_rowA16 rfl (.tmp 41) (.tmp 57) 39 rfl w3.heap.size 5 u0 (.int .u8 0) 1 1 Try.underlying39 hu hy0 hy1 hy2 rfl (by decide) _ code.length (code.map cB) rfl hown.out _ B.length (B.map cB) rfl hsrc.out (cB_one B) h63 h47 hbase.out ?_; intro o5 c5 w5 hown5 hgrow))
        obtain ⟨-, -, -, -, k9⟩ := ‹_ ∧ _ ∧ _ ∧ _ ∧ Below _ _ _›
        have HB5 := hid13 k9
        have HO5 := hid13 hown5
        clear k9 hown5 hgrow hown hsrc hbase ho4 hb4 KDd HA c0 c1 c2 c3 h63 h47 HO9 HW
        have HC5 : Hid ((code ++ B).length = 4 * wsum L (o.take (i + 1)) ∧ (code ++ B) ++ lyB L P (wsum L (o.take (i + 1))) (o.drop (i + 1)) = lyB L P 0 o ∧ LayOk L P (wsum L (o.take (i + 1))) (o.drop (i + 1))) := by
          rw [← HS1.out]
          refine ⟨by rw [List.length_append]; have := HZ.out; omega, by rw [List.append_assoc]; exact HY.out.1, HY.out.2⟩
        have eC : code.length + B.length = (code ++ B).length := by rw [List.length_append]
        replace HO5 : Hid (w5.ownsRow w3.heap.size 5 1 (.slice o5 (code ++ B).length c5) (code ++ B).length ((code ++ B).map cB)) := by
          show World.ownsRow _ _ _ _ _ _ _
          rw [← eC, List.map_append]; exact HO5.out
        rw [eC]
        generalize code ++ B = C0 at *
        clear eC HZ HY HS1
        go_wp2
        go_roundg (gk - 1)
        case measure => have := HK.out; omega
        case rel => exact ⟨i + 1, C0, _, _, by have := HK.out; omega, rfl, rfl, hid13 ⟨HO5.out, HB5.out, HC5.out⟩⟩
      · have hie : i = o.length := by omega
        have HFo := hid13 (own_base16 (base' := w.heap.size) HI.out.1 HB3.out.size)
        have HFb := hid13 (keepb HI.out.2.1 HB3.out)
        have HFd : Hid (code = cB') := by
          have h := HI.out.2.2.2.1
          rw [List.drop_eq_nil_of_le (by omega)] at h
          show _ = _
          rw [HE2.out.2, ← h]
          show code = code ++ []
          rw [List.append_nil]
        clear HI hk hie
        go_wp2
        refine bodyPost_ret (v := .tuple #[.slice ab code.length bc, .int .i64 0]) (by simp [results, Try.results20, go_sem]) rfl ⟨_, by rw [HE2.out.1], ?_, HFb.out⟩
        rw [← HFd.out]; exact HFo.out
  · have hE := HE.out _ rfl
    dsimp only at hE
    rw [if_neg h0] at hE
    have HE2 : Hid (cE = e ∧ cB' = []) := ⟨hE.1, by rw [hE.2, hE.1, if_neg h0]⟩
    have hne : (e != 0) = true := by simpa using h0
    clear hE HE HLz
    go_wp2
    refine bodyPost_ret (v := .tuple #[.slice none 0 0, .int .i64 e]) (by simp [results, Try.results20, go_sem]) rfl ⟨_, by rw [HE2.out.1], ?_, HB.out⟩
    rw [HE2.out.2]; exact World.ownsRow_nil _ _ _ _
end Go.Proofs.Ytmemnjcpoggdhaa
namespace Go.Proofs.Ytmemnjcpoggdhaa
open Go.RowKit
set_option linter.unusedSimpArgs false
set_option linter.unusedVariables false
attribute [local go_sem] Oper.semAt_some

set_option maxRecDepth 100000 in
set_option maxHeartbeats 8000000 in
theorem same_any16 (v1 v2 : Value) (L : List Nde) (w : World) (h1 : RwD w v1 L) (h2 : RwD w v2 L) (hl : L.length ≤ 1000000) (hr : ∀ d ∈ L, d.r.length ≤ 1000000) :
    Calls Try.prog 16 #[v1, v2] w fun e w' => e = .returned (.bool true) ∧ Below w.heap.size w w' := by
  obtain ⟨ao, c, rfl, -, hrow⟩ := h1
  obtain ⟨ao2, c2, rfl, -, hrow2⟩ := h2
  have HC := hid13 hrow
  have HC2 := hid13 hrow2
  have HL := hid13 hr
  have HB := hid13 (Below.refl w.heap.size w)
  clear hrow hrow2 hr
  go_enter Try.func16, Try.ntmps16
  go_wp2_with fail
  go_loopg [5] L.length (fun g iv wr => ∃ k : Nat, k + g = L.length ∧ iv = .int .i64 (k : Int) ∧ Hid (Below w.heap.size w wr))
  case atStart => exact ⟨0, by omega, rfl, HB⟩
  case round =>
    clear HB
    obtain ⟨k, hk, rfl, HB⟩ := hrel
    by_cases hlt : (k : Int) < (L.length : Int)
    · have hks : k < L.length := by omega
      obtain ⟨b, off, rfl, hcell⟩ := HC.out.resolve_left (by rintro rfl; simp at hks)
      obtain ⟨b2, off2, rfl, hcell2⟩ := HC2.out.resolve_left (by rintro rfl; simp at hks)
      obtain ⟨⟨db, dr⟩, hd⟩ : ∃ d, L[k]? = some d := ⟨_, List.getElem?_eq_getElem hks⟩
      obtain ⟨vr, x0, x1, hR⟩ := hcell k _ hd
      obtain ⟨vr2, y0, y1, hR2⟩ := hcell2 k _ hd
      have hdr := HL.out _ (List.mem_of_getElem? hd)
      dsimp only at x0 y0 hR hR2 hdr
      obtain ⟨va, vc, rfl, -, hrr⟩ := hR
      obtain ⟨va2, vc2, rfl, -, hrr2⟩ := hR2
      have HR := hid13 hrr
      have HR2 := hid13 hrr2
      have HX1 := hid13 x1
      have HY1 := hid13 y1
      have x0 := keepc HB.out x0
      have y0 := keepc HB.out y0
      have x1 := keepc HB.out x1
      have y1 := keepc HB.out y1
      have HB2 := hid13 HB.out.drew
      obtain ⟨G, hG⟩ : ∃ G, G = gk := ⟨_, rfl⟩
      have HJ : Hid (k + G = L.length ∧ k < L.length ∧ G = gk) := ⟨by omega, by omega, hG⟩
      have mk : IntKind.i64.wrap ((k : Int) + 1) = (k : Int) + 1 := by rw [IntKind.wrap_i64]; omega
      clear hcell hcell2 hd hrr hrr2 hG hk
      go_wp2_with fail
      go_region
      go_wp2_with fail
      go_loopg [6] dr.length (fun g jv wr2 => ∃ j : Nat, j + g = dr.length ∧ jv = .int .i64 (j : Int) ∧ Hid (Below w.heap.size w wr2))
      case atStart => exact ⟨0, by omega, rfl, HB2⟩
      case round =>
        clear HB2 x0 y0 x1 y1
        obtain ⟨j, hj, rfl, HB3⟩ := hrel
        have x1 := keepc HB3.out HX1.out
        have y1 := keepc HB3.out HY1.out
        by_cases hlt3 : (j : Int) < (dr.length : Int)
        · have hjs : j < dr.length := by omega
          obtain ⟨rb, rof, rfl, hrc⟩ := HR.out.resolve_left (by rintro rfl; simp at hjs)
          obtain ⟨rb2, rof2, rfl, hrc2⟩ := HR2.out.resolve_left (by rintro rfl; simp at hjs)
          obtain ⟨r, hr⟩ : ∃ r, dr[j]? = some r := ⟨_, List.getElem?_eq_getElem hjs⟩
          obtain ⟨r0, r1, r2, r3⟩ := hrc j r hr
          obtain ⟨s0, s1, s2, s3⟩ := hrc2 j r hr
          have r0 := keepc HB3.out r0
          have r1 := keepc HB3.out r1
          have r2 := keepc HB3.out r2
          have r3 := keepc HB3.out r3
          have s0 := keepc HB3.out s0
          have s1 := keepc HB3.out s1
          have s2 := keepc HB3.out s2
          have s3 := keepc HB3.out s3
          have HB4 := hid13 HB3.out.drew
          have mj : IntKind.i64.wrap ((j : Int) + 1) = (j : Int) + 1 := by rw [IntKind.wrap_i64]; omega
          have HK : Hid (j + gk = dr.length ∧ j < dr.length) := ⟨hj, hjs⟩
          clear hrc hrc2 hr hj
          go_wp2_with fail
          go_region
          go_wp2
          go_roundg (gk - 1)
          case measure => have := HK.out; omega
          case rel => exact ⟨j + 1, by have := HK.out; omega, rfl, HB4⟩
        · clear hj
          go_wp2
          go_roundg (G - 1)
          case measure => have := HJ.out; omega
          case rel => exact ⟨k + 1, by have := HJ.out; omega, rfl, HB3⟩
    · go_wp2
      go_ret
      exact ⟨rfl, HB.out⟩
end Go.Proofs.Ytmemnjcpoggdhaa
namespace Go.Proofs.Ytmemnjcpoggdhaa
open Go.RowKit
set_option linter.unusedSimpArgs false
set_option linter.unusedVariables false
attribute [local go_sem] Oper.semAt_some

set_option maxRecDepth 20000 in
set_option maxHeartbeats 8000000 in
theorem small_any (v : Value) (L : List Nde) (w : World) (hv : RwD w v L) (hl : L.length ≤ 140737488355328) (hr : ∀ d ∈ L, d.r.length ≤ 140737488355328) :
    Calls Try.prog 18 #[v] w fun e w' => ∃ t, e = .returned (.bool t) ∧ (t = true → fewB L = true) ∧ w' = w := by
  have KF := few_any v L w hv hl hr
  obtain ⟨ao, c, rfl, hc, hrow⟩ := hv
  have HC := hid13 hrow
  have HF : Hid (fewB L = fewB L) := rfl
  have hl' : (L.length : Int) ≤ 140737488355328 := by omega
  generalize fewB L = fb at *
  clear hr hrow hl HF
  go_enter Try.func18, Try.ntmps18
  go_wp2_with fail
  go_loopw [3, 4] (fun nv kv wr => ∃ k n : Nat, k ≤ L.length ∧ k ≤ 500 ∧ nv = .int .i64 n ∧ kv = .int .i64 k ∧ n ≤ 20 * k ∧ wr = w) (fun _ kv _ => L.length - (intOf kv).toNat)
  case atStart => exact ⟨0, 0, by omega, by omega, rfl, rfl, by omega, rfl⟩
  case round =>
    obtain ⟨k, n, hk, hk5, rfl, rfl, hN, rfl⟩ := hrel
    have done : ∀ (Q : Unit → Prop), True := fun _ => trivial
    clear done
    by_cases hlt : (k : Int) < (L.length : Int)
    · by_cases h5 : (k : Int) < 500
      · have hks : k < L.length := by omega
        obtain ⟨b, off, rfl, hcell⟩ := HC.out.resolve_left (by rintro rfl; simp at hks)
        obtain ⟨vr, x0, x1, hR⟩ := hcell k _ (List.getElem?_eq_getElem hks)
        generalize L[k].b = m at *
        have m1 : wrap64 ((n : Int) + 20) = (n : Int) + 20 := by unfold wrap64; omega
        have m3 : wrap64 ((k : Int) + 1) = (k : Int) + 1 := by unfold wrap64; omega
        clear hcell x1 hR KF
        by_cases h16 : 16 < m
        · by_cases h24 : m ≤ 24
          · go_wp2
            go_roundw
            case rel => exact ⟨k + 1, n + 20, by omega, by omega, by push_cast; rfl, by push_cast; rfl, by omega, trivial⟩
            case measure => first | (simp [intOf]; omega) | (unfold intOf; simp; omega)
          · go_wp2
            go_roundw
            case rel => exact ⟨k + 1, n, by omega, by omega, by push_cast; rfl, by push_cast; rfl, by omega, trivial⟩
            case measure => first | (simp [intOf]; omega) | (unfold intOf; simp; omega)
        · go_wp2
          go_roundw
          case rel => exact ⟨k + 1, n, by omega, by omega, by push_cast; rfl, by push_cast; rfl, by omega, trivial⟩
          case measure => first | (simp [intOf]; omega) | (unfold intOf; simp; omega)
      · clear HC
        go_wp2_with fail
        refine KF.mono ?_
        rintro e w2 ⟨rfl, hw⟩
        subst hw
        cases fb with
        | false =>
          go_wp2
          go_ret
          first | exact ⟨_, rfl, by simp, rfl⟩ | (simp; done) | (simp; omega)
        | true =>
          by_cases hn : (n : Int) ≤ 60
          · go_wp2
            go_ret
            first | exact ⟨_, rfl, by simp, rfl⟩ | (simp; done) | (simp; omega)
          · go_wp2
            go_ret
            first | exact ⟨_, rfl, by simp, rfl⟩ | (simp; done) | (simp; omega)
    · clear HC
      go_wp2_with fail
      refine KF.mono ?_
      rintro e w2 ⟨rfl, hw⟩
      subst hw
      cases fb with
      | false =>
        go_wp2
        go_ret
        first | exact ⟨_, rfl, by simp, rfl⟩ | (simp; done) | (simp; omega)
      | true =>
        by_cases hn : (n : Int) ≤ 60
        · go_wp2
          go_ret
          first | exact ⟨_, rfl, by simp, rfl⟩ | (simp; done) | (simp; omega)
        · go_wp2
          go_ret
          first | exact ⟨_, rfl, by simp, rfl⟩ | (simp; done) | (simp; omega)
end Go.Proofs.Ytmemnjcpoggdhaa
