/-
  Part 24 of the proof: 1 texts, one behind the other.
-/
import Derived.Test.YtonagfmkplbooaaGreatDoorPart22
import Derived.Test.YtonagfmkplbooaaGreatDoorPart10
import Derived.Test.YtonagfmkplbooaaGreatDoorPart23
import Derived.Test.YtonagfmkplbooaaGreatDoorPart5
import Derived.Test.YtonagfmkplbooaaGreatDoorPart12
/-
  What the call of turnpikeref6's edges does.
-/
namespace Go.Proofs.YtonagfmkplbooaaGreatDoor
open Go.RowKit
set_option linter.unusedSimpArgs false
set_option linter.unusedVariables false

/-- Words in order with 0 and both ends of each route. -/
def EdS (F : Int) (S : List (BitVec 128)) (l : List Rte) (T : List (BitVec 128)) : Prop := T.Pairwise (fun a b => a.toNat < b.toNat) ∧ (∀ y, y ∈ T ↔ (y ∈ S ∨ y = 0#128 ∨ ∃ r ∈ l, y = r.1.1 ∨ (nextB F (lastW F r.1.1 r.1.2) = true ∧ y = nextV F (lastW F r.1.1 r.1.2)))) ∧ T.length ≤ S.length + 1 + 2 * l.length
theorem eds_zero (F : Int) (S T : List (BitVec 128)) (h : PutS S 0#128 T) : EdS F S [] T := by
  refine ⟨h.1, fun y => ?_, by have := h.2.2; simp; omega⟩
  rw [h.2.1 y]
  constructor
  · rintro (q | q)
    · exact .inr (.inl q)
    · exact .inl q
  · rintro (q | q | ⟨r, hr, -⟩)
    · exact .inr q
    · exact .inl q
    · cases hr
/-- One route more: its first address, and the one behind its last. -/
theorem eds_one (F : Int) (S : List (BitVec 128)) (l : List Rte) (r : Rte) (T0 T1 : List (BitVec 128)) (h : EdS F S l T0) (h1 : PutS T0 r.1.1 T1) :
    (nextB F (lastW F r.1.1 r.1.2) = true → ∀ T2, PutS T1 (nextV F (lastW F r.1.1 r.1.2)) T2 → EdS F S (l ++ [r]) T2) ∧ (nextB F (lastW F r.1.1 r.1.2) = false → EdS F S (l ++ [r]) T1) := by
  constructor
  · intro hb T2 h2
    refine ⟨h2.1, fun y => ?_, by have := h.2.2; have := h1.2.2; have := h2.2.2; simp; omega⟩
    rw [h2.2.1 y, h1.2.1 y, h.2.1 y]
    constructor
    · rintro (q | q | q | q | ⟨r', hr, q⟩)
      · exact .inr (.inr ⟨r, by simp, .inr ⟨hb, q⟩⟩)
      · exact .inr (.inr ⟨r, by simp, .inl q⟩)
      · exact .inl q
      · exact .inr (.inl q)
      · exact .inr (.inr ⟨r', List.mem_append_left _ hr, q⟩)
    · rintro (q | q | ⟨r', hr, q⟩)
      · exact .inr (.inr (.inl q))
      · exact .inr (.inr (.inr (.inl q)))
      · rcases List.mem_append.mp hr with hr | hr
        · exact .inr (.inr (.inr (.inr ⟨r', hr, q⟩)))
        · have : r' = r := by simpa using hr
          subst this
          rcases q with q | ⟨-, q⟩
          · exact .inr (.inl q)
          · exact .inl q
  · intro hb
    refine ⟨h1.1, fun y => ?_, by have := h.2.2; have := h1.2.2; simp; omega⟩
    rw [h1.2.1 y, h.2.1 y]
    constructor
    · rintro (q | q | q | ⟨r', hr, q⟩)
      · exact .inr (.inr ⟨r, by simp, .inl q⟩)
      · exact .inl q
      · exact .inr (.inl q)
      · exact .inr (.inr ⟨r', List.mem_append_left _ hr, q⟩)
    · rintro (q | q | ⟨r', hr, q⟩)
      · exact .inr (.inl q)
      · exact .inr (.inr (.inl q))
      · rcases List.mem_append.mp hr with hr | hr
        · exact .inr (.inr (.inr ⟨r', hr, q⟩))
        · have : r' = r := by simpa using hr
          subst this
          rcases q with q | ⟨q, -⟩
          · exact .inl q
          · rw [hb] at q; cases q
/-- What is known between two calls of put. -/
structure EgI (w0 w : World) (lv : Value) (F : Int) (v rv : Value) (T : List (BitVec 128)) (W : World) : Prop where
  own : W.ownsRow w0.heap.size 27 2 rv T.length (rowW T)
  t : AtU W w.heap.size F v
  gr : w.grownBy W lv.ownBlock
  ob : ∀ z, rv.ownBlock = some z → lv.ownBlock = some z ∨ w.heap.size + 1 ≤ z
  ol : ∀ z, lv.ownBlock = some z → w0.heap.size ≤ z ∧ z < w.heap.size
  bel : Below w0.heap.size w0 W
  b0 : w0.heap.size ≤ w.heap.size
theorem EgI.bs {w0 w : World} {lv : Value} {F : Int} {v rv : Value} {T : List (BitVec 128)} {W : World} (k : EgI w0 w lv F v rv T W) : w0.heap.size ≤ W.heap.size := k.bel.size
theorem EgI.below {w0 w : World} {lv : Value} {F : Int} {v rv : Value} {T : List (BitVec 128)} {W W' : World} (k : EgI w0 w lv F v rv T W) (hb : Below W.heap.size W W') : EgI w0 w lv F v rv T W' :=
  ⟨own_below hb k.own, k.t.heap (hb.block _ k.t.lt), k.gr.trans (below_grown hb), k.ob, k.ol, keepb hb k.bel, k.b0⟩
theorem EgI.put {w0 w : World} {lv : Value} {F : Int} {v rv rv' : Value} {T T' : List (BitVec 128)} {W W' : World} (k : EgI w0 w lv F v rv T W) (h : PtO w0.heap.size rv T' W rv' W') : EgI w0 w lv F v rv' T' W' := by
  obtain ⟨h1, h2, h3⟩ := h
  have hT := k.t.lt
  refine ⟨h1, k.t.heap (h2.block _ hT (fun e => ?_)), ⟨by rw [h2.os, k.gr.os], by rw [h2.tape, k.gr.tape], by rw [h2.output, k.gr.output], Nat.le_trans k.gr.size h2.size, fun z q1 q2 => ?_⟩, fun z e => ?_, k.ol, k.bel.grown h2 k.bel.size (fun z e => (k.own.lt z e).1), k.b0⟩
  · rcases k.ob _ e.symm with q | q
    · have := (k.ol _ q).2; omega
    · omega
  · rw [h2.block z (by have := k.gr.size; omega) (fun e => ?_), k.gr.block z q1 q2]
    rcases k.ob z e.symm with q | q
    · exact q2 q.symm
    · omega
  · rcases h3 z e with q | q
    · exact k.ob z q
    · exact .inr (by omega)
theorem EgI.set2 {w0 w : World} {lv : Value} {F : Int} {v rv : Value} {T : List (BitVec 128)} {W : World} (k : EgI w0 w lv F v rv T W) {M : Nat} (hM : w.heap.size + 1 ≤ M) (hne : rv.ownBlock ≠ some M) (a b : Value) : EgI w0 w lv F v rv T ((W.setCell ⟨M, 0, none⟩ a).setCell ⟨M, 1, none⟩ b) := by
  have b0 := k.b0
  refine ⟨own_heap k.own (fun g e => ?_), k.t.heap (by rw [hSet _ (by omega), hSet _ (by omega)]), grown_set2 k.gr (.inr (by omega)) _ _ _ _, k.ob, k.ol, bset2 k.bel (by omega) _ _, k.b0⟩
  have : ¬ g = M := fun q => hne (by rw [e, q])
  rw [hSet _ this, hSet _ this]
/-- The same, with the prefix that is asked. -/
def EgD (w0 w : World) (lv : Value) (F : Int) (v rv : Value) (T : List (BitVec 128)) (px : BitVec 128) (pn : Int) (N : Nat) (W : World) : Prop := EgI w0 w lv F v rv T W ∧ AtP W N px pn ∧ w.heap.size < N ∧ N < W.heap.size
theorem EgD.below {w0 w : World} {lv : Value} {F : Int} {v rv : Value} {T : List (BitVec 128)} {px : BitVec 128} {pn : Int} {N : Nat} {W W' : World} (k : EgD w0 w lv F v rv T px pn N W) (hb : Below W.heap.size W W') : EgD w0 w lv F v rv T px pn N W' := ⟨k.1.below hb, k.2.1.below hb, k.2.2.1, Nat.lt_of_lt_of_le k.2.2.2 hb.size⟩
theorem EgD.drew {w0 w : World} {lv : Value} {F : Int} {v rv : Value} {T : List (BitVec 128)} {px : BitVec 128} {pn : Int} {N : Nat} {W : World} (k : EgD w0 w lv F v rv T px pn N W) : EgD w0 w lv F v rv T px pn N W.drew := k.below (below_drewN (Below.refl _ _) 1)
theorem AtP.heapE {W W' : World} {B : Nat} {x : BitVec 128} {n : Int} (k : AtP W B x n) (e : W'.heap[B]? = W.heap[B]?) : AtP W' B x n := by
  obtain ⟨h0, h1, h2, f0, f1, f2⟩ := k
  exact ⟨by rw [cellH e]; exact h0, by rw [cellH e]; exact h1, by rw [cellH e]; exact h2, by rw [frozH e]; exact f0, by rw [frozH e]; exact f1, by rw [frozH e]; exact f2⟩
theorem EgD.set2 {w0 w : World} {lv : Value} {F : Int} {v rv : Value} {T : List (BitVec 128)} {px : BitVec 128} {pn : Int} {N : Nat} {W : World} (k : EgD w0 w lv F v rv T px pn N W) {M : Nat} (hM : N < M) (hne : rv.ownBlock ≠ some M) (a b : Value) : EgD w0 w lv F v rv T px pn N ((W.setCell ⟨M, 0, none⟩ a).setCell ⟨M, 1, none⟩ b) := by
  have h1 := k.2.2.1
  refine ⟨k.1.set2 (by omega) hne a b, k.2.1.heapE (by rw [hSet _ (by omega), hSet _ (by omega)]), h1, ?_⟩
  have := (bset2 (C := M) (Below.refl 0 W) (Nat.zero_le _) a b).size
  have := k.2.2.2
  omega
theorem at_zeroE (W : World) : At (W.alloc (.cells #[.int .u64 0, .int .u64 0] 27)) W.heap.size 0#128 := by
  have := at_new W W.heap.size 0#128 27 rfl
  rwa [hI_zero, lI_zero] at this
theorem At.setE {W : World} {B : Nat} {x : BitVec 128} (k : At W B x) (y : BitVec 128) : At ((W.setCell ⟨B, 0, none⟩ (.int .u64 (hI y))).setCell ⟨B, 1, none⟩ (.int .u64 (lI y))) B y := by
  obtain ⟨c0, c1, f0, f1, h⟩ := k
  refine ⟨?_, ?_, ?_, ?_, ?_⟩ <;> simp [go_sem, c0, c1, f0, f1, h]
set_option maxRecDepth 20000 in
set_option maxHeartbeats 16000000 in
theorem redgesS_any (w0 : World) (F : Int) (v : Value) (l : List Rte) (lv : Value) (S : List (BitVec 128)) (w : World) (hB0 : Below w0.heap.size w0 w) (hv : RwR w v l) (hsep : ∀ b off n c, l ≠ [] → v = .slice (some ⟨b, off, none⟩) n c → lv.ownBlock ≠ some b) (hown : w.ownsRow w0.heap.size 27 2 lv S.length (rowW S)) (hS : S.Pairwise (fun a b => a.toNat < b.toNat)) (hl : S.length + 1 + 2 * l.length ≤ 100000000) (hL : ∀ r ∈ l, Rt F r.1.1 r.1.2) :
    Calls Tryz.prog 26 #[lv, .agg #[.int .i64 F, v]] w fun e w' => ∃ v' T, e = .returned v' ∧ EdS F S l T ∧ PtO w0.heap.size lv T w v' w' ∧ Below w0.heap.size w0 w' := by
  obtain ⟨ao, c, rfl, hv⟩ := hv
  have HV : Hid (l = [] ∨ ∃ b off, ao = some ⟨b, off, none⟩ ∧ ∀ j u, (rowR l)[j]? = some u → w.cell? ⟨b, off + j, none⟩ = some u) := hv
  have HSep := hidR hsep
  clear hsep
  have b0 := bl1 w (.cells #[.int .i64 F, .slice ao l.length c] 24)
  have HI0 : Hid (EgI w0 w lv F (.slice ao l.length c) lv S (w.alloc (.cells #[.int .i64 F, .slice ao l.length c] 24))) := hidR ⟨own_below b0 hown, atu_new w w.heap.size F _ 24 rfl, below_grown b0, fun z e => .inl e, fun z e => hown.lt z e, keepb b0 hB0, hB0.size⟩
  have K0 := rput_any w0.heap.size lv S 0#128 _ HI0.out.own HI0.out.bs (by omega) hS
  rw [hI_zero, lI_zero] at K0
  obtain ⟨lo, lc, rfl⟩ := own_form hown
  have HL : Hid (∀ r ∈ l, Rt F r.1.1 r.1.2) := hidR hL
  clear hv b0 hown hB0 hS hL
  go_enter Tryz.func26, Tryz.ntmps26
  go_wp2_with fail
  refine K0.mono ?_
  rintro e w1 ⟨rv1, T1, rfl, hp, ho⟩
  have HI1 := hidR (HI0.out.put ho)
  have HS1 := hidR (eds_zero F S T1 hp)
  clear K0 hp ho HI0
  go_wp2_with fail
  go_loopw [0, 5] (fun rv i wr => ∃ (k : Nat) (rv' : Value) (T : List (BitVec 128)), k ≤ l.length ∧ i = .int .i64 k ∧ rv' = rv ∧ Hid (EdS F S (l.take k) T) ∧ Hid (EgI w0 w (.slice lo S.length lc) F (.slice ao l.length c) rv' T wr)) (fun _ i _ => l.length - (intOf i).toNat)
  case atStart => exact ⟨0, rv1, T1, by omega, rfl, rfl, by simpa using HS1, HI1⟩
  case round =>
    clear HI1 HS1
    obtain ⟨k, rv, T, hk, rfl, rfl, HSk, HI⟩ := hrel
    obtain ⟨t0, t1, -, -⟩ := HI.out.t
    by_cases hlt : (k : Int) < (l.length : Int)
    · have hks : k < l.length := by omega
      rcases HV.out with e | ⟨b, off, rfl, hc⟩
      · rw [e] at hks; simp at hks
      · obtain ⟨x0, x1, x2, x3⟩ := rwr_cells hc k hks
        have hsp : (Value.slice lo S.length lc).ownBlock ≠ some b := HSep.out b off l.length c (fun e => by rw [e] at hks; simp at hks) rfl
        have x0 := (World.cell?_of_block (HI.out.gr.block b (cell_in x0) (fun e => hsp e.symm))).trans x0
        have x1 := (World.cell?_of_block (HI.out.gr.block b (cell_in x1) (fun e => hsp e.symm))).trans x1
        have x2 := (World.cell?_of_block (HI.out.gr.block b (cell_in x2) (fun e => hsp e.symm))).trans x2
        have x3 := (World.cell?_of_block (HI.out.gr.block b (cell_in x3) (fun e => hsp e.symm))).trans x3
        have HTK : Hid (l.take (k + 1) = l.take k ++ [l[k]]) := hidR (List.take_succ_eq_append_getElem hks)
        have KL := fun w => rplast_any F l[k].1.1 l[k].1.2 w
        rw [last_eq F l[k].1.1 l[k].1.2 (HL.out l[k] (List.getElem_mem hks)).1 (HL.out l[k] (List.getElem_mem hks)).2.1] at KL
        have KN := fun w => rnext_any F (lastW F l[k].1.1 l[k].1.2) w
        have HO1 : Hid (∀ T0 T1, EdS F S (l.take k) T0 → PutS T0 l[k].1.1 T1 → (nextB F (lastW F l[k].1.1 l[k].1.2) = true → ∀ T2, PutS T1 (nextV F (lastW F l[k].1.1 l[k].1.2)) T2 → EdS F S (l.take k ++ [l[k]]) T2) ∧ (nextB F (lastW F l[k].1.1 l[k].1.2) = false → EdS F S (l.take k ++ [l[k]]) T1)) := hidR (fun T0 T1 h h1 => eds_one F S (l.take k) l[k] T0 T1 h h1)
        have mk : IntKind.i64.wrap ((k : Int) + 1) = (k : Int) + 1 := by rw [IntKind.wrap_i64]; omega
        have hTl : T.length ≤ S.length + 1 + 2 * k := by have := HSk.out.2.2; rw [List.length_take] at this; omega
        clear hc
        revert KL KN HO1 HTK
        generalize hR0 : l[k] = R0 at *
        clear hR0
        obtain ⟨⟨px, pn⟩, ph⟩ := R0
        dsimp only at x0 x1 x2 x3 ⊢
        generalize hnb : nextB F (lastW F px pn) = nb
        generalize hnx : nextV F (lastW F px pn) = nx
        generalize lastW F px pn = la at *
        intro HTK KL KN HO1
        have HNB : Hid (nb = nb) := hidR rfl
        clear hnb hnx
        have HI1 := hidR (HI.out.below (bl1 wr (.cells #[.int .u64 (hI px), .int .u64 (lI px), .int .i64 pn] 29)))
        have hpn := atp_new wr wr.heap.size px pn 29 rfl
        have HPN := hidR hpn
        obtain ⟨p0, p1, p2, -, -, -⟩ := hpn
        have HN0 : Hid (w.heap.size < wr.heap.size) := hidR HI.out.t.lt
        have HNE : Hid (rv.ownBlock ≠ some wr.heap.size) := hidR (fun e => by have := (HI.out.own.lt _ e).2; omega)
        have KP := rput_any w0.heap.size rv T px _ HI1.out.own HI1.out.bs (by omega) HSk.out.1
        clear HI x3
        go_wp2_with fail
        refine KP.mono ?_
        rintro e w3 ⟨rv3, T3, rfl, hp3, ho3⟩
        have HD1 := hidR (HO1.out T T3 HSk.out hp3)
        have HEA := hidR hp3.1
        have HEL : Hid (T3.length + 1 ≤ 100000000 + 2) := hidR (by have := hp3.2.2; omega)
        have HD : Hid (EgD w0 w (.slice lo S.length lc) F (.slice (some ⟨b, off, none⟩) l.length c) rv3 T3 px pn wr.heap.size w3) := hidR ⟨HI1.out.put ho3, HPN.out.heapE (ho3.2.1.block _ (by simp) (fun e => HNE.out e.symm)), HN0.out, by have := ho3.2.1.size; simp at this; omega⟩
        clear KP hp3 ho3 HI1 HPN p0 p1 p2 HN0 HNE HSk HO1 hTl x0 x1 x2 t0 t1
        generalize wr.heap.size = N at *
        go_wp2_with fail
        refine two_region 12 10 11 (alOk (qpOk 12 10 (by decide) (fun N => by kernel_rfl) (by kernel_rfl) (by kernel_rfl) (by kernel_rfl) (by kernel_rfl)) (by decide) rfl rfl (by kernel_rfl)) (alOk (qpOk 12 11 (by decide) (fun N => by kernel_rfl) (by kernel_rfl) (by kernel_rfl) (by kernel_rfl) (by kernel_rfl)) (by decide) rfl rfl (by kernel_rfl)) (by decide) (by kernel_rfl) rfl (D := EgD w0 w (.slice lo S.length lc) F (.slice (some ⟨b, off, none⟩) l.length c) rv3 T3 px pn N) (C1 := fun M W => EgD w0 w (.slice lo S.length lc) F (.slice (some ⟨b, off, none⟩) l.length c) rv3 T3 px pn N W ∧ At W M 0#128 ∧ N < M ∧ rv3.ownBlock ≠ some M) (C2 := fun M W => EgD w0 w (.slice lo S.length lc) F (.slice (some ⟨b, off, none⟩) l.length c) rv3 T3 px pn N W ∧ At W M nx ∧ N < M ∧ rv3.ownBlock ≠ some M) (obj := .cells #[.int .u64 0, .int .u64 0] 27) [some 30, some 31, some 32, some 33, some 34, some 35, some 36, some 29, some 37, some 38, some 7, none] (fun M => [.pointer (some ⟨w.heap.size, 0, none⟩), .int .i64 F, .pointer (some ⟨w.heap.size, 0, none⟩), .int .i64 F, .agg #[.int .u64 (hI px), .int .u64 (lI px), .int .i64 pn], .agg #[.int .u64 (hI la), .int .u64 (lI la)], .tuple #[.agg #[.int .u64 (hI nx), .int .u64 (lI nx)], .bool nb], .tuple #[.agg #[.int .u64 (hI nx), .int .u64 (lI nx)], .bool nb], .agg #[.int .u64 (hI nx), .int .u64 (lI nx)], .bool nb, .pointer (some ⟨M, 0, none⟩), undef]) 7 [7, 37] (by kernel_rfl) (fun N => by kernel_rfl) rfl ?hA ?hAd (by kernel_rfl) ?hal ?hC ?hst HD.out.drew ?walk ?fin
        case hA => intro N; simp only [putAll, Act.put, List.setIfInBounds_toArray, List.set_cons_zero, List.set_cons_succ]; rfl
        case hAd => intro N; simp only [putAll, Act.put, List.setIfInBounds_toArray, List.set_cons_zero, List.set_cons_succ]; rfl
        case hal => intro W a _; go_simp
        case hC => intro W h; exact ⟨h.below (bl1 W _), at_zeroE W, h.2.2.2, fun e => by have := (h.1.own.lt _ e).2; omega⟩
        case hst =>
          intro M W a' hC hr K Q' hK
          have e7 : a'.tmps[7]? = some (.pointer (some ⟨M, 0, none⟩)) := (hr 7 (by simp)).trans (by simp only [putAll, Act.put, List.setIfInBounds_toArray, List.set_cons_zero, List.set_cons_succ]; rfl)
          have e37 : a'.tmps[37]? = some (.agg #[.int .u64 (hI nx), .int .u64 (lI nx)]) := (hr 37 (by simp)).trans (by simp only [putAll, Act.put, List.setIfInBounds_toArray, List.set_cons_zero, List.set_cons_succ]; rfl)
          obtain ⟨hE, hZ, hN1, hN2⟩ := hC
          obtain ⟨z0, z1, z2, z3, z4⟩ := id hZ
          have hK' := hK _ ⟨hE.set2 hN1 hN2 (.int .u64 (hI nx)) (.int .u64 (lI nx)), hZ.setE nx, hN1, hN2⟩
          unfold Oper.wp
          simp [execOp, e7, e37, go_sem, z0, z1, z2, z3, Oper.upon]
          exact hK'
        case walk =>
          intro M X hX
          have hXD : ∀ W, X W → AtU W w.heap.size F (.slice (some ⟨b, off, none⟩) l.length c) ∧ AtP W N px pn := by
            rcases hX with rfl | rfl | rfl
            · exact fun W h => ⟨h.1.t, h.2.1⟩
            · exact fun W h => ⟨h.1.1.t, h.1.2.1⟩
            · exact fun W h => ⟨h.1.1.t, h.1.2.1⟩
          have hXb : ∀ W W', X W → Below W.heap.size W W' → X W' := by
            rcases hX with rfl | rfl | rfl
            · exact fun W W' h hb => h.below hb
            · exact fun W W' h hb => ⟨h.1.below hb, h.2.1.below hb, h.2.2⟩
            · exact fun W W' h hb => ⟨h.1.below hb, h.2.1.below hb, h.2.2⟩
          clear hX HD
          dsimp only [rep, List.take, List.modify, List.modifyTailIdx, List.modifyTailIdx.go, List.modifyHead]
          refine q_run (v := .pointer (some ⟨w.heap.size, 0, none⟩)) (by rfl) ?_ ?_
          · (intro w1 hC; obtain ⟨⟨t0, t1, -, -⟩, ⟨p0, p1, p2, -, -, -⟩⟩ := hXD w1 hC; clear hC; go_simp; first | done | (simp; done) | (simp [*]; done) | omega | (simp; omega) | (rw [IntKind.wrap_i64]; omega) | (intro hx; omega) | rfl)
          simp only [Act.put, List.setIfInBounds_toArray, List.set_cons_zero, List.set_cons_succ]
          refine q_run (v := .int .i64 F) (by rfl) ?_ ?_
          · (intro w1 hC; obtain ⟨⟨t0, t1, -, -⟩, ⟨p0, p1, p2, -, -, -⟩⟩ := hXD w1 hC; clear hC; go_simp; first | done | (simp; done) | (simp [*]; done) | omega | (simp; omega) | (rw [IntKind.wrap_i64]; omega) | (intro hx; omega) | rfl)
          simp only [Act.put, List.setIfInBounds_toArray, List.set_cons_zero, List.set_cons_succ]
          refine q_run (v := .pointer (some ⟨w.heap.size, 0, none⟩)) (by rfl) ?_ ?_
          · (intro w1 hC; obtain ⟨⟨t0, t1, -, -⟩, ⟨p0, p1, p2, -, -, -⟩⟩ := hXD w1 hC; clear hC; go_simp; first | done | (simp; done) | (simp [*]; done) | omega | (simp; omega) | (rw [IntKind.wrap_i64]; omega) | (intro hx; omega) | rfl)
          simp only [Act.put, List.setIfInBounds_toArray, List.set_cons_zero, List.set_cons_succ]
          refine q_run (v := .int .i64 F) (by rfl) ?_ ?_
          · (intro w1 hC; obtain ⟨⟨t0, t1, -, -⟩, ⟨p0, p1, p2, -, -, -⟩⟩ := hXD w1 hC; clear hC; go_simp; first | done | (simp; done) | (simp [*]; done) | omega | (simp; omega) | (rw [IntKind.wrap_i64]; omega) | (intro hx; omega) | rfl)
          simp only [Act.put, List.setIfInBounds_toArray, List.set_cons_zero, List.set_cons_succ]
          refine q_run (v := .agg #[.int .u64 (hI px), .int .u64 (lI px), .int .i64 pn]) (by rfl) ?_ ?_
          · (intro w1 hC; obtain ⟨⟨t0, t1, -, -⟩, ⟨p0, p1, p2, -, -, -⟩⟩ := hXD w1 hC; clear hC; go_simp; first | done | (simp; done) | (simp [*]; done) | omega | (simp; omega) | (rw [IntKind.wrap_i64]; omega) | (intro hx; omega) | rfl)
          simp only [Act.put, List.setIfInBounds_toArray, List.set_cons_zero, List.set_cons_succ]
          refine q_call (v := .agg #[.int .u64 (hI la), .int .u64 (lI la)]) (f := 51) (args := #[.int .i64 F, .agg #[.int .u64 (hI px), .int .u64 (lI px), .int .i64 pn]]) (by rfl) ?_ ?_ ?_
          · (intro w1 hC; clear hC; go_simp)
          · exact fun w1 hC => (KL w1).mono fun e w' ⟨he, hb⟩ => ⟨he, hXb w1 _ hC hb⟩
          simp only [Act.put, List.setIfInBounds_toArray, List.set_cons_zero, List.set_cons_succ]
          refine q_call (v := .tuple #[.agg #[.int .u64 (hI nx), .int .u64 (lI nx)], .bool nb]) (f := 50) (args := #[.int .i64 F, .agg #[.int .u64 (hI la), .int .u64 (lI la)]]) (by rfl) ?_ ?_ ?_
          · (intro w1 hC; clear hC; go_simp)
          · exact fun w1 hC => (KN w1).mono fun e w' ⟨he, hb⟩ => ⟨he, hXb w1 _ hC hb⟩
          simp only [Act.put, List.setIfInBounds_toArray, List.set_cons_zero, List.set_cons_succ]
          refine q_run (v := .tuple #[.agg #[.int .u64 (hI nx), .int .u64 (lI nx)], .bool nb]) (by rfl) ?_ ?_
          · (intro w1 hC; obtain ⟨⟨t0, t1, -, -⟩, ⟨p0, p1, p2, -, -, -⟩⟩ := hXD w1 hC; clear hC; go_simp; first | done | (simp; done) | (simp [*]; done) | omega | (simp; omega) | (rw [IntKind.wrap_i64]; omega) | (intro hx; omega) | rfl)
          simp only [Act.put, List.setIfInBounds_toArray, List.set_cons_zero, List.set_cons_succ]
          refine q_run (v := .agg #[.int .u64 (hI nx), .int .u64 (lI nx)]) (by rfl) ?_ ?_
          · (intro w1 hC; obtain ⟨⟨t0, t1, -, -⟩, ⟨p0, p1, p2, -, -, -⟩⟩ := hXD w1 hC; clear hC; go_simp; first | done | (simp; done) | (simp [*]; done) | omega | (simp; omega) | (rw [IntKind.wrap_i64]; omega) | (intro hx; omega) | rfl)
          simp only [Act.put, List.setIfInBounds_toArray, List.set_cons_zero, List.set_cons_succ]
          refine q_run (v := .bool nb) (by rfl) ?_ ?_
          · (intro w1 hC; obtain ⟨⟨t0, t1, -, -⟩, ⟨p0, p1, p2, -, -, -⟩⟩ := hXD w1 hC; clear hC; go_simp; first | done | (simp; done) | (simp [*]; done) | omega | (simp; omega) | (rw [IntKind.wrap_i64]; omega) | (intro hx; omega) | rfl)
          simp only [Act.put, List.setIfInBounds_toArray, List.set_cons_zero, List.set_cons_succ]
          refine q_run (v := .pointer (some ⟨M, 0, none⟩)) (by rfl) ?_ ?_
          · (intro w1 hC; obtain ⟨⟨t0, t1, -, -⟩, ⟨p0, p1, p2, -, -, -⟩⟩ := hXD w1 hC; clear hC; go_simp; first | done | (simp; done) | (simp [*]; done) | omega | (simp; omega) | (rw [IntKind.wrap_i64]; omega) | (intro hx; omega) | rfl)
          simp only [Act.put, List.setIfInBounds_toArray, List.set_cons_zero, List.set_cons_succ]
          refine q_run (v := undef) (by rfl) ?_ ?_
          · (intro w1 hC; go_simp)
          refine wpQuiet_nil ?_
          simp only [putAll, Act.put, List.setIfInBounds_toArray, List.set_cons_zero, List.set_cons_succ]
        case fin =>
          intro M W hC
          obtain ⟨hE, hX, -, -⟩ := hC
          have HE := hidR hE.1
          have HX := hidR hX
          simp only [putAll, Act.put, List.setIfInBounds_toArray, List.set_cons_zero, List.set_cons_succ]
          dsimp only [List.drop]
          clear hE hX HD KL KN
          cases nb with
          | false =>
            have HS2 : Hid (EdS F S (l.take (k + 1)) T3) := hidR (by rw [HTK.out]; exact HD1.out.2 (by simp))
            go_wp2
            go_roundw
            case rel => exact ⟨k + 1, rv3, T3, by omega, by go_num, rfl, HS2, HE⟩
            case measure => simp [intOf]; omega
          | true =>
            obtain ⟨x0, x1, -⟩ := HX.out
            have KP := rput_any w0.heap.size rv3 T3 nx W HE.out.own HE.out.bs (by have := HEL.out; omega) HEA.out
            clear HX
            go_wp2_with fail
            refine KP.mono ?_
            rintro e w5 ⟨rv5, T5, rfl, hp5, ho5⟩
            have HE5 := hidR (HE.out.put ho5)
            have HS2 : Hid (EdS F S (l.take (k + 1)) T5) := hidR (by rw [HTK.out]; exact HD1.out.1 (by simp) T5 hp5)
            clear KP hp5 ho5 HE x0 x1
            go_wp2
            go_roundw
            case rel => exact ⟨k + 1, rv5, T5, by omega, by go_num, rfl, HS2, HE5⟩
            case measure => simp [intOf]; omega
    · have hd : ¬ k < l.length := by omega
      have HE : Hid (EdS F S l T) := hidR (by have := HSk.out; rwa [List.take_of_length_le (by omega)] at this)
      obtain ⟨ro, rc, rfl⟩ := own_form HI.out.own
      have HR : Hid (PtO w0.heap.size (.slice lo S.length lc) T w (.slice ro T.length rc) wr ∧ Below w0.heap.size w0 wr) := hidR ⟨⟨HI.out.own, HI.out.gr, fun z e => (HI.out.ob z e).imp id (fun q => by omega)⟩, HI.out.bel⟩
      clear HI HSk
      go_wp2
      go_ret
      first | exact ⟨_, T, rfl, HE.out, HR.out⟩ | exact ⟨_, rfl, T, HE.out, HR.out⟩
theorem redges_any (w0 : World) (F : Int) (v : Value) (l : List Rte) (lv : Value) (S : List (BitVec 128)) (w : World) (hB0 : Below w0.heap.size w0 w) (hv : RwR w0 v l) (hown : w.ownsRow w0.heap.size 27 2 lv S.length (rowW S)) (hS : S.Pairwise (fun a b => a.toNat < b.toNat)) (hl : S.length + 1 + 2 * l.length ≤ 100000000) (hL : ∀ r ∈ l, Rt F r.1.1 r.1.2) :
    Calls Tryz.prog 26 #[lv, .agg #[.int .i64 F, v]] w fun e w' => ∃ v' T, e = .returned v' ∧ EdS F S l T ∧ PtO w0.heap.size lv T w v' w' ∧ Below w0.heap.size w0 w' := by
  refine redgesS_any w0 F v l lv S w hB0 (hv.below hB0) (fun b off n c hne e q => ?_) hown hS hl hL
  obtain ⟨ao, c', e', h⟩ := hv
  rcases h with h | ⟨b', off', e2, hc⟩
  · exact hne h
  · subst e2
    rw [e] at e'
    injection e' with e1
    injection e1 with e1
    injection e1 with e1
    subst e1
    have h0 : 0 < l.length := by
      cases l with
      | nil => exact absurd rfl hne
      | cons a l => simp
    have h1 := cell_in (rwr_cells hc 0 h0).1
    have h2 := (hown.lt b q).1
    omega
end Go.Proofs.YtonagfmkplbooaaGreatDoor
