/-
  Part 27 of the proof: 3 texts, one behind the other.
-/
import Derived.Test.YtjgpbahglkaijabPart19
import Derived.Test.YtjgpbahglkaijabPart6
import Derived.Deep.RegionHeld3
import Derived.Deep.AppendLies
import Derived.Laws.AppendOwnNone
import Derived.Test.YtjgpbahglkaijabPart26
namespace Go.Proofs.Ytjgpbahglkaijab
open Go.RowKit
set_option linter.unusedSimpArgs false
set_option linter.unusedVariables false
attribute [local go_sem] Oper.semAt_some

def RwNX18 (b0 : Nat) (w : World) (vb vr : Value) (l : List Rn) : Prop := ∀ W : World, (∀ z, b0 ≤ z → z < w.heap.size → vb.ownBlock ≠ some z → W.heap[z]? = w.heap[z]?) → RwN W vr l
theorem tw_step18 {b0 : Nat} {w wr w1 w4 : World} (hb0 : b0 ≤ wr.heap.size) {L : List Nde} {V : List Value} {k g cap m c1 : Nat} {vb vr : Value} {d : Nde} {x : Obj} (hV : ∀ (j : Nat) (d : Nde) (u : Value), L[j]? = some d → V[j]? = some u → RwNX18 b0 wr vb u d.r)
    (hvb : ∀ z, vb.ownBlock = some z → z < wr.heap.size) (hb1 : Below wr.heap.size wr w1) (hr : RwN w1 vr d.r) (hrz : ∀ z, vr.ownBlock = some z → wr.heap.size ≤ z)
    (hg : (w1.alloc x).grownBy w4 vb.ownBlock) (hat : vb.ownBlock = some g ∨ g = (w1.alloc x).heap.size) (hVl : V.length = k) (hd : L[k]? = some d) :
    ∀ (j : Nat) (d : Nde) (u : Value), L[j]? = some d → (V ++ [vr])[j]? = some u → RwNX18 b0 w4 (.slice (some ⟨g, 0, none⟩) m c1) u d.r := by
  have hs : (w1.alloc x).heap.size = w1.heap.size + 1 := by simp
  have s1 := hb1.size
  have s4 := hg.size
  have old : ∀ z, z < w1.heap.size → vb.ownBlock ≠ some z → w4.heap[z]? = w1.heap[z]? := fun z hz hn => (hg.block z (by omega) (fun e => hn e.symm)).trans (Below.heap_alloc w1 x z hz)
  intro j d' u h1 h2 W hW
  have hW' : ∀ z, b0 ≤ z → z < w1.heap.size → vb.ownBlock ≠ some z → W.heap[z]? = w1.heap[z]? := fun z h0 hz hn => by
    refine (hW z h0 (by omega) ?_).trans (old z hz hn)
    intro e
    simp only [Value.ownBlock, Option.some.injEq] at e
    subst e
    rcases hat with h | h
    · exact hn h
    · omega
  by_cases hj : j < V.length
  · rw [List.getElem?_append_left hj] at h2
    refine hV j d' u h1 h2 W (fun z h0 hz hn => ?_)
    exact (hW' z h0 (by omega) hn).trans (hb1.block z hz)
  · have hjl := (List.getElem?_eq_some_iff.mp h2).1
    have : j = k := by simp at hjl; omega
    subst this
    rw [hd] at h1
    injection h1 with h1
    subst h1
    rw [List.getElem?_append_right (by omega), hVl] at h2
    simp at h2
    subst h2
    refine rwn_blk16 hr (fun z hz hlt => hW' z (by have := hrz z hz; omega) hlt (fun e => ?_))
    have := hvb z e
    have := hrz z hz
    omega
set_option maxRecDepth 100000 in
set_option maxHeartbeats 16000000 in
theorem twin18 (v : Value) (L : List Nde) (w : World) (hv : TwIn w v L) (hl : L.length ≤ 1000000) (hr : ∀ d ∈ L, d.r.length ≤ 1000000) :
    Calls Try.prog 11 #[v] w fun e w' => ∃ v', e = .returned v' ∧ (∀ W, (∀ z, w.heap.size ≤ z → z < w'.heap.size → W.heap[z]? = w'.heap[z]?) → RwD W v' L) ∧ Below w.heap.size w w' := by
  obtain ⟨i0, hi, hz0, hz1, hz2⟩ := info13 Try.infoRn16
  obtain ⟨j0, ji, jz0, jz1, jz2⟩ := info13 Try.infoD16
  obtain ⟨ao, c, rfl, hc, hrow⟩ := hv
  have HC := hid13 hrow
  have HL : Hid (L.length ≤ 1000000 ∧ ∀ d ∈ L, d.r.length ≤ 1000000) := ⟨hl, hr⟩
  have HO0 : Hid (w.ownsRow w.heap.size 39 2 (.slice none 0 0) 0 []) := World.ownsRow_nil _ _ _ _
  have HB0 := hid13 (Below.refl w.heap.size w)
  clear hr hrow
  go_enter Try.func11, Try.ntmps11
  go_wp2_with fail
  go_loopg [3, 4] L.length (fun g vb kv wr => ∃ (k : Nat) (V : List Value), k + g = L.length ∧ kv = .int .i64 (k : Int) ∧ Hid (wr.ownsRow w.heap.size 39 2 vb k (rowD (L.take k) V)) ∧ Hid (V.length = k) ∧ Hid (∀ (j : Nat) (d : Nde) (u : Value), L[j]? = some d → V[j]? = some u → RwNX18 w.heap.size wr vb u d.r) ∧ Hid (Below w.heap.size w wr))
  case atStart => exact ⟨0, [], by omega, rfl, HO0, rfl, (fun j d u _ h => by simp at h), HB0⟩
  case round =>
    clear HO0 HB0
    obtain ⟨k, V, hk, rfl, HO, HVl, HVr, HB⟩ := hrel
    by_cases hlt : (k : Int) < (L.length : Int)
    · have hks : k < L.length := by omega
      obtain ⟨b, off, rfl, hcell⟩ := HC.out.resolve_left (by rintro rfl; simp at hks)
      obtain ⟨d, hd⟩ : ∃ d, L[k]? = some d := ⟨_, List.getElem?_eq_getElem hks⟩
      obtain ⟨vr, x0, x1, hA⟩ := hcell k d hd
      have hdr := HL.out.2 d (List.mem_of_getElem? hd)
      have HD := hid13 hd
      have HT : Hid (L.take (k + 1) = L.take k ++ [d]) := by show _ = _; rw [List.take_succ_eq_append_getElem hks]; rw [List.getElem?_eq_getElem hks] at hd; injection hd with hd; rw [hd]
      have HA : Hid (∀ W, Below w.heap.size w W → W.cell? ⟨b, off + k * 2, none⟩ = some (.int .i64 d.b) ∧ W.cell? ⟨b, off + k * 2 + 1, none⟩ = some vr ∧ Below w.heap.size w W) := fun W h => ⟨keepc h x0, keepc h x1, h⟩
      have HRA := hid13 hA
      have mj : IntKind.i64.wrap ((k : Int) + 1) = (k : Int) + 1 := by rw [IntKind.wrap_i64]; omega
      have HK : Hid (k + gk = L.length ∧ k < L.length) := ⟨hk, hks⟩
      have h63 : k + 1 ≤ maxLen := by unfold maxLen; omega
      have h47 : (k + 1) * 32 ≤ 140737488355328 := by omega
      have h63a : 0 + d.r.length ≤ maxLen := by unfold maxLen; omega
      have h47a : (0 + d.r.length) * 32 ≤ 140737488355328 := by omega
      have hbl := HB.out.drew
      have hown : Hid (wr.drew.ownsRow w.heap.size 39 2 u3 k (rowD (L.take k) V)) := HO.out.drew
      obtain ⟨x0, x1, -⟩ := HA.out _ hbl
      have qd : Below wr.heap.size wr (wr.drew.alloc (.cells #[] 44)) := (Below.refl _ _).drew.alloc (Nat.le_refl _) _
      have hmade : Hid ((wr.drew.alloc (.cells #[] 44)).ownsRow wr.heap.size 44 4 (.slice (some ⟨wr.heap.size, 0, none⟩) 0 0) 0 []) := World.ownsRow_made wr.drew #[] 0 (Nat.le_refl _) (by unfold maxLen; omega) (by simp)
      have hsrc := hid13 ((HRA.out.below HB.out).below qd)
      have hbase : Hid (wr.heap.size ≤ (wr.drew.alloc (.cells #[] 44)).heap.size) := qd.size
      have tw_b1 : ∀ {w1 : World}, (wr.drew.alloc (.cells #[] 44)).grownBy w1 (Value.slice (some ⟨wr.heap.size, 0, none⟩) 0 0).ownBlock → Below wr.heap.size wr w1 := fun hg => qd.grown hg qd.size (fun z hz => by simp only [Value.ownBlock, Option.some.injEq] at hz; omega)
      have tw_own : ∀ {w1 : World}, Below wr.heap.size wr w1 → Hid (wr.ownsRow w.heap.size 39 2 u3 k (rowD (L.take k) V)) → Hid (w1.ownsRow w.heap.size 39 2 u3 k (rowD (L.take k) V)) := fun hb h => own_b13 hb h.out
      have hown0 := hid13 HB.out.size
      have tw_base : ∀ {w1 : World} {x : Obj}, Hid (w.heap.size ≤ wr.heap.size) → Below wr.heap.size wr w1 → w.heap.size ≤ (w1.alloc x).heap.size := fun h hb => by have := h.out; have := hb.size; simp; omega
      clear hd hcell hA hk hdr qd
      go_wp2_with fail
      go_region_held3 (fun w' => w'.cell? ⟨b, off + k * 2, none⟩ = some (.int .i64 d.b) ∧ w'.cell? ⟨b, off + k * 2 + 1, none⟩ = some vr ∧ Below w.heap.size w w')
        (first
          | exact HA.out _ hbl
          | (obtain ⟨-, -, k9⟩ := ‹_ ∧ _ ∧ Below _ _ _›; exact HA.out _ (k9.grown hgrow k9.size (fun z hz => (hown.out.lt z hz).1)))
          | (obtain ⟨-, -, k9⟩ := ‹_ ∧ _ ∧ Below _ _ _›; exact HA.out _ (keepb hb1 HB.out))
          | (obtain ⟨-, -, k9⟩ := ‹_ ∧ _ ∧ Below _ _ _›; exact HA.out _ (k9.alloc k9.size _))
          | (obtain ⟨-, -, k9⟩ := ‹_ ∧ _ ∧ Below _ _ _›; exact HA.out _ k9))
        (first
          | (refine step_append_rowA16 rfl (.tmp 17) (.tmp 22) 37 rfl wr.heap.size 44 i0 (.agg #[.int .u64 0, .int .u64 0, .bool false, .int .i64 0]) 4 32 Try.underlying37 hi hz0 hz1 hz2 rfl (by decide) _ 0 [] rfl hmade.out _ d.r.length (rowN d.r) rfl hsrc.out (rowN_one d.r) h63a h47a hbase.out ?_; intro o1 c1 w1 hO1 hg1; have hb1 := tw_b1 hg1; have hown := tw_own hb1 HO)
          | (refine step_append_lies _ rfl (.tmp 11) (.tmp 25) 22 rfl w.heap.size 39 j0 (.agg #[.int .i64 0, .slice none 0 0]) 2 32 Try.underlying22 ji jz0 jz1 jz2 rfl (by decide) _ _ _ rfl (hown.out.alloc _) _ 1 1 [_, _] rfl rfl (news_two16 _ _ _ _) (two_one16 _ _ _ _) (by decide) h63 h47 (tw_base hown0 hb1) _ rfl ?_; intro g cap w4 hown4 hgrow hat hlt4))
      obtain ⟨-, -, k9⟩ := ‹_ ∧ _ ∧ Below _ _ _›
      have HB4 := hid13 k9
      have hO1' : w1.ownsRow wr.heap.size 44 4 (.slice o1 d.r.length c1) d.r.length (rowN d.r) := by rw [Nat.zero_add, List.nil_append] at hO1; exact hO1
      have hgrow' : (w1.alloc (.cells #[.int .i64 d.b, .slice o1 d.r.length c1] 39)).grownBy w4 u3.ownBlock := hgrow
      have hat' : u3.ownBlock = some g ∨ g = (w1.alloc (.cells #[.int .i64 d.b, .slice o1 d.r.length c1] 39)).heap.size := hat
      have HV4 := hid13 (tw_step18 HB.out.size (w := w) (m := k + 1) (c1 := cap) (cap := cap) HVr.out (fun z hz => (HO.out.lt z hz).2) hb1 (own_rwn16 hO1') (fun z hz => (hO1'.lt z hz).1) hgrow' hat' HVl.out HD.out)
      have HO4 : Hid (w4.ownsRow w.heap.size 39 2 (.slice (some ⟨g, 0, none⟩) (k + 1) cap) (k + 1) (rowD (L.take (k + 1)) (V ++ [.slice o1 d.r.length c1]))) := by
        show World.ownsRow _ _ _ _ _ _ _
        rw [HT.out, rowD_app _ _ _ _ (by rw [HVl.out, List.length_take]; omega)]
        exact hown4
      have HVl4 : Hid ((V ++ [Value.slice o1 d.r.length c1]).length = k + 1) := by show _ = _; rw [List.length_append, HVl.out]; rfl
      clear hown4 hgrow hat hlt4 hown hO1 hg1 hO1' hgrow' hat' k9 x0 x1 HA hsrc hmade hbase tw_b1 tw_own tw_base hown0 HC HVr HO hb1
      go_wp2
      go_roundg (gk - 1)
      case measure => have := HK.out; omega
      case rel => exact ⟨k + 1, _, by have := HK.out; omega, rfl, HO4, HVl4, HV4, HB4⟩
    · have hke : k = L.length := by omega
      subst hke
      have HO2 := HO.out
      rw [List.take_of_length_le (Nat.le_refl _)] at HO2
      have HR := hid13 (fun (W : World) (hW : ∀ z, w.heap.size ≤ z → z < wr.heap.size → W.heap[z]? = wr.heap[z]?) => rwd_of (own_keep18 HO2 (fun g hg => hW g (HO2.lt g hg).1 (HO2.lt g hg).2)) HVl.out (fun j d u h1 h2 => HVr.out j d u h1 h2 W (fun z h0 h3 _ => hW z h0 h3)))
      clear HC HO2 HO HVr
      go_wp2
      go_ret
      exact ⟨_, rfl, HR.out, HB.out⟩
end Go.Proofs.Ytjgpbahglkaijab
namespace Go.Proofs.Ytjgpbahglkaijab
open Go.RowKit Go.Shelf
set_option linter.unusedSimpArgs false
set_option linter.unusedVariables false
attribute [local go_sem] Oper.semAt_some

noncomputable def treL (F : Int) (l : List Nat) : List Nde := if (vfR F l).2.2 = 0 then trL l else []
def BdL (N : Nat) (L : List Nde) : Prop := ∀ d ∈ L, 1 ≤ d.r.length ∧ d.r.length ≤ N
theorem BdL.set {N i : Nat} {L : List Nde} {d : Nde} (h : BdL N L) (hd : 1 ≤ d.r.length ∧ d.r.length ≤ N) : BdL N (L.set i d) := fun e he => by
  rcases List.mem_or_eq_of_mem_set he with q | q
  · exact h e q
  · subst q; exact hd
theorem treL_ok (F : Int) (l : List Nat) (hl : l.length ≤ 16384) : (treL F l).length ≤ 5000 ∧ BdL 5000 (treL F l) := by
  unfold treL
  by_cases h : (vfR F l).2.2 = 0
  · rw [if_pos h]
    unfold trL
    by_cases hr : dcE l 0 = 0 ∧ (dcI l 0).op = 4
    · rw [if_pos hr]
      unfold oneN
      refine ⟨by simp, fun d hd => ?_⟩
      simp at hd
      subst hd
      simp
    · rw [if_neg hr]
      obtain ⟨h1, h2⟩ := vfP_ok h hr
      have hw : wds l ≤ 4096 := by unfold wds; omega
      refine ⟨by unfold ndsL; rw [List.length_map]; omega, fun d hd => ?_⟩
      unfold ndsL at hd
      obtain ⟨b, hb, rfl⟩ := List.mem_map.mp hd
      have h3 := h2 b hb
      dsimp only
      rw [runsV_len _ _ h3.1]
      omega
  · rw [if_neg h]
    exact ⟨by simp, fun d hd => by simp at hd⟩
theorem tree_tell18 (w : World) (F : Int) (co : Option Addr) (cc : Nat) (lb : List Nat) (hcode : RwX cB w (.slice co lb.length cc) lb) (hlb : lb.length ≤ 16384) (hxb : ∀ b ∈ lb, b < 256) :
    Calls Try.prog 9 #[.int .i64 F, .slice co lb.length cc] w fun e w' => ∃ v V, e = .returned (.tuple #[v, .int .i64 (vfR F lb).2.2]) ∧ NdO w' w.heap.size v V (treL F lb) ∧ Below w.heap.size w w' := by
  refine (tree18 w F co cc lb hcode (by omega) hxb).mono ?_
  rintro e w' ⟨v, V, h1, h2, h3, h4⟩
  unfold treL
  by_cases h : (vfR F lb).2.2 = 0
  · rw [if_pos h]
    exact ⟨v, V, h1, h3 h, h4⟩
  · rw [if_neg h]
    have := h2 h
    subst this
    exact ⟨_, [], h1, NdO.nil (World.ownsRow_nil _ _ _ _), h4⟩
theorem NdO.tw {W : World} {base : Nat} {v : Value} {V : List Value} {L : List Nde} (h : NdO W base v V L) : TwIn W v L := by
  obtain ⟨ao, c, hv, hc, hr⟩ := h.rwd
  refine ⟨ao, c, hv, hc, ?_⟩
  by_cases hL : L = []
  · exact .inl hL
  · have hp := List.length_pos_iff.mpr hL
    obtain ⟨g, c', hv', -⟩ := own_some18 h.o hp
    rw [hv] at hv'
    injection hv' with e1 e2 e3
    refine .inr ⟨g, 0, e1, fun j d hj => ?_⟩
    have hjl := (List.getElem?_eq_some_iff.mp hj).1
    have hjv : j < V.length := by rw [h.l]; exact hjl
    have hvj : V[j]? = some V[j] := List.getElem?_eq_getElem hjv
    obtain ⟨c0, c1⟩ := rowD_get L V j d _ hj hvj
    have ho := h.o
    rw [hv, e1] at ho
    rw [Nat.zero_add]
    exact ⟨V[j], (own_at18 ho c0).1, (own_at18 ho c1).1, own_rowA (h.r j d _ hj hvj)⟩
theorem NdO.keep {W W' : World} {base : Nat} {v : Value} {V : List Value} {L : List Nde} (h : NdO W base v V L) (hk : ∀ z, base ≤ z → z < W.heap.size → W'.heap[z]? = W.heap[z]?) : NdO W' base v V L :=
  ⟨own_keep18 h.o (fun g hg => hk g (h.o.lt g hg).1 (h.o.lt g hg).2), h.l, fun j d u h1 h2 => own_keep18 (h.r j d u h1 h2) (fun g hg => hk g ((h.r j d u h1 h2).lt g hg).1 ((h.r j d u h1 h2).lt g hg).2), h.d⟩
def W9 (i : Nat) (L : List Nde) : Prop := ∀ (j : Nat) (d : Nde), j < i → L[j]? = some d → ∀ r ∈ d.r, r.n = -9
def F9 (L : List Nde) : Prop := ∀ d ∈ L, ∃ r t, d.r = r :: t ∧ r.n = -9
theorem W9.f {n : Nat} {L : List Nde} (h : W9 n L) (hl : L.length = n) (hb : ∀ d ∈ L, 1 ≤ d.r.length) : F9 L := fun d hd => by
  obtain ⟨j, hj⟩ := List.getElem?_of_mem hd
  have hjl := (List.getElem?_eq_some_iff.mp hj).1
  cases hr : d.r with
  | nil => have := hb d hd; rw [hr] at this; simp at this
  | cons r t => exact ⟨r, t, rfl, h j d (by omega) hj r (by rw [hr]; simp)⟩
theorem F9.grow {i : Nat} {L : List Nde} {d : Nde} {r : Rn} (h : F9 L) (hd : L[i]? = some d) : F9 (L.set i ⟨d.b, d.r ++ [r]⟩) := fun e he => by
  rcases List.mem_or_eq_of_mem_set he with q | q
  · exact h e q
  · subst q
    obtain ⟨r0, t, h1, h2⟩ := h d (List.mem_of_getElem? hd)
    exact ⟨r0, t ++ [r], by rw [h1]; rfl, h2⟩
structure In9 (n N i dl k : Nat) (L : List Nde) : Prop where
  l : L.length = n
  b : BdL N L
  w : W9 i L
  d : ∃ d, L[i]? = some d ∧ d.r.length = dl ∧ ∀ j r, j < k → d.r[j]? = some r → r.n = -9
theorem In9.start {n N i : Nat} {L : List Nde} {d : Nde} (hl : L.length = n) (hb : BdL N L) (hw : W9 i L) (hd : L[i]? = some d) : In9 n N i d.r.length 0 L := ⟨hl, hb, hw, d, hd, rfl, fun j r h => by omega⟩
theorem In9.step {n N i dl k : Nat} {L : List Nde} {d : Nde} (h : In9 n N i dl k L) (hd : L[i]? = some d) (f : BitVec 128) (b : Bool) : In9 n N i dl (k + 1) (L.set i ⟨d.b, d.r.set k ⟨f, b, -9⟩⟩) := by
  obtain ⟨d', hd', hl, hk⟩ := h.d
  rw [hd] at hd'
  injection hd' with hd'
  subst hd'
  have hil := (List.getElem?_eq_some_iff.mp hd).1
  refine ⟨by rw [List.length_set]; exact h.l, h.b.set ?_, fun j e hj he => ?_, _, List.getElem?_set_self hil, by dsimp only; rw [List.length_set]; exact hl, fun j r hj hr => ?_⟩
  · dsimp only
    rw [List.length_set]
    exact h.b d (List.mem_of_getElem? hd)
  · rw [List.getElem?_set_ne (by omega)] at he
    exact h.w j e hj he
  · dsimp only at hr
    by_cases c : j = k
    · subst c
      have := (List.getElem?_eq_some_iff.mp hr).1
      rw [List.length_set] at this
      rw [List.getElem?_set_self this] at hr
      injection hr with hr
      rw [← hr]
    · rw [List.getElem?_set_ne (Ne.symm c)] at hr
      exact hk j r (by omega) hr
theorem In9.fin {n N i dl : Nat} {L : List Nde} (h : In9 n N i dl dl L) : W9 (i + 1) L := fun j e hj he r hr => by
  by_cases c : j = i
  · subst c
    obtain ⟨d, hd, hl, hk⟩ := h.d
    rw [hd] at he
    injection he with he
    subst he
    obtain ⟨q, hq⟩ := List.getElem?_of_mem hr
    exact hk q r (by rw [← hl]; exact (List.getElem?_eq_some_iff.mp hq).1) hq
  · exact h.w j e (by omega) he r hr
structure Gr9 (n N i : Nat) (L : List Nde) : Prop where
  l : L.length = n
  b : BdL (N + 1) L
  w : ∀ (j : Nat) (d : Nde), i ≤ j → L[j]? = some d → d.r.length ≤ N
  f : F9 L
theorem Gr9.start {n N : Nat} {L : List Nde} (hl : L.length = n) (hb : BdL N L) (hf : F9 L) : Gr9 n N 0 L := ⟨hl, fun d hd => by have := hb d hd; omega, fun j d _ h => (hb d (List.mem_of_getElem? h)).2, hf⟩
theorem Gr9.step {n N i : Nat} {L : List Nde} {d : Nde} {r : Rn} (h : Gr9 n N i L) (hd : L[i]? = some d) : Gr9 n N (i + 1) (L.set i ⟨d.b, d.r ++ [r]⟩) := by
  refine ⟨by rw [List.length_set]; exact h.l, h.b.set ?_, fun j e hj he => ?_, h.f.grow hd⟩
  · have := h.w i d (Nat.le_refl _) hd
    dsimp only
    rw [List.length_append, List.length_singleton]
    omega
  · rw [List.getElem?_set_ne (by omega)] at he
    exact h.w j e (by omega) he
theorem XoO.row {w V0 W U : World} {x1 x2 : Nat} {v u : Value} {V : List Value} {L : List Nde} (h : XoO w V0 W x1 x2 v V L) {l : List Nat} {base : Nat} (ho : U.ownsRow base 5 1 u l.length (l.map cB)) (hU : Below U.heap.size U V0) (hs : U.heap.size ≤ x1) : RwX cB W u l :=
  own_rwx (own_keep18 ho (fun g hg => by
    have hlt := (ho.lt g hg).2
    have h1 := hU.block g hlt
    obtain ⟨cs, hcs⟩ := own_typed18 ho g hg
    rw [hcs] at h1
    rw [hcs]
    exact h.k g _ h1 (.inl (by omega))))
theorem xo_start18 {w w3 w4 w6 : World} {v : Value} {V : List Value} {L : List Nde} (h : NdO w4 w3.heap.size v V L) (h3 : Below w.heap.size w w3) (h4 : Below w3.heap.size w3 w4) (h5 : Below w4.heap.size w4 w6) : XoO w w6 w6 w3.heap.size w4.heap.size v V L :=
  ⟨keepb h5 (keepb h4 h3), fun z ob h1 _ => h1, Nat.le_refl _, h.below h5, fun z hz => h.o.lt z hz, fun j u z h1 h2 => by
    have hjl : j < L.length := by rw [← h.l]; exact (List.getElem?_eq_some_iff.mp h1).1
    exact .inl ((h.r j L[j] u (List.getElem?_eq_getElem hjl) h1).lt z h2), ⟨h3.size, h4.size, h5.size⟩⟩
end Go.Proofs.Ytjgpbahglkaijab
namespace Go.Proofs.Ytjgpbahglkaijab
open Go.RowKit Go.Shelf
set_option linter.unusedSimpArgs false
set_option linter.unusedVariables false
attribute [local go_sem] Oper.semAt_some

set_option maxRecDepth 100000 in
set_option maxHeartbeats 16000000 in
theorem verifyOwn_any (F : Int) (v : Value) (L : List Nde) (w : World) (hF0 : -9223372036854775808 ≤ F) (hF1 : F ≤ 9223372036854775807) (hv : RwD w v L) (hl : L.length ≤ 140737488355328) (hr : ∀ d ∈ L, d.r.length ≤ 140737488355328) :
    Calls Try.prog 4 #[.int .i64 F, v] w fun e w' => e = .returned (.bool true) ∧ Below w.heap.size w w' := by
  obtain ⟨i0, hi, hz0, hz1, hz2⟩ := info13 Try.infoRn16
  have HV := hid13 hv
  have HL : Hid (L.length ≤ 140737488355328 ∧ ∀ d ∈ L, d.r.length ≤ 140737488355328) := ⟨hl, hr⟩
  obtain ⟨ao, c, hvf, -⟩ := id hv
  subst hvf
  clear hv hl hr hF0 hF1
  go_enter Try.func4, Try.ntmps4
  go_wp2_with fail
  refine (known18 _).mono ?_
  rintro e w1 ⟨rfl, hb1⟩
  have HB1 := hid13 hb1
  have KS := few_any _ L w1 (HV.out.below hb1) HL.out.1 HL.out.2
  clear hb1
  go_wp2_with fail
  refine KS.mono ?_
  rintro e w2 ⟨rfl, hw⟩
  subst hw
  clear KS
  cases hfb : fewB L with
  | false =>
    go_wp2
    go_ret
    exact ⟨rfl, HB1.out⟩
  | true =>
  have hf := few_ok hfb
  have KC := rcode16_any F _ L 16384 w2 (HV.out.below HB1.out) (by omega) (fun d hd => by have := hf.2 d hd; omega)
  have HX := hid13 (codB_lt F L 16384)
  have HCl := hid13 (fun h => (cod_len (F := F) (L := L) (most := 16384) h).2.1)
  clear hf hfb
  obtain ⟨B, hB⟩ : ∃ B, B = codB F L 16384 := ⟨_, rfl⟩
  obtain ⟨E, hE⟩ : ∃ E, E = codE F L 16384 := ⟨_, rfl⟩
  rw [← hB, ← hE] at KC
  rw [← hB] at HX
  rw [← hB, ← hE] at HCl
  clear hB hE
  go_wp2_with fail
  refine KC.mono ?_
  rintro e w3 ⟨vB, rfl, hob, hb3⟩
  have HO := hid13 hob
  have HB3 := hid13 (keepb hb3 HB1.out)
  obtain ⟨bo, bc, hvB⟩ := own_form hob
  clear KC hob hb3
  by_cases hE0 : E = 0
  · subst hE0
    have hBl := HCl.out rfl
    have HT := hid13 (fun W (h : RwX cB W (.slice bo B.length bc) B) => tree_tell18 W F bo bc B h (by omega) HX.out)
    obtain ⟨LT, hLT⟩ : ∃ LT, LT = treL F B := ⟨_, rfl⟩
    have HLT : Hid (LT.length ≤ 5000 ∧ BdL 5000 LT) := hid13 (by rw [hLT]; exact treL_ok F B (by omega))
    rw [← hLT] at HT
    obtain ⟨bn, hbn⟩ : ∃ bn, bn = B.length := ⟨_, rfl⟩
    generalize (vfR F B).2.2 = E2 at *
    subst hvB
    rw [← hbn] at HT ⊢
    have HBn : Hid (bn = B.length) := hbn
    have HRb : Hid (RwX cB w3 (.slice bo bn bc) B) := hid13 (by rw [hbn]; exact own_rwx HO.out)
    have K1 := HT.out w3 HRb.out
    clear hbn hBl hLT HCl HV HL
    go_wp2_with fail
    refine K1.mono ?_
    rintro e w4 ⟨vx, Vx, rfl, hx, hb4⟩
    have HXn := hid13 hx
    have HB4 := hid13 hb4
    have K2 := HT.out w4 (HRb.out.below hb4)
    obtain ⟨ox, cx, hvx⟩ := own_form hx.o
    obtain ⟨ln, hln⟩ : ∃ ln, ln = LT.length := ⟨_, rfl⟩
    rw [← hln] at hvx
    subst hvx
    have HLn : Hid (ln = LT.length) := hln
    clear K1 hx hb4 hln
    go_wp2_with fail
    refine K2.mono ?_
    rintro e w5 ⟨vy, Vy, rfl, hy, hb5⟩
    have HYn := hid13 hy
    have HB5 := hid13 hb5
    have K3 := twin18 vy LT w5 hy.tw (by have := HLT.out.1; omega) (fun d hd => by have := (HLT.out.2 d hd).2; omega)
    obtain ⟨oy, cy, hvy⟩ := own_form hy.o
    rw [← HLn.out] at hvy
    subst hvy
    clear K2 hy hb5
    go_wp2_with fail
    refine K3.mono ?_
    rintro e w6 ⟨vt, rfl, ht, hb6⟩
    have HTw := hid13 ht
    have HB6 := hid13 hb6
    have HX0 := hid13 (xo_start18 HXn.out HB3.out HB4.out (keepb hb6 HB5.out))
    have hs56 : Hid (w4.heap.size ≤ w5.heap.size ∧ w5.heap.size ≤ w6.heap.size) := ⟨HB5.out.size, hb6.size⟩
    have hln5 : (ln : Int) ≤ 5000 := by have := HLn.out; have := HLT.out.1; omega
    have hI0 := hI_zero
    have lI0 := lI_zero
    clear K3 ht hb6
    go_wp2_with fail
    go_loopg [12] ln (fun gk iv wr => ∃ (i : Nat) (L2 : List Nde), i + gk = ln ∧ iv = .int .i64 (i : Int) ∧ Hid (XoO w w6 wr w3.heap.size w4.heap.size (.slice ox ln cx) Vx L2 ∧ L2.length = ln ∧ BdL 5000 L2 ∧ W9 i L2))
    case atStart => exact ⟨0, LT, by omega, rfl, hid13 ⟨HX0.out, HLn.out.symm, HLT.out.2, fun j d h => by omega⟩⟩
    case round =>
      clear HX0
      obtain ⟨i, L2, hk, rfl, HI⟩ := hrel
      by_cases hlt : (i : Int) < (ln : Int)
      · have hil : i < L2.length := by rw [HI.out.2.1]; omega
        obtain ⟨d, hd⟩ : ∃ d, L2[i]? = some d := ⟨_, List.getElem?_eq_getElem hil⟩
        obtain ⟨g, cg, u, hvg, hu, x0, -, hru⟩ := HI.out.1.node hd
        injection hvg with hg1 hg2 hg3
        subst hg1
        have hdr := HI.out.2.2.1 d (List.mem_of_getElem? hd)
        obtain ⟨g1, c1, hug, -⟩ := own_some18 hru (by omega)
        subst hug
        obtain ⟨dl, hdl⟩ : ∃ dl, dl = d.r.length := ⟨_, rfl⟩
        rw [← hdl] at x0 hu hdr
        have HIn : Hid (XoO w w6 wr w3.heap.size w4.heap.size (.slice (some ⟨g, 0, none⟩) ln cx) Vx L2 ∧ In9 ln 5000 i dl 0 L2) := hid13 ⟨HI.out.1, by rw [hdl]; exact In9.start HI.out.2.1 HI.out.2.2.1 HI.out.2.2.2 hd⟩
        have HU := hid13 hu
        have hdl5 : (dl : Int) ≤ 5000 := by omega
        have mi : IntKind.i64.wrap ((i : Int) + 1) = ((i + 1 : Nat) : Int) := by rw [IntKind.wrap_i64]; omega
        obtain ⟨GK, hGK⟩ : ∃ GK, GK = gk := ⟨_, rfl⟩
        have HK : Hid (i + GK = ln ∧ i < ln ∧ GK = gk) := ⟨by omega, by omega, hGK⟩
        have hii : (i : Int) < (ln : Int) := hlt
        clear HI hil hd hu hru hdr hdl hg2 hg3 hGK hk
        go_wp2_with fail
        go_loopg [13] dl (fun gk2 jv wr2 => ∃ (k : Nat) (L3 : List Nde), k + gk2 = dl ∧ jv = .int .i64 (k : Int) ∧ Hid (XoO w w6 wr2 w3.heap.size w4.heap.size (.slice (some ⟨g, 0, none⟩) ln cx) Vx L3 ∧ In9 ln 5000 i dl k L3))
        case atStart => exact ⟨0, L2, by omega, rfl, HIn⟩
        case round =>
          clear HIn
          obtain ⟨k, L3, hk2, rfl, HJ⟩ := hrel
          obtain ⟨d3, hd3, hl3, -⟩ := HJ.out.2.d
          obtain ⟨g', cg', u', hvg', hu', x0, -, hru⟩ := HJ.out.1.node hd3
          injection hvg' with hg1 hg2 hg3
          injection hg1 with hg1
          injection hg1 with hg1 _ _
          subst hg1
          clear hg2 hg3
          rw [HU.out] at hu'
          injection hu' with hu'
          subst hu'
          have mk : IntKind.i64.wrap ((k : Int) + 1) = ((k + 1 : Nat) : Int) := by rw [IntKind.wrap_i64]; omega
          have HK2 : Hid (k + gk = dl) := hk2
          rw [hl3] at hru
          by_cases hlt2 : (k : Int) < (dl : Int)
          · have hkd : k < d3.r.length := by omega
            obtain ⟨r, hr⟩ : ∃ r, d3.r[k]? = some r := ⟨_, List.getElem?_eq_getElem hkd⟩
            obtain ⟨q0, q1, q2, q3⟩ := rowN_get d3.r k r hr
            obtain ⟨y0, f0⟩ := own_at18 hru q0
            obtain ⟨y1, f1⟩ := own_at18 hru q1
            obtain ⟨y2, f2⟩ := own_at18 hru q2
            obtain ⟨y3, f3⟩ := own_at18 hru q3
            have HP := hid13 (HJ.out.1.put hd3 (by rw [hl3]; exact HU.out) hkd ⟨0#128, false, -9⟩)
            have HQ := hid13 (HJ.out.2.step hd3 0#128 false)
            rw [hI0, lI0] at HP
            clear hkd hr q0 q1 q2 q3 hru HJ hd3 hl3 hk2
            go_wp2
            go_roundg (gk - 1)
            case measure => have := HK2.out; omega
            case rel => exact ⟨k + 1, _, by have := HK2.out; omega, rfl, hid13 ⟨HP.out, HQ.out⟩⟩
          · have hke : k = dl := by omega
            subst hke
            have HQ : Hid (XoO w w6 wr w3.heap.size w4.heap.size (.slice (some ⟨g, 0, none⟩) ln cx) Vx L3 ∧ L3.length = ln ∧ BdL 5000 L3 ∧ W9 (i + 1) L3) := hid13 ⟨HJ.out.1, HJ.out.2.l, HJ.out.2.b, HJ.out.2.fin⟩
            clear HJ hd3 hl3 hru hk2
            go_wp2
            go_roundg (GK - 1)
            case measure => have := HK.out; omega
            case rel => exact ⟨i + 1, L3, by have := HK.out; omega, rfl, HQ⟩
      · have hie : i = ln := by omega
        subst hie
        have HX9 : Hid (XoO w w6 wr w3.heap.size w4.heap.size (.slice ox i cx) Vx L2 ∧ L2.length = i ∧ BdL (5000 + 0) L2 ∧ F9 L2) := hid13 ⟨HI.out.1, HI.out.2.1, HI.out.2.2.1, HI.out.2.2.2.f HI.out.2.1 (fun d hd => (HI.out.2.2.1 d hd).1)⟩
        clear HI
        go_wp2_with fail
        go_loopg [14] 20 (fun gk kv wr => ∃ (k : Nat) (V2 : List Value) (L2 : List Nde), k + gk = 20 ∧ kv = .int .i64 (k : Int) ∧ Hid (XoO w w6 wr w3.heap.size w4.heap.size (.slice ox i cx) V2 L2 ∧ L2.length = i ∧ BdL (5000 + k) L2 ∧ F9 L2))
        case atStart => exact ⟨0, _, _, rfl, rfl, HX9⟩
        case round =>
          clear HX9
          obtain ⟨k, V2, L2, hk, rfl, HI⟩ := hrel
          by_cases hlt : (k : Int) < 20
          · have HIn : Hid (XoO w w6 wr w3.heap.size w4.heap.size (.slice ox i cx) V2 L2 ∧ Gr9 i (5000 + k) 0 L2) := hid13 ⟨HI.out.1, Gr9.start HI.out.2.1 HI.out.2.2.1 HI.out.2.2.2⟩
            have mk : IntKind.i64.wrap ((k : Int) + 1) = ((k + 1 : Nat) : Int) := by rw [IntKind.wrap_i64]; omega
            obtain ⟨GK, hGK⟩ : ∃ GK, GK = gk := ⟨_, rfl⟩
            have HK : Hid (k + GK = 20 ∧ k < 20 ∧ GK = gk) := ⟨by omega, by omega, hGK⟩
            clear HI hGK hk
            go_wp2_with fail
            go_loopg [15] i (fun gk jv wr => ∃ (j : Nat) (V3 : List Value) (L3 : List Nde), j + gk = i ∧ jv = .int .i64 (j : Int) ∧ Hid (XoO w w6 wr w3.heap.size w4.heap.size (.slice ox i cx) V3 L3 ∧ Gr9 i (5000 + k) j L3))
            case atStart => exact ⟨0, _, _, by omega, rfl, HIn⟩
            case round =>
              clear HIn
              obtain ⟨j, V3, L3, hk2, rfl, HJ⟩ := hrel
              by_cases hlt2 : (j : Int) < (i : Int)
              · have hjl : j < L3.length := by rw [HJ.out.2.l]; omega
                obtain ⟨d, hd⟩ : ∃ d, L3[j]? = some d := ⟨_, List.getElem?_eq_getElem hjl⟩
                obtain ⟨g, cg, u, hvg, hu, x0, fx0, hru⟩ := HJ.out.1.node hd
                rw [HJ.out.2.l] at hvg
                injection hvg with hg1 hg2 hg3
                subst hg1 hg3
                obtain ⟨uo, uc, huf⟩ := own_form hru
                obtain ⟨dl, hdl⟩ : ∃ dl, dl = d.r.length := ⟨_, rfl⟩
                rw [← hdl] at huf
                subst huf
                have hdb := HJ.out.2.w j d (Nat.le_refl _) hd
                have mj : IntKind.i64.wrap ((j : Int) + 1) = ((j + 1 : Nat) : Int) := by rw [IntKind.wrap_i64]; omega
                have HK2 : Hid (j + gk = i ∧ dl = d.r.length ∧ dl ≤ 5100) := ⟨hk2, hdl, by have := HK.out; omega⟩
                have HX3 := hid13 x0
                have HU := hid13 hu
                have HD := hid13 hd
                have q9 := bl1 wr (.cells #[.int .u64 0, .int .u64 0, .bool false, .int .i64 (-8)] 44)
                have hru2 := own_b13 q9 hru
                rw [← hdl] at hru2
                have HRu := hid13 hru2
                have HJ2 := hid13 (HJ.out.1.below q9)
                clear hjl hd hu hru hru2 hdl hdb fx0 hk2 hg2
                go_wp2_with (at_builtin; apply stopHere9)
                refine (show wpList _ _ _ _ _ _ from ?_)
                have HxS : Hid (w3.heap.size ≤ (wr.alloc (.cells #[.int .u64 0, .int .u64 0, .bool false, .int .i64 (-8)] 44)).heap.size) := hid13 (by have := HJ2.out.x; have := HJ2.out.s; omega)
                refine wpList_append_lies _ rfl _ _ 37 rfl w3.heap.size 44 i0 (.agg #[.int .u64 0, .int .u64 0, .bool false, .int .i64 0]) 4 32 Try.underlying37 hi hz0 hz1 hz2 rfl (by decide) _ _ _ rfl HRu.out ⟨wr.heap.size, 0, none⟩ 1 1 [.int .u64 0, .int .u64 0, .bool false, .int .i64 (-8)] rfl rfl (newsN18 wr _ _ _ _ _) (by intro u hu; simp at hu; rcases hu with rfl | rfl | rfl <;> rfl) (by decide) (by unfold maxLen; have := HK2.out; omega) (by have := HK2.out; omega) HxS.out _ rfl ?_
                intro g9 cap9 w9 h1 h2 h3 h4
                have e8 : rowN d.r ++ [Value.int .u64 0, .int .u64 0, .bool false, .int .i64 (-8)] = rowN (d.r ++ [⟨0#128, false, -8⟩]) := by rw [rowN_app18, hI0, lI0]
                rw [e8] at h1
                obtain ⟨gv, cv, uv, hvv, huv, hcv, hfv, -⟩ := HJ2.out.node HD.out
                rw [HJ.out.2.l] at hvv
                have hgv : gv = g := by injection hvv with q1 _ _; injection q1 with q1; injection q1 with q1 _ _; exact q1.symm
                subst hgv
                have hGv := HJ2.out.n.o
                obtain ⟨cs9, hcs9⟩ := own_typed18 hGv gv rfl
                have hblk : w9.heap[gv]? = some (.cells cs9 39) := (h2.block gv (lt_16 hcs9) (fun q => own_not18 HRu.out hcs9 (by decide) q.symm)).trans hcs9
                have z0 : w9.cell? ⟨gv, j * 2 + 1, none⟩ = some (.slice uo dl uc) := by
                  rw [World.cell?_of_block (a := ⟨gv, j * 2 + 1, none⟩) (hblk.trans hcs9.symm)]
                  exact keepc q9 HX3.out
                have zf := fr_16 (j := j * 2 + 1) hblk
                have HR := hid13 (HJ2.out.grow (i := j) (gv := gv) (c := cx) (u' := .slice (some ⟨g9, 0, none⟩) (dl + 1) cap9) (r := ⟨0#128, false, -8⟩) HD.out HU.out (by rw [HJ.out.2.l]) (by rw [← HK2.out.2.1]; exact h1) h2 (fun z hz => by
                  have hz : g9 = z := by simpa [Value.ownBlock] using hz
                  subst hz
                  exact h3))
                have HQ := hid13 (HJ.out.2.step (r := ⟨0#128, false, -8⟩) HD.out)
                clear h1 h2 h3 h4 e8 hvv huv hcv hfv hGv hcs9 hblk HRu HJ2 HJ HD HU HX3 x0 q9 HxS
                go_wp2
                go_roundg (gk - 1)
                case measure => have := HK2.out; omega
                case rel => exact ⟨j + 1, _, _, by have := HK2.out; omega, rfl, hid13 ⟨HR.out, HQ.out⟩⟩
              · have hje : j = i := by omega
                subst hje
                have HQ : Hid (XoO w w6 wr w3.heap.size w4.heap.size (.slice ox j cx) V3 L3 ∧ L3.length = j ∧ BdL (5000 + (k + 1)) L3 ∧ F9 L3) := hid13 ⟨HJ.out.1, HJ.out.2.l, by have := HJ.out.2.b; exact this, HJ.out.2.f⟩
                clear HJ hk2
                go_wp2
                go_roundg (GK - 1)
                case measure => have := HK.out; omega
                case rel => exact ⟨k + 1, _, _, by have := HK.out; omega, rfl, HQ⟩
          · have HX9 : Hid (XoO w w6 wr w3.heap.size w4.heap.size (.slice ox i cx) V2 L2 ∧ L2.length = i ∧ BdL (5000 + k) L2 ∧ F9 L2) := HI
            clear HI hk
            go_wp2_with fail
            go_loopg [16] i (fun gk jv wr => ∃ j : Nat, j + gk = i ∧ jv = .int .i64 (j : Int) ∧ Hid (XoO w w6 wr w3.heap.size w4.heap.size (.slice ox i cx) V2 L2 ∧ L2.length = i ∧ BdL (5000 + k) L2 ∧ F9 L2))
            case atStart => exact ⟨0, by omega, rfl, HX9⟩
            case round =>
              clear HX9
              obtain ⟨j, hk2, rfl, HJ⟩ := hrel
              by_cases hlt2 : (j : Int) < (i : Int)
              · have hjl : j < L2.length := by rw [HJ.out.2.1]; omega
                obtain ⟨d, hd⟩ : ∃ d, L2[j]? = some d := ⟨_, List.getElem?_eq_getElem hjl⟩
                obtain ⟨g, cg, u, hvg, hu, x0, -, hru⟩ := HJ.out.1.node hd
                rw [HJ.out.2.1] at hvg
                injection hvg with hg1 hg2 hg3
                subst hg1 hg3
                obtain ⟨r, t, hrt, hr9⟩ := HJ.out.2.2.2 d (List.mem_of_getElem? hd)
                have hdp : 0 < d.r.length := by rw [hrt]; simp
                obtain ⟨g1, c1, hug, -⟩ := own_some18 hru hdp
                subst hug
                obtain ⟨q0, q1, q2, q3⟩ := rowN_get d.r 0 r (by rw [hrt]; rfl)
                have y3 := (own_at18 hru q3).1
                rw [hr9, show 0 * 4 + 3 = 3 from rfl] at y3
                obtain ⟨dl, hdl⟩ : ∃ dl, dl = d.r.length := ⟨_, rfl⟩
                rw [← hdl] at x0 hdp
                have mj : IntKind.i64.wrap ((j : Int) + 1) = ((j + 1 : Nat) : Int) := by rw [IntKind.wrap_i64]; omega
                have hdpi : (0 : Int) < (dl : Int) := by omega
                have HK2 : Hid (j + gk = i ∧ j < i) := ⟨hk2, by omega⟩
                clear hjl hd hu hru q0 q1 q2 q3 hrt hr9 hdl hk2 hg2 hdp
                go_wp2
                go_roundg (gk - 1)
                case measure => have := HK2.out; omega
                case rel => exact ⟨j + 1, by have := HK2.out; omega, rfl, HJ⟩
              · have HRw : Hid (RwX cB wr (.slice bo bn bc) B) := hid13 (by
                  have h9 := HJ.out.1.row (base := w2.heap.size) HO.out (keepb HB6.out (keepb HB5.out HB4.out)) (Nat.le_refl _)
                  rw [← HBn.out] at h9
                  exact h9)
                have KZ := HT.out wr HRw.out
                clear hk2
                go_wp2_with fail
                refine KZ.mono ?_
                rintro e w8 ⟨vz, Vz, rfl, hz, hb8⟩
                have HKp : Hid (∀ z, w4.heap.size ≤ z → z < w6.heap.size → w8.heap[z]? = w6.heap[z]?) := hid13 (fun z h1 h2 => by
                  have h3 : w6.heap[z]? = some w6.heap[z] := Array.getElem?_eq_getElem h2
                  have h4 := HJ.out.1.k z _ h3 (.inr h1)
                  rw [hb8.block z (Array.getElem?_eq_some_iff.1 h4).1, h4, h3])
                have HRy := hid13 ((HYn.out.below HB6.out).keep (fun z h1 h2 => HKp.out z h1 h2)).rwd
                have HRt := hid13 (HTw.out w8 (fun z h1 h2 => HKp.out z (by have := hs56.out; omega) h2))
                have HRz := hid13 hz.rwd
                have HB8 := hid13 (keepb hb8 HJ.out.1.b)
                have KS1 := fun W (h : Below w8.heap.size w8 W) => same_any16 (.slice oy i cy) vt LT W (HRy.out.below h) (HRt.out.below h) (by have := HLT.out.1; omega) (fun d hd => by have := (HLT.out.2 d hd).2; omega)
                have KS2 := fun W (h : Below w8.heap.size w8 W) => same_any16 vz vt LT W (HRz.out.below h) (HRt.out.below h) (by have := HLT.out.1; omega) (fun d hd => by have := (HLT.out.2 d hd).2; omega)
                have K1 := KS1 w8 (Below.refl _ _)
                have HK2 := hid13 KS2
                clear KZ hz hb8 KS1 KS2
                go_wp2_with fail
                refine K1.mono ?_
                rintro e w9 ⟨rfl, hb9⟩
                have K2 := HK2.out w9 hb9
                have HB9 := hid13 (keepb hb9 HB8.out)
                clear K1 hb9
                go_wp2_with fail
                refine K2.mono ?_
                rintro e w10 ⟨rfl, hb10⟩
                have HB10 := hid13 (keepb hb10 HB9.out)
                clear K2 hb10
                go_wp2
                go_ret
                exact ⟨rfl, HB10.out⟩
  · have hne : (E != 0) = true := by simpa using hE0
    subst hvB
    clear hE0 HX HCl HO HV
    go_wp2
    go_ret
    exact ⟨rfl, HB3.out⟩
end Go.Proofs.Ytjgpbahglkaijab
