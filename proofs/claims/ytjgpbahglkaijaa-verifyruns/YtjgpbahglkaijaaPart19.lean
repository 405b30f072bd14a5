/-
  Part 19 of the proof: 17 texts, one behind the other.
-/
import Derived.Test.YtjgpbahglkaijaaPart18
import Derived.Test.YtjgpbahglkaijaaPart2
import Derived.Test.YtjgpbahglkaijaaPart6
import Derived.Test.YtjgpbahglkaijaaPart1
import Derived.ProofKit
import Derived.Deep.Slices
import Derived.Deep.Strs
import Derived.Carry
import Derived.SizedLaws
import Derived.Lib.SmallJoins
import Derived.Deep.RegionHeld3
import Derived.Deep.AppendLies
import Derived.Laws.AppendOwnNone
namespace Go.Proofs.Ytjgpbahglkaijaa
open Go.RowKit
set_option linter.unusedSimpArgs false
set_option linter.unusedVariables false
attribute [local go_sem] Oper.semAt_some

theorem nds_all (N : Int) : ∀ (L : List Nde) (i : Nat), ndsE N i L = 0 → ∀ (k : Nat) (d : Nde), L[k]? = some d → ndeE d ((i + k : Nat) : Int) N = 0
  | [], i, h, k, d, hd => by simp at hd
  | e :: L, i, h, k, d, hd => by
    unfold ndsE at h
    by_cases h0 : ndeE e i N = 0
    · rw [if_pos h0] at h
      cases k with
      | zero => simp at hd; subst hd; simpa using h0
      | succ k =>
        have := nds_all N L (i + 1) h k d (by simpa using hd)
        rwa [show i + 1 + k = i + (k + 1) by omega] at this
    · rw [if_neg h0] at h
      exact absurd h h0
theorem runs_all (i N : Int) : ∀ (l : List Rn), runsE i N l = 0 → ∀ r ∈ l, runE r i N = 0
  | [], h, r, hr => by cases hr
  | e :: l, h, r, hr => by
    unfold runsE at h
    by_cases h0 : runE e i N = 0
    · rw [if_pos h0] at h
      rcases List.mem_cons.mp hr with rfl | q
      · exact h0
      · exact runs_all i N l h r q
    · rw [if_neg h0] at h
      exact absurd h h0
structure NdOk (d : Nde) (i N : Int) : Prop where
  b0 : 0 ≤ d.b
  b1 : d.b ≤ 128
  bz : d.b = 0 → N ≤ 1
  io : ioB d = true
  hop : ∀ r ∈ d.r, r.k = false → 0 ≤ r.n ∧ r.n ≤ 65535
  kid : ∀ r ∈ d.r, r.k = true → i < r.n ∧ r.n < N
theorem nd_ok {d : Nde} {i N : Int} (h : ndeE d i N = 0) : NdOk d i N := by
  unfold ndeE at h
  by_cases h1 : argB d.b N = true
  · rw [if_pos h1] at h
    by_cases h2 : ioB d = true
    · rw [if_pos h2] at h
      unfold argB bitsB at h1
      simp at h1
      have hr := runs_all i N d.r h
      refine ⟨h1.1.1, h1.1.2, fun q => ?_, h2, fun r hr' hk => ?_, fun r hr' hk => ?_⟩
      · rcases h1.2 with z | z
        · exact absurd q z
        · omega
      · have := hr r hr'
        unfold runE at this
        rw [hk] at this
        simp at this
        omega
      · have := hr r hr'
        unfold runE at this
        rw [hk] at this
        simp at this
        omega
    · rw [if_neg h2] at h; omega
  · rw [if_neg h1] at h; omega
theorem mem_kidL {l : List Rn} {x : Int} (h : x ∈ kidL l) : ∃ r ∈ l, r.k = true ∧ r.n = x := by
  unfold kidL at h
  obtain ⟨r, hr, rfl⟩ := List.mem_map.mp h
  obtain ⟨h1, h2⟩ := List.mem_filter.mp hr
  exact ⟨r, h1, by simpa using h2, rfl⟩
def NdsOk (L : List Nde) : Prop := 0 < L.length ∧ ∀ (k : Nat) (d : Nde), L[k]? = some d → NdOk d k L.length
theorem nodes_ok {L : List Nde} (h : nodesE L = 0) : NdsOk L := by
  unfold nodesE at h
  by_cases h0 : L = []
  · rw [if_pos h0] at h; omega
  · rw [if_neg h0] at h
    refine ⟨List.length_pos_iff.mpr h0, fun k d hd => ?_⟩
    have := nd_ok (nds_all _ L 0 h k d hd)
    rwa [Nat.zero_add] at this
theorem NdsOk.bits {L : List Nde} (h : NdsOk L) : ∀ d ∈ L, 0 ≤ d.b ∧ d.b ≤ 128 := fun d hd => by
  obtain ⟨k, hk⟩ := List.getElem?_of_mem hd
  exact ⟨(h.2 k d hk).b0, (h.2 k d hk).b1⟩
theorem NdsOk.kids {L : List Nde} (h : NdsOk L) : ∀ d ∈ L, ∀ x ∈ kidL d.r, 0 ≤ x ∧ x < L.length := fun d hd x hx => by
  obtain ⟨k, hk⟩ := List.getElem?_of_mem hd
  obtain ⟨r, h1, h2, rfl⟩ := mem_kidL hx
  have := (h.2 k d hk).kid r h1 h2
  omega
def chkM (F : Int) (L : List Nde) : Int × Int := if fam F = true then (if nodesE L = 0 then (if usedB L = true then deepR F L else (0, 31)) else (0, nodesE L)) else (0, 11)
end Go.Proofs.Ytjgpbahglkaijaa
namespace Go.Proofs.Ytjgpbahglkaijaa
open Go.RowKit Go.Shelf
set_option linter.unusedSimpArgs false
set_option linter.unusedVariables false
attribute [local go_sem] Oper.semAt_some

structure BwM (Z : Nat → Prop) (A : Nat) (ao : Option Addr) (c : Nat) (l : List Rn) (W : World) : Prop where
  a : W.cell? ⟨A, 0, none⟩ = some (.slice ao l.length c)
  za : Z A
  r : RwN W (.slice ao l.length c) l
  zr : l ≠ [] → ∀ ad, ao = some ad → Z ad.block
theorem BwM.kz {Z : Nat → Prop} {A : Nat} {ao : Option Addr} {c : Nat} {l : List Rn} {W W' : World} (h : BwM Z A ao c l W) (g : KZ Z W W') : BwM Z A ao c l W' := by
  refine ⟨kz_cell g h.za h.a, h.za, ?_, h.zr⟩
  obtain ⟨ao', c', e, hc, hr⟩ := h.r
  injection e with e1 e2 e3
  subst e1 e3
  refine ⟨ao, c, rfl, hc, ?_⟩
  rcases hr with hr | ⟨b, off, e, hr⟩
  · exact .inl hr
  · exact .inr ⟨b, off, e, fun j x hj => rn_kz (hr j x hj) g (h.zr (by rintro rfl; cases hj) _ e)⟩
abbrev DfS := List Bool × List Int
theorem NdsOk.lead {L : List Nde} (h : NdsOk L) {n : Nat} {d : Nde} (hd : L[n]? = some d) {r : Rn} (hr : r ∈ d.r) (hk : r.k = true) : n < r.n.toNat ∧ r.n.toNat < L.length ∧ r.n = (r.n.toNat : Int) := by
  have := (h.2 n d hd).kid r hr hk
  omega
end Go.Proofs.Ytjgpbahglkaijaa
namespace Go.Proofs.Ytjgpbahglkaijaa
open Go.RowKit Go.Shelf
set_option linter.unusedSimpArgs false
set_option linter.unusedVariables false
attribute [local go_sem] Oper.semAt_some

structure DfV (w : World) (v : Value) (N : Nat) (s : DfS) (W : World) : Prop where
  bl : W.heap[w.heap.size]? = some (.cells #[v] 22)
  gm : W.heap[w.heap.size + 1]? = some (.cells (s.1.map cBo).toArray 4)
  bm : W.heap[w.heap.size + 1 + 1]? = some (.cells #[.slice (some ⟨w.heap.size + 1, 0, none⟩) N N] 63)
  go : W.ownsRow w.heap.size 3 1 (.slice (some ⟨w.heap.size + 1 + 1 + 1, 0, none⟩) s.2.length N) s.2.length (s.2.map cI)
  bo : W.heap[w.heap.size + 1 + 1 + 1 + 1]? = some (.cells #[.slice (some ⟨w.heap.size + 1 + 1 + 1, 0, none⟩) s.2.length N] 37)
  bd : W.heap[w.heap.size + 1 + 1 + 1 + 1 + 1]? = some (.cells #[.func (.func 86) #[] #[.pointer (some ⟨w.heap.size + 1 + 1, 0, none⟩), .pointer (some ⟨w.heap.size, 0, none⟩), .pointer (some ⟨w.heap.size + 1 + 1 + 1 + 1 + 1, 0, none⟩), .pointer (some ⟨w.heap.size + 1 + 1 + 1 + 1, 0, none⟩)]] 94)
  b : Below w.heap.size w W
  l : s.1.length = N
section
variable {w W W' : World} {v : Value} {N : Nat} {s : DfS}
theorem DfV.below (h : DfV w v N s W) (hb : Below W.heap.size W W') : DfV w v N s W' := ⟨(hb.block _ (lt_16 h.bl)).trans h.bl, (hb.block _ (lt_16 h.gm)).trans h.gm, (hb.block _ (lt_16 h.bm)).trans h.bm, own_b13 hb h.go, (hb.block _ (lt_16 h.bo)).trans h.bo, (hb.block _ (lt_16 h.bd)).trans h.bd, keepb hb h.b, h.l⟩
theorem own_16 {W W' : World} {row : Option Nat} (hg : W.grownBy W' row) (hr : ∀ r, row = some r → ∃ o : Obj, W.heap[r]? = some o ∧ o.isCells = false) {base e size n : Nat} {v : Value} {xs : List Value} (h : W.ownsRow base e size v n xs) : W'.ownsRow base e size v n xs := by
  refine h.kept hg ?_
  cases hv : v.ownBlock with
  | none => exact .inl rfl
  | some z =>
    refine .inr fun e => ?_
    obtain ⟨o, h1, h2⟩ := hr z e.symm
    obtain ⟨cs, T, fr, h3⟩ := own_cells14 h hv
    rw [h3] at h1
    cases h1
    cases h2
theorem DfV.kept {row : Option Nat} (h : DfV w v N s W) (hg : W.grownBy W' row) (hr : ∀ r, row = some r → w.heap.size ≤ r ∧ ∃ o : Obj, W.heap[r]? = some o ∧ o.isCells = false) : DfV w v N s W' :=
  ⟨blk_16 hg (fun r e => (hr r e).2) h.bl, blk_16 hg (fun r e => (hr r e).2) h.gm, blk_16 hg (fun r e => (hr r e).2) h.bm, own_16 hg (fun r e => (hr r e).2) h.go, blk_16 hg (fun r e => (hr r e).2) h.bo, blk_16 hg (fun r e => (hr r e).2) h.bd, h.b.grown hg h.b.size (fun r e => (hr r e).1), h.l⟩
theorem own_far16 {W : World} {base e size n : Nat} {v : Value} {xs : List Value} (h : W.ownsRow base e size v n xs) {B o : Nat} (u : Value) (hv : v.ownBlock ≠ some B) : (W.setCell ⟨B, o, none⟩ u).ownsRow base e size v n xs := by
  refine ⟨h.1, ?_⟩
  rcases h.2 with h1 | ⟨g, cap, cur, e, h1, h2, h3⟩
  · exact .inl h1
  · refine .inr ⟨g, cap, cur, e, h1, (far_16 ?_).trans h2, h3⟩
    rintro rfl
    exact hv (by rw [e]; rfl)
theorem DfV.cell (h : DfV w v N s W) {k : Nat} (hk : k < N) : W.cell? ⟨w.heap.size + 1, k, none⟩ = some (.bool (s.1.getD k false)) := by
  refine at_16 h.gm k _ ?_
  rw [List.getElem?_toArray, List.getElem?_map, List.getElem?_eq_getElem (by rw [h.l]; exact hk), List.getD_eq_getElem?_getD, List.getElem?_eq_getElem (by rw [h.l]; exact hk)]
  rfl
theorem DfV.app (h : DfV w v N s W) {x : Int} (ho : W'.ownsRow w.heap.size 3 1 (.slice (some ⟨w.heap.size + 1 + 1 + 1, 0, none⟩) (s.2.length + 1) N) (s.2.length + 1) (s.2.map cI ++ [cI x])) (hg : W.grownBy W' (some (w.heap.size + 1 + 1 + 1))) : DfV w v N (s.1, s.2 ++ [x]) (W'.setCell ⟨w.heap.size + 1 + 1 + 1 + 1, 0, none⟩ (.slice (some ⟨w.heap.size + 1 + 1 + 1, 0, none⟩) (s.2.length + 1) N)) := by
  have kp : ∀ {z : Nat} {o : Obj}, W.heap[z]? = some o → z ≠ w.heap.size + 1 + 1 + 1 → W'.heap[z]? = some o := fun h1 h2 => (hg.block _ (lt_16 h1) (fun e => by injection e with e; exact h2 e)).trans h1
  refine ⟨(far_16 (by omega)).trans (kp h.bl (by omega)), (far_16 (by omega)).trans (kp h.gm (by omega)), (far_16 (by omega)).trans (kp h.bm (by omega)), ?_, ?_, (far_16 (by omega)).trans (kp h.bd (by omega)), ?_, h.l⟩
  · refine own_far16 ?_ _ (fun e => by have := Option.some.inj (show some (w.heap.size + 1 + 1 + 1) = some (w.heap.size + 1 + 1 + 1 + 1) from e); omega)
    simp only [List.length_append, List.map_append, List.length_cons, List.length_nil, List.map_cons, List.map_nil]
    exact ho
  · rw [set_16 (kp h.bo (by omega))]
    simp
  · exact (h.b.grown hg h.b.size (fun r e => by injection e with e; omega)).setCell (p := ⟨w.heap.size + 1 + 1 + 1 + 1, 0, none⟩) (by show w.heap.size ≤ w.heap.size + 1 + 1 + 1 + 1; omega) _
end
theorem Try.infoN16 : (Try.prog.info? 3).map (fun i => (i.zero, i.size, i.bytes)) = some (some (.int .i64 0), 1, 8) := by kernel_rfl
end Go.Proofs.Ytjgpbahglkaijaa
namespace Go.Proofs.Ytjgpbahglkaijaa
open Go.RowKit Go.Shelf
set_option linter.unusedSimpArgs false
set_option linter.unusedVariables false
attribute [local go_sem] Oper.semAt_some

theorem storeF_16 {P : Program} {w : World} {a : Addr} {m : Mode} (f : Fn) (x l : Array Value) : (store a (.func f x l) m).run P w = stored P w a (.func f x l) m := run_store P w a _ m rfl
attribute [local go_sem] storeF_16
end Go.Proofs.Ytjgpbahglkaijaa
namespace Go.Proofs.Ytjgpbahglkaijaa
open Go.RowKit Go.Shelf
set_option linter.unusedSimpArgs false
set_option linter.unusedVariables false
attribute [local go_sem] Oper.semAt_some

theorem chk_ok {F : Int} {L : List Nde} (h : (chkM F L).2 = 0) : NdsOk L ∧ usedB L = true ∧ fam F = true ∧ chkM F L = deepR F L := by
  unfold chkM at h ⊢
  by_cases hf : fam F = true
  · rw [if_pos hf] at h ⊢
    by_cases hn : nodesE L = 0
    · rw [if_pos hn] at h ⊢
      by_cases hu : usedB L = true
      · rw [if_pos hu]
        exact ⟨nodes_ok hn, hu, hf, rfl⟩
      · rw [if_neg hu] at h; cases h
    · rw [if_neg hn] at h; exact absurd h hn
  · rw [if_neg hf] at h; cases h
end Go.Proofs.Ytjgpbahglkaijaa
namespace Go.Proofs.Ytjgpbahglkaijaa
open Go.RowKit Go.Shelf
set_option linter.unusedSimpArgs false
set_option linter.unusedVariables false
attribute [local go_sem] Oper.semAt_some

end Go.Proofs.Ytjgpbahglkaijaa
namespace Go.Proofs.Ytjgpbahglkaijaa
open Go.RowKit Go.Shelf
set_option linter.unusedSimpArgs false
set_option linter.unusedVariables false
attribute [local go_sem] Oper.semAt_some

structure LyV (w : World) (vo : Value) (Bx Gp N : Nat) (o P : List Int) (n : Nat) (W : World) : Prop where
  rs : W.heap[w.heap.size]? = some (.cells #[.slice none 0 0, .slice none 0 0, .int .i64 0] 66)
  x : W.heap[Bx]? = some (.cells #[vo, .slice (some ⟨Gp, 0, none⟩) N N, .int .i64 (n : Int)] 66)
  g : W.heap[Gp]? = some (.cells (P.map cI).toArray 3)
  o : W.ownsRow w.heap.size 3 1 vo o.length (o.map cI)
  b : Below w.heap.size w W
  l : P.length = N
  nb : w.heap.size < Gp ∧ Gp < Bx ∧ ∀ z, vo.ownBlock = some z → z < Gp ∧ w.heap.size < z
section
variable {w W W' : World} {vo : Value} {Bx Gp N n : Nat} {o P : List Int}
theorem LyV.below (h : LyV w vo Bx Gp N o P n W) (hb : Below W.heap.size W W') : LyV w vo Bx Gp N o P n W' := ⟨(hb.block _ (lt_16 h.rs)).trans h.rs, (hb.block _ (lt_16 h.x)).trans h.x, (hb.block _ (lt_16 h.g)).trans h.g, own_b13 hb h.o, keepb hb h.b, h.l, h.nb⟩
theorem LyV.put (h : LyV w vo Bx Gp N o P n W) (k : Nat) (m : Int) : LyV w vo Bx Gp N o (P.set k m) n (W.setCell ⟨Gp, k, none⟩ (.int .i64 m)) := by
  have hn := h.nb
  refine ⟨(far_16 (by omega)).trans h.rs, (far_16 (by omega)).trans h.x, ?_, own_far16 h.o _ (fun e => by have := (hn.2.2 _ e).1; omega), h.b.setCell (p := ⟨Gp, k, none⟩) (by show w.heap.size ≤ Gp; omega) _, by simp [h.l], hn⟩
  rw [set_16 h.g, List.setIfInBounds_toArray, List.map_set]; rfl
end
end Go.Proofs.Ytjgpbahglkaijaa
namespace Go.Proofs.Ytjgpbahglkaijaa
set_option linter.unusedSimpArgs false
set_option linter.unusedVariables false

end Go.Proofs.Ytjgpbahglkaijaa
namespace Go.Proofs.Ytjgpbahglkaijaa
open Go.RowKit Go.Shelf
set_option linter.unusedSimpArgs false
set_option linter.unusedVariables false
attribute [local go_sem] Oper.semAt_some

end Go.Proofs.Ytjgpbahglkaijaa
namespace Go.Proofs.Ytjgpbahglkaijaa
open Go.RowKit Go.Shelf
set_option linter.unusedSimpArgs false
set_option linter.unusedVariables false
attribute [local go_sem] Oper.semAt_some

structure LdV (w : World) (C G cap : Nat) (code : List Nat) (vp : Value) (P : List Int) (W : World) : Prop where
  c : W.heap[C]? = some (.cells #[.slice (some ⟨G, 0, none⟩) code.length cap, vp] 105)
  o : W.ownsRow w.heap.size 5 1 (.slice (some ⟨G, 0, none⟩) code.length cap) code.length (code.map cB)
  p : W.ownsRow w.heap.size 3 1 vp P.length (P.map cI)
  b : Below w.heap.size w W
  nb : w.heap.size ≤ C ∧ w.heap.size ≤ G ∧ C ≠ G ∧ ∀ z, vp.ownBlock = some z → z ≠ C ∧ z ≠ G
section
variable {w W W' : World} {C G cap : Nat} {code : List Nat} {vp : Value} {P : List Int}
theorem LdV.below (h : LdV w C G cap code vp P W) (hb : Below W.heap.size W W') : LdV w C G cap code vp P W' := ⟨(hb.block _ (lt_16 h.c)).trans h.c, own_b13 hb h.o, own_b13 hb h.p, keepb hb h.b, h.nb⟩
theorem LdV.app (h : LdV w C G cap code vp P W) {x : List Nat} (ho : W'.ownsRow w.heap.size 5 1 (.slice (some ⟨G, 0, none⟩) (code.length + x.length) cap) (code.length + x.length) (code.map cB ++ x.map cB)) (hg : W.grownBy W' (some G)) : LdV w C G cap (code ++ x) vp P (W'.setCell ⟨C, 0, none⟩ (.slice (some ⟨G, 0, none⟩) (code.length + x.length) cap)) := by
  obtain ⟨n1, n2, n3, n4⟩ := h.nb
  have kp : W'.heap[C]? = some (.cells #[.slice (some ⟨G, 0, none⟩) code.length cap, vp] 105) := (hg.block _ (lt_16 h.c) (fun e => by injection e with e; exact n3 e)).trans h.c
  refine ⟨?_, ?_, ?_, ?_, n1, n2, n3, n4⟩
  · rw [set_16 kp]; simp
  · refine own_far16 ?_ _ (fun e => n3 (Option.some.inj (show some G = some C from e)).symm)
    rw [List.length_append, List.map_append]; exact ho
  · refine own_far16 (h.p.kept hg ?_) _ (fun e => (n4 _ e).1 rfl)
    cases hv : vp.ownBlock with
    | none => exact .inl rfl
    | some z => exact .inr (fun e => (n4 z hv).2 (Option.some.inj e))
  · exact (h.b.grown hg h.b.size (fun r e => by injection e with e; omega)).setCell (p := ⟨C, 0, none⟩) n1 _
end
end Go.Proofs.Ytjgpbahglkaijaa
namespace Go.Proofs.Ytjgpbahglkaijaa
open Go.RowKit Go.Shelf
set_option linter.unusedSimpArgs false
set_option linter.unusedVariables false
attribute [local go_sem] Oper.semAt_some

theorem KX.cell {X : Nat → Prop} {V U : World} (h : KX X V U) {z o : Nat} {u : Value} (hz : ¬ X z) (hc : V.cell? ⟨z, o, none⟩ = some u) : U.cell? ⟨z, o, none⟩ = some u := (World.cell?_of_block (a := ⟨z, o, none⟩) (h.2 z (cell_in hc) hz)).trans hc
end Go.Proofs.Ytjgpbahglkaijaa
namespace Go.Proofs.Ytjgpbahglkaijaa
open Go.RowKit Go.Shelf
set_option linter.unusedSimpArgs false
set_option linter.unusedVariables false
attribute [local go_sem] Oper.semAt_some

end Go.Proofs.Ytjgpbahglkaijaa
namespace Go.Proofs.Ytjgpbahglkaijaa
set_option linter.unusedSimpArgs false
set_option linter.unusedVariables false

theorem cmp_neg {x y : BitVec 128} : cmpZ x y < 0 ↔ x.toNat < y.toNat := by
  unfold cmpZ
  by_cases h : x.toNat < y.toNat
  · rw [if_pos h]; simp [h]
  · rw [if_neg h]
    constructor
    · intro q; split at q <;> omega
    · intro q; exact absurd q h
theorem adj_rise : ∀ (l : List Rn), adjG l = true → ∀ (i j : Nat) (a b : Rn), i < j → l[i]? = some a → l[j]? = some b → a.f.toNat < b.f.toNat
  | [], _, i, j, a, b, _, ha, _ => by simp at ha
  | [x], _, i, j, a, b, hij, ha, hb => by
    cases j with
    | zero => omega
    | succ j => simp at hb
  | x :: y :: t, h, i, j, a, b, hij, ha, hb => by
    unfold adjG at h
    simp only [Bool.and_eq_true, decide_eq_true_eq] at h
    have hxy := cmp_neg.1 h.1.1
    cases j with
    | zero => omega
    | succ j =>
      have hb' : (y :: t)[j]? = some b := by simpa using hb
      cases i with
      | zero =>
        simp at ha
        subst ha
        cases j with
        | zero => simp at hb'; subst hb'; exact hxy
        | succ j =>
          have := adj_rise (y :: t) h.2 0 (j + 1) y b (by omega) rfl hb'
          omega
      | succ i => exact adj_rise (y :: t) h.2 i j a b (by omega) (by simpa using ha) hb'
structure IoOk (d : Nde) : Prop where
  ne : d.r ≠ []
  z : ∀ r, d.r[0]? = some r → r.f = 0#128
  rise : ∀ (i j : Nat) (a b : Rn), i < j → d.r[i]? = some a → d.r[j]? = some b → a.f.toNat < b.f.toNat
  lt : ∀ r ∈ d.r, r.f.toNat < 2 ^ d.b.toNat
theorem io_ok {d : Nde} (h : ioB d = true) : IoOk d := by
  obtain ⟨b, l⟩ := d
  have hne : l ≠ [] := by rintro rfl; rw [io_nil] at h; cases h
  have hp := List.length_pos_iff.mpr hne
  rw [io_one b l hne] at h
  simp only [Bool.and_eq_true, beq_iff_eq] at h
  obtain ⟨h1, h2, h3⟩ := h
  have hr := adj_rise l h2
  have hlast : (l[l.length - 1]'(by omega)).f.toNat < 2 ^ b.toNat := by
    have e := congrArg BitVec.toNat h3
    rw [BitVec.toNat_ushiftRight, Nat.shiftRight_eq_div_pow] at e
    have e0 : (0#128).toNat = 0 := rfl
    rw [e0] at e
    rcases Nat.div_eq_zero_iff.mp e with q | q
    · have : (0 : Nat) < 2 ^ b.toNat := Nat.two_pow_pos _
      omega
    · exact q
  refine ⟨hne, fun r hr0 => ?_, hr, fun r hrm => ?_⟩
  · dsimp only at hr0
    rw [List.getElem?_eq_getElem hp] at hr0
    cases hr0
    exact h1
  · dsimp only at hrm ⊢
    obtain ⟨i, hi⟩ := List.getElem?_of_mem hrm
    have hil := (List.getElem?_eq_some_iff.mp hi).1
    by_cases hc : i = l.length - 1
    · subst hc
      rw [List.getElem?_eq_getElem hil] at hi
      cases hi
      exact hlast
    · have := hr i (l.length - 1) r _ (by omega) hi (List.getElem?_eq_getElem (by omega))
      omega
end Go.Proofs.Ytjgpbahglkaijaa
namespace Go.Proofs.Ytjgpbahglkaijaa
open Go.RowKit Go.Shelf
set_option linter.unusedSimpArgs false
set_option linter.unusedVariables false
attribute [local go_sem] Oper.semAt_some

end Go.Proofs.Ytjgpbahglkaijaa
namespace Go.Proofs.Ytjgpbahglkaijaa
open Go.RowKit Go.Shelf
set_option linter.unusedSimpArgs false
set_option linter.unusedVariables false
attribute [local go_sem] Oper.semAt_some

end Go.Proofs.Ytjgpbahglkaijaa
namespace Go.Proofs.Ytjgpbahglkaijaa
open Go.ChangeShapes Go.WideShapes Go.ChangeAt Go.RowKit Go.Joins
set_option linter.unusedSimpArgs false
set_option linter.unusedVariables false

section
variable {H : Type} {enc : TypeId × Value → H} {w : World} {spare : Nat → Bool} {held : Bool}
def rowN (l : List Rn) : List Value := l.flatMap fun r => [.int .u64 (hI r.f), .int .u64 (lI r.f), .bool r.k, .int .i64 r.n]
end
end Go.Proofs.Ytjgpbahglkaijaa
namespace Go.Proofs.Ytjgpbahglkaijaa
open Go.RowKit
set_option linter.unusedSimpArgs false
set_option linter.unusedVariables false
attribute [local go_sem] Oper.semAt_some

def TwIn (w : World) (v : Value) (L : List Nde) : Prop := ∃ ao c, v = .slice ao L.length c ∧ L.length ≤ c ∧ (L = [] ∨ ∃ b off, ao = some ⟨b, off, none⟩ ∧ ∀ j d, L[j]? = some d → ∃ vr, w.cell? ⟨b, off + j * 2, none⟩ = some (.int .i64 d.b) ∧ w.cell? ⟨b, off + j * 2 + 1, none⟩ = some vr ∧ RowA w 4 vr d.r.length (rowN d.r))
theorem TwIn.below {w w' : World} {v : Value} {L : List Nde} (h : TwIn w v L) (hb : Below w.heap.size w w') : TwIn w' v L := by
  obtain ⟨ao, c, e, hc, h⟩ := h
  refine ⟨ao, c, e, hc, h.imp id ?_⟩
  rintro ⟨b, off, e, h⟩
  refine ⟨b, off, e, fun j d hj => ?_⟩
  obtain ⟨vr, h1, h2, h3⟩ := h j d hj
  exact ⟨vr, keepc hb h1, keepc hb h2, h3.below hb⟩
theorem rowN_get : ∀ (l : List Rn) (j : Nat) (r : Rn), l[j]? = some r → (rowN l)[j * 4]? = some (.int .u64 (hI r.f)) ∧ (rowN l)[j * 4 + 1]? = some (.int .u64 (lI r.f)) ∧ (rowN l)[j * 4 + 2]? = some (.bool r.k) ∧ (rowN l)[j * 4 + 3]? = some (.int .i64 r.n)
  | [], j, r, h => by simp at h
  | x :: l, 0, r, h => by
    simp at h
    subst h
    unfold rowN
    rw [List.flatMap_cons]
    exact ⟨rfl, rfl, rfl, rfl⟩
  | x :: l, j + 1, r, h => by
    have ih := rowN_get l j r (by simpa using h)
    have e : ∀ t, (rowN (x :: l))[(j + 1) * 4 + t]? = (rowN l)[j * 4 + t]? := fun t => by
      have : rowN (x :: l) = [Value.int .u64 (hI x.f), .int .u64 (lI x.f), .bool x.k, .int .i64 x.n] ++ rowN l := by unfold rowN; rw [List.flatMap_cons]
      rw [this, List.getElem?_append_right (by simp; omega)]
      congr 1
      simp; omega
    have e0 := e 0
    simp only [Nat.add_zero] at e0
    rw [e0, e, e, e]
    exact ih
theorem own_rwn16 {W : World} {base : Nat} {v : Value} {l : List Rn} (h : W.ownsRow base 58 4 v l.length (rowN l)) : RwN W v l := by
  by_cases hl : l = []
  · subst hl
    obtain ⟨ao, c, hv⟩ := own_form h
    exact ⟨ao, c, hv, Nat.zero_le _, .inl rfl⟩
  · have hp := List.length_pos_iff.mpr hl
    obtain ⟨g, c, hv, hc⟩ : ∃ g c, v = .slice (some ⟨g, 0, none⟩) l.length c ∧ l.length ≤ c := by
      rcases h.2 with ⟨-, h0⟩ | ⟨g, c, cur, e, -, -, h3, -⟩
      · omega
      · exact ⟨g, c, e, h3⟩
    subst hv
    refine ⟨_, c, rfl, hc, .inr ⟨g, 0, rfl, fun j r hj => ?_⟩⟩
    have hjl := (List.getElem?_eq_some_iff.mp hj).1
    obtain ⟨c0, c1, c2, c3⟩ := rowN_get l j r hj
    have q := fun t (ht : t < l.length * 4) => h.cellAt t ht
    rw [Nat.zero_add]
    exact ⟨(q _ (by omega)).trans c0, (q _ (by omega)).trans c1, (q _ (by omega)).trans c2, (q _ (by omega)).trans c3⟩
def rowD : List Nde → List Value → List Value
  | d :: L, v :: V => .int .i64 d.b :: v :: rowD L V
  | _, _ => []
theorem rowD_app : ∀ (L : List Nde) (V : List Value) (d : Nde) (v : Value), L.length = V.length → rowD (L ++ [d]) (V ++ [v]) = rowD L V ++ [.int .i64 d.b, v]
  | [], [], d, v, _ => rfl
  | x :: L, y :: V, d, v, h => by
    show _ :: _ :: rowD (L ++ [d]) (V ++ [v]) = _
    rw [rowD_app L V d v (by simpa using h)]; rfl
  | [], y :: V, d, v, h => by simp at h
  | x :: L, [], d, v, h => by simp at h
theorem rowD_get : ∀ (L : List Nde) (V : List Value) (j : Nat) (d : Nde) (v : Value), L[j]? = some d → V[j]? = some v → (rowD L V)[j * 2]? = some (.int .i64 d.b) ∧ (rowD L V)[j * 2 + 1]? = some v
  | [], V, j, d, v, h, _ => by simp at h
  | x :: L, [], j, d, v, _, h => by simp at h
  | x :: L, y :: V, 0, d, v, h1, h2 => by
    simp at h1 h2
    subst h1 h2
    exact ⟨rfl, rfl⟩
  | x :: L, y :: V, j + 1, d, v, h1, h2 => by
    have ih := rowD_get L V j d v (by simpa using h1) (by simpa using h2)
    have e0 : (j + 1) * 2 = j * 2 + 2 := by omega
    rw [e0]
    exact ih
theorem rwd_of {W : World} {base : Nat} {v : Value} {L : List Nde} {V : List Value} (h : W.ownsRow base 61 2 v L.length (rowD L V)) (hl : V.length = L.length) (hr : ∀ (j : Nat) (d : Nde) (vr : Value), L[j]? = some d → V[j]? = some vr → RwN W vr d.r) : RwD W v L := by
  by_cases hL : L = []
  · subst hL
    obtain ⟨ao, c, hv⟩ := own_form h
    exact ⟨ao, c, hv, Nat.zero_le _, .inl rfl⟩
  · have hp := List.length_pos_iff.mpr hL
    obtain ⟨g, c, hv, hc⟩ : ∃ g c, v = .slice (some ⟨g, 0, none⟩) L.length c ∧ L.length ≤ c := by
      rcases h.2 with ⟨-, h0⟩ | ⟨g, c, cur, e, -, -, h3, -⟩
      · omega
      · exact ⟨g, c, e, h3⟩
    subst hv
    refine ⟨_, c, rfl, hc, .inr ⟨g, 0, rfl, fun j d hj => ?_⟩⟩
    have hjl := (List.getElem?_eq_some_iff.mp hj).1
    have hvj : V[j]? = some V[j] := List.getElem?_eq_getElem (by omega)
    obtain ⟨c0, c1⟩ := rowD_get L V j d _ hj hvj
    rw [Nat.zero_add]
    exact ⟨V[j], (h.cellAt _ (by omega)).trans c0, (h.cellAt _ (by omega)).trans c1, hr j d _ hj hvj⟩
theorem Try.infoRn16 : (Try.prog.info? 58).map (fun i => (i.zero, i.size, i.bytes)) = some (some (.agg #[.int .u64 0, .int .u64 0, .bool false, .int .i64 0]), 4, 32) := by kernel_rfl
theorem Try.infoD16 : (Try.prog.info? 61).map (fun i => (i.zero, i.size, i.bytes)) = some (some (.agg #[.int .i64 0, .slice none 0 0]), 2, 32) := by kernel_rfl
theorem two_one16 (b : Int) (ao : Option Addr) (n c : Nat) : ∀ u ∈ [Value.int .i64 b, .slice ao n c], u.oneCell' = true := by
  intro u hu
  simp at hu
  rcases hu with h | h <;> subst h <;> rfl
end Go.Proofs.Ytjgpbahglkaijaa
