/-
  Part 17 of the proof: 2 texts, one behind the other.
-/
import Derived.Test.YtofpbommhklooaaPart15
import Derived.Test.YtofpbommhklooaaPart8
import Derived.Test.YtofpbommhklooaaPart3
/-
  Plain: what a grown tree is: where what lies within a node ends, its kids, its sums.
-/
namespace Go.Proofs.Ytofpbommhklooaa
open Go.RowKit
set_option linter.unusedSimpArgs false
set_option linter.unusedVariables false

/-- The nodes of a table's tree. -/
structure Tre (l : List Rte) (ws : List (BitVec 128)) (L : List Nd) : Prop where
  inv : InvG ws L [0]
  nl : L.length ≤ 1 + 128 * l.length
  wl : ws.length = 1 + l.length
  tot : cntR L 0 L.length = l.length
  rts : ∀ r ∈ l, ∃ i, i < L.length ∧ ln L i = r.1.2 ∧ ad ws L i = r.1.1 ∧ hp L i = r.2
  rev : ∀ i, i < L.length → 0 < hp L i → ∃ r ∈ l, ln L i = r.1.2 ∧ ad ws L i = r.1.1 ∧ hp L i = r.2
  zero : ad ws L 0 = 0#128
  lst : l ≠ [] → 0 < hp L (L.length - 1)
  one : l = [] → L.length = 1
  nf : ∀ F : Int, 0 ≤ F → (∀ r ∈ l, r.1.2 ≤ F) → ((L.length : Int) ≤ 1 + F * l.length ∧ ∀ i, i < L.length → ln L i ≤ F)
  wr : ∀ x ∈ ws, x = 0#128 ∨ ∃ r ∈ l, x = r.1.1
theorem Gs.tre {l : List Rte} {last : BitVec 128 × Int} {s : GrS} (g : Gs l last s) (hl : l.length ≤ 1048576) : Tre l s.2.1 (bkW 0 s.1 s.2.2).1 ∧ (bkW 0 s.1 s.2.2).2 = [0] := by
  have nl := g.nl
  obtain ⟨a, b, c, d⟩ := bkW_all g.inv (by omega) 0
  have y1 := g.inv.y1
  have e : (bkW 0 s.1 s.2.2).2 = [0] := by
    have h0 := a.y0
    generalize (bkW 0 s.1 s.2.2).2 = y at *
    match y, d, h0 with
    | [p], _, h0 => simp [wy] at h0; rw [h0]
    | [], d, _ => simp at d; omega
    | p :: q :: r, d, _ => simp at d; omega
  rw [e] at a
  refine ⟨⟨a, by rw [c]; exact nl, g.wl, ?_, ?_, ?_, ?_, ?_, ?_, ?_, g.wr⟩, e⟩
  · rw [c, ← g.tot]
    exact cntR_congr _ (fun i _ h => (b.2 i (by omega)).2.1)
  · intro r hr
    obtain ⟨i, q1, q2, q3, q4⟩ := g.rts r hr
    have := b.2 i q1
    exact ⟨i, by omega, by rw [this.1]; exact q2, by rw [this.2.2]; exact q3, by rw [this.2.1]; exact q4⟩
  · intro i hi hh
    rw [c] at hi
    have := b.2 i hi
    rw [this.2.1] at hh
    obtain ⟨r, q1, q2, q3, q4⟩ := g.rev i hi hh
    exact ⟨r, q1, by rw [this.1]; exact q2, by rw [this.2.2]; exact q3, by rw [this.2.1]; exact q4⟩
  · rw [(b.2 0 (by have := (g.inv.way 0 y1).1; omega)).2.2]; exact g.zero
  · intro hne
    rw [c]
    have h0 := (g.inv.way 0 y1).1
    rw [(b.2 (s.1.length - 1) (by omega)).2.1]
    rcases g.st with ⟨q, -⟩ | ⟨-, q⟩
    · exact absurd q hne
    · exact q
  · intro he
    rw [c]
    rcases g.st with ⟨-, q, -⟩ | ⟨q, -⟩
    · exact q
    · exact absurd he q
  · intro F h0 hF
    obtain ⟨o1, o2⟩ := g.nf F h0 hF
    rw [c]
    exact ⟨o1, fun i hi => by rw [(b.2 i hi).1]; exact o2 i hi⟩
section
variable {l : List Rte} {ws : List (BitVec 128)} {L : List Nd}
theorem Tre.pos (t : Tre l ws L) : 0 < L.length := (t.inv.way 0 (by simp)).1
theorem Tre.ln0 (t : Tre l ws L) : ln L 0 = 0 := (t.inv.way 0 (by simp)).2.1
theorem Tre.lnp (t : Tre l ws L) {i : Nat} (h : i < L.length) (h0 : 0 < i) : 0 < ln L i := (t.inv.way 0 (by simp)).2.2 i h0 h
/-- Each node has an end, and its sums are those up to it. -/
theorem Tre.node (t : Tre l ws L) {i : Nat} (hi : i < L.length) : ∃ e, End L i e ∧ (nd8 L i).count = cntR L i (e - i) ∧ (nd8 L i).height = topR L i (e - i) - ln L i := by
  by_cases c : i = 0
  · subst c
    have h1 := t.inv.cnt 0 (by simp)
    have h2 := t.inv.hgt 0 (by simp)
    have hw := (t.inv.way 0 (by simp))
    refine ⟨L.length, ⟨hi, Nat.le_refl _, fun j a b => ?_, fun h => by omega⟩, h1, ?_⟩
    · rw [t.ln0]; exact t.lnp b a
    · rw [t.ln0]; exact h2
  · exact t.inv.don i hi (fun k h => by simp at h; subst h; exact fun e => c e.symm)
theorem End.one {i e f : Nat} (h : End L i e) (k : End L i f) : e = f := by
  obtain ⟨a1, a2, a3, a4⟩ := h
  obtain ⟨b1, b2, b3, b4⟩ := k
  apply Classical.byContradiction
  intro c
  by_cases d : e < f
  · have := b3 e a1 d
    have := a4 (by omega)
    omega
  · have := a3 f b1 (by omega)
    have := b4 (by omega)
    omega
/-- All that lies within a node has its bits. -/
theorem Tre.cut (t : Tre l ws L) {i e : Nat} (h : End L i e) : ∀ j, i ≤ j → j < e → cutW (ad ws L j) (ln L i) = cutW (ad ws L i) (ln L i)
  | 0, h1, h2 => by have : i = 0 := by omega
                    subst this; rfl
  | j + 1, h1, h2 => by
    by_cases c : i = j + 1
    · rw [c]
    · have ih := t.cut h j (by omega) (by omega)
      have s := t.inv.stp j (by have := h.2.1; omega)
      have l1 := h.2.2.1 (j + 1) (by omega) h2
      have hb := (t.inv.bnd i (by have := h.2.1; omega)).1
      rw [← ih, ← cut_cut (ad ws L (j + 1)) (ln L i) (ln L (j + 1) - 1) hb.1 (by omega), s.2.2.1, cut_cut _ _ _ hb.1 (by omega)]
/-- A bit that is cut in. -/
theorem cutBit8 {x y : BitVec 128} {n k : Int} (h : cutW x n = cutW y n) (h0 : 0 ≤ k) (h1 : k < n) (h2 : n ≤ 128) : bitZ x k = bitZ y k := by
  have e : ∀ z : BitVec 128, bitZ (cutW z n) k = bitZ z k := by
    intro z
    unfold bitZ
    rw [bitB_in _ k h0 (by omega), bitB_in _ k h0 (by omega)]
    unfold cutW
    rw [BitVec.getLsbD_and, maskW_bit n _ (by omega)]
    have : 128 - n.toNat ≤ (127 - k).toNat := by omega
    simp [this]
  rw [← e x, h, e y]
/-- What the kids of a node are. -/
inductive KidsAt (ws : List (BitVec 128)) (L : List Nd) (i e : Nat) : Prop where
  | leaf (he : e = i + 1) (hh : (nd8 L i).high = 0)
  | low (h1 : i + 1 < e) (hl : ln L (i + 1) = ln L i + 1) (hb : bitZ (ad ws L (i + 1)) (ln L i) = 0) (hE : End L (i + 1) e) (hh : (nd8 L i).high = 0)
  | high (h1 : i + 1 < e) (hl : ln L (i + 1) = ln L i + 1) (hb : bitZ (ad ws L (i + 1)) (ln L i) = 1) (hE : End L (i + 1) e) (hh : (nd8 L i).high = ((i + 1 : Nat) : Int))
  | both (m : Nat) (h1 : i + 1 < m) (h2 : m < e) (hl : ln L (i + 1) = ln L i + 1) (hb : bitZ (ad ws L (i + 1)) (ln L i) = 0) (hE : End L (i + 1) m) (hl2 : ln L m = ln L i + 1) (hb2 : bitZ (ad ws L m) (ln L i) = 1) (hE2 : End L m e) (hh : (nd8 L i).high = (m : Int))
theorem Tre.next (t : Tre l ws L) {i e j f : Nat} (h : End L i e) (hij : i < j) (hje : j < e) (hj : ln L j = ln L i + 1) (k : End L j f) : f ≤ e ∧ (f < e → ln L f = ln L i + 1 ∧ bitZ (ad ws L j) (ln L i) = 0 ∧ bitZ (ad ws L f) (ln L i) = 1) := by
  obtain ⟨a1, a2, a3, a4⟩ := h
  have k' := k
  obtain ⟨b1, b2, b3, b4⟩ := k
  have hfe : f ≤ e := by
    apply Classical.byContradiction; intro c
    have := a4 (by omega)
    by_cases d : e = j
    · omega
    · have := b3 e (by omega) (by omega)
      omega
  refine ⟨hfe, fun hlt => ?_⟩
  have l1 := b4 (by omega)
  have l2 := a3 f (by omega) hlt
  have hl : ln L f = ln L i + 1 := by omega
  obtain ⟨q, rfl⟩ : ∃ q, f = q + 1 := ⟨f - 1, by omega⟩
  have s := t.inv.stp q (by omega)
  have hb := (t.inv.bnd j (by omega)).1
  have hb2 := (t.inv.bnd i (by omega)).1
  have lq : ln L j ≤ ln L q := by
    by_cases d : q = j
    · rw [d]; exact Int.le_refl _
    · have := b3 q (by omega) (by omega); omega
  obtain ⟨s1, s2, -⟩ := s.2.2.2 (by omega)
  rw [hl, show ln L i + 1 - 1 = ln L i by omega] at s1 s2
  refine ⟨hl, ?_, s2⟩
  rw [← s1]
  exact (cutBit8 (t.cut k' q (by omega) (by omega)) hb2.1 (by omega) hb.2).symm
theorem Tre.kids (t : Tre l ws L) {i e : Nat} (h : End L i e) : KidsAt ws L i e := by
  obtain ⟨a1, a2, a3, a4⟩ := id h
  have hiL : i < L.length := by omega
  have hhi := t.inv.hig i hiL
  by_cases c : e = i + 1
  · refine .leaf c ?_
    rcases hhi with ⟨g, -⟩ | ⟨j, -, g1, g2, g3, g4, g5⟩
    · exact g
    · exfalso
      subst c
      have := a4 (by omega)
      have := g5 (i + 1) (by omega) (by omega)
      omega
  · have l1 := a3 (i + 1) (by omega) (by omega)
    have s := t.inv.stp i (by omega)
    have hl : ln L (i + 1) = ln L i + 1 := by have := s.2.1; omega
    obtain ⟨f, hf, -⟩ := t.node (i := i + 1) (by omega)
    obtain ⟨hfe, hn⟩ := t.next h (by omega) (by omega) hl hf
    -- a kid by 1 stands where another kid begins, or first
    have hi1 : ∀ j, Hi1 ws L i j → j < e := by
      intro j ⟨g1, g2, g3, g4, g5⟩
      apply Classical.byContradiction; intro d
      have := g5 e (by omega) (by omega)
      have := a4 (by omega)
      omega
    by_cases d : f = e
    · subst d
      have only : ∀ j, Hi1 ws L i j → j = i + 1 := by
        intro j hj
        have := hi1 j hj
        obtain ⟨g1, g2, g3, g4, g5⟩ := hj
        apply Classical.byContradiction; intro q
        have := hf.2.2.1 j (by omega) (by omega)
        omega
      rcases bitZ_01 (ad ws L (i + 1)) (ln L i) with hb | hb
      · refine .low (by omega) hl hb hf ?_
        rcases hhi with ⟨g, -⟩ | ⟨j, -, g⟩
        · exact g
        · exfalso
          have := only j g
          subst this
          rw [g.2.2.2.1] at hb; omega
      · refine .high (by omega) hl hb hf ?_
        have hH : Hi1 ws L i (i + 1) := ⟨by omega, by omega, hl, hb, fun q q1 q2 => by rw [show q = i + 1 by omega]; exact l1⟩
        rcases hhi with ⟨-, g⟩ | ⟨j, g0, g⟩
        · exact absurd hH (g _)
        · rw [g0, only j g]
    · obtain ⟨n1, n2, n3⟩ := hn (by omega)
      obtain ⟨f2, hf2, -⟩ := t.node (i := f) (by omega)
      obtain ⟨hfe2, hn2⟩ := t.next h (by have := hf.1; omega) (by omega) n1 hf2
      have e2 : f2 = e := by
        apply Classical.byContradiction; intro q
        have := (hn2 (by omega)).2.1
        omega
      subst e2
      refine .both f hf.1 (by omega) hl n2 hf n1 n3 hf2 ?_
      have hH : Hi1 ws L i f := ⟨by have := hf.1; omega, by omega, n1, n3, fun q q1 q2 => a3 q q1 (by omega)⟩
      rcases hhi with ⟨-, g⟩ | ⟨j, g0, g⟩
      · exact absurd hH (g _)
      · rw [g0]
        have := hi1 j g
        obtain ⟨g1, g2, g3, g4, g5⟩ := g
        have : j = f := by
          apply Classical.byContradiction; intro q
          by_cases q1 : j < f
          · by_cases q2 : j = i + 1
            · subst q2; omega
            · have := hf.2.2.1 j (by omega) q1; omega
          · have := hf2.2.2.1 j (by omega) (by omega); omega
        rw [this]
theorem Tre.ok (t : Tre l ws L) (hl : l.length ≤ 1048576) : ∀ x ∈ L, x.ok := by
  intro x hx
  obtain ⟨i, hi, rfl⟩ := List.mem_iff_getElem.mp hx
  have e : nd8 L i = L[i] := nd8_in hi
  obtain ⟨en, hE, hc, hh⟩ := t.node hi
  have nl := t.nl
  have wl := t.wl
  have b := t.inv.bnd i hi
  have c1 := cntR_bd L i (en - i)
  have t1 := topR_bd L i 128 (by omega) (en - i) (fun j h1 h2 => (t.inv.bnd j (by have := hE.2.1; omega)).1.2)
  have t2 := topR_ge L i (en - i) i (by omega) (by have := hE.1; omega)
  have k := t.kids hE
  have hE1 := hE.2.1
  rw [e] at hc hh b
  unfold ln at t2
  unfold ln hp at b
  rw [e] at b t2
  have hb1 : ln L i = L[i].length := by unfold ln; rw [e]
  unfold Nd.ok
  refine ⟨by omega, ?_, by omega, by omega, by omega, by omega⟩
  cases k with
  | leaf _ q => rw [e] at q; omega
  | low _ _ _ _ q => rw [e] at q; omega
  | high _ _ _ _ q => rw [e] at q; omega
  | both m _ _ _ _ _ _ _ _ q => rw [e] at q; omega
end
end Go.Proofs.Ytofpbommhklooaa
/-
  What the calls of turnpikeref5's Checked and Check do.
-/
namespace Go.Proofs.Ytofpbommhklooaa
open Go.RowKit
set_option linter.unusedSimpArgs false
set_option linter.unusedVariables false

set_option maxHeartbeats 2000000 in
theorem rchecked_any (F : Int) (x : BitVec 128) (n h : Int) (w : World) :
    Calls Try.prog 47 #[.int .i64 F, .agg #[.int .u64 (hI x), .int .u64 (lI x), .int .i64 n, .int .i64 h]] w fun e w' => e = .returned (.int .i64 (rteE F ((x, n), h))) ∧ Below w.heap.size w w' := by
  have KC := fun w => rcheck_any F x n w
  unfold rteE hopB
  dsimp only
  revert KC
  generalize checkE F x n = ce
  intro KC
  obtain ⟨p0, p1, p2, p3⟩ := atr_new w w.heap.size x n h 47 rfl
  have A1 := hidR (atr_new w w.heap.size x n h 47 rfl)
  have b1 := hidR (bl1 w (.cells #[.int .u64 (hI x), .int .u64 (lI x), .int .i64 n, .int .i64 h] 47))
  obtain ⟨re, hre⟩ : ∃ re, re = if ce = 0 then if (decide (1 ≤ h) && decide (h ≤ 65535)) = true then (0 : Int) else 15 else ce := ⟨_, rfl⟩
  rw [← hre]
  have HRE := hidR hre
  clear hre
  go_enter Try.func47, Try.ntmps47
  go_wp2_with fail
  refine (KC _).mono ?_
  rintro e w1 ⟨rfl, hb⟩
  have kB := keepb hb b1.out
  obtain ⟨q0, q1, q2, q3⟩ := A1.out.below hb
  clear KC hb A1 b1 p0 p1 p2 p3
  by_cases hc : ce = 0
  · subst hc
    by_cases g1 : h < 1
    · have HE : Hid (re = 15) := hidR (by rw [HRE.out, if_pos rfl, if_neg (by simp; omega)])
      clear HRE
      go_wp2
      go_ret
      exact ⟨by rw [HE.out]; rfl, kB⟩
    · by_cases g2 : 65535 < h
      · have HE : Hid (re = 15) := hidR (by rw [HRE.out, if_pos rfl, if_neg (by simp; omega)])
        clear HRE
        go_wp2
        go_ret
        exact ⟨by rw [HE.out]; rfl, kB⟩
      · have HE : Hid (re = 0) := hidR (by rw [HRE.out, if_pos rfl, if_pos (by simp; omega)])
        clear HRE
        go_wp2
        go_ret
        exact ⟨by rw [HE.out]; rfl, kB⟩
  · have hn : (ce == 0) = false := by simp [hc]
    have HE : Hid (re = ce) := hidR (by rw [HRE.out, if_neg hc])
    clear HRE
    go_wp2
    go_ret
    exact ⟨by rw [HE.out]; rfl, kB⟩
/-- A table, a route of its row. -/
def C8 (w : World) (F : Int) (v : Value) (b o : Nat) (x : BitVec 128) (n h : Int) (W : World) : Prop := AtT W w.heap.size F v ∧ (W.cell? ⟨b, o, none⟩ = some (.int .u64 (hI x)) ∧ W.cell? ⟨b, o + 1, none⟩ = some (.int .u64 (lI x)) ∧ W.cell? ⟨b, o + 2, none⟩ = some (.int .i64 n) ∧ W.cell? ⟨b, o + 3, none⟩ = some (.int .i64 h)) ∧ Below w.heap.size w W
theorem C8.below {w W W' : World} {F : Int} {v : Value} {b o : Nat} {x : BitVec 128} {n h : Int} (g : C8 w F v b o x n h W) (hb : Below W.heap.size W W') : C8 w F v b o x n h W' := ⟨g.1.below hb, ⟨keepc hb g.2.1.1, keepc hb g.2.1.2.1, keepc hb g.2.1.2.2.1, keepc hb g.2.1.2.2.2⟩, keepb hb g.2.2⟩
theorem C8.drew {w W : World} {F : Int} {v : Value} {b o : Nat} {x : BitVec 128} {n h : Int} (g : C8 w F v b o x n h W) : C8 w F v b o x n h W.drew := ⟨g.1, g.2.1, g.2.2.drew⟩
/-- A table, two routes of its row. -/
def C14 (w : World) (F : Int) (v : Value) (b o u : Nat) (x : BitVec 128) (n h : Int) (y : BitVec 128) (m g : Int) (W : World) : Prop := AtT W w.heap.size F v ∧ (W.cell? ⟨b, o, none⟩ = some (.int .u64 (hI x)) ∧ W.cell? ⟨b, o + 1, none⟩ = some (.int .u64 (lI x)) ∧ W.cell? ⟨b, o + 2, none⟩ = some (.int .i64 n) ∧ W.cell? ⟨b, o + 3, none⟩ = some (.int .i64 h)) ∧ (W.cell? ⟨b, u, none⟩ = some (.int .u64 (hI y)) ∧ W.cell? ⟨b, u + 1, none⟩ = some (.int .u64 (lI y)) ∧ W.cell? ⟨b, u + 2, none⟩ = some (.int .i64 m) ∧ W.cell? ⟨b, u + 3, none⟩ = some (.int .i64 g)) ∧ Below w.heap.size w W
theorem C14.below {w W W' : World} {F : Int} {v : Value} {b o u : Nat} {x : BitVec 128} {n h : Int} {y : BitVec 128} {m g : Int} (q : C14 w F v b o u x n h y m g W) (hb : Below W.heap.size W W') : C14 w F v b o u x n h y m g W' := ⟨q.1.below hb, ⟨keepc hb q.2.1.1, keepc hb q.2.1.2.1, keepc hb q.2.1.2.2.1, keepc hb q.2.1.2.2.2⟩, ⟨keepc hb q.2.2.1.1, keepc hb q.2.2.1.2.1, keepc hb q.2.2.1.2.2.1, keepc hb q.2.2.1.2.2.2⟩, keepb hb q.2.2.2⟩
theorem C14.drew {w W : World} {F : Int} {v : Value} {b o u : Nat} {x : BitVec 128} {n h : Int} {y : BitVec 128} {m g : Int} (q : C14 w F v b o u x n h y m g W) : C14 w F v b o u x n h y m g W.drew := ⟨q.1, q.2.1, q.2.2.1, q.2.2.2.drew⟩
/-- Each route stands ahead of the next one. -/
def Adj (l : List Rte) : Prop := ∀ (a : Nat) (h : a + 1 < l.length), pcmpZ l[a].1.1 l[a].1.2 l[a + 1].1.1 l[a + 1].1.2 < 0
/-- What Check tells of a table. -/
def TabE (F : Int) (l : List Rte) (z : Int) : Prop := (rtsE F l ≠ 0 → z = rtsE F l) ∧ (rtsE F l = 0 → (Adj l ∧ z = 0) ∨ (¬ Adj l ∧ z = 19))
set_option maxRecDepth 20000 in
set_option maxHeartbeats 8000000 in
theorem rcheckT_any (F : Int) (v : Value) (l : List Rte) (w : World) (hv : RwR w v l) :
    Calls Try.prog 28 #[.agg #[.int .i64 F, v]] w fun e w' => (∃ z, TabE F l z ∧ e = .returned (.int .i64 z)) ∧ Below w.heap.size w w' := by
  obtain ⟨ao, c, rfl, hv⟩ := hv
  have KI := fun w => isFamily_any F w
  have HT := hidR (att_new w w.heap.size F (.slice ao l.length c) 24 rfl)
  have HB := hidR (bl1 w (.cells #[.int .i64 F, .slice ao l.length c] 24))
  have HV : Hid (l = [] ∨ ∃ b off, ao = some ⟨b, off, none⟩ ∧ ∀ j u, (rowR l)[j]? = some u → w.cell? ⟨b, off + j, none⟩ = some u) := hv
  obtain ⟨t0, t1⟩ := HT.out
  clear hv
  cases hf : fam F
  · rw [hf] at KI
    have HE : Hid (TabE F l 11) := hidR (by unfold TabE rtsE; rw [if_neg (by simp [hf])]; exact ⟨fun _ => rfl, fun h => by omega⟩)
    clear hf HV HT
    go_enter Try.func28, Try.ntmps28
    go_wp2_with fail
    refine (KI _).mono ?_
    rintro e w1 ⟨rfl, rfl⟩
    clear KI
    go_wp2
    go_ret
    exact ⟨⟨11, HE.out, rfl⟩, HB.out⟩
  · rw [hf] at KI
    by_cases hl : 1048576 < l.length
    · have HE : Hid (TabE F l 16) := hidR (by unfold TabE rtsE; rw [if_pos (by simp [hf]), if_pos hl]; exact ⟨fun _ => rfl, fun h => by omega⟩)
      have h1 : (1048576 : Int) < (l.length : Int) := by omega
      clear hf HV HT
      go_enter Try.func28, Try.ntmps28
      go_wp2_with fail
      refine (KI _).mono ?_
      rintro e w1 ⟨rfl, rfl⟩
      clear KI
      go_wp2
      go_ret
      exact ⟨⟨16, HE.out, rfl⟩, HB.out⟩
    · have h1 : ¬ (1048576 : Int) < (l.length : Int) := by omega
      have HRE : Hid (rtsE F l = rtsG F l) := hidR (by unfold rtsE; rw [if_pos hf, if_neg hl])
      clear hf hl
      go_enter Try.func28, Try.ntmps28
      go_wp2_with fail
      refine (KI _).mono ?_
      rintro e w1 ⟨rfl, rfl⟩
      clear KI
      go_wp2_with fail
      go_loopw [3] (fun i wr => ∃ k : Nat, k ≤ l.length ∧ i = .int .i64 k ∧ Hid (rtsG F (l.drop k) = rtsG F l) ∧ Hid (AtT wr w.heap.size F (.slice ao l.length c)) ∧ Hid (Below w.heap.size w wr)) (fun i _ => l.length - (intOf i).toNat)
      case atStart => exact ⟨0, by omega, rfl, hidR rfl, HT, HB⟩
      case round =>
        clear HT HB t0 t1
        obtain ⟨k, hk, rfl, HG, HT, HB⟩ := hrel
        obtain ⟨t0, t1⟩ := HT.out
        by_cases hlt : (k : Int) < (l.length : Int)
        · have hks : k < l.length := by omega
          rcases HV.out with e | ⟨b, off, rfl, hc⟩
          · rw [e] at hks; simp at hks
          · obtain ⟨x0, x1, x2, x3⟩ := rwr_cells hc k hks
            have HC := hidR (C8.drew ⟨HT.out, ⟨keepc HB.out x0, keepc HB.out x1, keepc HB.out x2, keepc HB.out x3⟩, HB.out⟩ : C8 w F (.slice (some ⟨b, off, none⟩) l.length c) b (off + k * 4) l[k].1.1 l[k].1.2 l[k].2 wr.drew)
            have KC := fun w => rchecked_any F l[k].1.1 l[k].1.2 l[k].2 w
            have HD := hidR (rts_drop F l k hks)
            have eR : ((l[k].1.1, l[k].1.2), l[k].2) = l[k] := rfl
            rw [eR] at KC
            have KC := KC
            clear x0 x1 x2 x3 hc HV eR HT HB
            revert KC HD HC
            generalize rteE F l[k] = ce
            generalize l[k].1.1 = px
            generalize l[k].1.2 = pn
            generalize l[k].2 = ph
            intro HC HD KC
            go_wp2_with fail
            refine qp_region2 9 (qpOk 9 9 (by decide) (fun N => by kernel_rfl) (by kernel_rfl) (by kernel_rfl) (by kernel_rfl) (by kernel_rfl)) (C := C8 w F (.slice (some ⟨b, off, none⟩) l.length c) b (off + k * 4) px pn ph) [some 21, some 22, some 23, some 24, some 25, some 26, some 27, some 28, some 4] [.pointer (some ⟨w.heap.size, 0, none⟩), .int .i64 F, .pointer (some ⟨w.heap.size, 1, none⟩), .slice (some ⟨b, off, none⟩) l.length c, .int .i64 (k : Int), .pointer (some ⟨b, off + k * 4, none⟩), .agg #[.int .u64 (hI px), .int .u64 (lI px), .int .i64 pn, .int .i64 ph], .int .i64 ce, .int .i64 ce] (by kernel_rfl) HC.out ?walk ?fin
            case walk =>
              dsimp only [List.take]
              clear HC HD HG t0 t1
              refine q_run (v := .pointer (some ⟨w.heap.size, 0, none⟩)) (by rfl) ?_ ?_
              · (intro w1 hC; obtain ⟨⟨t0, t1⟩, ⟨x0, x1, x2, x3⟩, -⟩ := hC; go_simp; first | done | (simp; done) | (simp [*]; done) | omega | (simp; omega) | (rw [IntKind.wrap_i64]; omega) | (intro hx; omega) | rfl)
              simp only [Act.put, List.setIfInBounds_toArray, List.set_cons_zero, List.set_cons_succ]
              refine q_run (v := .int .i64 F) (by rfl) ?_ ?_
              · (intro w1 hC; obtain ⟨⟨t0, t1⟩, ⟨x0, x1, x2, x3⟩, -⟩ := hC; go_simp; first | done | (simp; done) | (simp [*]; done) | omega | (simp; omega) | (rw [IntKind.wrap_i64]; omega) | (intro hx; omega) | rfl)
              simp only [Act.put, List.setIfInBounds_toArray, List.set_cons_zero, List.set_cons_succ]
              refine q_run (v := .pointer (some ⟨w.heap.size, 1, none⟩)) (by rfl) ?_ ?_
              · (intro w1 hC; obtain ⟨⟨t0, t1⟩, ⟨x0, x1, x2, x3⟩, -⟩ := hC; go_simp; first | done | (simp; done) | (simp [*]; done) | omega | (simp; omega) | (rw [IntKind.wrap_i64]; omega) | (intro hx; omega) | rfl)
              simp only [Act.put, List.setIfInBounds_toArray, List.set_cons_zero, List.set_cons_succ]
              refine q_run (v := .slice (some ⟨b, off, none⟩) l.length c) (by rfl) ?_ ?_
              · (intro w1 hC; obtain ⟨⟨t0, t1⟩, ⟨x0, x1, x2, x3⟩, -⟩ := hC; go_simp; first | done | (simp; done) | (simp [*]; done) | omega | (simp; omega) | (rw [IntKind.wrap_i64]; omega) | (intro hx; omega) | rfl)
              simp only [Act.put, List.setIfInBounds_toArray, List.set_cons_zero, List.set_cons_succ]
              refine q_run (v := .int .i64 (k : Int)) (by rfl) ?_ ?_
              · (intro w1 hC; obtain ⟨⟨t0, t1⟩, ⟨x0, x1, x2, x3⟩, -⟩ := hC; go_simp; first | done | (simp; done) | (simp [*]; done) | omega | (simp; omega) | (rw [IntKind.wrap_i64]; omega) | (intro hx; omega) | rfl)
              simp only [Act.put, List.setIfInBounds_toArray, List.set_cons_zero, List.set_cons_succ]
              refine q_run (v := .pointer (some ⟨b, off + k * 4, none⟩)) (by rfl) ?_ ?_
              · (intro w1 hC; obtain ⟨⟨t0, t1⟩, ⟨x0, x1, x2, x3⟩, -⟩ := hC; go_simp; first | done | (simp; done) | (simp [*]; done) | omega | (simp; omega) | (rw [IntKind.wrap_i64]; omega) | (intro hx; omega) | rfl)
              simp only [Act.put, List.setIfInBounds_toArray, List.set_cons_zero, List.set_cons_succ]
              refine q_run (v := .agg #[.int .u64 (hI px), .int .u64 (lI px), .int .i64 pn, .int .i64 ph]) (by rfl) ?_ ?_
              · (intro w1 hC; obtain ⟨⟨t0, t1⟩, ⟨x0, x1, x2, x3⟩, -⟩ := hC; go_simp; first | done | (simp; done) | (simp [*]; done) | omega | (simp; omega) | (rw [IntKind.wrap_i64]; omega) | (intro hx; omega) | rfl)
              simp only [Act.put, List.setIfInBounds_toArray, List.set_cons_zero, List.set_cons_succ]
              refine q_call (v := .int .i64 ce) (f := 47) (args := #[.int .i64 F, .agg #[.int .u64 (hI px), .int .u64 (lI px), .int .i64 pn, .int .i64 ph]]) (by rfl) ?_ ?_ ?_
              · (intro w1 hC; clear hC; go_simp)
              · exact fun w1 hC => (KC w1).mono fun e w' ⟨he, hb⟩ => ⟨he, hC.below hb⟩
              simp only [Act.put, List.setIfInBounds_toArray, List.set_cons_zero, List.set_cons_succ]
              refine q_run (v := .int .i64 ce) (by rfl) ?_ ?_
              · (intro w1 hC; obtain ⟨⟨t0, t1⟩, ⟨x0, x1, x2, x3⟩, -⟩ := hC; go_simp; first | done | (simp; done) | (simp [*]; done) | omega | (simp; omega) | (rw [IntKind.wrap_i64]; omega) | (intro hx; omega) | rfl)
              simp only [Act.put, List.setIfInBounds_toArray, List.set_cons_zero, List.set_cons_succ]
              refine wpQuiet_nil ?_
              simp only [putAll, Act.put, List.setIfInBounds_toArray, List.set_cons_zero, List.set_cons_succ]
            case fin =>
              intro W hC
              simp only [putAll, Act.put, List.setIfInBounds_toArray, List.set_cons_zero, List.set_cons_succ]
              dsimp only [List.drop]
              have HT := hidR hC.1
              have HB := hidR hC.2.2
              clear hC HC KC t0 t1
              have mk : IntKind.i64.wrap ((k : Int) + 1) = (k : Int) + 1 := by rw [IntKind.wrap_i64]; omega
              by_cases hce : ce = 0
              · subst hce
                go_wp2
                go_roundw
                case rel => exact ⟨k + 1, by omega, by go_num, hidR (by rw [← HG.out, HD.out]; simp), HT, HB⟩
                case measure => simp [intOf]; omega
              · have hn : (ce != 0) = true := by simp [hce]
                have HE : Hid (TabE F l ce) := hidR (by
                  have e1 : rtsE F l = ce := by rw [HRE.out, ← HG.out, HD.out, if_neg hce]
                  unfold TabE
                  rw [e1]
                  exact ⟨fun _ => rfl, fun h => absurd h hce⟩)
                clear HG HD HRE HT
                go_wp2
                go_ret
                exact ⟨⟨ce, HE.out, rfl⟩, HB.out⟩
        · have hd : ¬ k < l.length := by omega
          have HZ : Hid (rtsE F l = 0) := hidR (by rw [HRE.out, ← HG.out, List.drop_eq_nil_of_le (by omega)]; rfl)
          clear HG HRE
          go_wp2_with fail
          go_loopw [5] (fun i wr => ∃ k1 p : Nat, k1 = p + 1 ∧ p ≤ l.length ∧ i = .int .i64 k1 ∧ Hid (∀ (a : Nat) (h : a + 1 < l.length), a < p → pcmpZ l[a].1.1 l[a].1.2 l[a + 1].1.1 l[a + 1].1.2 < 0) ∧ Hid (AtT wr w.heap.size F (.slice ao l.length c)) ∧ Hid (Below w.heap.size w wr)) (fun i _ => l.length - (intOf i).toNat)
          case atStart => exact ⟨1, 0, rfl, by omega, rfl, hidR fun a h g => by omega, HT, HB⟩
          case round =>
            clear HT HB t0 t1
            obtain ⟨k1, p, hkp, hp, rfl, HG, HT, HB⟩ := hrel
            obtain ⟨t0, t1⟩ := HT.out
            by_cases hlt : (k1 : Int) < (l.length : Int)
            · have hks : k1 < l.length := by omega
              have hps : p < l.length := by omega
              rcases HV.out with e | ⟨b, off, rfl, hc⟩
              · rw [e] at hks; simp at hks
              · obtain ⟨x0, x1, x2, x3⟩ := rwr_cells hc p hps
                obtain ⟨y0, y1, y2, y3⟩ := rwr_cells hc k1 hks
                have HC := hidR (C14.drew ⟨HT.out, ⟨keepc HB.out x0, keepc HB.out x1, keepc HB.out x2, keepc HB.out x3⟩, ⟨keepc HB.out y0, keepc HB.out y1, keepc HB.out y2, keepc HB.out y3⟩, HB.out⟩ : C14 w F (.slice (some ⟨b, off, none⟩) l.length c) b (off + p * 4) (off + k1 * 4) l[p].1.1 l[p].1.2 l[p].2 l[k1].1.1 l[k1].1.2 l[k1].2 wr.drew)
                have KZ := fun w => rpcmp_any l[p].1.1 l[p].1.2 l[k1].1.1 l[k1].1.2 w
                have HD : Hid (∀ z, z = pcmpZ l[p].1.1 l[p].1.2 l[k1].1.1 l[k1].1.2 → (z < 0 → ∀ (a : Nat) (h : a + 1 < l.length), a < k1 → pcmpZ l[a].1.1 l[a].1.2 l[a + 1].1.1 l[a + 1].1.2 < 0) ∧ (¬ z < 0 → ¬ Adj l)) := hidR (by
                  rintro z rfl
                  subst hkp
                  refine ⟨fun hz a h ha => ?_, fun hz hA => hz (hA p hks)⟩
                  rcases Nat.lt_or_eq_of_le (Nat.le_of_lt_succ ha) with q | q
                  · exact HG.out a h q
                  · subst q; exact hz)
                clear x0 x1 x2 x3 y0 y1 y2 y3 hc HV HT HB HG
                have HD2 := hidR (HD.out _ rfl)
                clear HD
                revert KZ HD2 HC
                generalize pcmpZ l[p].1.1 l[p].1.2 l[k1].1.1 l[k1].1.2 = cz
                generalize l[p].1.1 = px
                generalize l[p].1.2 = pn
                generalize l[p].2 = ph
                generalize l[k1].1.1 = qx
                generalize l[k1].1.2 = qn
                generalize l[k1].2 = qh
                intro HC KZ HD2
                have ms : IntKind.i64.wrap ((k1 : Int) - 1) = (p : Int) := by rw [IntKind.wrap_i64]; omega
                clear hkp
                go_wp2_with fail
                refine qp_region2 15 (qpOk 15 15 (by decide) (fun N => by kernel_rfl) (by kernel_rfl) (by kernel_rfl) (by kernel_rfl) (by kernel_rfl)) (C := C14 w F (.slice (some ⟨b, off, none⟩) l.length c) b (off + p * 4) (off + k1 * 4) px pn ph qx qn qh) [some 39, some 40, some 41, some 42, some 43, some 44, some 45, some 46, some 47, some 48, some 49, some 50, some 51, some 52, some 53] [.pointer (some ⟨w.heap.size, 1, none⟩), .slice (some ⟨b, off, none⟩) l.length c, .int .i64 (k1 : Int), .int .i64 (p : Int), .pointer (some ⟨b, off + p * 4, none⟩), .pointer (some ⟨b, off + p * 4, none⟩), .agg #[.int .u64 (hI px), .int .u64 (lI px), .int .i64 pn], .pointer (some ⟨w.heap.size, 1, none⟩), .slice (some ⟨b, off, none⟩) l.length c, .int .i64 (k1 : Int), .pointer (some ⟨b, off + k1 * 4, none⟩), .pointer (some ⟨b, off + k1 * 4, none⟩), .agg #[.int .u64 (hI qx), .int .u64 (lI qx), .int .i64 qn], .int .i64 cz, .bool (decide (0 ≤ cz))] (by kernel_rfl) HC.out ?walk ?fin
                case walk =>
                  dsimp only [List.take]
                  clear HC HD2 t0 t1
                  refine q_run (v := .pointer (some ⟨w.heap.size, 1, none⟩)) (by rfl) ?_ ?_
                  · (intro w1 hC; obtain ⟨⟨t0, t1⟩, ⟨x0, x1, x2, -⟩, ⟨y0, y1, y2, -⟩, -⟩ := hC; go_simp; first | done | (simp; done) | (simp [*]; done) | omega | (simp; omega) | (rw [IntKind.wrap_i64]; omega) | (intro hx; omega) | rfl)
                  simp only [Act.put, List.setIfInBounds_toArray, List.set_cons_zero, List.set_cons_succ]
                  refine q_run (v := .slice (some ⟨b, off, none⟩) l.length c) (by rfl) ?_ ?_
                  · (intro w1 hC; obtain ⟨⟨t0, t1⟩, ⟨x0, x1, x2, -⟩, ⟨y0, y1, y2, -⟩, -⟩ := hC; go_simp; first | done | (simp; done) | (simp [*]; done) | omega | (simp; omega) | (rw [IntKind.wrap_i64]; omega) | (intro hx; omega) | rfl)
                  simp only [Act.put, List.setIfInBounds_toArray, List.set_cons_zero, List.set_cons_succ]
                  refine q_run (v := .int .i64 (k1 : Int)) (by rfl) ?_ ?_
                  · (intro w1 hC; obtain ⟨⟨t0, t1⟩, ⟨x0, x1, x2, -⟩, ⟨y0, y1, y2, -⟩, -⟩ := hC; go_simp; first | done | (simp; done) | (simp [*]; done) | omega | (simp; omega) | (rw [IntKind.wrap_i64]; omega) | (intro hx; omega) | rfl)
                  simp only [Act.put, List.setIfInBounds_toArray, List.set_cons_zero, List.set_cons_succ]
                  refine q_run (v := .int .i64 (p : Int)) (by rfl) ?_ ?_
                  · (intro w1 hC; obtain ⟨⟨t0, t1⟩, ⟨x0, x1, x2, -⟩, ⟨y0, y1, y2, -⟩, -⟩ := hC; go_simp; first | done | (simp; done) | (simp [*]; done) | omega | (simp; omega) | (rw [IntKind.wrap_i64]; omega) | (intro hx; omega) | rfl)
                  simp only [Act.put, List.setIfInBounds_toArray, List.set_cons_zero, List.set_cons_succ]
                  refine q_run (v := .pointer (some ⟨b, off + p * 4, none⟩)) (by rfl) ?_ ?_
                  · (intro w1 hC; obtain ⟨⟨t0, t1⟩, ⟨x0, x1, x2, -⟩, ⟨y0, y1, y2, -⟩, -⟩ := hC; go_simp; first | done | (simp; done) | (simp [*]; done) | omega | (simp; omega) | (rw [IntKind.wrap_i64]; omega) | (intro hx; omega) | rfl)
                  simp only [Act.put, List.setIfInBounds_toArray, List.set_cons_zero, List.set_cons_succ]
                  refine q_run (v := .pointer (some ⟨b, off + p * 4, none⟩)) (by rfl) ?_ ?_
                  · (intro w1 hC; obtain ⟨⟨t0, t1⟩, ⟨x0, x1, x2, -⟩, ⟨y0, y1, y2, -⟩, -⟩ := hC; go_simp; first | done | (simp; done) | (simp [*]; done) | omega | (simp; omega) | (rw [IntKind.wrap_i64]; omega) | (intro hx; omega) | rfl)
                  simp only [Act.put, List.setIfInBounds_toArray, List.set_cons_zero, List.set_cons_succ]
                  refine q_run (v := .agg #[.int .u64 (hI px), .int .u64 (lI px), .int .i64 pn]) (by rfl) ?_ ?_
                  · (intro w1 hC; obtain ⟨⟨t0, t1⟩, ⟨x0, x1, x2, -⟩, ⟨y0, y1, y2, -⟩, -⟩ := hC; go_simp; first | done | (simp; done) | (simp [*]; done) | omega | (simp; omega) | (rw [IntKind.wrap_i64]; omega) | (intro hx; omega) | rfl)
                  simp only [Act.put, List.setIfInBounds_toArray, List.set_cons_zero, List.set_cons_succ]
                  refine q_run (v := .pointer (some ⟨w.heap.size, 1, none⟩)) (by rfl) ?_ ?_
                  · (intro w1 hC; obtain ⟨⟨t0, t1⟩, ⟨x0, x1, x2, -⟩, ⟨y0, y1, y2, -⟩, -⟩ := hC; go_simp; first | done | (simp; done) | (simp [*]; done) | omega | (simp; omega) | (rw [IntKind.wrap_i64]; omega) | (intro hx; omega) | rfl)
                  simp only [Act.put, List.setIfInBounds_toArray, List.set_cons_zero, List.set_cons_succ]
                  refine q_run (v := .slice (some ⟨b, off, none⟩) l.length c) (by rfl) ?_ ?_
                  · (intro w1 hC; obtain ⟨⟨t0, t1⟩, ⟨x0, x1, x2, -⟩, ⟨y0, y1, y2, -⟩, -⟩ := hC; go_simp; first | done | (simp; done) | (simp [*]; done) | omega | (simp; omega) | (rw [IntKind.wrap_i64]; omega) | (intro hx; omega) | rfl)
                  simp only [Act.put, List.setIfInBounds_toArray, List.set_cons_zero, List.set_cons_succ]
                  refine q_run (v := .int .i64 (k1 : Int)) (by rfl) ?_ ?_
                  · (intro w1 hC; obtain ⟨⟨t0, t1⟩, ⟨x0, x1, x2, -⟩, ⟨y0, y1, y2, -⟩, -⟩ := hC; go_simp; first | done | (simp; done) | (simp [*]; done) | omega | (simp; omega) | (rw [IntKind.wrap_i64]; omega) | (intro hx; omega) | rfl)
                  simp only [Act.put, List.setIfInBounds_toArray, List.set_cons_zero, List.set_cons_succ]
                  refine q_run (v := .pointer (some ⟨b, off + k1 * 4, none⟩)) (by rfl) ?_ ?_
                  · (intro w1 hC; obtain ⟨⟨t0, t1⟩, ⟨x0, x1, x2, -⟩, ⟨y0, y1, y2, -⟩, -⟩ := hC; go_simp; first | done | (simp; done) | (simp [*]; done) | omega | (simp; omega) | (rw [IntKind.wrap_i64]; omega) | (intro hx; omega) | rfl)
                  simp only [Act.put, List.setIfInBounds_toArray, List.set_cons_zero, List.set_cons_succ]
                  refine q_run (v := .pointer (some ⟨b, off + k1 * 4, none⟩)) (by rfl) ?_ ?_
                  · (intro w1 hC; obtain ⟨⟨t0, t1⟩, ⟨x0, x1, x2, -⟩, ⟨y0, y1, y2, -⟩, -⟩ := hC; go_simp; first | done | (simp; done) | (simp [*]; done) | omega | (simp; omega) | (rw [IntKind.wrap_i64]; omega) | (intro hx; omega) | rfl)
                  simp only [Act.put, List.setIfInBounds_toArray, List.set_cons_zero, List.set_cons_succ]
                  refine q_run (v := .agg #[.int .u64 (hI qx), .int .u64 (lI qx), .int .i64 qn]) (by rfl) ?_ ?_
                  · (intro w1 hC; obtain ⟨⟨t0, t1⟩, ⟨x0, x1, x2, -⟩, ⟨y0, y1, y2, -⟩, -⟩ := hC; go_simp; first | done | (simp; done) | (simp [*]; done) | omega | (simp; omega) | (rw [IntKind.wrap_i64]; omega) | (intro hx; omega) | rfl)
                  simp only [Act.put, List.setIfInBounds_toArray, List.set_cons_zero, List.set_cons_succ]
                  refine q_call (v := .int .i64 cz) (f := 48) (args := #[.agg #[.int .u64 (hI px), .int .u64 (lI px), .int .i64 pn], .agg #[.int .u64 (hI qx), .int .u64 (lI qx), .int .i64 qn]]) (by rfl) ?_ ?_ ?_
                  · (intro w1 hC; clear hC; go_simp)
                  · exact fun w1 hC => (KZ w1).mono fun e w' ⟨he, hb⟩ => ⟨he, hC.below hb⟩
                  simp only [Act.put, List.setIfInBounds_toArray, List.set_cons_zero, List.set_cons_succ]
                  refine q_run (v := .bool (decide (0 ≤ cz))) (by rfl) ?_ ?_
                  · (intro w1 hC; obtain ⟨⟨t0, t1⟩, ⟨x0, x1, x2, -⟩, ⟨y0, y1, y2, -⟩, -⟩ := hC; go_simp; first | done | (simp; done) | (simp [*]; done) | omega | (simp; omega) | (rw [IntKind.wrap_i64]; omega) | (intro hx; omega) | rfl)
                  simp only [Act.put, List.setIfInBounds_toArray, List.set_cons_zero, List.set_cons_succ]
                  refine wpQuiet_nil ?_
                  simp only [putAll, Act.put, List.setIfInBounds_toArray, List.set_cons_zero, List.set_cons_succ]
                case fin =>
                  intro W hC
                  simp only [putAll, Act.put, List.setIfInBounds_toArray, List.set_cons_zero, List.set_cons_succ]
                  dsimp only [List.drop]
                  have HT := hidR hC.1
                  have HB := hidR hC.2.2.2
                  clear hC HC KZ t0 t1 ms
                  have mk : IntKind.i64.wrap ((k1 : Int) + 1) = (k1 : Int) + 1 := by rw [IntKind.wrap_i64]; omega
                  by_cases hz : cz < 0
                  · have hz' : ¬ 0 ≤ cz := by omega
                    have HG := hidR (HD2.out.1 hz)
                    clear HD2
                    go_wp2
                    go_roundw
                    case rel => exact ⟨k1 + 1, k1, rfl, by omega, by go_num, HG, HT, HB⟩
                    case measure => simp [intOf]; omega
                  · have hz' : 0 ≤ cz := by omega
                    have HE : Hid (TabE F l 19) := hidR ⟨fun h => absurd HZ.out h, fun _ => .inr ⟨HD2.out.2 (by omega), rfl⟩⟩
                    clear HD2 HT HZ
                    go_wp2
                    go_ret
                    exact ⟨⟨19, HE.out, rfl⟩, HB.out⟩
            · have HE : Hid (TabE F l 0) := hidR ⟨fun h => absurd HZ.out h, fun _ => .inl ⟨fun a h => HG.out a h (by omega), rfl⟩⟩
              have hd : ¬ k1 < l.length := by omega
              clear HZ HG HT
              go_wp2
              go_ret
              exact ⟨⟨0, HE.out, rfl⟩, HB.out⟩
end Go.Proofs.Ytofpbommhklooaa
