/-
  Part 5 of the proof: 7 texts, one behind the other.
-/
import Derived.Test.YtjgpbahglkaijaaPart3
import Derived.Test.YtjgpbahglkaijaaPart4
import Derived.Test.YtjgpbahglkaijaaPart1
import Derived.Laws.CopyRow
import Derived.Laws.MakeOwn
import Derived.Laws.OwnMore
import Derived.RangeFuncNested
namespace Go.Proofs.Ytjgpbahglkaijaa
open Go.RowKit Go.Shelf
set_option linter.unusedSimpArgs false
set_option linter.unusedVariables false
attribute [local go_sem] Oper.semAt_some

def KZ (Z : Nat → Prop) (W W' : World) : Prop := W.heap.size ≤ W'.heap.size ∧ ∀ (z : Nat) (o : Obj), W.heap[z]? = some o → Z z → W'.heap[z]? = some o
theorem KZ.trans {Z : Nat → Prop} {X Y V : World} (h : KZ Z X Y) (g : KZ Z Y V) : KZ Z X V := ⟨Nat.le_trans h.1 g.1, fun z o h1 h2 => g.2 z o (h.2 z o h1 h2) h2⟩
theorem kz_put {Z : Nat → Prop} {l : Nat} (hZ : ¬ Z l) (W : World) (o o' : Obj) (h : W.heap[l]? = some o) (hc : o.isCells = false) : KZ Z W (W.putObj l o') := ⟨by simp, fun z x hz hx => by
  have hne : z ≠ l := by rintro rfl; exact hZ hx
  rw [World.putObj_heap_other hne]; exact hz⟩
theorem kz_below {Z : Nat → Prop} {W W' : World} (h : Below W.heap.size W W') : KZ Z W W' := ⟨h.size, fun z o hz _ => by rw [h.block z (Array.getElem?_eq_some_iff.mp hz).1]; exact hz⟩
theorem kz_cell {Z : Nat → Prop} {W W' : World} (h : KZ Z W W') {b o : Nat} {v : Value} (hz : Z b) (hc : W.cell? ⟨b, o, none⟩ = some v) : W'.cell? ⟨b, o, none⟩ = some v := by
  have hb := cell_in hc
  have e : W'.heap[b]? = W.heap[b]? := by rw [h.2 b _ (Array.getElem?_eq_getElem hb) hz, Array.getElem?_eq_getElem hb]
  exact (World.cell?_of_block (a := ⟨b, o, none⟩) e).trans hc
structure WdM (Z : Nat → Prop) (A : Nat) (o k : Int) (ao : Option Addr) (c : Nat) (m : List (BitVec 32)) (W : World) : Prop where
  a : AtI W A o k (.slice ao m.length c)
  za : Z A
  r : RwX cU W (.slice ao m.length c) m
  zr : m ≠ [] → ∀ ad, ao = some ad → Z ad.block
theorem WdM.kz {Z : Nat → Prop} {A : Nat} {o k : Int} {ao : Option Addr} {c : Nat} {m : List (BitVec 32)} {W W' : World} (h : WdM Z A o k ao c m W) (g : KZ Z W W') : WdM Z A o k ao c m W' := by
  refine ⟨⟨kz_cell g h.za h.a.1, kz_cell g h.za h.a.2.1, kz_cell g h.za h.a.2.2⟩, h.za, ?_, h.zr⟩
  obtain ⟨ao', c', e, hc, hr⟩ := h.r
  injection e with e1 e2 e3
  subst e1 e3
  refine ⟨ao, c, rfl, hc, ?_⟩
  rcases hr with hr | ⟨b, off, e, hr⟩
  · exact .inl hr
  · exact .inr ⟨b, off, e, fun j x hj => kz_cell g (h.zr (by rintro rfl; cases hj) _ e) (hr j x hj)⟩
def fstW (o k : Nat) : BitVec 32 := BitVec.ofNat 32 (o * 16777216 + k)
theorem fst_uI (o k : Nat) (ho : o ≤ 4) (hk : k < 16777216) : uI (fstW o k) = ((o * 16777216 + k : Nat) : Int) := uI_of _ (by omega)
end Go.Proofs.Ytjgpbahglkaijaa
namespace Go.Proofs.Ytjgpbahglkaijaa
open Go.RowKit
set_option linter.unusedSimpArgs false
set_option linter.unusedVariables false

def mkZ (l : List Nat) (k : Nat) : List Nat := l ++ (List.replicate k 165 ++ List.replicate (9 - k) 0)
end Go.Proofs.Ytjgpbahglkaijaa
namespace Go.Proofs.Ytjgpbahglkaijaa
open Go.RowKit
set_option linter.unusedSimpArgs false
set_option linter.unusedVariables false

end Go.Proofs.Ytjgpbahglkaijaa
namespace Go.Proofs.Ytjgpbahglkaijaa
open Go.RowKit Go.Shelf
set_option linter.unusedSimpArgs false
set_option linter.unusedVariables false

theorem gh_quiet14 {P : Program} {o : Oper} {a' : Act} {w' : World} {K : Act → World → Prop} {Q' : Exit → Act → World → Prop} {v : Value} (hr : (execOp a'.eval o).run P w' = .ok (.value v) w') (hK : K (a'.put o.dst v) w') : o.wp P a' w' K Q' := by
  unfold Oper.wp Oper.upon
  rw [hr]
  exact hK
theorem gh_same14 {x y : Array Value} {d s : Nat} (h : x.toList.eraseIdx d = y.toList.eraseIdx d) (hs : s ≠ d) : x[s]? = y[s]? := by
  have := erase_get _ _ d s h hs
  simpa using this
theorem Slt.old14 {l : List Oper} {a A : Act} {lp : Array Bool} {a' : Act} (h : Slt l a A lp a') (s : Nat) (hs : ∀ o ∈ l, o.dst ≠ some s) : a'.tmps[s]? = a.tmps[s]? := h.oth s (fun k o hk _ => hs o (List.mem_of_getElem? hk))
structure EnW (w : World) (N G B : Nat) (W : World) (vc vb : Value) (R : List Nat) : Prop where
  b : Below w.heap.size w W
  c : W.cell? ⟨B, 0, none⟩ = some vc
  f : W.frozen? ⟨B, 0, none⟩ = false
  o : W.ownsRow w.heap.size 5 1 vb R.length (R.map cB)
  n : ∀ z, vb.ownBlock = some z → z = G ∨ N ≤ z
  s : N ≤ W.heap.size
section
variable {w W W' : World} {N G B : Nat} {vc vb vb' : Value} {R : List Nat}
theorem EnW.below (h : EnW w N G B W vc vb R) (hb : Below W.heap.size W W') : EnW w N G B W' vc vb R :=
  ⟨keepb hb h.b, keepc hb h.c, keepf hb h.c h.f, own_b13 hb h.o, h.n, Nat.le_trans h.s hb.size⟩
theorem own_cells14 {W : World} {base e size n : Nat} {v : Value} {xs : List Value} (h : W.ownsRow base e size v n xs) {z : Nat} (hz : v.ownBlock = some z) : ∃ cs T fr, W.heap[z]? = some (.cells cs T fr) := by
  rcases h.2 with ⟨rfl, -⟩ | ⟨g, cap, cur, rfl, h1, h2, -⟩
  · cases hz
  · simp only [Value.ownBlock, Option.some.injEq] at hz
    subst hz
    exact ⟨_, _, _, h2⟩
theorem EnW.kept (h : EnW w N G B W vc vb R) {row : Option Nat} (hg : W.grownBy W' row) (hN : w.heap.size ≤ N) (hr : ∀ r, row = some r → N ≤ r ∧ ∃ o : Obj, W.heap[r]? = some o ∧ o.isCells = false) : EnW w N G B W' vc vb R := by
  have hr' : ∀ r, row = some r → ∃ o : Obj, W.heap[r]? = some o ∧ o.isCells = false := fun r e => (hr r e).2
  have hB : row ≠ some B := by
    intro e
    obtain ⟨o, h1, h2⟩ := hr' B e
    have := h.c
    rw [World.cell?, h1] at this
    cases o with
    | cells cs T fr => cases h2
    | _ => simp at this
  have eB : W'.heap[B]? = W.heap[B]? := hg.block B (cell_in h.c) (fun e => hB e.symm)
  refine ⟨h.b.grown hg (Nat.le_trans hN h.s) (fun k e => by have := (hr k e).1; omega), (World.cell?_of_block (a := ⟨B, 0, none⟩) eB).trans h.c, (World.frozen?_of_block (a := ⟨B, 0, none⟩) eB).trans h.f, h.o.kept hg ?_, h.n, Nat.le_trans h.s hg.size⟩
  cases hv : vb.ownBlock with
  | none => exact .inl rfl
  | some z =>
    refine .inr fun e => ?_
    obtain ⟨o, h1, h2⟩ := hr' z e.symm
    obtain ⟨cs, T, fr, h3⟩ := own_cells14 h.o hv
    rw [h3] at h1
    cases h1
    cases h2
theorem EnW.app (h : EnW w N G B W vb vb R) (hBG : B ≠ G) (hBN : B < N) (hwB : w.heap.size ≤ N) {v' : Value} {X : List Nat} (ho : W'.ownsRow w.heap.size 5 1 v' (R ++ X).length ((R ++ X).map cB)) (hg : W.grownBy W' vb.ownBlock) (hat : ∀ z, v'.ownBlock = some z → vb.ownBlock = some z ∨ z = W.heap.size) : EnW w N G B W' vb v' (R ++ X) := by
  have hne : vb.ownBlock ≠ some B := by
    intro e
    rcases h.n B e with h1 | h1
    · exact hBG h1
    · omega
  have eB : W'.heap[B]? = W.heap[B]? := hg.block B (cell_in h.c) (fun e => hne e.symm)
  refine ⟨h.b.grown hg (Nat.le_trans hwB h.s) (fun k e => (h.o.lt k e).1), (World.cell?_of_block (a := ⟨B, 0, none⟩) eB).trans h.c, (World.frozen?_of_block (a := ⟨B, 0, none⟩) eB).trans h.f, ho, ?_, Nat.le_trans h.s hg.size⟩
  intro z hz
  rcases hat z hz with h1 | h1
  · exact h.n z h1
  · exact .inr (by rw [h1]; exact h.s)
theorem EnW.set (h : EnW w N G B W vc vb R) (hBG : B ≠ G) (hBN : B < N) (hwB : w.heap.size ≤ B) : EnW w N G B (W.setCell ⟨B, 0, none⟩ vb) vb vb R := by
  have hne : vb.ownBlock ≠ some B := by
    intro e
    rcases h.n B e with h1 | h1
    · exact hBG h1
    · omega
  have hc := h.c
  have hf := h.f
  refine ⟨h.b.setCell (p := ⟨B, 0, none⟩) hwB _, by simp [go_sem, hc], by simp [go_sem, hf], ?_, h.n, by simp [World.setCell]; exact h.s⟩
  refine ⟨h.o.1, ?_⟩
  rcases h.o.2 with h1 | ⟨g, cap, cur, e, h1, h2, h3⟩
  · exact .inl h1
  · refine .inr ⟨g, cap, cur, e, h1, ?_, h3⟩
    have hgB : ¬ g = B := by
      rintro rfl
      exact hne (by rw [e]; rfl)
    exact (Below.heap_setCell W ⟨B, 0, none⟩ vb g hgB).trans h2
end
theorem rangeXA {P : Program} {α : Type} {g : Operand} {ps : Array Tmp} {assign body : Code} {Q : Exit → Act → World → Prop} {a : Act} {w : World} (n : Nat) (h1 : 1 ≤ n) {gf : Nat} {lb : Array Value} (hg : a.eval g = .func (.func gf) #[] lb) (eg : ∀ args w, (callFunc gf args).run P w = .ok (.enter gf args) w)
    {encs : α → Array Value} {Kp : World → World → Prop} {S Sp : List α → Prop} {Bd : Nat} {w0 : World} (hseq : SeqX (n - 1) P gf lb encs Kp S Sp Bd w0) (hBd : Bd ≤ w.heap.size + 2)
    (hKr : ∀ A : World, Kp A A) (hKt : ∀ {A B C : World}, Kp A B → Kp B C → Kp A C) (hKb : ∀ (W : World) (o o' : Obj), W.heap[w.heap.size + 1]? = some o → o.isCells = false → Kp W (W.putObj (w.heap.size + 1) o')) (hb0 : Below w0.heap.size w0 w) (hps : ∀ x, (encs x).size = ps.size)
    (I : List α → World → Prop) (Ix : Code → List α → World → Prop) (hI : OwnFrom w.heap.size I) (hIx : ∀ c, OwnFrom w.heap.size (Ix c)) (h0 : I [] w) (AX : α → Act)
    (hassign : ∀ (l : Nat) (x : α) (W : World) (K : Act → World → Prop), K (AX x) W →
      assign.wpIn (Fence.wide.inRound l) (n - 1 - 1) P (Exit.then K (fun _ _ _ => False)) { tmps := (ps.zip (encs x)).foldl (fun t (p, v) => t.setIfInBounds p v) a.tmps, defers := [] } W)
    (hbody : ∀ (l : Nat) (pre : List α) (x : α) (W : World), w.heap.size ≤ l → (∃ r, W.heap[l]? = some (.loop r)) → I pre W → Sp (pre ++ [x]) → body.wpIn (Fence.wide.inRound l) (n - 1 - 1) P (postX w.heap.size Kp I Ix (pre ++ [x]) W) (AX x) W)
    (hdone : ∀ (D : Nat) (xs : List α) (W : World), w.heap.size ≤ D → S xs → I xs W → W.heap[D]? = some (.deferred (some [])) → Q .normal { a with defers := { target := .collected D, args := #[] } :: a.defers } W)
    (hstop : ∀ (D : Nat) (c : Code) (pre : List α) (W : World), w.heap.size ≤ D → Sp pre → Ix c pre W → W.heap[D]? = some (.deferred (some [])) → c.wpIn Fence.wide n P Q { a with defers := { target := .collected D, args := #[] } :: a.defers } W) :
    (Code.rangeFunc g ps assign body).wpIn Fence.wide n P Q a w :=
  rangeX n h1 hg eg hseq hBd hKt hKb hb0 hps I Ix hI hIx h0 (fun y a' _ => a' = AX y) (fun y a' s A B row hs hg hr => hs)
    (fun l pre x W K hi hK => hassign l x W K (hK (AX x) W (KeepsFrom.refl _ _) (hKr W) hi rfl))
    (fun l pre x a' W h1 h2 h3 h4 h5 => by rw [h4]; exact hbody l pre x W h1 h2 h3 h5) hdone hstop
theorem wl_nil14 {P : Program} {ops : Array Oper} {Q : Exit → Act → World → Prop} {a : Act} {w : World} (h : wpList P ops Q [] a w) : Q .normal a w := h
theorem KZ.refl (Z : Nat → Prop) (W : World) : KZ Z W W := ⟨Nat.le_refl _, fun _ _ h _ => h⟩
end Go.Proofs.Ytjgpbahglkaijaa
namespace Go.Proofs.Ytjgpbahglkaijaa
open Go.RowKit Go.Shelf
set_option linter.unusedSimpArgs false
set_option linter.unusedVariables false

theorem at_16 {W : World} {z : Nat} {cs : Array Value} {T : TypeId} (hz : W.heap[z]? = some (.cells cs T)) (j : Nat) (u : Value) (hj : cs[j]? = some u) : W.cell? ⟨z, j, none⟩ = some u := by
  simp [World.cell?, hz, hj]
theorem fr_16 {W : World} {z j : Nat} {cs : Array Value} {T : TypeId} (h : W.heap[z]? = some (.cells cs T)) : W.frozen? ⟨z, j, none⟩ = false := by simp [World.frozen?, h]
theorem set_16 {W : World} {P o : Nat} {cs : Array Value} {T : TypeId} (h : W.heap[P]? = some (.cells cs T)) (v : Value) : (W.setCell ⟨P, o, none⟩ v).heap[P]? = some (.cells (cs.setIfInBounds o v) T) := by
  simp [World.setCell, Array.getElem?_modify, h]
theorem lt_16 {w : World} {z : Nat} {o : Obj} (hz : w.heap[z]? = some o) : z < w.heap.size := (Array.getElem?_eq_some_iff.1 hz).1
theorem far_16 {W : World} {z P o : Nat} {v : Value} (h : z ≠ P) : (W.setCell ⟨P, o, none⟩ v).heap[z]? = W.heap[z]? := Below.heap_setCell W ⟨P, o, none⟩ v z h
theorem new_16 (W : World) (o : Obj) : (W.alloc o).heap[W.heap.size]? = some o := World.alloc_heap_new W o
theorem old_16 {W : World} (o : Obj) {z : Nat} {x : Obj} (h : W.heap[z]? = some x) : (W.alloc o).heap[z]? = some x := (Below.heap_alloc W o z (lt_16 h)).trans h
theorem blk_16 {W W' : World} {row : Option Nat} (hg : W.grownBy W' row) (hr : ∀ r, row = some r → ∃ o : Obj, W.heap[r]? = some o ∧ o.isCells = false) {z : Nat} {cs : Array Value} {T : TypeId} {fr : Nat × Nat} (h : W.heap[z]? = some (.cells cs T fr)) : W'.heap[z]? = some (.cells cs T fr) := by
  refine (hg.block z (lt_16 h) (fun e => ?_)).trans h
  obtain ⟨o, h1, h2⟩ := hr z e.symm
  rw [h] at h1
  cases h1
  cases h2
def KX (X : Nat → Prop) (V U : World) : Prop := V.heap.size ≤ U.heap.size ∧ ∀ z, z < V.heap.size → ¬ X z → U.heap[z]? = V.heap[z]?
theorem KX.refl (X : Nat → Prop) (V : World) : KX X V V := ⟨Nat.le_refl _, fun _ _ _ => rfl⟩
theorem KX.trans {X : Nat → Prop} {A B C : World} (h : KX X A B) (g : KX X B C) : KX X A C := ⟨Nat.le_trans h.1 g.1, fun z h1 h2 => (g.2 z (Nat.lt_of_lt_of_le h1 h.1) h2).trans (h.2 z h1 h2)⟩
theorem KX.below {X : Nat → Prop} {V U U' : World} (h : KX X V U) (hb : Below U.heap.size U U') : KX X V U' := ⟨Nat.le_trans h.1 hb.size, fun z h1 h2 => (hb.block z (Nat.lt_of_lt_of_le h1 h.1)).trans (h.2 z h1 h2)⟩
theorem KX.set {X : Nat → Prop} {V U : World} (h : KX X V U) (b o : Nat) (u : Value) (hb : X b ∨ V.heap.size ≤ b) : KX X V (U.setCell ⟨b, o, none⟩ u) := ⟨by simpa using h.1, fun z h1 h2 => (far_16 (by rintro rfl; rcases hb with q | q; exact h2 q; omega)).trans (h.2 z h1 h2)⟩
theorem KX.own {β : Type} {X : Nat → Prop} {B : Nat} {V : World} (hV : V.heap.size ≤ B) : OwnFrom B (fun (_ : β) U => KX X V U) := fun s A A' row hs hg hr => ⟨Nat.le_trans hs.1 hg.size, fun z h1 h2 => (hg.block z (Nat.lt_of_lt_of_le h1 hs.1) (fun e => by have := (hr z e.symm).1; omega)).trans (hs.2 z h1 h2)⟩
theorem KX.kz {X Z : Nat → Prop} {V U : World} (h : KX X V U) (hZ : ∀ z, Z z → ¬ X z) : KZ Z V U := ⟨h.1, fun z o h1 h2 => by
  rw [h.2 z (lt_16 h1) (hZ z h2)]
  exact h1⟩
theorem wl_nil16 {P : Program} {ops : Array Oper} {Q : Exit → Act → World → Prop} {a : Act} {w : World} (h : wpList P ops Q [] a w) : Q .normal a w := h
def MkS (B : Nat) (ls : List Nat) (W : World) : Prop := ls.Nodup ∧ ∀ D ∈ ls, B ≤ D ∧ W.heap[D]? = some (.deferred (some []))
theorem MkS.nil (B : Nat) (W : World) : MkS B [] W := ⟨List.nodup_nil, fun D hD => by cases hD⟩
theorem MkS.cons {B : Nat} {ls : List Nat} {V U : World} {X : Nat → Prop} {D : Nat} (h : MkS B ls V) (hk : KX X V U) (hX : ∀ z, X z → z < B) (h1 : V.heap.size ≤ D) (hB : B ≤ V.heap.size) (h2 : U.heap[D]? = some (.deferred (some []))) : MkS B (D :: ls) U := by
  have hlt : ∀ E ∈ ls, E < V.heap.size := fun E hE => lt_16 (h.2 E hE).2
  refine ⟨List.nodup_cons.mpr ⟨fun hm => by have := hlt D hm; omega, h.1⟩, fun E hE => ?_⟩
  rcases List.mem_cons.mp hE with rfl | hE
  · exact ⟨by omega, h2⟩
  · exact ⟨(h.2 E hE).1, (hk.2 E (hlt E hE) (fun q => by have := hX E q; have := (h.2 E hE).1; omega)).trans (h.2 E hE).2⟩
theorem MkS.keep {B : Nat} {ls : List Nat} {V U : World} {X : Nat → Prop} (h : MkS B ls V) (hk : KX X V U) (hX : ∀ z, X z → z < B) : MkS B ls U :=
  ⟨h.1, fun E hE => ⟨(h.2 E hE).1, (hk.2 E (lt_16 (h.2 E hE).2) (fun q => by have := hX E q; have := (h.2 E hE).1; omega)).trans (h.2 E hE).2⟩⟩
theorem wpList_make16 {P : Program} (w : World) {ops : Array Oper} {rest : List Oper} {o : Oper} {a : Act} {Q : Exit → Act → World → Prop}
    (hg : o.guard = none) (l c : Operand) (t : TypeId) (hop : o.op = Op.makeSlice t l c)
    (e : TypeId) (i : TypeInfo) (z : Value) (h1 : P.underlying t = some (.slice e)) (h2 : P.info? e = some i) (h3 : i.zero = some z)
    (kl kc : IntKind) (L C : Int) (n m : Nat) (hl : a.eval l = .int kl L) (hc : a.eval c = .int kc C) (hL : L = (n : Int)) (hC : C = (m : Int)) (hnm : n ≤ m) (b2 : i.bytes * m ≤ 281474976710656) (b3 : m ≤ maxLen)
    (hK : wpList P ops Q rest (a.put o.dst (.slice (some ⟨w.heap.size, 0, none⟩) n m)) (w.alloc (.cells (madeCells z.cells (m * i.size)) e))) :
    wpList P ops Q (o :: rest) a w := by
  refine wpList_plain hg fun K hK' => ?_
  have h63' : (m : Int) ≤ 9223372036854775807 := by
    have h := b3
    simp [maxLen] at h
    omega
  have hb' : (i.bytes : Int) * (m : Int) ≤ 281474976710656 := by
    have h : ((i.bytes * m : Nat) : Int) ≤ 281474976710656 := by omega
    rwa [Int.natCast_mul] at h
  have hr := run_make (P := P) w t e i z h1 h2 h3 kl kc n m (by omega) (by omega) hb' h63'
  simp only [Int.toNat_natCast] at hr
  subst hL
  subst hC
  unfold Oper.wp
  simp [execOp, hop, hl, hc, hr, Result.andThen]
  exact hK' _ _ hK
theorem made_one16 (z : Value) (n : Nat) : madeCells #[z] n = (List.replicate n z).toArray := by
  rw [← toList_madeCells_one]
theorem own_base16 {w : World} {base base' e size n : Nat} {v : Value} {xs : List Value} (h : w.ownsRow base e size v n xs) (hb : base' ≤ base) : w.ownsRow base' e size v n xs := by
  refine ⟨h.1, ?_⟩
  rcases h.2 with hn | ⟨g, cap, cur, hv, h1, h2⟩
  · exact .inl hn
  · exact .inr ⟨g, cap, cur, hv, by omega, h2⟩
end Go.Proofs.Ytjgpbahglkaijaa
namespace Go.Proofs.Ytjgpbahglkaijaa
open Go.RowKit
set_option linter.unusedSimpArgs false
set_option linter.unusedVariables false

theorem and255 (n : Nat) (h : n < 4294967296) : bits .and .u32 (n : Int) 255 = ((n % 256 : Nat) : Int) := by
  have e : (255 : Int) = uI 255#32 := lit32 255 (by decide)
  have h1 : (n : Int) = uI (BitVec.ofNat 32 n) := lit32 n h
  rw [e, h1, and32, uI_eq, BitVec.toNat_and, BitVec.toNat_ofNat, BitVec.toNat_ofNat]
  have h2 : n &&& 255 = n % 256 := Nat.and_two_pow_sub_one_eq_mod n 8
  have h3 : (2 : Nat) ^ 32 = 4294967296 := by decide
  rw [h3, Nat.mod_eq_of_lt h, show 255 % 4294967296 = 255 from rfl, h2]
theorem pop_at (b : Nat) (h : b < 256) : Lib.pop8 (b : Int) = ((bsN 8 b : Nat) : Int) := by
  rw [Lib.pop8_eq ⟨b, h⟩, ones8 b h]
set_option maxRecDepth 100000 in
set_option maxHeartbeats 8000000 in
theorem onesCount_any (x : BitVec 32) (w : World) :
    Calls Try.prog 145 #[.int .u32 (uI x)] w fun e w' => e = .returned (.int .i64 ((on32 x : Nat) : Int)) ∧ Below w.heap.size w w' := by
  have hx := x.isLt
  rw [uI_eq]
  unfold on32
  generalize x.toNat = n at hx
  have hs := bs32 n hx
  obtain ⟨N, hN⟩ : ∃ N : Int, N = (n : Int) := ⟨_, rfl⟩
  obtain ⟨b3, h3⟩ : ∃ b : Int, b = ((n / 16777216 : Nat) : Int) := ⟨_, rfl⟩
  obtain ⟨b2, h2⟩ : ∃ b : Int, b = ((n / 65536 % 256 : Nat) : Int) := ⟨_, rfl⟩
  obtain ⟨b1, h1⟩ : ∃ b : Int, b = ((n / 256 % 256 : Nat) : Int) := ⟨_, rfl⟩
  obtain ⟨b0, h0⟩ : ∃ b : Int, b = ((n % 256 : Nat) : Int) := ⟨_, rfl⟩
  obtain ⟨q3, e3⟩ : ∃ q : Int, q = ((bsN 8 (n / 16777216) : Nat) : Int) := ⟨_, rfl⟩
  obtain ⟨q2, e2⟩ : ∃ q : Int, q = ((bsN 8 (n / 65536 % 256) : Nat) : Int) := ⟨_, rfl⟩
  obtain ⟨q1, e1⟩ : ∃ q : Int, q = ((bsN 8 (n / 256 % 256) : Nat) : Int) := ⟨_, rfl⟩
  obtain ⟨q0, e0⟩ : ∃ q : Int, q = ((bsN 8 (n % 256) : Nat) : Int) := ⟨_, rfl⟩
  have l3 := bsN_le 8 (n / 16777216)
  have l2 := bsN_le 8 (n / 65536 % 256)
  have l1 := bsN_le 8 (n / 256 % 256)
  have l0 := bsN_le 8 (n % 256)
  have f3 : N / 16777216 = b3 := by rw [h3, hN]; omega
  have f2 : bits .and .u32 (N / 65536) 255 = b2 := by rw [h2, hN, show (n : Int) / 65536 = ((n / 65536 : Nat) : Int) by omega, and255 _ (by omega)]
  have f1 : bits .and .u32 (N / 256) 255 = b1 := by rw [h1, hN, show (n : Int) / 256 = ((n / 256 : Nat) : Int) by omega, and255 _ (by omega)]
  have f0 : bits .and .u32 N 255 = b0 := by rw [h0, hN, and255 _ (by omega)]
  have p3 : Lib.pop8 b3 = q3 := by rw [h3, e3]; exact pop_at _ (by omega)
  have p2 : Lib.pop8 b2 = q2 := by rw [h2, e2]; exact pop_at _ (by omega)
  have p1 : Lib.pop8 b1 = q1 := by rw [h1, e1]; exact pop_at _ (by omega)
  have p0 : Lib.pop8 b0 = q0 := by rw [h0, e0]; exact pop_at _ (by omega)
  have HE : Hid (q3 + q2 + q1 + q0 = ((bsN 32 n : Nat) : Int)) := by show _ = _; omega
  have B3 : 0 ≤ b3 ∧ b3 ≤ 255 := by omega
  have B2 : 0 ≤ b2 ∧ b2 ≤ 255 := by omega
  have B1 : 0 ≤ b1 ∧ b1 ≤ 255 := by omega
  have B0 : 0 ≤ b0 ∧ b0 ≤ 255 := by omega
  have Q3 : 0 ≤ q3 ∧ q3 ≤ 8 := by omega
  have Q2 : 0 ≤ q2 ∧ q2 ≤ 8 := by omega
  have Q1 : 0 ≤ q1 ∧ q1 ≤ 8 := by omega
  have Q0 : 0 ≤ q0 ∧ q0 ≤ 8 := by omega
  rw [← hN, ← HE.out]
  clear hs hN h3 h2 h1 h0 e3 e2 e1 e0 l3 l2 l1 l0 hx HE
  obtain ⟨B3a, B3b⟩ := B3
  obtain ⟨B2a, B2b⟩ := B2
  obtain ⟨B1a, B1b⟩ := B1
  obtain ⟨B0a, B0b⟩ := B0
  obtain ⟨Q3a, Q3b⟩ := Q3
  obtain ⟨Q2a, Q2b⟩ := Q2
  obtain ⟨Q1a, Q1b⟩ := Q1
  obtain ⟨Q0a, Q0b⟩ := Q0
  go_enter Try.func145, Try.ntmps145
  go_wp2_with fail
  go_quiet (fail)
  have HB : Hid (Below w.heap.size w (w.drewN nq)) := below_drewN (Below.refl _ _) nq
  go_wp2
  go_ret
  exact ⟨rfl, HB.out⟩
theorem sumW_le (U : List (BitVec 32)) : ∀ a, sumW U a ≤ 32 * a
  | 0 => Nat.le_refl _
  | a + 1 => by
    have h1 := sumW_le U a
    have h2 := bsN_le 32 (U.getD a 0#32).toNat
    simp only [sumW]
    unfold on32
    omega
set_option maxRecDepth 100000 in
set_option maxHeartbeats 8000000 in
theorem ones_any (v : Value) (U : List (BitVec 32)) (w : World) (hv : RwX cU w v U) (hl : U.length ≤ 100000000000000) :
    Calls Try.prog 137 #[v] w fun e w' => e = .returned (.int .i64 ((sumW U U.length : Nat) : Int)) ∧ Below w.heap.size w w' := by
  obtain ⟨ao, cc, rfl, -, hv⟩ := hv
  have HV := hid13 hv
  have HL := hid13 hl
  have HB := hid13 (Below.refl w.heap.size w)
  clear hv hl
  go_enter Try.func137, Try.ntmps137
  go_wp2_with fail
  go_loopg [3, 5, 8] U.length (fun g n x i wr => ∃ k m : Nat, k + g = U.length ∧ i = .int .i64 (k : Int) ∧ n = .int .i64 (m : Int) ∧ Hid (m = sumW U k) ∧ Hid (Below w.heap.size w wr))
  case atStart => exact ⟨0, 0, by omega, rfl, rfl, rfl, HB⟩
  case round =>
    clear HB
    obtain ⟨k, m, hk, rfl, rfl, HM, HB⟩ := hrel
    by_cases hlt : k < U.length
    · have hli : (k : Int) < (U.length : Int) := by omega
      obtain ⟨bo, off, rfl, hc1⟩ : ∃ bo off, ao = some ⟨bo, off, none⟩ ∧ ∀ j x, U[j]? = some x → w.cell? ⟨bo, off + j, none⟩ = some (cU x) := by
        rcases HV.out with h | h
        · rw [h] at hlt; simp at hlt
        · exact h
      obtain ⟨x, hx⟩ : ∃ x, U[k]? = some x := ⟨U[k], by simp [hlt]⟩
      have r1 : wr.cell? ⟨bo, off + k, none⟩ = some (.int .u32 (uI x)) := keepc HB.out (hc1 k x hx)
      have mk : IntKind.i64.wrap ((k : Int) + 1) = (k : Int) + 1 := by have := HL.out; rw [IntKind.wrap_i64]; omega
      have hon := bsN_le 32 x.toNat
      have hsm := sumW_le U k
      obtain ⟨o, ho⟩ : ∃ o, o = on32 x := ⟨_, rfl⟩
      have HE : Hid (m + o = sumW U (k + 1)) := by
        show _ = _
        simp only [sumW]
        rw [List.getD_eq_getElem?_getD, hx, Option.getD_some, ← ho, HM.out]
      have ms : IntKind.i64.wrap ((m : Int) + (o : Int)) = (m : Int) + (o : Int) := by
        have h1 := HM.out
        have h2 := HL.out
        unfold on32 at ho
        rw [IntKind.wrap_i64]; omega
      have HK : Hid (k + gk = U.length ∧ k < U.length) := ⟨hk, hlt⟩
      have KO := fun W => onesCount_any x W
      rw [← ho] at KO
      clear hc1 hx hk hon hsm HM ho
      go_wp2_with (go_at_call 145; refine (KO _).mono ?_; rintro e w1 ⟨rfl, hb1⟩; have HB1 := hid13 (keepb hb1 HB.out); clear hb1)
      go_roundg (gk - 1)
      case measure => have := HK.out; omega
      case rel => exact ⟨k + 1, m + o, by have := HK.out; omega, rfl, rfl, HE, HB1⟩
    · have hli : ¬ (k : Int) < (U.length : Int) := by omega
      obtain rfl : k = U.length := by omega
      go_wp2_with fail
      go_ret
      exact ⟨by rw [← HM.out]; rfl, HB.out⟩
end Go.Proofs.Ytjgpbahglkaijaa
namespace Go.Proofs.Ytjgpbahglkaijaa
open Go.RowKit
set_option linter.unusedSimpArgs false
set_option linter.unusedVariables false

theorem own_typed18 {W : World} {base e size n : Nat} {v : Value} {xs : List Value} (h : W.ownsRow base e size v n xs) (z : Nat) (hz : v.ownBlock = some z) : ∃ cs, W.heap[z]? = some (.cells cs e) := by
  rcases h.2 with ⟨e0, _⟩ | ⟨g, cap, cur, e0, hb, hg, rest⟩
  · rw [e0] at hz; cases hz
  · rw [e0] at hz
    have q : g = z := by simpa [Value.ownBlock] using hz
    subst q
    exact ⟨_, hg⟩
theorem own_not18 {W : World} {base e size n : Nat} {v : Value} {xs : List Value} (h : W.ownsRow base e size v n xs) {z : Nat} {cs : Array Value} {T : TypeId} {fr : Nat × Nat} (hz : W.heap[z]? = some (.cells cs T fr)) (he : e ≠ T) : v.ownBlock ≠ some z := by
  intro q
  obtain ⟨cs', h2⟩ := own_typed18 h z q
  rw [h2] at hz
  injection hz with hz
  injection hz with _ h2 _
  exact he h2
theorem own_keep18 {W W' : World} {base e size n : Nat} {v : Value} {xs : List Value} (h : W.ownsRow base e size v n xs) (he : ∀ g, v.ownBlock = some g → W'.heap[g]? = W.heap[g]?) : W'.ownsRow base e size v n xs := by
  refine ⟨h.1, ?_⟩
  rcases h.2 with hn | ⟨g, cap, cur, rfl, hb, hg, rest⟩
  · exact .inl hn
  · exact .inr ⟨g, cap, cur, rfl, hb, by rw [he g rfl]; exact hg, rest⟩
theorem own_put3 {W : World} {base e size n B : Nat} {v : Value} {xs : List Value} (h : W.ownsRow base e size v n xs) (hv : v.ownBlock ≠ some B) (u0 u1 u2 : Value) : (((W.setCell ⟨B, 0, none⟩ u0).setCell ⟨B, 1, none⟩ u1).setCell ⟨B, 2, none⟩ u2).ownsRow base e size v n xs :=
  own_keep18 h (fun g e => (far_16 (fun q => hv (by rw [← q]; exact e))).trans ((far_16 (fun q => hv (by rw [← q]; exact e))).trans (far_16 (fun q => hv (by rw [← q]; exact e)))))
theorem gh_same18 {x y : Array Value} {d e f s : Nat} (h : ((x.toList.set e undef).set f undef).eraseIdx d = ((y.toList.set e undef).set f undef).eraseIdx d) (hs : s ≠ d) (ht : s ≠ e) (hu : s ≠ f) : x[s]? = y[s]? := by
  have := erase_get _ _ d s h hs
  rw [List.getElem?_set_ne (Ne.symm hu), List.getElem?_set_ne (Ne.symm hu), List.getElem?_set_ne (Ne.symm ht), List.getElem?_set_ne (Ne.symm ht)] at this
  simpa using this
end Go.Proofs.Ytjgpbahglkaijaa
