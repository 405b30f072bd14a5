/-
  Part 6 of the proof: 10 texts, one behind the other.
-/
import Derived.Test.YtjgpbahglkaijaaPart3
import Derived.Test.YtjgpbahglkaijaaPart5
import Derived.Test.YtjgpbahglkaijaaPart1
import Derived.Test.YtjgpbahglkaijaaPart2
import Derived.Laws.CopyRow
import Derived.Laws.MakeOwn
import Derived.Laws.OwnMore
import Derived.RangeFuncNested
namespace Go.Proofs.Ytjgpbahglkaijaa
open Go.RowKit Go.Shelf
set_option linter.unusedSimpArgs false
set_option linter.unusedVariables false
attribute [local go_sem] Oper.semAt_some

def KZ (Z : Nat → Prop) (W W' : World) : Prop := W.heap.size ≤ W'.heap.size ∧ ∀ (z : Nat) (o : Obj), W.heap[z]? = some o → Z z → W'.heap[z]? = some o
theorem KZ.trans {Z : Nat → Prop} {X Y V : World} (h : KZ Z X Y) (g : KZ Z Y V) : KZ Z X V := ⟨Nat.le_trans h.1 g.1, fun z o h1 h2 => g.2 z o (h.2 z o h1 h2) h2⟩
theorem kz_put {Z : Nat → Prop} {l : Nat} (hZ : ¬ Z l) (W : World) (o o' : Obj) (h : W.heap[l]? = some o) (hc : o.isCells = false) : KZ Z W (W.putObj l o') := ⟨by simp, fun z x hz hx => by
  have hne : z ≠ l := by rintro rfl; exact hZ hx
  rw [World.putObj_heap_other hne]; exact hz⟩
theorem kz_below {Z : Nat → Prop} {W W' : World} (h : Below W.heap.size W W') : KZ Z W W' := ⟨h.size, fun z o hz _ => by rw [h.block z (Array.getElem?_eq_some_iff.mp hz).1]; exact hz⟩
theorem kz_cell {Z : Nat → Prop} {W W' : World} (h : KZ Z W W') {b o : Nat} {v : Value} (hz : Z b) (hc : W.cell? ⟨b, o, none⟩ = some v) : W'.cell? ⟨b, o, none⟩ = some v := by
  have hb := cell_in hc
  have e : W'.heap[b]? = W.heap[b]? := by rw [h.2 b _ (Array.getElem?_eq_getElem hb) hz, Array.getElem?_eq_getElem hb]
  exact (World.cell?_of_block (a := ⟨b, o, none⟩) e).trans hc
structure WdM (Z : Nat → Prop) (A : Nat) (o k : Int) (ao : Option Addr) (c : Nat) (m : List (BitVec 32)) (W : World) : Prop where
  a : AtI W A o k (.slice ao m.length c)
  za : Z A
  r : RwX cU W (.slice ao m.length c) m
  zr : m ≠ [] → ∀ ad, ao = some ad → Z ad.block
theorem WdM.kz {Z : Nat → Prop} {A : Nat} {o k : Int} {ao : Option Addr} {c : Nat} {m : List (BitVec 32)} {W W' : World} (h : WdM Z A o k ao c m W) (g : KZ Z W W') : WdM Z A o k ao c m W' := by
  refine ⟨⟨kz_cell g h.za h.a.1, kz_cell g h.za h.a.2.1, kz_cell g h.za h.a.2.2⟩, h.za, ?_, h.zr⟩
  obtain ⟨ao', c', e, hc, hr⟩ := h.r
  injection e with e1 e2 e3
  subst e1 e3
  refine ⟨ao, c, rfl, hc, ?_⟩
  rcases hr with hr | ⟨b, off, e, hr⟩
  · exact .inl hr
  · exact .inr ⟨b, off, e, fun j x hj => kz_cell g (h.zr (by rintro rfl; cases hj) _ e) (hr j x hj)⟩
def fstW (o k : Nat) : BitVec 32 := BitVec.ofNat 32 (o * 16777216 + k)
theorem fst_uI (o k : Nat) (ho : o ≤ 4) (hk : k < 16777216) : uI (fstW o k) = ((o * 16777216 + k : Nat) : Int) := uI_of _ (by omega)
end Go.Proofs.Ytjgpbahglkaijaa
namespace Go.Proofs.Ytjgpbahglkaijaa
open Go.RowKit
set_option linter.unusedSimpArgs false
set_option linter.unusedVariables false

def mkZ (l : List Nat) (k : Nat) : List Nat := l ++ (List.replicate k 165 ++ List.replicate (9 - k) 0)
end Go.Proofs.Ytjgpbahglkaijaa
namespace Go.Proofs.Ytjgpbahglkaijaa
open Go.RowKit
set_option linter.unusedSimpArgs false
set_option linter.unusedVariables false

end Go.Proofs.Ytjgpbahglkaijaa
namespace Go.Proofs.Ytjgpbahglkaijaa
open Go.RowKit Go.Shelf
set_option linter.unusedSimpArgs false
set_option linter.unusedVariables false

theorem gh_quiet14 {P : Program} {o : Oper} {a' : Act} {w' : World} {K : Act → World → Prop} {Q' : Exit → Act → World → Prop} {v : Value} (hr : (execOp a'.eval o).run P w' = .ok (.value v) w') (hK : K (a'.put o.dst v) w') : o.wp P a' w' K Q' := by
  unfold Oper.wp Oper.upon
  rw [hr]
  exact hK
theorem gh_same14 {x y : Array Value} {d s : Nat} (h : x.toList.eraseIdx d = y.toList.eraseIdx d) (hs : s ≠ d) : x[s]? = y[s]? := by
  have := erase_get _ _ d s h hs
  simpa using this
theorem Slt.old14 {l : List Oper} {a A : Act} {lp : Array Bool} {a' : Act} (h : Slt l a A lp a') (s : Nat) (hs : ∀ o ∈ l, o.dst ≠ some s) : a'.tmps[s]? = a.tmps[s]? := h.oth s (fun k o hk _ => hs o (List.mem_of_getElem? hk))
structure EnW (w : World) (N G B : Nat) (W : World) (vc vb : Value) (R : List Nat) : Prop where
  b : Below w.heap.size w W
  c : W.cell? ⟨B, 0, none⟩ = some vc
  f : W.frozen? ⟨B, 0, none⟩ = false
  o : W.ownsRow w.heap.size 5 1 vb R.length (R.map cB)
  n : ∀ z, vb.ownBlock = some z → z = G ∨ N ≤ z
  s : N ≤ W.heap.size
section
variable {w W W' : World} {N G B : Nat} {vc vb vb' : Value} {R : List Nat}
theorem EnW.below (h : EnW w N G B W vc vb R) (hb : Below W.heap.size W W') : EnW w N G B W' vc vb R :=
  ⟨keepb hb h.b, keepc hb h.c, keepf hb h.c h.f, own_b13 hb h.o, h.n, Nat.le_trans h.s hb.size⟩
theorem own_cells14 {W : World} {base e size n : Nat} {v : Value} {xs : List Value} (h : W.ownsRow base e size v n xs) {z : Nat} (hz : v.ownBlock = some z) : ∃ cs T fr, W.heap[z]? = some (.cells cs T fr) := by
  rcases h.2 with ⟨rfl, -⟩ | ⟨g, cap, cur, rfl, h1, h2, -⟩
  · cases hz
  · simp only [Value.ownBlock, Option.some.injEq] at hz
    subst hz
    exact ⟨_, _, _, h2⟩
theorem EnW.kept (h : EnW w N G B W vc vb R) {row : Option Nat} (hg : W.grownBy W' row) (hN : w.heap.size ≤ N) (hr : ∀ r, row = some r → N ≤ r ∧ ∃ o : Obj, W.heap[r]? = some o ∧ o.isCells = false) : EnW w N G B W' vc vb R := by
  have hr' : ∀ r, row = some r → ∃ o : Obj, W.heap[r]? = some o ∧ o.isCells = false := fun r e => (hr r e).2
  have hB : row ≠ some B := by
    intro e
    obtain ⟨o, h1, h2⟩ := hr' B e
    have := h.c
    rw [World.cell?, h1] at this
    cases o with
    | cells cs T fr => cases h2
    | _ => simp at this
  have eB : W'.heap[B]? = W.heap[B]? := hg.block B (cell_in h.c) (fun e => hB e.symm)
  refine ⟨h.b.grown hg (Nat.le_trans hN h.s) (fun k e => by have := (hr k e).1; omega), (World.cell?_of_block (a := ⟨B, 0, none⟩) eB).trans h.c, (World.frozen?_of_block (a := ⟨B, 0, none⟩) eB).trans h.f, h.o.kept hg ?_, h.n, Nat.le_trans h.s hg.size⟩
  cases hv : vb.ownBlock with
  | none => exact .inl rfl
  | some z =>
    refine .inr fun e => ?_
    obtain ⟨o, h1, h2⟩ := hr' z e.symm
    obtain ⟨cs, T, fr, h3⟩ := own_cells14 h.o hv
    rw [h3] at h1
    cases h1
    cases h2
theorem EnW.app (h : EnW w N G B W vb vb R) (hBG : B ≠ G) (hBN : B < N) (hwB : w.heap.size ≤ N) {v' : Value} {X : List Nat} (ho : W'.ownsRow w.heap.size 5 1 v' (R ++ X).length ((R ++ X).map cB)) (hg : W.grownBy W' vb.ownBlock) (hat : ∀ z, v'.ownBlock = some z → vb.ownBlock = some z ∨ z = W.heap.size) : EnW w N G B W' vb v' (R ++ X) := by
  have hne : vb.ownBlock ≠ some B := by
    intro e
    rcases h.n B e with h1 | h1
    · exact hBG h1
    · omega
  have eB : W'.heap[B]? = W.heap[B]? := hg.block B (cell_in h.c) (fun e => hne e.symm)
  refine ⟨h.b.grown hg (Nat.le_trans hwB h.s) (fun k e => (h.o.lt k e).1), (World.cell?_of_block (a := ⟨B, 0, none⟩) eB).trans h.c, (World.frozen?_of_block (a := ⟨B, 0, none⟩) eB).trans h.f, ho, ?_, Nat.le_trans h.s hg.size⟩
  intro z hz
  rcases hat z hz with h1 | h1
  · exact h.n z h1
  · exact .inr (by rw [h1]; exact h.s)
theorem EnW.set (h : EnW w N G B W vc vb R) (hBG : B ≠ G) (hBN : B < N) (hwB : w.heap.size ≤ B) : EnW w N G B (W.setCell ⟨B, 0, none⟩ vb) vb vb R := by
  have hne : vb.ownBlock ≠ some B := by
    intro e
    rcases h.n B e with h1 | h1
    · exact hBG h1
    · omega
  have hc := h.c
  have hf := h.f
  refine ⟨h.b.setCell (p := ⟨B, 0, none⟩) hwB _, by simp [go_sem, hc], by simp [go_sem, hf], ?_, h.n, by simp [World.setCell]; exact h.s⟩
  refine ⟨h.o.1, ?_⟩
  rcases h.o.2 with h1 | ⟨g, cap, cur, e, h1, h2, h3⟩
  · exact .inl h1
  · refine .inr ⟨g, cap, cur, e, h1, ?_, h3⟩
    have hgB : ¬ g = B := by
      rintro rfl
      exact hne (by rw [e]; rfl)
    exact (Below.heap_setCell W ⟨B, 0, none⟩ vb g hgB).trans h2
end
theorem rangeXA {P : Program} {α : Type} {g : Operand} {ps : Array Tmp} {assign body : Code} {Q : Exit → Act → World → Prop} {a : Act} {w : World} (n : Nat) (h1 : 1 ≤ n) {gf : Nat} {lb : Array Value} (hg : a.eval g = .func (.func gf) #[] lb) (eg : ∀ args w, (callFunc gf args).run P w = .ok (.enter gf args) w)
    {encs : α → Array Value} {Kp : World → World → Prop} {S Sp : List α → Prop} {Bd : Nat} {w0 : World} (hseq : SeqX (n - 1) P gf lb encs Kp S Sp Bd w0) (hBd : Bd ≤ w.heap.size + 2)
    (hKr : ∀ A : World, Kp A A) (hKt : ∀ {A B C : World}, Kp A B → Kp B C → Kp A C) (hKb : ∀ (W : World) (o o' : Obj), W.heap[w.heap.size + 1]? = some o → o.isCells = false → Kp W (W.putObj (w.heap.size + 1) o')) (hb0 : Below w0.heap.size w0 w) (hps : ∀ x, (encs x).size = ps.size)
    (I : List α → World → Prop) (Ix : Code → List α → World → Prop) (hI : OwnFrom w.heap.size I) (hIx : ∀ c, OwnFrom w.heap.size (Ix c)) (h0 : I [] w) (AX : α → Act)
    (hassign : ∀ (l : Nat) (x : α) (W : World) (K : Act → World → Prop), K (AX x) W →
      assign.wpIn (Fence.wide.inRound l) (n - 1 - 1) P (Exit.then K (fun _ _ _ => False)) { tmps := (ps.zip (encs x)).foldl (fun t (p, v) => t.setIfInBounds p v) a.tmps, defers := [] } W)
    (hbody : ∀ (l : Nat) (pre : List α) (x : α) (W : World), w.heap.size ≤ l → (∃ r, W.heap[l]? = some (.loop r)) → I pre W → Sp (pre ++ [x]) → body.wpIn (Fence.wide.inRound l) (n - 1 - 1) P (postX w.heap.size Kp I Ix (pre ++ [x]) W) (AX x) W)
    (hdone : ∀ (D : Nat) (xs : List α) (W : World), w.heap.size ≤ D → S xs → I xs W → W.heap[D]? = some (.deferred (some [])) → Q .normal { a with defers := { target := .collected D, args := #[] } :: a.defers } W)
    (hstop : ∀ (D : Nat) (c : Code) (pre : List α) (W : World), w.heap.size ≤ D → Sp pre → Ix c pre W → W.heap[D]? = some (.deferred (some [])) → c.wpIn Fence.wide n P Q { a with defers := { target := .collected D, args := #[] } :: a.defers } W) :
    (Code.rangeFunc g ps assign body).wpIn Fence.wide n P Q a w :=
  rangeX n h1 hg eg hseq hBd hKt hKb hb0 hps I Ix hI hIx h0 (fun y a' _ => a' = AX y) (fun y a' s A B row hs hg hr => hs)
    (fun l pre x W K hi hK => hassign l x W K (hK (AX x) W (KeepsFrom.refl _ _) (hKr W) hi rfl))
    (fun l pre x a' W h1 h2 h3 h4 h5 => by rw [h4]; exact hbody l pre x W h1 h2 h3 h5) hdone hstop
theorem wl_nil14 {P : Program} {ops : Array Oper} {Q : Exit → Act → World → Prop} {a : Act} {w : World} (h : wpList P ops Q [] a w) : Q .normal a w := h
theorem KZ.refl (Z : Nat → Prop) (W : World) : KZ Z W W := ⟨Nat.le_refl _, fun _ _ h _ => h⟩
end Go.Proofs.Ytjgpbahglkaijaa
namespace Go.Proofs.Ytjgpbahglkaijaa
open Go.RowKit Go.Shelf
set_option linter.unusedSimpArgs false
set_option linter.unusedVariables false
attribute [local go_sem] Oper.semAt_some

def wdB (o k : Nat) (m : List (BitVec 32)) : List Nat := (fstW o k :: m).flatMap fun x => by4 x.toNat
theorem fm_len : ∀ (m : List (BitVec 32)), (m.flatMap fun x => by4 x.toNat).length = 4 * m.length
  | [] => rfl
  | x :: m => by rw [List.flatMap_cons, List.length_append, fm_len m, List.length_cons]; show 4 + _ = _; omega
theorem wdB_len (o k : Nat) (m : List (BitVec 32)) : (wdB o k m).length = 4 * (1 + m.length) := by
  unfold wdB; rw [fm_len, List.length_cons]; omega
theorem chk_zero {o n : Int} {m : List (BitVec 32)} (h : chkE o n m = 0) : (1 ≤ o ∧ o ≤ 4) ∧ (0 ≤ n ∧ n ≤ 16777215) ∧ m.length ≤ 524288 := by
  unfold chkE at h
  by_cases h1 : isOp o = true
  · rw [if_pos h1] at h
    by_cases h2 : (decide (kLo o ≤ n) && decide (n ≤ kHi o)) = true
    · rw [if_pos h2] at h
      simp only [Bool.and_eq_true, decide_eq_true_eq] at h2
      have ho : 1 ≤ o ∧ o ≤ 4 := by unfold isOp at h1; simpa using h1
      have hn0 : 0 ≤ n := by have := h2.1; unfold kLo at this; split at this <;> omega
      have hn1 : n ≤ 16777215 := by have := h2.2; unfold kHi at this; split at this; omega; split at this <;> omega
      refine ⟨ho, ⟨hn0, hn1⟩, ?_⟩
      by_cases h3 : o = 2
      · rw [if_pos h3] at h
        have hk : n ≤ 24 := by have := h2.2; rw [h3] at this; exact this
        by_cases h4 : isMapB m n.toNat = true
        · unfold isMapB at h4
          simp only [Bool.and_eq_true, decide_eq_true_eq] at h4
          rw [h4.1]
          exact mwN_hi _ (by omega)
        · rw [if_neg h4] at h; omega
      · rw [if_neg h3] at h
        by_cases h4 : m = []
        · rw [h4]; simp
        · rw [if_neg h4] at h; omega
    · rw [if_neg h2] at h; omega
  · rw [if_neg h1] at h; omega
theorem AtI.grown {W W' : World} {B : Nat} {o n : Int} {v : Value} {row : Option Nat} (h : AtI W B o n v) (hg : W.grownBy W' row) (hne : some B ≠ row) : AtI W' B o n v := ⟨hg.cell h.1 hne, hg.cell h.2.1 hne, hg.cell h.2.2 hne⟩
end Go.Proofs.Ytjgpbahglkaijaa
namespace Go.Proofs.Ytjgpbahglkaijaa
set_option linter.unusedSimpArgs false
set_option linter.unusedVariables false

theorem numN_by4 (x : BitVec 32) : numN13 (by4 x.toNat) = x.toNat := num4 _ x.isLt
theorem wdV_zero (x : BitVec 32) (z : List Nat) : wdV (by4 x.toNat ++ z) 0 = x := by
  unfold wdV
  have e : (((by4 x.toNat ++ z).drop (4 * 0)).take 4) = by4 x.toNat := by
    rw [Nat.mul_zero, List.drop_zero]
    exact List.take_left' rfl
  rw [e, numN_by4]
  simp
theorem wdV_app (l X : List Nat) (a j : Nat) (h : l.length = 4 * a) : wdV (l ++ X) (a + j) = wdV X j := by
  unfold wdV
  rw [Nat.mul_add, ← h, ← List.drop_drop, List.drop_left]
theorem wdV_succ (x : BitVec 32) (z : List Nat) (j : Nat) : wdV (by4 x.toNat ++ z) (j + 1) = wdV z j := by
  rw [Nat.add_comm j 1]
  exact wdV_app (by4 x.toNat) z 1 j rfl
theorem wdV_fm : ∀ (ws : List (BitVec 32)) (z : List Nat) (j : Nat) (x : BitVec 32), ws[j]? = some x → wdV ((ws.flatMap fun x => by4 x.toNat) ++ z) j = x
  | [], z, j, x, h => by simp at h
  | y :: ws, z, 0, x, h => by
    simp at h
    subst h
    rw [List.flatMap_cons, List.append_assoc]
    exact wdV_zero y _
  | y :: ws, z, j + 1, x, h => by
    rw [List.flatMap_cons, List.append_assoc, wdV_succ]
    exact wdV_fm ws z j x (by simpa using h)
theorem kHi_Rm (o : Int) : kHi o ≤ kRm o := by
  unfold kHi kRm
  split
  · omega
  · split <;> omega
theorem dec_enc (l z : List Nat) (a : Nat) (o n : Int) (m : List (BitVec 32)) (hl : l.length = 4 * a) (h : chkE o n m = 0) :
    dcE (l ++ wdB o.toNat n.toNat m ++ z) (a : Int) = 0 ∧ dcI (l ++ wdB o.toNat n.toNat m ++ z) (a : Int) = ⟨o, n, m⟩ ∧ dcZ (l ++ wdB o.toNat n.toNat m ++ z) (a : Int) = 1 + (m.length : Int) := by
  obtain ⟨ho, hn, hm⟩ := chk_zero h
  obtain ⟨O, rfl⟩ : ∃ O : Nat, o = (O : Int) := ⟨o.toNat, by omega⟩
  obtain ⟨N, rfl⟩ : ∃ N : Nat, n = (N : Int) := ⟨n.toNat, by omega⟩
  rw [Int.toNat_natCast, Int.toNat_natCast]
  obtain ⟨L, hL⟩ : ∃ L, L = l ++ wdB O N m ++ z := ⟨_, rfl⟩
  rw [← hL]
  have hlen : L.length = 4 * a + 4 * (1 + m.length) + z.length := by rw [hL, List.length_append, List.length_append, hl, wdB_len]
  have hw : ∀ j x, (fstW O N :: m)[j]? = some x → wdV L (a + j) = x := by
    intro j x hj
    rw [hL, List.append_assoc, wdV_app l _ a j hl]
    exact wdV_fm _ z j x hj
  have h0 : wdV L a = fstW O N := hw 0 _ rfl
  have hu : uI (wdV L a) = ((O * 16777216 + N : Nat) : Int) := by rw [h0]; exact fst_uI O N (by omega) (by omega)
  have hO : insO L a = (O : Int) := by unfold insO; rw [hu]; omega
  have hN : insN L a = (N : Int) := by unfold insN; rw [hu]; omega
  have hs : stB L.length (a : Int) 1 = true := by unfold stB; simp; omega
  have hop : isOp (O : Int) = true := by unfold isOp; simp; omega
  have htk : tkB (O : Int) (N : Int) = true := by
    unfold tkB
    unfold chkE at h
    rw [if_pos hop] at h
    by_cases c : (decide (kLo (O : Int) ≤ (N : Int)) && decide ((N : Int) ≤ kHi (O : Int))) = true
    · exact c
    · rw [if_neg c] at h; omega
  have hrm : (N : Int) ≤ kRm (O : Int) := by
    unfold tkB at htk
    simp only [Bool.and_eq_true, decide_eq_true_eq] at htk
    exact Int.le_trans htk.2 (kHi_Rm _)
  have hr : rdP L a = (m, 0) := by
    unfold rdP
    rw [hO, hN, if_pos hop, if_pos hrm, if_pos htk, Int.toNat_natCast]
    unfold chkE at h
    have htk' := htk
    unfold tkB at htk'
    rw [if_pos hop, if_pos htk'] at h
    by_cases c : (O : Int) = 2
    · rw [if_pos c] at h ⊢
      rw [Int.toNat_natCast] at h
      have hmp : isMapB m N = true := by
        by_cases c2 : isMapB m N = true
        · exact c2
        · rw [if_neg c2] at h; omega
      have hml : m.length = mwN N := by
        unfold isMapB at hmp
        simp only [Bool.and_eq_true, decide_eq_true_eq] at hmp
        exact hmp.1
      have hmL : mpL L (a + 1) (mwN N) = m := by
        apply List.ext_getElem?
        intro j
        by_cases hj : j < m.length
        · unfold mpL
          rw [List.getElem?_map, List.getElem?_range (by omega), List.getElem?_eq_getElem hj]
          simp only [Option.map_some, Option.some.injEq]
          rw [Nat.add_assoc, Nat.add_comm 1 j]
          exact hw (j + 1) _ (by simp [hj])
        · rw [List.getElem?_eq_none (by rw [mpL_len]; omega), List.getElem?_eq_none (by omega)]
      unfold rmP
      rw [if_pos (by omega), hmL, if_pos hmp]
    · rw [if_neg c] at h ⊢
      by_cases c2 : m = []
      · rw [c2]
      · rw [if_neg c2] at h; omega
  have hE : dcE L (a : Int) = 0 := by unfold dcE; rw [if_pos hs, Int.toNat_natCast, hr]
  have hI : dcI L (a : Int) = ⟨(O : Int), (N : Int), m⟩ := by unfold dcI; rw [if_pos hE, Int.toNat_natCast, hO, hN, hr]
  exact ⟨hE, hI, by unfold dcZ; rw [if_pos hE, hI]⟩
theorem by4_num (a b c d : Nat) (ha : a < 256) (hb : b < 256) (hc : c < 256) (hd : d < 256) : by4 (numN13 [a, b, c, d]) = [a, b, c, d] := by
  have e : numN13 [a, b, c, d] = ((((0 * 256 + a) * 256 + b) * 256 + c) * 256 + d) := rfl
  rw [e]
  unfold by4
  congr 1
  · omega
  · congr 1
    · omega
    · congr 1
      · omega
      · congr 1; omega
theorem list4 (l : List Nat) (h : l.length = 4) : ∃ a b c d, l = [a, b, c, d] := by
  match l, h with
  | [a, b, c, d], _ => exact ⟨a, b, c, d, rfl⟩
theorem by4_wd (l : List Nat) (k : Nat) (hx : ∀ b ∈ l, b < 256) (hk : k < l.length / 4) : by4 (wdV l k).toNat = (l.drop (4 * k)).take 4 := by
  have h1 : (wdV l k).toNat = numN13 ((l.drop (4 * k)).take 4) := by
    unfold wdV
    rw [BitVec.toNat_ofNat]
    exact Nat.mod_eq_of_lt (wd_lt l k hx)
  rw [h1]
  obtain ⟨a, b, c, d, e⟩ := list4 ((l.drop (4 * k)).take 4) (by rw [List.length_take, List.length_drop]; omega)
  have hb : ∀ y ∈ (l.drop (4 * k)).take 4, y < 256 := fun y hy => hx y (List.mem_of_mem_drop (List.mem_of_mem_take hy))
  rw [e] at hb ⊢
  exact by4_num a b c d (hb a (by simp)) (hb b (by simp)) (hb c (by simp)) (hb d (by simp))
theorem fm_mp (l : List Nat) (hx : ∀ b ∈ l, b < 256) : ∀ (c k : Nat), k + c ≤ l.length / 4 → ((mpL l k c).flatMap fun x => by4 x.toNat) = (l.drop (4 * k)).take (4 * c)
  | 0, k, h => by simp [mpL]
  | c + 1, k, h => by
    rw [mpL_succ, List.flatMap_append, fm_mp l hx c k (by omega)]
    show _ ++ (by4 (wdV l (k + c)).toNat ++ []) = _
    rw [List.append_nil, by4_wd l (k + c) hx (by omega), Nat.mul_succ, List.take_add, List.drop_drop, Nat.mul_add]
theorem mpL_cons (l : List Nat) (k c : Nat) : wdV l k :: mpL l (k + 1) c = mpL l k (c + 1) := by
  unfold mpL
  rw [List.range_succ_eq_map]
  simp only [List.map_cons, List.map_map, Nat.add_zero, List.cons.injEq, true_and]
  apply List.map_congr_left
  intro j _
  simp only [Function.comp]
  congr 1
  omega
theorem dcE_stand {l : List Nat} {a : Int} (h : dcE l a = 0) : 0 ≤ a ∧ a.toNat < l.length / 4 ∧ (rdP l a.toNat).2 = 0 := by
  unfold dcE at h
  by_cases c : stB l.length a 1 = true
  · rw [if_pos c] at h
    unfold stB at c
    simp at c
    exact ⟨c.1, by omega, h⟩
  · rw [if_neg c] at h; omega
theorem enc_dec (l : List Nat) (a : Int) (hx : ∀ b ∈ l, b < 256) (h : dcE l a = 0) :
    chkE (dcI l a).op (dcI l a).n (dcI l a).m = 0 ∧ wdB (dcI l a).op.toNat (dcI l a).n.toNat (dcI l a).m = (l.drop (4 * a.toNat)).take (4 * (1 + (dcI l a).m.length)) ∧ a.toNat + 1 + (dcI l a).m.length ≤ l.length / 4 := by
  obtain ⟨ha, hk, hr⟩ := dcE_stand h
  have hI : dcI l a = ⟨insO l a.toNat, insN l a.toNat, (rdP l a.toNat).1⟩ := by unfold dcI; rw [if_pos h]
  rw [hI]
  simp only
  obtain ⟨k, hkd⟩ : ∃ k, k = a.toNat := ⟨_, rfl⟩
  rw [← hkd] at hk hr ⊢
  have hX0 := uI_lo (wdV l k)
  have hX1 := uI_up (wdV l k)
  obtain ⟨O, hO⟩ : ∃ O : Nat, (O : Int) = insO l k := ⟨(insO l k).toNat, by unfold insO; omega⟩
  obtain ⟨N, hN⟩ : ∃ N : Nat, (N : Int) = insN l k := ⟨(insN l k).toNat, by unfold insN; omega⟩
  have hf : fstW O N = wdV l k := by
    apply uI_inj
    have e : ((O * 16777216 + N : Nat) : Int) = uI (wdV l k) := by
      have h1 : (O : Int) = uI (wdV l k) / 16777216 := hO
      have h2 : (N : Int) = uI (wdV l k) % 16777216 := hN
      omega
    rw [← e]
    exact uI_of _ (by omega)
  have key : ∀ m, m = (rdP l k).1 → chkE (O : Int) (N : Int) m = 0 ∧ m = mpL l (k + 1) m.length ∧ k + 1 + m.length ≤ l.length / 4 := by
    intro m hm
    unfold rdP at hr hm
    rw [← hO, ← hN] at hr hm
    by_cases c1 : isOp (O : Int) = true
    · rw [if_pos c1] at hr hm
      by_cases c2 : (N : Int) ≤ kRm (O : Int)
      · rw [if_pos c2] at hr hm
        by_cases c3 : tkB (O : Int) (N : Int) = true
        · rw [if_pos c3] at hr hm
          have c3' := c3
          unfold tkB at c3'
          unfold chkE
          rw [if_pos c1, if_pos c3']
          by_cases c4 : (O : Int) = 2
          · rw [if_pos c4] at hr hm ⊢
            unfold rmP at hr hm
            rw [Int.toNat_natCast] at hr hm ⊢
            by_cases c5 : k + 1 + mwN N ≤ l.length / 4
            · rw [if_pos c5] at hr hm
              by_cases c6 : isMapB (mpL l (k + 1) (mwN N)) N = true
              · rw [if_pos c6] at hr hm
                simp only at hm
                have hml : m.length = mwN N := by rw [hm, mpL_len]
                refine ⟨by rw [hm, if_pos c6], by rw [hml]; exact hm, by omega⟩
              · rw [if_neg c6] at hr; simp at hr
            · rw [if_neg c5] at hr; simp at hr
          · rw [if_neg c4] at hr hm ⊢
            simp only at hm
            subst hm
            exact ⟨by rw [if_pos rfl], by simp [mpL], by simp; omega⟩
        · rw [if_neg c3] at hr; simp at hr
      · rw [if_neg c2] at hr; simp at hr
    · rw [if_neg c1] at hr; simp at hr
  obtain ⟨k1, k2, k3⟩ := key _ rfl
  rw [← hO, ← hN, Int.toNat_natCast, Int.toNat_natCast]
  refine ⟨k1, ?_, k3⟩
  unfold wdB
  obtain ⟨c, hc⟩ : ∃ c, c = (rdP l k).1.length := ⟨_, rfl⟩
  rw [← hc] at k2 k3 ⊢
  rw [k2, hf, mpL_cons, fm_mp l hx (c + 1) k (by omega), Nat.add_comm c 1]
end Go.Proofs.Ytjgpbahglkaijaa
namespace Go.Proofs.Ytjgpbahglkaijaa
open Go.RowKit
set_option linter.unusedSimpArgs false
set_option linter.unusedVariables false

theorem top_ones18 (m : List (BitVec 32)) (P : Nat) (h : topB (m.headD 0#32) P = true) (hl : 1 ≤ m.length) : 1 ≤ sumW m m.length := by
  rw [← cnt_words]
  refine Nat.le_trans ?_ (cnt_mono m 1 (32 * m.length) (by omega))
  unfold topB at h
  simp only [Bool.and_eq_true] at h
  have h1 : plc m 0 = true := by
    unfold plc bt
    cases m with
    | nil => simp at hl
    | cons x t => exact h.1
  show 1 ≤ cnt m (0 + 1)
  unfold cnt
  rw [h1]
  simp
structure DcF (l : List Nat) (a : Int) : Prop where
  a0 : 0 ≤ a
  a1 : a < ((l.length / 4 : Nat) : Int)
  op : (dcI l a).op = 1 ∨ (dcI l a).op = 2 ∨ (dcI l a).op = 3 ∨ (dcI l a).op = 4
  n0 : 0 ≤ (dcI l a).n
  n1 : (dcI l a).n ≤ 16777215
  m0 : (dcI l a).op ≠ 2 → (dcI l a).m = []
  m2 : (dcI l a).op = 2 → a + 1 + ((dcI l a).m.length : Int) ≤ ((l.length / 4 : Nat) : Int) ∧ 1 ≤ (dcI l a).m.length ∧ 1 ≤ sumW (dcI l a).m (dcI l a).m.length
  nx : (dcI l a).op ≠ 3 → (dcI l a).op ≠ 4 → 1 ≤ (dcI l a).n ∧ (dcI l a).n ≤ 24
theorem dcF {l : List Nat} {a : Int} (h : dcE l a = 0) : DcF l a := by
  obtain ⟨h1, h2, h3⟩ := dcE_stand h
  obtain ⟨k, rfl⟩ : ∃ k : Nat, a = (k : Int) := ⟨a.toNat, by omega⟩
  rw [Int.toNat_natCast] at h2 h3
  have hI : dcI l (k : Int) = ⟨insO l k, insN l k, (rdP l k).1⟩ := by unfold dcI; rw [if_pos h, Int.toNat_natCast]
  rw [show rdP l k = rdP l k from rfl] at h3
  unfold rdP at h3
  split at h3
  case isFalse => cases h3
  rename_i hop
  split at h3
  case isFalse => cases h3
  rename_i hrm
  split at h3
  case isFalse => cases h3
  rename_i htk
  have hr : rdP l k = if insO l k = 2 then rmP l (k + 1) (insN l k).toNat else ([], 0) := by
    unfold rdP; rw [if_pos hop, if_pos hrm, if_pos htk]
  have hc := isOp_cases hop
  have htk' := htk
  unfold tkB at htk'
  simp only [Bool.and_eq_true, decide_eq_true_eq] at htk'
  have hb : 0 ≤ insN l k ∧ insN l k ≤ 16777215 := by
    have e1 := htk'.1
    have e2 := htk'.2
    unfold kLo at e1
    unfold kHi at e2
    constructor
    · split at e1 <;> omega
    · split at e2
      · omega
      · split at e2 <;> omega
  refine ⟨by omega, by omega, by rw [hI]; exact hc, by rw [hI]; exact hb.1, by rw [hI]; exact hb.2, fun q => ?_, fun q => ?_, fun q1 q2 => ?_⟩
  · rw [hI] at q ⊢
    dsimp only at q ⊢
    rw [hr, if_neg q]
  · rw [hI] at q ⊢
    dsimp only at q ⊢
    rw [if_pos q] at h3 hr
    rw [hr]
    unfold rmP at h3 ⊢
    split at h3
    case isFalse => cases h3
    rename_i hs
    split at h3
    case isFalse => cases h3
    rename_i ht
    rw [if_pos hs, if_pos ht]
    dsimp only
    rw [mpL_len]
    have hl := mwN_lo (insN l k).toNat
    refine ⟨?_, hl, ?_⟩
    · push_cast
      omega
    · have e := ht
      unfold isMapB at e
      simp only [Bool.and_eq_true] at e
      have := top_ones18 _ _ e.2 (by rw [mpL_len]; exact hl)
      rwa [mpL_len] at this
  · rw [hI] at q1 q2 ⊢
    dsimp only at q1 q2 ⊢
    have e1 := htk'.1
    have e2 := htk'.2
    unfold kLo at e1
    unfold kHi at e2
    rw [if_neg q2] at e1
    rw [if_neg q1, if_neg q2] at e2
    exact ⟨e1, e2⟩
abbrev Out18 := List PB × Int × Int
def wds (l : List Nat) : Int := ((l.length / 4 : Nat) : Int)
noncomputable def bsF (l : List Nat) (rec : Int → List PB → Out18) (P : List PB) (a t : Int) (m : List (BitVec 32)) (en : Int) (r : List (Int × Int) × Int × Int) : Out18 :=
  if r.2.1 ≠ 0 then ([], r.2.2, r.2.1) else if en + (sumW m m.length : Nat) < wds l then rec (en + (sumW m m.length : Nat)) (P ++ [⟨a, t, m, prE en r.1⟩]) else (P ++ [⟨a, t, m, prE en r.1⟩], 0, 0)
noncomputable def bsG (l : List Nat) : Nat → Int → List PB → Out18
  | 0, a, P => ([], 0, 0)
  | f + 1, a, P => if dcE l a ≠ 0 then ([], a, dcE l a) else if (dcI l a).op ≠ 1 then ([], a, 24) else
    if dcE l (a + 1) ≠ 0 then ([], a + 1, dcE l (a + 1)) else if (dcI l (a + 1)).op ≠ 2 then ([], a + 1, 24) else
    if (dcI l (a + 1)).n ≠ (dcI l a).n then ([], a + 1, 25) else
    bsF l (bsG l f) P a (dcI l a).n (dcI l (a + 1)).m (a + 1 + dcZ l (a + 1)) (enG l (a + 1 + dcZ l (a + 1)) (sumW (dcI l (a + 1)).m (dcI l (a + 1)).m.length) 0 [])
theorem bsG_succ (l : List Nat) (f : Nat) (a : Int) (P : List PB) : bsG l (f + 1) a P = if dcE l a ≠ 0 then ([], a, dcE l a) else if (dcI l a).op ≠ 1 then ([], a, 24) else
    if dcE l (a + 1) ≠ 0 then ([], a + 1, dcE l (a + 1)) else if (dcI l (a + 1)).op ≠ 2 then ([], a + 1, 24) else
    if (dcI l (a + 1)).n ≠ (dcI l a).n then ([], a + 1, 25) else
    bsF l (bsG l f) P a (dcI l a).n (dcI l (a + 1)).m (a + 1 + dcZ l (a + 1)) (enG l (a + 1 + dcZ l (a + 1)) (sumW (dcI l (a + 1)).m (dcI l (a + 1)).m.length) 0 []) := rfl
end Go.Proofs.Ytjgpbahglkaijaa
namespace Go.Proofs.Ytjgpbahglkaijaa
open Go.RowKit Go.Shelf
set_option linter.unusedSimpArgs false
set_option linter.unusedVariables false

theorem at_16 {W : World} {z : Nat} {cs : Array Value} {T : TypeId} (hz : W.heap[z]? = some (.cells cs T)) (j : Nat) (u : Value) (hj : cs[j]? = some u) : W.cell? ⟨z, j, none⟩ = some u := by
  simp [World.cell?, hz, hj]
theorem fr_16 {W : World} {z j : Nat} {cs : Array Value} {T : TypeId} (h : W.heap[z]? = some (.cells cs T)) : W.frozen? ⟨z, j, none⟩ = false := by simp [World.frozen?, h]
theorem set_16 {W : World} {P o : Nat} {cs : Array Value} {T : TypeId} (h : W.heap[P]? = some (.cells cs T)) (v : Value) : (W.setCell ⟨P, o, none⟩ v).heap[P]? = some (.cells (cs.setIfInBounds o v) T) := by
  simp [World.setCell, Array.getElem?_modify, h]
theorem lt_16 {w : World} {z : Nat} {o : Obj} (hz : w.heap[z]? = some o) : z < w.heap.size := (Array.getElem?_eq_some_iff.1 hz).1
theorem far_16 {W : World} {z P o : Nat} {v : Value} (h : z ≠ P) : (W.setCell ⟨P, o, none⟩ v).heap[z]? = W.heap[z]? := Below.heap_setCell W ⟨P, o, none⟩ v z h
theorem new_16 (W : World) (o : Obj) : (W.alloc o).heap[W.heap.size]? = some o := World.alloc_heap_new W o
theorem old_16 {W : World} (o : Obj) {z : Nat} {x : Obj} (h : W.heap[z]? = some x) : (W.alloc o).heap[z]? = some x := (Below.heap_alloc W o z (lt_16 h)).trans h
theorem blk_16 {W W' : World} {row : Option Nat} (hg : W.grownBy W' row) (hr : ∀ r, row = some r → ∃ o : Obj, W.heap[r]? = some o ∧ o.isCells = false) {z : Nat} {cs : Array Value} {T : TypeId} {fr : Nat × Nat} (h : W.heap[z]? = some (.cells cs T fr)) : W'.heap[z]? = some (.cells cs T fr) := by
  refine (hg.block z (lt_16 h) (fun e => ?_)).trans h
  obtain ⟨o, h1, h2⟩ := hr z e.symm
  rw [h] at h1
  cases h1
  cases h2
def KX (X : Nat → Prop) (V U : World) : Prop := V.heap.size ≤ U.heap.size ∧ ∀ z, z < V.heap.size → ¬ X z → U.heap[z]? = V.heap[z]?
theorem KX.refl (X : Nat → Prop) (V : World) : KX X V V := ⟨Nat.le_refl _, fun _ _ _ => rfl⟩
theorem KX.trans {X : Nat → Prop} {A B C : World} (h : KX X A B) (g : KX X B C) : KX X A C := ⟨Nat.le_trans h.1 g.1, fun z h1 h2 => (g.2 z (Nat.lt_of_lt_of_le h1 h.1) h2).trans (h.2 z h1 h2)⟩
theorem KX.below {X : Nat → Prop} {V U U' : World} (h : KX X V U) (hb : Below U.heap.size U U') : KX X V U' := ⟨Nat.le_trans h.1 hb.size, fun z h1 h2 => (hb.block z (Nat.lt_of_lt_of_le h1 h.1)).trans (h.2 z h1 h2)⟩
theorem KX.set {X : Nat → Prop} {V U : World} (h : KX X V U) (b o : Nat) (u : Value) (hb : X b ∨ V.heap.size ≤ b) : KX X V (U.setCell ⟨b, o, none⟩ u) := ⟨by simpa using h.1, fun z h1 h2 => (far_16 (by rintro rfl; rcases hb with q | q; exact h2 q; omega)).trans (h.2 z h1 h2)⟩
theorem KX.own {β : Type} {X : Nat → Prop} {B : Nat} {V : World} (hV : V.heap.size ≤ B) : OwnFrom B (fun (_ : β) U => KX X V U) := fun s A A' row hs hg hr => ⟨Nat.le_trans hs.1 hg.size, fun z h1 h2 => (hg.block z (Nat.lt_of_lt_of_le h1 hs.1) (fun e => by have := (hr z e.symm).1; omega)).trans (hs.2 z h1 h2)⟩
theorem KX.kz {X Z : Nat → Prop} {V U : World} (h : KX X V U) (hZ : ∀ z, Z z → ¬ X z) : KZ Z V U := ⟨h.1, fun z o h1 h2 => by
  rw [h.2 z (lt_16 h1) (hZ z h2)]
  exact h1⟩
theorem wl_nil16 {P : Program} {ops : Array Oper} {Q : Exit → Act → World → Prop} {a : Act} {w : World} (h : wpList P ops Q [] a w) : Q .normal a w := h
def MkS (B : Nat) (ls : List Nat) (W : World) : Prop := ls.Nodup ∧ ∀ D ∈ ls, B ≤ D ∧ W.heap[D]? = some (.deferred (some []))
theorem MkS.nil (B : Nat) (W : World) : MkS B [] W := ⟨List.nodup_nil, fun D hD => by cases hD⟩
theorem MkS.cons {B : Nat} {ls : List Nat} {V U : World} {X : Nat → Prop} {D : Nat} (h : MkS B ls V) (hk : KX X V U) (hX : ∀ z, X z → z < B) (h1 : V.heap.size ≤ D) (hB : B ≤ V.heap.size) (h2 : U.heap[D]? = some (.deferred (some []))) : MkS B (D :: ls) U := by
  have hlt : ∀ E ∈ ls, E < V.heap.size := fun E hE => lt_16 (h.2 E hE).2
  refine ⟨List.nodup_cons.mpr ⟨fun hm => by have := hlt D hm; omega, h.1⟩, fun E hE => ?_⟩
  rcases List.mem_cons.mp hE with rfl | hE
  · exact ⟨by omega, h2⟩
  · exact ⟨(h.2 E hE).1, (hk.2 E (hlt E hE) (fun q => by have := hX E q; have := (h.2 E hE).1; omega)).trans (h.2 E hE).2⟩
theorem MkS.keep {B : Nat} {ls : List Nat} {V U : World} {X : Nat → Prop} (h : MkS B ls V) (hk : KX X V U) (hX : ∀ z, X z → z < B) : MkS B ls U :=
  ⟨h.1, fun E hE => ⟨(h.2 E hE).1, (hk.2 E (lt_16 (h.2 E hE).2) (fun q => by have := hX E q; have := (h.2 E hE).1; omega)).trans (h.2 E hE).2⟩⟩
theorem wpList_make16 {P : Program} (w : World) {ops : Array Oper} {rest : List Oper} {o : Oper} {a : Act} {Q : Exit → Act → World → Prop}
    (hg : o.guard = none) (l c : Operand) (t : TypeId) (hop : o.op = Op.makeSlice t l c)
    (e : TypeId) (i : TypeInfo) (z : Value) (h1 : P.underlying t = some (.slice e)) (h2 : P.info? e = some i) (h3 : i.zero = some z)
    (kl kc : IntKind) (L C : Int) (n m : Nat) (hl : a.eval l = .int kl L) (hc : a.eval c = .int kc C) (hL : L = (n : Int)) (hC : C = (m : Int)) (hnm : n ≤ m) (b2 : i.bytes * m ≤ 281474976710656) (b3 : m ≤ maxLen)
    (hK : wpList P ops Q rest (a.put o.dst (.slice (some ⟨w.heap.size, 0, none⟩) n m)) (w.alloc (.cells (madeCells z.cells (m * i.size)) e))) :
    wpList P ops Q (o :: rest) a w := by
  refine wpList_plain hg fun K hK' => ?_
  have h63' : (m : Int) ≤ 9223372036854775807 := by
    have h := b3
    simp [maxLen] at h
    omega
  have hb' : (i.bytes : Int) * (m : Int) ≤ 281474976710656 := by
    have h : ((i.bytes * m : Nat) : Int) ≤ 281474976710656 := by omega
    rwa [Int.natCast_mul] at h
  have hr := run_make (P := P) w t e i z h1 h2 h3 kl kc n m (by omega) (by omega) hb' h63'
  simp only [Int.toNat_natCast] at hr
  subst hL
  subst hC
  unfold Oper.wp
  simp [execOp, hop, hl, hc, hr, Result.andThen]
  exact hK' _ _ hK
theorem made_one16 (z : Value) (n : Nat) : madeCells #[z] n = (List.replicate n z).toArray := by
  rw [← toList_madeCells_one]
theorem own_base16 {w : World} {base base' e size n : Nat} {v : Value} {xs : List Value} (h : w.ownsRow base e size v n xs) (hb : base' ≤ base) : w.ownsRow base' e size v n xs := by
  refine ⟨h.1, ?_⟩
  rcases h.2 with hn | ⟨g, cap, cur, hv, h1, h2⟩
  · exact .inl hn
  · exact .inr ⟨g, cap, cur, hv, by omega, h2⟩
end Go.Proofs.Ytjgpbahglkaijaa
namespace Go.Proofs.Ytjgpbahglkaijaa
open Go.RowKit Go.Shelf
set_option linter.unusedSimpArgs false
set_option linter.unusedVariables false
attribute [local go_sem] Oper.semAt_some

theorem w64_n18 (q : Nat) (h : q ≤ 1000000000) : wrap64 (q : Int) = (q : Int) := by unfold wrap64; omega
def fnB (qs : List Int) (x : Int) : Int := match qs.findIdx? (· == x) with | some i => (i : Int) | none => -1
theorem fnB_at {qs : List Int} (hs : qs.Pairwise (· < ·)) {i : Nat} {x : Int} (h : qs[i]? = some x) : fnB qs x = (i : Int) := by
  unfold fnB
  have hf : qs.findIdx? (· == x) = some i := by
    rw [List.findIdx?_eq_some_iff_getElem]
    obtain ⟨h1, h2⟩ := List.getElem?_eq_some_iff.mp h
    refine ⟨h1, by simp [h2], fun j hj => ?_⟩
    have := List.pairwise_iff_getElem.mp hs j i (by omega) h1 hj
    rw [h2] at this
    simp
    omega
  rw [hf]
theorem fnB_no {qs : List Int} {x : Int} (h : ∀ (i : Nat) (y : Int), qs[i]? = some y → y ≠ x) : fnB qs x = -1 := by
  unfold fnB
  have hf : qs.findIdx? (· == x) = none := by
    rw [List.findIdx?_eq_none_iff]
    intro y hy
    obtain ⟨i, hi⟩ := List.getElem?_of_mem hy
    simpa using h i y hi
  rw [hf]
end Go.Proofs.Ytjgpbahglkaijaa
namespace Go.Proofs.Ytjgpbahglkaijaa
open Go.RowKit
set_option linter.unusedSimpArgs false
set_option linter.unusedVariables false

def lkX (qs : List Int) (e : Bool × Int) : Bool × Int := if e.1 then (true, fnB qs e.2) else e
def lkI (qs : List Int) : Int → List (Bool × Int) → Option Int
  | _, [] => none
  | p, e :: t => if e.1 = true ∧ fnB qs e.2 = -1 then some p else lkI qs (p + 1) t
def lkB (qs : List Int) (b : PB) : PB := { b with es := b.es.map (lkX qs) }
def lkA (qs : List Int) : List PB → Option Int
  | [] => none
  | b :: t => match lkI qs (b.a + 2 + (b.m.length : Int)) b.es with
    | some p => some p
    | none => lkA qs t
def lkR (qs : List Int) (P : List PB) : Int × Int := match lkA qs P with
  | some p => (p, 26)
  | none => (0, 0)
def mkX (s : List Bool) (e : Bool × Int) : List Bool := if e.1 then s.set e.2.toNat true else s
def mkB (s : List Bool) (b : PB) : List Bool := b.es.foldl mkX s
def mk0 (n : Nat) : List Bool := (List.replicate n false).set 0 true
def mkA (P : List PB) : List Bool := P.foldl mkB (mk0 P.length)
def ixB (s : List Bool) : Int := match s.findIdx? (· == false) with
  | some k => (k : Int)
  | none => -1
def usR (P : List PB) : Int × Int := if 0 ≤ ixB (mkA P) then ((P.getD (ixB (mkA P)).toNat ⟨0, 0, [], []⟩).a, 31) else (0, 0)
def upX (B M : Int) (A : List (Int × Int)) (e : Bool × Int) : List (Int × Int) := if e.1 then A.set e.2.toNat (max (A.getD e.2.toNat (0, 0)).1 B, max (A.getD e.2.toNat (0, 0)).2 M) else A
def msG (F : Int) : List PB → Nat → List (Int × Int) → Int → Int × Int × Int
  | [], _, _, dp => (dp, 0, 0)
  | b :: t, k, A, dp =>
    if F < (A.getD k (0, 0)).2 + b.t then (0, b.a, 27) else msG F t (k + 1) (b.es.foldl (upX ((A.getD k (0, 0)).1 + 1) ((A.getD k (0, 0)).2 + b.t)) A) (max dp ((A.getD k (0, 0)).1 + 1))
def msR (F : Int) (P : List PB) : Int × Int × Int := msG F P 0 (List.replicate P.length (0, 0)) 0
theorem mkX_len (s : List Bool) (e : Bool × Int) : (mkX s e).length = s.length := by unfold mkX; split <;> simp
theorem mkF_len18 : ∀ (es : List (Bool × Int)) (s : List Bool), (es.foldl mkX s).length = s.length
  | [], s => rfl
  | e :: t, s => by rw [List.foldl_cons, mkF_len18 t, mkX_len]
theorem mkA_len : ∀ (P : List PB) (s : List Bool), (P.foldl mkB s).length = s.length
  | [], s => rfl
  | b :: t, s => by rw [List.foldl_cons, mkA_len t]; exact mkF_len18 _ _
theorem upX_len (B M : Int) (A : List (Int × Int)) (e : Bool × Int) : (upX B M A e).length = A.length := by unfold upX; split <;> simp
theorem upF_len (B M : Int) : ∀ (es : List (Bool × Int)) (A : List (Int × Int)), (es.foldl (upX B M) A).length = A.length
  | [], A => rfl
  | e :: t, A => by rw [List.foldl_cons, upF_len B M t, upX_len]
end Go.Proofs.Ytjgpbahglkaijaa
