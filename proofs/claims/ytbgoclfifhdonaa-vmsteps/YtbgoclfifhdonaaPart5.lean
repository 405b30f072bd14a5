/-
  Part 5 of the proof: 10 texts, one behind the other.
-/
import Derived.Test.YtbgoclfifhdonaaPart4
import Derived.Test.YtbgoclfifhdonaaPart2
import Derived.Test.YtbgoclfifhdonaaPart3
import Derived.Laws.CopyRow
import Derived.Laws.MakeOwn
import Derived.Laws.OwnMore
import Derived.RangeFuncNested
import Derived.Lib.BitFns
import Derived.Test.YtbgoclfifhdonaaPart1
namespace Go.Proofs.Ytbgoclfifhdonaa
open Go.RowKit
set_option linter.unusedSimpArgs false
set_option linter.unusedVariables false

section
variable {P : Program}

theorem putAll_other : ∀ (ds : List (Option Tmp)) (vs : List Value) (a : Act) (s : Nat), (∀ d ∈ ds, d ≠ some s) → (putAll a ds vs).tmps[s]? = a.tmps[s]?
  | [], vs, a, s, _ => by cases vs <;> rfl
  | d :: ds, [], a, s, _ => rfl
  | d :: ds, v :: vs, a, s, h => by
    rw [putAll, putAll_other ds vs (a.put d v) s (fun x hx => h x (List.mem_cons_of_mem _ hx))]
    exact put_other a d v s (h d (by simp))
theorem putAll_defers : ∀ (ds : List (Option Tmp)) (vs : List Value) (a : Act), (putAll a ds vs).defers = a.defers
  | [], vs, a => by cases vs <;> rfl
  | d :: ds, [], a => rfl
  | d :: ds, v :: vs, a => by
    rw [putAll, putAll_defers ds vs (a.put d v)]
    unfold Act.put
    cases d <;> rfl
structure Slt (l : List Oper) (a A : Act) (lp : Array Bool) (a' : Act) : Prop where
  don : ∀ (k : Nat) (o : Oper) (s : Nat), l[k]? = some o → lp.getD k false = true → o.dst = some s → a'.tmps[s]? = A.tmps[s]?
  oth : ∀ s, (∀ (k : Nat) (o : Oper), l[k]? = some o → lp.getD k false = true → o.dst ≠ some s) → a'.tmps[s]? = a.tmps[s]?
  siz : a'.tmps.size = a.tmps.size
  dfr : a'.defers = a.defers
theorem getD_set {lp : Array Bool} {i k : Nat} (h : (lp.setIfInBounds i true).getD k false = true) : k = i ∨ lp.getD k false = true := by
  by_cases e : k = i
  · exact .inl e
  · right
    rw [Array.getD_eq_getD_getElem?] at h ⊢
    rwa [Array.getElem?_setIfInBounds_ne (by omega)] at h
theorem getD_set_same {lp : Array Bool} {i : Nat} (h : i < lp.size) : (lp.setIfInBounds i true).getD i false = true := by
  rw [Array.getD_eq_getD_getElem?, Array.getElem?_setIfInBounds_self_of_lt h]
  rfl
def valO (A : Act) (o : Oper) : Value := ((o.dst).bind fun s => A.tmps[s]?).getD undef
theorem gh_any {γ : Type} {l : List Oper} (ok : QpOk l l.length l.length) (hgd : ∀ o ∈ l, o.guard = none) (hdst : ∀ (i k : Nat) (oi ok : Oper) (s : Nat), l[i]? = some oi → l[k]? = some ok → oi.dst = some s → ok.dst = some s → i = k) {Q : Exit → Act → World → Prop} {a : Act} (A : γ → Act) (hsz : ∀ g, (A g).tmps.size = a.tmps.size) (hdf : ∀ g, (A g).defers = a.defers) (hA : ∀ g s, (∀ o ∈ l, o.dst ≠ some s) → (A g).tmps[s]? = a.tmps[s]?) (R : Array Bool → γ → World → Prop)
    (hstep : ∀ (i : Nat) (o : Oper) (lp : Array Bool) (g : γ) (w' : World) (a' : Act), l[i]? = some o → lp.size = l.length → lp.getD i false = false → (∀ e ∈ o.after, Region.binds .any e = true → lp.getD e.on false = true) → R lp g w' → Slt l a (A g) lp a' →
      ∀ (K : Act → World → Prop) Q', (∀ g' w'', (∀ (k : Nat) (o : Oper) (s : Nat), l[k]? = some o → lp.getD k false = true → o.dst = some s → (A g').tmps[s]? = (A g).tmps[s]?) → R (lp.setIfInBounds i true) g' w'' → ∀ v, valO (A g') o = v → K (a'.put o.dst v) w'') → o.wp P a' w' K Q')
    (hpost : ∀ g w', R (Array.replicate l.length true) g w' → Q .normal (A g) w') :
    ∀ (fuel : Nat) (lp : Array Bool) (g : γ) (a' : Act) (w : World), lp.size = l.length → unl lp = fuel → R lp g w → Slt l a (A g) lp a' → wpAny P .any l.toArray Q fuel lp a' w := by
  intro fuel
  have fin : ∀ (lp : Array Bool) (g : γ) (a' : Act) (w : World), lp.size = l.length → unl lp = 0 → R lp g w → Slt l a (A g) lp a' → Q .normal a' w := by
    intro lp g a' w hs hu hR hS
    have e : lp = Array.replicate l.length true := by have := unl_zero lp hu; rwa [hs] at this
    rw [e] at hR hS
    have : a' = A g := by
      have ht : a'.tmps = (A g).tmps := by
        apply Array.ext_getElem?
        intro s
        by_cases h : ∃ (k : Nat) (o : Oper), l[k]? = some o ∧ o.dst = some s
        · obtain ⟨k, o, h1, h2⟩ := h
          have hk : k < l.length := (List.getElem?_eq_some_iff.mp h1).1
          exact hS.don k o s h1 (by simp [Array.getElem?_replicate, hk]) h2
        · have h' : ∀ o ∈ l, o.dst ≠ some s := by
            intro o ho e
            obtain ⟨k, hk, rfl⟩ := List.mem_iff_getElem.mp ho
            exact h ⟨k, l[k], List.getElem?_eq_getElem hk, e⟩
          rw [hA g s h']
          exact hS.oth s (fun k o h1 _ e => h ⟨k, o, h1, e⟩)
      have hd : a'.defers = (A g).defers := by rw [hS.dfr, hdf]
      cases a'
      cases hAg : A g
      rw [hAg] at ht hd
      simp only at ht hd
      rw [ht, hd]
    rw [this]
    exact hpost g w hR
  induction fuel with
  | zero =>
    intro lp g a' w hs hu hR hS
    refine ⟨?_, fin lp g a' w hs hu hR hS⟩
    have e : lp = Array.replicate l.length true := by have := unl_zero lp hu; rwa [hs] at this
    apply List.eq_nil_iff_forall_not_mem.mpr
    intro i hi
    obtain ⟨hun, o, ho, _⟩ := mem_ready.1 hi
    have hk : i < l.length := by
      have := (Array.getElem?_eq_some_iff.mp ho).1
      simpa using this
    rw [e] at hun
    simp [Array.getElem?_replicate, hk] at hun
  | succ fuel ih =>
    intro lp g a' w hs hu hR hS
    refine ⟨fun e => ?_, fun i hi => ?_⟩
    · obtain ⟨k, hk, hf⟩ := unl_some lp fuel hu
      have hne := some_ready ok lp hs k (by omega) hf
      rw [Nat.sub_self] at hne
      exact absurd (by simpa using e) hne
    · obtain ⟨hun, o, ho, hrd⟩ := mem_ready.1 hi
      have ho' : l[i]? = some o := by simpa using ho
      have hil : i < l.length := (List.getElem?_eq_some_iff.mp ho').1
      have hun' : lp.getD i false = false := by
        rw [Array.getD_eq_getD_getElem?] at hun ⊢
        cases q : lp[i]? with
        | none => rfl
        | some b => rw [q] at hun; simpa using hun
      unfold wpOp
      simp only [ho]
      rw [if_pos (by simp [Region.wanted, hgd o (List.mem_of_getElem? ho')])]
      left
      refine hstep i o lp g w a' ho' hs hun' (fun e he hb => hrd e he hb) hR hS _ _ ?_
      intro g' w'' hsame hR' v hv
      subst hv
      refine ih _ g' _ w'' (by simp [hs]) (by have := unl_set lp i hun; omega) hR' ⟨?_, ?_, ?_, ?_⟩
      · intro k ok s hk hl hd
        rcases getD_set hl with rfl | hl'
        · have : ok = o := by rw [ho'] at hk; cases hk; rfl
          subst this
          unfold Act.put valO
          rw [hd]
          simp only [Option.bind_some]
          by_cases hlt : s < a'.tmps.size
          · rw [Array.getElem?_setIfInBounds_self_of_lt hlt]
            have h2 : s < (A g').tmps.size := by rw [hsz, ← hS.siz]; exact hlt
            rw [Array.getElem?_eq_getElem h2]
            rfl
          · rw [Array.getElem?_eq_none (by simp; omega), Array.getElem?_eq_none (by rw [hsz, ← hS.siz]; omega)]
        · rw [put_other a' o.dst _ s (fun e => by
            have := hdst k i ok o s hk ho' hd e
            subst this
            rw [hun'] at hl'
            cases hl'), hS.don k ok s hk hl' hd, hsame k ok s hk hl' hd]
      · intro s h
        have hne : o.dst ≠ some s := h i o ho' (getD_set_same (by omega))
        rw [put_other a' o.dst _ s hne]
        exact hS.oth s (fun k ok hk hl => h k ok hk (by
          by_cases e : k = i
          · subst e; exact getD_set_same (by omega)
          · rw [Array.getD_eq_getD_getElem?] at hl ⊢
            rwa [Array.getElem?_setIfInBounds_ne (by omega)]))
      · rw [put_size, hS.siz]
      · unfold Act.put
        cases o.dst <;> exact hS.dfr
def dstG (l : List Oper) : Bool := (List.range l.length).all fun i => (List.range l.length).all fun k => i == k || ((l[i]?).bind (·.dst)).isNone || ((l[i]?).bind (·.dst)) != ((l[k]?).bind (·.dst))
theorem dstG_of {l : List Oper} (h : dstG l = true) : ∀ (i k : Nat) (oi ok : Oper) (s : Nat), l[i]? = some oi → l[k]? = some ok → oi.dst = some s → ok.dst = some s → i = k := by
  intro i k oi ok s hi hk h1 h2
  have hil := (List.getElem?_eq_some_iff.mp hi).1
  have hkl := (List.getElem?_eq_some_iff.mp hk).1
  unfold dstG at h
  rw [List.all_eq_true] at h
  have := h i (List.mem_range.mpr hil)
  rw [List.all_eq_true] at this
  have := this k (List.mem_range.mpr hkl)
  rw [hi, hk] at this
  simp only [Option.bind_some, h1, h2] at this
  simpa using this
theorem gh_region {γ : Type} {id : Nat} {l : List Oper} (ok : QpOk l l.length l.length) (hgd : (l.all fun o => o.guard.isNone) = true) (hdst : dstG l = true) {Q : Exit → Act → World → Prop} {a : Act} {w : World} (ds : List (Option Tmp)) (vals : γ → List Value) (hm : P.follows .mixedOrders = true) (hds : ∀ d ∈ ds, ∃ o ∈ l, o.dst = d) (R : Array Bool → γ → World → Prop) (g0 : γ) (h0 : R (Array.replicate l.length false) g0 w.drew)
    (hstep : ∀ (i : Nat) (o : Oper) (lp : Array Bool) (g : γ) (w' : World) (a' : Act), l[i]? = some o → lp.size = l.length → lp.getD i false = false → (∀ e ∈ o.after, Region.binds .any e = true → lp.getD e.on false = true) → R lp g w' → Slt l a (putAll a ds (vals g)) lp a' →
      ∀ (K : Act → World → Prop) Q', (∀ g' w'', (∀ (k : Nat) (o : Oper) (s : Nat), l[k]? = some o → lp.getD k false = true → o.dst = some s → (putAll a ds (vals g')).tmps[s]? = (putAll a ds (vals g)).tmps[s]?) → R (lp.setIfInBounds i true) g' w'' → ∀ v, valO (putAll a ds (vals g')) o = v → K (a'.put o.dst v) w'') → o.wp P a' w' K Q')
    (hpost : ∀ g w', R (Array.replicate l.length true) g w' → Q .normal (putAll a ds (vals g)) w') : (Code.region id l.toArray true).wp P Q a w := by
  refine wp_region_any hm ?_
  have hu : unl (Array.replicate l.length false) = l.length := by unfold unl; simp
  have main := gh_any ok (fun o ho => by have := List.all_eq_true.mp hgd o ho; simpa using this) (dstG_of hdst) (A := fun g => putAll a ds (vals g)) (fun g => putAll_size _ _ _) (fun g => putAll_defers _ _ _) (fun g s h => putAll_other _ _ _ _ (fun d hd e => by obtain ⟨o, ho, hod⟩ := hds d hd; exact h o ho (by rw [hod, e]))) R hstep hpost l.length (Array.replicate l.length false) g0 a w.drew (by simp) hu h0 ⟨fun k o s hk hl => (by rw [Array.getD_eq_getD_getElem?, Array.getElem?_replicate] at hl; split at hl <;> simp at hl), fun s _ => rfl, rfl, rfl⟩
  have e1 : l.length = l.toArray.size := by simp
  rw [e1] at main
  simpa using main
end
end Go.Proofs.Ytbgoclfifhdonaa
namespace Go.Proofs.Ytbgoclfifhdonaa
open Go.RowKit Go.Shelf
set_option linter.unusedSimpArgs false
set_option linter.unusedVariables false

section
variable {P : Program}
end
end Go.Proofs.Ytbgoclfifhdonaa
namespace Go.Proofs.Ytbgoclfifhdonaa
open Go.RowKit Go.Shelf
set_option linter.unusedSimpArgs false
set_option linter.unusedVariables false
attribute [local go_sem] Oper.semAt_some

def KZ (Z : Nat → Prop) (W W' : World) : Prop := W.heap.size ≤ W'.heap.size ∧ ∀ (z : Nat) (o : Obj), W.heap[z]? = some o → Z z → W'.heap[z]? = some o
theorem KZ.trans {Z : Nat → Prop} {X Y V : World} (h : KZ Z X Y) (g : KZ Z Y V) : KZ Z X V := ⟨Nat.le_trans h.1 g.1, fun z o h1 h2 => g.2 z o (h.2 z o h1 h2) h2⟩
def fstW (o k : Nat) : BitVec 32 := BitVec.ofNat 32 (o * 16777216 + k)
theorem fst_uI (o k : Nat) (ho : o ≤ 4) (hk : k < 16777216) : uI (fstW o k) = ((o * 16777216 + k : Nat) : Int) := uI_of _ (by omega)
end Go.Proofs.Ytbgoclfifhdonaa
namespace Go.Proofs.Ytbgoclfifhdonaa
open Go.RowKit
set_option linter.unusedSimpArgs false
set_option linter.unusedVariables false

end Go.Proofs.Ytbgoclfifhdonaa
namespace Go.Proofs.Ytbgoclfifhdonaa
open Go.RowKit
set_option linter.unusedSimpArgs false
set_option linter.unusedVariables false

end Go.Proofs.Ytbgoclfifhdonaa
namespace Go.Proofs.Ytbgoclfifhdonaa
open Go.RowKit Go.Shelf
set_option linter.unusedSimpArgs false
set_option linter.unusedVariables false

theorem gh_quiet14 {P : Program} {o : Oper} {a' : Act} {w' : World} {K : Act → World → Prop} {Q' : Exit → Act → World → Prop} {v : Value} (hr : (execOp a'.eval o).run P w' = .ok (.value v) w') (hK : K (a'.put o.dst v) w') : o.wp P a' w' K Q' := by
  unfold Oper.wp Oper.upon
  rw [hr]
  exact hK
theorem gh_same14 {x y : Array Value} {d s : Nat} (h : x.toList.eraseIdx d = y.toList.eraseIdx d) (hs : s ≠ d) : x[s]? = y[s]? := by
  have := erase_get _ _ d s h hs
  simpa using this
theorem Slt.old14 {l : List Oper} {a A : Act} {lp : Array Bool} {a' : Act} (h : Slt l a A lp a') (s : Nat) (hs : ∀ o ∈ l, o.dst ≠ some s) : a'.tmps[s]? = a.tmps[s]? := h.oth s (fun k o hk _ => hs o (List.mem_of_getElem? hk))
structure EnW (w : World) (N G B : Nat) (W : World) (vc vb : Value) (R : List Nat) : Prop where
  b : Below w.heap.size w W
  c : W.cell? ⟨B, 0, none⟩ = some vc
  f : W.frozen? ⟨B, 0, none⟩ = false
  o : W.ownsRow w.heap.size 5 1 vb R.length (R.map cB)
  n : ∀ z, vb.ownBlock = some z → z = G ∨ N ≤ z
  s : N ≤ W.heap.size
section
variable {w W W' : World} {N G B : Nat} {vc vb vb' : Value} {R : List Nat}
theorem EnW.below (h : EnW w N G B W vc vb R) (hb : Below W.heap.size W W') : EnW w N G B W' vc vb R :=
  ⟨keepb hb h.b, keepc hb h.c, keepf hb h.c h.f, own_b13 hb h.o, h.n, Nat.le_trans h.s hb.size⟩
theorem own_cells14 {W : World} {base e size n : Nat} {v : Value} {xs : List Value} (h : W.ownsRow base e size v n xs) {z : Nat} (hz : v.ownBlock = some z) : ∃ cs T fr, W.heap[z]? = some (.cells cs T fr) := by
  rcases h.2 with ⟨rfl, -⟩ | ⟨g, cap, cur, rfl, h1, h2, -⟩
  · cases hz
  · simp only [Value.ownBlock, Option.some.injEq] at hz
    subst hz
    exact ⟨_, _, _, h2⟩
theorem EnW.kept (h : EnW w N G B W vc vb R) {row : Option Nat} (hg : W.grownBy W' row) (hN : w.heap.size ≤ N) (hr : ∀ r, row = some r → N ≤ r ∧ ∃ o : Obj, W.heap[r]? = some o ∧ o.isCells = false) : EnW w N G B W' vc vb R := by
  have hr' : ∀ r, row = some r → ∃ o : Obj, W.heap[r]? = some o ∧ o.isCells = false := fun r e => (hr r e).2
  have hB : row ≠ some B := by
    intro e
    obtain ⟨o, h1, h2⟩ := hr' B e
    have := h.c
    rw [World.cell?, h1] at this
    cases o with
    | cells cs T fr => cases h2
    | _ => simp at this
  have eB : W'.heap[B]? = W.heap[B]? := hg.block B (cell_in h.c) (fun e => hB e.symm)
  refine ⟨h.b.grown hg (Nat.le_trans hN h.s) (fun k e => by have := (hr k e).1; omega), (World.cell?_of_block (a := ⟨B, 0, none⟩) eB).trans h.c, (World.frozen?_of_block (a := ⟨B, 0, none⟩) eB).trans h.f, h.o.kept hg ?_, h.n, Nat.le_trans h.s hg.size⟩
  cases hv : vb.ownBlock with
  | none => exact .inl rfl
  | some z =>
    refine .inr fun e => ?_
    obtain ⟨o, h1, h2⟩ := hr' z e.symm
    obtain ⟨cs, T, fr, h3⟩ := own_cells14 h.o hv
    rw [h3] at h1
    cases h1
    cases h2
theorem EnW.app (h : EnW w N G B W vb vb R) (hBG : B ≠ G) (hBN : B < N) (hwB : w.heap.size ≤ N) {v' : Value} {X : List Nat} (ho : W'.ownsRow w.heap.size 5 1 v' (R ++ X).length ((R ++ X).map cB)) (hg : W.grownBy W' vb.ownBlock) (hat : ∀ z, v'.ownBlock = some z → vb.ownBlock = some z ∨ z = W.heap.size) : EnW w N G B W' vb v' (R ++ X) := by
  have hne : vb.ownBlock ≠ some B := by
    intro e
    rcases h.n B e with h1 | h1
    · exact hBG h1
    · omega
  have eB : W'.heap[B]? = W.heap[B]? := hg.block B (cell_in h.c) (fun e => hne e.symm)
  refine ⟨h.b.grown hg (Nat.le_trans hwB h.s) (fun k e => (h.o.lt k e).1), (World.cell?_of_block (a := ⟨B, 0, none⟩) eB).trans h.c, (World.frozen?_of_block (a := ⟨B, 0, none⟩) eB).trans h.f, ho, ?_, Nat.le_trans h.s hg.size⟩
  intro z hz
  rcases hat z hz with h1 | h1
  · exact h.n z h1
  · exact .inr (by rw [h1]; exact h.s)
theorem EnW.set (h : EnW w N G B W vc vb R) (hBG : B ≠ G) (hBN : B < N) (hwB : w.heap.size ≤ B) : EnW w N G B (W.setCell ⟨B, 0, none⟩ vb) vb vb R := by
  have hne : vb.ownBlock ≠ some B := by
    intro e
    rcases h.n B e with h1 | h1
    · exact hBG h1
    · omega
  have hc := h.c
  have hf := h.f
  refine ⟨h.b.setCell (p := ⟨B, 0, none⟩) hwB _, by simp [go_sem, hc], by simp [go_sem, hf], ?_, h.n, by simp [World.setCell]; exact h.s⟩
  refine ⟨h.o.1, ?_⟩
  rcases h.o.2 with h1 | ⟨g, cap, cur, e, h1, h2, h3⟩
  · exact .inl h1
  · refine .inr ⟨g, cap, cur, e, h1, ?_, h3⟩
    have hgB : ¬ g = B := by
      rintro rfl
      exact hne (by rw [e]; rfl)
    exact (Below.heap_setCell W ⟨B, 0, none⟩ vb g hgB).trans h2
end
theorem KZ.refl (Z : Nat → Prop) (W : World) : KZ Z W W := ⟨Nat.le_refl _, fun _ _ h _ => h⟩
end Go.Proofs.Ytbgoclfifhdonaa
namespace Go.Proofs.Ytbgoclfifhdonaa
open Go.RowKit Go.Shelf
set_option linter.unusedSimpArgs false
set_option linter.unusedVariables false

theorem at_16 {W : World} {z : Nat} {cs : Array Value} {T : TypeId} (hz : W.heap[z]? = some (.cells cs T)) (j : Nat) (u : Value) (hj : cs[j]? = some u) : W.cell? ⟨z, j, none⟩ = some u := by
  simp [World.cell?, hz, hj]
theorem fr_16 {W : World} {z j : Nat} {cs : Array Value} {T : TypeId} (h : W.heap[z]? = some (.cells cs T)) : W.frozen? ⟨z, j, none⟩ = false := by simp [World.frozen?, h]
theorem set_16 {W : World} {P o : Nat} {cs : Array Value} {T : TypeId} (h : W.heap[P]? = some (.cells cs T)) (v : Value) : (W.setCell ⟨P, o, none⟩ v).heap[P]? = some (.cells (cs.setIfInBounds o v) T) := by
  simp [World.setCell, Array.getElem?_modify, h]
theorem lt_16 {w : World} {z : Nat} {o : Obj} (hz : w.heap[z]? = some o) : z < w.heap.size := (Array.getElem?_eq_some_iff.1 hz).1
theorem far_16 {W : World} {z P o : Nat} {v : Value} (h : z ≠ P) : (W.setCell ⟨P, o, none⟩ v).heap[z]? = W.heap[z]? := Below.heap_setCell W ⟨P, o, none⟩ v z h
theorem new_16 (W : World) (o : Obj) : (W.alloc o).heap[W.heap.size]? = some o := World.alloc_heap_new W o
theorem old_16 {W : World} (o : Obj) {z : Nat} {x : Obj} (h : W.heap[z]? = some x) : (W.alloc o).heap[z]? = some x := (Below.heap_alloc W o z (lt_16 h)).trans h
def KX (X : Nat → Prop) (V U : World) : Prop := V.heap.size ≤ U.heap.size ∧ ∀ z, z < V.heap.size → ¬ X z → U.heap[z]? = V.heap[z]?
theorem KX.refl (X : Nat → Prop) (V : World) : KX X V V := ⟨Nat.le_refl _, fun _ _ _ => rfl⟩
theorem KX.trans {X : Nat → Prop} {A B C : World} (h : KX X A B) (g : KX X B C) : KX X A C := ⟨Nat.le_trans h.1 g.1, fun z h1 h2 => (g.2 z (Nat.lt_of_lt_of_le h1 h.1) h2).trans (h.2 z h1 h2)⟩
theorem KX.below {X : Nat → Prop} {V U U' : World} (h : KX X V U) (hb : Below U.heap.size U U') : KX X V U' := ⟨Nat.le_trans h.1 hb.size, fun z h1 h2 => (hb.block z (Nat.lt_of_lt_of_le h1 h.1)).trans (h.2 z h1 h2)⟩
theorem KX.set {X : Nat → Prop} {V U : World} (h : KX X V U) (b o : Nat) (u : Value) (hb : X b ∨ V.heap.size ≤ b) : KX X V (U.setCell ⟨b, o, none⟩ u) := ⟨by simpa using h.1, fun z h1 h2 => (far_16 (by rintro rfl; rcases hb with q | q; exact h2 q; omega)).trans (h.2 z h1 h2)⟩
theorem KX.own {β : Type} {X : Nat → Prop} {B : Nat} {V : World} (hV : V.heap.size ≤ B) : OwnFrom B (fun (_ : β) U => KX X V U) := fun s A A' row hs hg hr => ⟨Nat.le_trans hs.1 hg.size, fun z h1 h2 => (hg.block z (Nat.lt_of_lt_of_le h1 hs.1) (fun e => by have := (hr z e.symm).1; omega)).trans (hs.2 z h1 h2)⟩
def MkS (B : Nat) (ls : List Nat) (W : World) : Prop := ls.Nodup ∧ ∀ D ∈ ls, B ≤ D ∧ W.heap[D]? = some (.deferred (some []))
theorem MkS.keep {B : Nat} {ls : List Nat} {V U : World} {X : Nat → Prop} (h : MkS B ls V) (hk : KX X V U) (hX : ∀ z, X z → z < B) : MkS B ls U :=
  ⟨h.1, fun E hE => ⟨(h.2 E hE).1, (hk.2 E (lt_16 (h.2 E hE).2) (fun q => by have := hX E q; have := (h.2 E hE).1; omega)).trans (h.2 E hE).2⟩⟩
theorem own_base16 {w : World} {base base' e size n : Nat} {v : Value} {xs : List Value} (h : w.ownsRow base e size v n xs) (hb : base' ≤ base) : w.ownsRow base' e size v n xs := by
  refine ⟨h.1, ?_⟩
  rcases h.2 with hn | ⟨g, cap, cur, hv, h1, h2⟩
  · exact .inl hn
  · exact .inr ⟨g, cap, cur, hv, by omega, h2⟩
end Go.Proofs.Ytbgoclfifhdonaa
namespace Go.Proofs.Ytbgoclfifhdonaa
open Go.RowKit
set_option linter.unusedSimpArgs false
set_option linter.unusedVariables false

def bsN : Nat → Nat → Nat
  | 0, _ => 0
  | k + 1, x => x % 2 + bsN k (x / 2)
theorem bsN_pop : ∀ k x, Lib.popAux k x = bsN k x
  | 0, _ => rfl
  | k + 1, x => by simp only [Lib.popAux, bsN]; rw [bsN_pop k]
theorem bsN_zero : ∀ k, bsN k 0 = 0
  | 0 => rfl
  | k + 1 => by simp only [bsN, Nat.zero_mod, Nat.zero_div]; rw [bsN_zero k]
theorem bsN_add : ∀ m k x, bsN (m + k) x = bsN m x + bsN k (x / 2 ^ m)
  | 0, k, x => by simp [bsN]
  | m + 1, k, x => by
    rw [Nat.succ_add]
    simp only [bsN]
    rw [bsN_add m k (x / 2), Nat.div_div_eq_div_mul, Nat.pow_succ, Nat.mul_comm 2]
    omega
theorem bsN_mod : ∀ k x, bsN k (x % 2 ^ k) = bsN k x
  | 0, x => rfl
  | k + 1, x => by
    simp only [bsN]
    have h1 : x % 2 ^ (k + 1) % 2 = x % 2 := by rw [Nat.pow_succ, Nat.mod_mul_left_mod]
    have h2 : x % 2 ^ (k + 1) / 2 = x / 2 % 2 ^ k := by rw [Nat.pow_succ, Nat.mul_comm, Nat.mod_mul_right_div_self]
    rw [h1, h2, bsN_mod k]
theorem bsN_le : ∀ k x, bsN k x ≤ k
  | 0, _ => Nat.le_refl _
  | k + 1, x => by have := bsN_le k (x / 2); simp only [bsN]; omega
theorem bsN_small (m k x : Nat) (h : x < 2 ^ m) : bsN (m + k) x = bsN m x := by
  rw [bsN_add, Nat.div_eq_of_lt h, bsN_zero]; omega
theorem ones8 (b : Nat) (h : b < 256) : Lib.onesCount b = bsN 8 b := by
  unfold Lib.onesCount
  rw [bsN_pop]
  exact bsN_small 8 56 b h
theorem bs32 (x : Nat) (h : x < 4294967296) : bsN 32 x = bsN 8 (x / 16777216) + bsN 8 (x / 65536 % 256) + bsN 8 (x / 256 % 256) + bsN 8 (x % 256) := by
  have e1 := bsN_add 8 24 x
  have e2 := bsN_add 8 16 (x / 2 ^ 8)
  have e3 := bsN_add 8 8 (x / 2 ^ 8 / 2 ^ 8)
  have m1 := bsN_mod 8 x
  have m2 := bsN_mod 8 (x / 2 ^ 8)
  have m3 := bsN_mod 8 (x / 2 ^ 8 / 2 ^ 8)
  have p : (2 : Nat) ^ 8 = 256 := by decide
  rw [p] at e1 e2 e3 m1 m2 m3
  have d1 : x / 256 / 256 = x / 65536 := by omega
  have d2 : x / 65536 / 256 = x / 16777216 := by omega
  rw [d1] at e2 e3 m3
  rw [d2] at e3
  show bsN (8 + 24) x = _
  rw [e1]
  show _ + bsN (8 + 16) _ = _
  rw [e2]
  show _ + (_ + bsN (8 + 8) _) = _
  rw [e3]
  omega
def on32 (x : BitVec 32) : Nat := bsN 32 x.toNat
def fr32 (x : BitVec 32) (k : Nat) : Nat := bsN k (x.toNat / 2 ^ (32 - k))
def bt (x : BitVec 32) (p : Nat) : Bool := x.getLsbD (31 - p)
theorem fr_zero (x : BitVec 32) : fr32 x 0 = 0 := rfl
theorem fr_all (x : BitVec 32) : fr32 x 32 = on32 x := by unfold fr32 on32; simp
theorem bit_val (x : BitVec 32) (i : Nat) : x.toNat / 2 ^ i % 2 = (x.getLsbD i).toNat := by
  have : x.getLsbD i = decide (x.toNat / 2 ^ i % 2 = 1) := by
    unfold BitVec.getLsbD; rw [Nat.testBit_eq_decide_div_mod_eq]
  rw [this]
  by_cases c : x.toNat / 2 ^ i % 2 = 1
  · simp [c]
  · simp [c]; omega
theorem fr_succ (x : BitVec 32) (k : Nat) (h : k < 32) : fr32 x (k + 1) = fr32 x k + (bt x k).toNat := by
  unfold fr32 bt
  rw [show 32 - (k + 1) = 31 - k by omega]
  simp only [bsN]
  rw [bit_val, Nat.div_div_eq_div_mul, ← Nat.pow_succ, show (31 - k).succ = 32 - k by omega]
  omega
theorem on_shr (x : BitVec 32) (r : Nat) (h : r < 32) : on32 (x >>> (31 - r)) = fr32 x (r + 1) := by
  unfold on32 fr32
  rw [BitVec.toNat_ushiftRight, Nat.shiftRight_eq_div_pow, show 32 - (r + 1) = 31 - r by omega]
  have hlt : x.toNat / 2 ^ (31 - r) < 2 ^ (r + 1) := by
    rw [Nat.div_lt_iff_lt_mul (Nat.two_pow_pos _), ← Nat.pow_add, show r + 1 + (31 - r) = 32 by omega]
    exact x.isLt
  have := bsN_small (r + 1) (31 - r) _ hlt
  rw [show r + 1 + (31 - r) = 32 by omega] at this
  exact this
def plc (U : List (BitVec 32)) (p : Nat) : Bool := bt (U.getD (p / 32) 0#32) (p % 32)
def cnt (U : List (BitVec 32)) : Nat → Nat
  | 0 => 0
  | k + 1 => cnt U k + (plc U k).toNat
def sumW (U : List (BitVec 32)) : Nat → Nat
  | 0 => 0
  | a + 1 => sumW U a + on32 (U.getD a 0#32)
theorem cnt_word (U : List (BitVec 32)) (a : Nat) : ∀ r, r ≤ 32 → cnt U (32 * a + r) = cnt U (32 * a) + fr32 (U.getD a 0#32) r
  | 0, _ => by simp [fr_zero]
  | r + 1, h => by
    rw [← Nat.add_assoc]
    simp only [cnt]
    rw [cnt_word U a r (by omega), fr_succ _ r (by omega)]
    unfold plc
    rw [show (32 * a + r) / 32 = a by omega, show (32 * a + r) % 32 = r by omega]
    omega
theorem cnt_words (U : List (BitVec 32)) : ∀ a, cnt U (32 * a) = sumW U a
  | 0 => rfl
  | a + 1 => by
    rw [show 32 * (a + 1) = 32 * a + 32 by omega, cnt_word U a 32 (Nat.le_refl _), cnt_words U a, fr_all]
    rfl
theorem cnt_at (U : List (BitVec 32)) (a r : Nat) (h : r ≤ 32) : cnt U (32 * a + r) = sumW U a + fr32 (U.getD a 0#32) r := by
  rw [cnt_word U a r h, cnt_words]
theorem cnt_mono (U : List (BitVec 32)) : ∀ p q, p ≤ q → cnt U p ≤ cnt U q := by
  intro p q h
  induction q with
  | zero => have : p = 0 := by omega
            subst this; exact Nat.le_refl _
  | succ q ih =>
    by_cases c : p = q + 1
    · subst c; exact Nat.le_refl _
    · have := ih (by omega); simp only [cnt]; omega
theorem cnt_le (U : List (BitVec 32)) : ∀ k, cnt U k ≤ k
  | 0 => Nat.le_refl _
  | k + 1 => by
    have := cnt_le U k
    simp only [cnt]
    cases plc U k <;> simp <;> omega
end Go.Proofs.Ytbgoclfifhdonaa
namespace Go.Proofs.Ytbgoclfifhdonaa
open Go.RowKit
set_option linter.unusedSimpArgs false
set_option linter.unusedVariables false

theorem and255 (n : Nat) (h : n < 4294967296) : bits .and .u32 (n : Int) 255 = ((n % 256 : Nat) : Int) := by
  have e : (255 : Int) = uI 255#32 := lit32 255 (by decide)
  have h1 : (n : Int) = uI (BitVec.ofNat 32 n) := lit32 n h
  rw [e, h1, and32, uI_eq, BitVec.toNat_and, BitVec.toNat_ofNat, BitVec.toNat_ofNat]
  have h2 : n &&& 255 = n % 256 := Nat.and_two_pow_sub_one_eq_mod n 8
  have h3 : (2 : Nat) ^ 32 = 4294967296 := by decide
  rw [h3, Nat.mod_eq_of_lt h, show 255 % 4294967296 = 255 from rfl, h2]
theorem pop_at (b : Nat) (h : b < 256) : Lib.pop8 (b : Int) = ((bsN 8 b : Nat) : Int) := by
  rw [Lib.pop8_eq ⟨b, h⟩, ones8 b h]
set_option maxRecDepth 100000 in
set_option maxHeartbeats 8000000 in
theorem onesCount_any (x : BitVec 32) (w : World) :
    Calls Try.prog 65 #[.int .u32 (uI x)] w fun e w' => e = .returned (.int .i64 ((on32 x : Nat) : Int)) ∧ Below w.heap.size w w' := by
  have hx := x.isLt
  rw [uI_eq]
  unfold on32
  generalize x.toNat = n at hx
  have hs := bs32 n hx
  obtain ⟨N, hN⟩ : ∃ N : Int, N = (n : Int) := ⟨_, rfl⟩
  obtain ⟨b3, h3⟩ : ∃ b : Int, b = ((n / 16777216 : Nat) : Int) := ⟨_, rfl⟩
  obtain ⟨b2, h2⟩ : ∃ b : Int, b = ((n / 65536 % 256 : Nat) : Int) := ⟨_, rfl⟩
  obtain ⟨b1, h1⟩ : ∃ b : Int, b = ((n / 256 % 256 : Nat) : Int) := ⟨_, rfl⟩
  obtain ⟨b0, h0⟩ : ∃ b : Int, b = ((n % 256 : Nat) : Int) := ⟨_, rfl⟩
  obtain ⟨q3, e3⟩ : ∃ q : Int, q = ((bsN 8 (n / 16777216) : Nat) : Int) := ⟨_, rfl⟩
  obtain ⟨q2, e2⟩ : ∃ q : Int, q = ((bsN 8 (n / 65536 % 256) : Nat) : Int) := ⟨_, rfl⟩
  obtain ⟨q1, e1⟩ : ∃ q : Int, q = ((bsN 8 (n / 256 % 256) : Nat) : Int) := ⟨_, rfl⟩
  obtain ⟨q0, e0⟩ : ∃ q : Int, q = ((bsN 8 (n % 256) : Nat) : Int) := ⟨_, rfl⟩
  have l3 := bsN_le 8 (n / 16777216)
  have l2 := bsN_le 8 (n / 65536 % 256)
  have l1 := bsN_le 8 (n / 256 % 256)
  have l0 := bsN_le 8 (n % 256)
  have f3 : N / 16777216 = b3 := by rw [h3, hN]; omega
  have f2 : bits .and .u32 (N / 65536) 255 = b2 := by rw [h2, hN, show (n : Int) / 65536 = ((n / 65536 : Nat) : Int) by omega, and255 _ (by omega)]
  have f1 : bits .and .u32 (N / 256) 255 = b1 := by rw [h1, hN, show (n : Int) / 256 = ((n / 256 : Nat) : Int) by omega, and255 _ (by omega)]
  have f0 : bits .and .u32 N 255 = b0 := by rw [h0, hN, and255 _ (by omega)]
  have p3 : Lib.pop8 b3 = q3 := by rw [h3, e3]; exact pop_at _ (by omega)
  have p2 : Lib.pop8 b2 = q2 := by rw [h2, e2]; exact pop_at _ (by omega)
  have p1 : Lib.pop8 b1 = q1 := by rw [h1, e1]; exact pop_at _ (by omega)
  have p0 : Lib.pop8 b0 = q0 := by rw [h0, e0]; exact pop_at _ (by omega)
  have HE : Hid (q3 + q2 + q1 + q0 = ((bsN 32 n : Nat) : Int)) := by show _ = _; omega
  have B3 : 0 ≤ b3 ∧ b3 ≤ 255 := by omega
  have B2 : 0 ≤ b2 ∧ b2 ≤ 255 := by omega
  have B1 : 0 ≤ b1 ∧ b1 ≤ 255 := by omega
  have B0 : 0 ≤ b0 ∧ b0 ≤ 255 := by omega
  have Q3 : 0 ≤ q3 ∧ q3 ≤ 8 := by omega
  have Q2 : 0 ≤ q2 ∧ q2 ≤ 8 := by omega
  have Q1 : 0 ≤ q1 ∧ q1 ≤ 8 := by omega
  have Q0 : 0 ≤ q0 ∧ q0 ≤ 8 := by omega
  rw [← hN, ← HE.out]
  clear hs hN h3 h2 h1 h0 e3 e2 e1 e0 l3 l2 l1 l0 hx HE
  obtain ⟨B3a, B3b⟩ := B3
  obtain ⟨B2a, B2b⟩ := B2
  obtain ⟨B1a, B1b⟩ := B1
  obtain ⟨B0a, B0b⟩ := B0
  obtain ⟨Q3a, Q3b⟩ := Q3
  obtain ⟨Q2a, Q2b⟩ := Q2
  obtain ⟨Q1a, Q1b⟩ := Q1
  obtain ⟨Q0a, Q0b⟩ := Q0
  go_enter Try.func65, Try.ntmps65
  go_wp2_with fail
  go_quiet (fail)
  have HB : Hid (Below w.heap.size w (w.drewN nq)) := below_drewN (Below.refl _ _) nq
  go_wp2
  go_ret
  exact ⟨rfl, HB.out⟩
theorem rwx_pre {α : Type} {f : α → Value} {W : World} {ao : Option Addr} {n c : Nat} {l : List α} (h : RwX f W (.slice ao n c) l) (k : Nat) (hk : k ≤ l.length) : RwX f W (.slice ao k c) (l.take k) := by
  obtain ⟨ao', c', e, hc, h⟩ := h
  injection e with e1 e2 e3
  subst e1 e3
  have hl : (l.take k).length = k := by rw [List.length_take]; omega
  refine ⟨ao, c, by rw [hl], by omega, ?_⟩
  rcases h with h | ⟨b, off, e, h⟩
  · exact .inl (by rw [h]; simp)
  · refine .inr ⟨b, off, e, fun j x hj => h j x ?_⟩
    rw [List.getElem?_take] at hj
    split at hj
    · exact hj
    · cases hj
theorem sumW_take (U : List (BitVec 32)) (k : Nat) (hk : k ≤ U.length) : ∀ a, a ≤ k → sumW (U.take k) a = sumW U a
  | 0, _ => rfl
  | a + 1, h => by
    simp only [sumW]
    rw [sumW_take U k hk a (by omega)]
    congr 2
    rw [List.getD_eq_getElem?_getD, List.getD_eq_getElem?_getD, List.getElem?_take, if_pos (by omega)]
theorem sumW_le (U : List (BitVec 32)) : ∀ a, sumW U a ≤ 32 * a
  | 0 => Nat.le_refl _
  | a + 1 => by
    have h1 := sumW_le U a
    have h2 := bsN_le 32 (U.getD a 0#32).toNat
    simp only [sumW]
    unfold on32
    omega
set_option maxRecDepth 100000 in
set_option maxHeartbeats 8000000 in
theorem ones_any (v : Value) (U : List (BitVec 32)) (w : World) (hv : RwX cU w v U) (hl : U.length ≤ 100000000000000) :
    Calls Try.prog 64 #[v] w fun e w' => e = .returned (.int .i64 ((sumW U U.length : Nat) : Int)) ∧ Below w.heap.size w w' := by
  obtain ⟨ao, cc, rfl, -, hv⟩ := hv
  have HV := hid13 hv
  have HL := hid13 hl
  have HB := hid13 (Below.refl w.heap.size w)
  clear hv hl
  go_enter Try.func64, Try.ntmps64
  go_wp2_with fail
  go_loopg [3, 5, 8] U.length (fun g n x i wr => ∃ k m : Nat, k + g = U.length ∧ i = .int .i64 (k : Int) ∧ n = .int .i64 (m : Int) ∧ Hid (m = sumW U k) ∧ Hid (Below w.heap.size w wr))
  case atStart => exact ⟨0, 0, by omega, rfl, rfl, rfl, HB⟩
  case round =>
    clear HB
    obtain ⟨k, m, hk, rfl, rfl, HM, HB⟩ := hrel
    by_cases hlt : k < U.length
    · have hli : (k : Int) < (U.length : Int) := by omega
      obtain ⟨bo, off, rfl, hc1⟩ : ∃ bo off, ao = some ⟨bo, off, none⟩ ∧ ∀ j x, U[j]? = some x → w.cell? ⟨bo, off + j, none⟩ = some (cU x) := by
        rcases HV.out with h | h
        · rw [h] at hlt; simp at hlt
        · exact h
      obtain ⟨x, hx⟩ : ∃ x, U[k]? = some x := ⟨U[k], by simp [hlt]⟩
      have r1 : wr.cell? ⟨bo, off + k, none⟩ = some (.int .u32 (uI x)) := keepc HB.out (hc1 k x hx)
      have mk : IntKind.i64.wrap ((k : Int) + 1) = (k : Int) + 1 := by have := HL.out; rw [IntKind.wrap_i64]; omega
      have hon := bsN_le 32 x.toNat
      have hsm := sumW_le U k
      obtain ⟨o, ho⟩ : ∃ o, o = on32 x := ⟨_, rfl⟩
      have HE : Hid (m + o = sumW U (k + 1)) := by
        show _ = _
        simp only [sumW]
        rw [List.getD_eq_getElem?_getD, hx, Option.getD_some, ← ho, HM.out]
      have ms : IntKind.i64.wrap ((m : Int) + (o : Int)) = (m : Int) + (o : Int) := by
        have h1 := HM.out
        have h2 := HL.out
        unfold on32 at ho
        rw [IntKind.wrap_i64]; omega
      have HK : Hid (k + gk = U.length ∧ k < U.length) := ⟨hk, hlt⟩
      have KO := fun W => onesCount_any x W
      rw [← ho] at KO
      clear hc1 hx hk hon hsm HM ho
      go_wp2_with (go_at_call 65; refine (KO _).mono ?_; rintro e w1 ⟨rfl, hb1⟩; have HB1 := hid13 (keepb hb1 HB.out); clear hb1)
      go_roundg (gk - 1)
      case measure => have := HK.out; omega
      case rel => exact ⟨k + 1, m + o, by have := HK.out; omega, rfl, rfl, HE, HB1⟩
    · have hli : ¬ (k : Int) < (U.length : Int) := by omega
      obtain rfl : k = U.length := by omega
      go_wp2_with fail
      go_ret
      exact ⟨by rw [← HM.out]; rfl, HB.out⟩
def rkN (U : List (BitVec 32)) (i : Int) : Nat := if 0 ≤ i ∧ i < 32 * (U.length : Int) then cnt U (i.toNat + 1) else 0
def rkE (U : List (BitVec 32)) (i : Int) : Int := if 0 ≤ i ∧ i < 32 * (U.length : Int) then 0 else 30
set_option maxRecDepth 100000 in
set_option maxHeartbeats 8000000 in
theorem rank_any (v : Value) (U : List (BitVec 32)) (i : Int) (w : World) (hv : RwX cU w v U) (hl : U.length ≤ 100000000000000) (h0 : -9223372036854775808 ≤ i) (h1 : i ≤ 9223372036854775807) :
    Calls Try.prog 57 #[v, .int .i64 i] w fun e w' => e = .returned (.tuple #[.int .i64 ((rkN U i : Nat) : Int), .int .i64 (rkE U i)]) ∧ Below w.heap.size w w' := by
  unfold rkN rkE
  by_cases h : 0 ≤ i ∧ i < 32 * (U.length : Int)
  · rw [if_pos h, if_pos h]
    obtain ⟨j, rfl⟩ : ∃ j : Nat, i = (j : Int) := ⟨i.toNat, by omega⟩
    rw [Int.toNat_natCast]
    obtain ⟨q, hq⟩ : ∃ q, q = j / 32 := ⟨_, rfl⟩
    obtain ⟨r, hr⟩ : ∃ r, r = j % 32 := ⟨_, rfl⟩
    have hql : q < U.length := by omega
    obtain ⟨x, hx⟩ : ∃ x, U[q]? = some x := ⟨U[q], by simp [hql]⟩
    have hpre := fun W (hW : RwX cU W v U) => hW
    obtain ⟨ao, cc, rfl, hcc, hv'⟩ := id hv
    have HP : Hid (RwX cU w (.slice ao q cc) (U.take q)) := rwx_pre hv q (by omega)
    obtain ⟨bo, off, rfl, hc1⟩ : ∃ bo off, ao = some ⟨bo, off, none⟩ ∧ ∀ j x, U[j]? = some x → w.cell? ⟨bo, off + j, none⟩ = some (cU x) := by
      rcases hv' with h | h
      · rw [h] at hql; simp at hql
      · exact h
    have r1 : w.cell? ⟨bo, off + q, none⟩ = some (.int .u32 (uI x)) := hc1 q x hx
    have hq1 : (j : Int) / 32 = (q : Int) := by omega
    have hr1 : (j : Int) % 32 = (r : Int) := by omega
    obtain ⟨s, hs⟩ : ∃ s, s + r = 31 := ⟨31 - r, by omega⟩
    have hs1 : 31 - (r : Int) = (s : Int) := by omega
    have hsh := shr32 x s
    have hge : ¬ (U.length : Int) ≤ (q : Int) := by omega
    have hcq : ((q : Nat) : Int) ≤ ((cc : Nat) : Int) := by omega
    have hqi : ((q : Nat) : Int) < (U.length : Int) := by omega
    obtain ⟨A, hA⟩ : ∃ A, A = sumW U q := ⟨_, rfl⟩
    obtain ⟨B, hB⟩ : ∃ B, B = on32 (x >>> s) := ⟨_, rfl⟩
    have HE : Hid (A + B = cnt U (j + 1)) := by
      show _ = _
      rw [show j + 1 = 32 * q + (r + 1) by omega, cnt_at U q (r + 1) (by omega), List.getD_eq_getElem?_getD, hx, Option.getD_some, hA, hB, show s = 31 - r by omega, on_shr x r (by omega)]
    have hA1 := sumW_le U q
    have hB1 := bsN_le 32 (x >>> s).toNat
    have ms : IntKind.i64.wrap ((A : Int) + (B : Int)) = (A : Int) + (B : Int) := by
      unfold on32 at hB
      rw [IntKind.wrap_i64]; omega
    have KA := fun W hW => ones_any (.slice (some ⟨bo, off, none⟩) q cc) (U.take q) W hW (by rw [List.length_take]; omega)
    rw [List.length_take, Nat.min_eq_left (by omega), sumW_take U q (by omega) q (Nat.le_refl _), ← hA] at KA
    have KB := fun W => onesCount_any (x >>> s) W
    rw [← hB] at KB
    rw [← HE.out]
    clear hv hv' hc1 hx h hq hr hs hA hB hA1 hB1 HE hpre hql hcc
    go_enter Try.func57, Try.ntmps57
    go_wp2_with (first | (go_at_call 64; refine (KA _ HP.out).mono ?_; rintro e w1 ⟨rfl, hb1⟩; have HB1 := hid13 hb1; clear hb1) | (go_at_call 65; refine (KB _).mono ?_; rintro e w2 ⟨rfl, hb2⟩; have HB2 := hid13 (keepb hb2 HB1.out); clear hb2))
    exact bodyPost_ret (v := .tuple #[.int .i64 ((A : Int) + (B : Int)), .int .i64 0]) (by simp [results, Try.results57, go_sem]) rfl ⟨by push_cast; rfl, HB2.out⟩
  · rw [if_neg h, if_neg h]
    obtain ⟨ao, cc, rfl, hcc, hv'⟩ := id hv
    by_cases hn : i < 0
    · go_enter Try.func57, Try.ntmps57
      go_wp2_with fail
      exact bodyPost_ret (v := .tuple #[.int .i64 0, .int .i64 30]) (by simp [results, Try.results57, go_sem]) rfl ⟨rfl, Below.refl _ _⟩
    · have hge : (U.length : Int) ≤ i / 32 := by omega
      have hn0 : 0 ≤ i := by omega
      clear h
      go_enter Try.func57, Try.ntmps57
      go_wp2_with fail
      exact bodyPost_ret (v := .tuple #[.int .i64 0, .int .i64 30]) (by simp [results, Try.results57, go_sem]) rfl ⟨rfl, Below.refl _ _⟩
end Go.Proofs.Ytbgoclfifhdonaa
namespace Go.Proofs.Ytbgoclfifhdonaa
open Go.RowKit
set_option linter.unusedSimpArgs false
set_option linter.unusedVariables false

theorem rand_any (x y : BitVec 128) (w : World) :
    Calls Try.prog 33 #[.agg #[.int .u64 (hI x), .int .u64 (lI x)], .agg #[.int .u64 (hI y), .int .u64 (lI y)]] w fun e w' => e = .returned (.agg #[.int .u64 (hI (x &&& y)), .int .u64 (lI (x &&& y))]) ∧ Below w.heap.size w w' := by
  go_enter Try.func33, Try.ntmps33
  go_wp2
  rw [and_h, and_l]
  exact bodyPost_ret (v := .agg #[.int .u64 (hI (x &&& y)), .int .u64 (lI (x &&& y))]) (by simp [results, Try.results33, go_sem]) rfl ⟨rfl, bl3 _ _ _ _⟩

theorem rnot_any (x : BitVec 128) (w : World) :
    Calls Try.prog 34 #[.agg #[.int .u64 (hI x), .int .u64 (lI x)]] w fun e w' => e = .returned (.agg #[.int .u64 (hI (~~~x)), .int .u64 (lI (~~~x))]) ∧ Below w.heap.size w w' := by
  have hs : ¬ IntKind.u64.signed = true := by decide
  go_enter Try.func34, Try.ntmps34
  go_wp2
  rw [not_h, not_l]
  exact bodyPost_ret (v := .agg #[.int .u64 (hI (~~~x)), .int .u64 (lI (~~~x))]) (by simp [results, Try.results34, go_sem]) rfl ⟨rfl, bl2 _ _ _⟩

theorem rshl_any (x : BitVec 128) (n : Int) (w : World) :
    Calls Try.prog 41 #[.agg #[.int .u64 (hI x), .int .u64 (lI x)], .int .i64 n] w fun e w' => e = .returned (.agg #[.int .u64 (hI (x <<< n.toNat)), .int .u64 (lI (x <<< n.toNat))]) ∧ Below w.heap.size w w' := by
  by_cases h0 : n ≤ 0
  · have e : x <<< n.toNat = x := by rw [Int.toNat_eq_zero.mpr h0]; simp
    rw [e]
    go_enter Try.func41, Try.ntmps41
    go_wp2
    exact bodyPost_ret (v := .agg #[.int .u64 (hI x), .int .u64 (lI x)]) (by simp [results, Try.results41, go_sem]) rfl ⟨rfl, bl2 _ _ _⟩
  by_cases h1 : 128 ≤ n
  · rw [shl_0 x n.toNat (by omega), hI_zero, lI_zero]
    go_enter Try.func41, Try.ntmps41
    go_wp2
    exact bodyPost_ret (v := .agg #[.int .u64 0, .int .u64 0]) (by simp [results, Try.results41, go_sem]) rfl ⟨rfl, bl2 _ _ _⟩
  by_cases h2 : 64 ≤ n
  · have e : (n - 64).toNat = n.toNat - 64 := by omega
    rw [← shl_h2 x n.toNat (by omega) (by omega), shl_l2 x n.toNat (by omega), ← e]
    clear e
    go_enter Try.func41, Try.ntmps41
    go_wp2
    exact bodyPost_ret (v := .agg #[.int .u64 (IntKind.u64.wrap (lI x * 2 ^ (n - 64).toNat)), .int .u64 0]) (by simp [results, Try.results41, go_sem]) rfl ⟨rfl, bl2 _ _ _⟩
  · have e : (64 - n).toNat = 64 - n.toNat := by omega
    rw [← shl_h x n.toNat (by omega), ← shl_l x n.toNat, ← e]
    clear e
    go_enter Try.func41, Try.ntmps41
    go_wp2
    go_region
    all_goals go_wp2
    all_goals exact bodyPost_ret (v := .agg #[.int .u64 (bits .or .u64 (IntKind.u64.wrap (hI x * 2 ^ n.toNat)) (lI x / 2 ^ (64 - n).toNat)), .int .u64 (IntKind.u64.wrap (lI x * 2 ^ n.toNat))]) (by simp [results, Try.results41, go_sem]) rfl ⟨rfl, (bl2 _ _ _).drew⟩

theorem rshr_any (x : BitVec 128) (n : Int) (w : World) :
    Calls Try.prog 40 #[.agg #[.int .u64 (hI x), .int .u64 (lI x)], .int .i64 n] w fun e w' => e = .returned (.agg #[.int .u64 (hI (x >>> n.toNat)), .int .u64 (lI (x >>> n.toNat))]) ∧ Below w.heap.size w w' := by
  by_cases h0 : n ≤ 0
  · have e : x >>> n.toNat = x := by rw [Int.toNat_eq_zero.mpr h0]; simp
    rw [e]
    go_enter Try.func40, Try.ntmps40
    go_wp2
    exact bodyPost_ret (v := .agg #[.int .u64 (hI x), .int .u64 (lI x)]) (by simp [results, Try.results40, go_sem]) rfl ⟨rfl, bl2 _ _ _⟩
  by_cases h1 : 128 ≤ n
  · rw [shr_0 x n.toNat (by omega), hI_zero, lI_zero]
    go_enter Try.func40, Try.ntmps40
    go_wp2
    exact bodyPost_ret (v := .agg #[.int .u64 0, .int .u64 0]) (by simp [results, Try.results40, go_sem]) rfl ⟨rfl, bl2 _ _ _⟩
  by_cases h2 : 64 ≤ n
  · have e : (n - 64).toNat = n.toNat - 64 := by omega
    rw [← shr_l2 x n.toNat (by omega), shr_h2 x n.toNat (by omega), ← e]
    clear e
    go_enter Try.func40, Try.ntmps40
    go_wp2
    exact bodyPost_ret (v := .agg #[.int .u64 0, .int .u64 (hI x / 2 ^ (n - 64).toNat)]) (by simp [results, Try.results40, go_sem]) rfl ⟨rfl, bl2 _ _ _⟩
  · have e : (64 - n).toNat = 64 - n.toNat := by omega
    rw [← shr_l x n.toNat (by omega), ← shr_h x n.toNat, ← e]
    clear e
    go_enter Try.func40, Try.ntmps40
    go_wp2
    go_region
    all_goals go_wp2
    all_goals exact bodyPost_ret (v := .agg #[.int .u64 (hI x / 2 ^ n.toNat), .int .u64 (bits .or .u64 (lI x / 2 ^ n.toNat) (IntKind.u64.wrap (hI x * 2 ^ (64 - n).toNat)))]) (by simp [results, Try.results40, go_sem]) rfl ⟨rfl, (bl2 _ _ _).drew⟩
end Go.Proofs.Ytbgoclfifhdonaa
