/-
  Part 2 of the proof: 25 texts, one behind the other.
-/
import Derived.Test.YtiachojhnbicaabPart1
import Derived.ArgAppend
import Derived.Laws.CopyRow
import Derived.Laws.MakeOwn
import Derived.Laws.OwnMore
import Derived.RangeFuncNested
namespace Go.Proofs.Ytiachojhnbicaab
open Go.RowKit
set_option linter.unusedSimpArgs false
set_option linter.unusedVariables false

section
variable {P : Program}
structure Sim (b l : List Oper) (m : Nat) (E : Nat → Bool) : Prop where
  len : b.length = m
  same : ∀ i, i < m → ∀ o, l[i]? = some o → ∃ o', b[i]? = some o' ∧ o'.dst = o.dst ∧ o'.after = o.after ∧ o'.guard = o.guard ∧ (E i = false → o' = o)
theorem Sim.yield {b l : List Oper} {m : Nat} {E : Nat → Bool} (h : Sim b l m E) (hml : m ≤ l.length) (tmps : Array Value) (k : Nat) (hk : k < m) : yielded b.toArray tmps k = yielded l.toArray tmps k := by
  have hl : k < l.length := by omega
  obtain ⟨o2, q1, q2, -, -, -⟩ := h.same k hk l[k] (by simp [hl])
  unfold yielded
  simp only [List.getElem?_toArray, q1, List.getElem?_eq_getElem hl, Option.bind_some, q2]
theorem Sim.wanted {b l : List Oper} {m : Nat} {E : Nat → Bool} (h : Sim b l m E) (hml : m ≤ l.length) (a : Act) (o : Oper) (hlt : ∀ k c, o.guard = some (k, c) → k < m) : Region.wanted o (yielded b.toArray a.tmps) = Region.wanted o (yielded l.toArray a.tmps) := by
  unfold Region.wanted
  cases e : o.guard with
  | none => rfl
  | some kb =>
    obtain ⟨k, c⟩ := kb
    simp only
    rw [h.yield hml a.tmps k (hlt k c e)]
theorem Sim.ready {b l : List Oper} {m : Nat} {E : Nat → Bool} (h : Sim b l m E) (hml : m ≤ l.length) (hw : waitB l m = true) (lp : Array Bool) (hs : lp.size = m) (f : Nat) (hu : unl lp = f + 1) (i : Nat)
    (hi : i ∈ Region.ready .any l.toArray (lp ++ Array.replicate (l.length - m) false)) : i < m ∧ i ∈ Region.ready .any b.toArray lp := by
  obtain ⟨him, -⟩ := ready_pre l m m undef hml hw lp hs f hu i hi
  obtain ⟨hun, o, ho, hall⟩ := mem_ready.1 hi
  obtain ⟨o', q1, q2, q3, q4, -⟩ := h.same i him o (by simpa using ho)
  refine ⟨him, mem_ready.2 ⟨by rw [get_app_lt lp _ i (by omega)] at hun; exact hun, o', by simpa using q1, fun e he hb => ?_⟩⟩
  rw [q3] at he
  have := hall e he hb
  rwa [get_app_false] at this
theorem putAll_size : ∀ (ds : List (Option Tmp)) (vs : List Value) (a : Act), (putAll a ds vs).tmps.size = a.tmps.size
  | [], _, a => by cases ‹List Value› <;> rfl
  | d :: ds, [], a => rfl
  | d :: ds, v :: vs, a => by
    show (putAll (a.put d v) ds vs).tmps.size = _
    rw [putAll_size ds vs, put_size]
end
end Go.Proofs.Ytiachojhnbicaab
namespace Go.Proofs.Ytiachojhnbicaab
open Go.RowKit
set_option linter.unusedSimpArgs false
set_option linter.unusedVariables false

section
variable {P : Program}

theorem putAll_other : ∀ (ds : List (Option Tmp)) (vs : List Value) (a : Act) (s : Nat), (∀ d ∈ ds, d ≠ some s) → (putAll a ds vs).tmps[s]? = a.tmps[s]?
  | [], vs, a, s, _ => by cases vs <;> rfl
  | d :: ds, [], a, s, _ => rfl
  | d :: ds, v :: vs, a, s, h => by
    rw [putAll, putAll_other ds vs (a.put d v) s (fun x hx => h x (List.mem_cons_of_mem _ hx))]
    exact put_other a d v s (h d (by simp))
theorem putAll_defers : ∀ (ds : List (Option Tmp)) (vs : List Value) (a : Act), (putAll a ds vs).defers = a.defers
  | [], vs, a => by cases vs <;> rfl
  | d :: ds, [], a => rfl
  | d :: ds, v :: vs, a => by
    rw [putAll, putAll_defers ds vs (a.put d v)]
    unfold Act.put
    cases d <;> rfl
structure Slt (l : List Oper) (a A : Act) (lp : Array Bool) (a' : Act) : Prop where
  don : ∀ (k : Nat) (o : Oper) (s : Nat), l[k]? = some o → lp.getD k false = true → o.dst = some s → a'.tmps[s]? = A.tmps[s]?
  oth : ∀ s, (∀ (k : Nat) (o : Oper), l[k]? = some o → lp.getD k false = true → o.dst ≠ some s) → a'.tmps[s]? = a.tmps[s]?
  siz : a'.tmps.size = a.tmps.size
  dfr : a'.defers = a.defers
theorem getD_set {lp : Array Bool} {i k : Nat} (h : (lp.setIfInBounds i true).getD k false = true) : k = i ∨ lp.getD k false = true := by
  by_cases e : k = i
  · exact .inl e
  · right
    rw [Array.getD_eq_getD_getElem?] at h ⊢
    rwa [Array.getElem?_setIfInBounds_ne (by omega)] at h
theorem getD_set_same {lp : Array Bool} {i : Nat} (h : i < lp.size) : (lp.setIfInBounds i true).getD i false = true := by
  rw [Array.getD_eq_getD_getElem?, Array.getElem?_setIfInBounds_self_of_lt h]
  rfl
def valO (A : Act) (o : Oper) : Value := ((o.dst).bind fun s => A.tmps[s]?).getD undef
theorem gh_any {γ : Type} {l : List Oper} (ok : QpOk l l.length l.length) (hgd : ∀ o ∈ l, o.guard = none) (hdst : ∀ (i k : Nat) (oi ok : Oper) (s : Nat), l[i]? = some oi → l[k]? = some ok → oi.dst = some s → ok.dst = some s → i = k) {Q : Exit → Act → World → Prop} {a : Act} (A : γ → Act) (hsz : ∀ g, (A g).tmps.size = a.tmps.size) (hdf : ∀ g, (A g).defers = a.defers) (hA : ∀ g s, (∀ o ∈ l, o.dst ≠ some s) → (A g).tmps[s]? = a.tmps[s]?) (R : Array Bool → γ → World → Prop)
    (hstep : ∀ (i : Nat) (o : Oper) (lp : Array Bool) (g : γ) (w' : World) (a' : Act), l[i]? = some o → lp.size = l.length → lp.getD i false = false → (∀ e ∈ o.after, Region.binds .any e = true → lp.getD e.on false = true) → R lp g w' → Slt l a (A g) lp a' →
      ∀ (K : Act → World → Prop) Q', (∀ g' w'', (∀ (k : Nat) (o : Oper) (s : Nat), l[k]? = some o → lp.getD k false = true → o.dst = some s → (A g').tmps[s]? = (A g).tmps[s]?) → R (lp.setIfInBounds i true) g' w'' → ∀ v, valO (A g') o = v → K (a'.put o.dst v) w'') → o.wp P a' w' K Q')
    (hpost : ∀ g w', R (Array.replicate l.length true) g w' → Q .normal (A g) w') :
    ∀ (fuel : Nat) (lp : Array Bool) (g : γ) (a' : Act) (w : World), lp.size = l.length → unl lp = fuel → R lp g w → Slt l a (A g) lp a' → wpAny P .any l.toArray Q fuel lp a' w := by
  intro fuel
  have fin : ∀ (lp : Array Bool) (g : γ) (a' : Act) (w : World), lp.size = l.length → unl lp = 0 → R lp g w → Slt l a (A g) lp a' → Q .normal a' w := by
    intro lp g a' w hs hu hR hS
    have e : lp = Array.replicate l.length true := by have := unl_zero lp hu; rwa [hs] at this
    rw [e] at hR hS
    have : a' = A g := by
      have ht : a'.tmps = (A g).tmps := by
        apply Array.ext_getElem?
        intro s
        by_cases h : ∃ (k : Nat) (o : Oper), l[k]? = some o ∧ o.dst = some s
        · obtain ⟨k, o, h1, h2⟩ := h
          have hk : k < l.length := (List.getElem?_eq_some_iff.mp h1).1
          exact hS.don k o s h1 (by simp [Array.getElem?_replicate, hk]) h2
        · have h' : ∀ o ∈ l, o.dst ≠ some s := by
            intro o ho e
            obtain ⟨k, hk, rfl⟩ := List.mem_iff_getElem.mp ho
            exact h ⟨k, l[k], List.getElem?_eq_getElem hk, e⟩
          rw [hA g s h']
          exact hS.oth s (fun k o h1 _ e => h ⟨k, o, h1, e⟩)
      have hd : a'.defers = (A g).defers := by rw [hS.dfr, hdf]
      cases a'
      cases hAg : A g
      rw [hAg] at ht hd
      simp only at ht hd
      rw [ht, hd]
    rw [this]
    exact hpost g w hR
  induction fuel with
  | zero =>
    intro lp g a' w hs hu hR hS
    refine ⟨?_, fin lp g a' w hs hu hR hS⟩
    have e : lp = Array.replicate l.length true := by have := unl_zero lp hu; rwa [hs] at this
    apply List.eq_nil_iff_forall_not_mem.mpr
    intro i hi
    obtain ⟨hun, o, ho, _⟩ := mem_ready.1 hi
    have hk : i < l.length := by
      have := (Array.getElem?_eq_some_iff.mp ho).1
      simpa using this
    rw [e] at hun
    simp [Array.getElem?_replicate, hk] at hun
  | succ fuel ih =>
    intro lp g a' w hs hu hR hS
    refine ⟨fun e => ?_, fun i hi => ?_⟩
    · obtain ⟨k, hk, hf⟩ := unl_some lp fuel hu
      have hne := some_ready ok lp hs k (by omega) hf
      rw [Nat.sub_self] at hne
      exact absurd (by simpa using e) hne
    · obtain ⟨hun, o, ho, hrd⟩ := mem_ready.1 hi
      have ho' : l[i]? = some o := by simpa using ho
      have hil : i < l.length := (List.getElem?_eq_some_iff.mp ho').1
      have hun' : lp.getD i false = false := by
        rw [Array.getD_eq_getD_getElem?] at hun ⊢
        cases q : lp[i]? with
        | none => rfl
        | some b => rw [q] at hun; simpa using hun
      unfold wpOp
      simp only [ho]
      rw [if_pos (by simp [Region.wanted, hgd o (List.mem_of_getElem? ho')])]
      left
      refine hstep i o lp g w a' ho' hs hun' (fun e he hb => hrd e he hb) hR hS _ _ ?_
      intro g' w'' hsame hR' v hv
      subst hv
      refine ih _ g' _ w'' (by simp [hs]) (by have := unl_set lp i hun; omega) hR' ⟨?_, ?_, ?_, ?_⟩
      · intro k ok s hk hl hd
        rcases getD_set hl with rfl | hl'
        · have : ok = o := by rw [ho'] at hk; cases hk; rfl
          subst this
          unfold Act.put valO
          rw [hd]
          simp only [Option.bind_some]
          by_cases hlt : s < a'.tmps.size
          · rw [Array.getElem?_setIfInBounds_self_of_lt hlt]
            have h2 : s < (A g').tmps.size := by rw [hsz, ← hS.siz]; exact hlt
            rw [Array.getElem?_eq_getElem h2]
            rfl
          · rw [Array.getElem?_eq_none (by simp; omega), Array.getElem?_eq_none (by rw [hsz, ← hS.siz]; omega)]
        · rw [put_other a' o.dst _ s (fun e => by
            have := hdst k i ok o s hk ho' hd e
            subst this
            rw [hun'] at hl'
            cases hl'), hS.don k ok s hk hl' hd, hsame k ok s hk hl' hd]
      · intro s h
        have hne : o.dst ≠ some s := h i o ho' (getD_set_same (by omega))
        rw [put_other a' o.dst _ s hne]
        exact hS.oth s (fun k ok hk hl => h k ok hk (by
          by_cases e : k = i
          · subst e; exact getD_set_same (by omega)
          · rw [Array.getD_eq_getD_getElem?] at hl ⊢
            rwa [Array.getElem?_setIfInBounds_ne (by omega)]))
      · rw [put_size, hS.siz]
      · unfold Act.put
        cases o.dst <;> exact hS.dfr
def dstG (l : List Oper) : Bool := (List.range l.length).all fun i => (List.range l.length).all fun k => i == k || ((l[i]?).bind (·.dst)).isNone || ((l[i]?).bind (·.dst)) != ((l[k]?).bind (·.dst))
theorem dstG_of {l : List Oper} (h : dstG l = true) : ∀ (i k : Nat) (oi ok : Oper) (s : Nat), l[i]? = some oi → l[k]? = some ok → oi.dst = some s → ok.dst = some s → i = k := by
  intro i k oi ok s hi hk h1 h2
  have hil := (List.getElem?_eq_some_iff.mp hi).1
  have hkl := (List.getElem?_eq_some_iff.mp hk).1
  unfold dstG at h
  rw [List.all_eq_true] at h
  have := h i (List.mem_range.mpr hil)
  rw [List.all_eq_true] at this
  have := this k (List.mem_range.mpr hkl)
  rw [hi, hk] at this
  simp only [Option.bind_some, h1, h2] at this
  simpa using this
theorem gh_region {γ : Type} {id : Nat} {l : List Oper} (ok : QpOk l l.length l.length) (hgd : (l.all fun o => o.guard.isNone) = true) (hdst : dstG l = true) {Q : Exit → Act → World → Prop} {a : Act} {w : World} (ds : List (Option Tmp)) (vals : γ → List Value) (hm : P.follows .mixedOrders = true) (hds : ∀ d ∈ ds, ∃ o ∈ l, o.dst = d) (R : Array Bool → γ → World → Prop) (g0 : γ) (h0 : R (Array.replicate l.length false) g0 w.drew)
    (hstep : ∀ (i : Nat) (o : Oper) (lp : Array Bool) (g : γ) (w' : World) (a' : Act), l[i]? = some o → lp.size = l.length → lp.getD i false = false → (∀ e ∈ o.after, Region.binds .any e = true → lp.getD e.on false = true) → R lp g w' → Slt l a (putAll a ds (vals g)) lp a' →
      ∀ (K : Act → World → Prop) Q', (∀ g' w'', (∀ (k : Nat) (o : Oper) (s : Nat), l[k]? = some o → lp.getD k false = true → o.dst = some s → (putAll a ds (vals g')).tmps[s]? = (putAll a ds (vals g)).tmps[s]?) → R (lp.setIfInBounds i true) g' w'' → ∀ v, valO (putAll a ds (vals g')) o = v → K (a'.put o.dst v) w'') → o.wp P a' w' K Q')
    (hpost : ∀ g w', R (Array.replicate l.length true) g w' → Q .normal (putAll a ds (vals g)) w') : (Code.region id l.toArray true).wp P Q a w := by
  refine wp_region_any hm ?_
  have hu : unl (Array.replicate l.length false) = l.length := by unfold unl; simp
  have main := gh_any ok (fun o ho => by have := List.all_eq_true.mp hgd o ho; simpa using this) (dstG_of hdst) (A := fun g => putAll a ds (vals g)) (fun g => putAll_size _ _ _) (fun g => putAll_defers _ _ _) (fun g s h => putAll_other _ _ _ _ (fun d hd e => by obtain ⟨o, ho, hod⟩ := hds d hd; exact h o ho (by rw [hod, e]))) R hstep hpost l.length (Array.replicate l.length false) g0 a w.drew (by simp) hu h0 ⟨fun k o s hk hl => (by rw [Array.getD_eq_getD_getElem?, Array.getElem?_replicate] at hl; split at hl <;> simp at hl), fun s _ => rfl, rfl, rfl⟩
  have e1 : l.length = l.toArray.size := by simp
  rw [e1] at main
  simpa using main
end
end Go.Proofs.Ytiachojhnbicaab
namespace Go.Proofs.Ytiachojhnbicaab
open Go.RowKit Go.Shelf
set_option linter.unusedSimpArgs false
set_option linter.unusedVariables false

section
variable {P : Program}
end
end Go.Proofs.Ytiachojhnbicaab
namespace Go.Proofs.Ytiachojhnbicaab
open Go.RowKit Go.Shelf
set_option linter.unusedSimpArgs false
set_option linter.unusedVariables false

section
variable {P : Program}
end
end Go.Proofs.Ytiachojhnbicaab
namespace Go.Proofs.Ytiachojhnbicaab
open Go.RowKit
set_option linter.unusedSimpArgs false
set_option linter.unusedVariables false

end Go.Proofs.Ytiachojhnbicaab
namespace Go.Proofs.Ytiachojhnbicaab
open Go.RowKit
set_option linter.unusedSimpArgs false
set_option linter.unusedVariables false

theorem rwx_from {W : World} {ao : Option Addr} {n c k : Nat} {l : List Nat} (h : RwX cB W (.slice ao n c) l) (hk : k ≤ l.length) : RwX cB W (.slice (if c = k then ao else ao.map (·.add (k * 1))) (l.length - k) (c - k)) (l.drop k) := by
  obtain ⟨ao', c', e, hc, h⟩ := h
  injection e with e1 e2 e3
  subst e1 e3
  refine ⟨_, _, by rw [List.length_drop], by rw [List.length_drop]; omega, ?_⟩
  rcases h with h | ⟨b, off, e, h⟩
  · left; rw [h]; exact List.drop_nil
  · by_cases hck : c = k
    · left; exact List.drop_eq_nil_of_le (by omega)
    · right
      rw [if_neg hck, e]
      refine ⟨b, off + k, by simp [addA], fun j x hj => ?_⟩
      rw [List.getElem?_drop] at hj
      rw [Nat.add_assoc]
      exact h _ _ hj
end Go.Proofs.Ytiachojhnbicaab
namespace Go.Proofs.Ytiachojhnbicaab
open Go.RowKit
set_option linter.unusedSimpArgs false
set_option linter.unusedVariables false

end Go.Proofs.Ytiachojhnbicaab
namespace Go.Proofs.Ytiachojhnbicaab
open Go.RowKit
set_option linter.unusedSimpArgs false
set_option linter.unusedVariables false

def AtI (w : World) (B : Nat) (op n : Int) (v : Value) : Prop := w.cell? ⟨B, 0, none⟩ = some (.int .i64 op) ∧ w.cell? ⟨B, 1, none⟩ = some (.int .i64 n) ∧ w.cell? ⟨B, 2, none⟩ = some v
theorem AtI.below {w w' : World} {B : Nat} {op n : Int} {v : Value} (h : AtI w B op n v) (hb : Below w.heap.size w w') : AtI w' B op n v := ⟨keepc hb h.1, keepc hb h.2.1, keepc hb h.2.2⟩
end Go.Proofs.Ytiachojhnbicaab
namespace Go.Proofs.Ytiachojhnbicaab
open Go.RowKit
set_option linter.unusedSimpArgs false
set_option linter.unusedVariables false

end Go.Proofs.Ytiachojhnbicaab
namespace Go.Proofs.Ytiachojhnbicaab
open Go.RowKit
set_option linter.unusedSimpArgs false
set_option linter.unusedVariables false

end Go.Proofs.Ytiachojhnbicaab
namespace Go.Proofs.Ytiachojhnbicaab
open Go.RowKit
set_option linter.unusedSimpArgs false
set_option linter.unusedVariables false

structure Ins where
  op : Int
  n : Int
  m : List (BitVec 32)
def AtIF (w : World) (B : Nat) (op n : Int) (v : Value) : Prop := AtI w B op n v ∧ w.frozen? ⟨B, 0, none⟩ = false ∧ w.frozen? ⟨B, 1, none⟩ = false ∧ w.frozen? ⟨B, 2, none⟩ = false
theorem AtIF.below {w w' : World} {B : Nat} {op n : Int} {v : Value} (h : AtIF w B op n v) (hb : Below w.heap.size w w') : AtIF w' B op n v :=
  ⟨h.1.below hb, keepf hb h.1.1 h.2.1, keepf hb h.1.2.1 h.2.2.1, keepf hb h.1.2.2 h.2.2.2⟩
theorem bset3i {n C : Nat} {w W : World} (h : Below n w W) (hp : n ≤ C) (u0 u1 u2 : Value) : Below n w (((W.setCell ⟨C, 0, none⟩ u0).setCell ⟨C, 1, none⟩ u1).setCell ⟨C, 2, none⟩ u2) := ((h.setCell (p := ⟨C, 0, none⟩) hp _).setCell (p := ⟨C, 1, none⟩) hp _).setCell (p := ⟨C, 2, none⟩) hp _
end Go.Proofs.Ytiachojhnbicaab
namespace Go.Proofs.Ytiachojhnbicaab
open Go.RowKit Go.Shelf
set_option linter.unusedSimpArgs false
set_option linter.unusedVariables false
attribute [local go_sem] Oper.semAt_some

def KZ (Z : Nat → Prop) (W W' : World) : Prop := W.heap.size ≤ W'.heap.size ∧ ∀ (z : Nat) (o : Obj), W.heap[z]? = some o → Z z → W'.heap[z]? = some o
theorem KZ.trans {Z : Nat → Prop} {X Y V : World} (h : KZ Z X Y) (g : KZ Z Y V) : KZ Z X V := ⟨Nat.le_trans h.1 g.1, fun z o h1 h2 => g.2 z o (h.2 z o h1 h2) h2⟩
end Go.Proofs.Ytiachojhnbicaab
namespace Go.Proofs.Ytiachojhnbicaab
open Go.RowKit
set_option linter.unusedSimpArgs false
set_option linter.unusedVariables false

end Go.Proofs.Ytiachojhnbicaab
namespace Go.Proofs.Ytiachojhnbicaab
open Go.RowKit
set_option linter.unusedSimpArgs false
set_option linter.unusedVariables false

end Go.Proofs.Ytiachojhnbicaab
namespace Go.Proofs.Ytiachojhnbicaab
open Go.RowKit Go.Shelf
set_option linter.unusedSimpArgs false
set_option linter.unusedVariables false

theorem gh_quiet14 {P : Program} {o : Oper} {a' : Act} {w' : World} {K : Act → World → Prop} {Q' : Exit → Act → World → Prop} {v : Value} (hr : (execOp a'.eval o).run P w' = .ok (.value v) w') (hK : K (a'.put o.dst v) w') : o.wp P a' w' K Q' := by
  unfold Oper.wp Oper.upon
  rw [hr]
  exact hK
theorem gh_same14 {x y : Array Value} {d s : Nat} (h : x.toList.eraseIdx d = y.toList.eraseIdx d) (hs : s ≠ d) : x[s]? = y[s]? := by
  have := erase_get _ _ d s h hs
  simpa using this
theorem Slt.old14 {l : List Oper} {a A : Act} {lp : Array Bool} {a' : Act} (h : Slt l a A lp a') (s : Nat) (hs : ∀ o ∈ l, o.dst ≠ some s) : a'.tmps[s]? = a.tmps[s]? := h.oth s (fun k o hk _ => hs o (List.mem_of_getElem? hk))
structure EnW (w : World) (N G B : Nat) (W : World) (vc vb : Value) (R : List Nat) : Prop where
  b : Below w.heap.size w W
  c : W.cell? ⟨B, 0, none⟩ = some vc
  f : W.frozen? ⟨B, 0, none⟩ = false
  o : W.ownsRow w.heap.size 5 1 vb R.length (R.map cB)
  n : ∀ z, vb.ownBlock = some z → z = G ∨ N ≤ z
  s : N ≤ W.heap.size
section
variable {w W W' : World} {N G B : Nat} {vc vb vb' : Value} {R : List Nat}
theorem EnW.below (h : EnW w N G B W vc vb R) (hb : Below W.heap.size W W') : EnW w N G B W' vc vb R :=
  ⟨keepb hb h.b, keepc hb h.c, keepf hb h.c h.f, own_b13 hb h.o, h.n, Nat.le_trans h.s hb.size⟩
theorem own_cells14 {W : World} {base e size n : Nat} {v : Value} {xs : List Value} (h : W.ownsRow base e size v n xs) {z : Nat} (hz : v.ownBlock = some z) : ∃ cs T fr, W.heap[z]? = some (.cells cs T fr) := by
  rcases h.2 with ⟨rfl, -⟩ | ⟨g, cap, cur, rfl, h1, h2, -⟩
  · cases hz
  · simp only [Value.ownBlock, Option.some.injEq] at hz
    subst hz
    exact ⟨_, _, _, h2⟩
theorem EnW.kept (h : EnW w N G B W vc vb R) {row : Option Nat} (hg : W.grownBy W' row) (hN : w.heap.size ≤ N) (hr : ∀ r, row = some r → N ≤ r ∧ ∃ o : Obj, W.heap[r]? = some o ∧ o.isCells = false) : EnW w N G B W' vc vb R := by
  have hr' : ∀ r, row = some r → ∃ o : Obj, W.heap[r]? = some o ∧ o.isCells = false := fun r e => (hr r e).2
  have hB : row ≠ some B := by
    intro e
    obtain ⟨o, h1, h2⟩ := hr' B e
    have := h.c
    rw [World.cell?, h1] at this
    cases o with
    | cells cs T fr => cases h2
    | _ => simp at this
  have eB : W'.heap[B]? = W.heap[B]? := hg.block B (cell_in h.c) (fun e => hB e.symm)
  refine ⟨h.b.grown hg (Nat.le_trans hN h.s) (fun k e => by have := (hr k e).1; omega), (World.cell?_of_block (a := ⟨B, 0, none⟩) eB).trans h.c, (World.frozen?_of_block (a := ⟨B, 0, none⟩) eB).trans h.f, h.o.kept hg ?_, h.n, Nat.le_trans h.s hg.size⟩
  cases hv : vb.ownBlock with
  | none => exact .inl rfl
  | some z =>
    refine .inr fun e => ?_
    obtain ⟨o, h1, h2⟩ := hr' z e.symm
    obtain ⟨cs, T, fr, h3⟩ := own_cells14 h.o hv
    rw [h3] at h1
    cases h1
    cases h2
theorem EnW.app (h : EnW w N G B W vb vb R) (hBG : B ≠ G) (hBN : B < N) (hwB : w.heap.size ≤ N) {v' : Value} {X : List Nat} (ho : W'.ownsRow w.heap.size 5 1 v' (R ++ X).length ((R ++ X).map cB)) (hg : W.grownBy W' vb.ownBlock) (hat : ∀ z, v'.ownBlock = some z → vb.ownBlock = some z ∨ z = W.heap.size) : EnW w N G B W' vb v' (R ++ X) := by
  have hne : vb.ownBlock ≠ some B := by
    intro e
    rcases h.n B e with h1 | h1
    · exact hBG h1
    · omega
  have eB : W'.heap[B]? = W.heap[B]? := hg.block B (cell_in h.c) (fun e => hne e.symm)
  refine ⟨h.b.grown hg (Nat.le_trans hwB h.s) (fun k e => (h.o.lt k e).1), (World.cell?_of_block (a := ⟨B, 0, none⟩) eB).trans h.c, (World.frozen?_of_block (a := ⟨B, 0, none⟩) eB).trans h.f, ho, ?_, Nat.le_trans h.s hg.size⟩
  intro z hz
  rcases hat z hz with h1 | h1
  · exact h.n z h1
  · exact .inr (by rw [h1]; exact h.s)
theorem EnW.set (h : EnW w N G B W vc vb R) (hBG : B ≠ G) (hBN : B < N) (hwB : w.heap.size ≤ B) : EnW w N G B (W.setCell ⟨B, 0, none⟩ vb) vb vb R := by
  have hne : vb.ownBlock ≠ some B := by
    intro e
    rcases h.n B e with h1 | h1
    · exact hBG h1
    · omega
  have hc := h.c
  have hf := h.f
  refine ⟨h.b.setCell (p := ⟨B, 0, none⟩) hwB _, by simp [go_sem, hc], by simp [go_sem, hf], ?_, h.n, by simp [World.setCell]; exact h.s⟩
  refine ⟨h.o.1, ?_⟩
  rcases h.o.2 with h1 | ⟨g, cap, cur, e, h1, h2, h3⟩
  · exact .inl h1
  · refine .inr ⟨g, cap, cur, e, h1, ?_, h3⟩
    have hgB : ¬ g = B := by
      rintro rfl
      exact hne (by rw [e]; rfl)
    exact (Below.heap_setCell W ⟨B, 0, none⟩ vb g hgB).trans h2
end
theorem KZ.refl (Z : Nat → Prop) (W : World) : KZ Z W W := ⟨Nat.le_refl _, fun _ _ h _ => h⟩
end Go.Proofs.Ytiachojhnbicaab
namespace Go.Proofs.Ytiachojhnbicaab
open Go.RowKit Go.Shelf
set_option linter.unusedSimpArgs false
set_option linter.unusedVariables false

theorem at_16 {W : World} {z : Nat} {cs : Array Value} {T : TypeId} (hz : W.heap[z]? = some (.cells cs T)) (j : Nat) (u : Value) (hj : cs[j]? = some u) : W.cell? ⟨z, j, none⟩ = some u := by
  simp [World.cell?, hz, hj]
theorem fr_16 {W : World} {z j : Nat} {cs : Array Value} {T : TypeId} (h : W.heap[z]? = some (.cells cs T)) : W.frozen? ⟨z, j, none⟩ = false := by simp [World.frozen?, h]
theorem set_16 {W : World} {P o : Nat} {cs : Array Value} {T : TypeId} (h : W.heap[P]? = some (.cells cs T)) (v : Value) : (W.setCell ⟨P, o, none⟩ v).heap[P]? = some (.cells (cs.setIfInBounds o v) T) := by
  simp [World.setCell, Array.getElem?_modify, h]
theorem lt_16 {w : World} {z : Nat} {o : Obj} (hz : w.heap[z]? = some o) : z < w.heap.size := (Array.getElem?_eq_some_iff.1 hz).1
theorem far_16 {W : World} {z P o : Nat} {v : Value} (h : z ≠ P) : (W.setCell ⟨P, o, none⟩ v).heap[z]? = W.heap[z]? := Below.heap_setCell W ⟨P, o, none⟩ v z h
theorem new_16 (W : World) (o : Obj) : (W.alloc o).heap[W.heap.size]? = some o := World.alloc_heap_new W o
def KX (X : Nat → Prop) (V U : World) : Prop := V.heap.size ≤ U.heap.size ∧ ∀ z, z < V.heap.size → ¬ X z → U.heap[z]? = V.heap[z]?
theorem KX.refl (X : Nat → Prop) (V : World) : KX X V V := ⟨Nat.le_refl _, fun _ _ _ => rfl⟩
theorem KX.trans {X : Nat → Prop} {A B C : World} (h : KX X A B) (g : KX X B C) : KX X A C := ⟨Nat.le_trans h.1 g.1, fun z h1 h2 => (g.2 z (Nat.lt_of_lt_of_le h1 h.1) h2).trans (h.2 z h1 h2)⟩
theorem KX.below {X : Nat → Prop} {V U U' : World} (h : KX X V U) (hb : Below U.heap.size U U') : KX X V U' := ⟨Nat.le_trans h.1 hb.size, fun z h1 h2 => (hb.block z (Nat.lt_of_lt_of_le h1 h.1)).trans (h.2 z h1 h2)⟩
theorem KX.set {X : Nat → Prop} {V U : World} (h : KX X V U) (b o : Nat) (u : Value) (hb : X b ∨ V.heap.size ≤ b) : KX X V (U.setCell ⟨b, o, none⟩ u) := ⟨by simpa using h.1, fun z h1 h2 => (far_16 (by rintro rfl; rcases hb with q | q; exact h2 q; omega)).trans (h.2 z h1 h2)⟩
theorem KX.own {β : Type} {X : Nat → Prop} {B : Nat} {V : World} (hV : V.heap.size ≤ B) : OwnFrom B (fun (_ : β) U => KX X V U) := fun s A A' row hs hg hr => ⟨Nat.le_trans hs.1 hg.size, fun z h1 h2 => (hg.block z (Nat.lt_of_lt_of_le h1 hs.1) (fun e => by have := (hr z e.symm).1; omega)).trans (hs.2 z h1 h2)⟩
theorem own_base16 {w : World} {base base' e size n : Nat} {v : Value} {xs : List Value} (h : w.ownsRow base e size v n xs) (hb : base' ≤ base) : w.ownsRow base' e size v n xs := by
  refine ⟨h.1, ?_⟩
  rcases h.2 with hn | ⟨g, cap, cur, hv, h1, h2⟩
  · exact .inl hn
  · exact .inr ⟨g, cap, cur, hv, by omega, h2⟩
end Go.Proofs.Ytiachojhnbicaab
namespace Go.Proofs.Ytiachojhnbicaab
open Go.RowKit
set_option linter.unusedSimpArgs false
set_option linter.unusedVariables false

end Go.Proofs.Ytiachojhnbicaab
namespace Go.Proofs.Ytiachojhnbicaab
open Go.RowKit
set_option linter.unusedSimpArgs false
set_option linter.unusedVariables false

def Bx (w : World) (B : Nat) (cs : List Value) (X : World) : Prop := Below w.heap.size w X ∧ ∀ j u, cs[j]? = some u → X.cell? ⟨B, j, none⟩ = some u
theorem Bx.drew {w X : World} {B : Nat} {cs : List Value} (h : Bx w B cs X) : Bx w B cs X.drew := ⟨h.1.drew, h.2⟩
theorem ex17 {P : Program} {w : World} {s : Sem Value} {v : Value} (h : s.run P w = .ok v w) : (do pure (Next.value (← s)) : Sem Next).run P w = .ok (.value v) w := by
  simp only [Sem.run_bind, h, Sem.run_pure, Result.andThen_ok]
end Go.Proofs.Ytiachojhnbicaab
namespace Go.Proofs.Ytiachojhnbicaab
open Go.RowKit
set_option linter.unusedSimpArgs false
set_option linter.unusedVariables false

section
variable {P : Program}

end
end Go.Proofs.Ytiachojhnbicaab
namespace Go.Proofs.Ytiachojhnbicaab
open Go.RowKit
set_option linter.unusedSimpArgs false
set_option linter.unusedVariables false

end Go.Proofs.Ytiachojhnbicaab
namespace Go.Proofs.Ytiachojhnbicaab
open Go.RowKit
set_option linter.unusedSimpArgs false
set_option linter.unusedVariables false

theorem bsA_list (l : List Nat) : (bsA l).toList = l.map UInt8.ofNat := by unfold bsA; exact ByteArray.toList_mk _
theorem map_u8_inj : ∀ {x y : List Nat}, (∀ b ∈ x, b < 256) → (∀ b ∈ y, b < 256) → x.map UInt8.ofNat = y.map UInt8.ofNat → x = y
  | [], [], _, _, _ => rfl
  | [], _ :: _, _, _, h => by cases h
  | _ :: _, [], _, _, h => by cases h
  | a :: x, b :: y, hx, hy, h => by
    rw [List.map_cons, List.map_cons] at h
    injection h with h1 h2
    have ha := hx a (List.mem_cons_self ..)
    have hb := hy b (List.mem_cons_self ..)
    have h3 : (UInt8.ofNat a).toNat = (UInt8.ofNat b).toNat := by rw [h1]
    rw [UInt8.toNat_ofNat', UInt8.toNat_ofNat', Nat.mod_eq_of_lt ha, Nat.mod_eq_of_lt hb] at h3
    rw [h3, map_u8_inj (fun q hq => hx q (List.mem_cons_of_mem _ hq)) (fun q hq => hy q (List.mem_cons_of_mem _ hq)) h2]
theorem bsA_eq {x y : List Nat} (hx : ∀ b ∈ x, b < 256) (hy : ∀ b ∈ y, b < 256) : ((bsA x).toList == (bsA y).toList) = decide (x = y) := by
  rw [bsA_list, bsA_list, Bool.eq_iff_iff]
  simp only [beq_iff_eq, decide_eq_true_eq]
  exact ⟨map_u8_inj hx hy, fun h => by rw [h]⟩
end Go.Proofs.Ytiachojhnbicaab
namespace Go.Proofs.Ytiachojhnbicaab
open Go.RowKit Go.Shelf
set_option linter.unusedSimpArgs false
set_option linter.unusedVariables false
attribute [local go_sem] Oper.semAt_some

theorem AtI.grown {W W' : World} {B : Nat} {o n : Int} {v : Value} {row : Option Nat} (h : AtI W B o n v) (hg : W.grownBy W' row) (hne : some B ≠ row) : AtI W' B o n v := ⟨hg.cell h.1 hne, hg.cell h.2.1 hne, hg.cell h.2.2 hne⟩
end Go.Proofs.Ytiachojhnbicaab
namespace Go.Proofs.Ytiachojhnbicaab
open Go.RowKit
set_option linter.unusedSimpArgs false
set_option linter.unusedVariables false

def Bo21 (W : World) (v u : Value) (a b : List Nat) : Prop := RwX cB W v a ∧ RwX cB W u b
theorem Bo21.below {W W' : World} {v u : Value} {a b : List Nat} (h : Bo21 W v u a b) (hb : Below W.heap.size W W') : Bo21 W' v u a b := ⟨h.1.below hb, h.2.below hb⟩
theorem rwx_get {w : World} {ao : Option Addr} {n c : Nat} {l : List Nat} (h : RwX cB w (.slice ao n c) l) (hl : 0 < l.length) : ∃ b off, ao = some ⟨b, off, none⟩ ∧ ∀ (j x : Nat), l[j]? = some x → w.cell? ⟨b, off + j, none⟩ = some (.int .u8 (x : Int)) := by
  obtain ⟨ao', c', e, hc, h⟩ := h
  injection e with e1 e2 e3
  subst e1
  rcases h with h | ⟨b, off, e2, h⟩
  · rw [h] at hl; cases hl
  · exact ⟨b, off, e2, h⟩
theorem min_21 (a b : Int) (w : World) : (Builtin.min_ #[3, 3] 3 #[.int .i64 a, .int .i64 b]).run Try.prog w = .ok (.int .i64 (min a b)) w := by
  by_cases h : a ≤ b
  · rw [Int.min_eq_left h]
    by_cases h2 : a = b
    · subst h2; go_simp
    · have h3 : a < b := by omega
      go_simp
      try simp [*]
      try omega
  · rw [Int.min_eq_right (by omega)]
    have h3 : ¬ a < b := by omega
    have h4 : b < a := by omega
    go_simp
    try simp [*]
    try omega
theorem u8_bne {x y : Nat} (h : ¬ x = y) : ((x : Int) == (y : Int)) = false := by simp; omega
set_option maxRecDepth 100000 in
set_option maxHeartbeats 4000000 in
theorem first21 (v u : Value) (a b : List Nat) (w : World) (hv : RwX cB w v a) (hu : RwX cB w u b) (hl : a.length ≤ 140737488355328) :
    Calls Try.prog 10 #[v, u] w fun e w' => e = .returned (.int .i64 ((cpN a b : Nat) : Int)) ∧ Below w.heap.size w w' := by
  obtain ⟨ao, c, hvf, -⟩ := id hv
  obtain ⟨bo, d, huf, -⟩ := id hu
  subst hvf huf
  have mn := min_21 (a.length : Int) (b.length : Int)
  obtain ⟨m, hm⟩ : ∃ m : Int, m = min (a.length : Int) (b.length : Int) := ⟨_, rfl⟩
  rw [← hm] at mn
  have HM : Hid (m = ((min a.length b.length : Nat) : Int)) := by show _ = _; rw [hm]; omega
  have HT : Hid (Bo21 w (.slice ao a.length c) (.slice bo b.length d) a b) := ⟨hv, hu⟩
  have HB : Hid (Below w.heap.size w w) := Below.refl _ _
  have HL := hid13 hl
  clear hm hv hu hl
  go_enter Try.func10, Try.ntmps10
  go_wp2
  go_loopg [5] (min a.length b.length) (fun g x wr => ∃ (k : Nat), k + g = min a.length b.length ∧ x = .int .i64 (k : Int) ∧ Hid (Bo21 wr (.slice ao a.length c) (.slice bo b.length d) a b ∧ Below w.heap.size w wr) ∧ Hid (a.take k = b.take k))
  case atStart => exact ⟨0, by omega, rfl, ⟨HT.out, HB.out⟩, by show _ = _; simp⟩
  case round =>
    clear HT HB
    obtain ⟨k, hk, rfl, HW, HP⟩ := hrel
    by_cases hlt : k < min a.length b.length
    · have hl1 : k < a.length := by omega
      have hl2 : k < b.length := by omega
      have l1 : (k : Int) < (a.length : Int) := by omega
      have l2 : (k : Int) < (b.length : Int) := by omega
      have lm : (k : Int) < m := by rw [HM.out]; omega
      obtain ⟨x, hx⟩ : ∃ x, a[k]? = some x := ⟨a[k], by simp [hl1]⟩
      obtain ⟨y, hy⟩ : ∃ y, b[k]? = some y := ⟨b[k], by simp [hl2]⟩
      obtain ⟨b1, f1, hao, hc1⟩ := rwx_get HW.out.1.1 (by omega)
      obtain ⟨b2, f2, hbo, hc2⟩ := rwx_get HW.out.1.2 (by omega)
      subst hao hbo
      have r1 := hc1 k x hx
      have r2 := hc2 k y hy
      have mk : IntKind.i64.wrap ((k : Int) + 1) = (k : Int) + 1 := by rw [IntKind.wrap_i64]; have := HL.out; omega
      have HX : Hid (a[k]? = some x ∧ b[k]? = some y ∧ k < min a.length b.length ∧ k + gk = min a.length b.length) := ⟨hx, hy, hlt, hk⟩
      clear hc1 hc2 hx hy hlt hl1 hl2 hk
      by_cases hxy : x = y
      · subst hxy
        have HP2 : Hid (a.take (k + 1) = b.take (k + 1)) := by
          show _ = _
          rw [List.take_add_one, List.take_add_one, HX.out.1, HX.out.2.1, HP.out]
        clear HP
        go_wp2
        go_quiet (fail)
        have HW2 : Hid (Bo21 (wr.drewN nq) _ _ a b ∧ Below w.heap.size w (wr.drewN nq)) := ⟨HW.out.1.below (below_drewN (Below.refl _ _) nq), below_drewN HW.out.2 nq⟩
        clear HW r1 r2
        go_wp2
        go_roundg (gk - 1)
        case measure => have := HX.out; omega
        case rel => exact ⟨k + 1, by have := HX.out; omega, rfl, HW2, HP2⟩
      · have eb : ((x : Int) == (y : Int)) = false := u8_bne hxy
        have HF : Hid (cpN a b = k) := by
          show _ = _
          refine cpN_of a b k HP.out (by have := HX.out; omega) (by have := HX.out; omega) (.inr (.inr ?_))
          rw [HX.out.1, HX.out.2.1]
          intro e
          injection e with e
          exact hxy e
        clear HP hxy
        go_wp2
        go_quiet (fail)
        have HW2 : Hid (Below w.heap.size w (wr.drewN nq)) := below_drewN HW.out.2 nq
        clear HW r1 r2
        go_wp2
        go_ret
        exact ⟨by rw [HF.out]; rfl, HW2.out⟩
    · have lm : decide ((k : Int) < m) = false := by rw [HM.out]; exact decide_eq_false (by omega)
      have HF : Hid (cpN a b = k) := by
        show _ = _
        exact cpN_of a b k HP.out (by omega) (by omega) (by omega)
      clear HP hlt hk
      go_wp2
      go_quiet (fail)
      have HW2 : Hid (Below w.heap.size w (wr.drewN nq)) := below_drewN HW.out.2 nq
      clear HW
      go_wp2
      go_ret
      exact ⟨by rw [HF.out]; rfl, HW2.out⟩
set_option maxRecDepth 100000 in
set_option maxHeartbeats 4000000 in
theorem last21 (v u : Value) (a b : List Nat) (w : World) (hv : RwX cB w v a) (hu : RwX cB w u b) (hl : a.length ≤ 140737488355328) (hl2 : b.length ≤ 140737488355328) :
    Calls Try.prog 11 #[v, u] w fun e w' => e = .returned (.int .i64 ((csN a b : Nat) : Int)) ∧ Below w.heap.size w w' := by
  obtain ⟨ao, c, hvf, -⟩ := id hv
  obtain ⟨bo, d, huf, -⟩ := id hu
  subst hvf huf
  have mn := min_21 (a.length : Int) (b.length : Int)
  obtain ⟨m, hm⟩ : ∃ m : Int, m = min (a.length : Int) (b.length : Int) := ⟨_, rfl⟩
  rw [← hm] at mn
  have HM : Hid (m = ((min a.length b.length : Nat) : Int)) := by show _ = _; rw [hm]; omega
  have HT : Hid (Bo21 w (.slice ao a.length c) (.slice bo b.length d) a b) := ⟨hv, hu⟩
  have HB : Hid (Below w.heap.size w w) := Below.refl _ _
  have HL := hid13 hl
  have HL2 := hid13 hl2
  clear hm hv hu hl hl2
  go_enter Try.func11, Try.ntmps11
  go_wp2
  go_loopg [5] (min a.length b.length) (fun g x wr => ∃ (k : Nat), k + g = min a.length b.length ∧ x = .int .i64 (k : Int) ∧ Hid (Bo21 wr (.slice ao a.length c) (.slice bo b.length d) a b ∧ Below w.heap.size w wr) ∧ Hid (∀ j < k, a[a.length - 1 - j]? = b[b.length - 1 - j]?))
  case atStart => exact ⟨0, by omega, rfl, ⟨HT.out, HB.out⟩, fun j hj => absurd hj (Nat.not_lt_zero _)⟩
  case round =>
    clear HT HB
    obtain ⟨k, hk, rfl, HW, HP⟩ := hrel
    by_cases hlt : k < min a.length b.length
    · have hl1 : k < a.length := by omega
      have hl2 : k < b.length := by omega
      have l1 : (k : Int) < (a.length : Int) := by omega
      have l2 : (k : Int) < (b.length : Int) := by omega
      have lm : (k : Int) < m := by rw [HM.out]; omega
      obtain ⟨x, hx⟩ : ∃ x, a[a.length - 1 - k]? = some x := ⟨a[a.length - 1 - k], List.getElem?_eq_getElem (by omega)⟩
      obtain ⟨y, hy⟩ : ∃ y, b[b.length - 1 - k]? = some y := ⟨b[b.length - 1 - k], List.getElem?_eq_getElem (by omega)⟩
      obtain ⟨b1, f1, hao, hc1⟩ := rwx_get HW.out.1.1 (by omega)
      obtain ⟨b2, f2, hbo, hc2⟩ := rwx_get HW.out.1.2 (by omega)
      subst hao hbo
      have r1 := hc1 _ x hx
      have r2 := hc2 _ y hy
      have wa1 : IntKind.i64.wrap ((a.length : Int) - 1) = (a.length : Int) - 1 := by rw [IntKind.wrap_i64]; have := HL.out; omega
      have wa2 : IntKind.i64.wrap ((a.length : Int) - 1 - (k : Int)) = ((a.length - 1 - k : Nat) : Int) := by rw [IntKind.wrap_i64]; have := HL.out; omega
      have wb1 : IntKind.i64.wrap ((b.length : Int) - 1) = (b.length : Int) - 1 := by rw [IntKind.wrap_i64]; have := HL2.out; omega
      have wb2 : IntKind.i64.wrap ((b.length : Int) - 1 - (k : Int)) = ((b.length - 1 - k : Nat) : Int) := by rw [IntKind.wrap_i64]; have := HL2.out; omega
      have l1' : ((a.length - 1 - k : Nat) : Int) < (a.length : Int) := by omega
      have l2' : ((b.length - 1 - k : Nat) : Int) < (b.length : Int) := by omega
      have mk : IntKind.i64.wrap ((k : Int) + 1) = (k : Int) + 1 := by rw [IntKind.wrap_i64]; have := HL.out; omega
      have HX : Hid (a[a.length - 1 - k]? = some x ∧ b[b.length - 1 - k]? = some y ∧ k < min a.length b.length ∧ k + gk = min a.length b.length) := ⟨hx, hy, hlt, hk⟩
      clear hc1 hc2 hx hy hlt hl1 hl2 hk
      by_cases hxy : x = y
      · subst hxy
        have HP2 : Hid (∀ j < k + 1, a[a.length - 1 - j]? = b[b.length - 1 - j]?) := by
          intro j hj
          by_cases e : j = k
          · rw [e, HX.out.1, HX.out.2.1]
          · exact HP.out j (by omega)
        clear HP
        go_wp2
        go_quiet (fail)
        have HW2 : Hid (Bo21 (wr.drewN nq) _ _ a b ∧ Below w.heap.size w (wr.drewN nq)) := ⟨HW.out.1.below (below_drewN (Below.refl _ _) nq), below_drewN HW.out.2 nq⟩
        clear HW r1 r2
        go_wp2
        go_roundg (gk - 1)
        case measure => have := HX.out; omega
        case rel => exact ⟨k + 1, by have := HX.out; omega, rfl, HW2, HP2⟩
      · have eb : ((x : Int) == (y : Int)) = false := u8_bne hxy
        have HF : Hid (csN a b = k) := by
          show _ = _
          refine csN_of a b k HP.out (by have := HX.out; omega) (by have := HX.out; omega) (.inr (.inr ?_))
          rw [HX.out.1, HX.out.2.1]
          intro e
          injection e with e
          exact hxy e
        clear HP hxy
        go_wp2
        go_quiet (fail)
        have HW2 : Hid (Below w.heap.size w (wr.drewN nq)) := below_drewN HW.out.2 nq
        clear HW r1 r2
        go_wp2
        go_ret
        exact ⟨by rw [HF.out]; rfl, HW2.out⟩
    · have lm : decide ((k : Int) < m) = false := by rw [HM.out]; exact decide_eq_false (by omega)
      have HF : Hid (csN a b = k) := by
        show _ = _
        exact csN_of a b k HP.out (by omega) (by omega) (by omega)
      clear HP hlt hk
      go_wp2
      go_quiet (fail)
      have HW2 : Hid (Below w.heap.size w (wr.drewN nq)) := below_drewN HW.out.2 nq
      clear HW
      go_wp2
      go_ret
      exact ⟨by rw [HF.out]; rfl, HW2.out⟩
end Go.Proofs.Ytiachojhnbicaab
namespace Go.Proofs.Ytiachojhnbicaab
open Go.RowKit Go.Shelf
set_option linter.unusedSimpArgs false
set_option linter.unusedVariables false

section
variable {P : Program}
end
end Go.Proofs.Ytiachojhnbicaab
namespace Go.Proofs.Ytiachojhnbicaab
open Go.RowKit Go.Shelf
set_option linter.unusedSimpArgs false
set_option linter.unusedVariables false
attribute [local go_sem] Oper.semAt_some

end Go.Proofs.Ytiachojhnbicaab
