/-
  Part 3 of the proof: 23 texts, one behind the other.
-/
import Derived.Test.YtiachojhnbicaabDoorPart2
import Derived.RangeFuncNested
import Derived.RangeFuncBound
import Derived.RangeFuncCalls
import Derived.RangeFuncLeaves
import Derived.Shelf.Abstract
import Derived.Shelf.RegionOpen
import Derived.WalkKit
import Derived.OwnWalkIn
import Derived.TacticsInMore
import Derived.LoopNIn
import Derived.LoopIn
import Derived.Test.YtiachojhnbicaabDoorPart1
import Derived.ArgAppend
import Derived.Laws.CopyRow
import Derived.Laws.MakeOwn
import Derived.Laws.OwnMore
namespace Go.Proofs.YtiachojhnbicaabDoor
open Go.RowKit Go.Shelf
set_option linter.unusedSimpArgs false
set_option linter.unusedVariables false

section
variable {P : Program}
structure Bk (B : Nat) (r : Loop) (W : World) : Prop where
  rec' : W.heap[B + 1]? = some (.loop r)
  dfr : W.heap[B]? = some (.deferred (some []))
theorem Bk.lt {B : Nat} {r : Loop} {W : World} (k : Bk B r W) : B + 1 < W.heap.size := (Array.getElem?_eq_some_iff.1 k.rec').1
theorem Bk.grown {B : Nat} {r : Loop} {W W' : World} {row : Option Nat} (k : Bk B r W) (h : W.grownBy W' row) (hr : ∀ z, row = some z → B + 2 ≤ z) : Bk B r W' := by
  have hl := k.lt
  exact ⟨(h.block _ hl (fun e => by have := hr _ e.symm; omega)).trans k.rec', (h.block _ (by omega) (fun e => by have := hr _ e.symm; omega)).trans k.dfr⟩
def KW (Z : Nat → Prop) (B : Nat) (W W' : World) : Prop := W.heap.size ≤ W'.heap.size ∧ ∀ (z : Nat) (o : Obj), W.heap[z]? = some o → (Z z ∨ B ≤ z) → W'.heap[z]? = some o
theorem KW.trans {Z : Nat → Prop} {B : Nat} {X Y V : World} (h : KW Z B X Y) (g : KW Z B Y V) : KW Z B X V := ⟨Nat.le_trans h.1 g.1, fun z o h1 h2 => g.2 z o (h.2 z o h1 h2) h2⟩
theorem KW.refl (Z : Nat → Prop) (B : Nat) (W : World) : KW Z B W W := ⟨Nat.le_refl _, fun _ _ h _ => h⟩
end
end Go.Proofs.YtiachojhnbicaabDoor
namespace Go.Proofs.YtiachojhnbicaabDoor
open Go.RowKit
set_option linter.unusedSimpArgs false
set_option linter.unusedVariables false

section
variable {P : Program}
structure Sim (b l : List Oper) (m : Nat) (E : Nat → Bool) : Prop where
  len : b.length = m
  same : ∀ i, i < m → ∀ o, l[i]? = some o → ∃ o', b[i]? = some o' ∧ o'.dst = o.dst ∧ o'.after = o.after ∧ o'.guard = o.guard ∧ (E i = false → o' = o)
theorem Sim.yield {b l : List Oper} {m : Nat} {E : Nat → Bool} (h : Sim b l m E) (hml : m ≤ l.length) (tmps : Array Value) (k : Nat) (hk : k < m) : yielded b.toArray tmps k = yielded l.toArray tmps k := by
  have hl : k < l.length := by omega
  obtain ⟨o2, q1, q2, -, -, -⟩ := h.same k hk l[k] (by simp [hl])
  unfold yielded
  simp only [List.getElem?_toArray, q1, List.getElem?_eq_getElem hl, Option.bind_some, q2]
theorem Sim.wanted {b l : List Oper} {m : Nat} {E : Nat → Bool} (h : Sim b l m E) (hml : m ≤ l.length) (a : Act) (o : Oper) (hlt : ∀ k c, o.guard = some (k, c) → k < m) : Region.wanted o (yielded b.toArray a.tmps) = Region.wanted o (yielded l.toArray a.tmps) := by
  unfold Region.wanted
  cases e : o.guard with
  | none => rfl
  | some kb =>
    obtain ⟨k, c⟩ := kb
    simp only
    rw [h.yield hml a.tmps k (hlt k c e)]
theorem Sim.ready {b l : List Oper} {m : Nat} {E : Nat → Bool} (h : Sim b l m E) (hml : m ≤ l.length) (hw : waitB l m = true) (lp : Array Bool) (hs : lp.size = m) (f : Nat) (hu : unl lp = f + 1) (i : Nat)
    (hi : i ∈ Region.ready .any l.toArray (lp ++ Array.replicate (l.length - m) false)) : i < m ∧ i ∈ Region.ready .any b.toArray lp := by
  obtain ⟨him, -⟩ := ready_pre l m m undef hml hw lp hs f hu i hi
  obtain ⟨hun, o, ho, hall⟩ := mem_ready.1 hi
  obtain ⟨o', q1, q2, q3, q4, -⟩ := h.same i him o (by simpa using ho)
  refine ⟨him, mem_ready.2 ⟨by rw [get_app_lt lp _ i (by omega)] at hun; exact hun, o', by simpa using q1, fun e he hb => ?_⟩⟩
  rw [q3] at he
  have := hall e he hb
  rwa [get_app_false] at this
theorem putAll_size : ∀ (ds : List (Option Tmp)) (vs : List Value) (a : Act), (putAll a ds vs).tmps.size = a.tmps.size
  | [], _, a => by cases ‹List Value› <;> rfl
  | d :: ds, [], a => rfl
  | d :: ds, v :: vs, a => by
    show (putAll (a.put d v) ds vs).tmps.size = _
    rw [putAll_size ds vs, put_size]
end
end Go.Proofs.YtiachojhnbicaabDoor
namespace Go.Proofs.YtiachojhnbicaabDoor
open Go.RowKit
set_option linter.unusedSimpArgs false
set_option linter.unusedVariables false

section
variable {P : Program}

theorem putAll_other : ∀ (ds : List (Option Tmp)) (vs : List Value) (a : Act) (s : Nat), (∀ d ∈ ds, d ≠ some s) → (putAll a ds vs).tmps[s]? = a.tmps[s]?
  | [], vs, a, s, _ => by cases vs <;> rfl
  | d :: ds, [], a, s, _ => rfl
  | d :: ds, v :: vs, a, s, h => by
    rw [putAll, putAll_other ds vs (a.put d v) s (fun x hx => h x (List.mem_cons_of_mem _ hx))]
    exact put_other a d v s (h d (by simp))
theorem putAll_defers : ∀ (ds : List (Option Tmp)) (vs : List Value) (a : Act), (putAll a ds vs).defers = a.defers
  | [], vs, a => by cases vs <;> rfl
  | d :: ds, [], a => rfl
  | d :: ds, v :: vs, a => by
    rw [putAll, putAll_defers ds vs (a.put d v)]
    unfold Act.put
    cases d <;> rfl
structure Slt (l : List Oper) (a A : Act) (lp : Array Bool) (a' : Act) : Prop where
  don : ∀ (k : Nat) (o : Oper) (s : Nat), l[k]? = some o → lp.getD k false = true → o.dst = some s → a'.tmps[s]? = A.tmps[s]?
  oth : ∀ s, (∀ (k : Nat) (o : Oper), l[k]? = some o → lp.getD k false = true → o.dst ≠ some s) → a'.tmps[s]? = a.tmps[s]?
  siz : a'.tmps.size = a.tmps.size
  dfr : a'.defers = a.defers
theorem getD_set {lp : Array Bool} {i k : Nat} (h : (lp.setIfInBounds i true).getD k false = true) : k = i ∨ lp.getD k false = true := by
  by_cases e : k = i
  · exact .inl e
  · right
    rw [Array.getD_eq_getD_getElem?] at h ⊢
    rwa [Array.getElem?_setIfInBounds_ne (by omega)] at h
theorem getD_set_same {lp : Array Bool} {i : Nat} (h : i < lp.size) : (lp.setIfInBounds i true).getD i false = true := by
  rw [Array.getD_eq_getD_getElem?, Array.getElem?_setIfInBounds_self_of_lt h]
  rfl
def valO (A : Act) (o : Oper) : Value := ((o.dst).bind fun s => A.tmps[s]?).getD undef
theorem gh_any {γ : Type} {l : List Oper} (ok : QpOk l l.length l.length) (hgd : ∀ o ∈ l, o.guard = none) (hdst : ∀ (i k : Nat) (oi ok : Oper) (s : Nat), l[i]? = some oi → l[k]? = some ok → oi.dst = some s → ok.dst = some s → i = k) {Q : Exit → Act → World → Prop} {a : Act} (A : γ → Act) (hsz : ∀ g, (A g).tmps.size = a.tmps.size) (hdf : ∀ g, (A g).defers = a.defers) (hA : ∀ g s, (∀ o ∈ l, o.dst ≠ some s) → (A g).tmps[s]? = a.tmps[s]?) (R : Array Bool → γ → World → Prop)
    (hstep : ∀ (i : Nat) (o : Oper) (lp : Array Bool) (g : γ) (w' : World) (a' : Act), l[i]? = some o → lp.size = l.length → lp.getD i false = false → (∀ e ∈ o.after, Region.binds .any e = true → lp.getD e.on false = true) → R lp g w' → Slt l a (A g) lp a' →
      ∀ (K : Act → World → Prop) Q', (∀ g' w'', (∀ (k : Nat) (o : Oper) (s : Nat), l[k]? = some o → lp.getD k false = true → o.dst = some s → (A g').tmps[s]? = (A g).tmps[s]?) → R (lp.setIfInBounds i true) g' w'' → ∀ v, valO (A g') o = v → K (a'.put o.dst v) w'') → o.wp P a' w' K Q')
    (hpost : ∀ g w', R (Array.replicate l.length true) g w' → Q .normal (A g) w') :
    ∀ (fuel : Nat) (lp : Array Bool) (g : γ) (a' : Act) (w : World), lp.size = l.length → unl lp = fuel → R lp g w → Slt l a (A g) lp a' → wpAny P .any l.toArray Q fuel lp a' w := by
  intro fuel
  have fin : ∀ (lp : Array Bool) (g : γ) (a' : Act) (w : World), lp.size = l.length → unl lp = 0 → R lp g w → Slt l a (A g) lp a' → Q .normal a' w := by
    intro lp g a' w hs hu hR hS
    have e : lp = Array.replicate l.length true := by have := unl_zero lp hu; rwa [hs] at this
    rw [e] at hR hS
    have : a' = A g := by
      have ht : a'.tmps = (A g).tmps := by
        apply Array.ext_getElem?
        intro s
        by_cases h : ∃ (k : Nat) (o : Oper), l[k]? = some o ∧ o.dst = some s
        · obtain ⟨k, o, h1, h2⟩ := h
          have hk : k < l.length := (List.getElem?_eq_some_iff.mp h1).1
          exact hS.don k o s h1 (by simp [Array.getElem?_replicate, hk]) h2
        · have h' : ∀ o ∈ l, o.dst ≠ some s := by
            intro o ho e
            obtain ⟨k, hk, rfl⟩ := List.mem_iff_getElem.mp ho
            exact h ⟨k, l[k], List.getElem?_eq_getElem hk, e⟩
          rw [hA g s h']
          exact hS.oth s (fun k o h1 _ e => h ⟨k, o, h1, e⟩)
      have hd : a'.defers = (A g).defers := by rw [hS.dfr, hdf]
      cases a'
      cases hAg : A g
      rw [hAg] at ht hd
      simp only at ht hd
      rw [ht, hd]
    rw [this]
    exact hpost g w hR
  induction fuel with
  | zero =>
    intro lp g a' w hs hu hR hS
    refine ⟨?_, fin lp g a' w hs hu hR hS⟩
    have e : lp = Array.replicate l.length true := by have := unl_zero lp hu; rwa [hs] at this
    apply List.eq_nil_iff_forall_not_mem.mpr
    intro i hi
    obtain ⟨hun, o, ho, _⟩ := mem_ready.1 hi
    have hk : i < l.length := by
      have := (Array.getElem?_eq_some_iff.mp ho).1
      simpa using this
    rw [e] at hun
    simp [Array.getElem?_replicate, hk] at hun
  | succ fuel ih =>
    intro lp g a' w hs hu hR hS
    refine ⟨fun e => ?_, fun i hi => ?_⟩
    · obtain ⟨k, hk, hf⟩ := unl_some lp fuel hu
      have hne := some_ready ok lp hs k (by omega) hf
      rw [Nat.sub_self] at hne
      exact absurd (by simpa using e) hne
    · obtain ⟨hun, o, ho, hrd⟩ := mem_ready.1 hi
      have ho' : l[i]? = some o := by simpa using ho
      have hil : i < l.length := (List.getElem?_eq_some_iff.mp ho').1
      have hun' : lp.getD i false = false := by
        rw [Array.getD_eq_getD_getElem?] at hun ⊢
        cases q : lp[i]? with
        | none => rfl
        | some b => rw [q] at hun; simpa using hun
      unfold wpOp
      simp only [ho]
      rw [if_pos (by simp [Region.wanted, hgd o (List.mem_of_getElem? ho')])]
      left
      refine hstep i o lp g w a' ho' hs hun' (fun e he hb => hrd e he hb) hR hS _ _ ?_
      intro g' w'' hsame hR' v hv
      subst hv
      refine ih _ g' _ w'' (by simp [hs]) (by have := unl_set lp i hun; omega) hR' ⟨?_, ?_, ?_, ?_⟩
      · intro k ok s hk hl hd
        rcases getD_set hl with rfl | hl'
        · have : ok = o := by rw [ho'] at hk; cases hk; rfl
          subst this
          unfold Act.put valO
          rw [hd]
          simp only [Option.bind_some]
          by_cases hlt : s < a'.tmps.size
          · rw [Array.getElem?_setIfInBounds_self_of_lt hlt]
            have h2 : s < (A g').tmps.size := by rw [hsz, ← hS.siz]; exact hlt
            rw [Array.getElem?_eq_getElem h2]
            rfl
          · rw [Array.getElem?_eq_none (by simp; omega), Array.getElem?_eq_none (by rw [hsz, ← hS.siz]; omega)]
        · rw [put_other a' o.dst _ s (fun e => by
            have := hdst k i ok o s hk ho' hd e
            subst this
            rw [hun'] at hl'
            cases hl'), hS.don k ok s hk hl' hd, hsame k ok s hk hl' hd]
      · intro s h
        have hne : o.dst ≠ some s := h i o ho' (getD_set_same (by omega))
        rw [put_other a' o.dst _ s hne]
        exact hS.oth s (fun k ok hk hl => h k ok hk (by
          by_cases e : k = i
          · subst e; exact getD_set_same (by omega)
          · rw [Array.getD_eq_getD_getElem?] at hl ⊢
            rwa [Array.getElem?_setIfInBounds_ne (by omega)]))
      · rw [put_size, hS.siz]
      · unfold Act.put
        cases o.dst <;> exact hS.dfr
def dstG (l : List Oper) : Bool := (List.range l.length).all fun i => (List.range l.length).all fun k => i == k || ((l[i]?).bind (·.dst)).isNone || ((l[i]?).bind (·.dst)) != ((l[k]?).bind (·.dst))
theorem dstG_of {l : List Oper} (h : dstG l = true) : ∀ (i k : Nat) (oi ok : Oper) (s : Nat), l[i]? = some oi → l[k]? = some ok → oi.dst = some s → ok.dst = some s → i = k := by
  intro i k oi ok s hi hk h1 h2
  have hil := (List.getElem?_eq_some_iff.mp hi).1
  have hkl := (List.getElem?_eq_some_iff.mp hk).1
  unfold dstG at h
  rw [List.all_eq_true] at h
  have := h i (List.mem_range.mpr hil)
  rw [List.all_eq_true] at this
  have := this k (List.mem_range.mpr hkl)
  rw [hi, hk] at this
  simp only [Option.bind_some, h1, h2] at this
  simpa using this
theorem gh_region {γ : Type} {id : Nat} {l : List Oper} (ok : QpOk l l.length l.length) (hgd : (l.all fun o => o.guard.isNone) = true) (hdst : dstG l = true) {Q : Exit → Act → World → Prop} {a : Act} {w : World} (ds : List (Option Tmp)) (vals : γ → List Value) (hm : P.follows .mixedOrders = true) (hds : ∀ d ∈ ds, ∃ o ∈ l, o.dst = d) (R : Array Bool → γ → World → Prop) (g0 : γ) (h0 : R (Array.replicate l.length false) g0 w.drew)
    (hstep : ∀ (i : Nat) (o : Oper) (lp : Array Bool) (g : γ) (w' : World) (a' : Act), l[i]? = some o → lp.size = l.length → lp.getD i false = false → (∀ e ∈ o.after, Region.binds .any e = true → lp.getD e.on false = true) → R lp g w' → Slt l a (putAll a ds (vals g)) lp a' →
      ∀ (K : Act → World → Prop) Q', (∀ g' w'', (∀ (k : Nat) (o : Oper) (s : Nat), l[k]? = some o → lp.getD k false = true → o.dst = some s → (putAll a ds (vals g')).tmps[s]? = (putAll a ds (vals g)).tmps[s]?) → R (lp.setIfInBounds i true) g' w'' → ∀ v, valO (putAll a ds (vals g')) o = v → K (a'.put o.dst v) w'') → o.wp P a' w' K Q')
    (hpost : ∀ g w', R (Array.replicate l.length true) g w' → Q .normal (putAll a ds (vals g)) w') : (Code.region id l.toArray true).wp P Q a w := by
  refine wp_region_any hm ?_
  have hu : unl (Array.replicate l.length false) = l.length := by unfold unl; simp
  have main := gh_any ok (fun o ho => by have := List.all_eq_true.mp hgd o ho; simpa using this) (dstG_of hdst) (A := fun g => putAll a ds (vals g)) (fun g => putAll_size _ _ _) (fun g => putAll_defers _ _ _) (fun g s h => putAll_other _ _ _ _ (fun d hd e => by obtain ⟨o, ho, hod⟩ := hds d hd; exact h o ho (by rw [hod, e]))) R hstep hpost l.length (Array.replicate l.length false) g0 a w.drew (by simp) hu h0 ⟨fun k o s hk hl => (by rw [Array.getD_eq_getD_getElem?, Array.getElem?_replicate] at hl; split at hl <;> simp at hl), fun s _ => rfl, rfl, rfl⟩
  have e1 : l.length = l.toArray.size := by simp
  rw [e1] at main
  simpa using main
end
end Go.Proofs.YtiachojhnbicaabDoor
namespace Go.Proofs.YtiachojhnbicaabDoor
open Go.RowKit Go.Shelf
set_option linter.unusedSimpArgs false
set_option linter.unusedVariables false

section
variable {P : Program}
end
end Go.Proofs.YtiachojhnbicaabDoor
namespace Go.Proofs.YtiachojhnbicaabDoor
open Go.RowKit Go.Shelf
set_option linter.unusedSimpArgs false
set_option linter.unusedVariables false

section
variable {P : Program}
end
end Go.Proofs.YtiachojhnbicaabDoor
namespace Go.Proofs.YtiachojhnbicaabDoor
open Go.RowKit
set_option linter.unusedSimpArgs false
set_option linter.unusedVariables false

end Go.Proofs.YtiachojhnbicaabDoor
namespace Go.Proofs.YtiachojhnbicaabDoor
open Go.RowKit
set_option linter.unusedSimpArgs false
set_option linter.unusedVariables false

theorem sum_one {W : World} {N : Nat} {v : Value} {l : List Nat} (hc : W.cell? ⟨N, 0, none⟩ = some v) (hr : RwX cB W v l) (hl : l.length ≤ 9223372036854775806) (hx : ∀ b ∈ l, b < 256) (hT : Hf W) :
    Calls Tryd.prog 14 #[.slice (some ⟨N, 0, none⟩) 1 1] W fun e w' => e = .returned (.int .u32 (uI (crS l))) ∧ w' = W := by
  have h := sum_any (.slice (some ⟨N, 0, none⟩) 1 1) [(v, l)] W ⟨_, _, rfl, Nat.le_refl _, .inr ⟨N, 0, rfl, fun j x hj => by
    match j, hj with
    | 0, hj => cases hj; exact hc
    | j + 1, hj => cases hj⟩⟩ (fun p hp => by
      simp only [List.mem_cons, List.mem_nil_iff, or_false] at hp
      subst hp
      exact ⟨hr, hl, hx⟩) (by show 1 ≤ _; decide) hT
  simp only [List.map_cons, List.map_nil, List.flatten_cons, List.flatten_nil, List.append_nil] at h
  exact h
theorem rwx_from {W : World} {ao : Option Addr} {n c k : Nat} {l : List Nat} (h : RwX cB W (.slice ao n c) l) (hk : k ≤ l.length) : RwX cB W (.slice (if c = k then ao else ao.map (·.add (k * 1))) (l.length - k) (c - k)) (l.drop k) := by
  obtain ⟨ao', c', e, hc, h⟩ := h
  injection e with e1 e2 e3
  subst e1 e3
  refine ⟨_, _, by rw [List.length_drop], by rw [List.length_drop]; omega, ?_⟩
  rcases h with h | ⟨b, off, e, h⟩
  · left; rw [h]; exact List.drop_nil
  · by_cases hck : c = k
    · left; exact List.drop_eq_nil_of_le (by omega)
    · right
      rw [if_neg hck, e]
      refine ⟨b, off + k, by simp [addA], fun j x hj => ?_⟩
      rw [List.getElem?_drop] at hj
      rw [Nat.add_assoc]
      exact h _ _ hj
end Go.Proofs.YtiachojhnbicaabDoor
namespace Go.Proofs.YtiachojhnbicaabDoor
open Go.RowKit
set_option linter.unusedSimpArgs false
set_option linter.unusedVariables false

end Go.Proofs.YtiachojhnbicaabDoor
namespace Go.Proofs.YtiachojhnbicaabDoor
open Go.RowKit
set_option linter.unusedSimpArgs false
set_option linter.unusedVariables false

def AtI (w : World) (B : Nat) (op n : Int) (v : Value) : Prop := w.cell? ⟨B, 0, none⟩ = some (.int .i64 op) ∧ w.cell? ⟨B, 1, none⟩ = some (.int .i64 n) ∧ w.cell? ⟨B, 2, none⟩ = some v
theorem AtI.below {w w' : World} {B : Nat} {op n : Int} {v : Value} (h : AtI w B op n v) (hb : Below w.heap.size w w') : AtI w' B op n v := ⟨keepc hb h.1, keepc hb h.2.1, keepc hb h.2.2⟩
end Go.Proofs.YtiachojhnbicaabDoor
namespace Go.Proofs.YtiachojhnbicaabDoor
open Go.RowKit
set_option linter.unusedSimpArgs false
set_option linter.unusedVariables false

theorem numN_snoc (l : List Nat) (b : Nat) : numN13 (l ++ [b]) = numN13 l * 256 + b := by unfold numN13; rw [List.foldl_append]; rfl
theorem fold_lt (l : List Nat) (h : ∀ b ∈ l, b < 256) : ∀ v, l.foldl (fun v b => v * 256 + b) v < (v + 1) * 256 ^ l.length := by
  induction l with
  | nil => intro v; simp
  | cons b l ih =>
    intro v
    have h1 := ih (fun x hx => h x (by simp [hx])) (v * 256 + b)
    have h2 := h b (by simp)
    rw [List.foldl_cons, List.length_cons, Nat.pow_succ]
    refine Nat.lt_of_lt_of_le h1 ?_
    rw [Nat.mul_comm (256 ^ l.length) 256, ← Nat.mul_assoc]
    exact Nat.mul_le_mul_right _ (by omega)
theorem numN_lt (l : List Nat) (h : ∀ b ∈ l, b < 256) : numN13 l < 256 ^ l.length := by
  have := fold_lt l h 0
  unfold numN13
  omega
set_option maxRecDepth 100000 in
set_option maxHeartbeats 8000000 in
theorem rget13 (v : Value) (l : List Nat) (n K : Int) (k : Nat) (hK : K = (k : Int)) (hk0 : 0 < k) (hk : k ≤ 4) (w : World) (hv : RwX cB w v l) (hl : l.length ≤ 140737488355328) (hx : ∀ b ∈ l, b < 256) (h0 : -9223372036854775808 ≤ n) (h1 : n ≤ 9223372036854775807) :
    Calls Tryd.prog 27 #[v, .int .i64 n, .int .i64 K] w fun e w' => e = .returned (.tuple #[.int .u32 ((gtN l n k : Nat) : Int), .bool (decide (0 ≤ n ∧ n ≤ (l.length : Int) - k))]) ∧ w' = w := by
  subst hK
  obtain ⟨ao, cc, rfl, hc, hv⟩ := hv
  have hli : (l.length : Int) ≤ 140737488355328 := by omega
  have hki : (k : Int) ≤ 4 := by omega
  unfold gtN
  by_cases h : 0 ≤ n ∧ n ≤ (l.length : Int) - (k : Int)
  · rw [if_pos h, decide_eq_true h]
    obtain ⟨p, rfl⟩ : ∃ p : Nat, n = (p : Int) := ⟨n.toNat, by omega⟩
    rw [Int.toNat_natCast]
    have hp : p + k ≤ l.length := by omega
    obtain ⟨bo, off, rfl, hcell⟩ : ∃ bo off, ao = some ⟨bo, off, none⟩ ∧ ∀ j x, l[j]? = some x → w.cell? ⟨bo, off + j, none⟩ = some (cB x) := by
      rcases hv with h | h
      · rw [h] at hp; simp at hp; omega
      · exact h
    have hpk : wrap64 ((p : Int) + (k : Int)) = (p : Int) + (k : Int) := by unfold wrap64; omega
    have c1 : ¬ (l.length : Int) < (p : Int) := by omega
    have c2 : ¬ (l.length : Int) - (p : Int) < (k : Int) := by omega
    have HX := hid13 hx
    have HC := hid13 hcell
    have HP := hid13 hp
    have HK4 := hid13 hk
    clear h hv hcell hx hc h0 h1 hp hk hk0
    go_enter Tryd.func27, Tryd.ntmps27
    go_wp2_with fail
    clear c1 c2
    go_loopg [8, 9] k (fun g a i wr => wr = w ∧ ∃ (q : Nat) (M : Int), q + g = p + k ∧ g ≤ k ∧ i = .int .i64 (q : Int) ∧ a = .int .u32 M ∧ Hid (M = ((numN13 ((l.drop p).take (k - g)) : Nat) : Int)))
    case atStart => exact ⟨rfl, p, 0, rfl, Nat.le_refl _, rfl, rfl, by show _ = _; rw [Nat.sub_self, List.take_zero]; rfl⟩
    case round =>
      obtain ⟨hw, q, M, hq, hgk, rfl, rfl, HM⟩ := hrel
      replace hw := hw.symm
      subst hw
      by_cases hlt : q < p + k
      · have hqi : (q : Int) < (p : Int) + (k : Int) := by omega
        have hql : q < l.length := by have := HP.out; omega
        obtain ⟨b, hb⟩ : ∃ b, l[q]? = some b := ⟨l[q], by simp [hql]⟩
        obtain ⟨B, hB⟩ : ∃ B : Int, B = (b : Int) := ⟨_, rfl⟩
        obtain ⟨m, hm⟩ : ∃ m, m = numN13 ((l.drop p).take (k - gk)) := ⟨_, rfl⟩
        have hMm : M = (m : Int) := by rw [hm]; exact HM.out
        have r1 : w.cell? ⟨bo, off + q, none⟩ = some (.int .u8 B) := by rw [hB]; exact HC.out q b hb
        have hql2 : (q : Int) < (l.length : Int) := by omega
        have hb8 : b < 256 := HX.out b (List.mem_of_getElem? hb)
        have hm3 : m < 16777216 := by
          have h2 := numN_lt ((l.drop p).take (k - gk)) (fun x hx => HX.out x (List.mem_of_mem_drop (List.mem_of_mem_take hx)))
          have h3 : ((l.drop p).take (k - gk)).length ≤ 3 := by rw [List.length_take]; have := HK4.out; omega
          have h4 := Nat.pow_le_pow_right (n := 256) (by omega) h3
          have : 256 ^ 3 = 16777216 := by decide
          omega
        obtain ⟨M2, hM2⟩ : ∃ M2 : Int, M2 = ((m * 256 + b : Nat) : Int) := ⟨_, rfl⟩
        have O1 : bits .or .u32 (M * 256) B = M2 := by rw [hM2]; exact orN32 (m * 256) b 8 (by omega) (by omega) (by omega) _ _ (by omega) hB
        have HM2 : Hid (M2 = ((numN13 ((l.drop p).take (k - (gk - 1))) : Nat) : Int)) := by
          show _ = _
          have e : k - (gk - 1) = (k - gk) + 1 := by omega
          have e2 : (l.drop p)[k - gk]? = some b := by rw [List.getElem?_drop]; rw [← hb]; congr 1; omega
          rw [e, List.take_add_one, e2, Option.toList_some, numN_snoc, ← hm, hM2]
        have hM0 : 0 ≤ M := by omega
        have hM1 : M < 16777216 := by omega
        have hB0 : 0 ≤ B := by omega
        have hB1 : B < 256 := by omega
        have mk : IntKind.i64.wrap ((q : Int) + 1) = (q : Int) + 1 := by rw [IntKind.wrap_i64]; omega
        have HK2 : Hid (gk - 1 < gk ∧ q + 1 + (gk - 1) = p + k ∧ gk - 1 ≤ k) := ⟨by omega, by omega, by omega⟩
        clear hb hm3 HM hq hgk hlt hql hM2 hMm hm hb8 hB
        go_wp2
        go_roundg (gk - 1)
        case measure => exact HK2.out.1
        case rel => exact ⟨rfl, q + 1, M2, HK2.out.2.1, HK2.out.2.2, rfl, rfl, HM2.out⟩
      · have hqi : ¬ (q : Int) < (p : Int) + (k : Int) := by omega
        have HF : Hid (M = ((numN13 ((l.drop p).take k) : Nat) : Int)) := by
          obtain rfl : gk = 0 := by omega
          exact HM.out
        go_wp2_with fail
        exact bodyPost_ret (v := .tuple #[.int .u32 M, .bool true]) (by simp [results, Tryd.results27, go_sem]) rfl ⟨by rw [HF.out], rfl⟩
  · rw [if_neg h, decide_eq_false h]
    by_cases d0 : n < 0
    · clear h
      go_enter Tryd.func27, Tryd.ntmps27
      go_wp2_with fail
      exact bodyPost_ret (v := .tuple #[.int .u32 0, .bool false]) (by simp [results, Tryd.results27, go_sem]) rfl ⟨rfl, rfl⟩
    · by_cases d1 : (l.length : Int) < n
      · clear h
        go_enter Tryd.func27, Tryd.ntmps27
        go_wp2_with fail
        exact bodyPost_ret (v := .tuple #[.int .u32 0, .bool false]) (by simp [results, Tryd.results27, go_sem]) rfl ⟨rfl, rfl⟩
      · have d2 : (l.length : Int) - n < (k : Int) := by omega
        have mw : IntKind.i64.wrap ((l.length : Int) - n) = (l.length : Int) - n := by rw [IntKind.wrap_i64]; omega
        clear h
        go_enter Tryd.func27, Tryd.ntmps27
        go_wp2_with fail
        exact bodyPost_ret (v := .tuple #[.int .u32 0, .bool false]) (by simp [results, Tryd.results27, go_sem]) rfl ⟨rfl, rfl⟩
def PS13 (w wr : World) (vb : Value) (R : List Nat) : Prop :=
  Below w.heap.size w wr ∧ (wr.ownsRow w.heap.size 5 1 vb R.length (R.map cB) ∨ (RowA wr 1 vb R.length (R.map cB) ∧ ∃ ao, vb = .slice ao R.length R.length))
set_option maxRecDepth 20000 in
theorem wpList_put13 {ops : Array Oper} {rest : List Oper} {o : Oper} {a : Act} {Q : Exit → Act → World → Prop} (hgd : o.guard = none) (s x : Operand)
    (ho : o.op = .call { callee := .builtin .append, args := #[s, x], argTypes := #[22, 22] }) (w wr : World) (vb : Value) (R : List Nat) (hS : PS13 w wr vb R) (b : Nat) (hl : R.length ≤ 140737488355200) (hs : a.eval s = vb) (hx : a.eval x = .slice (some ⟨wr.heap.size, 0, none⟩) 1 1)
    (h : ∀ v' w', w'.ownsRow w.heap.size 5 1 v' (R ++ [b]).length ((R ++ [b]).map cB) → Below w.heap.size w w' → wpList Tryd.prog ops Q rest (a.put o.dst v') w') : wpList Tryd.prog ops Q (o :: rest) a (wr.alloc (.cells #[.int .u8 (b : Int)] 5)) := by
  obtain ⟨i0, hi, hz0, hz1, hz2⟩ := info13 Tryd.infoB13
  obtain ⟨hB, hS⟩ := hS
  have q9 := bl1 wr (.cells #[.int .u8 (b : Int)] 5)
  have h63 : R.length + 1 ≤ maxLen := by unfold maxLen; omega
  have h47 : (R.length + 1) * 1 ≤ 140737488355328 := by omega
  have hsz : w.heap.size ≤ (wr.alloc (.cells #[.int .u8 (b : Int)] 5)).heap.size := Nat.le_trans hB.size q9.size
  have hB9 := keepb q9 hB
  have hmap : R.map cB ++ [.int .u8 (b : Int)] = (R ++ [b]).map cB := by rw [List.map_append]; rfl
  have hlen : (R ++ [b]).length = R.length + 1 := by simp
  rcases hS with hS | ⟨hS, ao, hv⟩
  · have hO := own_b13 q9 hS
    refine wpList_append_lies _ hgd s x 22 ho w.heap.size 5 i0 (.int .u8 0) 1 1 Tryd.underlying22 hi hz0 hz1 hz2 rfl (by decide) vb R.length (R.map cB) hs hO ⟨wr.heap.size, 0, none⟩ 1 1 [.int .u8 (b : Int)] hx rfl (news13 (by simp [go_sem])) (by intro u hu; simp at hu; subst hu; rfl) (by decide) h63 h47 hsz _ rfl ?_
    intro g cap w' h1 h2 _ _
    refine h _ w' ?_ (hB9.grown h2 hB9.size (fun z e => (hO.lt z e).1))
    rw [hlen, ← hmap]; exact h1
  · subst hv
    obtain ⟨hl0, ao', c', e, hc, hr⟩ := hS.below q9
    injection e with e1 e2 e3
    subst e1
    refine wpList_append_grows _ hgd s x 22 ho 5 i0 (.int .u8 0) 1 1 Tryd.underlying22 hi hz0 hz1 hz2 rfl (by decide) ao R.length R.length (R.map cB) hs ?_ hl0 ?_ ⟨wr.heap.size, 0, none⟩ 1 1 [.int .u8 (b : Int)] hx rfl (news13 (by simp [go_sem])) (by intro u hu; simp at hu; subst hu; rfl) (by omega) h63 h47 ?_
    · intro hn
      rcases hr with ⟨-, -, h⟩ | ⟨ad, h, -⟩
      · exact ⟨h, h⟩
      · rw [hn] at h; cases h
    · intro bb hb j u hj
      rcases hr with ⟨h, -, -⟩ | ⟨ad, h, hr⟩
      · rw [hb] at h; cases h
      · rw [hb] at h; injection h with h; subst h; exact hr j u hj
    · intro v' w' h1 h2
      refine h v' w' ?_ (hB9.grown h2 hB9.size (fun z e => by cases e))
      have := own_wide13 h1 hsz
      rw [hlen, ← hmap]; exact this
def lastB (x : Nat) : Nat → List Nat
  | 0 => []
  | c + 1 => x / 256 ^ c % 256 :: lastB x c
theorem lastB_four (x : Nat) (h : x < 4294967296) : lastB x 4 = by4 x := by
  unfold by4
  simp only [lastB]
  congr 1
  · omega
  · congr 1; congr 1; congr 1; omega
end Go.Proofs.YtiachojhnbicaabDoor
namespace Go.Proofs.YtiachojhnbicaabDoor
open Go.RowKit
set_option linter.unusedSimpArgs false
set_option linter.unusedVariables false

end Go.Proofs.YtiachojhnbicaabDoor
namespace Go.Proofs.YtiachojhnbicaabDoor
open Go.RowKit
set_option linter.unusedSimpArgs false
set_option linter.unusedVariables false

structure Ins where
  op : Int
  n : Int
  m : List (BitVec 32)
def AtIF (w : World) (B : Nat) (op n : Int) (v : Value) : Prop := AtI w B op n v ∧ w.frozen? ⟨B, 0, none⟩ = false ∧ w.frozen? ⟨B, 1, none⟩ = false ∧ w.frozen? ⟨B, 2, none⟩ = false
theorem AtIF.below {w w' : World} {B : Nat} {op n : Int} {v : Value} (h : AtIF w B op n v) (hb : Below w.heap.size w w') : AtIF w' B op n v :=
  ⟨h.1.below hb, keepf hb h.1.1 h.2.1, keepf hb h.1.2.1 h.2.2.1, keepf hb h.1.2.2 h.2.2.2⟩
end Go.Proofs.YtiachojhnbicaabDoor
namespace Go.Proofs.YtiachojhnbicaabDoor
open Go.RowKit Go.Shelf
set_option linter.unusedSimpArgs false
set_option linter.unusedVariables false
attribute [local go_sem] Oper.semAt_some

def KZ (Z : Nat → Prop) (W W' : World) : Prop := W.heap.size ≤ W'.heap.size ∧ ∀ (z : Nat) (o : Obj), W.heap[z]? = some o → Z z → W'.heap[z]? = some o
theorem KZ.trans {Z : Nat → Prop} {X Y V : World} (h : KZ Z X Y) (g : KZ Z Y V) : KZ Z X V := ⟨Nat.le_trans h.1 g.1, fun z o h1 h2 => g.2 z o (h.2 z o h1 h2) h2⟩
end Go.Proofs.YtiachojhnbicaabDoor
namespace Go.Proofs.YtiachojhnbicaabDoor
open Go.RowKit
set_option linter.unusedSimpArgs false
set_option linter.unusedVariables false

end Go.Proofs.YtiachojhnbicaabDoor
namespace Go.Proofs.YtiachojhnbicaabDoor
open Go.RowKit
set_option linter.unusedSimpArgs false
set_option linter.unusedVariables false

end Go.Proofs.YtiachojhnbicaabDoor
namespace Go.Proofs.YtiachojhnbicaabDoor
open Go.RowKit Go.Shelf
set_option linter.unusedSimpArgs false
set_option linter.unusedVariables false

theorem gh_quiet14 {P : Program} {o : Oper} {a' : Act} {w' : World} {K : Act → World → Prop} {Q' : Exit → Act → World → Prop} {v : Value} (hr : (execOp a'.eval o).run P w' = .ok (.value v) w') (hK : K (a'.put o.dst v) w') : o.wp P a' w' K Q' := by
  unfold Oper.wp Oper.upon
  rw [hr]
  exact hK
theorem gh_same14 {x y : Array Value} {d s : Nat} (h : x.toList.eraseIdx d = y.toList.eraseIdx d) (hs : s ≠ d) : x[s]? = y[s]? := by
  have := erase_get _ _ d s h hs
  simpa using this
theorem Slt.old14 {l : List Oper} {a A : Act} {lp : Array Bool} {a' : Act} (h : Slt l a A lp a') (s : Nat) (hs : ∀ o ∈ l, o.dst ≠ some s) : a'.tmps[s]? = a.tmps[s]? := h.oth s (fun k o hk _ => hs o (List.mem_of_getElem? hk))
structure EnW (w : World) (N G B : Nat) (W : World) (vc vb : Value) (R : List Nat) : Prop where
  b : Below w.heap.size w W
  c : W.cell? ⟨B, 0, none⟩ = some vc
  f : W.frozen? ⟨B, 0, none⟩ = false
  o : W.ownsRow w.heap.size 5 1 vb R.length (R.map cB)
  n : ∀ z, vb.ownBlock = some z → z = G ∨ N ≤ z
  s : N ≤ W.heap.size
section
variable {w W W' : World} {N G B : Nat} {vc vb vb' : Value} {R : List Nat}
theorem EnW.below (h : EnW w N G B W vc vb R) (hb : Below W.heap.size W W') : EnW w N G B W' vc vb R :=
  ⟨keepb hb h.b, keepc hb h.c, keepf hb h.c h.f, own_b13 hb h.o, h.n, Nat.le_trans h.s hb.size⟩
theorem own_cells14 {W : World} {base e size n : Nat} {v : Value} {xs : List Value} (h : W.ownsRow base e size v n xs) {z : Nat} (hz : v.ownBlock = some z) : ∃ cs T fr, W.heap[z]? = some (.cells cs T fr) := by
  rcases h.2 with ⟨rfl, -⟩ | ⟨g, cap, cur, rfl, h1, h2, -⟩
  · cases hz
  · simp only [Value.ownBlock, Option.some.injEq] at hz
    subst hz
    exact ⟨_, _, _, h2⟩
theorem EnW.kept (h : EnW w N G B W vc vb R) {row : Option Nat} (hg : W.grownBy W' row) (hN : w.heap.size ≤ N) (hr : ∀ r, row = some r → N ≤ r ∧ ∃ o : Obj, W.heap[r]? = some o ∧ o.isCells = false) : EnW w N G B W' vc vb R := by
  have hr' : ∀ r, row = some r → ∃ o : Obj, W.heap[r]? = some o ∧ o.isCells = false := fun r e => (hr r e).2
  have hB : row ≠ some B := by
    intro e
    obtain ⟨o, h1, h2⟩ := hr' B e
    have := h.c
    rw [World.cell?, h1] at this
    cases o with
    | cells cs T fr => cases h2
    | _ => simp at this
  have eB : W'.heap[B]? = W.heap[B]? := hg.block B (cell_in h.c) (fun e => hB e.symm)
  refine ⟨h.b.grown hg (Nat.le_trans hN h.s) (fun k e => by have := (hr k e).1; omega), (World.cell?_of_block (a := ⟨B, 0, none⟩) eB).trans h.c, (World.frozen?_of_block (a := ⟨B, 0, none⟩) eB).trans h.f, h.o.kept hg ?_, h.n, Nat.le_trans h.s hg.size⟩
  cases hv : vb.ownBlock with
  | none => exact .inl rfl
  | some z =>
    refine .inr fun e => ?_
    obtain ⟨o, h1, h2⟩ := hr' z e.symm
    obtain ⟨cs, T, fr, h3⟩ := own_cells14 h.o hv
    rw [h3] at h1
    cases h1
    cases h2
theorem EnW.set (h : EnW w N G B W vc vb R) (hBG : B ≠ G) (hBN : B < N) (hwB : w.heap.size ≤ B) : EnW w N G B (W.setCell ⟨B, 0, none⟩ vb) vb vb R := by
  have hne : vb.ownBlock ≠ some B := by
    intro e
    rcases h.n B e with h1 | h1
    · exact hBG h1
    · omega
  have hc := h.c
  have hf := h.f
  refine ⟨h.b.setCell (p := ⟨B, 0, none⟩) hwB _, by simp [go_sem, hc], by simp [go_sem, hf], ?_, h.n, by simp [World.setCell]; exact h.s⟩
  refine ⟨h.o.1, ?_⟩
  rcases h.o.2 with h1 | ⟨g, cap, cur, e, h1, h2, h3⟩
  · exact .inl h1
  · refine .inr ⟨g, cap, cur, e, h1, ?_, h3⟩
    have hgB : ¬ g = B := by
      rintro rfl
      exact hne (by rw [e]; rfl)
    exact (Below.heap_setCell W ⟨B, 0, none⟩ vb g hgB).trans h2
end
theorem KZ.refl (Z : Nat → Prop) (W : World) : KZ Z W W := ⟨Nat.le_refl _, fun _ _ h _ => h⟩
end Go.Proofs.YtiachojhnbicaabDoor
namespace Go.Proofs.YtiachojhnbicaabDoor
open Go.RowKit Go.Shelf
set_option linter.unusedSimpArgs false
set_option linter.unusedVariables false

theorem at_16 {W : World} {z : Nat} {cs : Array Value} {T : TypeId} (hz : W.heap[z]? = some (.cells cs T)) (j : Nat) (u : Value) (hj : cs[j]? = some u) : W.cell? ⟨z, j, none⟩ = some u := by
  simp [World.cell?, hz, hj]
theorem fr_16 {W : World} {z j : Nat} {cs : Array Value} {T : TypeId} (h : W.heap[z]? = some (.cells cs T)) : W.frozen? ⟨z, j, none⟩ = false := by simp [World.frozen?, h]
theorem set_16 {W : World} {P o : Nat} {cs : Array Value} {T : TypeId} (h : W.heap[P]? = some (.cells cs T)) (v : Value) : (W.setCell ⟨P, o, none⟩ v).heap[P]? = some (.cells (cs.setIfInBounds o v) T) := by
  simp [World.setCell, Array.getElem?_modify, h]
theorem lt_16 {w : World} {z : Nat} {o : Obj} (hz : w.heap[z]? = some o) : z < w.heap.size := (Array.getElem?_eq_some_iff.1 hz).1
theorem far_16 {W : World} {z P o : Nat} {v : Value} (h : z ≠ P) : (W.setCell ⟨P, o, none⟩ v).heap[z]? = W.heap[z]? := Below.heap_setCell W ⟨P, o, none⟩ v z h
theorem new_16 (W : World) (o : Obj) : (W.alloc o).heap[W.heap.size]? = some o := World.alloc_heap_new W o
def KX (X : Nat → Prop) (V U : World) : Prop := V.heap.size ≤ U.heap.size ∧ ∀ z, z < V.heap.size → ¬ X z → U.heap[z]? = V.heap[z]?
theorem KX.refl (X : Nat → Prop) (V : World) : KX X V V := ⟨Nat.le_refl _, fun _ _ _ => rfl⟩
theorem KX.trans {X : Nat → Prop} {A B C : World} (h : KX X A B) (g : KX X B C) : KX X A C := ⟨Nat.le_trans h.1 g.1, fun z h1 h2 => (g.2 z (Nat.lt_of_lt_of_le h1 h.1) h2).trans (h.2 z h1 h2)⟩
theorem KX.below {X : Nat → Prop} {V U U' : World} (h : KX X V U) (hb : Below U.heap.size U U') : KX X V U' := ⟨Nat.le_trans h.1 hb.size, fun z h1 h2 => (hb.block z (Nat.lt_of_lt_of_le h1 h.1)).trans (h.2 z h1 h2)⟩
theorem KX.set {X : Nat → Prop} {V U : World} (h : KX X V U) (b o : Nat) (u : Value) (hb : X b ∨ V.heap.size ≤ b) : KX X V (U.setCell ⟨b, o, none⟩ u) := ⟨by simpa using h.1, fun z h1 h2 => (far_16 (by rintro rfl; rcases hb with q | q; exact h2 q; omega)).trans (h.2 z h1 h2)⟩
theorem KX.own {β : Type} {X : Nat → Prop} {B : Nat} {V : World} (hV : V.heap.size ≤ B) : OwnFrom B (fun (_ : β) U => KX X V U) := fun s A A' row hs hg hr => ⟨Nat.le_trans hs.1 hg.size, fun z h1 h2 => (hg.block z (Nat.lt_of_lt_of_le h1 hs.1) (fun e => by have := (hr z e.symm).1; omega)).trans (hs.2 z h1 h2)⟩
theorem own_base16 {w : World} {base base' e size n : Nat} {v : Value} {xs : List Value} (h : w.ownsRow base e size v n xs) (hb : base' ≤ base) : w.ownsRow base' e size v n xs := by
  refine ⟨h.1, ?_⟩
  rcases h.2 with hn | ⟨g, cap, cur, hv, h1, h2⟩
  · exact .inl hn
  · exact .inr ⟨g, cap, cur, hv, by omega, h2⟩
end Go.Proofs.YtiachojhnbicaabDoor
namespace Go.Proofs.YtiachojhnbicaabDoor
open Go.RowKit
set_option linter.unusedSimpArgs false
set_option linter.unusedVariables false

end Go.Proofs.YtiachojhnbicaabDoor
namespace Go.Proofs.YtiachojhnbicaabDoor
open Go.RowKit
set_option linter.unusedSimpArgs false
set_option linter.unusedVariables false

def Bx (w : World) (B : Nat) (cs : List Value) (X : World) : Prop := Below w.heap.size w X ∧ ∀ j u, cs[j]? = some u → X.cell? ⟨B, j, none⟩ = some u
theorem Bx.drew {w X : World} {B : Nat} {cs : List Value} (h : Bx w B cs X) : Bx w B cs X.drew := ⟨h.1.drew, h.2⟩
theorem slice_mid17 {P : Program} {w : World} {t e : TypeId} {i : TypeInfo} {size : Nat} (ht : P.underlying t = some (.slice e)) (hi : P.info? e = some i) (hsize : i.size = size) (ao : Option Addr) (n c k h : Nat) (hk : k ≤ h) (hh : h ≤ c) :
    Sem.run P (Instr.sliceAt t (.slice ao n c) (some (.int .i64 k)) (some (.int .i64 h)) none) w = .ok (.slice (if c = k then ao else ao.map (·.add (k * size))) (h - k) (c - k)) w := by
  subst hsize
  simp [Instr.sliceAt, Instr.slice, Instr.sliceBounds, Instr.sliceBound, run_underlying ht, sizeOf, typeInfo, hi, hk, hh, go_sem]
theorem ex17 {P : Program} {w : World} {s : Sem Value} {v : Value} (h : s.run P w = .ok v w) : (do pure (Next.value (← s)) : Sem Next).run P w = .ok (.value v) w := by
  simp only [Sem.run_bind, h, Sem.run_pure, Result.andThen_ok]
end Go.Proofs.YtiachojhnbicaabDoor
namespace Go.Proofs.YtiachojhnbicaabDoor
open Go.RowKit
set_option linter.unusedSimpArgs false
set_option linter.unusedVariables false

section
variable {P : Program}

end
end Go.Proofs.YtiachojhnbicaabDoor
namespace Go.Proofs.YtiachojhnbicaabDoor
open Go.RowKit
set_option linter.unusedSimpArgs false
set_option linter.unusedVariables false

end Go.Proofs.YtiachojhnbicaabDoor
namespace Go.Proofs.YtiachojhnbicaabDoor
open Go.RowKit
set_option linter.unusedSimpArgs false
set_option linter.unusedVariables false

theorem bsA_list (l : List Nat) : (bsA l).toList = l.map UInt8.ofNat := by unfold bsA; exact ByteArray.toList_mk _
theorem map_u8_inj : ∀ {x y : List Nat}, (∀ b ∈ x, b < 256) → (∀ b ∈ y, b < 256) → x.map UInt8.ofNat = y.map UInt8.ofNat → x = y
  | [], [], _, _, _ => rfl
  | [], _ :: _, _, _, h => by cases h
  | _ :: _, [], _, _, h => by cases h
  | a :: x, b :: y, hx, hy, h => by
    rw [List.map_cons, List.map_cons] at h
    injection h with h1 h2
    have ha := hx a (List.mem_cons_self ..)
    have hb := hy b (List.mem_cons_self ..)
    have h3 : (UInt8.ofNat a).toNat = (UInt8.ofNat b).toNat := by rw [h1]
    rw [UInt8.toNat_ofNat', UInt8.toNat_ofNat', Nat.mod_eq_of_lt ha, Nat.mod_eq_of_lt hb] at h3
    rw [h3, map_u8_inj (fun q hq => hx q (List.mem_cons_of_mem _ hq)) (fun q hq => hy q (List.mem_cons_of_mem _ hq)) h2]
theorem bsA_eq {x y : List Nat} (hx : ∀ b ∈ x, b < 256) (hy : ∀ b ∈ y, b < 256) : ((bsA x).toList == (bsA y).toList) = decide (x = y) := by
  rw [bsA_list, bsA_list, Bool.eq_iff_iff]
  simp only [beq_iff_eq, decide_eq_true_eq]
  exact ⟨map_u8_inj hx hy, fun h => by rw [h]⟩
end Go.Proofs.YtiachojhnbicaabDoor
namespace Go.Proofs.YtiachojhnbicaabDoor
open Go.RowKit Go.Shelf
set_option linter.unusedSimpArgs false
set_option linter.unusedVariables false
attribute [local go_sem] Oper.semAt_some

theorem AtI.grown {W W' : World} {B : Nat} {o n : Int} {v : Value} {row : Option Nat} (h : AtI W B o n v) (hg : W.grownBy W' row) (hne : some B ≠ row) : AtI W' B o n v := ⟨hg.cell h.1 hne, hg.cell h.2.1 hne, hg.cell h.2.2 hne⟩
end Go.Proofs.YtiachojhnbicaabDoor
