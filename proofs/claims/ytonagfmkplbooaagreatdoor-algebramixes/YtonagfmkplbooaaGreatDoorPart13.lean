/-
  Part 13 of the proof: 3 texts, one behind the other.
-/
import Derived.Test.YtonagfmkplbooaaGreatDoorPart12
import Derived.Test.YtonagfmkplbooaaGreatDoorPart3
import Derived.Test.YtonagfmkplbooaaGreatDoorPart2
import Derived.RangeFuncKeeps
/-
  A region that draws its order, of whatever operations, by what is known of memory and of some numbers when some of them are done.
-/
namespace Go.Proofs.YtonagfmkplbooaaGreatDoor
open Go.RowKit
set_option linter.unusedSimpArgs false
set_option linter.unusedVariables false

section
variable {P : Program}

theorem putAll_other : ∀ (ds : List (Option Tmp)) (vs : List Value) (a : Act) (s : Nat), (∀ d ∈ ds, d ≠ some s) → (putAll a ds vs).tmps[s]? = a.tmps[s]?
  | [], vs, a, s, _ => by cases vs <;> rfl
  | d :: ds, [], a, s, _ => rfl
  | d :: ds, v :: vs, a, s, h => by
    rw [putAll, putAll_other ds vs (a.put d v) s (fun x hx => h x (List.mem_cons_of_mem _ hx))]
    exact put_other a d v s (h d (by simp))
theorem putAll_defers : ∀ (ds : List (Option Tmp)) (vs : List Value) (a : Act), (putAll a ds vs).defers = a.defers
  | [], vs, a => by cases vs <;> rfl
  | d :: ds, [], a => rfl
  | d :: ds, v :: vs, a => by
    rw [putAll, putAll_defers ds vs (a.put d v)]
    unfold Act.put
    cases d <;> rfl
/-- What stands in the slots when some operations are done. -/
structure Slt (l : List Oper) (a A : Act) (lp : Array Bool) (a' : Act) : Prop where
  don : ∀ (k : Nat) (o : Oper) (s : Nat), l[k]? = some o → lp.getD k false = true → o.dst = some s → a'.tmps[s]? = A.tmps[s]?
  oth : ∀ s, (∀ (k : Nat) (o : Oper), l[k]? = some o → lp.getD k false = true → o.dst ≠ some s) → a'.tmps[s]? = a.tmps[s]?
  siz : a'.tmps.size = a.tmps.size
  dfr : a'.defers = a.defers
theorem getD_set {lp : Array Bool} {i k : Nat} (h : (lp.setIfInBounds i true).getD k false = true) : k = i ∨ lp.getD k false = true := by
  by_cases e : k = i
  · exact .inl e
  · right
    rw [Array.getD_eq_getD_getElem?] at h ⊢
    rwa [Array.getElem?_setIfInBounds_ne (by omega)] at h
theorem getD_set_same {lp : Array Bool} {i : Nat} (h : i < lp.size) : (lp.setIfInBounds i true).getD i false = true := by
  rw [Array.getD_eq_getD_getElem?, Array.getElem?_setIfInBounds_self_of_lt h]
  rfl
def valO (A : Act) (o : Oper) : Value := ((o.dst).bind fun s => A.tmps[s]?).getD undef
theorem gh_any {γ : Type} {l : List Oper} (ok : QpOk l l.length l.length) (hgd : ∀ o ∈ l, o.guard = none) (hdst : ∀ (i k : Nat) (oi ok : Oper) (s : Nat), l[i]? = some oi → l[k]? = some ok → oi.dst = some s → ok.dst = some s → i = k) {Q : Exit → Act → World → Prop} {a : Act} (A : γ → Act) (hsz : ∀ g, (A g).tmps.size = a.tmps.size) (hdf : ∀ g, (A g).defers = a.defers) (hA : ∀ g s, (∀ o ∈ l, o.dst ≠ some s) → (A g).tmps[s]? = a.tmps[s]?) (R : Array Bool → γ → World → Prop)
    (hstep : ∀ (i : Nat) (o : Oper) (lp : Array Bool) (g : γ) (w' : World) (a' : Act), l[i]? = some o → lp.size = l.length → lp.getD i false = false → (∀ e ∈ o.after, Region.binds .any e = true → lp.getD e.on false = true) → R lp g w' → Slt l a (A g) lp a' →
      ∀ (K : Act → World → Prop) Q', (∀ g' w'', (∀ (k : Nat) (o : Oper) (s : Nat), l[k]? = some o → lp.getD k false = true → o.dst = some s → (A g').tmps[s]? = (A g).tmps[s]?) → R (lp.setIfInBounds i true) g' w'' → ∀ v, valO (A g') o = v → K (a'.put o.dst v) w'') → o.wp P a' w' K Q')
    (hpost : ∀ g w', R (Array.replicate l.length true) g w' → Q .normal (A g) w') :
    ∀ (fuel : Nat) (lp : Array Bool) (g : γ) (a' : Act) (w : World), lp.size = l.length → unl lp = fuel → R lp g w → Slt l a (A g) lp a' → wpAny P .any l.toArray Q fuel lp a' w := by
  intro fuel
  have fin : ∀ (lp : Array Bool) (g : γ) (a' : Act) (w : World), lp.size = l.length → unl lp = 0 → R lp g w → Slt l a (A g) lp a' → Q .normal a' w := by
    intro lp g a' w hs hu hR hS
    have e : lp = Array.replicate l.length true := by have := unl_zero lp hu; rwa [hs] at this
    rw [e] at hR hS
    have : a' = A g := by
      have ht : a'.tmps = (A g).tmps := by
        apply Array.ext_getElem?
        intro s
        by_cases h : ∃ (k : Nat) (o : Oper), l[k]? = some o ∧ o.dst = some s
        · obtain ⟨k, o, h1, h2⟩ := h
          have hk : k < l.length := (List.getElem?_eq_some_iff.mp h1).1
          exact hS.don k o s h1 (by simp [Array.getElem?_replicate, hk]) h2
        · have h' : ∀ o ∈ l, o.dst ≠ some s := by
            intro o ho e
            obtain ⟨k, hk, rfl⟩ := List.mem_iff_getElem.mp ho
            exact h ⟨k, l[k], List.getElem?_eq_getElem hk, e⟩
          rw [hA g s h']
          exact hS.oth s (fun k o h1 _ e => h ⟨k, o, h1, e⟩)
      have hd : a'.defers = (A g).defers := by rw [hS.dfr, hdf]
      cases a'
      cases hAg : A g
      rw [hAg] at ht hd
      simp only at ht hd
      rw [ht, hd]
    rw [this]
    exact hpost g w hR
  induction fuel with
  | zero =>
    intro lp g a' w hs hu hR hS
    refine ⟨?_, fin lp g a' w hs hu hR hS⟩
    have e : lp = Array.replicate l.length true := by have := unl_zero lp hu; rwa [hs] at this
    apply List.eq_nil_iff_forall_not_mem.mpr
    intro i hi
    obtain ⟨hun, o, ho, _⟩ := mem_ready.1 hi
    have hk : i < l.length := by
      have := (Array.getElem?_eq_some_iff.mp ho).1
      simpa using this
    rw [e] at hun
    simp [Array.getElem?_replicate, hk] at hun
  | succ fuel ih =>
    intro lp g a' w hs hu hR hS
    refine ⟨fun e => ?_, fun i hi => ?_⟩
    · obtain ⟨k, hk, hf⟩ := unl_some lp fuel hu
      have hne := some_ready ok lp hs k (by omega) hf
      rw [Nat.sub_self] at hne
      exact absurd (by simpa using e) hne
    · obtain ⟨hun, o, ho, hrd⟩ := mem_ready.1 hi
      have ho' : l[i]? = some o := by simpa using ho
      have hil : i < l.length := (List.getElem?_eq_some_iff.mp ho').1
      have hun' : lp.getD i false = false := by
        rw [Array.getD_eq_getD_getElem?] at hun ⊢
        cases q : lp[i]? with
        | none => rfl
        | some b => rw [q] at hun; simpa using hun
      unfold wpOp
      simp only [ho]
      rw [if_pos (by simp [Region.wanted, hgd o (List.mem_of_getElem? ho')])]
      left
      refine hstep i o lp g w a' ho' hs hun' (fun e he hb => hrd e he hb) hR hS _ _ ?_
      intro g' w'' hsame hR' v hv
      subst hv
      refine ih _ g' _ w'' (by simp [hs]) (by have := unl_set lp i hun; omega) hR' ⟨?_, ?_, ?_, ?_⟩
      · intro k ok s hk hl hd
        rcases getD_set hl with rfl | hl'
        · have : ok = o := by rw [ho'] at hk; cases hk; rfl
          subst this
          unfold Act.put valO
          rw [hd]
          simp only [Option.bind_some]
          by_cases hlt : s < a'.tmps.size
          · rw [Array.getElem?_setIfInBounds_self_of_lt hlt]
            have h2 : s < (A g').tmps.size := by rw [hsz, ← hS.siz]; exact hlt
            rw [Array.getElem?_eq_getElem h2]
            rfl
          · rw [Array.getElem?_eq_none (by simp; omega), Array.getElem?_eq_none (by rw [hsz, ← hS.siz]; omega)]
        · rw [put_other a' o.dst _ s (fun e => by
            have := hdst k i ok o s hk ho' hd e
            subst this
            rw [hun'] at hl'
            cases hl'), hS.don k ok s hk hl' hd, hsame k ok s hk hl' hd]
      · intro s h
        have hne : o.dst ≠ some s := h i o ho' (getD_set_same (by omega))
        rw [put_other a' o.dst _ s hne]
        exact hS.oth s (fun k ok hk hl => h k ok hk (by
          by_cases e : k = i
          · subst e; exact getD_set_same (by omega)
          · rw [Array.getD_eq_getD_getElem?] at hl ⊢
            rwa [Array.getElem?_setIfInBounds_ne (by omega)]))
      · rw [put_size, hS.siz]
      · unfold Act.put
        cases o.dst <;> exact hS.dfr
def dstG (l : List Oper) : Bool := (List.range l.length).all fun i => (List.range l.length).all fun k => i == k || ((l[i]?).bind (·.dst)).isNone || ((l[i]?).bind (·.dst)) != ((l[k]?).bind (·.dst))
theorem dstG_of {l : List Oper} (h : dstG l = true) : ∀ (i k : Nat) (oi ok : Oper) (s : Nat), l[i]? = some oi → l[k]? = some ok → oi.dst = some s → ok.dst = some s → i = k := by
  intro i k oi ok s hi hk h1 h2
  have hil := (List.getElem?_eq_some_iff.mp hi).1
  have hkl := (List.getElem?_eq_some_iff.mp hk).1
  unfold dstG at h
  rw [List.all_eq_true] at h
  have := h i (List.mem_range.mpr hil)
  rw [List.all_eq_true] at this
  have := this k (List.mem_range.mpr hkl)
  rw [hi, hk] at this
  simp only [Option.bind_some, h1, h2] at this
  simpa using this
theorem gh_region {γ : Type} {id : Nat} {l : List Oper} (ok : QpOk l l.length l.length) (hgd : (l.all fun o => o.guard.isNone) = true) (hdst : dstG l = true) {Q : Exit → Act → World → Prop} {a : Act} {w : World} (ds : List (Option Tmp)) (vals : γ → List Value) (hm : P.follows .mixedOrders = true) (hds : ∀ d ∈ ds, ∃ o ∈ l, o.dst = d) (R : Array Bool → γ → World → Prop) (g0 : γ) (h0 : R (Array.replicate l.length false) g0 w.drew)
    (hstep : ∀ (i : Nat) (o : Oper) (lp : Array Bool) (g : γ) (w' : World) (a' : Act), l[i]? = some o → lp.size = l.length → lp.getD i false = false → (∀ e ∈ o.after, Region.binds .any e = true → lp.getD e.on false = true) → R lp g w' → Slt l a (putAll a ds (vals g)) lp a' →
      ∀ (K : Act → World → Prop) Q', (∀ g' w'', (∀ (k : Nat) (o : Oper) (s : Nat), l[k]? = some o → lp.getD k false = true → o.dst = some s → (putAll a ds (vals g')).tmps[s]? = (putAll a ds (vals g)).tmps[s]?) → R (lp.setIfInBounds i true) g' w'' → ∀ v, valO (putAll a ds (vals g')) o = v → K (a'.put o.dst v) w'') → o.wp P a' w' K Q')
    (hpost : ∀ g w', R (Array.replicate l.length true) g w' → Q .normal (putAll a ds (vals g)) w') : (Code.region id l.toArray true).wp P Q a w := by
  refine wp_region_any hm ?_
  have hu : unl (Array.replicate l.length false) = l.length := by unfold unl; simp
  have main := gh_any ok (fun o ho => by have := List.all_eq_true.mp hgd o ho; simpa using this) (dstG_of hdst) (A := fun g => putAll a ds (vals g)) (fun g => putAll_size _ _ _) (fun g => putAll_defers _ _ _) (fun g s h => putAll_other _ _ _ _ (fun d hd e => by obtain ⟨o, ho, hod⟩ := hds d hd; exact h o ho (by rw [hod, e]))) R hstep hpost l.length (Array.replicate l.length false) g0 a w.drew (by simp) hu h0 ⟨fun k o s hk hl => (by rw [Array.getD_eq_getD_getElem?, Array.getElem?_replicate] at hl; split at hl <;> simp at hl), fun s _ => rfl, rfl, rfl⟩
  have e1 : l.length = l.toArray.size := by simp
  rw [e1] at main
  simpa using main
end
end Go.Proofs.YtonagfmkplbooaaGreatDoor
/-
  A region that draws its order and calls a loop's body, of whatever operations, by what is known when some of them are done.
-/
namespace Go.Proofs.YtonagfmkplbooaaGreatDoor
open Go.RowKit
set_option linter.unusedSimpArgs false
set_option linter.unusedVariables false

section
variable {P : Program}

theorem gh_anyIn {n : Nat} {γ : Type} {l : List Oper} (ok : QpOk l l.length l.length) (hgd : ∀ o ∈ l, o.guard = none) (hdst : ∀ (i k : Nat) (oi ok : Oper) (s : Nat), l[i]? = some oi → l[k]? = some ok → oi.dst = some s → ok.dst = some s → i = k) {Q : Exit → Act → World → Prop} {a : Act} (A : γ → Act) (hsz : ∀ g, (A g).tmps.size = a.tmps.size) (hdf : ∀ g, (A g).defers = a.defers) (hA : ∀ g s, (∀ o ∈ l, o.dst ≠ some s) → (A g).tmps[s]? = a.tmps[s]?) (R : Array Bool → γ → World → Prop)
    (hstep : ∀ (i : Nat) (o : Oper) (lp : Array Bool) (g : γ) (w' : World) (a' : Act), l[i]? = some o → lp.size = l.length → lp.getD i false = false → (∀ e ∈ o.after, Region.binds .any e = true → lp.getD e.on false = true) → R lp g w' → Slt l a (A g) lp a' →
      ∀ (K : Act → World → Prop) Q', (∀ g' w'', (∀ (k : Nat) (o : Oper) (s : Nat), l[k]? = some o → lp.getD k false = true → o.dst = some s → (A g').tmps[s]? = (A g).tmps[s]?) → R (lp.setIfInBounds i true) g' w'' → ∀ v, valO (A g') o = v → K (a'.put o.dst v) w'') → o.wpIn Fence.wide n P a' w' K Q')
    (hpost : ∀ g w', R (Array.replicate l.length true) g w' → Q .normal (A g) w') :
    ∀ (fuel : Nat) (lp : Array Bool) (g : γ) (a' : Act) (w : World), lp.size = l.length → unl lp = fuel → R lp g w → Slt l a (A g) lp a' → wpAnyIn Fence.wide n P .any l.toArray Q fuel lp a' w := by
  intro fuel
  have fin : ∀ (lp : Array Bool) (g : γ) (a' : Act) (w : World), lp.size = l.length → unl lp = 0 → R lp g w → Slt l a (A g) lp a' → Q .normal a' w := by
    intro lp g a' w hs hu hR hS
    have e : lp = Array.replicate l.length true := by have := unl_zero lp hu; rwa [hs] at this
    rw [e] at hR hS
    have : a' = A g := by
      have ht : a'.tmps = (A g).tmps := by
        apply Array.ext_getElem?
        intro s
        by_cases h : ∃ (k : Nat) (o : Oper), l[k]? = some o ∧ o.dst = some s
        · obtain ⟨k, o, h1, h2⟩ := h
          have hk : k < l.length := (List.getElem?_eq_some_iff.mp h1).1
          exact hS.don k o s h1 (by simp [Array.getElem?_replicate, hk]) h2
        · have h' : ∀ o ∈ l, o.dst ≠ some s := by
            intro o ho e
            obtain ⟨k, hk, rfl⟩ := List.mem_iff_getElem.mp ho
            exact h ⟨k, l[k], List.getElem?_eq_getElem hk, e⟩
          rw [hA g s h']
          exact hS.oth s (fun k o h1 _ e => h ⟨k, o, h1, e⟩)
      have hd : a'.defers = (A g).defers := by rw [hS.dfr, hdf]
      cases a'
      cases hAg : A g
      rw [hAg] at ht hd
      simp only at ht hd
      rw [ht, hd]
    rw [this]
    exact hpost g w hR
  induction fuel with
  | zero =>
    intro lp g a' w hs hu hR hS
    refine ⟨?_, fin lp g a' w hs hu hR hS⟩
    have e : lp = Array.replicate l.length true := by have := unl_zero lp hu; rwa [hs] at this
    apply List.eq_nil_iff_forall_not_mem.mpr
    intro i hi
    obtain ⟨hun, o, ho, _⟩ := mem_ready.1 hi
    have hk : i < l.length := by
      have := (Array.getElem?_eq_some_iff.mp ho).1
      simpa using this
    rw [e] at hun
    simp [Array.getElem?_replicate, hk] at hun
  | succ fuel ih =>
    intro lp g a' w hs hu hR hS
    refine ⟨fun e => ?_, fun i hi => ?_⟩
    · obtain ⟨k, hk, hf⟩ := unl_some lp fuel hu
      have hne := some_ready ok lp hs k (by omega) hf
      rw [Nat.sub_self] at hne
      exact absurd (by simpa using e) hne
    · obtain ⟨hun, o, ho, hrd⟩ := mem_ready.1 hi
      have ho' : l[i]? = some o := by simpa using ho
      have hil : i < l.length := (List.getElem?_eq_some_iff.mp ho').1
      have hun' : lp.getD i false = false := by
        rw [Array.getD_eq_getD_getElem?] at hun ⊢
        cases q : lp[i]? with
        | none => rfl
        | some b => rw [q] at hun; simpa using hun
      unfold wpOpIn
      simp only [ho]
      rw [if_pos (by simp [Region.wanted, hgd o (List.mem_of_getElem? ho')])]
      refine hstep i o lp g w a' ho' hs hun' (fun e he hb => hrd e he hb) hR hS _ _ ?_
      intro g' w'' hsame hR' v hv
      subst hv
      refine ih _ g' _ w'' (by simp [hs]) (by have := unl_set lp i hun; omega) hR' ⟨?_, ?_, ?_, ?_⟩
      · intro k ok s hk hl hd
        rcases getD_set hl with rfl | hl'
        · have : ok = o := by rw [ho'] at hk; cases hk; rfl
          subst this
          unfold Act.put valO
          rw [hd]
          simp only [Option.bind_some]
          by_cases hlt : s < a'.tmps.size
          · rw [Array.getElem?_setIfInBounds_self_of_lt hlt]
            have h2 : s < (A g').tmps.size := by rw [hsz, ← hS.siz]; exact hlt
            rw [Array.getElem?_eq_getElem h2]
            rfl
          · rw [Array.getElem?_eq_none (by simp; omega), Array.getElem?_eq_none (by rw [hsz, ← hS.siz]; omega)]
        · rw [put_other a' o.dst _ s (fun e => by
            have := hdst k i ok o s hk ho' hd e
            subst this
            rw [hun'] at hl'
            cases hl'), hS.don k ok s hk hl' hd, hsame k ok s hk hl' hd]
      · intro s h
        have hne : o.dst ≠ some s := h i o ho' (getD_set_same (by omega))
        rw [put_other a' o.dst _ s hne]
        exact hS.oth s (fun k ok hk hl => h k ok hk (by
          by_cases e : k = i
          · subst e; exact getD_set_same (by omega)
          · rw [Array.getD_eq_getD_getElem?] at hl ⊢
            rwa [Array.getElem?_setIfInBounds_ne (by omega)]))
      · rw [put_size, hS.siz]
      · unfold Act.put
        cases o.dst <;> exact hS.dfr
theorem gh_regionIn (n : Nat) {γ : Type} {id : Nat} {l : List Oper} (ok : QpOk l l.length l.length) (hgd : (l.all fun o => o.guard.isNone) = true) (hdst : dstG l = true) {Q : Exit → Act → World → Prop} {a : Act} {w : World} (ds : List (Option Tmp)) (vals : γ → List Value) (hm : P.follows .mixedOrders = true) (hds : ∀ d ∈ ds, ∃ o ∈ l, o.dst = d) (R : Array Bool → γ → World → Prop) (g0 : γ) (h0 : R (Array.replicate l.length false) g0 w.drew)
    (hstep : ∀ (i : Nat) (o : Oper) (lp : Array Bool) (g : γ) (w' : World) (a' : Act), l[i]? = some o → lp.size = l.length → lp.getD i false = false → (∀ e ∈ o.after, Region.binds .any e = true → lp.getD e.on false = true) → R lp g w' → Slt l a (putAll a ds (vals g)) lp a' →
      ∀ (K : Act → World → Prop) Q', (∀ g' w'', (∀ (k : Nat) (o : Oper) (s : Nat), l[k]? = some o → lp.getD k false = true → o.dst = some s → (putAll a ds (vals g')).tmps[s]? = (putAll a ds (vals g)).tmps[s]?) → R (lp.setIfInBounds i true) g' w'' → ∀ v, valO (putAll a ds (vals g')) o = v → K (a'.put o.dst v) w'') → o.wpIn Fence.wide n P a' w' K Q')
    (hpost : ∀ g w', R (Array.replicate l.length true) g w' → Q .normal (putAll a ds (vals g)) w') : (Code.region id l.toArray true).wp P Q a w := by
  refine (wpIn_wide (n := n)).1 ?_
  refine wpIn_region_any hm ?_
  have hu : unl (Array.replicate l.length false) = l.length := by unfold unl; simp
  have main := gh_anyIn (n := n) ok (fun o ho => by have := List.all_eq_true.mp hgd o ho; simpa using this) (dstG_of hdst) (A := fun g => putAll a ds (vals g)) (fun g => putAll_size _ _ _) (fun g => putAll_defers _ _ _) (fun g s h => putAll_other _ _ _ _ (fun d hd e => by obtain ⟨o, ho, hod⟩ := hds d hd; exact h o ho (by rw [hod, e]))) R hstep hpost l.length (Array.replicate l.length false) g0 a w.drew (by simp) hu h0 ⟨fun k o s hk hl => (by rw [Array.getD_eq_getD_getElem?, Array.getElem?_replicate] at hl; split at hl <;> simp at hl), fun s _ => rfl, rfl, rfl⟩
  have e1 : l.length = l.toArray.size := by simp
  rw [e1] at main
  simpa using main
theorem yd_wp {n : Nat} {o : Oper} {a : Act} {w : World} {K : Act → World → Prop} {Q : Exit → Act → World → Prop} {l : Nat} {args : Array Value} {R : Ending → World → Prop}
    (hy : YieldAt Fence.wide (n - 1) P l args w R) (hex : ∀ r, (Instr.yield l args).run P w = r → (execOp a.eval o).run P w = r) (hR : ∀ e w', R e w' → (∃ v, e = .returned v ∧ K (a.put o.dst v) w')) : o.wpIn Fence.wide n P a w K Q := by
  obtain ⟨fn, tmps, assign, body, h1, h2⟩ := hy
  have h3 := hex _ h1
  refine ⟨fun _ _ => trivial, ?_⟩
  rw [Fence.wide_round, Oper.semAt_none, h3]
  refine ⟨fun q => (by cases q), h2.mono ?_⟩
  intro e w' hr
  obtain ⟨v, rfl, hv⟩ := hR e w' hr
  exact hv
end
end Go.Proofs.YtonagfmkplbooaaGreatDoor
/-
  What the sequence of package algebra's along tells.
-/
namespace Go.Proofs.YtonagfmkplbooaaGreatDoor
open Go.RowKit
set_option linter.unusedSimpArgs false
set_option linter.unusedVariables false

/-- All blocks of cells are as they were. -/
def KC (W W' : World) : Prop := W.heap.size ≤ W'.heap.size ∧ ∀ (z : Nat) (o : Obj), W.heap[z]? = some o → o.isCells = true → W'.heap[z]? = some o
theorem KC.trans {A B C : World} (h : KC A B) (g : KC B C) : KC A C := ⟨Nat.le_trans h.1 g.1, fun z o h1 h2 => g.2 z o (h.2 z o h1 h2) h2⟩
theorem kc_cell {W W' : World} (h : KC W W') {b o : Nat} {v : Value} (hc : W.cell? ⟨b, o, none⟩ = some v) : W'.cell? ⟨b, o, none⟩ = some v := by
  have hb := cell_in hc
  obtain ⟨ob, hob⟩ : ∃ ob, W.heap[b]? = some ob := ⟨_, Array.getElem?_eq_getElem hb⟩
  have hi : ob.isCells = true := by
    cases ob with
    | cells a t => rfl
    | _ => simp [World.cell?, hob] at hc
  have e : W'.heap[b]? = W.heap[b]? := by rw [hob]; exact h.2 b ob hob hi
  rw [cellH e]
  exact hc
theorem below_kc {W W' : World} (h : Below W.heap.size W W') : KC W W' := ⟨h.size, fun z o h1 _ => by
  have : z < W.heap.size := by
    have := (Array.getElem?_eq_some_iff.mp h1).1
    exact this
  rw [h.block z this, h1]⟩
theorem wl_nil {P : Program} {ops : Array Oper} {Q : Exit → Act → World → Prop} {a : Act} {w : World} (h : wpList P ops Q [] a w) : Q .normal a w := h
theorem Slt.old {l : List Oper} {a A : Act} {lp : Array Bool} {a' : Act} (h : Slt l a A lp a') (s : Nat) (hs : ∀ o ∈ l, o.dst ≠ some s) : a'.tmps[s]? = a.tmps[s]? := h.oth s (fun k o hk _ => hs o (List.mem_of_getElem? hk))
theorem gh_quiet {P : Program} {o : Oper} {a' : Act} {w' : World} {K : Act → World → Prop} {Q' : Exit → Act → World → Prop} {v : Value} (hr : (execOp a'.eval o).run P w' = .ok (.value v) w') (hK : K (a'.put o.dst v) w') : o.wp P a' w' K Q' := by
  unfold Oper.wp
  rw [hr]
  exact hK
theorem gh_same {x y : Array Value} {d s : Nat} (h : x.toList.eraseIdx d = y.toList.eraseIdx d) (hs : s ≠ d) : x[s]? = y[s]? := by
  have := erase_get x.toList y.toList d s h hs
  simpa using this
theorem AtG.set5 {W : World} {B : Nat} {x y : BitVec 128} {h : Int} (k : AtG W B x y h) (u v : BitVec 128) (g : Int) : AtG (((((W.setCell ⟨B, 0, none⟩ (.int .u64 (hI u))).setCell ⟨B, 1, none⟩ (.int .u64 (lI u))).setCell ⟨B, 2, none⟩ (.int .u64 (hI v))).setCell ⟨B, 3, none⟩ (.int .u64 (lI v))).setCell ⟨B, 4, none⟩ (.int .i64 g)) B u v g := by
  obtain ⟨c0, c1, c2, c3, c4, f0, f1, f2, f3, f4⟩ := k
  refine ⟨?_, ?_, ?_, ?_, ?_, ?_, ?_, ?_, ?_, ?_⟩ <;> simp [go_sem, *]
/-- What is known while the two segments are laid into variables. -/
structure RR (wr : World) (sx sy : BitVec 128) (sh : Int) (tx ty : BitVec 128) (th : Int) (b8 b9 b10 b11 : Bool) (g : Nat × Nat) (W : World) : Prop where
  bel : Below wr.heap.size wr W
  x : b8 = true → wr.heap.size ≤ g.1 ∧ (if b10 = true then AtG W g.1 sx sy sh else AtG W g.1 0#128 0#128 0)
  y : b9 = true → wr.heap.size ≤ g.2 ∧ (if b11 = true then AtG W g.2 tx ty th else AtG W g.2 0#128 0#128 0)
  ne : b8 = true → b9 = true → g.1 ≠ g.2
  c10 : b10 = true → b8 = true
  c11 : b11 = true → b9 = true
theorem ifG {W W' : World} {B : Nat} {x y : BitVec 128} {h : Int} {b : Bool} (k : if b = true then AtG W B x y h else AtG W B 0#128 0#128 0) (hk : ∀ {x y : BitVec 128} {h : Int}, AtG W B x y h → AtG W' B x y h) : if b = true then AtG W' B x y h else AtG W' B 0#128 0#128 0 := by
  cases b with
  | true => exact hk k
  | false => exact hk k
theorem ifG_lt {W : World} {B : Nat} {x y : BitVec 128} {h : Int} {b : Bool} (k : if b = true then AtG W B x y h else AtG W B 0#128 0#128 0) : B < W.heap.size := by
  cases b with
  | true => exact AtG.lt k
  | false => exact AtG.lt k
theorem atg_zero (W : World) : AtG (W.alloc (.cells #[.int .u64 0, .int .u64 0, .int .u64 0, .int .u64 0, .int .i64 0] 47)) W.heap.size 0#128 0#128 0 := by
  have := atg_new W W.heap.size 0#128 0#128 0 47 rfl
  rwa [hI_zero, lI_zero] at this
theorem RR.al8 {wr : World} {sx sy : BitVec 128} {sh : Int} {tx ty : BitVec 128} {th : Int} {b9 b10 b11 : Bool} {g : Nat × Nat} {W : World} (k : RR wr sx sy sh tx ty th false b9 b10 b11 g W) : RR wr sx sy sh tx ty th true b9 b10 b11 (W.heap.size, g.2) (W.alloc (.cells #[.int .u64 0, .int .u64 0, .int .u64 0, .int .u64 0, .int .i64 0] 47)) := by
  have hb := bl1 W (.cells #[.int .u64 0, .int .u64 0, .int .u64 0, .int .u64 0, .int .i64 0] 47)
  have h10 : b10 = false := by
    cases hb10 : b10 with
    | false => rfl
    | true => exact absurd (k.c10 hb10) (by decide)
  refine ⟨keepb hb k.bel, fun _ => ⟨k.bel.size, ?_⟩, fun h => ⟨(k.y h).1, ifG (k.y h).2 (fun q => q.below hb)⟩, fun _ h e => ?_, fun _ => rfl, k.c11⟩
  · rw [h10]; exact atg_zero W
  · have := ifG_lt (k.y h).2
    simp only at e
    omega
theorem RR.al9 {wr : World} {sx sy : BitVec 128} {sh : Int} {tx ty : BitVec 128} {th : Int} {b8 b10 b11 : Bool} {g : Nat × Nat} {W : World} (k : RR wr sx sy sh tx ty th b8 false b10 b11 g W) : RR wr sx sy sh tx ty th b8 true b10 b11 (g.1, W.heap.size) (W.alloc (.cells #[.int .u64 0, .int .u64 0, .int .u64 0, .int .u64 0, .int .i64 0] 47)) := by
  have hb := bl1 W (.cells #[.int .u64 0, .int .u64 0, .int .u64 0, .int .u64 0, .int .i64 0] 47)
  have h11 : b11 = false := by
    cases hb11 : b11 with
    | false => rfl
    | true => exact absurd (k.c11 hb11) (by decide)
  refine ⟨keepb hb k.bel, fun h => ⟨(k.x h).1, ifG (k.x h).2 (fun q => q.below hb)⟩, fun _ => ⟨k.bel.size, ?_⟩, fun h _ e => ?_, k.c10, fun _ => rfl⟩
  · rw [h11]; exact atg_zero W
  · have := ifG_lt (k.x h).2
    simp only at e
    omega
theorem hSet5 {W : World} {B : Nat} {u0 u1 u2 u3 u4 : Value} {k : Nat} (h : ¬ k = B) : (((((W.setCell ⟨B, 0, none⟩ u0).setCell ⟨B, 1, none⟩ u1).setCell ⟨B, 2, none⟩ u2).setCell ⟨B, 3, none⟩ u3).setCell ⟨B, 4, none⟩ u4).heap[k]? = W.heap[k]? := by
  rw [hSet _ h, hSet _ h, hSet _ h, hSet _ h, hSet _ h]
theorem bset5 {n C : Nat} {w W : World} (h : Below n w W) (hp : n ≤ C) (u0 u1 u2 u3 u4 : Value) : Below n w (((((W.setCell ⟨C, 0, none⟩ u0).setCell ⟨C, 1, none⟩ u1).setCell ⟨C, 2, none⟩ u2).setCell ⟨C, 3, none⟩ u3).setCell ⟨C, 4, none⟩ u4) := ((((h.setCell hp _).setCell hp _).setCell hp _).setCell hp _).setCell hp _
theorem RR.st10 {wr : World} {sx sy : BitVec 128} {sh : Int} {tx ty : BitVec 128} {th : Int} {b8 b9 b11 : Bool} {g : Nat × Nat} {W : World} (k : RR wr sx sy sh tx ty th b8 b9 false b11 g W) (h8 : b8 = true) : RR wr sx sy sh tx ty th b8 b9 true b11 g (((((W.setCell ⟨g.1, 0, none⟩ (.int .u64 (hI sx))).setCell ⟨g.1, 1, none⟩ (.int .u64 (lI sx))).setCell ⟨g.1, 2, none⟩ (.int .u64 (hI sy))).setCell ⟨g.1, 3, none⟩ (.int .u64 (lI sy))).setCell ⟨g.1, 4, none⟩ (.int .i64 sh)) := by
  obtain ⟨h1, h2⟩ := k.x h8
  refine ⟨bset5 k.bel h1 _ _ _ _ _, fun _ => ⟨h1, ?_⟩, fun h => ⟨(k.y h).1, ifG (k.y h).2 (fun q => q.heap (hSet5 (fun e => k.ne h8 h e.symm)))⟩, k.ne, fun _ => h8, k.c11⟩
  rw [if_pos rfl]
  exact AtG.set5 h2 sx sy sh
theorem RR.st11 {wr : World} {sx sy : BitVec 128} {sh : Int} {tx ty : BitVec 128} {th : Int} {b8 b9 b10 : Bool} {g : Nat × Nat} {W : World} (k : RR wr sx sy sh tx ty th b8 b9 b10 false g W) (h9 : b9 = true) : RR wr sx sy sh tx ty th b8 b9 b10 true g (((((W.setCell ⟨g.2, 0, none⟩ (.int .u64 (hI tx))).setCell ⟨g.2, 1, none⟩ (.int .u64 (lI tx))).setCell ⟨g.2, 2, none⟩ (.int .u64 (hI ty))).setCell ⟨g.2, 3, none⟩ (.int .u64 (lI ty))).setCell ⟨g.2, 4, none⟩ (.int .i64 th)) := by
  obtain ⟨h1, h2⟩ := k.y h9
  refine ⟨bset5 k.bel h1 _ _ _ _ _, fun h => ⟨(k.x h).1, ifG (k.x h).2 (fun q => q.heap (hSet5 (fun e => k.ne h h9 e)))⟩, fun _ => ⟨h1, ?_⟩, k.ne, k.c10, fun _ => h9⟩
  rw [if_pos rfl]
  exact AtG.set5 h2 tx ty th
theorem gh_same2 {x y : Array Value} {d d2 s : Nat} (h : (x.toList.set d undef).set d2 undef = (y.toList.set d undef).set d2 undef) (hs : s ≠ d) (hs2 : s ≠ d2) : x[s]? = y[s]? := by
  have := congrArg (fun z => z[s]?) h
  simp only [List.getElem?_set_ne (Ne.symm hs2), List.getElem?_set_ne (Ne.symm hs)] at this
  simpa using this
/-- What lies ready when the body is called. -/
def CyI (wr : World) (N1 N2 N3 : Nat) (sx sy : BitVec 128) (sh : Int) (tx ty : BitVec 128) (th : Int) (cf cl : BitVec 128) (W : World) : Prop := AtY W N3 cf cl ∧ AtG W N1 sx sy sh ∧ AtG W N2 tx ty th ∧ Below wr.heap.size wr W
/-- What is known while the body's call is made ready, and behind it. -/
structure RY (Cy : World → Prop) (J1 Jx1 : World → Prop) (f : Nat → Bool) (g : Bool) (W : World) : Prop where
  c4 : f 4 = true → f 3 = true
  c6 : f 6 = true → f 5 = true
  c7 : f 7 = true → f 2 = true ∧ f 4 = true ∧ f 6 = true
  c8 : f 8 = true → ∀ j, j < 8 → f j = true
  c9 : f 9 = true → f 8 = true
  ahead : f 8 = false → Cy W
  behind : f 8 = true → ∃ W4, Cy W4 ∧ ((g = true ∧ J1 W ∧ KC W4 W) ∨ (g = false ∧ Jx1 W))
theorem RY.start {Cy J1 Jx1 : World → Prop} {f : Nat → Bool} {g : Bool} {W : World} (h : Cy W) (hf : ∀ j, f j = false) : RY Cy J1 Jx1 f g W :=
  ⟨fun q => (by rw [hf] at q; cases q), fun q => (by rw [hf] at q; cases q), fun q => (by rw [hf] at q; cases q), fun q => (by rw [hf] at q; cases q), fun q => (by rw [hf] at q; cases q), fun _ => h, fun q => (by rw [hf] at q; cases q)⟩
theorem RY.now {Cy J1 Jx1 : World → Prop} {f : Nat → Bool} {g : Bool} {W : World} (k : RY Cy J1 Jx1 f g W) (i : Nat) (hi : i < 8) (hun : f i = false) : Cy W := by
  refine k.ahead ?_
  cases h : f 8 with
  | false => rfl
  | true => have := k.c8 h i hi; rw [hun] at this; cases this
theorem RY.step {Cy J1 Jx1 : World → Prop} {f : Nat → Bool} {g : Bool} {W W' : World} (k : RY Cy J1 Jx1 f g W) (i : Nat) (hi : i < 8) (hun : f i = false) (f' : Nat → Bool) (hs : f' i = true) (ho : ∀ j, j ≠ i → f' j = f j) (hd : (i = 4 → f 3 = true) ∧ (i = 6 → f 5 = true) ∧ (i = 7 → f 2 = true ∧ f 4 = true ∧ f 6 = true)) (hc : Cy W') : RY Cy J1 Jx1 f' g W' := by
  have up : ∀ j, f j = true → f' j = true := fun j h => by
    by_cases e : j = i
    · rw [e]; exact hs
    · rw [ho j e]; exact h
  have dn : ∀ j, f' j = true → j = i ∨ f j = true := fun j h => by
    by_cases e : j = i
    · exact .inl e
    · rw [ho j e] at h; exact .inr h
  have n8 : f' 8 = true → False := fun h => by
    rw [ho 8 (by omega)] at h
    have := k.c8 h i hi
    rw [hun] at this
    cases this
  refine ⟨fun h => ?_, fun h => ?_, fun h => ?_, fun h => (n8 h).elim, fun h => ?_, fun _ => hc, fun h => (n8 h).elim⟩
  · rcases dn 4 h with e | e
    · exact up _ (hd.1 e.symm)
    · exact up _ (k.c4 e)
  · rcases dn 6 h with e | e
    · exact up _ (hd.2.1 e.symm)
    · exact up _ (k.c6 e)
  · rcases dn 7 h with e | e
    · obtain ⟨h1, h2, h3⟩ := hd.2.2 e.symm
      exact ⟨up _ h1, up _ h2, up _ h3⟩
    · obtain ⟨h1, h2, h3⟩ := k.c7 e
      exact ⟨up _ h1, up _ h2, up _ h3⟩
  · rcases dn 9 h with e | e
    · omega
    · exact up _ (k.c9 e)
theorem RY.closed {Cy J1 Jx1 : World → Prop} {f : Nat → Bool} {g : Bool} {W : World} (k : RY Cy J1 Jx1 f g W) (d0 : f 0 = true) (d1 : f 1 = true) (d7 : f 7 = true) : ∀ j, j < 8 → f j = true := by
  obtain ⟨h2, h4, h6⟩ := k.c7 d7
  have h3 := k.c4 h4
  have h5 := k.c6 h6
  intro j hj
  match j, hj with
  | 0, _ => exact d0
  | 1, _ => exact d1
  | 2, _ => exact h2
  | 3, _ => exact h3
  | 4, _ => exact h4
  | 5, _ => exact h5
  | 6, _ => exact h6
  | 7, _ => exact d7
  | n + 8, h => exact absurd h (by omega)
theorem RY.to {Cy J1 Jx1 : World → Prop} {f : Nat → Bool} {g : Bool} {W : World} (k : RY Cy J1 Jx1 f g W) (hl : ∀ j, j < 8 → f j = true) (f' : Nat → Bool) (hs : f' 8 = true) (ho : ∀ j, j ≠ 8 → f' j = f j) {g' : Bool} {W' : World} (hb : ∃ W4, Cy W4 ∧ ((g' = true ∧ J1 W' ∧ KC W4 W') ∨ (g' = false ∧ Jx1 W'))) : RY Cy J1 Jx1 f' g' W' := by
  have a : ∀ j, j < 8 → f' j = true := fun j hj => by rw [ho j (by omega)]; exact hl j hj
  exact ⟨fun _ => a 3 (by omega), fun _ => a 5 (by omega), fun _ => ⟨a 2 (by omega), a 4 (by omega), a 6 (by omega)⟩, fun _ => a, fun _ => hs, fun h => (by rw [hs] at h; cases h), fun _ => hb⟩
theorem RY.yes {Cy J1 Jx1 : World → Prop} {f : Nat → Bool} {g : Bool} {W W5 : World} (k : RY Cy J1 Jx1 f g W) (hl : ∀ j, j < 8 → f j = true) (f' : Nat → Bool) (hs : f' 8 = true) (ho : ∀ j, j ≠ 8 → f' j = f j) (hc : Cy W) (hj : J1 W5) (hk : KC W W5) : RY Cy J1 Jx1 f' true W5 := k.to hl f' hs ho ⟨W, hc, .inl ⟨rfl, hj, hk⟩⟩
theorem RY.nay {Cy J1 Jx1 : World → Prop} {f : Nat → Bool} {g : Bool} {W W5 : World} (k : RY Cy J1 Jx1 f g W) (hl : ∀ j, j < 8 → f j = true) (f' : Nat → Bool) (hs : f' 8 = true) (ho : ∀ j, j ≠ 8 → f' j = f j) (hc : Cy W) (hj : Jx1 W5) : RY Cy J1 Jx1 f' false W5 := k.to hl f' hs ho ⟨W, hc, .inr ⟨rfl, hj⟩⟩
theorem RY.last {Cy J1 Jx1 : World → Prop} {f : Nat → Bool} {g : Bool} {W : World} (k : RY Cy J1 Jx1 f g W) (d8 : f 8 = true) (f' : Nat → Bool) (hs : f' 9 = true) (ho : ∀ j, j ≠ 9 → f' j = f j) : RY Cy J1 Jx1 f' g W := by
  have a : ∀ j, j < 8 → f' j = true := fun j hj => by rw [ho j (by omega)]; exact k.c8 d8 j hj
  have h8 : f' 8 = true := by rw [ho 8 (by omega)]; exact d8
  exact ⟨fun _ => a 3 (by omega), fun _ => a 5 (by omega), fun _ => ⟨a 2 (by omega), a 4 (by omega), a 6 (by omega)⟩, fun _ => a, fun _ => h8, fun h => (by rw [h8] at h; cases h), fun _ => k.behind d8⟩
/-- What along's sequence reads. -/
structure AlM (A B C : Nat) (va vb fv : Value) (la lb : List Sg) (W : World) : Prop where
  a : W.cell? ⟨A, 0, none⟩ = some va
  b : W.cell? ⟨B, 0, none⟩ = some vb
  c : W.cell? ⟨C, 0, none⟩ = some fv
  ra : RwG W va la
  rb : RwG W vb lb
theorem RwG.kc {W W' : World} {v : Value} {l : List Sg} (h : RwG W v l) (hk : KC W W') : RwG W' v l := by
  obtain ⟨ao, c, e, h⟩ := h
  refine ⟨ao, c, e, h.imp id ?_⟩
  rintro ⟨b, off, e, hc⟩
  exact ⟨b, off, e, fun j u hj => kc_cell hk (hc j u hj)⟩
theorem AlM.kc {A B C : Nat} {va vb fv : Value} {la lb : List Sg} {W W' : World} (k : AlM A B C va vb fv la lb W) (h : KC W W') : AlM A B C va vb fv la lb W' := ⟨kc_cell h k.a, kc_cell h k.b, kc_cell h k.c, k.ra.kc h, k.rb.kc h⟩
def encD (x : Str) : Array Value := #[.agg #[.int .u64 (hI x.1.1), .int .u64 (lI x.1.1), .int .u64 (hI x.1.2), .int .u64 (lI x.1.2)], .bool (x.2.1 != x.2.2)]
theorem al_step (la lb : List Sg) (i k : Nat) (hi : i < la.length) (hk : k < lb.length) : al (la.drop i) (lb.drop k) = ((comF la[i] lb[k], comL la[i] lb[k]), (la[i].2, lb[k].2)) :: al (la.drop (if la[i].1.2 = comL la[i] lb[k] then i + 1 else i)) (lb.drop (if lb[k].1.2 = comL la[i] lb[k] then k + 1 else k)) := by
  rw [List.drop_eq_getElem_cons hi, List.drop_eq_getElem_cons hk, al]
  congr 1
  rcases com_ways la[i] lb[k] with ⟨k1, q, r⟩ | ⟨k1, k', q⟩ | ⟨k1, k', q, r⟩
  · rw [if_pos k1, q, if_neg r, if_pos rfl, List.drop_eq_getElem_cons hi]
  · rw [if_neg k', if_pos k1, q, if_pos rfl, if_pos k1.symm]
  · rw [if_neg k', if_neg r, q, if_pos rfl, if_neg (fun e => r e.symm), List.drop_eq_getElem_cons hk]
end Go.Proofs.YtonagfmkplbooaaGreatDoor
