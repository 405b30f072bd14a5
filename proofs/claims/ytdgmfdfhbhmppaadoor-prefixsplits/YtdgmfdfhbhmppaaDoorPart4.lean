/-
  Part 4 of the proof: 7 texts, one behind the other.
-/
import Derived.Test.YtdgmfdfhbhmppaaDoorPart3
import Derived.Test.YtdgmfdfhbhmppaaDoorPart2
import Derived.Test.YtdgmfdfhbhmppaaDoorPart1
import Derived.Deep.RegionHeld3
import Derived.BigQuiet
/-
  A region that draws its order, of whatever operations, by what is known of memory and of some numbers when some of them are done.
-/
namespace Go.Proofs.YtdgmfdfhbhmppaaDoor
open Go.RowKit
set_option linter.unusedSimpArgs false
set_option linter.unusedVariables false

section
variable {P : Program}

theorem putAll_other : ∀ (ds : List (Option Tmp)) (vs : List Value) (a : Act) (s : Nat), (∀ d ∈ ds, d ≠ some s) → (putAll a ds vs).tmps[s]? = a.tmps[s]?
  | [], vs, a, s, _ => by cases vs <;> rfl
  | d :: ds, [], a, s, _ => rfl
  | d :: ds, v :: vs, a, s, h => by
    rw [putAll, putAll_other ds vs (a.put d v) s (fun x hx => h x (List.mem_cons_of_mem _ hx))]
    exact put_other a d v s (h d (by simp))
theorem putAll_defers : ∀ (ds : List (Option Tmp)) (vs : List Value) (a : Act), (putAll a ds vs).defers = a.defers
  | [], vs, a => by cases vs <;> rfl
  | d :: ds, [], a => rfl
  | d :: ds, v :: vs, a => by
    rw [putAll, putAll_defers ds vs (a.put d v)]
    unfold Act.put
    cases d <;> rfl
/-- What stands in the slots when some operations are done. -/
structure Slt (l : List Oper) (a A : Act) (lp : Array Bool) (a' : Act) : Prop where
  don : ∀ (k : Nat) (o : Oper) (s : Nat), l[k]? = some o → lp.getD k false = true → o.dst = some s → a'.tmps[s]? = A.tmps[s]?
  oth : ∀ s, (∀ (k : Nat) (o : Oper), l[k]? = some o → lp.getD k false = true → o.dst ≠ some s) → a'.tmps[s]? = a.tmps[s]?
  siz : a'.tmps.size = a.tmps.size
  dfr : a'.defers = a.defers
theorem getD_set {lp : Array Bool} {i k : Nat} (h : (lp.setIfInBounds i true).getD k false = true) : k = i ∨ lp.getD k false = true := by
  by_cases e : k = i
  · exact .inl e
  · right
    rw [Array.getD_eq_getD_getElem?] at h ⊢
    rwa [Array.getElem?_setIfInBounds_ne (by omega)] at h
theorem getD_set_same {lp : Array Bool} {i : Nat} (h : i < lp.size) : (lp.setIfInBounds i true).getD i false = true := by
  rw [Array.getD_eq_getD_getElem?, Array.getElem?_setIfInBounds_self_of_lt h]
  rfl
def valO (A : Act) (o : Oper) : Value := ((o.dst).bind fun s => A.tmps[s]?).getD undef
theorem gh_any {γ : Type} {l : List Oper} (ok : QpOk l l.length l.length) (hgd : ∀ o ∈ l, o.guard = none) (hdst : ∀ (i k : Nat) (oi ok : Oper) (s : Nat), l[i]? = some oi → l[k]? = some ok → oi.dst = some s → ok.dst = some s → i = k) {Q : Exit → Act → World → Prop} {a : Act} (A : γ → Act) (hsz : ∀ g, (A g).tmps.size = a.tmps.size) (hdf : ∀ g, (A g).defers = a.defers) (hA : ∀ g s, (∀ o ∈ l, o.dst ≠ some s) → (A g).tmps[s]? = a.tmps[s]?) (R : Array Bool → γ → World → Prop)
    (hstep : ∀ (i : Nat) (o : Oper) (lp : Array Bool) (g : γ) (w' : World) (a' : Act), l[i]? = some o → lp.size = l.length → lp.getD i false = false → (∀ e ∈ o.after, Region.binds .any e = true → lp.getD e.on false = true) → R lp g w' → Slt l a (A g) lp a' →
      ∀ (K : Act → World → Prop) Q', (∀ g' w'', (∀ (k : Nat) (o : Oper) (s : Nat), l[k]? = some o → lp.getD k false = true → o.dst = some s → (A g').tmps[s]? = (A g).tmps[s]?) → R (lp.setIfInBounds i true) g' w'' → ∀ v, valO (A g') o = v → K (a'.put o.dst v) w'') → o.wp P a' w' K Q')
    (hpost : ∀ g w', R (Array.replicate l.length true) g w' → Q .normal (A g) w') :
    ∀ (fuel : Nat) (lp : Array Bool) (g : γ) (a' : Act) (w : World), lp.size = l.length → unl lp = fuel → R lp g w → Slt l a (A g) lp a' → wpAny P .any l.toArray Q fuel lp a' w := by
  intro fuel
  have fin : ∀ (lp : Array Bool) (g : γ) (a' : Act) (w : World), lp.size = l.length → unl lp = 0 → R lp g w → Slt l a (A g) lp a' → Q .normal a' w := by
    intro lp g a' w hs hu hR hS
    have e : lp = Array.replicate l.length true := by have := unl_zero lp hu; rwa [hs] at this
    rw [e] at hR hS
    have : a' = A g := by
      have ht : a'.tmps = (A g).tmps := by
        apply Array.ext_getElem?
        intro s
        by_cases h : ∃ (k : Nat) (o : Oper), l[k]? = some o ∧ o.dst = some s
        · obtain ⟨k, o, h1, h2⟩ := h
          have hk : k < l.length := (List.getElem?_eq_some_iff.mp h1).1
          exact hS.don k o s h1 (by simp [Array.getElem?_replicate, hk]) h2
        · have h' : ∀ o ∈ l, o.dst ≠ some s := by
            intro o ho e
            obtain ⟨k, hk, rfl⟩ := List.mem_iff_getElem.mp ho
            exact h ⟨k, l[k], List.getElem?_eq_getElem hk, e⟩
          rw [hA g s h']
          exact hS.oth s (fun k o h1 _ e => h ⟨k, o, h1, e⟩)
      have hd : a'.defers = (A g).defers := by rw [hS.dfr, hdf]
      cases a'
      cases hAg : A g
      rw [hAg] at ht hd
      simp only at ht hd
      rw [ht, hd]
    rw [this]
    exact hpost g w hR
  induction fuel with
  | zero =>
    intro lp g a' w hs hu hR hS
    refine ⟨?_, fin lp g a' w hs hu hR hS⟩
    have e : lp = Array.replicate l.length true := by have := unl_zero lp hu; rwa [hs] at this
    apply List.eq_nil_iff_forall_not_mem.mpr
    intro i hi
    obtain ⟨hun, o, ho, _⟩ := mem_ready.1 hi
    have hk : i < l.length := by
      have := (Array.getElem?_eq_some_iff.mp ho).1
      simpa using this
    rw [e] at hun
    simp [Array.getElem?_replicate, hk] at hun
  | succ fuel ih =>
    intro lp g a' w hs hu hR hS
    refine ⟨fun e => ?_, fun i hi => ?_⟩
    · obtain ⟨k, hk, hf⟩ := unl_some lp fuel hu
      have hne := some_ready ok lp hs k (by omega) hf
      rw [Nat.sub_self] at hne
      exact absurd (by simpa using e) hne
    · obtain ⟨hun, o, ho, hrd⟩ := mem_ready.1 hi
      have ho' : l[i]? = some o := by simpa using ho
      have hil : i < l.length := (List.getElem?_eq_some_iff.mp ho').1
      have hun' : lp.getD i false = false := by
        rw [Array.getD_eq_getD_getElem?] at hun ⊢
        cases q : lp[i]? with
        | none => rfl
        | some b => rw [q] at hun; simpa using hun
      unfold wpOp
      simp only [ho]
      rw [if_pos (by simp [Region.wanted, hgd o (List.mem_of_getElem? ho')])]
      left
      refine hstep i o lp g w a' ho' hs hun' (fun e he hb => hrd e he hb) hR hS _ _ ?_
      intro g' w'' hsame hR' v hv
      subst hv
      refine ih _ g' _ w'' (by simp [hs]) (by have := unl_set lp i hun; omega) hR' ⟨?_, ?_, ?_, ?_⟩
      · intro k ok s hk hl hd
        rcases getD_set hl with rfl | hl'
        · have : ok = o := by rw [ho'] at hk; cases hk; rfl
          subst this
          unfold Act.put valO
          rw [hd]
          simp only [Option.bind_some]
          by_cases hlt : s < a'.tmps.size
          · rw [Array.getElem?_setIfInBounds_self_of_lt hlt]
            have h2 : s < (A g').tmps.size := by rw [hsz, ← hS.siz]; exact hlt
            rw [Array.getElem?_eq_getElem h2]
            rfl
          · rw [Array.getElem?_eq_none (by simp; omega), Array.getElem?_eq_none (by rw [hsz, ← hS.siz]; omega)]
        · rw [put_other a' o.dst _ s (fun e => by
            have := hdst k i ok o s hk ho' hd e
            subst this
            rw [hun'] at hl'
            cases hl'), hS.don k ok s hk hl' hd, hsame k ok s hk hl' hd]
      · intro s h
        have hne : o.dst ≠ some s := h i o ho' (getD_set_same (by omega))
        rw [put_other a' o.dst _ s hne]
        exact hS.oth s (fun k ok hk hl => h k ok hk (by
          by_cases e : k = i
          · subst e; exact getD_set_same (by omega)
          · rw [Array.getD_eq_getD_getElem?] at hl ⊢
            rwa [Array.getElem?_setIfInBounds_ne (by omega)]))
      · rw [put_size, hS.siz]
      · unfold Act.put
        cases o.dst <;> exact hS.dfr
def dstG (l : List Oper) : Bool := (List.range l.length).all fun i => (List.range l.length).all fun k => i == k || ((l[i]?).bind (·.dst)).isNone || ((l[i]?).bind (·.dst)) != ((l[k]?).bind (·.dst))
theorem dstG_of {l : List Oper} (h : dstG l = true) : ∀ (i k : Nat) (oi ok : Oper) (s : Nat), l[i]? = some oi → l[k]? = some ok → oi.dst = some s → ok.dst = some s → i = k := by
  intro i k oi ok s hi hk h1 h2
  have hil := (List.getElem?_eq_some_iff.mp hi).1
  have hkl := (List.getElem?_eq_some_iff.mp hk).1
  unfold dstG at h
  rw [List.all_eq_true] at h
  have := h i (List.mem_range.mpr hil)
  rw [List.all_eq_true] at this
  have := this k (List.mem_range.mpr hkl)
  rw [hi, hk] at this
  simp only [Option.bind_some, h1, h2] at this
  simpa using this
theorem gh_region {γ : Type} {id : Nat} {l : List Oper} (ok : QpOk l l.length l.length) (hgd : (l.all fun o => o.guard.isNone) = true) (hdst : dstG l = true) {Q : Exit → Act → World → Prop} {a : Act} {w : World} (ds : List (Option Tmp)) (vals : γ → List Value) (hm : P.follows .mixedOrders = true) (hds : ∀ d ∈ ds, ∃ o ∈ l, o.dst = d) (R : Array Bool → γ → World → Prop) (g0 : γ) (h0 : R (Array.replicate l.length false) g0 w.drew)
    (hstep : ∀ (i : Nat) (o : Oper) (lp : Array Bool) (g : γ) (w' : World) (a' : Act), l[i]? = some o → lp.size = l.length → lp.getD i false = false → (∀ e ∈ o.after, Region.binds .any e = true → lp.getD e.on false = true) → R lp g w' → Slt l a (putAll a ds (vals g)) lp a' →
      ∀ (K : Act → World → Prop) Q', (∀ g' w'', (∀ (k : Nat) (o : Oper) (s : Nat), l[k]? = some o → lp.getD k false = true → o.dst = some s → (putAll a ds (vals g')).tmps[s]? = (putAll a ds (vals g)).tmps[s]?) → R (lp.setIfInBounds i true) g' w'' → ∀ v, valO (putAll a ds (vals g')) o = v → K (a'.put o.dst v) w'') → o.wp P a' w' K Q')
    (hpost : ∀ g w', R (Array.replicate l.length true) g w' → Q .normal (putAll a ds (vals g)) w') : (Code.region id l.toArray true).wp P Q a w := by
  refine wp_region_any hm ?_
  have hu : unl (Array.replicate l.length false) = l.length := by unfold unl; simp
  have main := gh_any ok (fun o ho => by have := List.all_eq_true.mp hgd o ho; simpa using this) (dstG_of hdst) (A := fun g => putAll a ds (vals g)) (fun g => putAll_size _ _ _) (fun g => putAll_defers _ _ _) (fun g s h => putAll_other _ _ _ _ (fun d hd e => by obtain ⟨o, ho, hod⟩ := hds d hd; exact h o ho (by rw [hod, e]))) R hstep hpost l.length (Array.replicate l.length false) g0 a w.drew (by simp) hu h0 ⟨fun k o s hk hl => (by rw [Array.getD_eq_getD_getElem?, Array.getElem?_replicate] at hl; split at hl <;> simp at hl), fun s _ => rfl, rfl, rfl⟩
  have e1 : l.length = l.toArray.size := by simp
  rw [e1] at main
  simpa using main
end
end Go.Proofs.YtdgmfdfhbhmppaaDoor
/-
  The walk of Qt under a cover that no reckoning opens: for regions in which operations are passed over.
-/
namespace Go.Proofs.YtdgmfdfhbhmppaaDoor
open Go.RowKit
set_option linter.unusedSimpArgs false
set_option linter.unusedVariables false

structure QW (P : Program) (ops : Array Oper) (C : World → Prop) (Q : Act → Prop) (l : List Oper) (a : Act) : Prop where
  out : wpQuiet P ops C Q l a
theorem qw_run {P : Program} {ops : Array Oper} {C : World → Prop} {Q : Act → Prop} {a : Act} {o : Oper} {rest : List Oper} {v : Value}
    (hw : Region.wanted o (yielded ops a.tmps) = true) (h : ∀ w, C w → (execOp a.eval o).run P w = .ok (.value v) w) (k : QW P ops C Q rest (a.put o.dst v)) : QW P ops C Q (o :: rest) a := ⟨q_run hw h k.out⟩
theorem qw_skip {P : Program} {ops : Array Oper} {C : World → Prop} {Q : Act → Prop} {a : Act} {o : Oper} {rest : List Oper}
    (hw : Region.wanted o (yielded ops a.tmps) = false) (k : QW P ops C Q rest (a.put o.dst undef)) : QW P ops C Q (o :: rest) a := ⟨q_skip hw k.out⟩
theorem qw_call {P : Program} {ops : Array Oper} {C : World → Prop} {Q : Act → Prop} {a : Act} {o : Oper} {rest : List Oper} {v : Value} {f : FuncId} {args : Array Value}
    (hw : Region.wanted o (yielded ops a.tmps) = true) (h : ∀ w, C w → (execOp a.eval o).run P w = .ok (.enter f args) w) (hc : ∀ w, C w → Calls P f args w fun e w' => e = .returned v ∧ C w') (k : QW P ops C Q rest (a.put o.dst v)) : QW P ops C Q (o :: rest) a := ⟨q_call hw h hc k.out⟩
theorem qw_nil {P : Program} {ops : Array Oper} {C : World → Prop} {Q : Act → Prop} {a : Act} (h : Q a) : QW P ops C Q [] a := ⟨wpQuiet_nil h⟩
theorem qw_region {P : Program} {C : World → Prop} {id : Nat} {Q : Exit → Act → World → Prop} {a : Act} {w : World} {l : List Oper} (hm : P.follows .mixedOrders = true) (hB : Region.lexB .any l.toArray = true) (hC : C w.drew)
    (h : QW P l.toArray C (fun a' => ∀ w', C w' → Q .normal a' w') l a) : (Code.region id l.toArray true).wp P Q a w := q_region hm hB hC h.out
end Go.Proofs.YtdgmfdfhbhmppaaDoor
/-
  Regions that draw their order, in a round of a range over a function.
-/
namespace Go.Proofs.YtdgmfdfhbhmppaaDoor
open Go.RowKit Go.Shelf
set_option linter.unusedSimpArgs false
set_option linter.unusedVariables false

section
variable {P : Program}
/-- No deferred call. -/
def notD (o : Oper) : Bool := match o.op with | .defer _ => false | _ => true
theorem notD_ne {o : Oper} (h : notD o = true) : ∀ c, o.op ≠ .defer c := fun c e => by
  unfold notD at h
  rw [e] at h
  cases h
theorem oper_round {n l : Nat} {o : Oper} {a : Act} {w : World} {K : Act → World → Prop} {Q : Exit → Act → World → Prop} (hd : notD o = true) (h : o.wp P a w K Q) : o.wpIn (Fence.wide.inRound l) n P a w K Q := by
  refine ⟨fun _ _ => trivial, ?_⟩
  rw [Fence.inRound_round, Oper.semAt_some l _ o (notD_ne hd)]
  unfold Oper.wp Oper.upon at h
  unfold Oper.uponIn
  cases hr : (execOp a.eval o).run P w with
  | ok x w' =>
    rw [hr] at h
    cases x with
    | value v => exact h
    | skip => exact h
    | defer d => exact h
    | enter f args => exact ⟨fun q => (by cases q), CallsIn.inRound l (callsIn_wide.2 h)⟩
    | row r args => exact ⟨fun q => (by cases q), fun c cs _ => let ⟨v, w'', r', s⟩ := h c cs; ⟨v, w'', r', stepsIn_wide.2 s⟩⟩
    | _ => exact h.elim
  | halt x w' =>
    rw [hr] at h
    cases x with
    | panic v => exact h
    | _ => exact h.elim
theorem any_round {n l : Nat} {md : Region.Mode} {ops : Array Oper} {Q : Exit → Act → World → Prop} (hno : ¬ LetsOut Q) (hd : (ops.toList.all notD) = true) : ∀ (fuel : Nat) (listed : Array Bool) (a : Act) (w : World), wpAny P md ops Q fuel listed a w → wpAnyIn (Fence.wide.inRound l) n P md ops Q fuel listed a w
  | 0, listed, a, w, h => h
  | fuel + 1, listed, a, w, h => by
    refine ⟨h.1, fun i hi => ?_⟩
    have := h.2 i hi
    unfold wpOp at this
    unfold wpOpIn
    cases ho : ops[i]? with
    | none =>
      rw [ho] at this
      exact any_round hno hd fuel _ _ _ this
    | some o =>
      rw [ho] at this
      simp only at this ⊢
      have hnd : notD o = true := List.all_eq_true.mp hd o (by
        have := Array.mem_of_getElem? ho
        simpa using this)
      by_cases hw : Region.wanted o (yielded ops a.tmps) = true
      · rw [if_pos hw] at this ⊢
        exact Oper.wpIn_mono (fun a w h => any_round hno hd fuel _ a w h) (oper_round hnd (this.elim id (fun h => absurd h.2 hno)))
      · rw [if_neg hw] at this ⊢
        exact ⟨fun _ _ => trivial, any_round hno hd fuel _ _ _ this⟩
theorem region_round {n l id : Nat} {ops : Array Oper} {Q : Exit → Act → World → Prop} {a : Act} {w : World} (hno : ¬ LetsOut Q) (hm : P.follows .mixedOrders = true) (hd : (ops.toList.all notD) = true) (h : wpAny P .any ops Q ops.size (Array.replicate ops.size false) a w.drew) : (Code.region id ops true).wpIn (Fence.wide.inRound l) n P Q a w := wpIn_region_any hm (any_round hno hd _ _ _ _ h)
theorem q_regionR {n lo : Nat} {C : World → Prop} {id : Nat} {Q : Exit → Act → World → Prop} {a : Act} {w : World} {l : List Oper} (hno : ¬ LetsOut Q) (hm : P.follows .mixedOrders = true) (hB : Region.lexB .any l.toArray = true) (hd : (l.all notD) = true) (hC : C w.drew)
    (h : QW P l.toArray C (fun a' => ∀ w', C w' → Q .normal a' w') l a) : (Code.region id l.toArray true).wpIn (Fence.wide.inRound lo) n P Q a w := by
  have hq := h.out
  simp only [Region.lexB, Bool.and_eq_true] at hB
  refine region_round hno hm (by simpa using hd) (wpAny_of_quiet (Q := fun a' => ∀ w', C w' → Q .normal a' w') (fun _ w' hw' h => h w' hw') _ _ _ _ hC ?_)
  have := wpAnyQ_lex (C := C) (md := .any) hB.1 l 0 (Array.replicate l.toArray.size false) a (by simp) (by simpa using hB.2) hq
  simpa using this
theorem gh_regionR {n lo : Nat} {γ : Type} {id : Nat} {l : List Oper} (ok : QpOk l l.length l.length) (hgd : (l.all fun o => o.guard.isNone) = true) (hdst : dstG l = true) (hd : (l.all notD) = true) {Q : Exit → Act → World → Prop} {a : Act} {w : World} (hno : ¬ LetsOut Q) (ds : List (Option Tmp)) (vals : γ → List Value) (hm : P.follows .mixedOrders = true) (hds : ∀ d ∈ ds, ∃ o ∈ l, o.dst = d) (R : Array Bool → γ → World → Prop) (g0 : γ) (h0 : R (Array.replicate l.length false) g0 w.drew)
    (hstep : ∀ (i : Nat) (o : Oper) (lp : Array Bool) (g : γ) (w' : World) (a' : Act), l[i]? = some o → lp.size = l.length → lp.getD i false = false → (∀ e ∈ o.after, Region.binds .any e = true → lp.getD e.on false = true) → R lp g w' → Slt l a (putAll a ds (vals g)) lp a' →
      ∀ (K : Act → World → Prop) Q', (∀ g' w'', (∀ (k : Nat) (o : Oper) (s : Nat), l[k]? = some o → lp.getD k false = true → o.dst = some s → (putAll a ds (vals g')).tmps[s]? = (putAll a ds (vals g)).tmps[s]?) → R (lp.setIfInBounds i true) g' w'' → ∀ v, valO (putAll a ds (vals g')) o = v → K (a'.put o.dst v) w'') → o.wp P a' w' K Q')
    (hpost : ∀ g w', R (Array.replicate l.length true) g w' → Q .normal (putAll a ds (vals g)) w') : (Code.region id l.toArray true).wpIn (Fence.wide.inRound lo) n P Q a w := by
  refine region_round hno hm (by simpa using hd) ?_
  have hu : unl (Array.replicate l.length false) = l.length := by unfold unl; simp
  have main := gh_any ok (fun o ho => by have := List.all_eq_true.mp hgd o ho; simpa using this) (dstG_of hdst) (A := fun g => putAll a ds (vals g)) (fun g => putAll_size _ _ _) (fun g => putAll_defers _ _ _) (fun g s h => putAll_other _ _ _ _ (fun d hd e => by obtain ⟨o, ho, hod⟩ := hds d hd; exact h o ho (by rw [hod, e]))) R hstep hpost l.length (Array.replicate l.length false) g0 a w.drew (by simp) hu h0 ⟨fun k o s hk hl => (by rw [Array.getD_eq_getD_getElem?, Array.getElem?_replicate] at hl; split at hl <;> simp at hl), fun s _ => rfl, rfl, rfl⟩
  have e1 : l.length = l.toArray.size := by simp
  rw [e1] at main
  simpa using main
end
end Go.Proofs.YtdgmfdfhbhmppaaDoor
/-
  What each call of the small functions of turnpikeref1 does that are like those of package word.
-/
namespace Go.Proofs.YtdgmfdfhbhmppaaDoor
open Go.RowKit
set_option linter.unusedSimpArgs false
set_option linter.unusedVariables false

theorem rand_any (x y : BitVec 128) (w : World) :
    Calls Tryd.prog 39 #[.agg #[.int .u64 (hI x), .int .u64 (lI x)], .agg #[.int .u64 (hI y), .int .u64 (lI y)]] w fun e w' => e = .returned (.agg #[.int .u64 (hI (x &&& y)), .int .u64 (lI (x &&& y))]) ∧ Below w.heap.size w w' := by
  go_enter Tryd.func39, Tryd.ntmps39
  go_wp2
  rw [and_h, and_l]
  exact bodyPost_ret (v := .agg #[.int .u64 (hI (x &&& y)), .int .u64 (lI (x &&& y))]) (by simp [results, Tryd.results39, go_sem]) rfl ⟨rfl, bl3 _ _ _ _⟩

theorem ror_any (x y : BitVec 128) (w : World) :
    Calls Tryd.prog 43 #[.agg #[.int .u64 (hI x), .int .u64 (lI x)], .agg #[.int .u64 (hI y), .int .u64 (lI y)]] w fun e w' => e = .returned (.agg #[.int .u64 (hI (x ||| y)), .int .u64 (lI (x ||| y))]) ∧ Below w.heap.size w w' := by
  go_enter Tryd.func43, Tryd.ntmps43
  go_wp2
  rw [or_h, or_l]
  exact bodyPost_ret (v := .agg #[.int .u64 (hI (x ||| y)), .int .u64 (lI (x ||| y))]) (by simp [results, Tryd.results43, go_sem]) rfl ⟨rfl, bl3 _ _ _ _⟩

theorem rnot_any (x : BitVec 128) (w : World) :
    Calls Tryd.prog 44 #[.agg #[.int .u64 (hI x), .int .u64 (lI x)]] w fun e w' => e = .returned (.agg #[.int .u64 (hI (~~~x)), .int .u64 (lI (~~~x))]) ∧ Below w.heap.size w w' := by
  have hs : ¬ IntKind.u64.signed = true := by decide
  go_enter Tryd.func44, Tryd.ntmps44
  go_wp2
  rw [not_h, not_l]
  exact bodyPost_ret (v := .agg #[.int .u64 (hI (~~~x)), .int .u64 (lI (~~~x))]) (by simp [results, Tryd.results44, go_sem]) rfl ⟨rfl, bl2 _ _ _⟩

end Go.Proofs.YtdgmfdfhbhmppaaDoor
/-
  What each call of turnpikeref1's Bit, Put, Mask, Add, Sub and Cmp does.
-/
namespace Go.Proofs.YtdgmfdfhbhmppaaDoor
open Go.RowKit
set_option linter.unusedSimpArgs false
set_option linter.unusedVariables false

set_option maxHeartbeats 400000 in
theorem rbit_any (x : BitVec 128) (i : Int) (w : World) :
    Calls Tryd.prog 60 #[.agg #[.int .u64 (hI x), .int .u64 (lI x)], .int .i64 i] w fun e w' => e = .returned (.int .i64 (bitZ x i)) ∧ Below w.heap.size w w' := by
  by_cases h0 : i < 0
  · rw [bitZ_out x i (Or.inl h0)]
    go_enter Tryd.func60, Tryd.ntmps60
    go_wp2
    go_ret
    exact ⟨rfl, bl1 _ _⟩
  by_cases h1 : 127 < i
  · rw [bitZ_out x i (Or.inr h1)]
    go_enter Tryd.func60, Tryd.ntmps60
    go_wp2
    go_ret
    exact ⟨rfl, bl1 _ _⟩
  by_cases h2 : i < 64
  · rw [← bit_hi x i (by omega) h2]
    go_enter Tryd.func60, Tryd.ntmps60
    go_wp2
    go_ret
    exact ⟨rfl, bl1 _ _⟩
  · rw [← bit_lo x i (by omega) (by omega)]
    go_enter Tryd.func60, Tryd.ntmps60
    go_wp2
    go_ret
    exact ⟨rfl, bl1 _ _⟩

set_option maxHeartbeats 400000 in
theorem put_any (x : BitVec 128) (i b : Int) (w : World) (hb : b = 0 ∨ b = 1) (h0 : 0 ≤ i) (h1 : i ≤ 127) :
    Calls Tryd.prog 15 #[.agg #[.int .u64 (hI x), .int .u64 (lI x)], .int .i64 i, .int .i64 b] w fun e w' => e = .returned (.agg #[.int .u64 (hI (putW x i b)), .int .u64 (lI (putW x i b))]) ∧ Below w.heap.size w w' := by
  by_cases h2 : i < 64
  · rcases hb with rfl | rfl
    · rw [put_l0 x i 0 (Or.inl rfl) h0 h2, ← put_h0 x i h0 h2]
      go_enter Tryd.func15, Tryd.ntmps15
      go_wp2
      go_region
      all_goals go_wp2
      all_goals exact bodyPost_ret (v := .agg #[.int .u64 (bits .or .u64 (bits .andNot .u64 (hI x) (IntKind.u64.wrap (2 ^ (63 - i).toNat))) 0), .int .u64 (lI x)]) (by simp [results, Tryd.results15, go_sem]) rfl ⟨rfl, (bl2 _ _ _).drew⟩
    · rw [put_l0 x i 1 (Or.inr rfl) h0 h2, ← put_h1 x i h0 h2]
      go_enter Tryd.func15, Tryd.ntmps15
      go_wp2
      go_region
      all_goals go_wp2
      all_goals exact bodyPost_ret (v := .agg #[.int .u64 (bits .or .u64 (bits .andNot .u64 (hI x) (IntKind.u64.wrap (2 ^ (63 - i).toNat))) (IntKind.u64.wrap (2 ^ (63 - i).toNat))), .int .u64 (lI x)]) (by simp [results, Tryd.results15, go_sem]) rfl ⟨rfl, (bl2 _ _ _).drew⟩
  · rcases hb with rfl | rfl
    · rw [put_hh x i 0 (Or.inl rfl) (by omega) h1, ← put_l00 x i (by omega) h1]
      go_enter Tryd.func15, Tryd.ntmps15
      go_wp2
      go_region
      all_goals go_wp2
      all_goals exact bodyPost_ret (v := .agg #[.int .u64 (hI x), .int .u64 (bits .or .u64 (bits .andNot .u64 (lI x) (IntKind.u64.wrap (2 ^ (127 - i).toNat))) 0)]) (by simp [results, Tryd.results15, go_sem]) rfl ⟨rfl, (bl2 _ _ _).drew⟩
    · rw [put_hh x i 1 (Or.inr rfl) (by omega) h1, ← put_l1 x i (by omega) h1]
      go_enter Tryd.func15, Tryd.ntmps15
      go_wp2
      go_region
      all_goals go_wp2
      all_goals exact bodyPost_ret (v := .agg #[.int .u64 (hI x), .int .u64 (bits .or .u64 (bits .andNot .u64 (lI x) (IntKind.u64.wrap (2 ^ (127 - i).toNat))) (IntKind.u64.wrap (2 ^ (127 - i).toNat)))]) (by simp [results, Tryd.results15, go_sem]) rfl ⟨rfl, (bl2 _ _ _).drew⟩

/-- The variable at block B holds the word x, and may be written. -/
def At (w : World) (B : Nat) (x : BitVec 128) : Prop := w.cell? ⟨B, 0, none⟩ = some (.int .u64 (hI x)) ∧ w.cell? ⟨B, 1, none⟩ = some (.int .u64 (lI x)) ∧ w.frozen? ⟨B, 0, none⟩ = false ∧ w.frozen? ⟨B, 1, none⟩ = false ∧ B < w.heap.size
theorem At.below {w w' : World} {B : Nat} {x : BitVec 128} (h : At w B x) (hb : Below w.heap.size w w') : At w' B x := by
  obtain ⟨h0, h1, h2, h3, h4⟩ := h
  obtain ⟨hc, hf⟩ := bcell hb
  exact ⟨by rw [hc _ _ h4]; exact h0, by rw [hc _ _ h4]; exact h1, by rw [hf _ _ h4]; exact h2, by rw [hf _ _ h4]; exact h3, Nat.lt_of_lt_of_le h4 hb.size⟩
theorem At.set {w : World} {B : Nat} {x : BitVec 128} (y : BitVec 128) (h : At w B x) : At ((w.setCell ⟨B, 0, none⟩ (.int .u64 (hI y))).setCell ⟨B, 1, none⟩ (.int .u64 (lI y))) B y := by
  obtain ⟨h0, h1, h2, h3, h4⟩ := h
  refine ⟨?_, ?_, ?_, ?_, ?_⟩ <;> simp [go_sem, *]

theorem At.other {w : World} {B C : Nat} {x : BitVec 128} (u v : Value) (h : At w B x) (hn : B ≠ C) : At ((w.setCell ⟨C, 0, none⟩ u).setCell ⟨C, 1, none⟩ v) B x := by
  obtain ⟨h0, h1, h2, h3, h4⟩ := h
  have hn' : ¬ C = B := fun e => hn e.symm
  refine ⟨?_, ?_, ?_, ?_, ?_⟩ <;> simp [go_sem, *]
theorem maskW_end (n : Int) (k : Nat) (hk : k ≤ 128) (hkn : k = 0 ∨ (k : Int) ≤ n) (hc : ¬ ((k : Int) < n ∧ k < 128)) : maskW (k : Int) = maskW n := by
  by_cases h : n ≤ 0
  · have : k = 0 := by omega
    subst this
    rw [maskW_neg n h]; exact maskW_0
  · by_cases g : (k : Int) = n
    · rw [g]
    · have : k = 128 := by omega
      subst this
      rw [maskW_all n (by omega)]; rfl

set_option maxHeartbeats 400000 in
theorem rmask_any (n : Int) (w : World) :
    Calls Tryd.prog 40 #[.int .i64 n] w fun e w' => e = .returned (.agg #[.int .u64 (hI (maskW n)), .int .u64 (lI (maskW n))]) ∧ Below w.heap.size w w' := by
  go_enter Tryd.func40, Tryd.ntmps40
  go_wp2
  go_loopw [4] (fun i wr => ∃ k : Nat, k ≤ 128 ∧ (k = 0 ∨ (k : Int) ≤ n) ∧ i = .int .i64 k ∧ At wr (w.heap.size + 1) (maskW k) ∧ At wr w.heap.size 0#128 ∧ Below w.heap.size w wr)
    (fun i _ => 128 - (intOf i).toNat)
  case atStart =>
    refine ⟨0, by omega, Or.inl rfl, rfl, ?_, ?_, bl2 _ _ _⟩
    · show At _ _ (maskW 0)
      rw [maskW_0]; refine ⟨?_, ?_, ?_, ?_, ?_⟩ <;> simp [go_sem, hI_zero, lI_zero]
    · refine ⟨?_, ?_, ?_, ?_, ?_⟩ <;> simp [go_sem, hI_zero, lI_zero]
  case round =>
    obtain ⟨k, hk, hkn, rfl, hA, hR, hB⟩ := hrel
    by_cases hc : (k : Int) < n ∧ k < 128
    · obtain ⟨h1, h2⟩ := hc
      have h3 : (k : Int) < 128 := by omega
      obtain ⟨a0, a1, a2, a3, a4⟩ := id hA
      clear hkn
      go_wp2_with fail
      refine (put_any _ _ _ _ (Or.inr rfl) (by omega) (by omega)).mono ?_
      rintro e w1 ⟨rfl, hb1⟩
      have hA1 := hA.below hb1
      have hR1 := hR.below hb1
      obtain ⟨b0, b1, b2, b3, b4⟩ := id hA1
      go_wp2
      go_roundw
      case rel =>
        refine ⟨k + 1, by omega, Or.inr (by omega), by go_num, ?_, ?_, ?_⟩
        · rw [← maskW_succ k h2]; exact hA1.set _
        · exact hR1.other _ _ (by omega)
        · exact ((hB.trans (hb1.mono hB.size)).setCell (by simp) _).setCell (by simp) _
      case measure => simp [intOf]; omega
    · have he := maskW_end n k hk hkn hc
      obtain ⟨a0, a1, a2, a3, a4⟩ := id hA
      obtain ⟨r0, r1, r2, r3, r4⟩ := id hR
      have HE : Hid (maskW (k : Int) = maskW n) := he
      clear he
      by_cases h1 : (k : Int) < n
      · have h2 : ¬ (k : Int) < 128 := by omega
        clear hkn hc
        go_wp2
        exact bodyPost_ret (v := .agg #[.int .u64 (hI (maskW k)), .int .u64 (lI (maskW k))]) (by simp [results, Tryd.results40, go_sem, *]) rfl ⟨by rw [HE.out], (hB.setCell (by simp) _).setCell (by simp) _⟩
      · clear hkn hc
        go_wp2
        exact bodyPost_ret (v := .agg #[.int .u64 (hI (maskW k)), .int .u64 (lI (maskW k))]) (by simp [results, Tryd.results40, go_sem, *]) rfl ⟨by rw [HE.out], (hB.setCell (by simp) _).setCell (by simp) _⟩

end Go.Proofs.YtdgmfdfhbhmppaaDoor
/-
  What the calls of package word's digit and Parse do.
-/
namespace Go.Proofs.YtdgmfdfhbhmppaaDoor
open Go.RowKit
set_option linter.unusedSimpArgs false
set_option linter.unusedVariables false

/-- Is the byte a digit of sixteen, and which number is it? -/
def digB (c : Int) : Bool := (decide (48 ≤ c) && decide (c ≤ 57)) || (decide (97 ≤ c) && decide (c ≤ 102))
def digV (c : Int) : Int := if 48 ≤ c ∧ c ≤ 57 then c - 48 else if 97 ≤ c ∧ c ≤ 102 then c - 87 else 0
theorem dig_ways (c : Int) : (c < 48 ∧ digB c = false ∧ digV c = 0) ∨ (48 ≤ c ∧ c ≤ 57 ∧ digB c = true ∧ digV c = c - 48) ∨ (57 < c ∧ c < 97 ∧ digB c = false ∧ digV c = 0) ∨ (97 ≤ c ∧ c ≤ 102 ∧ digB c = true ∧ digV c = c - 97 + 10) ∨ (102 < c ∧ digB c = false ∧ digV c = 0) := by
  unfold digB digV
  by_cases h1 : c < 48
  · left
    have a1 : ¬ 48 ≤ c := by omega
    have a2 : ¬ 97 ≤ c := by omega
    simp [a1, a2, h1]
  by_cases h2 : c ≤ 57
  · right; left
    have a1 : 48 ≤ c := by omega
    simp [a1, h2]
  by_cases h3 : c < 97
  · right; right; left
    have a2 : ¬ 97 ≤ c := by omega
    simp [h2, a2, h3]; omega
  by_cases h4 : c ≤ 102
  · right; right; right; left
    have a2 : 97 ≤ c := by omega
    simp [h2, a2, h4]; omega
  · right; right; right; right
    simp [h2, h4]; omega
theorem digV_bd (c : Int) : 0 ≤ digV c ∧ digV c ≤ 15 := by
  unfold digV; split
  · omega
  · split <;> omega

/-- The byte at place k, as a number (0 where there is none). -/
def byteAt (s : ByteArray) (k : Nat) : Int := if h : k < s.size then (s[k].toNat : Int) else 0
theorem byteAt_in (s : ByteArray) (k : Nat) (h : k < s.size) : (s[k].toNat : Int) = byteAt s k := by unfold byteAt; rw [dif_pos h]
theorem byteAt_bd (s : ByteArray) (k : Nat) : 0 ≤ byteAt s k ∧ byteAt s k ≤ 255 := by
  unfold byteAt; split
  · rename_i h; have := s[k].toNat_lt; omega
  · omega
/-- The word of the first k digits. -/
def pW (s : ByteArray) : Nat → BitVec 128
  | 0 => 0#128
  | k + 1 => (pW s k <<< 4) ||| mkW 0 (digV (byteAt s k))
def pAll (s : ByteArray) : Nat → Bool
  | 0 => true
  | k + 1 => pAll s k && digB (byteAt s k)

theorem pAll_le (s : ByteArray) : ∀ k m, k ≤ m → pAll s m = true → pAll s k = true := by
  intro k m h
  induction m with
  | zero => intro q; have : k = 0 := by omega
            subst this; exact q
  | succ m ih =>
    intro q
    by_cases e : k = m + 1
    · subst e; exact q
    · simp only [pAll, Bool.and_eq_true] at q
      exact ih (by omega) q.1
theorem orK (x : BitVec 128) (v : Int) (w : World) (h0 : 0 ≤ v) (h1 : v ≤ 15) :
    Calls Tryd.prog 32 #[.agg #[.int .u64 (hI x), .int .u64 (lI x)], .agg #[.int .u64 0, .int .u64 v]] w fun e w' => e = .returned (.agg #[.int .u64 (hI (x ||| mkW 0 v)), .int .u64 (lI (x ||| mkW 0 v))]) ∧ Below w.heap.size w w' := by
  have h := or_any x (mkW 0 v) w
  rw [show hI (mkW 0 v) = 0 from hI_mk 0 v (by omega) (by omega), show lI (mkW 0 v) = v from lI_mk 0 v (by omega) (by omega)] at h
  exact h
/-- What Parse tells of 32 signs. -/
def pOut (s : ByteArray) : BitVec 128 := if pAll s 32 = true then pW s 32 else 0#128
def pErr (s : ByteArray) : Int := if pAll s 32 = true then 0 else 12

end Go.Proofs.YtdgmfdfhbhmppaaDoor
/-
  What the calls of package addr's number, put and part do.
-/
namespace Go.Proofs.YtdgmfdfhbhmppaaDoor
open Go.RowKit
set_option linter.unusedSimpArgs false
set_option linter.unusedVariables false

/-- The number that a text begins with, from place k on, n being read: the number, and how many digits. -/
def numR (t : ByteArray) : Nat → Nat → Int → Int × Int
  | 0, k, n => (n, k)
  | f + 1, k, n => if 48 ≤ byteAt t k ∧ byteAt t k ≤ 57 then (if 255 < 10 * n + (byteAt t k - 48) then (0, 0) else if 10 * n + (byteAt t k - 48) = 0 then (0, (k : Int) + 1) else numR t f (k + 1) (10 * n + (byteAt t k - 48))) else (n, k)
def numV (t : ByteArray) : Int := (numR t t.size 0 0).1
def numN (t : ByteArray) : Int := (numR t t.size 0 0).2

set_option maxHeartbeats 1000000 in
theorem number_any (t : ByteArray) (w : World) (hs : t.size ≤ maxLen) :
    Calls Tryd.prog 63 #[.string t] w fun e w' => e = .returned (.tuple #[.int .u64 (numV t), .int .i64 (numN t)]) ∧ w' = w := by
  unfold maxLen at hs
  go_enter Tryd.func63, Tryd.ntmps63
  go_wp2
  go_loopw [2, 3] (fun a b wr => ∃ (k : Nat) (n : Int), a = .int .u64 n ∧ b = .int .i64 k ∧ k ≤ t.size ∧ 0 ≤ n ∧ n ≤ 255 ∧ Hid (numR t (t.size - k) k n = numR t t.size 0 0) ∧ wr = w) (fun _ b _ => t.size - (intOf b).toNat)
  case atStart => exact ⟨0, 0, rfl, rfl, by omega, by omega, by omega, rfl, rfl⟩
  case round =>
    obtain ⟨k, n, rfl, rfl, hk, h0, h1, HR, rfl⟩ := hrel
    by_cases hlt : k < t.size
    · have hbt := byteAt_in t k hlt
      have bd := byteAt_bd t k
      have HU : Hid (t.size - k = (t.size - (k + 1)) + 1) := by show _ = _; omega
      have HS : Hid (∀ f, numR t (f + 1) k n = if 48 ≤ byteAt t k ∧ byteAt t k ≤ 57 then (if 255 < 10 * n + (byteAt t k - 48) then (0, 0) else if 10 * n + (byteAt t k - 48) = 0 then (0, (k : Int) + 1) else numR t f (k + 1) (10 * n + (byteAt t k - 48))) else (n, k)) := fun _ => rfl
      generalize byteAt t k = c at *
      have hk2 : (k : Int) < (t.size : Int) := by omega
      by_cases hd : 48 ≤ c ∧ c ≤ 57
      · obtain ⟨d0, d1⟩ := id hd
        by_cases hm : 255 < 10 * n + (c - 48)
        · have HF : Hid (numV t = 0 ∧ numN t = 0) := by
            show _ ∧ _
            unfold numV numN; rw [← HR.out, HU.out, HS.out, if_pos hd, if_pos hm]; exact ⟨rfl, rfl⟩
          clear HS HU HR hd
          go_wp2
          go_ret2
          exact ⟨by rw [HF.out.1, HF.out.2]; rfl, rfl⟩
        · by_cases hz : 10 * n + (c - 48) = 0
          · have HF : Hid (numV t = 0 ∧ numN t = (k : Int) + 1) := by
              show _ ∧ _
              unfold numV numN; rw [← HR.out, HU.out, HS.out, if_pos hd, if_neg hm, if_pos hz]; exact ⟨rfl, rfl⟩
            clear HS HU HR hd
            go_wp2
            go_ret2
            exact ⟨by rw [HF.out.1, HF.out.2]; rfl, rfl⟩
          · have HF : Hid (numR t (t.size - (k + 1)) (k + 1) (10 * n + (c - 48)) = numR t t.size 0 0) := by
              show _ = _
              rw [← HR.out, HU.out, HS.out, if_pos hd, if_neg hm, if_neg hz]
            clear HS HU HR hd
            go_wp2
            go_roundw
            case rel => exact ⟨k + 1, 10 * n + (c - 48), rfl, by go_num, by omega, by omega, by omega, HF, trivial⟩
            case measure => simp [intOf]; omega
      · have HF : Hid (numV t = n ∧ numN t = (k : Int)) := by
          show _ ∧ _
          unfold numV numN; rw [← HR.out, HU.out, HS.out, if_neg hd]; exact ⟨rfl, rfl⟩
        clear HS HU HR
        by_cases d0 : 48 ≤ c
        · have d1 : ¬ c ≤ 57 := by omega
          go_wp2
          go_ret2
          exact ⟨by rw [HF.out.1, HF.out.2]; rfl, rfl⟩
        · go_wp2
          go_ret2
          exact ⟨by rw [HF.out.1, HF.out.2]; rfl, rfl⟩
    · have HF : Hid (numV t = n ∧ numN t = (k : Int)) := by
        show _ ∧ _
        have e : t.size - k = 0 := by omega
        unfold numV numN; rw [← HR.out, e]; exact ⟨rfl, rfl⟩
      clear HR
      go_wp2
      go_ret2
      exact ⟨by rw [HF.out.1, HF.out.2]; rfl, rfl⟩

/-- A number laid into a part of a word. -/
def layW (x : BitVec 128) (i b v : Int) : BitVec 128 := x ||| (mkW 0 v <<< (128 - b * (i + 1)).toNat)
theorem shlK (v n : Int) (w : World) (h0 : 0 ≤ v) (h1 : v < 18446744073709551616) :
    Calls Tryd.prog 79 #[.agg #[.int .u64 0, .int .u64 v], .int .i64 n] w fun e w' => e = .returned (.agg #[.int .u64 (hI (mkW 0 v <<< n.toNat)), .int .u64 (lI (mkW 0 v <<< n.toNat))]) ∧ Below w.heap.size w w' := by
  have h := shl_any (mkW 0 v) n w
  rw [show hI (mkW 0 v) = 0 from hI_mk 0 v (by omega) (by omega), show lI (mkW 0 v) = v from lI_mk 0 v h0 h1] at h
  exact h

set_option maxHeartbeats 1000000 in
theorem aput_any (x : BitVec 128) (i b v : Int) (w : World) (h0 : 0 ≤ v) (h1 : v < 18446744073709551616) (i0 : 0 ≤ i) (i1 : i ≤ 16) (b0 : 0 ≤ b) (b1 : b ≤ 16) :
    Calls Tryd.prog 64 #[.agg #[.int .u64 (hI x), .int .u64 (lI x)], .int .i64 i, .int .i64 b, .int .u64 v] w fun e w' => e = .returned (.agg #[.int .u64 (hI (layW x i b v)), .int .u64 (lI (layW x i b v))]) ∧ Below w.heap.size w w' := by
  have KS := fun n w => shlK v n w h0 h1
  have hu1 : IntKind.i64.wrap (i + 1) = i + 1 := by rw [IntKind.wrap_i64]; omega
  have hm0 : 0 ≤ b * (i + 1) := Int.mul_nonneg b0 (by omega)
  have hm1 : b * (i + 1) ≤ 16 * 17 := Int.mul_le_mul b1 (by omega) (by omega) (by omega)
  have hu2 : IntKind.i64.wrap (b * (i + 1)) = b * (i + 1) := by rw [IntKind.wrap_i64]; omega
  have hu3 : IntKind.i64.wrap (128 - b * (i + 1)) = 128 - b * (i + 1) := by rw [IntKind.wrap_i64]; omega
  have hbl := fun o p => (bl2 w o p).drew
  go_enter Tryd.func64, Tryd.ntmps64
  go_wp2
  go_region_held3 (fun w' => w'.cell? ⟨w.heap.size, 0, none⟩ = some (.int .u64 (hI x)) ∧ w'.cell? ⟨w.heap.size, 1, none⟩ = some (.int .u64 (lI x)) ∧ w'.cell? ⟨w.heap.size + 1, 0, none⟩ = some (cv w' (w.heap.size + 1) 0) ∧ w'.cell? ⟨w.heap.size + 1, 1, none⟩ = some (cv w' (w.heap.size + 1) 1) ∧ w'.frozen? ⟨w.heap.size + 1, 0, none⟩ = false ∧ w'.frozen? ⟨w.heap.size + 1, 1, none⟩ = false ∧ Below w.heap.size w w')
    (first
      | (obtain ⟨k1, k2, k5, k6, k7, k8, k9⟩ := ‹_ ∧ _›; exact ⟨keepc hb2 k1, keepc hb2 k2, cv_of (keepc hb2 k5), cv_of (keepc hb2 k6), keepf hb2 k5 k7, keepf hb2 k6 k8, keepb hb2 k9⟩)
      | (obtain ⟨k1, k2, k5, k6, k7, k8, k9⟩ := ‹_ ∧ _›; exact ⟨keepc hb1 k1, keepc hb1 k2, cv_of (keepc hb1 k5), cv_of (keepc hb1 k6), keepf hb1 k5 k7, keepf hb1 k6 k8, keepb hb1 k9⟩)
      | (refine ⟨?_, ?_, cv_new ?_, cv_new ?_, ?_, ?_, ?_⟩ <;> first | (simp [go_sem, *]; done) | exact Below.setCell (Below.setCell (by simp [*]) (by simp) _) (by simp) _))
    (first | (go_at_call 79; refine (KS _ _).mono ?_; rintro e w1 ⟨rfl, hb1⟩) | (go_at_call 32; refine (or_any _ _ _).mono ?_; rintro e w2 ⟨rfl, hb2⟩))
  obtain ⟨-, -, -, -, -, -, kB⟩ := ‹_ ∧ _›
  have e0 : w2.cell? ⟨w.heap.size + 1, 0, none⟩ = some (.int .u64 0) := keepc hb2 (keepc hb1 (by simp [go_sem]))
  have e1 : w2.cell? ⟨w.heap.size + 1, 1, none⟩ = some (.int .u64 0) := keepc hb2 (keepc hb1 (by simp [go_sem]))
  go_wp2
  exact bodyPost_ret (v := .agg #[.int .u64 (hI (layW x i b v)), .int .u64 (lI (layW x i b v))]) (by simp [results, Tryd.results64, go_sem, e0, e1, layW]) rfl ⟨rfl, kB⟩

set_option maxHeartbeats 1000000 in
theorem part_any (x : BitVec 128) (i b : Int) (w : World) (i0 : 0 ≤ i) (i1 : i ≤ 16) (b0 : 0 ≤ b) (b1 : b * i ≤ 128 - b) :
    Calls Tryd.prog 71 #[.agg #[.int .u64 (hI x), .int .u64 (lI x)], .int .i64 i, .int .i64 b] w fun e w' => e = .returned (.int .u64 (lI ((x <<< (b * i).toNat) >>> (128 - b).toNat))) ∧ Below w.heap.size w w' := by
  have hm0 : 0 ≤ b * i := Int.mul_nonneg b0 i0
  have hu2 : IntKind.i64.wrap (b * i) = b * i := by rw [IntKind.wrap_i64]; omega
  have KF := fun w => field_in x (b * i) b w hm0 (by omega) b0 (by omega)
  go_enter Tryd.func71, Tryd.ntmps71
  go_wp2_with fail
  refine (KF _).mono ?_
  rintro e w1 ⟨rfl, hb1⟩
  have kB : Below w.heap.size w w1 := keepb hb1 (bl1 _ _)
  clear hb1 KF
  go_wp2
  go_ret
  exact ⟨rfl, kB.alloc (by have := kB.size; omega) _⟩
end Go.Proofs.YtdgmfdfhbhmppaaDoor
