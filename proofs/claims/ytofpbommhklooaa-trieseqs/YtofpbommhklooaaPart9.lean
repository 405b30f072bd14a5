/-
  Part 9 of the proof: 8 texts, one behind the other.
-/
import Derived.Test.YtofpbommhklooaaPart8
import Derived.Test.YtofpbommhklooaaPart4
import Derived.Test.YtofpbommhklooaaPart1
import Derived.Deep.RegionHeld3
import Derived.BigQuiet
import Derived.WalkMore
import Derived.Deep.LoopGhost
/-
  A range over a function that has values bound ahead (a method's): a contract and the law.
-/
namespace Go.Proofs.Ytofpbommhklooaa
open Go.RowKit Go.Shelf
set_option linter.unusedSimpArgs false
set_option linter.unusedVariables false

section
variable {P : Program}
/-- What a sequence tells whose function has values bound ahead, of rounds whose invariant abides a turn of whatever later block that holds no cells. -/
def SeqY {α : Type} (n : Nat) (P : Program) (g : Nat) (ba lb : Array Value) (encs : α → Array Value) (Kp : World → World → Prop) (S Sp : List α → Prop) (Bd : Nat) (w : World) : Prop :=
  ∀ (l : Nat) (J Jx : List α → World → Prop) (W : World), Below w.heap.size w W → Bd ≤ W.heap.size → OwnFrom W.heap.size J → OwnFrom W.heap.size Jx →
    (∀ pre x V, J pre V → Sp (pre ++ [x]) → YieldAt Fence.wide (n - 1) P l (encs x) V fun e V' => (e = .returned (.bool true) ∧ J (pre ++ [x]) V' ∧ Kp V V') ∨ (e = .returned (.bool false) ∧ Jx (pre ++ [x]) V' ∧ Kp V V')) →
    J [] W → CallsIn Fence.wide n P g (ba ++ #[.func (.yield l) #[] #[]] ++ lb) W fun e W' => (∃ v, e = .returned v) ∧ ((∃ xs, S xs ∧ J xs W') ∨ (∃ pre, Sp pre ∧ Jx pre W'))
/-- The law. -/
theorem rangeY {α : Type} {g : Operand} {ps : Array Tmp} {assign body : Code} {Q : Exit → Act → World → Prop} {a : Act} {w : World} (n : Nat) (h1 : 1 ≤ n) {gf : Nat} {ba lb : Array Value} (hg : a.eval g = .func (.func gf) ba lb) (eg : ∀ args w, (callFunc gf args).run P w = .ok (.enter gf args) w)
    {encs : α → Array Value} {Kp : World → World → Prop} {S Sp : List α → Prop} {Bd : Nat} {w0 : World} (hseq : SeqY (n - 1) P gf ba lb encs Kp S Sp Bd w0) (hBd : Bd ≤ w.heap.size + 2)
    (hKt : ∀ {A B C : World}, Kp A B → Kp B C → Kp A C) (hKb : ∀ (W : World) (o o' : Obj), W.heap[w.heap.size + 1]? = some o → o.isCells = false → Kp W (W.putObj (w.heap.size + 1) o')) (hb0 : Below w0.heap.size w0 w) (hps : ∀ x, (encs x).size = ps.size)
    (I : List α → World → Prop) (Ix : Code → List α → World → Prop) (hI : OwnFrom w.heap.size I) (hIx : ∀ c, OwnFrom w.heap.size (Ix c)) (h0 : I [] w) (Ax : α → Act → World → Prop) (hAx : ∀ x a', OwnFrom w.heap.size (fun (_ : Unit) W => Ax x a' W))
    (hassign : ∀ (l : Nat) (pre : List α) (x : α) (W : World) (K : Act → World → Prop), I pre W → (∀ a' W', KeepsFrom w.heap.size W W' → Kp W W' → I pre W' → Ax x a' W' → K a' W') →
      assign.wpIn (Fence.wide.inRound l) (n - 1 - 1) P (Exit.then K (fun _ _ _ => False)) { tmps := (ps.zip (encs x)).foldl (fun t (p, v) => t.setIfInBounds p v) a.tmps, defers := [] } W)
    (hbody : ∀ (l : Nat) (pre : List α) (x : α) (a' : Act) (W : World), w.heap.size ≤ l → (∃ r, W.heap[l]? = some (.loop r)) → I pre W → Ax x a' W → Sp (pre ++ [x]) → body.wpIn (Fence.wide.inRound l) (n - 1 - 1) P (postX w.heap.size Kp I Ix (pre ++ [x]) W) a' W)
    (hdone : ∀ (D : Nat) (xs : List α) (W : World), w.heap.size ≤ D → S xs → I xs W → W.heap[D]? = some (.deferred (some [])) → Q .normal { a with defers := { target := .collected D, args := #[] } :: a.defers } W)
    (hstop : ∀ (D : Nat) (c : Code) (pre : List α) (W : World), w.heap.size ≤ D → Sp pre → Ix c pre W → W.heap[D]? = some (.deferred (some [])) → c.wpIn Fence.wide n P Q { a with defers := { target := .collected D, args := #[] } :: a.defers } W) :
    (Code.rangeFunc g ps assign body).wpIn Fence.wide n P Q a w := by
  refine wpIn_rangeFunc (fun fn hfn => ?_)
  rw [Fence.wide_round]
  -- the record, by its state and its pending jump
  obtain ⟨rc, hrc⟩ : ∃ rc : LoopState → Option Code → Loop, ∀ s p, rc s p = { state := s, pending := p, fn, tmps := a.tmps, params := ps, assign, body, defers := w.heap.size } := ⟨_, fun _ _ => rfl⟩
  have bw := bl1 w (.deferred (some []))
  have bw2 := bl1 (w.alloc (.deferred (some []))) (.loop (rc .ready none))
  have k1 : Bk w.heap.size (rc .ready none) ((w.alloc (.deferred (some []))).alloc (.loop (rc .ready none))) := by
    refine ⟨?_, ?_⟩
    · have := World.alloc_heap_new (w.alloc (.deferred (some []))) (.loop (rc .ready none))
      rwa [World.size_alloc] at this
    · exact (bw2.block _ (by simp)).trans (World.alloc_heap_new w _)
  have i1 : I [] ((w.alloc (.deferred (some []))).alloc (.loop (rc .ready none))) := hI.alloc _ (hI.alloc _ h0)
  have b1 : Below w0.heap.size w0 ((w.alloc (.deferred (some []))).alloc (.loop (rc .ready none))) := keepb bw2 (keepb bw hb0)
  have hent : (Instr.enterLoop fn a.tmps ps assign body none).run P w = .ok (w.heap.size + 1, [{ target := .collected w.heap.size, args := #[] }]) ((w.alloc (.deferred (some []))).alloc (.loop (rc .ready none))) := by
    rw [hrc]
    exact run_enterLoop_outer _ _ _ _ _
  have hs1 : ((w.alloc (.deferred (some []))).alloc (.loop (rc .ready none))).heap.size = w.heap.size + 2 := by simp
  revert k1 i1 b1 hent hs1
  generalize (w.alloc (.deferred (some []))).alloc (.loop (rc .ready none)) = V1
  intro k1 i1 b1 hent hs1
  clear bw bw2
  refine ⟨w.heap.size + 1, _, V1, { target := .fn (.func gf) lb, args := ba ++ #[.func (.yield (w.heap.size + 1)) #[] #[]] }, V1, gf, ba ++ #[.func (.yield (w.heap.size + 1)) #[] #[]] ++ lb, V1, hent, by simp only [resolve, hg]; simp [go_sem], fun _ _ => trivial, by simp [invoke, go_sem, eg], fun _ => h1, ?_⟩
  have far : ∀ {A : World} {row : Option Nat}, (∀ r, row = some r → V1.heap.size ≤ r ∧ ∃ o : Obj, A.heap[r]? = some o ∧ o.isCells = false) → (∀ r, row = some r → w.heap.size ≤ r ∧ ∃ o : Obj, A.heap[r]? = some o ∧ o.isCells = false) := fun hr r e => ⟨by have := (hr r e).1; omega, (hr r e).2⟩
  have far2 : ∀ {A : World} {row : Option Nat}, (∀ r, row = some r → V1.heap.size ≤ r ∧ ∃ o : Obj, A.heap[r]? = some o ∧ o.isCells = false) → ∀ z, row = some z → w.heap.size + 2 ≤ z := fun hr z e => by have := (hr z e).1; omega
  refine (hseq (w.heap.size + 1) (fun pre W => I pre W ∧ Bk w.heap.size (rc .ready none) W) (fun pre W => ∃ c, Ix c pre W ∧ Bk w.heap.size (rc .done (some c)) W) V1 b1 (by omega) (fun s A B row hs hgr hr => ⟨hI s A B row hs.1 hgr (far hr), hs.2.grown hgr (far2 hr)⟩) (fun s A B row hs hgr hr => ?_) ?round ⟨i1, k1⟩).mono ?behind
  · obtain ⟨c, hc, kc⟩ := hs
    exact ⟨c, hIx c s A B row hc hgr (far hr), kc.grown hgr (far2 hr)⟩
  case round =>
    rintro pre x V ⟨hi, hk⟩ hlen
    have hy := run_yield (P := P) (args := encs x) hk.rec' (by rw [hrc]; exact hps x)
    rw [hrc] at hy
    refine ⟨fn, _, assign, body, hy, roundIn_of_wpIn hfn (hassign _ pre x V _ hi ?_)⟩
    intro a' Va f1 f2 f3 f4
    have ka := hk.from f1
    have hlt := ka.lt
    refine ⟨_, run_beginRound ka.rec' (by rw [hrc]), ?_⟩
    have kb := ka.turn { rc .ready none with state := .busy }
    have nb : ∀ (o : Obj), w.heap.size ≤ w.heap.size + 1 := fun _ => by omega
    have g1 := hI.putObj (.loop { rc .ready none with state := .busy }) f3 (show w.heap.size ≤ w.heap.size + 1 by omega) ka.rec' rfl
    have g2 := (hAx x a').putObj (s := ()) (.loop { rc .ready none with state := .busy }) f4 (show w.heap.size ≤ w.heap.size + 1 by omega) ka.rec' rfl
    have g3 := hKb Va _ (.loop { rc .ready none with state := .busy }) ka.rec' rfl
    revert kb g1 g2 g3
    generalize Va.putObj (w.heap.size + 1) (.loop { rc .ready none with state := .busy }) = Vb
    intro kb g1 g2 g3
    refine wpIn_mono (hbody (w.heap.size + 1) pre x a' Vb (by omega) ⟨_, kb.rec'⟩ g1 g2 hlen) ?_
    have out : ∀ (c : Code) (V3 : World), KeepsFrom w.heap.size Vb V3 → Kp Vb V3 → Ix c (pre ++ [x]) V3 → ∃ (e : Value) (V4 : World), (Instr.endRound (w.heap.size + 1) (some c)).run P V3 = .ok e V4 ∧ (((.returned e : Ending) = .returned (.bool true) ∧ (I (pre ++ [x]) V4 ∧ Bk w.heap.size (rc .ready none) V4) ∧ Kp V V4) ∨ ((.returned e : Ending) = .returned (.bool false) ∧ (∃ c, Ix c (pre ++ [x]) V4 ∧ Bk w.heap.size (rc .done (some c)) V4) ∧ Kp V V4)) := fun c V3 hk3 hq3 hi3 => by
      have k3 := kb.from hk3
      have k4 := k3.turn (rc .done (some c))
      have := bk_end (P := P) k3 (some c)
      refine ⟨_, _, this, .inr ⟨rfl, ⟨c, ?_, ?_⟩, hKt f2 (hKt g3 (hKt hq3 (hKb _ _ _ k3.rec' rfl)))⟩⟩
      · exact (hIx c).putObj _ hi3 (by omega) k3.rec' rfl
      · have e : ({ ({ rc .ready none with state := .busy } : Loop) with state := if (some c).isNone then .ready else .done, pending := some c } : Loop) = rc .done (some c) := by rw [hrc, hrc]; rfl
        rw [e]
        exact k4
    rintro e a3 V3 hp
    cases e with
    | normal =>
      obtain ⟨hk3, hq3, hi3⟩ := hp
      have k3 := kb.from hk3
      have k4 := k3.turn (rc .ready none)
      have hr := bk_end (P := P) k3 none
      have e : ({ ({ rc .ready none with state := .busy } : Loop) with state := if (none : Option Code).isNone then .ready else .done, pending := none } : Loop) = rc .ready none := by rw [hrc]; rfl
      rw [e] at hr
      exact ⟨_, _, hr, .inl ⟨rfl, ⟨hI.putObj _ hi3 (by omega) k3.rec' rfl, k4⟩, hKt f2 (hKt g3 (hKt hq3 (hKb _ _ _ k3.rec' rfl)))⟩⟩
    | ret => exact out _ _ hp.1 hp.2.1 hp.2.2
    | exit id => exact out _ _ hp.1 hp.2.1 hp.2.2
    | goto t => exact out _ _ hp.1 hp.2.1 hp.2.2
    | panic ch => exact hp.elim
    | outgrown => exact hp.elim
  case behind =>
    rintro e V2 ⟨⟨v, rfl⟩, (⟨xs, hS, hi, hk⟩ | ⟨pre, hSp, c, hi, hk⟩)⟩
    · have hr := run_endLoop (P := P) hk.rec' (by rw [hrc]; simp)
      have kt := hk.turn { rc .ready none with state := .exhausted }
      exact ⟨_, _, by rw [hr], by rw [hrc]; exact hdone _ xs _ (Nat.le_refl _) hS (hI.putObj _ hi (by omega) hk.rec' rfl) (by rw [hrc] at kt; exact kt.dfr)⟩
    · have hr := run_endLoop (P := P) hk.rec' (by rw [hrc]; simp)
      have kt := hk.turn { rc .done (some c) with state := .exhausted }
      exact ⟨_, _, by rw [hr], by rw [hrc]; exact hstop _ c pre _ (Nat.le_refl _) hSp ((hIx c).putObj _ hi (by omega) hk.rec' rfl) (by rw [hrc] at kt; exact kt.dfr)⟩
end
end Go.Proofs.Ytofpbommhklooaa
/-
  A region that draws its order, of whatever operations, by what is known of memory and of some numbers when some of them are done.
-/
namespace Go.Proofs.Ytofpbommhklooaa
open Go.RowKit
set_option linter.unusedSimpArgs false
set_option linter.unusedVariables false

section
variable {P : Program}

theorem putAll_other : ∀ (ds : List (Option Tmp)) (vs : List Value) (a : Act) (s : Nat), (∀ d ∈ ds, d ≠ some s) → (putAll a ds vs).tmps[s]? = a.tmps[s]?
  | [], vs, a, s, _ => by cases vs <;> rfl
  | d :: ds, [], a, s, _ => rfl
  | d :: ds, v :: vs, a, s, h => by
    rw [putAll, putAll_other ds vs (a.put d v) s (fun x hx => h x (List.mem_cons_of_mem _ hx))]
    exact put_other a d v s (h d (by simp))
theorem putAll_defers : ∀ (ds : List (Option Tmp)) (vs : List Value) (a : Act), (putAll a ds vs).defers = a.defers
  | [], vs, a => by cases vs <;> rfl
  | d :: ds, [], a => rfl
  | d :: ds, v :: vs, a => by
    rw [putAll, putAll_defers ds vs (a.put d v)]
    unfold Act.put
    cases d <;> rfl
/-- What stands in the slots when some operations are done. -/
structure Slt (l : List Oper) (a A : Act) (lp : Array Bool) (a' : Act) : Prop where
  don : ∀ (k : Nat) (o : Oper) (s : Nat), l[k]? = some o → lp.getD k false = true → o.dst = some s → a'.tmps[s]? = A.tmps[s]?
  oth : ∀ s, (∀ (k : Nat) (o : Oper), l[k]? = some o → lp.getD k false = true → o.dst ≠ some s) → a'.tmps[s]? = a.tmps[s]?
  siz : a'.tmps.size = a.tmps.size
  dfr : a'.defers = a.defers
theorem getD_set {lp : Array Bool} {i k : Nat} (h : (lp.setIfInBounds i true).getD k false = true) : k = i ∨ lp.getD k false = true := by
  by_cases e : k = i
  · exact .inl e
  · right
    rw [Array.getD_eq_getD_getElem?] at h ⊢
    rwa [Array.getElem?_setIfInBounds_ne (by omega)] at h
theorem getD_set_same {lp : Array Bool} {i : Nat} (h : i < lp.size) : (lp.setIfInBounds i true).getD i false = true := by
  rw [Array.getD_eq_getD_getElem?, Array.getElem?_setIfInBounds_self_of_lt h]
  rfl
def valO (A : Act) (o : Oper) : Value := ((o.dst).bind fun s => A.tmps[s]?).getD undef
theorem gh_any {γ : Type} {l : List Oper} (ok : QpOk l l.length l.length) (hgd : ∀ o ∈ l, o.guard = none) (hdst : ∀ (i k : Nat) (oi ok : Oper) (s : Nat), l[i]? = some oi → l[k]? = some ok → oi.dst = some s → ok.dst = some s → i = k) {Q : Exit → Act → World → Prop} {a : Act} (A : γ → Act) (hsz : ∀ g, (A g).tmps.size = a.tmps.size) (hdf : ∀ g, (A g).defers = a.defers) (hA : ∀ g s, (∀ o ∈ l, o.dst ≠ some s) → (A g).tmps[s]? = a.tmps[s]?) (R : Array Bool → γ → World → Prop)
    (hstep : ∀ (i : Nat) (o : Oper) (lp : Array Bool) (g : γ) (w' : World) (a' : Act), l[i]? = some o → lp.size = l.length → lp.getD i false = false → (∀ e ∈ o.after, Region.binds .any e = true → lp.getD e.on false = true) → R lp g w' → Slt l a (A g) lp a' →
      ∀ (K : Act → World → Prop) Q', (∀ g' w'', (∀ (k : Nat) (o : Oper) (s : Nat), l[k]? = some o → lp.getD k false = true → o.dst = some s → (A g').tmps[s]? = (A g).tmps[s]?) → R (lp.setIfInBounds i true) g' w'' → ∀ v, valO (A g') o = v → K (a'.put o.dst v) w'') → o.wp P a' w' K Q')
    (hpost : ∀ g w', R (Array.replicate l.length true) g w' → Q .normal (A g) w') :
    ∀ (fuel : Nat) (lp : Array Bool) (g : γ) (a' : Act) (w : World), lp.size = l.length → unl lp = fuel → R lp g w → Slt l a (A g) lp a' → wpAny P .any l.toArray Q fuel lp a' w := by
  intro fuel
  have fin : ∀ (lp : Array Bool) (g : γ) (a' : Act) (w : World), lp.size = l.length → unl lp = 0 → R lp g w → Slt l a (A g) lp a' → Q .normal a' w := by
    intro lp g a' w hs hu hR hS
    have e : lp = Array.replicate l.length true := by have := unl_zero lp hu; rwa [hs] at this
    rw [e] at hR hS
    have : a' = A g := by
      have ht : a'.tmps = (A g).tmps := by
        apply Array.ext_getElem?
        intro s
        by_cases h : ∃ (k : Nat) (o : Oper), l[k]? = some o ∧ o.dst = some s
        · obtain ⟨k, o, h1, h2⟩ := h
          have hk : k < l.length := (List.getElem?_eq_some_iff.mp h1).1
          exact hS.don k o s h1 (by simp [Array.getElem?_replicate, hk]) h2
        · have h' : ∀ o ∈ l, o.dst ≠ some s := by
            intro o ho e
            obtain ⟨k, hk, rfl⟩ := List.mem_iff_getElem.mp ho
            exact h ⟨k, l[k], List.getElem?_eq_getElem hk, e⟩
          rw [hA g s h']
          exact hS.oth s (fun k o h1 _ e => h ⟨k, o, h1, e⟩)
      have hd : a'.defers = (A g).defers := by rw [hS.dfr, hdf]
      cases a'
      cases hAg : A g
      rw [hAg] at ht hd
      simp only at ht hd
      rw [ht, hd]
    rw [this]
    exact hpost g w hR
  induction fuel with
  | zero =>
    intro lp g a' w hs hu hR hS
    refine ⟨?_, fin lp g a' w hs hu hR hS⟩
    have e : lp = Array.replicate l.length true := by have := unl_zero lp hu; rwa [hs] at this
    apply List.eq_nil_iff_forall_not_mem.mpr
    intro i hi
    obtain ⟨hun, o, ho, _⟩ := mem_ready.1 hi
    have hk : i < l.length := by
      have := (Array.getElem?_eq_some_iff.mp ho).1
      simpa using this
    rw [e] at hun
    simp [Array.getElem?_replicate, hk] at hun
  | succ fuel ih =>
    intro lp g a' w hs hu hR hS
    refine ⟨fun e => ?_, fun i hi => ?_⟩
    · obtain ⟨k, hk, hf⟩ := unl_some lp fuel hu
      have hne := some_ready ok lp hs k (by omega) hf
      rw [Nat.sub_self] at hne
      exact absurd (by simpa using e) hne
    · obtain ⟨hun, o, ho, hrd⟩ := mem_ready.1 hi
      have ho' : l[i]? = some o := by simpa using ho
      have hil : i < l.length := (List.getElem?_eq_some_iff.mp ho').1
      have hun' : lp.getD i false = false := by
        rw [Array.getD_eq_getD_getElem?] at hun ⊢
        cases q : lp[i]? with
        | none => rfl
        | some b => rw [q] at hun; simpa using hun
      unfold wpOp
      simp only [ho]
      rw [if_pos (by simp [Region.wanted, hgd o (List.mem_of_getElem? ho')])]
      left
      refine hstep i o lp g w a' ho' hs hun' (fun e he hb => hrd e he hb) hR hS _ _ ?_
      intro g' w'' hsame hR' v hv
      subst hv
      refine ih _ g' _ w'' (by simp [hs]) (by have := unl_set lp i hun; omega) hR' ⟨?_, ?_, ?_, ?_⟩
      · intro k ok s hk hl hd
        rcases getD_set hl with rfl | hl'
        · have : ok = o := by rw [ho'] at hk; cases hk; rfl
          subst this
          unfold Act.put valO
          rw [hd]
          simp only [Option.bind_some]
          by_cases hlt : s < a'.tmps.size
          · rw [Array.getElem?_setIfInBounds_self_of_lt hlt]
            have h2 : s < (A g').tmps.size := by rw [hsz, ← hS.siz]; exact hlt
            rw [Array.getElem?_eq_getElem h2]
            rfl
          · rw [Array.getElem?_eq_none (by simp; omega), Array.getElem?_eq_none (by rw [hsz, ← hS.siz]; omega)]
        · rw [put_other a' o.dst _ s (fun e => by
            have := hdst k i ok o s hk ho' hd e
            subst this
            rw [hun'] at hl'
            cases hl'), hS.don k ok s hk hl' hd, hsame k ok s hk hl' hd]
      · intro s h
        have hne : o.dst ≠ some s := h i o ho' (getD_set_same (by omega))
        rw [put_other a' o.dst _ s hne]
        exact hS.oth s (fun k ok hk hl => h k ok hk (by
          by_cases e : k = i
          · subst e; exact getD_set_same (by omega)
          · rw [Array.getD_eq_getD_getElem?] at hl ⊢
            rwa [Array.getElem?_setIfInBounds_ne (by omega)]))
      · rw [put_size, hS.siz]
      · unfold Act.put
        cases o.dst <;> exact hS.dfr
def dstG (l : List Oper) : Bool := (List.range l.length).all fun i => (List.range l.length).all fun k => i == k || ((l[i]?).bind (·.dst)).isNone || ((l[i]?).bind (·.dst)) != ((l[k]?).bind (·.dst))
theorem dstG_of {l : List Oper} (h : dstG l = true) : ∀ (i k : Nat) (oi ok : Oper) (s : Nat), l[i]? = some oi → l[k]? = some ok → oi.dst = some s → ok.dst = some s → i = k := by
  intro i k oi ok s hi hk h1 h2
  have hil := (List.getElem?_eq_some_iff.mp hi).1
  have hkl := (List.getElem?_eq_some_iff.mp hk).1
  unfold dstG at h
  rw [List.all_eq_true] at h
  have := h i (List.mem_range.mpr hil)
  rw [List.all_eq_true] at this
  have := this k (List.mem_range.mpr hkl)
  rw [hi, hk] at this
  simp only [Option.bind_some, h1, h2] at this
  simpa using this
theorem gh_region {γ : Type} {id : Nat} {l : List Oper} (ok : QpOk l l.length l.length) (hgd : (l.all fun o => o.guard.isNone) = true) (hdst : dstG l = true) {Q : Exit → Act → World → Prop} {a : Act} {w : World} (ds : List (Option Tmp)) (vals : γ → List Value) (hm : P.follows .mixedOrders = true) (hds : ∀ d ∈ ds, ∃ o ∈ l, o.dst = d) (R : Array Bool → γ → World → Prop) (g0 : γ) (h0 : R (Array.replicate l.length false) g0 w.drew)
    (hstep : ∀ (i : Nat) (o : Oper) (lp : Array Bool) (g : γ) (w' : World) (a' : Act), l[i]? = some o → lp.size = l.length → lp.getD i false = false → (∀ e ∈ o.after, Region.binds .any e = true → lp.getD e.on false = true) → R lp g w' → Slt l a (putAll a ds (vals g)) lp a' →
      ∀ (K : Act → World → Prop) Q', (∀ g' w'', (∀ (k : Nat) (o : Oper) (s : Nat), l[k]? = some o → lp.getD k false = true → o.dst = some s → (putAll a ds (vals g')).tmps[s]? = (putAll a ds (vals g)).tmps[s]?) → R (lp.setIfInBounds i true) g' w'' → ∀ v, valO (putAll a ds (vals g')) o = v → K (a'.put o.dst v) w'') → o.wp P a' w' K Q')
    (hpost : ∀ g w', R (Array.replicate l.length true) g w' → Q .normal (putAll a ds (vals g)) w') : (Code.region id l.toArray true).wp P Q a w := by
  refine wp_region_any hm ?_
  have hu : unl (Array.replicate l.length false) = l.length := by unfold unl; simp
  have main := gh_any ok (fun o ho => by have := List.all_eq_true.mp hgd o ho; simpa using this) (dstG_of hdst) (A := fun g => putAll a ds (vals g)) (fun g => putAll_size _ _ _) (fun g => putAll_defers _ _ _) (fun g s h => putAll_other _ _ _ _ (fun d hd e => by obtain ⟨o, ho, hod⟩ := hds d hd; exact h o ho (by rw [hod, e]))) R hstep hpost l.length (Array.replicate l.length false) g0 a w.drew (by simp) hu h0 ⟨fun k o s hk hl => (by rw [Array.getD_eq_getD_getElem?, Array.getElem?_replicate] at hl; split at hl <;> simp at hl), fun s _ => rfl, rfl, rfl⟩
  have e1 : l.length = l.toArray.size := by simp
  rw [e1] at main
  simpa using main
end
end Go.Proofs.Ytofpbommhklooaa
/-
  Regions that draw their order, in a round of a range over a function.
-/
namespace Go.Proofs.Ytofpbommhklooaa
open Go.RowKit Go.Shelf
set_option linter.unusedSimpArgs false
set_option linter.unusedVariables false

section
variable {P : Program}
/-- No deferred call. -/
def notD (o : Oper) : Bool := match o.op with | .defer _ => false | _ => true
theorem notD_ne {o : Oper} (h : notD o = true) : ∀ c, o.op ≠ .defer c := fun c e => by
  unfold notD at h
  rw [e] at h
  cases h
theorem oper_round {n l : Nat} {o : Oper} {a : Act} {w : World} {K : Act → World → Prop} {Q : Exit → Act → World → Prop} (hd : notD o = true) (h : o.wp P a w K Q) : o.wpIn (Fence.wide.inRound l) n P a w K Q := by
  refine ⟨fun _ _ => trivial, ?_⟩
  rw [Fence.inRound_round, Oper.semAt_some l _ o (notD_ne hd)]
  unfold Oper.wp Oper.upon at h
  unfold Oper.uponIn
  cases hr : (execOp a.eval o).run P w with
  | ok x w' =>
    rw [hr] at h
    cases x with
    | value v => exact h
    | skip => exact h
    | defer d => exact h
    | enter f args => exact ⟨fun q => (by cases q), CallsIn.inRound l (callsIn_wide.2 h)⟩
    | row r args => exact ⟨fun q => (by cases q), fun c cs _ => let ⟨v, w'', r', s⟩ := h c cs; ⟨v, w'', r', stepsIn_wide.2 s⟩⟩
    | _ => exact h.elim
  | halt x w' =>
    rw [hr] at h
    cases x with
    | panic v => exact h
    | _ => exact h.elim
theorem any_round {n l : Nat} {md : Region.Mode} {ops : Array Oper} {Q : Exit → Act → World → Prop} (hno : ¬ LetsOut Q) (hd : (ops.toList.all notD) = true) : ∀ (fuel : Nat) (listed : Array Bool) (a : Act) (w : World), wpAny P md ops Q fuel listed a w → wpAnyIn (Fence.wide.inRound l) n P md ops Q fuel listed a w
  | 0, listed, a, w, h => h
  | fuel + 1, listed, a, w, h => by
    refine ⟨h.1, fun i hi => ?_⟩
    have := h.2 i hi
    unfold wpOp at this
    unfold wpOpIn
    cases ho : ops[i]? with
    | none =>
      rw [ho] at this
      exact any_round hno hd fuel _ _ _ this
    | some o =>
      rw [ho] at this
      simp only at this ⊢
      have hnd : notD o = true := List.all_eq_true.mp hd o (by
        have := Array.mem_of_getElem? ho
        simpa using this)
      by_cases hw : Region.wanted o (yielded ops a.tmps) = true
      · rw [if_pos hw] at this ⊢
        exact Oper.wpIn_mono (fun a w h => any_round hno hd fuel _ a w h) (oper_round hnd (this.elim id (fun h => absurd h.2 hno)))
      · rw [if_neg hw] at this ⊢
        exact ⟨fun _ _ => trivial, any_round hno hd fuel _ _ _ this⟩
theorem region_round {n l id : Nat} {ops : Array Oper} {Q : Exit → Act → World → Prop} {a : Act} {w : World} (hno : ¬ LetsOut Q) (hm : P.follows .mixedOrders = true) (hd : (ops.toList.all notD) = true) (h : wpAny P .any ops Q ops.size (Array.replicate ops.size false) a w.drew) : (Code.region id ops true).wpIn (Fence.wide.inRound l) n P Q a w := wpIn_region_any hm (any_round hno hd _ _ _ _ h)
theorem q_regionR {n lo : Nat} {C : World → Prop} {id : Nat} {Q : Exit → Act → World → Prop} {a : Act} {w : World} {l : List Oper} (hno : ¬ LetsOut Q) (hm : P.follows .mixedOrders = true) (hB : Region.lexB .any l.toArray = true) (hd : (l.all notD) = true) (hC : C w.drew)
    (h : QW P l.toArray C (fun a' => ∀ w', C w' → Q .normal a' w') l a) : (Code.region id l.toArray true).wpIn (Fence.wide.inRound lo) n P Q a w := by
  have hq := h.out
  simp only [Region.lexB, Bool.and_eq_true] at hB
  refine region_round hno hm (by simpa using hd) (wpAny_of_quiet (Q := fun a' => ∀ w', C w' → Q .normal a' w') (fun _ w' hw' h => h w' hw') _ _ _ _ hC ?_)
  have := wpAnyQ_lex (C := C) (md := .any) hB.1 l 0 (Array.replicate l.toArray.size false) a (by simp) (by simpa using hB.2) hq
  simpa using this
theorem gh_regionR {n lo : Nat} {γ : Type} {id : Nat} {l : List Oper} (ok : QpOk l l.length l.length) (hgd : (l.all fun o => o.guard.isNone) = true) (hdst : dstG l = true) (hd : (l.all notD) = true) {Q : Exit → Act → World → Prop} {a : Act} {w : World} (hno : ¬ LetsOut Q) (ds : List (Option Tmp)) (vals : γ → List Value) (hm : P.follows .mixedOrders = true) (hds : ∀ d ∈ ds, ∃ o ∈ l, o.dst = d) (R : Array Bool → γ → World → Prop) (g0 : γ) (h0 : R (Array.replicate l.length false) g0 w.drew)
    (hstep : ∀ (i : Nat) (o : Oper) (lp : Array Bool) (g : γ) (w' : World) (a' : Act), l[i]? = some o → lp.size = l.length → lp.getD i false = false → (∀ e ∈ o.after, Region.binds .any e = true → lp.getD e.on false = true) → R lp g w' → Slt l a (putAll a ds (vals g)) lp a' →
      ∀ (K : Act → World → Prop) Q', (∀ g' w'', (∀ (k : Nat) (o : Oper) (s : Nat), l[k]? = some o → lp.getD k false = true → o.dst = some s → (putAll a ds (vals g')).tmps[s]? = (putAll a ds (vals g)).tmps[s]?) → R (lp.setIfInBounds i true) g' w'' → ∀ v, valO (putAll a ds (vals g')) o = v → K (a'.put o.dst v) w'') → o.wp P a' w' K Q')
    (hpost : ∀ g w', R (Array.replicate l.length true) g w' → Q .normal (putAll a ds (vals g)) w') : (Code.region id l.toArray true).wpIn (Fence.wide.inRound lo) n P Q a w := by
  refine region_round hno hm (by simpa using hd) ?_
  have hu : unl (Array.replicate l.length false) = l.length := by unfold unl; simp
  have main := gh_any ok (fun o ho => by have := List.all_eq_true.mp hgd o ho; simpa using this) (dstG_of hdst) (A := fun g => putAll a ds (vals g)) (fun g => putAll_size _ _ _) (fun g => putAll_defers _ _ _) (fun g s h => putAll_other _ _ _ _ (fun d hd e => by obtain ⟨o, ho, hod⟩ := hds d hd; exact h o ho (by rw [hod, e]))) R hstep hpost l.length (Array.replicate l.length false) g0 a w.drew (by simp) hu h0 ⟨fun k o s hk hl => (by rw [Array.getD_eq_getD_getElem?, Array.getElem?_replicate] at hl; split at hl <;> simp at hl), fun s _ => rfl, rfl, rfl⟩
  have e1 : l.length = l.toArray.size := by simp
  rw [e1] at main
  simpa using main
end
end Go.Proofs.Ytofpbommhklooaa
/-
  What each call of the small functions of turnpikeref1 does that are like those of package word.
-/
namespace Go.Proofs.Ytofpbommhklooaa
open Go.RowKit
set_option linter.unusedSimpArgs false
set_option linter.unusedVariables false

theorem rand_any (x y : BitVec 128) (w : World) :
    Calls Try.prog 41 #[.agg #[.int .u64 (hI x), .int .u64 (lI x)], .agg #[.int .u64 (hI y), .int .u64 (lI y)]] w fun e w' => e = .returned (.agg #[.int .u64 (hI (x &&& y)), .int .u64 (lI (x &&& y))]) ∧ Below w.heap.size w w' := by
  go_enter Try.func41, Try.ntmps41
  go_wp2
  rw [and_h, and_l]
  exact bodyPost_ret (v := .agg #[.int .u64 (hI (x &&& y)), .int .u64 (lI (x &&& y))]) (by simp [results, Try.results41, go_sem]) rfl ⟨rfl, bl3 _ _ _ _⟩

theorem rnot_any (x : BitVec 128) (w : World) :
    Calls Try.prog 42 #[.agg #[.int .u64 (hI x), .int .u64 (lI x)]] w fun e w' => e = .returned (.agg #[.int .u64 (hI (~~~x)), .int .u64 (lI (~~~x))]) ∧ Below w.heap.size w w' := by
  have hs : ¬ IntKind.u64.signed = true := by decide
  go_enter Try.func42, Try.ntmps42
  go_wp2
  rw [not_h, not_l]
  exact bodyPost_ret (v := .agg #[.int .u64 (hI (~~~x)), .int .u64 (lI (~~~x))]) (by simp [results, Try.results42, go_sem]) rfl ⟨rfl, bl2 _ _ _⟩

end Go.Proofs.Ytofpbommhklooaa
/-
  What each call of turnpikeref1's Bit, Put, Mask, Add, Sub and Cmp does.
-/
namespace Go.Proofs.Ytofpbommhklooaa
open Go.RowKit
set_option linter.unusedSimpArgs false
set_option linter.unusedVariables false

set_option maxHeartbeats 400000 in
theorem rbit_any (x : BitVec 128) (i : Int) (w : World) :
    Calls Try.prog 27 #[.agg #[.int .u64 (hI x), .int .u64 (lI x)], .int .i64 i] w fun e w' => e = .returned (.int .i64 (bitZ x i)) ∧ Below w.heap.size w w' := by
  by_cases h0 : i < 0
  · rw [bitZ_out x i (Or.inl h0)]
    go_enter Try.func27, Try.ntmps27
    go_wp2
    go_ret
    exact ⟨rfl, bl1 _ _⟩
  by_cases h1 : 127 < i
  · rw [bitZ_out x i (Or.inr h1)]
    go_enter Try.func27, Try.ntmps27
    go_wp2
    go_ret
    exact ⟨rfl, bl1 _ _⟩
  by_cases h2 : i < 64
  · rw [← bit_hi x i (by omega) h2]
    go_enter Try.func27, Try.ntmps27
    go_wp2
    go_ret
    exact ⟨rfl, bl1 _ _⟩
  · rw [← bit_lo x i (by omega) (by omega)]
    go_enter Try.func27, Try.ntmps27
    go_wp2
    go_ret
    exact ⟨rfl, bl1 _ _⟩

set_option maxHeartbeats 400000 in
theorem put_any (x : BitVec 128) (i b : Int) (w : World) (hb : b = 0 ∨ b = 1) (h0 : 0 ≤ i) (h1 : i ≤ 127) :
    Calls Try.prog 63 #[.agg #[.int .u64 (hI x), .int .u64 (lI x)], .int .i64 i, .int .i64 b] w fun e w' => e = .returned (.agg #[.int .u64 (hI (putW x i b)), .int .u64 (lI (putW x i b))]) ∧ Below w.heap.size w w' := by
  by_cases h2 : i < 64
  · rcases hb with rfl | rfl
    · rw [put_l0 x i 0 (Or.inl rfl) h0 h2, ← put_h0 x i h0 h2]
      go_enter Try.func63, Try.ntmps63
      go_wp2
      go_region
      all_goals go_wp2
      all_goals exact bodyPost_ret (v := .agg #[.int .u64 (bits .or .u64 (bits .andNot .u64 (hI x) (IntKind.u64.wrap (2 ^ (63 - i).toNat))) 0), .int .u64 (lI x)]) (by simp [results, Try.results63, go_sem]) rfl ⟨rfl, (bl2 _ _ _).drew⟩
    · rw [put_l0 x i 1 (Or.inr rfl) h0 h2, ← put_h1 x i h0 h2]
      go_enter Try.func63, Try.ntmps63
      go_wp2
      go_region
      all_goals go_wp2
      all_goals exact bodyPost_ret (v := .agg #[.int .u64 (bits .or .u64 (bits .andNot .u64 (hI x) (IntKind.u64.wrap (2 ^ (63 - i).toNat))) (IntKind.u64.wrap (2 ^ (63 - i).toNat))), .int .u64 (lI x)]) (by simp [results, Try.results63, go_sem]) rfl ⟨rfl, (bl2 _ _ _).drew⟩
  · rcases hb with rfl | rfl
    · rw [put_hh x i 0 (Or.inl rfl) (by omega) h1, ← put_l00 x i (by omega) h1]
      go_enter Try.func63, Try.ntmps63
      go_wp2
      go_region
      all_goals go_wp2
      all_goals exact bodyPost_ret (v := .agg #[.int .u64 (hI x), .int .u64 (bits .or .u64 (bits .andNot .u64 (lI x) (IntKind.u64.wrap (2 ^ (127 - i).toNat))) 0)]) (by simp [results, Try.results63, go_sem]) rfl ⟨rfl, (bl2 _ _ _).drew⟩
    · rw [put_hh x i 1 (Or.inr rfl) (by omega) h1, ← put_l1 x i (by omega) h1]
      go_enter Try.func63, Try.ntmps63
      go_wp2
      go_region
      all_goals go_wp2
      all_goals exact bodyPost_ret (v := .agg #[.int .u64 (hI x), .int .u64 (bits .or .u64 (bits .andNot .u64 (lI x) (IntKind.u64.wrap (2 ^ (127 - i).toNat))) (IntKind.u64.wrap (2 ^ (127 - i).toNat)))]) (by simp [results, Try.results63, go_sem]) rfl ⟨rfl, (bl2 _ _ _).drew⟩

/-- The variable at block B holds the word x, and may be written. -/
def At (w : World) (B : Nat) (x : BitVec 128) : Prop := w.cell? ⟨B, 0, none⟩ = some (.int .u64 (hI x)) ∧ w.cell? ⟨B, 1, none⟩ = some (.int .u64 (lI x)) ∧ w.frozen? ⟨B, 0, none⟩ = false ∧ w.frozen? ⟨B, 1, none⟩ = false ∧ B < w.heap.size
theorem At.below {w w' : World} {B : Nat} {x : BitVec 128} (h : At w B x) (hb : Below w.heap.size w w') : At w' B x := by
  obtain ⟨h0, h1, h2, h3, h4⟩ := h
  obtain ⟨hc, hf⟩ := bcell hb
  exact ⟨by rw [hc _ _ h4]; exact h0, by rw [hc _ _ h4]; exact h1, by rw [hf _ _ h4]; exact h2, by rw [hf _ _ h4]; exact h3, Nat.lt_of_lt_of_le h4 hb.size⟩
theorem At.set {w : World} {B : Nat} {x : BitVec 128} (y : BitVec 128) (h : At w B x) : At ((w.setCell ⟨B, 0, none⟩ (.int .u64 (hI y))).setCell ⟨B, 1, none⟩ (.int .u64 (lI y))) B y := by
  obtain ⟨h0, h1, h2, h3, h4⟩ := h
  refine ⟨?_, ?_, ?_, ?_, ?_⟩ <;> simp [go_sem, *]

theorem At.other {w : World} {B C : Nat} {x : BitVec 128} (u v : Value) (h : At w B x) (hn : B ≠ C) : At ((w.setCell ⟨C, 0, none⟩ u).setCell ⟨C, 1, none⟩ v) B x := by
  obtain ⟨h0, h1, h2, h3, h4⟩ := h
  have hn' : ¬ C = B := fun e => hn e.symm
  refine ⟨?_, ?_, ?_, ?_, ?_⟩ <;> simp [go_sem, *]
theorem maskW_end (n : Int) (k : Nat) (hk : k ≤ 128) (hkn : k = 0 ∨ (k : Int) ≤ n) (hc : ¬ ((k : Int) < n ∧ k < 128)) : maskW (k : Int) = maskW n := by
  by_cases h : n ≤ 0
  · have : k = 0 := by omega
    subst this
    rw [maskW_neg n h]; exact maskW_0
  · by_cases g : (k : Int) = n
    · rw [g]
    · have : k = 128 := by omega
      subst this
      rw [maskW_all n (by omega)]; rfl

set_option maxHeartbeats 400000 in
theorem rmask_any (n : Int) (w : World) :
    Calls Try.prog 43 #[.int .i64 n] w fun e w' => e = .returned (.agg #[.int .u64 (hI (maskW n)), .int .u64 (lI (maskW n))]) ∧ Below w.heap.size w w' := by
  go_enter Try.func43, Try.ntmps43
  go_wp2
  go_loopw [4] (fun i wr => ∃ k : Nat, k ≤ 128 ∧ (k = 0 ∨ (k : Int) ≤ n) ∧ i = .int .i64 k ∧ At wr (w.heap.size + 1) (maskW k) ∧ At wr w.heap.size 0#128 ∧ Below w.heap.size w wr)
    (fun i _ => 128 - (intOf i).toNat)
  case atStart =>
    refine ⟨0, by omega, Or.inl rfl, rfl, ?_, ?_, bl2 _ _ _⟩
    · show At _ _ (maskW 0)
      rw [maskW_0]; refine ⟨?_, ?_, ?_, ?_, ?_⟩ <;> simp [go_sem, hI_zero, lI_zero]
    · refine ⟨?_, ?_, ?_, ?_, ?_⟩ <;> simp [go_sem, hI_zero, lI_zero]
  case round =>
    obtain ⟨k, hk, hkn, rfl, hA, hR, hB⟩ := hrel
    by_cases hc : (k : Int) < n ∧ k < 128
    · obtain ⟨h1, h2⟩ := hc
      have h3 : (k : Int) < 128 := by omega
      obtain ⟨a0, a1, a2, a3, a4⟩ := id hA
      clear hkn
      go_wp2_with fail
      refine (put_any _ _ _ _ (Or.inr rfl) (by omega) (by omega)).mono ?_
      rintro e w1 ⟨rfl, hb1⟩
      have hA1 := hA.below hb1
      have hR1 := hR.below hb1
      obtain ⟨b0, b1, b2, b3, b4⟩ := id hA1
      go_wp2
      go_roundw
      case rel =>
        refine ⟨k + 1, by omega, Or.inr (by omega), by go_num, ?_, ?_, ?_⟩
        · rw [← maskW_succ k h2]; exact hA1.set _
        · exact hR1.other _ _ (by omega)
        · exact ((hB.trans (hb1.mono hB.size)).setCell (by simp) _).setCell (by simp) _
      case measure => simp [intOf]; omega
    · have he := maskW_end n k hk hkn hc
      obtain ⟨a0, a1, a2, a3, a4⟩ := id hA
      obtain ⟨r0, r1, r2, r3, r4⟩ := id hR
      have HE : Hid (maskW (k : Int) = maskW n) := he
      clear he
      by_cases h1 : (k : Int) < n
      · have h2 : ¬ (k : Int) < 128 := by omega
        clear hkn hc
        go_wp2
        exact bodyPost_ret (v := .agg #[.int .u64 (hI (maskW k)), .int .u64 (lI (maskW k))]) (by simp [results, Try.results43, go_sem, *]) rfl ⟨by rw [HE.out], (hB.setCell (by simp) _).setCell (by simp) _⟩
      · clear hkn hc
        go_wp2
        exact bodyPost_ret (v := .agg #[.int .u64 (hI (maskW k)), .int .u64 (lI (maskW k))]) (by simp [results, Try.results43, go_sem, *]) rfl ⟨by rw [HE.out], (hB.setCell (by simp) _).setCell (by simp) _⟩

set_option maxHeartbeats 400000 in
theorem rcmp_any (x y : BitVec 128) (w : World) :
    Calls Try.prog 65 #[.agg #[.int .u64 (hI x), .int .u64 (lI x)], .agg #[.int .u64 (hI y), .int .u64 (lI y)]] w fun e w' => e = .returned (.int .i64 (cmpZ x y)) ∧ Below w.heap.size w w' := by
  rcases cmp_ways x y with ⟨h, c⟩ | ⟨h, g, c⟩ | ⟨h, c⟩ | ⟨h, c⟩ | ⟨h, g, c⟩
  · rw [c]; clear c
    go_enter Try.func65, Try.ntmps65
    go_wp2
    go_ret
    exact ⟨rfl, bl2 _ _ _⟩
  · rw [c, h]; clear c h
    go_enter Try.func65, Try.ntmps65
    go_wp2
    go_ret
    exact ⟨rfl, bl2 _ _ _⟩
  · rw [c]; clear c; subst h
    go_enter Try.func65, Try.ntmps65
    go_wp2
    go_ret
    exact ⟨rfl, bl2 _ _ _⟩
  · rw [c]; clear c
    have ne : ¬ hI x = hI y := by omega
    go_enter Try.func65, Try.ntmps65
    go_wp2
    go_ret
    exact ⟨rfl, bl2 _ _ _⟩
  · rw [c, h]; clear c h
    have ne : ¬ lI x = lI y := by omega
    go_enter Try.func65, Try.ntmps65
    go_wp2
    go_ret
    exact ⟨rfl, bl2 _ _ _⟩
end Go.Proofs.Ytofpbommhklooaa
/-
  What the calls of package word's digit and Parse do.
-/
namespace Go.Proofs.Ytofpbommhklooaa
open Go.RowKit
set_option linter.unusedSimpArgs false
set_option linter.unusedVariables false

/-- Is the byte a digit of sixteen, and which number is it? -/
def digB (c : Int) : Bool := (decide (48 ≤ c) && decide (c ≤ 57)) || (decide (97 ≤ c) && decide (c ≤ 102))
def digV (c : Int) : Int := if 48 ≤ c ∧ c ≤ 57 then c - 48 else if 97 ≤ c ∧ c ≤ 102 then c - 87 else 0
theorem dig_ways (c : Int) : (c < 48 ∧ digB c = false ∧ digV c = 0) ∨ (48 ≤ c ∧ c ≤ 57 ∧ digB c = true ∧ digV c = c - 48) ∨ (57 < c ∧ c < 97 ∧ digB c = false ∧ digV c = 0) ∨ (97 ≤ c ∧ c ≤ 102 ∧ digB c = true ∧ digV c = c - 97 + 10) ∨ (102 < c ∧ digB c = false ∧ digV c = 0) := by
  unfold digB digV
  by_cases h1 : c < 48
  · left
    have a1 : ¬ 48 ≤ c := by omega
    have a2 : ¬ 97 ≤ c := by omega
    simp [a1, a2, h1]
  by_cases h2 : c ≤ 57
  · right; left
    have a1 : 48 ≤ c := by omega
    simp [a1, h2]
  by_cases h3 : c < 97
  · right; right; left
    have a2 : ¬ 97 ≤ c := by omega
    simp [h2, a2, h3]; omega
  by_cases h4 : c ≤ 102
  · right; right; right; left
    have a2 : 97 ≤ c := by omega
    simp [h2, a2, h4]; omega
  · right; right; right; right
    simp [h2, h4]; omega
theorem digV_bd (c : Int) : 0 ≤ digV c ∧ digV c ≤ 15 := by
  unfold digV; split
  · omega
  · split <;> omega

/-- The byte at place k, as a number (0 where there is none). -/
def byteAt (s : ByteArray) (k : Nat) : Int := if h : k < s.size then (s[k].toNat : Int) else 0
theorem byteAt_in (s : ByteArray) (k : Nat) (h : k < s.size) : (s[k].toNat : Int) = byteAt s k := by unfold byteAt; rw [dif_pos h]
theorem byteAt_bd (s : ByteArray) (k : Nat) : 0 ≤ byteAt s k ∧ byteAt s k ≤ 255 := by
  unfold byteAt; split
  · rename_i h; have := s[k].toNat_lt; omega
  · omega
/-- The word of the first k digits. -/
def pW (s : ByteArray) : Nat → BitVec 128
  | 0 => 0#128
  | k + 1 => (pW s k <<< 4) ||| mkW 0 (digV (byteAt s k))
def pAll (s : ByteArray) : Nat → Bool
  | 0 => true
  | k + 1 => pAll s k && digB (byteAt s k)

theorem pAll_le (s : ByteArray) : ∀ k m, k ≤ m → pAll s m = true → pAll s k = true := by
  intro k m h
  induction m with
  | zero => intro q; have : k = 0 := by omega
            subst this; exact q
  | succ m ih =>
    intro q
    by_cases e : k = m + 1
    · subst e; exact q
    · simp only [pAll, Bool.and_eq_true] at q
      exact ih (by omega) q.1
/-- What Parse tells of 32 signs. -/
def pOut (s : ByteArray) : BitVec 128 := if pAll s 32 = true then pW s 32 else 0#128
def pErr (s : ByteArray) : Int := if pAll s 32 = true then 0 else 12

end Go.Proofs.Ytofpbommhklooaa
/-
  What the calls of package addr's number, put and part do.
-/
namespace Go.Proofs.Ytofpbommhklooaa
open Go.RowKit
set_option linter.unusedSimpArgs false
set_option linter.unusedVariables false

/-- The number that a text begins with, from place k on, n being read: the number, and how many digits. -/
def numR (t : ByteArray) : Nat → Nat → Int → Int × Int
  | 0, k, n => (n, k)
  | f + 1, k, n => if 48 ≤ byteAt t k ∧ byteAt t k ≤ 57 then (if 255 < 10 * n + (byteAt t k - 48) then (0, 0) else if 10 * n + (byteAt t k - 48) = 0 then (0, (k : Int) + 1) else numR t f (k + 1) (10 * n + (byteAt t k - 48))) else (n, k)
def numV (t : ByteArray) : Int := (numR t t.size 0 0).1
def numN (t : ByteArray) : Int := (numR t t.size 0 0).2

/-- A number laid into a part of a word. -/
def layW (x : BitVec 128) (i b v : Int) : BitVec 128 := x ||| (mkW 0 v <<< (128 - b * (i + 1)).toNat)
end Go.Proofs.Ytofpbommhklooaa
/-
  What the call of package addr's readFour does.
-/
namespace Go.Proofs.Ytofpbommhklooaa
open Go.RowKit
set_option linter.unusedSimpArgs false
set_option linter.unusedVariables false

theorem numR_bd (t : ByteArray) : ∀ f k n, 0 ≤ n → n ≤ 255 → 0 ≤ (numR t f k n).1 ∧ (numR t f k n).1 ≤ 255 ∧ 0 ≤ (numR t f k n).2 ∧ (numR t f k n).2 ≤ (k : Int) + f := by
  intro f
  induction f with
  | zero => intro k n h0 h1; exact ⟨h0, h1, by show (0 : Int) ≤ (k : Int); omega, by show (k : Int) ≤ _; omega⟩
  | succ f ih =>
    intro k n h0 h1
    show 0 ≤ (if _ then _ else _ : Int × Int).1 ∧ (if _ then _ else _ : Int × Int).1 ≤ 255 ∧ 0 ≤ (if _ then _ else _ : Int × Int).2 ∧ (if _ then _ else _ : Int × Int).2 ≤ _
    split
    · split
      · simp; omega
      · split
        · simp; omega
        · have := ih (k + 1) (10 * n + (byteAt t k - 48)) (by omega) (by omega)
          omega
    · simp; omega
theorem num_bd (t : ByteArray) : 0 ≤ numV t ∧ numV t ≤ 255 ∧ 0 ≤ numN t ∧ numN t ≤ t.size := by
  have := numR_bd t t.size 0 0 (by omega) (by omega)
  unfold numV numN; omega

/-- Four numbers with points between, from number i on, at place a, x being laid. -/
def fourR (s : ByteArray) : Nat → Nat → Nat → BitVec 128 → BitVec 128 × Bool
  | 0, _, _, _ => (0#128, false)
  | f + 1, i, a, x =>
    if numN (s.extract a s.size) = 0 then (0#128, false)
    else if i = 3 then (layW x i 8 (numV (s.extract a s.size)), decide (a + (numN (s.extract a s.size)).toNat = s.size))
    else if a + (numN (s.extract a s.size)).toNat = s.size ∨ byteAt s (a + (numN (s.extract a s.size)).toNat) ≠ 46 then (0#128, false)
    else fourR s f (i + 1) (a + (numN (s.extract a s.size)).toNat + 1) (layW x i 8 (numV (s.extract a s.size)))
def fourV (s : ByteArray) : BitVec 128 := (fourR s 4 0 0 0#128).1
def fourB (s : ByteArray) : Bool := (fourR s 4 0 0 0#128).2

theorem at_new (w : World) (B : Nat) (x : BitVec 128) (T : TypeId) (h : B = w.heap.size) : At (w.alloc (.cells #[.int .u64 (hI x), .int .u64 (lI x)] T)) B x := by
  subst h
  refine ⟨?_, ?_, ?_, ?_, ?_⟩ <;> simp [go_sem]

theorem bset2 {n C : Nat} {w W : World} (h : Below n w W) (hp : n ≤ C) (u v : Value) : Below n w ((W.setCell ⟨C, 0, none⟩ u).setCell ⟨C, 1, none⟩ v) := (h.setCell hp _).setCell hp _

end Go.Proofs.Ytofpbommhklooaa
