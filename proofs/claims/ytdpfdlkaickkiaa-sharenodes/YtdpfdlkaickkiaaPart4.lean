/-
  Part 4 of the proof: 7 texts, one behind the other.
-/
import Derived.Test.YtdpfdlkaickkiaaPart3
import Derived.RangeFuncNested
import Derived.RangeFuncBound
import Derived.RangeFuncCalls
import Derived.RangeFuncLeaves
import Derived.Shelf.Abstract
import Derived.Shelf.RegionOpen
import Derived.WalkKit
import Derived.OwnWalkIn
import Derived.TacticsInMore
import Derived.LoopNIn
import Derived.LoopIn
import Derived.Test.YtdpfdlkaickkiaaPart2
import Derived.Laws.CopyRow
import Derived.Laws.MakeOwn
import Derived.Laws.OwnMore
namespace Go.Proofs.Ytdpfdlkaickkiaa
open Go.RowKit Go.Shelf
set_option linter.unusedSimpArgs false
set_option linter.unusedVariables false

section
variable {P : Program}
def SeqX {α : Type} (n : Nat) (P : Program) (g : Nat) (lb : Array Value) (encs : α → Array Value) (Kp : World → World → Prop) (S Sp : List α → Prop) (Bd : Nat) (w : World) : Prop :=
  ∀ (l : Nat) (J Jx : List α → World → Prop) (W : World), Below w.heap.size w W → Bd ≤ W.heap.size → OwnFrom W.heap.size J → OwnFrom W.heap.size Jx →
    (∀ pre x V, J pre V → Sp (pre ++ [x]) → YieldAt Fence.wide (n - 1) P l (encs x) V fun e V' => (e = .returned (.bool true) ∧ J (pre ++ [x]) V' ∧ Kp V V') ∨ (e = .returned (.bool false) ∧ Jx (pre ++ [x]) V' ∧ Kp V V')) →
    J [] W → CallsIn Fence.wide n P g (#[.func (.yield l) #[] #[]] ++ lb) W fun e W' => (∃ v, e = .returned v) ∧ ((∃ xs, S xs ∧ J xs W') ∨ (∃ pre, Sp pre ∧ Jx pre W'))
def postX {α : Type} (B : Nat) (Kp : World → World → Prop) (I : List α → World → Prop) (Ix : Code → List α → World → Prop) (xs : List α) (W : World) : Exit → Act → World → Prop
  | .normal, _, W' => KeepsFrom B W W' ∧ Kp W W' ∧ I xs W'
  | .ret, _, W' => KeepsFrom B W W' ∧ Kp W W' ∧ Ix .ret xs W'
  | .exit id, _, W' => KeepsFrom B W W' ∧ Kp W W' ∧ Ix (.exit id) xs W'
  | .goto t, _, W' => KeepsFrom B W W' ∧ Kp W W' ∧ Ix (.goto t) xs W'
  | .panic _, _, _ => False
  | .outgrown, _, _ => False
structure Bk (B : Nat) (r : Loop) (W : World) : Prop where
  rec' : W.heap[B + 1]? = some (.loop r)
  dfr : W.heap[B]? = some (.deferred (some []))
theorem Bk.lt {B : Nat} {r : Loop} {W : World} (k : Bk B r W) : B + 1 < W.heap.size := (Array.getElem?_eq_some_iff.1 k.rec').1
theorem Bk.from {B : Nat} {r : Loop} {W W' : World} (k : Bk B r W) (h : KeepsFrom B W W') : Bk B r W' := ⟨h.same _ _ (by omega) k.rec' rfl, h.same _ _ (Nat.le_refl _) k.dfr rfl⟩
theorem Bk.turn {B : Nat} {r : Loop} {W : World} (k : Bk B r W) (r' : Loop) : Bk B r' (W.putObj (B + 1) (.loop r')) := ⟨World.putObj_heap_same k.lt, (World.putObj_heap_other (by omega)).trans k.dfr⟩
theorem Bk.grown {B : Nat} {r : Loop} {W W' : World} {row : Option Nat} (k : Bk B r W) (h : W.grownBy W' row) (hr : ∀ z, row = some z → B + 2 ≤ z) : Bk B r W' := by
  have hl := k.lt
  exact ⟨(h.block _ hl (fun e => by have := hr _ e.symm; omega)).trans k.rec', (h.block _ (by omega) (fun e => by have := hr _ e.symm; omega)).trans k.dfr⟩
theorem bk_end {B : Nat} {r : Loop} {W : World} (k : Bk B r W) (jump : Option Code) : (Instr.endRound (B + 1) jump).run P W = .ok (.bool jump.isNone) (W.putObj (B + 1) (.loop { r with state := if jump.isNone then .ready else .done, pending := jump })) := run_endRound jump k.rec'
theorem rangeX {α : Type} {g : Operand} {ps : Array Tmp} {assign body : Code} {Q : Exit → Act → World → Prop} {a : Act} {w : World} (n : Nat) (h1 : 1 ≤ n) {gf : Nat} {lb : Array Value} (hg : a.eval g = .func (.func gf) #[] lb) (eg : ∀ args w, (callFunc gf args).run P w = .ok (.enter gf args) w)
    {encs : α → Array Value} {Kp : World → World → Prop} {S Sp : List α → Prop} {Bd : Nat} {w0 : World} (hseq : SeqX (n - 1) P gf lb encs Kp S Sp Bd w0) (hBd : Bd ≤ w.heap.size + 2)
    (hKt : ∀ {A B C : World}, Kp A B → Kp B C → Kp A C) (hKb : ∀ (W : World) (o o' : Obj), W.heap[w.heap.size + 1]? = some o → o.isCells = false → Kp W (W.putObj (w.heap.size + 1) o')) (hb0 : Below w0.heap.size w0 w) (hps : ∀ x, (encs x).size = ps.size)
    (I : List α → World → Prop) (Ix : Code → List α → World → Prop) (hI : OwnFrom w.heap.size I) (hIx : ∀ c, OwnFrom w.heap.size (Ix c)) (h0 : I [] w) (Ax : α → Act → World → Prop) (hAx : ∀ x a', OwnFrom w.heap.size (fun (_ : Unit) W => Ax x a' W))
    (hassign : ∀ (l : Nat) (pre : List α) (x : α) (W : World) (K : Act → World → Prop), I pre W → (∀ a' W', KeepsFrom w.heap.size W W' → Kp W W' → I pre W' → Ax x a' W' → K a' W') →
      assign.wpIn (Fence.wide.inRound l) (n - 1 - 1) P (Exit.then K (fun _ _ _ => False)) { tmps := (ps.zip (encs x)).foldl (fun t (p, v) => t.setIfInBounds p v) a.tmps, defers := [] } W)
    (hbody : ∀ (l : Nat) (pre : List α) (x : α) (a' : Act) (W : World), w.heap.size ≤ l → (∃ r, W.heap[l]? = some (.loop r)) → I pre W → Ax x a' W → Sp (pre ++ [x]) → body.wpIn (Fence.wide.inRound l) (n - 1 - 1) P (postX w.heap.size Kp I Ix (pre ++ [x]) W) a' W)
    (hdone : ∀ (D : Nat) (xs : List α) (W : World), w.heap.size ≤ D → S xs → I xs W → W.heap[D]? = some (.deferred (some [])) → Q .normal { a with defers := { target := .collected D, args := #[] } :: a.defers } W)
    (hstop : ∀ (D : Nat) (c : Code) (pre : List α) (W : World), w.heap.size ≤ D → Sp pre → Ix c pre W → W.heap[D]? = some (.deferred (some [])) → c.wpIn Fence.wide n P Q { a with defers := { target := .collected D, args := #[] } :: a.defers } W) :
    (Code.rangeFunc g ps assign body).wpIn Fence.wide n P Q a w := by
  refine wpIn_rangeFunc (fun fn hfn => ?_)
  rw [Fence.wide_round]
  -- the record, by its state and its pending jump
  obtain ⟨rc, hrc⟩ : ∃ rc : LoopState → Option Code → Loop, ∀ s p, rc s p = { state := s, pending := p, fn, tmps := a.tmps, params := ps, assign, body, defers := w.heap.size } := ⟨_, fun _ _ => rfl⟩
  have bw := bl1 w (.deferred (some []))
  have bw2 := bl1 (w.alloc (.deferred (some []))) (.loop (rc .ready none))
  have k1 : Bk w.heap.size (rc .ready none) ((w.alloc (.deferred (some []))).alloc (.loop (rc .ready none))) := by
    refine ⟨?_, ?_⟩
    · have := World.alloc_heap_new (w.alloc (.deferred (some []))) (.loop (rc .ready none))
      rwa [World.size_alloc] at this
    · exact (bw2.block _ (by simp)).trans (World.alloc_heap_new w _)
  have i1 : I [] ((w.alloc (.deferred (some []))).alloc (.loop (rc .ready none))) := hI.alloc _ (hI.alloc _ h0)
  have b1 : Below w0.heap.size w0 ((w.alloc (.deferred (some []))).alloc (.loop (rc .ready none))) := keepb bw2 (keepb bw hb0)
  have hent : (Instr.enterLoop fn a.tmps ps assign body none).run P w = .ok (w.heap.size + 1, [{ target := .collected w.heap.size, args := #[] }]) ((w.alloc (.deferred (some []))).alloc (.loop (rc .ready none))) := by
    rw [hrc]
    exact run_enterLoop_outer _ _ _ _ _
  have hs1 : ((w.alloc (.deferred (some []))).alloc (.loop (rc .ready none))).heap.size = w.heap.size + 2 := by simp
  revert k1 i1 b1 hent hs1
  generalize (w.alloc (.deferred (some []))).alloc (.loop (rc .ready none)) = V1
  intro k1 i1 b1 hent hs1
  clear bw bw2
  refine ⟨w.heap.size + 1, _, V1, { target := .fn (.func gf) lb, args := #[.func (.yield (w.heap.size + 1)) #[] #[]] }, V1, gf, #[.func (.yield (w.heap.size + 1)) #[] #[]] ++ lb, V1, hent, by simp only [resolve, hg]; simp [go_sem], fun _ _ => trivial, by simp [invoke, go_sem, eg], fun _ => h1, ?_⟩
  have far : ∀ {A : World} {row : Option Nat}, (∀ r, row = some r → V1.heap.size ≤ r ∧ ∃ o : Obj, A.heap[r]? = some o ∧ o.isCells = false) → (∀ r, row = some r → w.heap.size ≤ r ∧ ∃ o : Obj, A.heap[r]? = some o ∧ o.isCells = false) := fun hr r e => ⟨by have := (hr r e).1; omega, (hr r e).2⟩
  have far2 : ∀ {A : World} {row : Option Nat}, (∀ r, row = some r → V1.heap.size ≤ r ∧ ∃ o : Obj, A.heap[r]? = some o ∧ o.isCells = false) → ∀ z, row = some z → w.heap.size + 2 ≤ z := fun hr z e => by have := (hr z e).1; omega
  refine (hseq (w.heap.size + 1) (fun pre W => I pre W ∧ Bk w.heap.size (rc .ready none) W) (fun pre W => ∃ c, Ix c pre W ∧ Bk w.heap.size (rc .done (some c)) W) V1 b1 (by omega) (fun s A B row hs hgr hr => ⟨hI s A B row hs.1 hgr (far hr), hs.2.grown hgr (far2 hr)⟩) (fun s A B row hs hgr hr => ?_) ?round ⟨i1, k1⟩).mono ?behind
  · obtain ⟨c, hc, kc⟩ := hs
    exact ⟨c, hIx c s A B row hc hgr (far hr), kc.grown hgr (far2 hr)⟩
  case round =>
    rintro pre x V ⟨hi, hk⟩ hlen
    have hy := run_yield (P := P) (args := encs x) hk.rec' (by rw [hrc]; exact hps x)
    rw [hrc] at hy
    refine ⟨fn, _, assign, body, hy, roundIn_of_wpIn hfn (hassign _ pre x V _ hi ?_)⟩
    intro a' Va f1 f2 f3 f4
    have ka := hk.from f1
    have hlt := ka.lt
    refine ⟨_, run_beginRound ka.rec' (by rw [hrc]), ?_⟩
    have kb := ka.turn { rc .ready none with state := .busy }
    have nb : ∀ (o : Obj), w.heap.size ≤ w.heap.size + 1 := fun _ => by omega
    have g1 := hI.putObj (.loop { rc .ready none with state := .busy }) f3 (show w.heap.size ≤ w.heap.size + 1 by omega) ka.rec' rfl
    have g2 := (hAx x a').putObj (s := ()) (.loop { rc .ready none with state := .busy }) f4 (show w.heap.size ≤ w.heap.size + 1 by omega) ka.rec' rfl
    have g3 := hKb Va _ (.loop { rc .ready none with state := .busy }) ka.rec' rfl
    revert kb g1 g2 g3
    generalize Va.putObj (w.heap.size + 1) (.loop { rc .ready none with state := .busy }) = Vb
    intro kb g1 g2 g3
    refine wpIn_mono (hbody (w.heap.size + 1) pre x a' Vb (by omega) ⟨_, kb.rec'⟩ g1 g2 hlen) ?_
    have out : ∀ (c : Code) (V3 : World), KeepsFrom w.heap.size Vb V3 → Kp Vb V3 → Ix c (pre ++ [x]) V3 → ∃ (e : Value) (V4 : World), (Instr.endRound (w.heap.size + 1) (some c)).run P V3 = .ok e V4 ∧ (((.returned e : Ending) = .returned (.bool true) ∧ (I (pre ++ [x]) V4 ∧ Bk w.heap.size (rc .ready none) V4) ∧ Kp V V4) ∨ ((.returned e : Ending) = .returned (.bool false) ∧ (∃ c, Ix c (pre ++ [x]) V4 ∧ Bk w.heap.size (rc .done (some c)) V4) ∧ Kp V V4)) := fun c V3 hk3 hq3 hi3 => by
      have k3 := kb.from hk3
      have k4 := k3.turn (rc .done (some c))
      have := bk_end (P := P) k3 (some c)
      refine ⟨_, _, this, .inr ⟨rfl, ⟨c, ?_, ?_⟩, hKt f2 (hKt g3 (hKt hq3 (hKb _ _ _ k3.rec' rfl)))⟩⟩
      · exact (hIx c).putObj _ hi3 (by omega) k3.rec' rfl
      · have e : ({ ({ rc .ready none with state := .busy } : Loop) with state := if (some c).isNone then .ready else .done, pending := some c } : Loop) = rc .done (some c) := by rw [hrc, hrc]; rfl
        rw [e]
        exact k4
    rintro e a3 V3 hp
    cases e with
    | normal =>
      obtain ⟨hk3, hq3, hi3⟩ := hp
      have k3 := kb.from hk3
      have k4 := k3.turn (rc .ready none)
      have hr := bk_end (P := P) k3 none
      have e : ({ ({ rc .ready none with state := .busy } : Loop) with state := if (none : Option Code).isNone then .ready else .done, pending := none } : Loop) = rc .ready none := by rw [hrc]; rfl
      rw [e] at hr
      exact ⟨_, _, hr, .inl ⟨rfl, ⟨hI.putObj _ hi3 (by omega) k3.rec' rfl, k4⟩, hKt f2 (hKt g3 (hKt hq3 (hKb _ _ _ k3.rec' rfl)))⟩⟩
    | ret => exact out _ _ hp.1 hp.2.1 hp.2.2
    | exit id => exact out _ _ hp.1 hp.2.1 hp.2.2
    | goto t => exact out _ _ hp.1 hp.2.1 hp.2.2
    | panic ch => exact hp.elim
    | outgrown => exact hp.elim
  case behind =>
    rintro e V2 ⟨⟨v, rfl⟩, (⟨xs, hS, hi, hk⟩ | ⟨pre, hSp, c, hi, hk⟩)⟩
    · have hr := run_endLoop (P := P) hk.rec' (by rw [hrc]; simp)
      have kt := hk.turn { rc .ready none with state := .exhausted }
      exact ⟨_, _, by rw [hr], by rw [hrc]; exact hdone _ xs _ (Nat.le_refl _) hS (hI.putObj _ hi (by omega) hk.rec' rfl) (by rw [hrc] at kt; exact kt.dfr)⟩
    · have hr := run_endLoop (P := P) hk.rec' (by rw [hrc]; simp)
      have kt := hk.turn { rc .done (some c) with state := .exhausted }
      exact ⟨_, _, by rw [hr], by rw [hrc]; exact hstop _ c pre _ (Nat.le_refl _) hSp ((hIx c).putObj _ hi (by omega) hk.rec' rfl) (by rw [hrc] at kt; exact kt.dfr)⟩
def KW (Z : Nat → Prop) (B : Nat) (W W' : World) : Prop := W.heap.size ≤ W'.heap.size ∧ ∀ (z : Nat) (o : Obj), W.heap[z]? = some o → (Z z ∨ B ≤ z) → W'.heap[z]? = some o
theorem KW.trans {Z : Nat → Prop} {B : Nat} {X Y V : World} (h : KW Z B X Y) (g : KW Z B Y V) : KW Z B X V := ⟨Nat.le_trans h.1 g.1, fun z o h1 h2 => g.2 z o (h.2 z o h1 h2) h2⟩
theorem KW.refl (Z : Nat → Prop) (B : Nat) (W : World) : KW Z B W W := ⟨Nat.le_refl _, fun _ _ h _ => h⟩
end
end Go.Proofs.Ytdpfdlkaickkiaa
namespace Go.Proofs.Ytdpfdlkaickkiaa
open Go.RowKit Go.Shelf
set_option linter.unusedSimpArgs false
set_option linter.unusedVariables false

section
variable {P : Program}
def notD (o : Oper) : Bool := match o.op with | .defer _ => false | _ => true
theorem notD_ne {o : Oper} (h : notD o = true) : ∀ c, o.op ≠ .defer c := fun c e => by
  unfold notD at h
  rw [e] at h
  cases h
theorem oper_round {n l : Nat} {o : Oper} {a : Act} {w : World} {K : Act → World → Prop} {Q : Exit → Act → World → Prop} (hd : notD o = true) (h : o.wp P a w K Q) : o.wpIn (Fence.wide.inRound l) n P a w K Q := by
  refine ⟨fun _ _ => trivial, ?_⟩
  rw [Fence.inRound_round, Oper.semAt_some l _ o (notD_ne hd)]
  unfold Oper.wp Oper.upon at h
  unfold Oper.uponIn
  cases hr : (execOp a.eval o).run P w with
  | ok x w' =>
    rw [hr] at h
    cases x with
    | value v => exact h
    | skip => exact h
    | defer d => exact h
    | enter f args => exact ⟨fun q => (by cases q), CallsIn.inRound l (callsIn_wide.2 h)⟩
    | row r args => exact ⟨fun q => (by cases q), fun c cs _ => let ⟨v, w'', r', s⟩ := h c cs; ⟨v, w'', r', stepsIn_wide.2 s⟩⟩
    | _ => exact h.elim
  | halt x w' =>
    rw [hr] at h
    cases x with
    | panic v => exact h
    | _ => exact h.elim
theorem any_round {n l : Nat} {md : Region.Mode} {ops : Array Oper} {Q : Exit → Act → World → Prop} (hno : ¬ LetsOut Q) (hd : (ops.toList.all notD) = true) : ∀ (fuel : Nat) (listed : Array Bool) (a : Act) (w : World), wpAny P md ops Q fuel listed a w → wpAnyIn (Fence.wide.inRound l) n P md ops Q fuel listed a w
  | 0, listed, a, w, h => h
  | fuel + 1, listed, a, w, h => by
    refine ⟨h.1, fun i hi => ?_⟩
    have := h.2 i hi
    unfold wpOp at this
    unfold wpOpIn
    cases ho : ops[i]? with
    | none =>
      rw [ho] at this
      exact any_round hno hd fuel _ _ _ this
    | some o =>
      rw [ho] at this
      simp only at this ⊢
      have hnd : notD o = true := List.all_eq_true.mp hd o (by
        have := Array.mem_of_getElem? ho
        simpa using this)
      by_cases hw : Region.wanted o (yielded ops a.tmps) = true
      · rw [if_pos hw] at this ⊢
        exact Oper.wpIn_mono (fun a w h => any_round hno hd fuel _ a w h) (oper_round hnd (this.elim id (fun h => absurd h.2 hno)))
      · rw [if_neg hw] at this ⊢
        exact ⟨fun _ _ => trivial, any_round hno hd fuel _ _ _ this⟩
theorem region_round {n l id : Nat} {ops : Array Oper} {Q : Exit → Act → World → Prop} {a : Act} {w : World} (hno : ¬ LetsOut Q) (hm : P.follows .mixedOrders = true) (hd : (ops.toList.all notD) = true) (h : wpAny P .any ops Q ops.size (Array.replicate ops.size false) a w.drew) : (Code.region id ops true).wpIn (Fence.wide.inRound l) n P Q a w := wpIn_region_any hm (any_round hno hd _ _ _ _ h)
theorem gh_regionR {n lo : Nat} {γ : Type} {id : Nat} {l : List Oper} (ok : QpOk l l.length l.length) (hgd : (l.all fun o => o.guard.isNone) = true) (hdst : dstG l = true) (hd : (l.all notD) = true) {Q : Exit → Act → World → Prop} {a : Act} {w : World} (hno : ¬ LetsOut Q) (ds : List (Option Tmp)) (vals : γ → List Value) (hm : P.follows .mixedOrders = true) (hds : ∀ d ∈ ds, ∃ o ∈ l, o.dst = d) (R : Array Bool → γ → World → Prop) (g0 : γ) (h0 : R (Array.replicate l.length false) g0 w.drew)
    (hstep : ∀ (i : Nat) (o : Oper) (lp : Array Bool) (g : γ) (w' : World) (a' : Act), l[i]? = some o → lp.size = l.length → lp.getD i false = false → (∀ e ∈ o.after, Region.binds .any e = true → lp.getD e.on false = true) → R lp g w' → Slt l a (putAll a ds (vals g)) lp a' →
      ∀ (K : Act → World → Prop) Q', (∀ g' w'', (∀ (k : Nat) (o : Oper) (s : Nat), l[k]? = some o → lp.getD k false = true → o.dst = some s → (putAll a ds (vals g')).tmps[s]? = (putAll a ds (vals g)).tmps[s]?) → R (lp.setIfInBounds i true) g' w'' → ∀ v, valO (putAll a ds (vals g')) o = v → K (a'.put o.dst v) w'') → o.wp P a' w' K Q')
    (hpost : ∀ g w', R (Array.replicate l.length true) g w' → Q .normal (putAll a ds (vals g)) w') : (Code.region id l.toArray true).wpIn (Fence.wide.inRound lo) n P Q a w := by
  refine region_round hno hm (by simpa using hd) ?_
  have hu : unl (Array.replicate l.length false) = l.length := by unfold unl; simp
  have main := gh_any ok (fun o ho => by have := List.all_eq_true.mp hgd o ho; simpa using this) (dstG_of hdst) (A := fun g => putAll a ds (vals g)) (fun g => putAll_size _ _ _) (fun g => putAll_defers _ _ _) (fun g s h => putAll_other _ _ _ _ (fun d hd e => by obtain ⟨o, ho, hod⟩ := hds d hd; exact h o ho (by rw [hod, e]))) R hstep hpost l.length (Array.replicate l.length false) g0 a w.drew (by simp) hu h0 ⟨fun k o s hk hl => (by rw [Array.getD_eq_getD_getElem?, Array.getElem?_replicate] at hl; split at hl <;> simp at hl), fun s _ => rfl, rfl, rfl⟩
  have e1 : l.length = l.toArray.size := by simp
  rw [e1] at main
  simpa using main
end
end Go.Proofs.Ytdpfdlkaickkiaa
namespace Go.Proofs.Ytdpfdlkaickkiaa
open Go.RowKit Go.Shelf
set_option linter.unusedSimpArgs false
set_option linter.unusedVariables false
attribute [local go_sem] Oper.semAt_some

def KZ (Z : Nat → Prop) (W W' : World) : Prop := W.heap.size ≤ W'.heap.size ∧ ∀ (z : Nat) (o : Obj), W.heap[z]? = some o → Z z → W'.heap[z]? = some o
theorem KZ.trans {Z : Nat → Prop} {X Y V : World} (h : KZ Z X Y) (g : KZ Z Y V) : KZ Z X V := ⟨Nat.le_trans h.1 g.1, fun z o h1 h2 => g.2 z o (h.2 z o h1 h2) h2⟩
theorem kz_put {Z : Nat → Prop} {l : Nat} (hZ : ¬ Z l) (W : World) (o o' : Obj) (h : W.heap[l]? = some o) (hc : o.isCells = false) : KZ Z W (W.putObj l o') := ⟨by simp, fun z x hz hx => by
  have hne : z ≠ l := by rintro rfl; exact hZ hx
  rw [World.putObj_heap_other hne]; exact hz⟩
theorem kz_below {Z : Nat → Prop} {W W' : World} (h : Below W.heap.size W W') : KZ Z W W' := ⟨h.size, fun z o hz _ => by rw [h.block z (Array.getElem?_eq_some_iff.mp hz).1]; exact hz⟩
theorem kz_cell {Z : Nat → Prop} {W W' : World} (h : KZ Z W W') {b o : Nat} {v : Value} (hz : Z b) (hc : W.cell? ⟨b, o, none⟩ = some v) : W'.cell? ⟨b, o, none⟩ = some v := by
  have hb := cell_in hc
  have e : W'.heap[b]? = W.heap[b]? := by rw [h.2 b _ (Array.getElem?_eq_getElem hb) hz, Array.getElem?_eq_getElem hb]
  exact (World.cell?_of_block (a := ⟨b, o, none⟩) e).trans hc
structure WdM (Z : Nat → Prop) (A : Nat) (o k : Int) (ao : Option Addr) (c : Nat) (m : List (BitVec 32)) (W : World) : Prop where
  a : AtI W A o k (.slice ao m.length c)
  za : Z A
  r : RwX cU W (.slice ao m.length c) m
  zr : m ≠ [] → ∀ ad, ao = some ad → Z ad.block
theorem WdM.kz {Z : Nat → Prop} {A : Nat} {o k : Int} {ao : Option Addr} {c : Nat} {m : List (BitVec 32)} {W W' : World} (h : WdM Z A o k ao c m W) (g : KZ Z W W') : WdM Z A o k ao c m W' := by
  refine ⟨⟨kz_cell g h.za h.a.1, kz_cell g h.za h.a.2.1, kz_cell g h.za h.a.2.2⟩, h.za, ?_, h.zr⟩
  obtain ⟨ao', c', e, hc, hr⟩ := h.r
  injection e with e1 e2 e3
  subst e1 e3
  refine ⟨ao, c, rfl, hc, ?_⟩
  rcases hr with hr | ⟨b, off, e, hr⟩
  · exact .inl hr
  · exact .inr ⟨b, off, e, fun j x hj => kz_cell g (h.zr (by rintro rfl; cases hj) _ e) (hr j x hj)⟩
theorem below_grownX14 {w W : World} {r : Option Nat} (h : Below w.heap.size w W) : w.grownBy W r := ⟨h.os, h.tape, h.output, h.size, fun z h1 _ => h.block z h1⟩
end Go.Proofs.Ytdpfdlkaickkiaa
namespace Go.Proofs.Ytdpfdlkaickkiaa
open Go.RowKit
set_option linter.unusedSimpArgs false
set_option linter.unusedVariables false

end Go.Proofs.Ytdpfdlkaickkiaa
namespace Go.Proofs.Ytdpfdlkaickkiaa
open Go.RowKit
set_option linter.unusedSimpArgs false
set_option linter.unusedVariables false

end Go.Proofs.Ytdpfdlkaickkiaa
namespace Go.Proofs.Ytdpfdlkaickkiaa
open Go.RowKit Go.Shelf
set_option linter.unusedSimpArgs false
set_option linter.unusedVariables false

theorem gh_quiet14 {P : Program} {o : Oper} {a' : Act} {w' : World} {K : Act → World → Prop} {Q' : Exit → Act → World → Prop} {v : Value} (hr : (execOp a'.eval o).run P w' = .ok (.value v) w') (hK : K (a'.put o.dst v) w') : o.wp P a' w' K Q' := by
  unfold Oper.wp Oper.upon
  rw [hr]
  exact hK
theorem gh_same14 {x y : Array Value} {d s : Nat} (h : x.toList.eraseIdx d = y.toList.eraseIdx d) (hs : s ≠ d) : x[s]? = y[s]? := by
  have := erase_get _ _ d s h hs
  simpa using this
theorem Slt.old14 {l : List Oper} {a A : Act} {lp : Array Bool} {a' : Act} (h : Slt l a A lp a') (s : Nat) (hs : ∀ o ∈ l, o.dst ≠ some s) : a'.tmps[s]? = a.tmps[s]? := h.oth s (fun k o hk _ => hs o (List.mem_of_getElem? hk))
structure EnW (w : World) (N G B : Nat) (W : World) (vc vb : Value) (R : List Nat) : Prop where
  b : Below w.heap.size w W
  c : W.cell? ⟨B, 0, none⟩ = some vc
  f : W.frozen? ⟨B, 0, none⟩ = false
  o : W.ownsRow w.heap.size 5 1 vb R.length (R.map cB)
  n : ∀ z, vb.ownBlock = some z → z = G ∨ N ≤ z
  s : N ≤ W.heap.size
section
variable {w W W' : World} {N G B : Nat} {vc vb vb' : Value} {R : List Nat}
theorem EnW.below (h : EnW w N G B W vc vb R) (hb : Below W.heap.size W W') : EnW w N G B W' vc vb R :=
  ⟨keepb hb h.b, keepc hb h.c, keepf hb h.c h.f, own_b13 hb h.o, h.n, Nat.le_trans h.s hb.size⟩
theorem own_cells14 {W : World} {base e size n : Nat} {v : Value} {xs : List Value} (h : W.ownsRow base e size v n xs) {z : Nat} (hz : v.ownBlock = some z) : ∃ cs T fr, W.heap[z]? = some (.cells cs T fr) := by
  rcases h.2 with ⟨rfl, -⟩ | ⟨g, cap, cur, rfl, h1, h2, -⟩
  · cases hz
  · simp only [Value.ownBlock, Option.some.injEq] at hz
    subst hz
    exact ⟨_, _, _, h2⟩
theorem EnW.kept (h : EnW w N G B W vc vb R) {row : Option Nat} (hg : W.grownBy W' row) (hN : w.heap.size ≤ N) (hr : ∀ r, row = some r → N ≤ r ∧ ∃ o : Obj, W.heap[r]? = some o ∧ o.isCells = false) : EnW w N G B W' vc vb R := by
  have hr' : ∀ r, row = some r → ∃ o : Obj, W.heap[r]? = some o ∧ o.isCells = false := fun r e => (hr r e).2
  have hB : row ≠ some B := by
    intro e
    obtain ⟨o, h1, h2⟩ := hr' B e
    have := h.c
    rw [World.cell?, h1] at this
    cases o with
    | cells cs T fr => cases h2
    | _ => simp at this
  have eB : W'.heap[B]? = W.heap[B]? := hg.block B (cell_in h.c) (fun e => hB e.symm)
  refine ⟨h.b.grown hg (Nat.le_trans hN h.s) (fun k e => by have := (hr k e).1; omega), (World.cell?_of_block (a := ⟨B, 0, none⟩) eB).trans h.c, (World.frozen?_of_block (a := ⟨B, 0, none⟩) eB).trans h.f, h.o.kept hg ?_, h.n, Nat.le_trans h.s hg.size⟩
  cases hv : vb.ownBlock with
  | none => exact .inl rfl
  | some z =>
    refine .inr fun e => ?_
    obtain ⟨o, h1, h2⟩ := hr' z e.symm
    obtain ⟨cs, T, fr, h3⟩ := own_cells14 h.o hv
    rw [h3] at h1
    cases h1
    cases h2
theorem EnW.app (h : EnW w N G B W vb vb R) (hBG : B ≠ G) (hBN : B < N) (hwB : w.heap.size ≤ N) {v' : Value} {X : List Nat} (ho : W'.ownsRow w.heap.size 5 1 v' (R ++ X).length ((R ++ X).map cB)) (hg : W.grownBy W' vb.ownBlock) (hat : ∀ z, v'.ownBlock = some z → vb.ownBlock = some z ∨ z = W.heap.size) : EnW w N G B W' vb v' (R ++ X) := by
  have hne : vb.ownBlock ≠ some B := by
    intro e
    rcases h.n B e with h1 | h1
    · exact hBG h1
    · omega
  have eB : W'.heap[B]? = W.heap[B]? := hg.block B (cell_in h.c) (fun e => hne e.symm)
  refine ⟨h.b.grown hg (Nat.le_trans hwB h.s) (fun k e => (h.o.lt k e).1), (World.cell?_of_block (a := ⟨B, 0, none⟩) eB).trans h.c, (World.frozen?_of_block (a := ⟨B, 0, none⟩) eB).trans h.f, ho, ?_, Nat.le_trans h.s hg.size⟩
  intro z hz
  rcases hat z hz with h1 | h1
  · exact h.n z h1
  · exact .inr (by rw [h1]; exact h.s)
theorem EnW.set (h : EnW w N G B W vc vb R) (hBG : B ≠ G) (hBN : B < N) (hwB : w.heap.size ≤ B) : EnW w N G B (W.setCell ⟨B, 0, none⟩ vb) vb vb R := by
  have hne : vb.ownBlock ≠ some B := by
    intro e
    rcases h.n B e with h1 | h1
    · exact hBG h1
    · omega
  have hc := h.c
  have hf := h.f
  refine ⟨h.b.setCell (p := ⟨B, 0, none⟩) hwB _, by simp [go_sem, hc], by simp [go_sem, hf], ?_, h.n, by simp [World.setCell]; exact h.s⟩
  refine ⟨h.o.1, ?_⟩
  rcases h.o.2 with h1 | ⟨g, cap, cur, e, h1, h2, h3⟩
  · exact .inl h1
  · refine .inr ⟨g, cap, cur, e, h1, ?_, h3⟩
    have hgB : ¬ g = B := by
      rintro rfl
      exact hne (by rw [e]; rfl)
    exact (Below.heap_setCell W ⟨B, 0, none⟩ vb g hgB).trans h2
theorem kf_below {n : Nat} (h : Below W.heap.size W W') : KeepsFrom n W W' := ⟨h.size, fun k o _ hk _ => by rw [h.block k (Array.getElem?_eq_some_iff.mp hk).1]; exact hk⟩
end
theorem rangeXA {P : Program} {α : Type} {g : Operand} {ps : Array Tmp} {assign body : Code} {Q : Exit → Act → World → Prop} {a : Act} {w : World} (n : Nat) (h1 : 1 ≤ n) {gf : Nat} {lb : Array Value} (hg : a.eval g = .func (.func gf) #[] lb) (eg : ∀ args w, (callFunc gf args).run P w = .ok (.enter gf args) w)
    {encs : α → Array Value} {Kp : World → World → Prop} {S Sp : List α → Prop} {Bd : Nat} {w0 : World} (hseq : SeqX (n - 1) P gf lb encs Kp S Sp Bd w0) (hBd : Bd ≤ w.heap.size + 2)
    (hKr : ∀ A : World, Kp A A) (hKt : ∀ {A B C : World}, Kp A B → Kp B C → Kp A C) (hKb : ∀ (W : World) (o o' : Obj), W.heap[w.heap.size + 1]? = some o → o.isCells = false → Kp W (W.putObj (w.heap.size + 1) o')) (hb0 : Below w0.heap.size w0 w) (hps : ∀ x, (encs x).size = ps.size)
    (I : List α → World → Prop) (Ix : Code → List α → World → Prop) (hI : OwnFrom w.heap.size I) (hIx : ∀ c, OwnFrom w.heap.size (Ix c)) (h0 : I [] w) (AX : α → Act)
    (hassign : ∀ (l : Nat) (x : α) (W : World) (K : Act → World → Prop), K (AX x) W →
      assign.wpIn (Fence.wide.inRound l) (n - 1 - 1) P (Exit.then K (fun _ _ _ => False)) { tmps := (ps.zip (encs x)).foldl (fun t (p, v) => t.setIfInBounds p v) a.tmps, defers := [] } W)
    (hbody : ∀ (l : Nat) (pre : List α) (x : α) (W : World), w.heap.size ≤ l → (∃ r, W.heap[l]? = some (.loop r)) → I pre W → Sp (pre ++ [x]) → body.wpIn (Fence.wide.inRound l) (n - 1 - 1) P (postX w.heap.size Kp I Ix (pre ++ [x]) W) (AX x) W)
    (hdone : ∀ (D : Nat) (xs : List α) (W : World), w.heap.size ≤ D → S xs → I xs W → W.heap[D]? = some (.deferred (some [])) → Q .normal { a with defers := { target := .collected D, args := #[] } :: a.defers } W)
    (hstop : ∀ (D : Nat) (c : Code) (pre : List α) (W : World), w.heap.size ≤ D → Sp pre → Ix c pre W → W.heap[D]? = some (.deferred (some [])) → c.wpIn Fence.wide n P Q { a with defers := { target := .collected D, args := #[] } :: a.defers } W) :
    (Code.rangeFunc g ps assign body).wpIn Fence.wide n P Q a w :=
  rangeX n h1 hg eg hseq hBd hKt hKb hb0 hps I Ix hI hIx h0 (fun y a' _ => a' = AX y) (fun y a' s A B row hs hg hr => hs)
    (fun l pre x W K hi hK => hassign l x W K (hK (AX x) W (KeepsFrom.refl _ _) (hKr W) hi rfl))
    (fun l pre x a' W h1 h2 h3 h4 h5 => by rw [h4]; exact hbody l pre x W h1 h2 h3 h5) hdone hstop
theorem KZ.refl (Z : Nat → Prop) (W : World) : KZ Z W W := ⟨Nat.le_refl _, fun _ _ h _ => h⟩
end Go.Proofs.Ytdpfdlkaickkiaa
namespace Go.Proofs.Ytdpfdlkaickkiaa
open Go.RowKit Go.Shelf
set_option linter.unusedSimpArgs false
set_option linter.unusedVariables false
attribute [local go_sem] Oper.semAt_some

def kidL (l : List Rn) : List Int := (l.filter (·.k)).map (·.n)
theorem kid_take (l : List Rn) (j : Nat) (r : Rn) (h : l[j]? = some r) : kidL (l.take (j + 1)) = if r.k then kidL (l.take j) ++ [r.n] else kidL (l.take j) := by
  unfold kidL
  rw [List.take_add_one, h, List.filter_append, List.map_append]
  cases hk : r.k <;> simp [hk]
theorem kid_pre (l : List Rn) (j : Nat) : kidL (l.take j) <+: kidL l := by
  unfold kidL
  obtain ⟨t, ht⟩ := List.take_prefix j l
  refine ⟨kidL t, ?_⟩
  conv => rhs; rw [← ht]
  rw [List.filter_append, List.map_append]; rfl
structure KdM (Z : Nat → Prop) (A : Nat) (b : Int) (ao : Option Addr) (c : Nat) (l : List Rn) (W : World) : Prop where
  a : AtD W A b (.slice ao l.length c)
  za : Z A
  r : RwN W (.slice ao l.length c) l
  zr : l ≠ [] → ∀ ad, ao = some ad → Z ad.block
theorem rn_kz {Z : Nat → Prop} {W W' : World} {b o : Nat} {r : Rn} (h : RnAt W b o r) (g : KZ Z W W') (hz : Z b) : RnAt W' b o r := ⟨kz_cell g hz h.1, kz_cell g hz h.2.1, kz_cell g hz h.2.2.1, kz_cell g hz h.2.2.2⟩
theorem KdM.kz {Z : Nat → Prop} {A : Nat} {b : Int} {ao : Option Addr} {c : Nat} {l : List Rn} {W W' : World} (h : KdM Z A b ao c l W) (g : KZ Z W W') : KdM Z A b ao c l W' := by
  refine ⟨⟨kz_cell g h.za h.a.1, kz_cell g h.za h.a.2⟩, h.za, ?_, h.zr⟩
  obtain ⟨ao', c', e, hc, hr⟩ := h.r
  injection e with e1 e2 e3
  subst e1 e3
  refine ⟨ao, c, rfl, hc, ?_⟩
  rcases hr with hr | ⟨b, off, e, hr⟩
  · exact .inl hr
  · exact .inr ⟨b, off, e, fun j x hj => rn_kz (hr j x hj) g (h.zr (by rintro rfl; cases hj) _ e)⟩
def encI (x : Int) : Array Value := #[.int .i64 x]
theorem kids_any (b : Int) (v : Value) (w : World) :
    Calls Try.prog 66 #[.agg #[.int .i64 b, v]] w fun e w' => e = .returned (.func (.func 83) #[] #[.pointer (some ⟨w.heap.size, 0, none⟩)]) ∧ w' = w.alloc (.cells #[.int .i64 b, v] 57) := by
  have hmf : ∀ (fn : Fn) (first cap : Array Value) (w : World), (Instr.makeFunc fn first cap).run Try.prog w = .ok (.func fn first cap) w := fun _ _ _ _ => rfl
  go_enter Try.func66, Try.ntmps66
  go_wp2
  go_ret
  exact ⟨rfl, rfl⟩
set_option maxRecDepth 20000 in
set_option maxHeartbeats 16000000 in
theorem kids1_any (n : Nat) (Z : Nat → Prop) (A : Nat) (b : Int) (ao : Option Addr) (c : Nat) (l : List Rn) (hl : l.length ≤ 1000000000) (Bd : Nat) (w : World) (hM : KdM Z A b ao c l w) :
    SeqX n Try.prog 83 #[.pointer (some ⟨A, 0, none⟩)] encI (KZ Z) (fun ys => ys = kidL l) (fun pre => pre <+: kidL l) Bd w := by
  intro L J Jx W hW hB hJ hJx hY h0
  have HM := hid13 (hM.kz (kz_below hW))
  have HJ := hid13 hJ
  have HY := hid13 hY
  have H0 := hid13 h0
  have a2 := Try.as2
  have a4 := Try.as4
  have hmi : (l.length : Int) ≤ 1000000000 := by omega
  have HL : Hid (l.length ≤ 1000000000) := hl
  obtain ⟨a0, a1⟩ := HM.out.a
  clear hJ hJx hY h0 hM
  refine callsIn_of_wp Try.func83 rfl trivial ?_ rfl
  simp only [Try.ntmps83, List.size_toArray, List.length_cons, List.length_nil, Nat.reduceAdd, Nat.reduceSub, Array.replicate_succ, Array.replicate_zero, List.push_toArray, List.append_toArray, List.nil_append, List.cons_append]
  gi_wp2
  gi_loopw [10] (fun x10 wr => ∃ (j : Nat), j ≤ l.length ∧ x10 = .int .i64 (j : Int) ∧ Hid (J (kidL (l.take j)) wr) ∧ Hid (KdM Z A b ao c l wr)) (fun x10 wr => l.length - (intOf13 x10).toNat)
  case atStart => exact ⟨0, Nat.zero_le _, rfl, H0, HM⟩
  case round =>
    clear H0 HM a0 a1
    obtain ⟨j, hj, rfl, HJw, HMw⟩ := hrel
    by_cases hlt : j < l.length
    · have hli : (j : Int) < (l.length : Int) := by omega
      obtain ⟨r, hr⟩ : ∃ r, l[j]? = some r := ⟨l[j], by simp [hlt]⟩
      obtain ⟨bb, off, hao, hcell⟩ : ∃ b off, ao = some ⟨b, off, none⟩ ∧ ∀ j r, l[j]? = some r → RnAt wr b (off + j * 4) r := by
        obtain ⟨ao', c', e, hc, hr⟩ := HMw.out.r
        injection e with e1 e2 e3
        subst e1
        rcases hr with h | h
        · rw [h] at hlt; simp at hlt
        · exact h
      subst hao
      obtain ⟨r0, r1, r2, r3⟩ := hcell j r hr
      have KC := fun w => content_any r w
      have HT := hid13 (kid_take l j r hr)
      have HP := hid13 (kid_pre l (j + 1))
      have HK : Hid (j < l.length ∧ l.length ≤ 1000000000) := ⟨hlt, hl⟩
      have mj : IntKind.i64.wrap ((j : Int) + 1) = (j : Int) + 1 := by rw [IntKind.wrap_i64]; omega
      obtain ⟨f, k, m⟩ := r
      unfold rnV cntV at KC
      dsimp only at KC r0 r1 r2 r3 HT
      clear hr hcell
      gi_wp2_with fail
      refine ⟨trivial, fun q => (by cases q), (callsIn_wide.2 (KC _)).mono ?_⟩
      rintro e w2 ⟨rfl, hb2⟩
      have hb3 := keepb hb2 (bl1 wr (.cells #[.int .u64 (hI f), .int .u64 (lI f), .bool k, .int .i64 m] 54))
      have HJ2 := hid13 (HJ.out _ wr w2 none HJw.out (below_grownX14 hb3) (fun r e => by cases e))
      have HM2 := hid13 (HMw.out.kz (kz_below hb3))
      clear KC hb2 hb3 r0 r1 r2 r3 HJw HMw
      cases k with
      | true =>
        replace HT : Hid (kidL (l.take (j + 1)) = kidL (l.take j) ++ [m]) := HT
        have hp := HP.out
        rw [HT.out] at hp
        obtain ⟨fn, tmps, assign, body, hy, hR⟩ := HY.out _ m w2 HJ2.out hp
        dsimp only [encI] at hy
        have HPP := hid13 hp
        clear hp
        gi_wp2
        refine ⟨fun q => (by cases q), hR.mono ?_⟩
        rintro e W4 (⟨rfl, hJ4, hk4⟩ | ⟨rfl, hx4, -⟩)
        · rw [← HT.out] at hJ4
          have HM4 := hid13 (HM2.out.kz hk4)
          have HJ4 := hid13 hJ4
          clear hJ4 hk4 hy hR HM2 HJ2
          gi_wp2
          go_roundw
          case rel => exact ⟨j + 1, by have := HK.out; omega, rfl, HJ4, HM4⟩
          case measure =>
            have := HK.out
            first | (simp [intOf13]; omega) | (unfold intOf13; simp; omega)
        · have HX4 := hid13 hx4
          clear hx4 hy hR HM2 HJ2
          gi_wp2
          exact bodyPost_ret (v := .tuple #[]) (by simp [results, Try.results83]) rfl ⟨⟨_, rfl⟩, .inr ⟨_, HPP.out, HX4.out⟩⟩
      | false =>
        replace HT : Hid (kidL (l.take (j + 1)) = kidL (l.take j)) := HT
        have HJ4 : Hid (J (kidL (l.take (j + 1))) w2) := by show J _ _; rw [HT.out]; exact HJ2.out
        clear HJ2
        gi_wp2
        refine ⟨fun f q => (by cases q), ?_⟩
        gi_wp2
        go_roundw
        case rel => exact ⟨j + 1, by have := HK.out; omega, rfl, HJ4, HM2⟩
        case measure =>
          have := HK.out
          first | (simp [intOf13]; omega) | (unfold intOf13; simp; omega)
    · have hli : ¬ (j : Int) < (l.length : Int) := by omega
      have HE : Hid (J (kidL l) wr) := by have := HJw.out; rw [List.take_of_length_le (by omega)] at this; exact this
      clear HJw HMw
      gi_wp2
      go_end0
      first | exact ⟨⟨_, rfl⟩, .inl ⟨_, rfl, HE.out⟩⟩ | exact ⟨⟨_, rfl⟩, .inl HE.out⟩
end Go.Proofs.Ytdpfdlkaickkiaa
