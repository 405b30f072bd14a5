/-
  Part 27 of the proof: 9 texts, one behind the other.
-/
import Derived.Test.YtofpbommhklooaaPart8
import Derived.Test.YtofpbommhklooaaPart9
import Derived.Test.YtofpbommhklooaaPart12
import Derived.Test.YtofpbommhklooaaPart2
import Derived.Test.YtofpbommhklooaaPart22
import Derived.Test.YtofpbommhklooaaPart25
import Derived.Test.YtofpbommhklooaaPart21
import Derived.Test.YtofpbommhklooaaPart10
import Derived.Test.YtofpbommhklooaaPart13
import Derived.Test.YtofpbommhklooaaPart20
/-
  A range over a function within a round of another one, whose sequence ranges within: the law.
-/
namespace Go.Proofs.Ytofpbommhklooaa
open Go.RowKit Go.Shelf
set_option linter.unusedSimpArgs false
set_option linter.unusedVariables false

section
variable {P : Program}
/-- The record of a loop within a round. -/
def Bn (B : Nat) (r : Loop) (W : World) : Prop := W.heap[B]? = some (.loop r)
theorem Bn.lt {B : Nat} {r : Loop} {W : World} (k : Bn B r W) : B < W.heap.size := (Array.getElem?_eq_some_iff.1 k).1
theorem Bn.from {B : Nat} {r : Loop} {W W' : World} (k : Bn B r W) (h : KeepsFrom B W W') : Bn B r W' := h.same _ _ (Nat.le_refl _) k rfl
theorem Bn.turn {B : Nat} {r : Loop} {W : World} (k : Bn B r W) (r' : Loop) : Bn B r' (W.putObj B (.loop r')) := World.putObj_heap_same k.lt
theorem Bn.grown {B : Nat} {r : Loop} {W W' : World} {row : Option Nat} (k : Bn B r W) (h : W.grownBy W' row) (hr : ∀ z, row = some z → B + 1 ≤ z) : Bn B r W' := (h.block _ k.lt (fun e => by have := hr _ e.symm; omega)).trans k
theorem bn_end {B : Nat} {r : Loop} {W : World} (k : Bn B r W) (jump : Option Code) : (Instr.endRound B jump).run P W = .ok (.bool jump.isNone) (W.putObj B (.loop { r with state := if jump.isNone then .ready else .done, pending := jump })) := run_endRound jump k
/-- The law, for a range within a round. -/
theorem rangeXN {α : Type} {g : Operand} {ps : Array Tmp} {assign body : Code} {Q : Exit → Act → World → Prop} {a : Act} {w : World} (n : Nat) (h1 : 1 ≤ n) {lo : Nat} {r0 : Loop} (hlo : w.heap[lo]? = some (.loop r0)) {gf : Nat} {lb : Array Value} (hg : a.eval g = .func (.func gf) #[] lb) (eg : ∀ args w, (callFunc gf args).run P w = .ok (.enter gf args) w)
    {encs : α → Array Value} {Kp : World → World → Prop} {S Sp : List α → Prop} {Bd : Nat} {w0 : World} (hseq : SeqX (n - 1) P gf lb encs Kp S Sp Bd w0) (hBd : Bd ≤ w.heap.size + 1)
    (hKt : ∀ {A B C : World}, Kp A B → Kp B C → Kp A C) (hKb : ∀ (W : World) (o o' : Obj), W.heap[w.heap.size]? = some o → o.isCells = false → Kp W (W.putObj w.heap.size o')) (hb0 : Below w0.heap.size w0 w) (hps : ∀ x, (encs x).size = ps.size)
    (I : List α → World → Prop) (Ix : Code → List α → World → Prop) (hI : OwnFrom w.heap.size I) (hIx : ∀ c, OwnFrom w.heap.size (Ix c)) (h0 : I [] w) (Ax : α → Act → World → Prop) (hAx : ∀ x a', OwnFrom w.heap.size (fun (_ : Unit) W => Ax x a' W))
    (hassign : ∀ (l : Nat) (pre : List α) (x : α) (W : World) (K : Act → World → Prop), I pre W → (∀ a' W', KeepsFrom w.heap.size W W' → Kp W W' → I pre W' → Ax x a' W' → K a' W') →
      assign.wpIn (Fence.wide.inRound l) (n - 1 - 1) P (Exit.then K (fun _ _ _ => False)) { tmps := (ps.zip (encs x)).foldl (fun t (p, v) => t.setIfInBounds p v) a.tmps, defers := [] } W)
    (hbody : ∀ (l : Nat) (pre : List α) (x : α) (a' : Act) (W : World), w.heap.size ≤ l → (∃ r, W.heap[l]? = some (.loop r)) → I pre W → Ax x a' W → Sp (pre ++ [x]) → body.wpIn (Fence.wide.inRound l) (n - 1 - 1) P (postX w.heap.size Kp I Ix (pre ++ [x]) W) a' W)
    (hdone : ∀ (xs : List α) (W : World), S xs → I xs W → Q .normal a W)
    (hstop : ∀ (c : Code) (pre : List α) (W : World), Sp pre → Ix c pre W → c.wpIn (Fence.wide.inRound lo) n P Q a W) :
    (Code.rangeFunc g ps assign body).wpIn (Fence.wide.inRound lo) n P Q a w := by
  refine wpIn_rangeFunc (fun fn hfn => ?_)
  rw [show (Fence.wide.inRound lo).round = some lo from rfl]
  -- the record, by its state and its pending jump
  obtain ⟨rc, hrc⟩ : ∃ rc : LoopState → Option Code → Loop, ∀ s p, rc s p = { state := s, pending := p, fn, tmps := a.tmps, params := ps, assign, body, defers := r0.defers } := ⟨_, fun _ _ => rfl⟩
  have bw := bl1 w (.loop (rc .ready none))
  have k1 : Bn w.heap.size (rc .ready none) (w.alloc (.loop (rc .ready none))) := World.alloc_heap_new w _
  have i1 : I [] (w.alloc (.loop (rc .ready none))) := hI.alloc _ h0
  have b1 : Below w0.heap.size w0 (w.alloc (.loop (rc .ready none))) := keepb bw hb0
  have hent : (Instr.enterLoop fn a.tmps ps assign body (some lo)).run P w = .ok (w.heap.size, []) (w.alloc (.loop (rc .ready none))) := by
    rw [hrc]
    exact run_enterLoop_inner hlo _ _ _ _ _
  have hs1 : (w.alloc (.loop (rc .ready none))).heap.size = w.heap.size + 1 := by simp
  revert k1 i1 b1 hent hs1
  generalize w.alloc (.loop (rc .ready none)) = V1
  intro k1 i1 b1 hent hs1
  clear bw
  refine ⟨w.heap.size, [], V1, { target := .fn (.func gf) lb, args := #[.func (.yield w.heap.size) #[] #[]] }, V1, gf, #[.func (.yield w.heap.size) #[] #[]] ++ lb, V1, hent, by simp only [resolve, hg]; simp [go_sem], fun _ _ => trivial, by simp [invoke, go_sem, eg], fun _ => h1, ?_⟩
  have far : ∀ {A : World} {row : Option Nat}, (∀ r, row = some r → V1.heap.size ≤ r ∧ ∃ o : Obj, A.heap[r]? = some o ∧ o.isCells = false) → (∀ r, row = some r → w.heap.size ≤ r ∧ ∃ o : Obj, A.heap[r]? = some o ∧ o.isCells = false) := fun hr r e => ⟨by have := (hr r e).1; omega, (hr r e).2⟩
  have far2 : ∀ {A : World} {row : Option Nat}, (∀ r, row = some r → V1.heap.size ≤ r ∧ ∃ o : Obj, A.heap[r]? = some o ∧ o.isCells = false) → ∀ z, row = some z → w.heap.size + 1 ≤ z := fun hr z e => by have := (hr z e).1; omega
  refine (hseq w.heap.size (fun pre W => I pre W ∧ Bn w.heap.size (rc .ready none) W) (fun pre W => ∃ c, Ix c pre W ∧ Bn w.heap.size (rc .done (some c)) W) V1 b1 (by omega) (fun s A B row hs hgr hr => ⟨hI s A B row hs.1 hgr (far hr), hs.2.grown hgr (far2 hr)⟩) (fun s A B row hs hgr hr => ?_) ?round ⟨i1, k1⟩).mono ?behind
  · obtain ⟨c, hc, kc⟩ := hs
    exact ⟨c, hIx c s A B row hc hgr (far hr), kc.grown hgr (far2 hr)⟩
  case round =>
    rintro pre x V ⟨hi, hk⟩ hlen
    have hy := run_yield (P := P) (args := encs x) hk (by rw [hrc]; exact hps x)
    rw [hrc] at hy
    refine ⟨fn, _, assign, body, hy, roundIn_of_wpIn hfn (hassign _ pre x V _ hi ?_)⟩
    intro a' Va f1 f2 f3 f4
    have ka := hk.from f1
    have hlt := ka.lt
    refine ⟨_, run_beginRound ka (by rw [hrc]), ?_⟩
    have kb := ka.turn { rc .ready none with state := .busy }
    have g1 := hI.putObj (.loop { rc .ready none with state := .busy }) f3 (Nat.le_refl _) ka rfl
    have g2 := (hAx x a').putObj (s := ()) (.loop { rc .ready none with state := .busy }) f4 (Nat.le_refl _) ka rfl
    have g3 := hKb Va _ (.loop { rc .ready none with state := .busy }) ka rfl
    revert kb g1 g2 g3
    generalize Va.putObj w.heap.size (.loop { rc .ready none with state := .busy }) = Vb
    intro kb g1 g2 g3
    refine wpIn_mono (hbody w.heap.size pre x a' Vb (by omega) ⟨_, kb⟩ g1 g2 hlen) ?_
    have out : ∀ (c : Code) (V3 : World), KeepsFrom w.heap.size Vb V3 → Kp Vb V3 → Ix c (pre ++ [x]) V3 → ∃ (e : Value) (V4 : World), (Instr.endRound w.heap.size (some c)).run P V3 = .ok e V4 ∧ (((.returned e : Ending) = .returned (.bool true) ∧ (I (pre ++ [x]) V4 ∧ Bn w.heap.size (rc .ready none) V4) ∧ Kp V V4) ∨ ((.returned e : Ending) = .returned (.bool false) ∧ (∃ c, Ix c (pre ++ [x]) V4 ∧ Bn w.heap.size (rc .done (some c)) V4) ∧ Kp V V4)) := fun c V3 hk3 hq3 hi3 => by
      have k3 := kb.from hk3
      have k4 := k3.turn (rc .done (some c))
      have := bn_end (P := P) k3 (some c)
      refine ⟨_, _, this, .inr ⟨rfl, ⟨c, ?_, ?_⟩, hKt f2 (hKt g3 (hKt hq3 (hKb _ _ _ k3 rfl)))⟩⟩
      · exact (hIx c).putObj _ hi3 (by omega) k3 rfl
      · have e : ({ ({ rc .ready none with state := .busy } : Loop) with state := if (some c).isNone then .ready else .done, pending := some c } : Loop) = rc .done (some c) := by rw [hrc, hrc]; rfl
        rw [e]
        exact k4
    rintro e a3 V3 hp
    cases e with
    | normal =>
      obtain ⟨hk3, hq3, hi3⟩ := hp
      have k3 := kb.from hk3
      have k4 := k3.turn (rc .ready none)
      have hr := bn_end (P := P) k3 none
      have e : ({ ({ rc .ready none with state := .busy } : Loop) with state := if (none : Option Code).isNone then .ready else .done, pending := none } : Loop) = rc .ready none := by rw [hrc]; rfl
      rw [e] at hr
      exact ⟨_, _, hr, .inl ⟨rfl, ⟨hI.putObj _ hi3 (by omega) k3 rfl, k4⟩, hKt f2 (hKt g3 (hKt hq3 (hKb _ _ _ k3 rfl)))⟩⟩
    | ret => exact out _ _ hp.1 hp.2.1 hp.2.2
    | exit id => exact out _ _ hp.1 hp.2.1 hp.2.2
    | goto t => exact out _ _ hp.1 hp.2.1 hp.2.2
    | panic ch => exact hp.elim
    | outgrown => exact hp.elim
  case behind =>
    rintro e V2 ⟨⟨v, rfl⟩, (⟨xs, hS, hi, hk⟩ | ⟨pre, hSp, c, hi, hk⟩)⟩
    · have hr := run_endLoop (P := P) hk (by rw [hrc]; simp)
      exact ⟨_, _, by rw [hr], by rw [hrc]; exact hdone xs _ hS (hI.putObj _ hi (Nat.le_refl _) hk rfl)⟩
    · have hr := run_endLoop (P := P) hk (by rw [hrc]; simp)
      exact ⟨_, _, by rw [hr], by rw [hrc]; exact hstop c pre _ hSp ((hIx c).putObj _ hi (Nat.le_refl _) hk rfl)⟩
end
end Go.Proofs.Ytofpbommhklooaa
/-
  A range over a method's value within a round of another one: the law.
-/
namespace Go.Proofs.Ytofpbommhklooaa
open Go.RowKit Go.Shelf
set_option linter.unusedSimpArgs false
set_option linter.unusedVariables false

section
variable {P : Program}
theorem rangeYN {α : Type} {g : Operand} {ps : Array Tmp} {assign body : Code} {Q : Exit → Act → World → Prop} {a : Act} {w : World} (n : Nat) (h1 : 1 ≤ n) {lo : Nat} {r0 : Loop} (hlo : w.heap[lo]? = some (.loop r0)) {gf : Nat} {ba lb : Array Value} (hg : a.eval g = .func (.func gf) ba lb) (eg : ∀ args w, (callFunc gf args).run P w = .ok (.enter gf args) w)
    {encs : α → Array Value} {Kp : World → World → Prop} {S Sp : List α → Prop} {Bd : Nat} {w0 : World} (hseq : SeqY (n - 1) P gf ba lb encs Kp S Sp Bd w0) (hBd : Bd ≤ w.heap.size + 1)
    (hKt : ∀ {A B C : World}, Kp A B → Kp B C → Kp A C) (hKb : ∀ (W : World) (o o' : Obj), W.heap[w.heap.size]? = some o → o.isCells = false → Kp W (W.putObj w.heap.size o')) (hb0 : Below w0.heap.size w0 w) (hps : ∀ x, (encs x).size = ps.size)
    (I : List α → World → Prop) (Ix : Code → List α → World → Prop) (hI : OwnFrom w.heap.size I) (hIx : ∀ c, OwnFrom w.heap.size (Ix c)) (h0 : I [] w) (Ax : α → Act → World → Prop) (hAx : ∀ x a', OwnFrom w.heap.size (fun (_ : Unit) W => Ax x a' W))
    (hassign : ∀ (l : Nat) (pre : List α) (x : α) (W : World) (K : Act → World → Prop), I pre W → (∀ a' W', KeepsFrom w.heap.size W W' → Kp W W' → I pre W' → Ax x a' W' → K a' W') →
      assign.wpIn (Fence.wide.inRound l) (n - 1 - 1) P (Exit.then K (fun _ _ _ => False)) { tmps := (ps.zip (encs x)).foldl (fun t (p, v) => t.setIfInBounds p v) a.tmps, defers := [] } W)
    (hbody : ∀ (l : Nat) (pre : List α) (x : α) (a' : Act) (W : World), w.heap.size ≤ l → (∃ r, W.heap[l]? = some (.loop r)) → I pre W → Ax x a' W → Sp (pre ++ [x]) → body.wpIn (Fence.wide.inRound l) (n - 1 - 1) P (postX w.heap.size Kp I Ix (pre ++ [x]) W) a' W)
    (hdone : ∀ (xs : List α) (W : World), S xs → I xs W → Q .normal a W)
    (hstop : ∀ (c : Code) (pre : List α) (W : World), Sp pre → Ix c pre W → c.wpIn (Fence.wide.inRound lo) n P Q a W) :
    (Code.rangeFunc g ps assign body).wpIn (Fence.wide.inRound lo) n P Q a w := by
  refine wpIn_rangeFunc (fun fn hfn => ?_)
  rw [show (Fence.wide.inRound lo).round = some lo from rfl]
  -- the record, by its state and its pending jump
  obtain ⟨rc, hrc⟩ : ∃ rc : LoopState → Option Code → Loop, ∀ s p, rc s p = { state := s, pending := p, fn, tmps := a.tmps, params := ps, assign, body, defers := r0.defers } := ⟨_, fun _ _ => rfl⟩
  have bw := bl1 w (.loop (rc .ready none))
  have k1 : Bn w.heap.size (rc .ready none) (w.alloc (.loop (rc .ready none))) := World.alloc_heap_new w _
  have i1 : I [] (w.alloc (.loop (rc .ready none))) := hI.alloc _ h0
  have b1 : Below w0.heap.size w0 (w.alloc (.loop (rc .ready none))) := keepb bw hb0
  have hent : (Instr.enterLoop fn a.tmps ps assign body (some lo)).run P w = .ok (w.heap.size, []) (w.alloc (.loop (rc .ready none))) := by
    rw [hrc]
    exact run_enterLoop_inner hlo _ _ _ _ _
  have hs1 : (w.alloc (.loop (rc .ready none))).heap.size = w.heap.size + 1 := by simp
  revert k1 i1 b1 hent hs1
  generalize w.alloc (.loop (rc .ready none)) = V1
  intro k1 i1 b1 hent hs1
  clear bw
  refine ⟨w.heap.size, [], V1, { target := .fn (.func gf) lb, args := ba ++ #[.func (.yield w.heap.size) #[] #[]] }, V1, gf, ba ++ #[.func (.yield w.heap.size) #[] #[]] ++ lb, V1, hent, by simp only [resolve, hg]; simp [go_sem], fun _ _ => trivial, by simp [invoke, go_sem, eg], fun _ => h1, ?_⟩
  have far : ∀ {A : World} {row : Option Nat}, (∀ r, row = some r → V1.heap.size ≤ r ∧ ∃ o : Obj, A.heap[r]? = some o ∧ o.isCells = false) → (∀ r, row = some r → w.heap.size ≤ r ∧ ∃ o : Obj, A.heap[r]? = some o ∧ o.isCells = false) := fun hr r e => ⟨by have := (hr r e).1; omega, (hr r e).2⟩
  have far2 : ∀ {A : World} {row : Option Nat}, (∀ r, row = some r → V1.heap.size ≤ r ∧ ∃ o : Obj, A.heap[r]? = some o ∧ o.isCells = false) → ∀ z, row = some z → w.heap.size + 1 ≤ z := fun hr z e => by have := (hr z e).1; omega
  refine (hseq w.heap.size (fun pre W => I pre W ∧ Bn w.heap.size (rc .ready none) W) (fun pre W => ∃ c, Ix c pre W ∧ Bn w.heap.size (rc .done (some c)) W) V1 b1 (by omega) (fun s A B row hs hgr hr => ⟨hI s A B row hs.1 hgr (far hr), hs.2.grown hgr (far2 hr)⟩) (fun s A B row hs hgr hr => ?_) ?round ⟨i1, k1⟩).mono ?behind
  · obtain ⟨c, hc, kc⟩ := hs
    exact ⟨c, hIx c s A B row hc hgr (far hr), kc.grown hgr (far2 hr)⟩
  case round =>
    rintro pre x V ⟨hi, hk⟩ hlen
    have hy := run_yield (P := P) (args := encs x) hk (by rw [hrc]; exact hps x)
    rw [hrc] at hy
    refine ⟨fn, _, assign, body, hy, roundIn_of_wpIn hfn (hassign _ pre x V _ hi ?_)⟩
    intro a' Va f1 f2 f3 f4
    have ka := hk.from f1
    have hlt := ka.lt
    refine ⟨_, run_beginRound ka (by rw [hrc]), ?_⟩
    have kb := ka.turn { rc .ready none with state := .busy }
    have g1 := hI.putObj (.loop { rc .ready none with state := .busy }) f3 (Nat.le_refl _) ka rfl
    have g2 := (hAx x a').putObj (s := ()) (.loop { rc .ready none with state := .busy }) f4 (Nat.le_refl _) ka rfl
    have g3 := hKb Va _ (.loop { rc .ready none with state := .busy }) ka rfl
    revert kb g1 g2 g3
    generalize Va.putObj w.heap.size (.loop { rc .ready none with state := .busy }) = Vb
    intro kb g1 g2 g3
    refine wpIn_mono (hbody w.heap.size pre x a' Vb (by omega) ⟨_, kb⟩ g1 g2 hlen) ?_
    have out : ∀ (c : Code) (V3 : World), KeepsFrom w.heap.size Vb V3 → Kp Vb V3 → Ix c (pre ++ [x]) V3 → ∃ (e : Value) (V4 : World), (Instr.endRound w.heap.size (some c)).run P V3 = .ok e V4 ∧ (((.returned e : Ending) = .returned (.bool true) ∧ (I (pre ++ [x]) V4 ∧ Bn w.heap.size (rc .ready none) V4) ∧ Kp V V4) ∨ ((.returned e : Ending) = .returned (.bool false) ∧ (∃ c, Ix c (pre ++ [x]) V4 ∧ Bn w.heap.size (rc .done (some c)) V4) ∧ Kp V V4)) := fun c V3 hk3 hq3 hi3 => by
      have k3 := kb.from hk3
      have k4 := k3.turn (rc .done (some c))
      have := bn_end (P := P) k3 (some c)
      refine ⟨_, _, this, .inr ⟨rfl, ⟨c, ?_, ?_⟩, hKt f2 (hKt g3 (hKt hq3 (hKb _ _ _ k3 rfl)))⟩⟩
      · exact (hIx c).putObj _ hi3 (by omega) k3 rfl
      · have e : ({ ({ rc .ready none with state := .busy } : Loop) with state := if (some c).isNone then .ready else .done, pending := some c } : Loop) = rc .done (some c) := by rw [hrc, hrc]; rfl
        rw [e]
        exact k4
    rintro e a3 V3 hp
    cases e with
    | normal =>
      obtain ⟨hk3, hq3, hi3⟩ := hp
      have k3 := kb.from hk3
      have k4 := k3.turn (rc .ready none)
      have hr := bn_end (P := P) k3 none
      have e : ({ ({ rc .ready none with state := .busy } : Loop) with state := if (none : Option Code).isNone then .ready else .done, pending := none } : Loop) = rc .ready none := by rw [hrc]; rfl
      rw [e] at hr
      exact ⟨_, _, hr, .inl ⟨rfl, ⟨hI.putObj _ hi3 (by omega) k3 rfl, k4⟩, hKt f2 (hKt g3 (hKt hq3 (hKb _ _ _ k3 rfl)))⟩⟩
    | ret => exact out _ _ hp.1 hp.2.1 hp.2.2
    | exit id => exact out _ _ hp.1 hp.2.1 hp.2.2
    | goto t => exact out _ _ hp.1 hp.2.1 hp.2.2
    | panic ch => exact hp.elim
    | outgrown => exact hp.elim
  case behind =>
    rintro e V2 ⟨⟨v, rfl⟩, (⟨xs, hS, hi, hk⟩ | ⟨pre, hSp, c, hi, hk⟩)⟩
    · have hr := run_endLoop (P := P) hk (by rw [hrc]; simp)
      exact ⟨_, _, by rw [hr], by rw [hrc]; exact hdone xs _ hS (hI.putObj _ hi (Nat.le_refl _) hk rfl)⟩
    · have hr := run_endLoop (P := P) hk (by rw [hrc]; simp)
      exact ⟨_, _, by rw [hr], by rw [hrc]; exact hstop c pre _ hSp ((hIx c).putObj _ hi (Nat.le_refl _) hk rfl)⟩
theorem rangeYNA {α : Type} {g : Operand} {ps : Array Tmp} {assign body : Code} {Q : Exit → Act → World → Prop} {a : Act} {w : World} (n : Nat) (h1 : 1 ≤ n) {lo : Nat} {r0 : Loop} (hlo : w.heap[lo]? = some (.loop r0)) {gf : Nat} {ba lb : Array Value} (hg : a.eval g = .func (.func gf) ba lb) (eg : ∀ args w, (callFunc gf args).run P w = .ok (.enter gf args) w)
    {encs : α → Array Value} {Kp : World → World → Prop} {S Sp : List α → Prop} {Bd : Nat} {w0 : World} (hseq : SeqY (n - 1) P gf ba lb encs Kp S Sp Bd w0) (hBd : Bd ≤ w.heap.size + 1)
    (hKr : ∀ A : World, Kp A A) (hKt : ∀ {A B C : World}, Kp A B → Kp B C → Kp A C) (hKb : ∀ (W : World) (o o' : Obj), W.heap[w.heap.size]? = some o → o.isCells = false → Kp W (W.putObj w.heap.size o')) (hb0 : Below w0.heap.size w0 w) (hps : ∀ x, (encs x).size = ps.size)
    (I : List α → World → Prop) (Ix : Code → List α → World → Prop) (hI : OwnFrom w.heap.size I) (hIx : ∀ c, OwnFrom w.heap.size (Ix c)) (h0 : I [] w) (AX : α → Act)
    (hassign : ∀ (l : Nat) (x : α) (W : World) (K : Act → World → Prop), K (AX x) W →
      assign.wpIn (Fence.wide.inRound l) (n - 1 - 1) P (Exit.then K (fun _ _ _ => False)) { tmps := (ps.zip (encs x)).foldl (fun t (p, v) => t.setIfInBounds p v) a.tmps, defers := [] } W)
    (hbody : ∀ (l : Nat) (pre : List α) (x : α) (W : World), w.heap.size ≤ l → (∃ r, W.heap[l]? = some (.loop r)) → I pre W → Sp (pre ++ [x]) → body.wpIn (Fence.wide.inRound l) (n - 1 - 1) P (postX w.heap.size Kp I Ix (pre ++ [x]) W) (AX x) W)
    (hdone : ∀ (xs : List α) (W : World), S xs → I xs W → Q .normal a W)
    (hstop : ∀ (c : Code) (pre : List α) (W : World), Sp pre → Ix c pre W → c.wpIn (Fence.wide.inRound lo) n P Q a W) :
    (Code.rangeFunc g ps assign body).wpIn (Fence.wide.inRound lo) n P Q a w :=
  rangeYN n h1 hlo hg eg hseq hBd hKt hKb hb0 hps I Ix hI hIx h0 (fun y a' _ => a' = AX y) (fun y a' s A B row hs hg hr => hs)
    (fun l pre x W K hi hK => hassign l x W K (hK (AX x) W (KeepsFrom.refl _ _) (hKr W) hi rfl))
    (fun l pre x a' W h1 h2 h3 h4 h5 => by rw [h4]; exact hbody l pre x W h1 h2 h3 h5) hdone hstop
end
end Go.Proofs.Ytofpbommhklooaa
/-
  Marks of ranges when a function leaves; a world that stays but for one block.
-/
namespace Go.Proofs.Ytofpbommhklooaa
open Go.RowKit Go.Shelf
set_option linter.unusedSimpArgs false
set_option linter.unusedVariables false

/-- A function leaves past the marks of its ranges. -/
theorem leaves_marks {n B : Nat} {P : Program} {fn : Func} {tmps : Array Value} {R : Ending → World → Prop} : ∀ (l : List Nat) (W : World), l.Nodup → (∀ D ∈ l, B ≤ D ∧ W.heap[D]? = some (.deferred (some []))) → (∀ W', Below B W W' → LeavesInM Fence.wide n P fn tmps R [] .returning W') → LeavesInM Fence.wide n P fn tmps R (l.map fun D => { target := .collected D, args := #[] }) .returning W
  | [], W, _, _, h => h W (Below.refl _ _)
  | D :: l, W, hn, hd, h => by
    obtain ⟨h1, h2⟩ := List.nodup_cons.mp hn
    obtain ⟨hB, hD⟩ := hd D (List.mem_cons_self ..)
    have hput : Below B W (W.putObj D (.deferred none)) := ⟨rfl, rfl, rfl, by simp, fun k hk => World.putObj_heap_other (by omega)⟩
    refine ⟨by simp, .inl ⟨D, W.putObj D (.deferred none), rfl, run_takeDeferred hD, leaves_marks l _ h2 (fun E hE => ?_) (fun W' hb => h W' (hput.trans hb))⟩⟩
    obtain ⟨a, b⟩ := hd E (List.mem_cons_of_mem _ hE)
    refine ⟨a, (World.putObj_heap_other ?_).trans b⟩
    rintro rfl
    exact h1 hE
/-- All blocks of a world but one stay. -/
def KV (a : Nat) (V U : World) : Prop := V.heap.size ≤ U.heap.size ∧ ∀ z, z < V.heap.size → z ≠ a → U.heap[z]? = V.heap[z]?
theorem KV.refl (a : Nat) (V : World) : KV a V V := ⟨Nat.le_refl _, fun _ _ _ => rfl⟩
theorem KV.below {a : Nat} {V U U' : World} (h : KV a V U) (hb : Below U.heap.size U U') : KV a V U' := ⟨Nat.le_trans h.1 hb.size, fun z h1 h2 => (hb.block z (Nat.lt_of_lt_of_le h1 h.1)).trans (h.2 z h1 h2)⟩
theorem KV.set {a : Nat} {V U : World} (h : KV a V U) (b o : Nat) (u : Value) (hb : b = a ∨ V.heap.size ≤ b) : KV a V (U.setCell ⟨b, o, none⟩ u) := ⟨by simpa using h.1, fun z h1 h2 => (hSet6 u (by omega)).trans (h.2 z h1 h2)⟩
theorem KV.own {β : Type} {a B : Nat} {V : World} (hV : V.heap.size ≤ B) : OwnFrom B (fun (_ : β) U => KV a V U) := fun s A A' row hs hg hr => ⟨Nat.le_trans hs.1 hg.size, fun z h1 h2 => (hg.block z (Nat.lt_of_lt_of_le h1 hs.1) (fun e => by have := (hr z e.symm).1; omega)).trans (hs.2 z h1 h2)⟩
theorem KV.kw {a B : Nat} {Z : Nat → Prop} {V U : World} (h : KV a V U) (hZ : ¬ Z a) (hB : a < B) : KW Z B V U := ⟨h.1, fun z o h1 h2 => by
  have hz := (Array.getElem?_eq_some_iff.1 h1).1
  rw [h.2 z hz (by rintro rfl; rcases h2 with q | q; exact hZ q; omega)]
  exact h1⟩
theorem KV.keeps {a C : Nat} {V U : World} (h : KV a V U) (hC : a < C) : KeepsFrom C V U := ⟨h.1, fun z o h1 h2 _ => by rw [h.2 z (Array.getElem?_eq_some_iff.1 h2).1 (by omega)]; exact h2⟩
end Go.Proofs.Ytofpbommhklooaa
/-
  A row that was handed in, and append of it.
-/
namespace Go.Proofs.Ytofpbommhklooaa
open Go.RowKit
set_option linter.unusedSimpArgs false
set_option linter.unusedVariables false

theorem spot9 {W : World} {a : Addr} {u : Value} (h : W.cell? a = some u) : a = ⟨a.block, a.off, none⟩ := by
  obtain ⟨b, o, s⟩ := a
  cases s with
  | none => rfl
  | some z =>
    unfold World.cell? at h
    split at h
    · simp at h
    · cases h
/-- A row that was handed in: n elements of so many cells. -/
def RowA (w : World) (size : Nat) (v : Value) (n : Nat) (xs : List Value) : Prop :=
  xs.length = n * size ∧ ∃ ao c, v = .slice ao n c ∧ n ≤ c ∧ ((ao = none ∧ c = 0 ∧ n = 0) ∨ ∃ a : Addr, ao = some a ∧ ∀ j u, xs[j]? = some u → w.cell? (a.add j) = some u)
theorem RowA.below {w w' : World} {size n : Nat} {v : Value} {xs : List Value} (h : RowA w size v n xs) (hb : Below w.heap.size w w') : RowA w' size v n xs := by
  obtain ⟨hl, ao, c, e, hc, h⟩ := h
  refine ⟨hl, ao, c, e, hc, ?_⟩
  rcases h with h | ⟨a, e, h⟩
  · exact .inl h
  · refine .inr ⟨a, e, fun j u hj => ?_⟩
    have f := h j u hj
    have sp := spot9 f
    rw [sp]
    rw [sp] at f
    exact keepc hb f
theorem wpList_append_rowA {P : Program} {w : World} {ops : Array Oper} {rest : List Oper} {o : Oper} {a : Act} {Q : Exit → Act → World → Prop} (hgd : o.guard = none) (s x : Operand) (t : TypeId)
    (ho : o.op = .call { callee := .builtin .append, args := #[s, x], argTypes := #[t, t] })
    (base : Nat) (e : TypeId) (i : TypeInfo) (z : Value) (size bytes : Nat) (ht : P.underlying t = some (.slice e)) (hi : P.info? e = some i) (hz : i.zero = some z)
    (hsize : i.size = size) (hby : i.bytes = bytes) (hzs : z.cells.size = size) (hsz : 0 < size)
    (v : Value) (n : Nat) (xs : List Value) (hs : a.eval s = v) (hown : w.ownsRow base e size v n xs)
    (vx : Value) (m : Nat) (news : List Value) (hx : a.eval x = vx) (hsrc : RowA w size vx m news) (h1 : ∀ y ∈ news, y.oneCell' = true)
    (h63 : n + m ≤ maxLen) (hbytes : (n + m) * bytes ≤ 140737488355328) (hbase : base ≤ w.heap.size)
    (h : ∀ ao cap w', w'.ownsRow base e size (.slice ao (n + m) cap) (n + m) (xs ++ news) → w.grownBy w' v.ownBlock → wpList P ops Q rest (a.put o.dst (.slice ao (n + m) cap)) w') : wpList P ops Q (o :: rest) a w := by
  obtain ⟨hl, xo, c, rfl, hcc, hsrc⟩ := hsrc
  rcases hsrc with ⟨rfl, rfl, rfl⟩ | ⟨ad, rfl, hc⟩
  · have : news = [] := List.eq_nil_of_length_eq_zero (by omega)
    subst this
    refine wpList_append_own_none hgd s x t ho base e i size ht hi v n xs hs hown hx ?_
    obtain ⟨ao, cp, hv⟩ := own_form hown
    have := h ao cp w (by rw [List.append_nil, Nat.add_zero, ← hv]; exact hown) ⟨rfl, rfl, rfl, Nat.le_refl _, fun _ _ _ => rfl⟩
    rw [Nat.add_zero, ← hv] at this
    exact this
  · refine wpList_append_own w hgd s x t ho base e i z size bytes ht hi hz hsize hby hzs hsz v n xs hs hown ad m c news hx hl hc h1 h63 hbytes hbase ?_
    intro v' w' h2 h3 _
    obtain ⟨ao, cp, hv⟩ := own_form h2
    rw [hv]
    rw [hv] at h2
    exact h ao cp w' h2 h3
theorem stopHere9 {P : Program} {w : World} {ops : Array Oper} {rest : List Oper} {a : Act} {Q : Exit → Act → World → Prop} {o : Oper} (h : Hid (wpList P ops Q (o :: rest) a w)) : wpList P ops Q (o :: rest) a w := h.out
end Go.Proofs.Ytofpbommhklooaa
/-
  Two rows that are written over and grown, and all else that stays.
-/
namespace Go.Proofs.Ytofpbommhklooaa
open Go.RowKit
set_option linter.unusedSimpArgs false
set_option linter.unusedVariables false

/-- All blocks but some are as they were. -/
structure Bt (M : Nat → Prop) (V W : World) : Prop where
  os : W.os = V.os
  tape : W.tape = V.tape
  output : W.output = V.output
  size : V.heap.size ≤ W.heap.size
  blk : ∀ z, z < V.heap.size → ¬ M z → W.heap[z]? = V.heap[z]?
theorem Bt.refl (M : Nat → Prop) (V : World) : Bt M V V := ⟨rfl, rfl, rfl, Nat.le_refl _, fun _ _ _ => rfl⟩
theorem Bt.below {M : Nat → Prop} {V W W' : World} (h : Bt M V W) {B : Nat} (hb : Below B W W') (hB : V.heap.size ≤ B) : Bt M V W' :=
  ⟨by rw [hb.os, h.os], by rw [hb.tape, h.tape], by rw [hb.output, h.output], Nat.le_trans h.size hb.size, fun z h1 h2 => by rw [hb.block z (by omega), h.blk z h1 h2]⟩
theorem Bt.set {M : Nat → Prop} {V W : World} (h : Bt M V W) {g : Nat} (hg : M g ∨ V.heap.size ≤ g) (o : Nat) (u : Value) : Bt M V (W.setCell ⟨g, o, none⟩ u) := by
  have b : Below 0 W (W.setCell ⟨g, o, none⟩ u) := (Below.refl _ _).setCell (Nat.zero_le _) u
  refine ⟨by rw [b.os, h.os], by rw [b.tape, h.tape], by rw [b.output, h.output], Nat.le_trans h.size b.size, fun z h1 h2 => ?_⟩
  rw [hSet _ (fun e => ?_), h.blk z h1 h2]
  rcases hg with q | q
  · exact h2 (by rw [e]; exact q)
  · omega
theorem Bt.grown {M : Nat → Prop} {V W W' : World} (h : Bt M V W) {r : Option Nat} (hg : W.grownBy W' r) (hr : ∀ z, r = some z → M z ∨ V.heap.size ≤ z) : Bt M V W' :=
  ⟨by rw [hg.os, h.os], by rw [hg.tape, h.tape], by rw [hg.output, h.output], Nat.le_trans h.size hg.size, fun z h1 h2 => by
    rw [hg.block z (by have := h.size; omega) (fun e => ?_), h.blk z h1 h2]
    rcases hr z e.symm with q | q
    · exact h2 q
    · omega⟩
theorem Bt.low {M : Nat → Prop} {w V W : World} (h : Bt M V W) (hb : Below w.heap.size w V) (hM : ∀ z, M z → w.heap.size ≤ z) : Below w.heap.size w W :=
  ⟨by rw [h.os, hb.os], by rw [h.tape, hb.tape], by rw [h.output, hb.output], Nat.le_trans hb.size h.size, fun z hz => by
    rw [h.blk z (by have := hb.size; omega) (fun q => by have := hM z q; omega), hb.block z hz]⟩
theorem own_any {W : World} {base e size n g cap : Nat} {xs : List Value} (h : W.ownsRow base e size (.slice (some ⟨g, 0, none⟩) n cap) n xs) (j : Nat) (hj : j < n * size) : (∃ u, W.cell? ⟨g, j, none⟩ = some u) ∧ W.frozen? ⟨g, j, none⟩ = false := by
  refine ⟨?_, h.frozenAt j⟩
  rw [h.cellAt j hj]
  exact ⟨_, List.getElem?_eq_getElem (by rw [h.1]; exact hj)⟩
end Go.Proofs.Ytofpbommhklooaa
/-
  What a call of the reference's Text does: the walk.
-/
namespace Go.Proofs.Ytofpbommhklooaa
open Go.RowKit
set_option linter.unusedSimpArgs false
set_option linter.unusedVariables false

theorem own_belowH {base e size n : Nat} {v : Value} {xs : List Value} {W w' : World} (hb : Below W.heap.size W w') (h : Hid (W.ownsRow base e size v n xs)) : Hid (w'.ownsRow base e size v n xs) := own_below hb h.out

theorem news_al (W : World) (v : Value) (t : TypeId) : ∀ j u, [v][j]? = some u → (W.alloc (.cells #[v] t)).cell? ((⟨W.heap.size, 0, none⟩ : Addr).add j) = some u := by
  intro j u hj
  match j, hj with
  | 0, hj => simp at hj; subst hj; simp [Addr.add, go_sem]
theorem one_al (k : IntKind) (n : Int) : ∀ u ∈ [Value.int k n], u.oneCell' = true := by
  intro u hu; simp at hu; subst hu; rfl

end Go.Proofs.Ytofpbommhklooaa
/-
  What the calls of package ranges' checkRange and widest do; rows of prefixes in memory.
-/
namespace Go.Proofs.Ytofpbommhklooaa
open Go.RowKit
set_option linter.unusedSimpArgs false
set_option linter.unusedVariables false

theorem At.app {W w1 : World} {B : Nat} {x : BitVec 128} {r : Option Nat} (h : At W B x) (g : W.grownBy w1 r) (hn : some B ≠ r) : At w1 B x := by
  obtain ⟨h0, h1, h2, h3, h4⟩ := h
  exact ⟨g.cell h0 hn, g.cell h1 hn, (g.frozen_far ⟨B, 0, none⟩ h4 hn).trans h2, (g.frozen_far ⟨B, 1, none⟩ h4 hn).trans h3, Nat.lt_of_lt_of_le h4 g.size⟩
theorem AtP.app {W w1 : World} {B : Nat} {x : BitVec 128} {n : Int} {r : Option Nat} (h : AtP W B x n) (g : W.grownBy w1 r) (hn : some B ≠ r) : AtP w1 B x n := by
  obtain ⟨h0, h1, h2, h3, h4, h5⟩ := h
  have lt := cell_in h0
  exact ⟨g.cell h0 hn, g.cell h1 hn, g.cell h2 hn, (g.frozen_far ⟨B, 0, none⟩ lt hn).trans h3, (g.frozen_far ⟨B, 1, none⟩ lt hn).trans h4, (g.frozen_far ⟨B, 2, none⟩ lt hn).trans h5⟩
/-- The cells of a row of prefixes. -/
def rowP : List (BitVec 128 × Int) → List Value
  | [] => []
  | p :: l => .int .u64 (hI p.1) :: .int .u64 (lI p.1) :: .int .i64 p.2 :: rowP l
theorem rowP_app : ∀ l m, rowP (l ++ m) = rowP l ++ rowP m := by
  intro l
  induction l with
  | nil => intro m; rfl
  | cons p l ih => intro m; simp [rowP, ih]
theorem rowP_one (l : List (BitVec 128 × Int)) (x : BitVec 128) (n : Int) : rowP (l ++ [(x, n)]) = rowP l ++ [.int .u64 (hI x), .int .u64 (lI x), .int .i64 n] := by rw [rowP_app]; rfl
theorem Try.infoP : (Try.prog.info? 45).map (fun i => (i.zero, i.size, i.bytes)) = some (some (.agg #[.int .u64 0, .int .u64 0, .int .i64 0]), 3, 24) := by kernel_rfl
theorem newsP (W : World) (a b c : Value) (t : TypeId) : ∀ j u, [a, b, c][j]? = some u → (W.alloc (.cells #[a, b, c] t)).cell? ((⟨W.heap.size, 0, none⟩ : Addr).add j) = some u := by
  intro j u hj
  match j, hj with
  | 0, hj => simp at hj; subst hj; simp [Addr.add, go_sem]
  | 1, hj => simp at hj; subst hj; simp [Addr.add, go_sem]
  | 2, hj => simp at hj; subst hj; simp [Addr.add, go_sem]
theorem threeP (a b : Int) (c : Int) : ∀ u ∈ [Value.int .u64 a, Value.int .u64 b, Value.int .i64 c], u.oneCell' = true := by
  intro u hu; simp at hu; rcases hu with rfl | rfl | rfl <;> rfl
theorem At.al {W : World} {B : Nat} {x : BitVec 128} (h : At W B x) (o : Obj) : At (W.alloc o) B x := h.below (bl1 W o)
theorem AtP.al {W : World} {B : Nat} {x : BitVec 128} {n : Int} (h : AtP W B x n) (o : Obj) : AtP (W.alloc o) B x n := h.below (bl1 W o)

/-- The error of a range. -/
def covE (F : Int) (a b : BitVec 128) : Int := if rightE F a = 0 then (if rightE F b = 0 then (if cmpZ b a < 0 then 19 else 0) else rightE F b) else rightE F a
theorem rightE_ways (F : Int) (x : BitVec 128) : rightE F x = 0 ∨ rightE F x = 6 ∨ rightE F x = 11 := by
  unfold rightE; split
  · split <;> simp
  · simp
theorem lead_le (z : BitVec 128) : leadN z ≤ 128 := by
  unfold leadN; split <;> omega
end Go.Proofs.Ytofpbommhklooaa
/-
  What the call of package ranges' Cover does.
-/
namespace Go.Proofs.Ytofpbommhklooaa
open Go.RowKit
set_option linter.unusedSimpArgs false
set_option linter.unusedVariables false

/-- What Cover tells. -/
def covT (F : Int) (a b : BitVec 128) : List (BitVec 128 × Int) := if covE F a b = 0 then covL F b (b.toNat - a.toNat + 1) a else []
theorem covE_rng (F : Int) (a b : BitVec 128) (h : covE F a b = 0) : Rng F a b := by
  unfold covE at h
  split at h
  · rename_i h1
    split at h
    · rename_i h2
      split at h
      · omega
      · rename_i h3
        rw [cmp_lt0] at h3
        exact ⟨h1, h2, by omega⟩
    · omega
  · omega
theorem covT_len (F : Int) (a b : BitVec 128) : (covT F a b).length ≤ 254 := by
  unfold covT
  split
  · rename_i h
    have r := covE_rng F a b h
    have := cov_len F a b (b.toNat - a.toNat + 1) r (by have := r.2.2; omega)
    obtain ⟨hf, _⟩ := right0 F a r.1
    have := (fam_bd F hf).2
    omega
  · simp
/-- The number that lies in a block of two cells. -/
def natAt (w : World) (B : Nat) : Nat := (intOf (cv w B 0)).toNat * 18446744073709551616 + (intOf (cv w B 1)).toNat
theorem natAt_of {w : World} {B : Nat} {x : BitVec 128} (h : At w B x) : natAt w B = x.toNat := by
  unfold natAt cv
  rw [h.1, h.2.1]
  have := x.isLt
  simp only [Option.getD_some, intOf]
  rw [hIN, lIN]
  omega
theorem own_base {w : World} {base base' e size n : Nat} {v : Value} {xs : List Value} (h : w.ownsRow base e size v n xs) (hb : base' ≤ base) : w.ownsRow base' e size v n xs := by
  refine ⟨h.1, ?_⟩
  rcases h.2 with hn | ⟨g, cap, cur, hv, h1, h2⟩
  · exact .inl hn
  · exact .inr ⟨g, cap, cur, hv, by omega, h2⟩
theorem own_set {w : World} {base e size n : Nat} {v : Value} {xs : List Value} (h : w.ownsRow base e size v n xs) (p : Addr) (u : Value) (hn : v.ownBlock ≠ some p.block) : (w.setCell p u).ownsRow base e size v n xs := by
  refine ⟨h.1, ?_⟩
  rcases h.2 with hn | ⟨g, cap, cur, rfl, hb, hgg, rest⟩
  · exact .inl hn
  · refine .inr ⟨g, cap, cur, rfl, hb, ?_, rest⟩
    rw [← hgg]
    simp only [Value.ownBlock] at hn
    exact Below.heap_setCell w p u g (fun e => hn (by rw [e]))
theorem len_le (T pre l : List (BitVec 128 × Int)) (h : T = pre ++ l) (hl : T.length ≤ 254) : pre.length + l.length ≤ 254 := by
  rw [h, List.length_append] at hl; exact hl
end Go.Proofs.Ytofpbommhklooaa
/-
  The routes of a list of segments, as a plain function; rows of routes of one's own.
-/
namespace Go.Proofs.Ytofpbommhklooaa
open Go.RowKit
set_option linter.unusedSimpArgs false
set_option linter.unusedVariables false

theorem Try.infoR6 : (Try.prog.info? 47).map (fun i => (i.zero, i.size, i.bytes)) = some (some (.agg #[.int .u64 0, .int .u64 0, .int .i64 0, .int .i64 0]), 4, 32) := by kernel_rfl
theorem rowR_app : ∀ l m, rowR (l ++ m) = rowR l ++ rowR m := by
  intro l
  induction l with
  | nil => intro m; rfl
  | cons p l ih => intro m; simp [rowR, ih]
theorem rowR_one (l : List Rte) (x : BitVec 128) (n h : Int) : rowR (l ++ [((x, n), h)]) = rowR l ++ [.int .u64 (hI x), .int .u64 (lI x), .int .i64 n, .int .i64 h] := by rw [rowR_app]; rfl
theorem rowR_len6 (l : List Rte) : (rowR l).length = l.length * 4 := by
  induction l with
  | nil => rfl
  | cons r l ih => simp [rowR, ih]; omega
theorem rowR_cell (l : List Rte) : ∀ u ∈ rowR l, u.oneCell' = true := by
  induction l with
  | nil => intro u hu; cases hu
  | cons p l ih =>
    intro u hu
    simp only [rowR, List.mem_cons] at hu
    rcases hu with rfl | rfl | rfl | rfl | hu
    all_goals first | rfl | exact ih u hu
theorem ownR_cells {W : World} {base n g c : Nat} {l : List Rte} (h : W.ownsRow base 47 4 (.slice (some ⟨g, 0, none⟩) n c) n (rowR l)) (j : Nat) (hj : j < l.length) :
    W.cell? ⟨g, j * 4, none⟩ = some (.int .u64 (hI l[j].1.1)) ∧ W.cell? ⟨g, j * 4 + 1, none⟩ = some (.int .u64 (lI l[j].1.1)) ∧ W.cell? ⟨g, j * 4 + 2, none⟩ = some (.int .i64 l[j].1.2) ∧ W.cell? ⟨g, j * 4 + 3, none⟩ = some (.int .i64 l[j].2) := by
  obtain ⟨a0, a1, a2, a3⟩ := rowR_get l j hj
  have f := fun k u => h.cells (g := g) rfl k u
  exact ⟨by have := f _ _ a0; rwa [addA, Nat.zero_add] at this, by have := f _ _ a1; rwa [addA, Nat.zero_add] at this, by have := f _ _ a2; rwa [addA, Nat.zero_add] at this, by have := f _ _ a3; rwa [addA, Nat.zero_add] at this⟩
theorem newsR (W : World) (a b c d : Value) (t : TypeId) : ∀ j u, [a, b, c, d][j]? = some u → (W.alloc (.cells #[a, b, c, d] t)).cell? ((⟨W.heap.size, 0, none⟩ : Addr).add j) = some u := by
  intro j u hj
  match j, hj with
  | 0, hj => simp at hj; subst hj; simp [Addr.add, go_sem]
  | 1, hj => simp at hj; subst hj; simp [Addr.add, go_sem]
  | 2, hj => simp at hj; subst hj; simp [Addr.add, go_sem]
  | 3, hj => simp at hj; subst hj; simp [Addr.add, go_sem]
theorem fourR6 (a b c d : Int) : ∀ u ∈ [Value.int .u64 a, Value.int .u64 b, Value.int .i64 c, Value.int .i64 d], u.oneCell' = true := by
  intro u hu; simp at hu; rcases hu with rfl | rfl | rfl | rfl <;> rfl
theorem row_rwr6 {W : World} {v : Value} {l : List Rte} (h : Row W 4 v l.length (rowR l)) : RwR W v l := by
  obtain ⟨-, ao, c, e, -, h⟩ := h
  refine ⟨ao, c, e, ?_⟩
  rcases h with ⟨-, -, h⟩ | h
  · exact .inl (List.length_eq_zero_iff.mp h)
  · exact .inr h
theorem own_rwr {W : World} {base : Nat} {v : Value} {l : List Rte} (h : W.ownsRow base 47 4 v l.length (rowR l)) : RwR W v l := row_rwr6 (own_row h)
/-- The routes of one segment. -/
def covS (F : Int) (s : Sg) : List Rte := if s.2 = 0 then [] else (covT F s.1.1 s.1.2).map (fun p => (p, s.2))
def covR (F : Int) : List Sg → List Rte
  | [] => []
  | s :: l => covS F s ++ covR F l
theorem covS_len (F : Int) (s : Sg) : (covS F s).length ≤ 254 := by
  unfold covS
  split
  · simp
  · rw [List.length_map]; exact covT_len _ _ _
theorem covR_app (F : Int) : ∀ l m, covR F (l ++ m) = covR F l ++ covR F m := by
  intro l
  induction l with
  | nil => intro m; rfl
  | cons p l ih => intro m; simp [covR, ih]
theorem covR_len (F : Int) (l : List Sg) : (covR F l).length ≤ 254 * l.length := by
  induction l with
  | nil => simp [covR]
  | cons s l ih =>
    have := covS_len F s
    simp only [covR, List.length_append, List.length_cons]
    omega
theorem covR_take (F : Int) (l : List Sg) (k : Nat) (hk : k < l.length) : covR F (l.take (k + 1)) = covR F (l.take k) ++ covS F l[k] := by
  rw [List.take_add_one, List.getElem?_eq_getElem hk, covR_app]
  simp [covR]
end Go.Proofs.Ytofpbommhklooaa
