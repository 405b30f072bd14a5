/-
  Part 14 of the proof: 5 texts, one behind the other.
-/
import Derived.Test.YtohnhpicjedfeaaPart13
import Derived.Test.YtohnhpicjedfeaaPart8
import Derived.Test.YtohnhpicjedfeaaPart10
import Derived.Test.YtohnhpicjedfeaaPart4
import Derived.Test.YtohnhpicjedfeaaPart2
import Derived.Test.YtohnhpicjedfeaaPart1
namespace Go.Proofs.Ytohnhpicjedfeaa
open Go.RowKit
set_option linter.unusedSimpArgs false
set_option linter.unusedVariables false

def T6 (w : World) (F : Int) (v : Value) (b oa ob : Nat) (ax : BitVec 128) (an ah : Int) (bx : BitVec 128) (bn bh : Int) (W : World) : Prop := AtT W w.heap.size F v ∧ (W.cell? ⟨b, oa, none⟩ = some (.int .u64 (hI ax)) ∧ W.cell? ⟨b, oa + 1, none⟩ = some (.int .u64 (lI ax)) ∧ W.cell? ⟨b, oa + 2, none⟩ = some (.int .i64 an) ∧ W.cell? ⟨b, oa + 3, none⟩ = some (.int .i64 ah)) ∧ (W.cell? ⟨b, ob, none⟩ = some (.int .u64 (hI bx)) ∧ W.cell? ⟨b, ob + 1, none⟩ = some (.int .u64 (lI bx)) ∧ W.cell? ⟨b, ob + 2, none⟩ = some (.int .i64 bn) ∧ W.cell? ⟨b, ob + 3, none⟩ = some (.int .i64 bh)) ∧ Below w.heap.size w W
theorem T6.below {w W W' : World} {F : Int} {v : Value} {b oa ob : Nat} {ax : BitVec 128} {an ah : Int} {bx : BitVec 128} {bn bh : Int} (k : T6 w F v b oa ob ax an ah bx bn bh W) (hb : Below W.heap.size W W') : T6 w F v b oa ob ax an ah bx bn bh W' :=
  ⟨k.1.below hb, ⟨keepc hb k.2.1.1, keepc hb k.2.1.2.1, keepc hb k.2.1.2.2.1, keepc hb k.2.1.2.2.2⟩, ⟨keepc hb k.2.2.1.1, keepc hb k.2.2.1.2.1, keepc hb k.2.2.1.2.2.1, keepc hb k.2.2.1.2.2.2⟩, keepb hb k.2.2.2⟩
theorem rtsG_all (F : Int) : ∀ l : List Rte, rtsG F l = 0 → ∀ r ∈ l, rteE F r = 0
  | [], _, r, hr => by cases hr
  | a :: l, h, r, hr => by
    rw [rtsG] at h
    split at h
    · rename_i h1
      rcases List.mem_cons.mp hr with e | e
      · rw [e]; exact h1
      · exact rtsG_all F l h r e
    · rename_i h1; exact absurd h h1
theorem rts_all (F : Int) (l : List Rte) (h : rtsE F l = 0) : fam F = true ∧ l.length ≤ 1048576 ∧ ∀ r ∈ l, rteE F r = 0 := by
  unfold rtsE at h
  split at h
  · rename_i h1
    split at h
    · omega
    · rename_i h2
      exact ⟨h1, by omega, rtsG_all F l h⟩
  · omega
end Go.Proofs.Ytohnhpicjedfeaa
namespace Go.Proofs.Ytohnhpicjedfeaa
open Go.RowKit
set_option linter.unusedSimpArgs false
set_option linter.unusedVariables false

def RightT (F : Int) (l : List Rte) : Prop := l.length ≤ 3000 ∧ rtsE F l = 0 ∧ Adj l
set_option maxHeartbeats 2000000 in
theorem rightT_any (F : Int) (v : Value) (l : List Rte) (w : World) (hv : RwR w v l) :
    Calls Try.prog 12 #[.agg #[.int .i64 F, v]] w fun e w' => (∃ r : Bool, (r = true → RightT F l) ∧ e = .returned (.bool r)) ∧ Below w.heap.size w w' := by
  have b1 := bl1 w (.cells #[.int .i64 F, v] 25)
  have KC := rcheckT_any F v l _ (hv.below b1)
  obtain ⟨p0, p1⟩ := att_new w w.heap.size F v 25 rfl
  have HB := hidR b1
  obtain ⟨ao, c, rfl, -⟩ := hv
  clear b1
  by_cases hl : l.length ≤ 3000
  · have h1 : (l.length : Int) ≤ 3000 := by omega
    go_enter Try.func12, Try.ntmps12
    go_wp2_with fail
    refine KC.mono ?_
    rintro e w1 ⟨⟨z, hz, rfl⟩, hb⟩
    have kB := keepb hb HB.out
    have HE : Hid ((z == 0) = true → RightT F l) := hidR (fun h => by
      have h0 : z = 0 := by simpa using h
      subst h0
      have hr : rtsE F l = 0 := Classical.byContradiction fun hn => hn (hz.1 hn).symm
      refine ⟨hl, hr, ?_⟩
      rcases hz.2 hr with ⟨q, -⟩ | ⟨-, q⟩
      · exact q
      · omega)
    clear KC hb HB p0 p1 hz
    go_wp2
    go_ret
    exact ⟨⟨z == 0, HE.out, rfl⟩, kB⟩
  · have h1 : ¬ (l.length : Int) ≤ 3000 := by omega
    clear KC
    go_enter Try.func12, Try.ntmps12
    go_wp2
    go_ret
    exact ⟨.inl rfl, HB.out⟩
end Go.Proofs.Ytohnhpicjedfeaa
namespace Go.Proofs.Ytohnhpicjedfeaa
open Go.RowKit Go.Shelf
set_option linter.unusedSimpArgs false
set_option linter.unusedVariables false

structure Gw (Ty : TypeId) (n : Nat) (A B : World) : Prop where
  os : B.os = A.os
  tape : B.tape = A.tape
  output : B.output = A.output
  size : A.heap.size ≤ B.heap.size
  same : ∀ z o, A.heap[z]? = some o → (z < n ∨ ∃ cs T, o = .cells cs T ∧ T ≠ Ty) → B.heap[z]? = some o
theorem Gw.of {Ty : TypeId} {n : Nat} {A B : World} (h : Below A.heap.size A B) : Gw Ty n A B := ⟨h.os, h.tape, h.output, h.size, fun z o hz _ => (h.block z (Array.getElem?_eq_some_iff.1 hz).1).trans hz⟩
theorem Gw.trans {Ty : TypeId} {n : Nat} {A B C : World} (h : Gw Ty n A B) (k : Gw Ty n B C) : Gw Ty n A C := ⟨by rw [k.os, h.os], by rw [k.tape, h.tape], by rw [k.output, h.output], Nat.le_trans h.size k.size, fun z o hz hq => k.same z o (h.same z o hz hq) hq⟩
theorem Gw.mono {Ty : TypeId} {n m : Nat} {A B : World} (h : Gw Ty n A B) (hm : m ≤ n) : Gw Ty m A B := ⟨h.os, h.tape, h.output, h.size, fun z o hz hq => h.same z o hz (hq.imp (fun q => by omega) id)⟩
theorem Gw.low {Ty : TypeId} {n : Nat} {w A B : World} (h : Gw Ty n A B) (hs : Below w.heap.size w A) (hn : w.heap.size ≤ n) : Below w.heap.size w B := ⟨by rw [h.os, hs.os], by rw [h.tape, hs.tape], by rw [h.output, hs.output], Nat.le_trans hs.size h.size, fun k hk => by
  have e := hs.block k hk
  obtain ⟨o, ho⟩ : ∃ o, w.heap[k]? = some o := ⟨_, Array.getElem?_eq_getElem hk⟩
  rw [ho] at e ⊢
  exact h.same k o e (.inl (by omega))⟩
theorem gw_put {Ty : TypeId} {n r : Nat} {A : World} {o : Obj} (hr : n ≤ r) (h : A.heap[r]? = some o) (hc : o.isCells = false) (o' : Obj) : Gw Ty n A (A.putObj r o') := ⟨rfl, rfl, rfl, by simp, fun z x hz hq => by
  have hne : z ≠ r := by
    rintro rfl
    rw [h] at hz
    cases hz
    rcases hq with q | ⟨cs, T, rfl, _⟩
    · omega
    · cases hc
  exact (World.putObj_heap_other hne).trans hz⟩
theorem gw_set {Ty : TypeId} {n N o : Nat} {A : World} {cs : Array Value} (hr : n ≤ N) (h : A.heap[N]? = some (.cells cs Ty)) (v : Value) : Gw Ty n A (A.setCell ⟨N, o, none⟩ v) := ⟨rfl, rfl, rfl, by simp, fun z x hz hq => by
  have hne : ¬ z = N := by
    rintro rfl
    rw [h] at hz
    cases hz
    rcases hq with q | ⟨cs', T, e, ne⟩
    · omega
    · cases e; exact ne rfl
  exact (Below.heap_setCell A ⟨N, o, none⟩ v z hne).trans hz⟩
section
variable {P : Program}
def Kx (Xc : World → Nat → Prop) (V V' : World) : Prop := V.heap.size ≤ V'.heap.size ∧ (∀ z o, V.heap[z]? = some o → ¬ Xc V z → V'.heap[z]? = some o) ∧ ∀ z, Xc V' z → Xc V z ∨ V.heap.size ≤ z
theorem Kx.trans {Xc : World → Nat → Prop} {A B C : World} (h : Kx Xc A B) (k : Kx Xc B C) : Kx Xc A C := ⟨Nat.le_trans h.1 k.1, fun z o hz hx => k.2.1 z o (h.2.1 z o hz hx) (fun q => by
  rcases h.2.2 z q with q | q
  · exact hx q
  · have := (Array.getElem?_eq_some_iff.1 hz).1
    omega), fun z hz => by
  rcases k.2.2 z hz with q | q
  · exact h.2.2 z q
  · exact .inr (Nat.le_trans h.1 q)⟩
def SeqZ {α : Type} (Ty : TypeId) (n : Nat) (P : Program) (g : Nat) (lb : Array Value) (encs : α → Array Value) (Zs : Nat → Prop) (S Sp : List α → Prop) (w : World) : Prop :=
  ∀ (l : Nat) (J Jx : List α → World → Prop) (Xc : World → Nat → Prop) (W : World), Below w.heap.size w W → (∀ s A B, J s A → Gw Ty W.heap.size A B → J s B) → (∀ s A B, Jx s A → Gw Ty W.heap.size A B → Jx s B) →
    (∀ s A, J s A → ∀ z, Xc A z → z < A.heap.size ∧ ¬ Zs z) → (∀ s A B, J s A → Gw Ty W.heap.size A B → ∀ z, Xc B z → Xc A z) →
    (∀ pre x V, J pre V → Sp (pre ++ [x]) → YieldAt Fence.wide (n - 1) P l (encs x) V fun e V' => (e = .returned (.bool true) ∧ J (pre ++ [x]) V' ∧ Kx Xc V V') ∨ (e = .returned (.bool false) ∧ Jx (pre ++ [x]) V')) →
    J [] W → CallsIn Fence.wide n P g (#[.func (.yield l) #[] #[]] ++ lb) W fun e W' => (∃ v, e = .returned v) ∧ ((∃ xs, S xs ∧ J xs W') ∨ (∃ pre, Sp pre ∧ Jx pre W'))
theorem rangeZ {α : Type} {Ty : TypeId} {g : Operand} {ps : Array Tmp} {assign body : Code} {Q : Exit → Act → World → Prop} {a : Act} {w : World} (n : Nat) (h1 : 1 ≤ n) {gf : Nat} {lb : Array Value} (hg : a.eval g = .func (.func gf) #[] lb) (eg : ∀ args w, (callFunc gf args).run P w = .ok (.enter gf args) w)
    {encs : α → Array Value} {Zs : Nat → Prop} {S Sp : List α → Prop} {w0 : World} (hseq : SeqZ Ty (n - 1) P gf lb encs Zs S Sp w0) (hZs : ∀ z, Zs z → z < w.heap.size)
    (hb0 : Below w0.heap.size w0 w) (hps : ∀ x, (encs x).size = ps.size)
    (I : List α → World → Prop) (Ix : Code → List α → World → Prop) (hI : ∀ s A B, I s A → Gw Ty w.heap.size A B → I s B) (hIx : ∀ c s A B, Ix c s A → Gw Ty w.heap.size A B → Ix c s B) (h0 : I [] w)
    (Xi : World → Nat → Prop) (hX1 : ∀ s A, I s A → ∀ z, Xi A z → z < A.heap.size ∧ ¬ Zs z) (hX2 : ∀ s A B, I s A → Gw Ty w.heap.size A B → ∀ z, Xi B z → Xi A z)
    (Ax : α → Act → World → Prop) (hAx : ∀ x a' (A : World) (o o' : Obj), Ax x a' A → A.heap[w.heap.size + 1]? = some o → o.isCells = false → Ax x a' (A.putObj (w.heap.size + 1) o'))
    (hassign : ∀ (l : Nat) (pre : List α) (x : α) (W : World) (K : Act → World → Prop), I pre W → (∀ a' W', KeepsFrom w.heap.size W W' → Kx Xi W W' → I pre W' → Ax x a' W' → K a' W') →
      assign.wpIn (Fence.wide.inRound l) (n - 1 - 1) P (Exit.then K (fun _ _ _ => False)) { tmps := (ps.zip (encs x)).foldl (fun t (p, v) => t.setIfInBounds p v) a.tmps, defers := [] } W)
    (hbody : ∀ (l : Nat) (pre : List α) (x : α) (a' : Act) (W : World), w.heap.size ≤ l → (∃ r, W.heap[l]? = some (.loop r)) → I pre W → Ax x a' W → Sp (pre ++ [x]) → body.wpIn (Fence.wide.inRound l) (n - 1 - 1) P (postX w.heap.size (Kx Xi) I Ix (pre ++ [x]) W) a' W)
    (hdone : ∀ (D : Nat) (xs : List α) (W : World), w.heap.size ≤ D → S xs → I xs W → W.heap[D]? = some (.deferred (some [])) → Q .normal { a with defers := { target := .collected D, args := #[] } :: a.defers } W)
    (hstop : ∀ (D : Nat) (c : Code) (pre : List α) (W : World), w.heap.size ≤ D → Sp pre → Ix c pre W → W.heap[D]? = some (.deferred (some [])) → c.wpIn Fence.wide n P Q { a with defers := { target := .collected D, args := #[] } :: a.defers } W) :
    (Code.rangeFunc g ps assign body).wpIn Fence.wide n P Q a w := by
  refine wpIn_rangeFunc (fun fn hfn => ?_)
  rw [Fence.wide_round]
  -- the record, by its state and its pending jump
  obtain ⟨rc, hrc⟩ : ∃ rc : LoopState → Option Code → Loop, ∀ s p, rc s p = { state := s, pending := p, fn, tmps := a.tmps, params := ps, assign, body, defers := w.heap.size } := ⟨_, fun _ _ => rfl⟩
  have bw := bl1 w (.deferred (some []))
  have bw2 := bl1 (w.alloc (.deferred (some []))) (.loop (rc .ready none))
  have k1 : Bk w.heap.size (rc .ready none) ((w.alloc (.deferred (some []))).alloc (.loop (rc .ready none))) := by
    refine ⟨?_, ?_⟩
    · have := World.alloc_heap_new (w.alloc (.deferred (some []))) (.loop (rc .ready none))
      rwa [World.size_alloc] at this
    · exact (bw2.block _ (by simp)).trans (World.alloc_heap_new w _)
  have i1 : I [] ((w.alloc (.deferred (some []))).alloc (.loop (rc .ready none))) := hI _ _ _ h0 (Gw.of (keepb bw2 bw))
  have b1 : Below w0.heap.size w0 ((w.alloc (.deferred (some []))).alloc (.loop (rc .ready none))) := keepb bw2 (keepb bw hb0)
  have hent : (Instr.enterLoop fn a.tmps ps assign body none).run P w = .ok (w.heap.size + 1, [{ target := .collected w.heap.size, args := #[] }]) ((w.alloc (.deferred (some []))).alloc (.loop (rc .ready none))) := by
    rw [hrc]
    exact run_enterLoop_outer _ _ _ _ _
  have hs1 : ((w.alloc (.deferred (some []))).alloc (.loop (rc .ready none))).heap.size = w.heap.size + 2 := by simp
  revert k1 i1 b1 hent hs1
  generalize (w.alloc (.deferred (some []))).alloc (.loop (rc .ready none)) = V1
  intro k1 i1 b1 hent hs1
  clear bw bw2
  refine ⟨w.heap.size + 1, _, V1, { target := .fn (.func gf) lb, args := #[.func (.yield (w.heap.size + 1)) #[] #[]] }, V1, gf, #[.func (.yield (w.heap.size + 1)) #[] #[]] ++ lb, V1, hent, by simp only [resolve, hg]; simp [go_sem], fun _ _ => trivial, by simp [invoke, go_sem, eg], fun _ => h1, ?_⟩
  have putB : ∀ {A : World} {r : Loop} (_ : Bk w.heap.size r A) (o : Obj), Gw Ty w.heap.size A (A.putObj (w.heap.size + 1) o) := fun k o => gw_put (by omega) k.rec' rfl o
  have bkB : ∀ {A B : World} {r : Loop}, Bk w.heap.size r A → Gw Ty V1.heap.size A B → Bk w.heap.size r B := fun k h => ⟨h.same _ _ k.rec' (.inl (by omega)), h.same _ _ k.dfr (.inl (by omega))⟩
  refine (hseq (w.heap.size + 1) (fun pre W => I pre W ∧ Bk w.heap.size (rc .ready none) W) (fun pre W => ∃ c, Ix c pre W ∧ Bk w.heap.size (rc .done (some c)) W) (fun A z => Xi A z ∨ z = w.heap.size + 1) V1 b1 (fun s A B hs hgr => ⟨hI s A B hs.1 (hgr.mono (by omega)), bkB hs.2 hgr⟩) (fun s A B hs hgr => ?_) (fun s A hs z hz => ?c1) (fun s A B hs hgr z hz => ?c2) ?round ⟨i1, k1⟩).mono ?behind
  · obtain ⟨c, hc, kc⟩ := hs
    exact ⟨c, hIx c s A B hc (hgr.mono (by omega)), bkB kc hgr⟩
  case c1 =>
    rcases hz with q | rfl
    · exact hX1 s A hs.1 z q
    · exact ⟨hs.2.lt, fun q => by have := hZs _ q; omega⟩
  case c2 =>
    rcases hz with q | q
    · exact .inl (hX2 s A B hs.1 (hgr.mono (by omega)) z q)
    · exact .inr q
  case round =>
    have kup : ∀ {A B : World}, Kx Xi A B → Kx (fun A z => Xi A z ∨ z = w.heap.size + 1) A B := fun h => ⟨h.1, fun z o hz hx => h.2.1 z o hz (fun q => hx (.inl q)), fun z hz => by
      rcases hz with q | q
      · exact (h.2.2 z q).imp .inl id
      · exact .inl (.inr q)⟩
    have kput : ∀ {s : List α} {A : World} {r : Loop} (_ : I s A) (_ : Bk w.heap.size r A) (o : Obj), Kx (fun A z => Xi A z ∨ z = w.heap.size + 1) A (A.putObj (w.heap.size + 1) o) := fun hi k o => ⟨by simp, fun z x hz hx => (World.putObj_heap_other (fun q => hx (.inr q))).trans hz, fun z hz => by
      rcases hz with q | q
      · exact .inl (.inl (hX2 _ _ _ hi (gw_put (by omega) k.rec' rfl o) z q))
      · exact .inl (.inr q)⟩
    rintro pre x V ⟨hi, hk⟩ hlen
    have hy := run_yield (P := P) (args := encs x) hk.rec' (by rw [hrc]; exact hps x)
    rw [hrc] at hy
    refine ⟨fn, _, assign, body, hy, roundIn_of_wpIn hfn (hassign _ pre x V _ hi ?_)⟩
    intro a' Va f1 f2 f3 f4
    have ka := hk.from f1
    have hlt := ka.lt
    refine ⟨_, run_beginRound ka.rec' (by rw [hrc]), ?_⟩
    have kb := ka.turn { rc .ready none with state := .busy }
    have nb : ∀ (o : Obj), w.heap.size ≤ w.heap.size + 1 := fun _ => by omega
    have g1 := hI _ _ _ f3 (putB ka (.loop { rc .ready none with state := .busy }))
    have g2 := hAx x a' Va _ (.loop { rc .ready none with state := .busy }) f4 ka.rec' rfl
    have g3 := kput f3 ka (.loop { rc .ready none with state := .busy })
    revert kb g1 g2 g3
    generalize Va.putObj (w.heap.size + 1) (.loop { rc .ready none with state := .busy }) = Vb
    intro kb g1 g2 g3
    refine wpIn_mono (hbody (w.heap.size + 1) pre x a' Vb (by omega) ⟨_, kb.rec'⟩ g1 g2 hlen) ?_
    have out : ∀ (c : Code) (V3 : World), KeepsFrom w.heap.size Vb V3 → Kx Xi Vb V3 → Ix c (pre ++ [x]) V3 → ∃ (e : Value) (V4 : World), (Instr.endRound (w.heap.size + 1) (some c)).run P V3 = .ok e V4 ∧ (((.returned e : Ending) = .returned (.bool true) ∧ (I (pre ++ [x]) V4 ∧ Bk w.heap.size (rc .ready none) V4) ∧ Kx (fun A z => Xi A z ∨ z = w.heap.size + 1) V V4) ∨ ((.returned e : Ending) = .returned (.bool false) ∧ (∃ c, Ix c (pre ++ [x]) V4 ∧ Bk w.heap.size (rc .done (some c)) V4))) := fun c V3 hk3 hq3 hi3 => by
      have k3 := kb.from hk3
      have k4 := k3.turn (rc .done (some c))
      have := bk_end (P := P) k3 (some c)
      refine ⟨_, _, this, .inr ⟨rfl, ⟨c, ?_, ?_⟩⟩⟩
      · exact hIx c _ _ _ hi3 (putB k3 _)
      · have e : ({ ({ rc .ready none with state := .busy } : Loop) with state := if (some c).isNone then .ready else .done, pending := some c } : Loop) = rc .done (some c) := by rw [hrc, hrc]; rfl
        rw [e]
        exact k4
    rintro e a3 V3 hp
    cases e with
    | normal =>
      obtain ⟨hk3, hq3, hi3⟩ := hp
      have k3 := kb.from hk3
      have k4 := k3.turn (rc .ready none)
      have hr := bk_end (P := P) k3 none
      have e : ({ ({ rc .ready none with state := .busy } : Loop) with state := if (none : Option Code).isNone then .ready else .done, pending := none } : Loop) = rc .ready none := by rw [hrc]; rfl
      rw [e] at hr
      exact ⟨_, _, hr, .inl ⟨rfl, ⟨hI _ _ _ hi3 (putB k3 _), k4⟩, (kup f2).trans (g3.trans ((kup hq3).trans (kput hi3 k3 _)))⟩⟩
    | ret => exact out _ _ hp.1 hp.2.1 hp.2.2
    | exit id => exact out _ _ hp.1 hp.2.1 hp.2.2
    | goto t => exact out _ _ hp.1 hp.2.1 hp.2.2
    | panic ch => exact hp.elim
    | outgrown => exact hp.elim
  case behind =>
    rintro e V2 ⟨⟨v, rfl⟩, (⟨xs, hS, hi, hk⟩ | ⟨pre, hSp, c, hi, hk⟩)⟩
    · have hr := run_endLoop (P := P) hk.rec' (by rw [hrc]; simp)
      have kt := hk.turn { rc .ready none with state := .exhausted }
      exact ⟨_, _, by rw [hr], by rw [hrc]; exact hdone _ xs _ (Nat.le_refl _) hS (hI _ _ _ hi (putB hk _)) (by rw [hrc] at kt; exact kt.dfr)⟩
    · have hr := run_endLoop (P := P) hk.rec' (by rw [hrc]; simp)
      have kt := hk.turn { rc .done (some c) with state := .exhausted }
      exact ⟨_, _, by rw [hr], by rw [hrc]; exact hstop _ c pre _ (Nat.le_refl _) hSp (hIx c _ _ _ hi (putB hk _)) (by rw [hrc] at kt; exact kt.dfr)⟩
end
end Go.Proofs.Ytohnhpicjedfeaa
namespace Go.Proofs.Ytohnhpicjedfeaa
open Go.RowKit Go.Shelf
set_option linter.unusedSimpArgs false
set_option linter.unusedVariables false

section
variable {P : Program}
end
end Go.Proofs.Ytohnhpicjedfeaa
namespace Go.Proofs.Ytohnhpicjedfeaa
open Go.RowKit Go.Shelf
set_option linter.unusedSimpArgs false
set_option linter.unusedVariables false
attribute [local go_sem] Oper.semAt_some

theorem hidX {p : Prop} (h : p) : Hid p := h
end Go.Proofs.Ytohnhpicjedfeaa
