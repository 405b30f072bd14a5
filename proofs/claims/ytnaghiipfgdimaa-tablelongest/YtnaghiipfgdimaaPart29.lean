/-
  Part 29 of the proof: 5 texts, one behind the other.
-/
import Derived.Test.YtnaghiipfgdimaaPart10
import Derived.Test.YtnaghiipfgdimaaPart28
import Derived.Test.YtnaghiipfgdimaaPart20
import Derived.Test.YtnaghiipfgdimaaPart3
import Derived.Test.YtnaghiipfgdimaaPart11
import Derived.Test.YtnaghiipfgdimaaPart12
import Derived.Test.YtnaghiipfgdimaaPart4
import Derived.Test.YtnaghiipfgdimaaPart18
/-
  A range over a function that has values bound ahead (a method's): a contract and the law.
-/
namespace Go.Proofs.Ytnaghiipfgdimaa
open Go.RowKit Go.Shelf
set_option linter.unusedSimpArgs false
set_option linter.unusedVariables false

section
variable {P : Program}
/-- What a sequence tells whose function has values bound ahead, of rounds whose invariant abides a turn of whatever later block that holds no cells. -/
def SeqY {α : Type} (n : Nat) (P : Program) (g : Nat) (ba lb : Array Value) (encs : α → Array Value) (Kp : World → World → Prop) (S Sp : List α → Prop) (Bd : Nat) (w : World) : Prop :=
  ∀ (l : Nat) (J Jx : List α → World → Prop) (W : World), Below w.heap.size w W → Bd ≤ W.heap.size → OwnFrom W.heap.size J → OwnFrom W.heap.size Jx →
    (∀ pre x V, J pre V → Sp (pre ++ [x]) → YieldAt Fence.wide (n - 1) P l (encs x) V fun e V' => (e = .returned (.bool true) ∧ J (pre ++ [x]) V' ∧ Kp V V') ∨ (e = .returned (.bool false) ∧ Jx (pre ++ [x]) V' ∧ Kp V V')) →
    J [] W → CallsIn Fence.wide n P g (ba ++ #[.func (.yield l) #[] #[]] ++ lb) W fun e W' => (∃ v, e = .returned v) ∧ ((∃ xs, S xs ∧ J xs W') ∨ (∃ pre, Sp pre ∧ Jx pre W'))
/-- The law. -/
theorem rangeY {α : Type} {g : Operand} {ps : Array Tmp} {assign body : Code} {Q : Exit → Act → World → Prop} {a : Act} {w : World} (n : Nat) (h1 : 1 ≤ n) {gf : Nat} {ba lb : Array Value} (hg : a.eval g = .func (.func gf) ba lb) (eg : ∀ args w, (callFunc gf args).run P w = .ok (.enter gf args) w)
    {encs : α → Array Value} {Kp : World → World → Prop} {S Sp : List α → Prop} {Bd : Nat} {w0 : World} (hseq : SeqY (n - 1) P gf ba lb encs Kp S Sp Bd w0) (hBd : Bd ≤ w.heap.size + 2)
    (hKt : ∀ {A B C : World}, Kp A B → Kp B C → Kp A C) (hKb : ∀ (W : World) (o o' : Obj), W.heap[w.heap.size + 1]? = some o → o.isCells = false → Kp W (W.putObj (w.heap.size + 1) o')) (hb0 : Below w0.heap.size w0 w) (hps : ∀ x, (encs x).size = ps.size)
    (I : List α → World → Prop) (Ix : Code → List α → World → Prop) (hI : OwnFrom w.heap.size I) (hIx : ∀ c, OwnFrom w.heap.size (Ix c)) (h0 : I [] w) (Ax : α → Act → World → Prop) (hAx : ∀ x a', OwnFrom w.heap.size (fun (_ : Unit) W => Ax x a' W))
    (hassign : ∀ (l : Nat) (pre : List α) (x : α) (W : World) (K : Act → World → Prop), I pre W → (∀ a' W', KeepsFrom w.heap.size W W' → Kp W W' → I pre W' → Ax x a' W' → K a' W') →
      assign.wpIn (Fence.wide.inRound l) (n - 1 - 1) P (Exit.then K (fun _ _ _ => False)) { tmps := (ps.zip (encs x)).foldl (fun t (p, v) => t.setIfInBounds p v) a.tmps, defers := [] } W)
    (hbody : ∀ (l : Nat) (pre : List α) (x : α) (a' : Act) (W : World), w.heap.size ≤ l → (∃ r, W.heap[l]? = some (.loop r)) → I pre W → Ax x a' W → Sp (pre ++ [x]) → body.wpIn (Fence.wide.inRound l) (n - 1 - 1) P (postX w.heap.size Kp I Ix (pre ++ [x]) W) a' W)
    (hdone : ∀ (D : Nat) (xs : List α) (W : World), w.heap.size ≤ D → S xs → I xs W → W.heap[D]? = some (.deferred (some [])) → Q .normal { a with defers := { target := .collected D, args := #[] } :: a.defers } W)
    (hstop : ∀ (D : Nat) (c : Code) (pre : List α) (W : World), w.heap.size ≤ D → Sp pre → Ix c pre W → W.heap[D]? = some (.deferred (some [])) → c.wpIn Fence.wide n P Q { a with defers := { target := .collected D, args := #[] } :: a.defers } W) :
    (Code.rangeFunc g ps assign body).wpIn Fence.wide n P Q a w := by
  refine wpIn_rangeFunc (fun fn hfn => ?_)
  rw [Fence.wide_round]
  -- the record, by its state and its pending jump
  obtain ⟨rc, hrc⟩ : ∃ rc : LoopState → Option Code → Loop, ∀ s p, rc s p = { state := s, pending := p, fn, tmps := a.tmps, params := ps, assign, body, defers := w.heap.size } := ⟨_, fun _ _ => rfl⟩
  have bw := bl1 w (.deferred (some []))
  have bw2 := bl1 (w.alloc (.deferred (some []))) (.loop (rc .ready none))
  have k1 : Bk w.heap.size (rc .ready none) ((w.alloc (.deferred (some []))).alloc (.loop (rc .ready none))) := by
    refine ⟨?_, ?_⟩
    · have := World.alloc_heap_new (w.alloc (.deferred (some []))) (.loop (rc .ready none))
      rwa [World.size_alloc] at this
    · exact (bw2.block _ (by simp)).trans (World.alloc_heap_new w _)
  have i1 : I [] ((w.alloc (.deferred (some []))).alloc (.loop (rc .ready none))) := hI.alloc _ (hI.alloc _ h0)
  have b1 : Below w0.heap.size w0 ((w.alloc (.deferred (some []))).alloc (.loop (rc .ready none))) := keepb bw2 (keepb bw hb0)
  have hent : (Instr.enterLoop fn a.tmps ps assign body none).run P w = .ok (w.heap.size + 1, [{ target := .collected w.heap.size, args := #[] }]) ((w.alloc (.deferred (some []))).alloc (.loop (rc .ready none))) := by
    rw [hrc]
    exact run_enterLoop_outer _ _ _ _ _
  have hs1 : ((w.alloc (.deferred (some []))).alloc (.loop (rc .ready none))).heap.size = w.heap.size + 2 := by simp
  revert k1 i1 b1 hent hs1
  generalize (w.alloc (.deferred (some []))).alloc (.loop (rc .ready none)) = V1
  intro k1 i1 b1 hent hs1
  clear bw bw2
  refine ⟨w.heap.size + 1, _, V1, { target := .fn (.func gf) lb, args := ba ++ #[.func (.yield (w.heap.size + 1)) #[] #[]] }, V1, gf, ba ++ #[.func (.yield (w.heap.size + 1)) #[] #[]] ++ lb, V1, hent, by simp only [resolve, hg]; simp [go_sem], fun _ _ => trivial, by simp [invoke, go_sem, eg], fun _ => h1, ?_⟩
  have far : ∀ {A : World} {row : Option Nat}, (∀ r, row = some r → V1.heap.size ≤ r ∧ ∃ o : Obj, A.heap[r]? = some o ∧ o.isCells = false) → (∀ r, row = some r → w.heap.size ≤ r ∧ ∃ o : Obj, A.heap[r]? = some o ∧ o.isCells = false) := fun hr r e => ⟨by have := (hr r e).1; omega, (hr r e).2⟩
  have far2 : ∀ {A : World} {row : Option Nat}, (∀ r, row = some r → V1.heap.size ≤ r ∧ ∃ o : Obj, A.heap[r]? = some o ∧ o.isCells = false) → ∀ z, row = some z → w.heap.size + 2 ≤ z := fun hr z e => by have := (hr z e).1; omega
  refine (hseq (w.heap.size + 1) (fun pre W => I pre W ∧ Bk w.heap.size (rc .ready none) W) (fun pre W => ∃ c, Ix c pre W ∧ Bk w.heap.size (rc .done (some c)) W) V1 b1 (by omega) (fun s A B row hs hgr hr => ⟨hI s A B row hs.1 hgr (far hr), hs.2.grown hgr (far2 hr)⟩) (fun s A B row hs hgr hr => ?_) ?round ⟨i1, k1⟩).mono ?behind
  · obtain ⟨c, hc, kc⟩ := hs
    exact ⟨c, hIx c s A B row hc hgr (far hr), kc.grown hgr (far2 hr)⟩
  case round =>
    rintro pre x V ⟨hi, hk⟩ hlen
    have hy := run_yield (P := P) (args := encs x) hk.rec' (by rw [hrc]; exact hps x)
    rw [hrc] at hy
    refine ⟨fn, _, assign, body, hy, roundIn_of_wpIn hfn (hassign _ pre x V _ hi ?_)⟩
    intro a' Va f1 f2 f3 f4
    have ka := hk.from f1
    have hlt := ka.lt
    refine ⟨_, run_beginRound ka.rec' (by rw [hrc]), ?_⟩
    have kb := ka.turn { rc .ready none with state := .busy }
    have nb : ∀ (o : Obj), w.heap.size ≤ w.heap.size + 1 := fun _ => by omega
    have g1 := hI.putObj (.loop { rc .ready none with state := .busy }) f3 (show w.heap.size ≤ w.heap.size + 1 by omega) ka.rec' rfl
    have g2 := (hAx x a').putObj (s := ()) (.loop { rc .ready none with state := .busy }) f4 (show w.heap.size ≤ w.heap.size + 1 by omega) ka.rec' rfl
    have g3 := hKb Va _ (.loop { rc .ready none with state := .busy }) ka.rec' rfl
    revert kb g1 g2 g3
    generalize Va.putObj (w.heap.size + 1) (.loop { rc .ready none with state := .busy }) = Vb
    intro kb g1 g2 g3
    refine wpIn_mono (hbody (w.heap.size + 1) pre x a' Vb (by omega) ⟨_, kb.rec'⟩ g1 g2 hlen) ?_
    have out : ∀ (c : Code) (V3 : World), KeepsFrom w.heap.size Vb V3 → Kp Vb V3 → Ix c (pre ++ [x]) V3 → ∃ (e : Value) (V4 : World), (Instr.endRound (w.heap.size + 1) (some c)).run P V3 = .ok e V4 ∧ (((.returned e : Ending) = .returned (.bool true) ∧ (I (pre ++ [x]) V4 ∧ Bk w.heap.size (rc .ready none) V4) ∧ Kp V V4) ∨ ((.returned e : Ending) = .returned (.bool false) ∧ (∃ c, Ix c (pre ++ [x]) V4 ∧ Bk w.heap.size (rc .done (some c)) V4) ∧ Kp V V4)) := fun c V3 hk3 hq3 hi3 => by
      have k3 := kb.from hk3
      have k4 := k3.turn (rc .done (some c))
      have := bk_end (P := P) k3 (some c)
      refine ⟨_, _, this, .inr ⟨rfl, ⟨c, ?_, ?_⟩, hKt f2 (hKt g3 (hKt hq3 (hKb _ _ _ k3.rec' rfl)))⟩⟩
      · exact (hIx c).putObj _ hi3 (by omega) k3.rec' rfl
      · have e : ({ ({ rc .ready none with state := .busy } : Loop) with state := if (some c).isNone then .ready else .done, pending := some c } : Loop) = rc .done (some c) := by rw [hrc, hrc]; rfl
        rw [e]
        exact k4
    rintro e a3 V3 hp
    cases e with
    | normal =>
      obtain ⟨hk3, hq3, hi3⟩ := hp
      have k3 := kb.from hk3
      have k4 := k3.turn (rc .ready none)
      have hr := bk_end (P := P) k3 none
      have e : ({ ({ rc .ready none with state := .busy } : Loop) with state := if (none : Option Code).isNone then .ready else .done, pending := none } : Loop) = rc .ready none := by rw [hrc]; rfl
      rw [e] at hr
      exact ⟨_, _, hr, .inl ⟨rfl, ⟨hI.putObj _ hi3 (by omega) k3.rec' rfl, k4⟩, hKt f2 (hKt g3 (hKt hq3 (hKb _ _ _ k3.rec' rfl)))⟩⟩
    | ret => exact out _ _ hp.1 hp.2.1 hp.2.2
    | exit id => exact out _ _ hp.1 hp.2.1 hp.2.2
    | goto t => exact out _ _ hp.1 hp.2.1 hp.2.2
    | panic ch => exact hp.elim
    | outgrown => exact hp.elim
  case behind =>
    rintro e V2 ⟨⟨v, rfl⟩, (⟨xs, hS, hi, hk⟩ | ⟨pre, hSp, c, hi, hk⟩)⟩
    · have hr := run_endLoop (P := P) hk.rec' (by rw [hrc]; simp)
      have kt := hk.turn { rc .ready none with state := .exhausted }
      exact ⟨_, _, by rw [hr], by rw [hrc]; exact hdone _ xs _ (Nat.le_refl _) hS (hI.putObj _ hi (by omega) hk.rec' rfl) (by rw [hrc] at kt; exact kt.dfr)⟩
    · have hr := run_endLoop (P := P) hk.rec' (by rw [hrc]; simp)
      have kt := hk.turn { rc .done (some c) with state := .exhausted }
      exact ⟨_, _, by rw [hr], by rw [hrc]; exact hstop _ c pre _ (Nat.le_refl _) hSp ((hIx c).putObj _ hi (by omega) hk.rec' rfl) (by rw [hrc] at kt; exact kt.dfr)⟩
end
end Go.Proofs.Ytnaghiipfgdimaa
/-
  The sequence of the nodes on an address's way: Path and way.each.
-/
namespace Go.Proofs.Ytnaghiipfgdimaa
open Go.RowKit Go.Shelf
set_option linter.unusedSimpArgs false
set_option linter.unusedVariables false
attribute [local go_sem] Oper.semAt_some

/-- The node behind one on an address's way. -/
def nxtW (L : List Nd) (x : BitVec 128) (n : Int) : Int := kidV L n (bitZ x (ndAt L n).length)
def wayL (L : List Nd) (x : BitVec 128) : Nat → Int → List Int
  | 0, _ => []
  | k + 1, n => n :: wayL L x k (nxtW L x n)
/-- So many nodes, and the way ends. -/
def WayTo (L : List Nd) (x : BitVec 128) : Nat → Int → Prop
  | 0, n => n = -1
  | k + 1, n => isN L n = true ∧ WayTo L x k (nxtW L x n)
theorem way_one (L : List Nd) (x : BitVec 128) : ∀ (m m' : Nat) (y : Int), WayTo L x m y → WayTo L x m' y → m = m'
  | 0, 0, _, _, _ => rfl
  | 0, m' + 1, y, h, g => by rw [show y = -1 from h] at g; exact absurd g.1 (by simp [isN])
  | m + 1, 0, y, h, g => by rw [show y = -1 from g] at h; exact absurd h.1 (by simp [isN])
  | m + 1, m' + 1, y, h, g => by rw [way_one L x m m' _ h.2 g.2]
open Classical in
theorem muW_ex (L : List Nd) (x : BitVec 128) : ∃ mu : Value → Nat, ∀ (y : Int) (m : Nat), WayTo L x m y → mu (.int .i64 y) = m := by
  refine ⟨fun v => if h : ∃ m, ∃ y, v = .int .i64 y ∧ WayTo L x m y then Classical.choose h else 0, fun y m h => ?_⟩
  have e : ∃ m, ∃ y', (Value.int .i64 y) = .int .i64 y' ∧ WayTo L x m y' := ⟨m, y, rfl, h⟩
  dsimp only
  rw [dif_pos e]
  obtain ⟨y', e1, e2⟩ := Classical.choose_spec e
  cases e1
  exact way_one L x _ _ _ e2 h
def pthL (L : List Nd) (F : Int) (x : BitVec 128) (N : Nat) : List Int := if checkE F x F = 0 then wayL L x N 0 else []
def encI (n : Int) : Array Value := #[.int .i64 n]
theorem AtN.kw {Z : Nat → Prop} {C : Nat} {W W' : World} {b o : Nat} {x : Nd} (k : AtN W b o x) (h : KW Z C W W') (hz : Z b ∨ C ≤ b) : AtN W' b o x := ⟨kw_cell h hz k.1, kw_cell h hz k.2.1, kw_cell h hz k.2.2.1, kw_cell h hz k.2.2.2.1, kw_cell h hz k.2.2.2.2.1, kw_cell h hz k.2.2.2.2.2⟩
theorem TrN.kw {Z : Nat → Prop} {C : Nat} {W W' : World} {B : Nat} {F : Int} {g cap : Nat} {wv : Value} {L : List Nd} (k : TrN W B F g cap wv L) (h : KW Z C W W') (h1 : Z B ∨ C ≤ B) (h2 : Z g ∨ C ≤ g) : TrN W' B F g cap wv L := ⟨kw_cell h h1 k.w, kw_cell h h1 k.n, kw_cell h h1 k.o, fun j hj => (k.row j hj).kw h h2⟩
/-- The receiver's own copy. -/
def AtW8 (W : World) (N0 B : Nat) (x : BitVec 128) : Prop := W.cell? ⟨N0, 0, none⟩ = some (.pointer (some ⟨B, 0, none⟩)) ∧ W.cell? ⟨N0, 1, none⟩ = some (.int .u64 (hI x)) ∧ W.cell? ⟨N0, 2, none⟩ = some (.int .u64 (lI x))
theorem AtW8.below {W W' : World} {N0 B : Nat} {x : BitVec 128} (k : AtW8 W N0 B x) (hb : Below W.heap.size W W') : AtW8 W' N0 B x := ⟨keepc hb k.1, keepc hb k.2.1, keepc hb k.2.2⟩
theorem AtW8.kw {Z : Nat → Prop} {C : Nat} {W W' : World} {N0 B : Nat} {x : BitVec 128} (k : AtW8 W N0 B x) (h : KW Z C W W') (hz : Z N0 ∨ C ≤ N0) : AtW8 W' N0 B x := ⟨kw_cell h hz k.1, kw_cell h hz k.2.1, kw_cell h hz k.2.2⟩
end Go.Proofs.Ytnaghiipfgdimaa
/-
  What a tree's Path and Lookup tell.
-/
namespace Go.Proofs.Ytnaghiipfgdimaa
open Go.RowKit Go.Shelf
set_option linter.unusedSimpArgs false
set_option linter.unusedVariables false
attribute [local go_sem] Oper.semAt_some

theorem wl_nil8 {P : Program} {ops : Array Oper} {Q : Exit → Act → World → Prop} {a : Act} {w : World} (h : wpList P ops Q [] a w) : Q .normal a w := h
/-- The last next hop on a way. -/
def lastH (L : List Nd) : List Int → Int → Int
  | [], h => h
  | n :: l, h => lastH L l (if 0 < (ndAt L n).hop then (ndAt L n).hop else h)
theorem lastH_one (L : List Nd) : ∀ (l : List Int) (n h : Int), lastH L (l ++ [n]) h = if 0 < (ndAt L n).hop then (ndAt L n).hop else lastH L l h
  | [], n, h => rfl
  | m :: l, n, h => lastH_one L l n _
theorem AtN.kept {W W' : World} {b o : Nat} {x : Nd} (k : AtN W b o x) {row : Option Nat} (hg : W.grownBy W' row) (hr : ∀ r, row = some r → ∃ o : Obj, W.heap[r]? = some o ∧ o.isCells = false) : AtN W' b o x := ⟨cell_kept k.1 hg hr, cell_kept k.2.1 hg hr, cell_kept k.2.2.1 hg hr, cell_kept k.2.2.2.1 hg hr, cell_kept k.2.2.2.2.1 hg hr, cell_kept k.2.2.2.2.2 hg hr⟩
theorem TrN.kept {W W' : World} {B : Nat} {F : Int} {g cap : Nat} {wv : Value} {L : List Nd} (k : TrN W B F g cap wv L) {row : Option Nat} (hg : W.grownBy W' row) (hr : ∀ r, row = some r → ∃ o : Obj, W.heap[r]? = some o ∧ o.isCells = false) : TrN W' B F g cap wv L := ⟨cell_kept k.w hg hr, cell_kept k.n hg hr, cell_kept k.o hg hr, fun j hj => (k.row j hj).kept hg hr⟩
theorem AtN.heap {W W' : World} {b o : Nat} {x : Nd} (k : AtN W b o x) (e : W'.heap[b]? = W.heap[b]?) : AtN W' b o x := ⟨(World.cell?_of_block (a := ⟨b, o, none⟩) e).trans k.1, (World.cell?_of_block (a := ⟨b, o + 1, none⟩) e).trans k.2.1, (World.cell?_of_block (a := ⟨b, o + 2, none⟩) e).trans k.2.2.1, (World.cell?_of_block (a := ⟨b, o + 3, none⟩) e).trans k.2.2.2.1, (World.cell?_of_block (a := ⟨b, o + 4, none⟩) e).trans k.2.2.2.2.1, (World.cell?_of_block (a := ⟨b, o + 5, none⟩) e).trans k.2.2.2.2.2⟩
theorem TrN.heap {W W' : World} {B : Nat} {F : Int} {g cap : Nat} {wv : Value} {L : List Nd} (k : TrN W B F g cap wv L) (e : W'.heap[B]? = W.heap[B]?) (e2 : W'.heap[g]? = W.heap[g]?) : TrN W' B F g cap wv L := ⟨(World.cell?_of_block (a := ⟨B, 0, none⟩) e).trans k.w, (World.cell?_of_block (a := ⟨B, 1, none⟩) e).trans k.n, (World.cell?_of_block (a := ⟨B, 2, none⟩) e).trans k.o, fun j hj => (k.row j hj).heap e2⟩
end Go.Proofs.Ytnaghiipfgdimaa
/-
  What a tree's At tells.
-/
namespace Go.Proofs.Ytnaghiipfgdimaa
open Go.RowKit Go.Shelf
set_option linter.unusedSimpArgs false
set_option linter.unusedVariables false
attribute [local go_sem] Oper.semAt_some

theorem gh_quiet8 {P : Program} {o : Oper} {a' : Act} {w' : World} {K : Act → World → Prop} {Q' : Exit → Act → World → Prop} {v : Value} (hr : (execOp a'.eval o).run P w' = .ok (.value v) w') (hK : K (a'.put o.dst v) w') : o.wp P a' w' K Q' := by
  unfold Oper.wp
  rw [hr]
  exact hK
theorem gh_same8 {x y : Array Value} {d s : Nat} (h : x.toList.eraseIdx d = y.toList.eraseIdx d) (hs : s ≠ d) : x[s]? = y[s]? := by
  have := erase_get x.toList y.toList d s h hs
  simpa using this
theorem Slt.old8 {l : List Oper} {a A : Act} {lp : Array Bool} {a' : Act} (h : Slt l a A lp a') (s : Nat) (hs : ∀ o ∈ l, o.dst ≠ some s) : a'.tmps[s]? = a.tmps[s]? := h.oth s (fun k o hk _ => hs o (List.mem_of_getElem? hk))
theorem AtP.set8 {W : World} {B : Nat} {px : BitVec 128} {pn : Int} (k : AtP W B px pn) (z : BitVec 128) (n : Int) : AtP (((W.setCell ⟨B, 0, none⟩ (.int .u64 (hI z))).setCell ⟨B, 1, none⟩ (.int .u64 (lI z))).setCell ⟨B, 2, none⟩ (.int .i64 n)) B z n := by
  obtain ⟨c0, c1, c2, f0, f1, f2⟩ := k
  refine ⟨?_, ?_, ?_, ?_, ?_, ?_⟩ <;> simp [go_sem, *]
structure RA (V : World) (cx : BitVec 128) (nn : Int) (b5 b6 : Bool) (g : Nat) (W : World) : Prop where
  bel : Below V.heap.size V W
  a : b5 = true → V.heap.size ≤ g ∧ (if b6 = true then AtP W g cx nn else AtP W g 0#128 0)
  c : b6 = true → b5 = true
theorem RA.below {V : World} {cx : BitVec 128} {nn : Int} {b5 b6 : Bool} {g : Nat} {W W' : World} (k : RA V cx nn b5 b6 g W) (hb : Below W.heap.size W W') : RA V cx nn b5 b6 g W' := ⟨keepb hb k.bel, fun h => ⟨(k.a h).1, by have := (k.a h).2; cases b6 <;> simp at this ⊢ <;> exact this.below hb⟩, k.c⟩
theorem RA.al {V : World} {cx : BitVec 128} {nn : Int} {b6 : Bool} {g : Nat} {W : World} (k : RA V cx nn false b6 g W) : RA V cx nn true b6 W.heap.size (W.alloc (.cells #[.int .u64 0, .int .u64 0, .int .i64 0] 38)) := by
  have h6 : b6 = false := by
    cases h : b6 with
    | false => rfl
    | true => exact absurd (k.c h) (by decide)
  have hb := bl1 W (.cells #[.int .u64 0, .int .u64 0, .int .i64 0] 38)
  have ha := atp_new W W.heap.size 0#128 0 38 rfl
  rw [hI_zero, lI_zero] at ha
  exact ⟨keepb hb k.bel, fun _ => ⟨k.bel.size, by rw [h6, if_neg (by decide)]; exact ha⟩, fun _ => rfl⟩
theorem RA.st {V : World} {cx : BitVec 128} {nn : Int} {b5 : Bool} {g : Nat} {W : World} (k : RA V cx nn b5 false g W) (h5 : b5 = true) : RA V cx nn b5 true g (((W.setCell ⟨g, 0, none⟩ (.int .u64 (hI cx))).setCell ⟨g, 1, none⟩ (.int .u64 (lI cx))).setCell ⟨g, 2, none⟩ (.int .i64 nn)) := by
  obtain ⟨h1, h2⟩ := k.a h5
  rw [if_neg (by decide)] at h2
  exact ⟨((k.bel.setCell (p := ⟨g, 0, none⟩) h1 _).setCell (p := ⟨g, 1, none⟩) h1 _).setCell (p := ⟨g, 2, none⟩) h1 _, fun _ => ⟨h1, by rw [if_pos rfl]; exact h2.set8 cx nn⟩, fun _ => h5⟩

end Go.Proofs.Ytnaghiipfgdimaa
/-
  How many nodes a table's tree has: size.
-/
namespace Go.Proofs.Ytnaghiipfgdimaa
open Go.RowKit Go.Shelf
set_option linter.unusedSimpArgs false
set_option linter.unusedVariables false

theorem fldP1 (a b c : Int) (w : World) : (Instr.field 38 (.agg #[.int .u64 a, .int .u64 b, .int .i64 c]) 1).run Try.prog w = .ok (.int .i64 c) w := by kernel_rfl
def szG (n : Int) (last : BitVec 128 × Int) : List Rte → Int
  | [] => n
  | r :: l => szG (n + (r.1.2 - meetN last.1 last.2 r.1.1 r.1.2)) r.1 l
theorem meet_bd (x : BitVec 128) (n : Int) (y : BitVec 128) (m : Int) (h0 : 0 ≤ n) (h1 : 0 ≤ m) : 0 ≤ meetN x n y m ∧ meetN x n y m ≤ m := by
  unfold meetN
  omega
theorem sz_bd : ∀ (l : List Rte) (n : Int) (last : BitVec 128 × Int), 0 ≤ last.2 → (∀ r ∈ l, 0 ≤ r.1.2 ∧ r.1.2 ≤ 128) → n ≤ szG n last l ∧ szG n last l ≤ n + 128 * l.length
  | [], n, last, _, _ => by simp [szG]
  | r :: l, n, last, h0, h => by
    have hr := h r (List.mem_cons_self ..)
    have mb := meet_bd last.1 last.2 r.1.1 r.1.2 h0 hr.1
    have := sz_bd l (n + (r.1.2 - meetN last.1 last.2 r.1.1 r.1.2)) r.1 hr.1 (fun q hq => h q (List.mem_cons_of_mem _ hq))
    rw [szG, List.length_cons]
    push_cast
    omega
end Go.Proofs.Ytnaghiipfgdimaa
