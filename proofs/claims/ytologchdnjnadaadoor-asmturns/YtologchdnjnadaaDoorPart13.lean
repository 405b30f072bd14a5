/-
  Part 13 of the proof: 2 texts, one behind the other.
-/
import Derived.Test.YtologchdnjnadaaDoorPart11
/-
  A reader of code's text: line.
-/
namespace Go.Proofs.YtologchdnjnadaaDoor
open Go.RowKit
set_option linter.unusedSimpArgs false
set_option linter.unusedVariables false
attribute [local go_sem] Oper.semAt_some

set_option maxRecDepth 20000
theorem arr65a (t : Array Value) (h : t.size = 65) : ∃ u : Nat → Value, (∀ i, u i = t.getD i undef) ∧ t = #[u 0, u 1, u 2, u 3, u 4, u 5, u 6, u 7, u 8, u 9, u 10, u 11, u 12, u 13, u 14, u 15, u 16, u 17, u 18, u 19, u 20, u 21, u 22, u 23, u 24, u 25, u 26, u 27, u 28, u 29, u 30, u 31, u 32, u 33, u 34, u 35, u 36, u 37, u 38, u 39, u 40, u 41, u 42, u 43, u 44, u 45, u 46, u 47, u 48, u 49, u 50, u 51, u 52, u 53, u 54, u 55, u 56, u 57, u 58, u 59, u 60, u 61, u 62, u 63, u 64] := by
  refine ⟨fun i => t.getD i undef, fun _ => rfl, ?_⟩
  obtain ⟨l⟩ := t
  have h' : l.length = 65 := h
  have e : l = (List.range 65).map (fun i => (⟨l⟩ : Array Value).getD i undef) := by
    apply List.ext_getElem
    · simp [h']
    · intro i h1 h2
      simp [Array.getD, h1]
  have e2 : (List.range 65).map (fun i => (⟨l⟩ : Array Value).getD i undef) = [(⟨l⟩ : Array Value).getD 0 undef, (⟨l⟩ : Array Value).getD 1 undef, (⟨l⟩ : Array Value).getD 2 undef, (⟨l⟩ : Array Value).getD 3 undef, (⟨l⟩ : Array Value).getD 4 undef, (⟨l⟩ : Array Value).getD 5 undef, (⟨l⟩ : Array Value).getD 6 undef, (⟨l⟩ : Array Value).getD 7 undef, (⟨l⟩ : Array Value).getD 8 undef, (⟨l⟩ : Array Value).getD 9 undef, (⟨l⟩ : Array Value).getD 10 undef, (⟨l⟩ : Array Value).getD 11 undef, (⟨l⟩ : Array Value).getD 12 undef, (⟨l⟩ : Array Value).getD 13 undef, (⟨l⟩ : Array Value).getD 14 undef, (⟨l⟩ : Array Value).getD 15 undef, (⟨l⟩ : Array Value).getD 16 undef, (⟨l⟩ : Array Value).getD 17 undef, (⟨l⟩ : Array Value).getD 18 undef, (⟨l⟩ : Array Value).getD 19 undef, (⟨l⟩ : Array Value).getD 20 undef, (⟨l⟩ : Array Value).getD 21 undef, (⟨l⟩ : Array Value).getD 22 undef, (⟨l⟩ : Array Value).getD 23 undef, (⟨l⟩ : Array Value).getD 24 undef, (⟨l⟩ : Array Value).getD 25 undef, (⟨l⟩ : Array Value).getD 26 undef, (⟨l⟩ : Array Value).getD 27 undef, (⟨l⟩ : Array Value).getD 28 undef, (⟨l⟩ : Array Value).getD 29 undef, (⟨l⟩ : Array Value).getD 30 undef, (⟨l⟩ : Array Value).getD 31 undef, (⟨l⟩ : Array Value).getD 32 undef, (⟨l⟩ : Array Value).getD 33 undef, (⟨l⟩ : Array Value).getD 34 undef, (⟨l⟩ : Array Value).getD 35 undef, (⟨l⟩ : Array Value).getD 36 undef, (⟨l⟩ : Array Value).getD 37 undef, (⟨l⟩ : Array Value).getD 38 undef, (⟨l⟩ : Array Value).getD 39 undef, (⟨l⟩ : Array Value).getD 40 undef, (⟨l⟩ : Array Value).getD 41 undef, (⟨l⟩ : Array Value).getD 42 undef, (⟨l⟩ : Array Value).getD 43 undef, (⟨l⟩ : Array Value).getD 44 undef, (⟨l⟩ : Array Value).getD 45 undef, (⟨l⟩ : Array Value).getD 46 undef, (⟨l⟩ : Array Value).getD 47 undef, (⟨l⟩ : Array Value).getD 48 undef, (⟨l⟩ : Array Value).getD 49 undef, (⟨l⟩ : Array Value).getD 50 undef, (⟨l⟩ : Array Value).getD 51 undef, (⟨l⟩ : Array Value).getD 52 undef, (⟨l⟩ : Array Value).getD 53 undef, (⟨l⟩ : Array Value).getD 54 undef, (⟨l⟩ : Array Value).getD 55 undef, (⟨l⟩ : Array Value).getD 56 undef, (⟨l⟩ : Array Value).getD 57 undef, (⟨l⟩ : Array Value).getD 58 undef, (⟨l⟩ : Array Value).getD 59 undef, (⟨l⟩ : Array Value).getD 60 undef, (⟨l⟩ : Array Value).getD 61 undef, (⟨l⟩ : Array Value).getD 62 undef, (⟨l⟩ : Array Value).getD 63 undef, (⟨l⟩ : Array Value).getD 64 undef] := rfl
  rw [e2] at e
  exact congrArg _ e

/-- By a goto: what is asked of its label; else as Q. -/
def jumps15 (J : Nat → Act → World → Prop) (Q : Exit → Act → World → Prop) : Exit → Act → World → Prop
  | .goto l, a, w => J l a w
  | e, a, w => Q e a w
theorem jumps_ret15 {J : Nat → Act → World → Prop} {Q : Exit → Act → World → Prop} {a : Act} {w : World} (h : Q .ret a w) : jumps15 J Q .ret a w := h
theorem jumps_goto15 {J : Nat → Act → World → Prop} {Q : Exit → Act → World → Prop} {a : Act} {w : World} {l : Nat} (h : J l a w) : jumps15 J Q (.goto l) a w := h
theorem scope_all15 {P : Program} {a : Act} {w : World} {Q : Exit → Act → World → Prop} {c : Code} (J : Nat → Act → World → Prop) (μ : Nat → Act → World → Nat)
    (first : c.wp P (jumps15 J Q) a w)
    (pass : ∀ l a w, J l a w → ∃ rst, findLabel c l = some rst ∧ rst.wp P (jumps15 (fun l' a' w' => J l' a' w' ∧ μ l' a' w' < μ l a w) Q) a w) : (Code.scope c).wp P Q a w := by
  intro b k cs
  have hg : ∀ l rst, findLabel c l = some rst → gotoIn l (.inScope c :: k) = some (.code rst :: .inScope c :: k) := fun l rst h => by simp [gotoIn, h]
  have key : ∀ n l a w, μ l a w = n → J l a w → ∃ rst, findLabel c l = some rst ∧ ∃ e a' w', Q e a' w' ∧ Arrives P (lone (b.at a (.code rst :: .inScope c :: k)) cs w) b k cs e a' w' := by
    intro n
    induction n using Nat.strongRecOn with
    | _ n ih =>
      intro l a w hn hJ
      obtain ⟨rst, hrst, hp⟩ := pass l a w hJ
      refine ⟨rst, hrst, ?_⟩
      obtain ⟨e, a₁, w₁, hq, harr⟩ := hp b (.inScope c :: k) cs
      cases e with
      | normal => exact ⟨.normal, a₁, w₁, hq, Steps.trans harr (.one step_inScope)⟩
      | exit id => exact ⟨.exit id, a₁, w₁, hq, fun k' hk => harr k' (by simp [exitTo, hk])⟩
      | goto l' =>
        obtain ⟨hJ', hlt⟩ := hq
        obtain ⟨rst2, hr2, e₂, a₂, w₂, hq₂, harr₂⟩ := ih _ (by omega) l' a₁ w₁ rfl hJ'
        exact ⟨e₂, a₂, w₂, hq₂, .of_steps (harr _ (hg l' _ hr2)) harr₂⟩
      | ret => exact ⟨_, a₁, w₁, hq, harr⟩
      | panic ch => exact ⟨_, a₁, w₁, hq, harr⟩
      | outgrown => exact ⟨_, a₁, w₁, hq, harr⟩
  obtain ⟨e, a₁, w₁, hq, harr⟩ := first b (.inScope c :: k) cs
  cases e with
  | normal => exact ⟨.normal, a₁, w₁, hq, .head step_scope (Steps.trans harr (.one step_inScope))⟩
  | exit id => exact ⟨.exit id, a₁, w₁, hq, fun k' hk => .head step_scope (harr k' (by simp [exitTo, hk]))⟩
  | goto l' =>
    obtain ⟨rst2, hr2, e₂, a₂, w₂, hq₂, harr₂⟩ := key _ l' a₁ w₁ rfl hq
    exact ⟨e₂, a₂, w₂, hq₂, .of_steps (.head step_scope (harr _ (hg l' _ hr2))) harr₂⟩
  | ret => exact ⟨_, a₁, w₁, hq, .of_steps (.one step_scope) harr⟩
  | panic ch => exact ⟨_, a₁, w₁, hq, .of_steps (.one step_scope) harr⟩
  | outgrown => exact ⟨_, a₁, w₁, hq, .of_steps (.one step_scope) harr⟩
/-- The memory of a line's reading: the instruction in a block of its own, its map a row of its own. -/
structure LnM (w : World) (R : Nat) (s : ByteArray) (a o n : Int) (vm : Value) (M : List (BitVec 32)) (W : World) : Prop where
  r : RdA W R s a
  b : Bs R w W
  i : W.heap[w.heap.size]? = some (.cells #[.int .i64 o, .int .i64 n, vm] 45)
  m : W.ownsRow w.heap.size 48 1 vm M.length (M.map cU)
  x : vm.ownBlock ≠ some w.heap.size
section
variable {w W W' : World} {R : Nat} {s : ByteArray} {a o n : Int} {vm : Value} {M : List (BitVec 32)}
theorem LnM.below (h : LnM w R s a o n vm M W) (hb : Below W.heap.size W W') : LnM w R s a o n vm M W' :=
  ⟨h.r.below hb, h.b.trans (Bs.ofB hb), by rw [hb.block _ (lt_b15 h.i)]; exact h.i, own_b13 hb h.m, h.x⟩
theorem Bs.own15 {V X : World} {base e size k : Nat} {v : Value} {xs : List Value} (h : Bs R V X) (ho : V.ownsRow base e size v k xs) (hn : v.ownBlock ≠ some R) : X.ownsRow base e size v k xs := by
  refine ho.kept (row := some R) ⟨h.os, h.tape, h.output, h.size, fun z hz hk => h.blk z hz (fun e => hk (by rw [e]))⟩ (.inr hn)
theorem LnM.calls {a' : Int} (h : LnM w R s a o n vm M W) (hw : R < w.heap.size) (hb : Bs R W W') (hr : RdA W' R s a') : LnM w R s a' o n vm M W' :=
  ⟨hr, h.b.trans hb, by rw [hb.blk _ (lt_b15 h.i) (by omega)]; exact h.i, hb.own15 h.m (fun e => by have := (h.m.lt _ e).1; omega), h.x⟩
theorem LnM.cells (h : LnM w R s a o n vm M W) : W.cell? ⟨w.heap.size, 0, none⟩ = some (.int .i64 o) ∧ W.cell? ⟨w.heap.size, 1, none⟩ = some (.int .i64 n) ∧ W.cell? ⟨w.heap.size, 2, none⟩ = some vm := ⟨at_b15 h.i 0 _ rfl, at_b15 h.i 1 _ rfl, at_b15 h.i 2 _ rfl⟩
theorem LnM.free (h : LnM w R s a o n vm M W) (j : Nat) : W.frozen? ⟨w.heap.size, j, none⟩ = false := fr_b15 h.i
theorem Bs.set_new {V X : World} {g o : Nat} (h : Bs R V X) (hg : V.heap.size ≤ g) (u : Value) : Bs R V (X.setCell ⟨g, o, none⟩ u) :=
  ⟨h.os, h.tape, h.output, by simp [World.setCell]; exact h.size, fun z hz hn => by rw [Below.heap_setCell _ ⟨g, o, none⟩ _ _ (by simp; omega)]; exact h.blk z hz hn⟩
theorem own_set15 {X : World} {base e size k g j : Nat} {v u : Value} {xs : List Value} (ho : X.ownsRow base e size v k xs) (hn : v.ownBlock ≠ some g) : (X.setCell ⟨g, j, none⟩ u).ownsRow base e size v k xs :=
  ho.kept (row := some g) ⟨rfl, rfl, rfl, by simp [World.setCell], fun z _ hk => Below.heap_setCell _ _ _ _ (fun e => hk (by simp [e]))⟩ (.inr hn)
theorem LnM.setO (h : LnM w R s a o n vm M W) (hw : R < w.heap.size) (o' : Int) : LnM w R s a o' n vm M (W.setCell ⟨w.heap.size, 0, none⟩ (.int .i64 o')) :=
  ⟨by unfold RdA; rw [Below.heap_setCell _ ⟨w.heap.size, 0, none⟩ _ _ (by simp; omega)]; exact h.r, h.b.set_new (Nat.le_refl _) _, by simpa using set_b15 (o := 0) h.i (.int .i64 o'), own_set15 h.m h.x, h.x⟩
theorem LnM.setN (h : LnM w R s a o n vm M W) (hw : R < w.heap.size) (n' : Int) : LnM w R s a o n' vm M (W.setCell ⟨w.heap.size, 1, none⟩ (.int .i64 n')) :=
  ⟨by unfold RdA; rw [Below.heap_setCell _ ⟨w.heap.size, 1, none⟩ _ _ (by simp; omega)]; exact h.r, h.b.set_new (Nat.le_refl _) _, by simpa using set_b15 (o := 1) h.i (.int .i64 n'), own_set15 h.m h.x, h.x⟩
theorem Bs.grown15 {V X Y : World} {r : Option Nat} (h : Bs R V X) (hg : X.grownBy Y r) (hr : ∀ z, r = some z → V.heap.size ≤ z) : Bs R V Y :=
  ⟨by rw [hg.os, h.os], by rw [hg.tape, h.tape], by rw [hg.output, h.output], Nat.le_trans h.size hg.size, fun z hz hn => by rw [hg.block z (by have := h.size; omega) (fun e => by have := hr z e.symm; omega)]; exact h.blk z hz hn⟩
/-- A word laid behind the map. -/
theorem LnM.app {v' : Value} {x : BitVec 32} (h : LnM w R s a o n vm M W) (hw : R < w.heap.size) (hg : W.grownBy W' vm.ownBlock) (ho : W'.ownsRow w.heap.size 48 1 v' (M ++ [x]).length ((M ++ [x]).map cU)) : LnM w R s a o n v' (M ++ [x]) (W'.setCell ⟨w.heap.size, 2, none⟩ v') := by
  have hi : W'.heap[w.heap.size]? = some (.cells #[.int .i64 o, .int .i64 n, vm] 45) := by rw [hg.block _ (lt_b15 h.i) (fun e => h.x e.symm)]; exact h.i
  have hx : v'.ownBlock ≠ some w.heap.size := Lib.ownBlock_ne ho hi (by decide)
  refine ⟨?_, (h.b.grown15 hg (fun z e => (h.m.lt z e).1)).set_new (Nat.le_refl _) _, by simpa using set_b15 (o := 2) hi v', own_set15 ho hx, hx⟩
  unfold RdA
  rw [Below.heap_setCell _ ⟨w.heap.size, 2, none⟩ _ _ (by simp; omega), hg.block _ h.r.lt (fun e => by have := (h.m.lt _ e.symm).1; omega)]
  exact h.r
end
/-- What is known at the labels: wrong, bareWord, mapWord, instruction. -/
def LnJ (w : World) (R : Nat) (s : ByteArray) (k : Nat) (res : LnR) (l : Nat) (W : World) : Prop :=
  (l = 0 ∧ res = (5, [], 0) ∧ ∃ a o n vm M, LnM w R s a o n vm M W) ∨
  (l = 1 ∧ ∃ (j : Nat) (o n : Int) (vm : Value) (M : List (BitVec 32)), j ≤ s.size ∧ k ≤ j ∧ res = bwR (fr s j) (j - k) ∧ LnM w R s j o n vm M W) ∨
  (l = 2 ∧ ∃ (j f : Nat) (n : Int) (vm : Value) (M : List (BitVec 32)), j ≤ s.size ∧ k ≤ j ∧ 9 * M.length ≤ j ∧ (fr s j).length < f ∧ res = mwR n M f (fr s j) (j - k) ∧ LnM w R s j 2 n vm M W) ∨
  (l = 3 ∧ ∃ (j : Nat) (o n : Int) (vm : Value) (M : List (BitVec 32)), j ≤ s.size ∧ k ≤ j ∧ M.length ≤ s.size ∧ res = inR o n M (j - k) ∧ LnM w R s j o n vm M W)
def muL (s : ByteArray) (R : Nat) (l : Nat) (W : World) : Nat := if l = 2 then 2 + (s.size - atA R W) else if l = 0 then 0 else 1
set_option maxHeartbeats 16000000 in
theorem rline_any (R : Nat) (s : ByteArray) (k : Nat) (w : World) (h : RdA w R s k) (hk : k ≤ s.size) (hs : s.size ≤ 1000000000) (hN : Nm w) (hR : 0 ≠ R) :
    Calls Tryd.prog 21 #[.pointer (some ⟨R, 0, none⟩)] w fun e w' => ∃ v' a, e = .returned (.tuple #[v', .int .i64 (lnR (fr s k)).1]) ∧ w'.ownsRow w.heap.size 5 1 v' (lnR (fr s k)).2.1.length ((lnR (fr s k)).2.1.map cB) ∧ RdA w' R s a ∧ Bs R w w' ∧ ((lnR (fr s k)).1 = 0 → a = ((k + (lnR (fr s k)).2.2 : Nat) : Int) ∧ k + (lnR (fr s k)).2.2 ≤ s.size) := by
  obtain ⟨res, hres⟩ : ∃ res, res = lnR (fr s k) := ⟨_, rfl⟩
  rw [← hres]
  have hRw := h.lt
  have HRw := hid13 hRw
  have q1 := bl1 w (.cells #[.int .i64 0, .int .i64 0, .slice none 0 0] 45)
  have HM0 : Hid (LnM w R s k 0 0 (.slice none 0 0) [] (w.alloc (.cells #[.int .i64 0, .int .i64 0, .slice none 0 0] 45)) ∧ Nm (w.alloc (.cells #[.int .i64 0, .int .i64 0, .slice none 0 0] 45))) := hid13 ⟨⟨h.below q1, Bs.ofB q1, Array.getElem?_push_size, World.ownsRow_nil _ _ _ _, by intro e; cases e⟩, hN.below q1⟩
  have HRES := hid13 hres
  have HK : Hid (k ≤ s.size ∧ s.size ≤ 1000000000 ∧ 0 ≠ R) := ⟨hk, hs, hR⟩
  clear h hN q1 hres hRw hk hs hR
  go_enter Tryd.func21, Tryd.ntmps21
  go_wp2_with fail
  refine scope_all15 (fun l a' W => a'.tmps.size = 65 ∧ a'.tmps.getD 0 undef = .pointer (some ⟨R, 0, none⟩) ∧ a'.tmps.getD 2 undef = .slice none 0 0 ∧ a'.tmps.getD 3 undef = .int .i64 0 ∧ a'.tmps.getD 4 undef = .pointer (some ⟨w.heap.size, 0, none⟩) ∧ a'.defers = [] ∧ Hid (LnJ w R s k res l W)) (fun l _ W => muL s R l W) ?first ?pass
  case first =>
    have KN := rname_any R s k _ HM0.out.1.r HK.out.1 HK.out.2.1 HM0.out.2 HK.out.2.2
    cases hn : nmP (fr s k) with
    | none =>
      rw [hn] at KN
      simp only [nmV, nmC, Option.getD_none, Option.isSome_none] at KN
      have HR : Hid (res = (5, [], 0)) := hid13 (by rw [HRES.out]; unfold lnR; rw [hn])
      clear hn
      go_wp2_with fail
      refine KN.mono ?_
      rintro e w1 ⟨rfl, h1, h2⟩
      have HM1 := hid13 (HM0.out.1.calls HRw.out h2 h1)
      have c0 := HM1.out.cells.1
      have f0 := HM1.out.free 0
      have HM2 := hid13 (HM1.out.setO HRw.out 0)
      clear KN h1 h2 HM0 HM1
      go_wp2
      refine wp_goto ?_
      exact And.intro (by first | rfl | trivial) (And.intro (by first | rfl | trivial) (And.intro (by first | rfl | trivial) (And.intro (by first | rfl | trivial) (And.intro (by first | rfl | trivial) (And.intro (by first | rfl | trivial) (hid13 (.inl ⟨rfl, HR.out, _, _, _, _, _, HM2.out⟩)))))))
    | some op =>
      have hop := nmP_lt hn
      have hln := nm_len hn
      rw [fr_len] at hln
      rw [hn] at KN
      simp only [nmV, nmC, Option.getD_some, Option.isSome_some] at KN
      obtain ⟨j1, hj1⟩ : ∃ j1, j1 = k + (nmL op).length := ⟨_, rfl⟩
      rw [← hj1] at KN
      have HJ1 : Hid (j1 ≤ s.size ∧ k ≤ j1 ∧ j1 - k = (nmL op).length) := hid13 ⟨by have := HK.out.1; omega, by omega, by omega⟩
      by_cases ho : op = 0
      · subst ho
        have HR : Hid (res = bwR (fr s j1) (j1 - k)) := hid13 (by rw [HRES.out, HJ1.out.2.2, hj1]; unfold lnR; rw [hn]; show bwR ((fr s k).drop 4) 4 = _; rw [fr_drop]; rfl)
        clear hn hop hln hj1
        go_wp2_with fail
        refine KN.mono ?_
        rintro e w1 ⟨rfl, h1, h2⟩
        have HM1 := hid13 (HM0.out.1.calls HRw.out h2 h1)
        have c0 := HM1.out.cells.1
        have f0 := HM1.out.free 0
        have HM2 := hid13 (HM1.out.setO HRw.out 0)
        clear KN h1 h2 HM0 HM1
        go_wp2
        refine wp_goto ?_
        exact And.intro (by first | rfl | trivial) (And.intro (by first | rfl | trivial) (And.intro (by first | rfl | trivial) (And.intro (by first | rfl | trivial) (And.intro (by first | rfl | trivial) (And.intro (by first | rfl | trivial) (hid13 (.inr (.inl ⟨rfl, j1, _, _, _, _, HJ1.out.1, HJ1.out.2.1, HR.out, HM2.out⟩))))))))
      · have HR : Hid (res = nuR op (fr s j1) (j1 - k)) := hid13 (by rw [HRES.out, HJ1.out.2.2, hj1]; unfold lnR; rw [hn]; show (if op = 0 then _ else _) = _; rw [if_neg ho, fr_drop])
        have hoi : ((op : Int) == 0) = false := by rw [beq_eq_false_iff_ne]; omega
        have HO : Hid (op < 5) := hid13 hop.1
        clear hn hop hln hj1 ho
        go_wp2_with fail
        refine KN.mono ?_
        rintro e w1 ⟨rfl, h1, h2⟩
        have HM1 := hid13 (HM0.out.1.calls HRw.out h2 h1)
        have c0 := HM1.out.cells.1
        have f0 := HM1.out.free 0
        have HM2 := hid13 (HM1.out.setO HRw.out (op : Int))
        have KU := rnumber_any R s j1 _ HM2.out.r HJ1.out.1 HK.out.2.1
        have d0 := HM2.out.cells.1
        clear KN h1 h2 HM0 HM1
        generalize hW2 : w1.setCell ⟨w.heap.size, 0, none⟩ (.int .i64 (op : Int)) = W2 at *
        go_wp2_with fail
        clear c0 f0 hW2
        refine KU.mono ?_
        rintro e w3 ⟨x, a, rfl, h1, h2, h3⟩
        have HM3 := hid13 (HM2.out.calls HRw.out h2 h1)
        have c1 := HM3.out.cells.2.1
        have f1 := HM3.out.free 1
        have e0 := HM3.out.cells.1
        have H3 := hid13 h3
        clear KU h1 h2 h3 HM2 d0
        cases hu : nuP (fr s j1) with
        | none =>
          have HR2 : Hid (res = (5, [], 0)) := hid13 (by rw [HR.out]; unfold nuR; rw [hu])
          have HM4 := hid13 (HM3.out.setN HRw.out x)
          clear hu HM3
          go_wp2
          refine wp_goto ?_
          exact And.intro (by first | rfl | trivial) (And.intro (by first | rfl | trivial) (And.intro (by first | rfl | trivial) (And.intro (by first | rfl | trivial) (And.intro (by first | rfl | trivial) (And.intro (by first | rfl | trivial) (hid13 (.inl ⟨rfl, HR2.out, _, _, _, _, _, HM4.out⟩)))))))
        | some nc =>
          obtain ⟨n, c⟩ := nc
          obtain ⟨hx, ha⟩ := H3.out n c hu
          have hcl := nu_len hu
          rw [fr_len] at hcl
          subst hx
          obtain ⟨j2, hj2⟩ : ∃ j2, j2 = j1 + c := ⟨_, rfl⟩
          rw [← hj2] at ha
          subst ha
          have HJ2 : Hid (j2 ≤ s.size ∧ k ≤ j2 ∧ j2 - k = j1 - k + c) := hid13 ⟨by have := HJ1.out; omega, by have := HJ1.out; omega, by have := HJ1.out; omega⟩
          have HR2 : Hid (res = if op = 2 then mwR n [] ((fr s j2).length + 1) (fr s j2) (j2 - k) else if enP (fr s j2) = true then inR op n [] (j2 - k) else (5, [], 0)) := hid13 (by rw [HR.out, HJ2.out.2.2, hj2]; unfold nuR; rw [hu]; simp only [fr_drop])
          have HM4 := hid13 (HM3.out.setN HRw.out (n : Int))
          have g0 := HM4.out.cells.1
          clear hu HM3 H3 hcl hj2 HR
          generalize hW4 : w3.setCell ⟨w.heap.size, 1, none⟩ (.int .i64 (n : Int)) = W4 at *
          by_cases ho2 : op = 2
          · subst ho2
            have HR3 : Hid (res = mwR n [] ((fr s j2).length + 1) (fr s j2) (j2 - k)) := hid13 (by rw [HR2.out, if_pos rfl])
            clear HR2
            go_wp2
            refine wp_goto ?_
            exact And.intro (by first | rfl | trivial) (And.intro (by first | rfl | trivial) (And.intro (by first | rfl | trivial) (And.intro (by first | rfl | trivial) (And.intro (by first | rfl | trivial) (And.intro (by first | rfl | trivial) (hid13 (.inr (.inr (.inl ⟨rfl, j2, _, _, _, [], HJ2.out.1, HJ2.out.2.1, by simp, Nat.lt_succ_self _, HR3.out, HM4.out⟩)))))))))
          · have ho3 : ((op : Int) == 2) = false := by rw [beq_eq_false_iff_ne]; omega
            have HR3 : Hid (res = if enP (fr s j2) = true then inR op n [] (j2 - k) else (5, [], 0)) := hid13 (by rw [HR2.out, if_neg ho2])
            have KE := ended_any R s j2 W4 HM4.out.r HJ2.out.1 HK.out.2.1
            rw [hr_en s j2 HJ2.out.1] at KE
            clear HR2 ho2
            go_wp2_with fail
            clear c1 f1 e0 hW4
            refine KE.mono ?_
            rintro e w5 ⟨rfl, hb5⟩
            have HM5 := hid13 (HM4.out.below hb5)
            clear KE hb5 HM4 g0
            cases he : enP (fr s j2) with
            | true =>
              have HR4 : Hid (res = inR op n [] (j2 - k)) := hid13 (by rw [HR3.out, if_pos he])
              clear he HR3
              go_wp2
              refine wp_goto ?_
              exact And.intro (by first | rfl | trivial) (And.intro (by first | rfl | trivial) (And.intro (by first | rfl | trivial) (And.intro (by first | rfl | trivial) (And.intro (by first | rfl | trivial) (And.intro (by first | rfl | trivial) (hid13 (.inr (.inr (.inr ⟨rfl, j2, _, _, _, [], HJ2.out.1, HJ2.out.2.1, by simp, HR4.out, HM5.out⟩)))))))))
            | false =>
              have HR4 : Hid (res = (5, [], 0)) := hid13 (by rw [HR3.out, if_neg (by rw [he]; decide)])
              clear he HR3
              go_wp2
              refine wp_goto ?_
              exact And.intro (by first | rfl | trivial) (And.intro (by first | rfl | trivial) (And.intro (by first | rfl | trivial) (And.intro (by first | rfl | trivial) (And.intro (by first | rfl | trivial) (And.intro (by first | rfl | trivial) (hid13 (.inl ⟨rfl, HR4.out, _, _, _, _, _, HM5.out⟩)))))))
  case pass =>
    clear HM0 HRES
    rintro l ⟨tm9, df⟩ W ⟨hsz, h0, h2, h3, h4, hdf, HJ⟩
    dsimp only at hsz h0 h2 h3 h4 hdf
    obtain ⟨u, hu, htm⟩ := arr65a tm9 hsz
    rw [← hu] at h0 h2 h3 h4
    rw [htm, hdf, h0, h2, h3, h4]
    clear hu htm hsz hdf h0 h2 h3 h4 tm9 df
    rcases HJ.out with ⟨rfl, hres, a, o, n, vm, M, hM⟩ | ⟨rfl, j, o, n, vm, M, hj, hkj, hres, hM⟩ | ⟨rfl, j, f, n, vm, M, hj, hkj, hMl, hf, hres, hM⟩ | ⟨rfl, j, o, n, vm, M, hj, hkj, hMl, hres, hM⟩
    · have HM := hid13 hM
      have HR := hid13 hres
      clear hM hres HJ
      refine ⟨_, by rfl, ?_⟩
      go_wp2
      refine jumps_ret15 ?_
      exact bodyPost_ret (v := .tuple #[.slice none 0 0, .int .i64 5]) (by simp [results, Tryd.results21, go_sem]) rfl ⟨_, _, by rw [HR.out], by rw [HR.out]; exact World.ownsRow_nil _ _ _ _, HM.out.r, HM.out.b, fun q => by rw [HR.out] at q; cases q⟩
    · have HM := hid13 hM
      have HR := hid13 hres
      have HJ1 : Hid (j ≤ s.size ∧ k ≤ j) := ⟨hj, hkj⟩
      have KW := rword_any R s j W hM.r hj HK.out.2.1
      clear hM hres HJ hj hkj
      refine ⟨_, by rfl, ?_⟩
      go_wp2_with fail
      refine KW.mono ?_
      rintro e w3 ⟨x, a, rfl, h1, h2, h3⟩
      have HM3 := hid13 (HM.out.calls HRw.out h2 h1)
      have H3 := hid13 h3
      clear KW h1 h2 h3 HM
      cases hw : wdP (fr s j) with
      | none =>
        have HR2 : Hid (res = (5, [], 0)) := hid13 (by rw [HR.out]; unfold bwR; rw [hw])
        clear hw H3
        go_wp2
        refine wp_goto ?_
        exact And.intro (And.intro (by first | rfl | trivial) (And.intro (by first | rfl | trivial) (And.intro (by first | rfl | trivial) (And.intro (by first | rfl | trivial) (And.intro (by first | rfl | trivial) (And.intro (by first | rfl | trivial) (hid13 (.inl ⟨rfl, HR2.out, _, _, _, _, _, HM3.out⟩)))))))) (by unfold muL; simp <;> omega)
      | some v =>
        obtain ⟨hx, hv, ha, hz⟩ := H3.out v hw
        subst hx ha
        have HR2 : Hid (res = if enP (fr s (j + 9)) = true then (0, by4 v, j - k + 9) else (5, [], 0)) := hid13 (by rw [HR.out]; unfold bwR; rw [hw]; simp only [fr_drop])
        have KE := ended_any R s (j + 9) w3 HM3.out.r hz HK.out.2.1
        rw [hr_en s (j + 9) hz] at KE
        have HV : Hid (v < 4294967296 ∧ j + 9 ≤ s.size) := ⟨hv, hz⟩
        clear hw H3 hv hz HR
        cases he : enP (fr s (j + 9)) with
        | true =>
          have HR4 : Hid (res = (0, by4 v, j - k + 9)) := hid13 (by rw [HR2.out, if_pos he])
          rw [he] at KE
          clear he HR2
          go_wp2_with fail
          refine KE.mono ?_
          rintro e w5 ⟨rfl, hb5⟩
          have HM5 := hid13 (HM3.out.below hb5)
          have KP := put32_any (.slice none 0 0) [] v w5 ⟨by simp, none, 0, rfl, Nat.le_refl _, .inl ⟨rfl, rfl, rfl⟩⟩ (by simp) HV.out.1
          clear KE hb5 HM3
          go_wp2_with fail
          refine KP.mono ?_
          rintro e w6 ⟨v', rfl, ho, hb6⟩
          have HM6 := hid13 (HM5.out.below hb6)
          have HO := hid13 (own_wide13 (base' := w.heap.size) ho HM5.out.b.size)
          clear KP ho hb6 HM5
          go_wp2
          refine jumps_ret15 ?_
          exact bodyPost_ret (v := .tuple #[v', .int .i64 0]) (by simp [results, Tryd.results21, go_sem]) rfl ⟨_, _, by rw [HR4.out], by rw [HR4.out]; exact HO.out, HM6.out.r, HM6.out.b, fun _ => by rw [HR4.out]; have h1 := HJ1.out; have h2 := HV.out; exact ⟨by simp only; omega, by simp only; omega⟩⟩
        | false =>
          have HR4 : Hid (res = (5, [], 0)) := hid13 (by rw [HR2.out, if_neg (by rw [he]; decide)])
          rw [he] at KE
          clear he HR2
          go_wp2_with fail
          refine KE.mono ?_
          rintro e w5 ⟨rfl, hb5⟩
          have HM5 := hid13 (HM3.out.below hb5)
          clear KE hb5 HM3
          go_wp2
          refine wp_goto ?_
          exact And.intro (And.intro (by first | rfl | trivial) (And.intro (by first | rfl | trivial) (And.intro (by first | rfl | trivial) (And.intro (by first | rfl | trivial) (And.intro (by first | rfl | trivial) (And.intro (by first | rfl | trivial) (hid13 (.inl ⟨rfl, HR4.out, _, _, _, _, _, HM5.out⟩)))))))) (by unfold muL; simp <;> omega)
    · have HM := hid13 hM
      obtain ⟨f, rfl⟩ : ∃ f', f = f' + 1 := ⟨f - 1, by omega⟩
      have HR := hid13 hres
      have HJ1 : Hid (j ≤ s.size ∧ k ≤ j ∧ 9 * M.length ≤ j ∧ (fr s j).length < f + 1) := ⟨hj, hkj, hMl, hf⟩
      have KE := ended_any R s j W hM.r hj HK.out.2.1
      rw [hr_en s j hj] at KE
      have HMU : Hid (muL s R 2 W = 2 + (s.size - j)) := hid13 (by unfold muL; rw [if_pos rfl, hM.r.at])
      rw [HMU.out]
      clear hM hres HJ hj hkj hMl hf
      refine ⟨_, by rfl, ?_⟩
      cases he : enP (fr s j) with
      | true =>
        have HR4 : Hid (res = inR 2 n M (j - k)) := hid13 (by rw [HR.out, mwR_end he])
        rw [he] at KE
        clear he
        go_wp2_with fail
        refine KE.mono ?_
        rintro e w5 ⟨rfl, hb5⟩
        have HM5 := hid13 (HM.out.below hb5)
        clear KE hb5 HM
        go_wp2
        refine wp_goto ?_
        exact And.intro (And.intro (by first | rfl | trivial) (And.intro (by first | rfl | trivial) (And.intro (by first | rfl | trivial) (And.intro (by first | rfl | trivial) (And.intro (by first | rfl | trivial) (And.intro (by first | rfl | trivial) (hid13 (.inr (.inr (.inr ⟨rfl, j, _, _, _, M, HJ1.out.1, HJ1.out.2.1, by have := HJ1.out; omega, HR4.out, HM5.out⟩)))))))))) (by unfold muL; simp <;> omega)
      | false =>
        rw [he] at KE
        go_wp2_with fail
        refine KE.mono ?_
        rintro e w5 ⟨rfl, hb5⟩
        have HM5 := hid13 (HM.out.below hb5)
        have KW := rword_any R s j w5 HM5.out.r HJ1.out.1 HK.out.2.1
        clear KE hb5 HM
        go_wp2_with fail
        refine KW.mono ?_
        rintro e w3 ⟨x, a, rfl, h1, h2, h3⟩
        have HM3 := hid13 (HM5.out.calls HRw.out h2 h1)
        have H3 := hid13 h3
        clear KW h1 h2 h3 HM5
        cases hw : wdP (fr s j) with
        | none =>
          have HR2 : Hid (res = (5, [], 0)) := hid13 (by rw [HR.out, mwR_stop he hw])
          clear hw H3 he
          go_wp2
          refine wp_goto ?_
          exact And.intro (And.intro (by first | rfl | trivial) (And.intro (by first | rfl | trivial) (And.intro (by first | rfl | trivial) (And.intro (by first | rfl | trivial) (And.intro (by first | rfl | trivial) (And.intro (by first | rfl | trivial) (hid13 (.inl ⟨rfl, HR2.out, _, _, _, _, _, HM3.out⟩)))))))) (by unfold muL; simp <;> omega)
        | some v =>
          obtain ⟨hx, hv, ha, hz⟩ := H3.out v hw
          subst hx ha
          have HR2 : Hid (res = mwR n (M ++ [BitVec.ofNat 32 v]) f (fr s (j + 9)) (j + 9 - k)) := hid13 (by rw [HR.out, mwR_go he hw, fr_drop, show j - k + 9 = j + 9 - k by have := HJ1.out; omega])
          have HV : Hid (v < 4294967296 ∧ j + 9 ≤ s.size ∧ (fr s (j + 9)).length < f) := ⟨hv, hz, by have h1 := HJ1.out.2.2.2; rw [fr_len] at h1 ⊢; omega⟩
          obtain ⟨i0, hi, hz0, hz1, hz2⟩ := info13 Tryd.infoU13
          have c2 := HM3.out.cells.2.2
          have hu : (v : Int) = uI (BitVec.ofNat 32 v) := (uI_of v hv).symm
          have HC : Hid (.int .u32 (v : Int) = cU (BitVec.ofNat 32 v)) := hid13 (by unfold cU; rw [hu])
          clear hw H3 hv hz HR he hu
          have h63 : M.length + 1 ≤ maxLen := by unfold maxLen; have := HJ1.out; have := HK.out; omega
          have h47 : (M.length + 1) * 4 ≤ 140737488355328 := by have := HJ1.out; have := HK.out; omega
          have q9 := bl1 w3 (.cells #[.int .u32 (v : Int)] 48)
          have hO := own_b13 q9 HM3.out.m
          have hsz : w.heap.size ≤ (w3.alloc (.cells #[.int .u32 (v : Int)] 48)).heap.size := Nat.le_trans HM3.out.b.size q9.size
          have HM9 := hid13 (HM3.out.below q9)
          obtain ⟨-, bo, bc, hvf, -⟩ := own_rowA HM3.out.m
          subst hvf
          have HO := hid13 hO
          have HSZ := hid13 hsz
          have H47 : Hid (M.length + 1 ≤ maxLen ∧ (M.length + 1) * 4 ≤ 140737488355328) := ⟨h63, h47⟩
          clear q9 hO hsz h63 h47
          go_wp2_with (at_builtin; apply stopHere9)
          refine (show wpList _ _ _ _ _ _ from ?_)
          refine wpList_append_lies _ rfl _ _ 43 rfl w.heap.size 48 i0 (.int .u32 0) 1 4 Tryd.underlying43 hi hz0 hz1 hz2 rfl (by decide) _ _ _ rfl HO.out ⟨w3.heap.size, 0, none⟩ 1 1 [.int .u32 (v : Int)] rfl rfl (news13 (by simp [go_sem])) (by intro u hu; simp at hu; subst hu; rfl) (by decide) H47.out.1 H47.out.2 HSZ.out _ rfl ?_
          intro g4 cap4 w4 hown4 hgrow hat hlt4
          have hi4 : w4.heap[w.heap.size]? = some (.cells #[.int .i64 2, .int .i64 n, .slice bo M.length bc] 45) := by rw [hgrow.block _ (lt_b15 HM9.out.i) (fun e => HM9.out.x e.symm)]; exact HM9.out.i
          have d2 := at_b15 hi4 2 _ rfl
          have f2 := fr_b15 (j := 2) hi4
          have hw4 : w4.ownsRow w.heap.size 48 1 (.slice (some ⟨g4, 0, none⟩) (M.length + 1) cap4) (M ++ [BitVec.ofNat 32 v]).length ((M ++ [BitVec.ofNat 32 v]).map cU) := by
            have e1 : (M ++ [BitVec.ofNat 32 v]).length = M.length + 1 := by simp
            have e2 : (M ++ [BitVec.ofNat 32 v]).map cU = M.map cU ++ [.int .u32 (v : Int)] := by rw [List.map_append, HC.out]; rfl
            rw [e1, e2]; exact hown4
          have HZ := hid13 (HM9.out.app HRw.out hgrow hw4)
          clear hgrow hat hown4 hlt4 hw4 HM9 HO HSZ H47 HM3 c2 hi4
          go_wp2
          refine wp_goto ?_
          exact And.intro (And.intro (by first | rfl | trivial) (And.intro (by first | rfl | trivial) (And.intro (by first | rfl | trivial) (And.intro (by first | rfl | trivial) (And.intro (by first | rfl | trivial) (And.intro (by first | rfl | trivial) (hid13 (.inr (.inr (.inl ⟨rfl, j + 9, f, n, _, M ++ [BitVec.ofNat 32 v], HV.out.2.1, by have := HJ1.out; omega, by have := HJ1.out; simp; omega, HV.out.2.2, HR2.out, HZ.out⟩)))))))))) (by unfold muL; rw [if_pos rfl, HZ.out.r.at]; have := HV.out; omega)
    · have HM := hid13 hM
      have HR := hid13 hres
      have HJ1 : Hid (j ≤ s.size ∧ k ≤ j) := ⟨hj, hkj⟩
      have KE := encode_any (.slice none 0 0) [] o n vm M W ⟨by simp, none, 0, rfl, Nat.le_refl _, .inl ⟨rfl, rfl, rfl⟩⟩ (own_rwx hM.m) (by simp) (by have := HK.out; omega)
      obtain ⟨c0, c1, c2⟩ := hM.cells
      clear hM hres HJ hj hkj hMl
      refine ⟨_, by rfl, ?_⟩
      go_wp2_with fail
      refine KE.mono ?_
      rintro e w6 ⟨v', rfl, ho, hb6⟩
      have HM6 := hid13 (HM.out.below hb6)
      have HO := hid13 (own_wide13 (base' := w.heap.size) ho HM.out.b.size)
      clear KE ho hb6 HM c0 c1 c2
      go_wp2
      refine jumps_ret15 ?_
      exact bodyPost_ret (v := .tuple #[v', .int .i64 (chkE o n M)]) (by simp [results, Tryd.results21, go_sem]) rfl ⟨_, _, by rw [HR.out]; rfl, by rw [HR.out]; exact HO.out, HM6.out.r, HM6.out.b, fun _ => by rw [HR.out]; have h1 := HJ1.out; unfold inR; exact ⟨by simp only; omega, by simp only; omega⟩⟩
end Go.Proofs.YtologchdnjnadaaDoor
/-
  Code's text is read whole: Parse.
-/
namespace Go.Proofs.YtologchdnjnadaaDoor
open Go.RowKit
set_option linter.unusedSimpArgs false
set_option linter.unusedVariables false

abbrev PaR := List Nat × Int × Int × Int
def paR : Nat → List UInt8 → Nat → List Nat → PaR
  | 0, _, _, acc => (acc, 0, 0, 0)
  | f + 1, L, ln, acc => if L = [] then (acc, 0, 0, 0) else if (lnR L).1 = 0 then paR f (L.drop ((lnR L).2.2 + 1)) (ln + 1) (acc ++ (lnR L).2.1) else ([], (lnR L).1, (ln : Int), 1)
def paP (L : List UInt8) : PaR := paR (L.length + 1) L 1 []
theorem paR_end {f : Nat} {L : List UInt8} {ln : Nat} {acc : List Nat} (h : L = []) : paR (f + 1) L ln acc = (acc, 0, 0, 0) := by unfold paR; rw [if_pos h]
theorem paR_go {f : Nat} {L : List UInt8} {ln : Nat} {acc : List Nat} (h : L ≠ []) (he : (lnR L).1 = 0) : paR (f + 1) L ln acc = paR f (L.drop ((lnR L).2.2 + 1)) (ln + 1) (acc ++ (lnR L).2.1) := by
  rw [show paR (f + 1) L ln acc = (if L = [] then (acc, 0, 0, 0) else if (lnR L).1 = 0 then paR f (L.drop ((lnR L).2.2 + 1)) (ln + 1) (acc ++ (lnR L).2.1) else ([], (lnR L).1, (ln : Int), 1)) from rfl, if_neg h, if_pos he]
theorem paR_no {f : Nat} {L : List UInt8} {ln : Nat} {acc : List Nat} (h : L ≠ []) (he : (lnR L).1 ≠ 0) : paR (f + 1) L ln acc = ([], (lnR L).1, (ln : Int), 1) := by
  rw [show paR (f + 1) L ln acc = (if L = [] then (acc, 0, 0, 0) else if (lnR L).1 = 0 then paR f (L.drop ((lnR L).2.2 + 1)) (ln + 1) (acc ++ (lnR L).2.1) else ([], (lnR L).1, (ln : Int), 1)) from rfl, if_neg h, if_neg he]
theorem lnB_len (L : List UInt8) : (lnR L).2.1.length ≤ 2097156 := by
  have hen : ∀ (o n : Int) (m : List (BitVec 32)), (enL [] o n m).length ≤ 2097156 := fun o n m => by
    unfold enL
    split
    · rename_i h
      have := (chk_zero h).2.2
      rw [List.nil_append, wdB_len]; omega
    · simp
  unfold lnR
  split
  · simp
  · split
    · unfold bwR
      split
      · split
        · simp [by4]
        · simp
      · simp
    · unfold nuR
      split
      · simp
      · split
        · unfold mwR
          split
          · exact hen _ _ _
          · simp
        · split
          · exact hen _ _ _
          · simp
/-- The memory of Parse: the fault's cell, the reader, what is laid. -/
structure PaM (w : World) (s : ByteArray) (a : Int) (lv : Value) (A : List Nat) (W : World) : Prop where
  f : W.heap[w.heap.size]? = some (.cells #[.int .i64 0, .int .i64 0, .int .i64 0] 31)
  r : RdA W (w.heap.size + 1) s a
  m : W.ownsRow w.heap.size 5 1 lv A.length (A.map cB)
  b : Below w.heap.size w W
section
variable {w W W' : World} {s : ByteArray} {a : Int} {lv : Value} {A : List Nat}
theorem PaM.x0 (h : PaM w s a lv A W) : lv.ownBlock ≠ some w.heap.size := Lib.ownBlock_ne h.m h.f (by decide)
theorem PaM.x1 (h : PaM w s a lv A W) : lv.ownBlock ≠ some (w.heap.size + 1) := Lib.ownBlock_ne h.m h.r (by decide)
theorem PaM.calls {a' : Int} (h : PaM w s a lv A W) (hb : Bs (w.heap.size + 1) W W') (hr : RdA W' (w.heap.size + 1) s a') : PaM w s a' lv A W' :=
  ⟨by rw [hb.blk _ (lt_b15 h.f) (by omega)]; exact h.f, hr, hb.own15 h.m h.x1, hb.low h.b (by omega) (Nat.le_refl _)⟩
theorem PaM.app {v' : Value} {X : List Nat} (h : PaM w s a lv A W) (hg : W.grownBy W' lv.ownBlock) (ho : W'.ownsRow w.heap.size 5 1 v' (A ++ X).length ((A ++ X).map cB)) : PaM w s a v' (A ++ X) W' :=
  ⟨by rw [hg.block _ (lt_b15 h.f) (fun e => h.x0 e.symm)]; exact h.f, by unfold RdA; rw [hg.block _ h.r.lt (fun e => h.x1 e.symm)]; exact h.r, ho, h.b.grown hg h.b.size (fun z e => (h.m.lt z e).1)⟩
theorem PaM.setA (h : PaM w s a lv A W) (a' : Int) : PaM w s a' lv A (W.setCell ⟨w.heap.size + 1, 1, none⟩ (.int .i64 a')) :=
  ⟨by rw [Below.heap_setCell _ ⟨w.heap.size + 1, 1, none⟩ _ _ (by simp)]; exact h.f, h.r.setA a', own_set15 h.m h.x1, h.b.setCell (p := ⟨w.heap.size + 1, 1, none⟩) (Nat.le_succ _) _⟩
end
set_option maxHeartbeats 8000000 in
set_option maxRecDepth 20000 in
theorem parse15_any (s : ByteArray) (w : World) (hs : s.size ≤ 1000000) (hN : Nm w) :
    Calls Tryd.prog 11 #[.string s] w fun e w' => ∃ v', e = .returned (.tuple #[v', .agg #[.int .i64 (paP (fr s 0)).2.1, .int .i64 (paP (fr s 0)).2.2.1, .int .i64 (paP (fr s 0)).2.2.2]]) ∧ w'.ownsRow w.heap.size 5 1 v' (paP (fr s 0)).1.length ((paP (fr s 0)).1.map cB) ∧ Below w.heap.size w w' := by
  obtain ⟨i0, hi, hz0, hz1, hz2⟩ := info13 Tryd.infoB13
  obtain ⟨res, hres⟩ : ∃ res, res = paP (fr s 0) := ⟨_, rfl⟩
  rw [← hres]
  have hg : 0 < w.heap.size := cell_in (hN 0 (by decide))
  have hNk : ∀ W, Below w.heap.size w W → Nm W := fun W hb => hN.below hb
  have q1 := bl1 w (.cells #[.int .i64 0, .int .i64 0, .int .i64 0] 31)
  have q2 := bl1 (w.alloc (.cells #[.int .i64 0, .int .i64 0, .int .i64 0] 31)) (.cells #[.string s, .int .i64 0] 54)
  have s1 : (w.alloc (.cells #[.int .i64 0, .int .i64 0, .int .i64 0] 31)).heap.size = w.heap.size + 1 := by simp
  have HM0 : Hid (PaM w s 0 (.slice none 0 0) [] ((w.alloc (.cells #[.int .i64 0, .int .i64 0, .int .i64 0] 31)).alloc (.cells #[.string s, .int .i64 0] 54))) := hid13 ⟨by rw [q2.block _ (by omega)]; exact Array.getElem?_push_size, by unfold RdA; rw [← s1]; exact Array.getElem?_push_size, World.ownsRow_nil _ _ _ _, keepb q2 q1⟩
  have HE0 : Hid (paR (s.size + 1) (fr s 0) 1 [] = res) := hid13 (by rw [hres]; unfold paP; rw [fr_len]; rfl)
  have HG : Hid (0 ≠ w.heap.size + 1 ∧ s.size ≤ 1000000) := ⟨by omega, hs⟩
  have HNk := hid13 hNk
  clear q1 q2 s1 hN hg hres hNk
  go_enter Tryd.func11, Tryd.ntmps11
  go_wp2
  go_loopg [4, 6, 7, 8] (s.size + 1) (fun g x4 x6 x7 x8 wr => ∃ (j ln : Nat) (lv : Value) (A : List Nat), lv = x4 ∧ x6 = .int .i64 (ln : Int) ∧ Hid (PaM w s j lv A wr ∧ paR g (fr s j) ln A = res ∧ (fr s j).length < g ∧ ln ≤ j + 1 ∧ j ≤ s.size + 1 ∧ A.length ≤ 2097156 * ln))
  case atStart => exact ⟨0, 1, _, [], rfl, rfl, hid13 ⟨HM0.out, HE0.out, by rw [fr_len]; omega, by omega, by omega, by simp⟩⟩
  case round =>
    clear HM0 HE0
    obtain ⟨j, ln, lv, A, rfl, rfl, HS⟩ := hrel
    have r1 := HS.out.1.r.c1
    obtain ⟨f, rfl⟩ : ∃ f, gk = f + 1 := ⟨gk - 1, by have := HS.out.2.2.1; omega⟩
    by_cases hlt : j < s.size
    · have hli : (j : Int) < (s.size : Int) := by omega
      have hne : fr s j ≠ [] := fun q => by have := fr_len s j; rw [q] at this; simp at this; omega
      have KL := rline_any (w.heap.size + 1) s j wr HS.out.1.r (by omega) (by have := HG.out.2; omega) (HNk.out wr HS.out.1.b) HG.out.1
      have hbl := lnB_len (fr s j)
      have hgo := fun q => paR_go (f := f) (ln := ln) (acc := A) hne q
      have hno := fun q => paR_no (f := f) (ln := ln) (acc := A) hne q
      rw [HS.out.2.1] at hgo hno
      have HB := hid13 hbl
      have HGo := hid13 hgo
      have HNo := hid13 hno
      have HLT := hid13 hlt
      clear hbl hgo hno hlt hne
      generalize lnR (fr s j) = q at *
      obtain ⟨e0, B, c⟩ := q
      simp only at KL HB HGo HNo
      by_cases he : e0 = 0
      · subst he
        have hgo := HGo.out rfl
        have m1 : IntKind.i64.wrap ((ln : Int) + 1) = (ln : Int) + 1 := by rw [IntKind.wrap_i64]; have := HS.out; have := HG.out; omega
        have m2 : IntKind.i64.wrap (((j + c : Nat) : Int) + 1) = ((j + c : Nat) : Int) + 1 ∨ True := .inr trivial
        have HGo2 := hid13 hgo
        clear hgo HGo HNo
        go_wp2_with fail
        refine KL.mono ?_
        rintro e w1 ⟨v', a, rfl, ho, hr, hb, hc⟩
        obtain ⟨ha, hcs⟩ := hc trivial
        obtain ⟨p, hp⟩ : ∃ p, p = j + c := ⟨_, rfl⟩
        rw [← hp] at ha hcs
        subst ha
        have HM1 := hid13 (HS.out.1.calls hb hr)
        have HP : Hid (p = j + c ∧ p ≤ s.size) := ⟨hp, hcs⟩
        have HO := hid13 ho
        obtain ⟨ao, bc, hv⟩ := own_form ho
        obtain ⟨lo, lc, hl⟩ := own_form HM1.out.m
        have h63 : A.length + B.length ≤ maxLen := by unfold maxLen; have := HS.out; have := HG.out; have := HB.out; omega
        have h47 : (A.length + B.length) * 1 ≤ 140737488355328 := by have := HS.out; have := HG.out; have := HB.out; omega
        subst hv
        subst hl
        have H47 := hid13 h47
        have H63 := hid13 h63
        clear KL ho hr hb hc hp hcs h47 h63 r1 m2
        go_wp2_with (at_builtin; apply stopHere9)
        refine (show wpList _ _ _ _ _ _ from ?_)
        refine wpList_append_rowA rfl _ _ 22 rfl w.heap.size 5 i0 (.int .u8 0) 1 1 Tryd.underlying22 hi hz0 hz1 hz2 rfl (by decide) _ _ _ rfl HM1.out.m (.slice ao B.length bc) B.length (B.map cB) rfl (own_rowA HO.out) (cB_one B) H63.out H47.out HM1.out.b.size ?_
        intro ao3 cap3 w3 hown3 hgrow
        have HM3 := hid13 (HM1.out.app (X := B) hgrow (by rw [List.map_append, List.length_append]; exact hown3))
        have r3 := HM3.out.r.c1
        have f3 := HM3.out.r.free 1
        have m2 : IntKind.i64.wrap ((p : Int) + 1) = (p : Int) + 1 := by rw [IntKind.wrap_i64]; have := HP.out; have := HG.out; omega
        have HM4 : Hid (PaM w s ((p + 1 : Nat) : Int) _ (A ++ B) _) := hid13 (show PaM w s ((p : Int) + 1) _ (A ++ B) _ from HM3.out.setA ((p : Int) + 1))
        clear hown3 hgrow HM1 HM3 H63 H47 HO
        go_wp2
        go_roundg f
        case measure => omega
        case rel => exact ⟨p + 1, ln + 1, _, A ++ B, rfl, rfl, hid13 ⟨HM4.out, by rw [HGo2.out, fr_drop, HP.out.1]; rfl, by have h1 := HS.out.2.2.1; rw [fr_len] at h1 ⊢; have := HP.out; have := HLT.out; omega, by have := HS.out; have := HP.out; omega, by have := HP.out; omega, by have := HS.out; have := HB.out; rw [List.length_append]; omega⟩⟩
      · have hno := HNo.out he
        have he1 : (e0 == 0) = false := by rw [beq_eq_false_iff_ne]; exact he
        have HR : Hid (res = ([], e0, (ln : Int), 1)) := hid13 hno
        clear hno HGo HNo he
        go_wp2_with fail
        refine KL.mono ?_
        rintro e w1 ⟨v', a, rfl, ho, hr, hb, hc⟩
        have HM1 := hid13 (HS.out.1.calls hb hr)
        have c0 := at_b15 HM1.out.f 0 _ rfl
        have c1 := at_b15 HM1.out.f 1 _ rfl
        have c2 := at_b15 HM1.out.f 2 _ rfl
        have f0 := fr_b15 (j := 0) HM1.out.f
        have f1 := fr_b15 (j := 1) HM1.out.f
        have f2 := fr_b15 (j := 2) HM1.out.f
        clear KL ho hr hb hc r1
        go_wp2
        exact bodyPost_ret (v := .tuple #[.slice none 0 0, .agg #[.int .i64 e0, .int .i64 (ln : Int), .int .i64 1]]) (by simp [results, Tryd.results11, go_sem, c0, c1, c2]) rfl ⟨_, by rw [HR.out], by rw [HR.out]; exact World.ownsRow_nil _ _ _ _, bset3i HM1.out.b (Nat.le_refl _) _ _ _⟩
    · have hli : ¬ (j : Int) < (s.size : Int) := by omega
      have HR : Hid (res = (A, 0, 0, 0)) := hid13 (by rw [← HS.out.2.1, paR_end]; apply List.eq_nil_of_length_eq_zero; rw [fr_len]; omega)
      have c0 := at_b15 HS.out.1.f 0 _ rfl
      have c1 := at_b15 HS.out.1.f 1 _ rfl
      have c2 := at_b15 HS.out.1.f 2 _ rfl
      have f0 := fr_b15 (j := 0) HS.out.1.f
      have f1 := fr_b15 (j := 1) HS.out.1.f
      have f2 := fr_b15 (j := 2) HS.out.1.f
      have HO : Hid ((((wr.setCell ⟨w.heap.size, 0, none⟩ (.int .i64 0)).setCell ⟨w.heap.size, 1, none⟩ (.int .i64 0)).setCell ⟨w.heap.size, 2, none⟩ (.int .i64 0)).ownsRow w.heap.size 5 1 lv A.length (A.map cB)) := hid13 (own_set15 (own_set15 (own_set15 HS.out.1.m HS.out.1.x0) HS.out.1.x0) HS.out.1.x0)
      clear hlt
      go_wp2
      exact bodyPost_ret (v := .tuple #[lv, .agg #[.int .i64 0, .int .i64 0, .int .i64 0]]) (by simp [results, Tryd.results11, go_sem, c0, c1, c2]) rfl ⟨_, by rw [HR.out], by rw [HR.out]; exact HO.out, bset3i HS.out.1.b (Nat.le_refl _) _ _ _⟩
end Go.Proofs.YtologchdnjnadaaDoor
