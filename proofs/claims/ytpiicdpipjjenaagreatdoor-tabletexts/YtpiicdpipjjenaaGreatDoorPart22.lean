/-
  Part 22 of the proof: 1 texts, one behind the other.
-/
import Derived.Test.YtpiicdpipjjenaaGreatDoorPart21
import Derived.Test.YtpiicdpipjjenaaGreatDoorPart16
namespace Go.Proofs.YtpiicdpipjjenaaGreatDoor
open Go.RowKit
set_option linter.unusedSimpArgs false
set_option linter.unusedVariables false
attribute [local go_sem] Oper.semAt_some

def jumpsX (J : Nat → Act → World → Prop) (Q : Exit → Act → World → Prop) : Exit → Act → World → Prop
  | .goto l, a, w => J l a w
  | e, a, w => Q e a w
theorem jumps_ret {J : Nat → Act → World → Prop} {Q : Exit → Act → World → Prop} {a : Act} {w : World} (h : Q .ret a w) : jumpsX J Q .ret a w := h
theorem then_more {P : Program} {A : Code} {K K' : Act → World → Prop} {Q : Exit → Act → World → Prop} {a : Act} {w : World} (h : A.wp P (Exit.then K (fun _ _ _ => False)) a w) (hk : ∀ a w, K a w → K' a w) : A.wp P (Exit.then K' Q) a w := fun b k cs => by
  obtain ⟨e, a', w', h, arr⟩ := h b k cs
  refine ⟨e, a', w', ?_, arr⟩
  cases e with
  | normal => exact hk _ _ h
  | _ => exact h.elim
theorem scope_many {P : Program} {a : Act} {w : World} {Q : Exit → Act → World → Prop} {A1 A2 A3 A4 X : Code} (l0 : Nat) (J : Nat → Act → World → Prop) (μ : Nat → Act → World → Nat) (hf : findLabel (A1.seq (A2.seq (A3.seq (A4.seq ((Code.label l0).seq X))))) l0 = some (Code.skip.seq X))
    (pre : A1.wp P (Exit.then (fun a w => A2.wp P (Exit.then (fun a w => A3.wp P (Exit.then (fun a w => A4.wp P (Exit.then (J l0) (fun _ _ _ => False)) a w) (fun _ _ _ => False)) a w) (fun _ _ _ => False)) a w) (fun _ _ _ => False)) a w)
    (passX : ∀ a w, J l0 a w → X.wp P (jumpsX (fun l' a' w' => J l' a' w' ∧ μ l' a' w' < μ l0 a w) Q) a w)
    (pass1 : ∀ l a w, l ≠ l0 → J l a w → ∃ rst, findLabel (A1.seq (A2.seq (A3.seq (A4.seq ((Code.label l0).seq X))))) l = some rst ∧ rst.wp P (jumpsX (fun l' a' w' => J l' a' w' ∧ μ l' a' w' < μ l a w) Q) a w) : (Code.scope (A1.seq (A2.seq (A3.seq (A4.seq ((Code.label l0).seq X)))))).wp P Q a w := by
  have pass : ∀ l a w, J l a w → ∃ rst, findLabel (A1.seq (A2.seq (A3.seq (A4.seq ((Code.label l0).seq X))))) l = some rst ∧ rst.wp P (jumpsX (fun l' a' w' => J l' a' w' ∧ μ l' a' w' < μ l a w) Q) a w := fun l a w hJ => by
    by_cases hl : l = l0
    · subst hl
      exact ⟨_, hf, wp_seq (wp_skip (passX a w hJ))⟩
    · exact pass1 l a w hl hJ
  have first : (A1.seq (A2.seq (A3.seq (A4.seq ((Code.label l0).seq X))))).wp P (jumpsX J Q) a w := by
    refine wp_seq (then_more pre fun a w h => wp_seq (then_more h fun a w h => wp_seq (then_more h fun a w h => wp_seq (then_more h fun a w h => wp_seq (wp_label ?_)))))
    refine (show X.wp P (jumpsX J Q) a w from fun b k cs => ?_)
    obtain ⟨e, a2, w2, h2, arr2⟩ := passX a w h b k cs
    refine ⟨e, a2, w2, ?_, arr2⟩
    cases e <;> first | exact h2 | exact h2.1
  clear pre passX pass1
  revert pass first
  generalize A1.seq (A2.seq (A3.seq (A4.seq ((Code.label l0).seq X)))) = c
  intro pass first
  intro b k cs
  have hg : ∀ l rst, findLabel c l = some rst → gotoIn l (.inScope c :: k) = some (.code rst :: .inScope c :: k) := fun l rst h => by simp [gotoIn, h]
  have key : ∀ n l a w, μ l a w = n → J l a w → ∃ rst, findLabel c l = some rst ∧ ∃ e a' w', Q e a' w' ∧ Arrives P (lone (b.at a (.code rst :: .inScope c :: k)) cs w) b k cs e a' w' := by
    intro n
    induction n using Nat.strongRecOn with
    | _ n ih =>
      intro l a w hn hJ
      obtain ⟨rst, hrst, hp⟩ := pass l a w hJ
      refine ⟨rst, hrst, ?_⟩
      obtain ⟨e, a₁, w₁, hq, harr⟩ := hp b (.inScope c :: k) cs
      cases e with
      | normal => exact ⟨.normal, a₁, w₁, hq, Steps.trans harr (.one step_inScope)⟩
      | exit id => exact ⟨.exit id, a₁, w₁, hq, fun k' hk => harr k' (by simp [exitTo, hk])⟩
      | goto l' =>
        obtain ⟨hJ', hlt⟩ := hq
        obtain ⟨rst2, hr2, e₂, a₂, w₂, hq₂, harr₂⟩ := ih _ (by omega) l' a₁ w₁ rfl hJ'
        exact ⟨e₂, a₂, w₂, hq₂, .of_steps (harr _ (hg l' _ hr2)) harr₂⟩
      | ret => exact ⟨_, a₁, w₁, hq, harr⟩
      | panic ch => exact ⟨_, a₁, w₁, hq, harr⟩
      | outgrown => exact ⟨_, a₁, w₁, hq, harr⟩
  obtain ⟨e, a₁, w₁, hq, harr⟩ := first b (.inScope c :: k) cs
  cases e with
  | normal => exact ⟨.normal, a₁, w₁, hq, .head step_scope (Steps.trans harr (.one step_inScope))⟩
  | exit id => exact ⟨.exit id, a₁, w₁, hq, fun k' hk => .head step_scope (harr k' (by simp [exitTo, hk]))⟩
  | goto l' =>
    obtain ⟨rst2, hr2, e₂, a₂, w₂, hq₂, harr₂⟩ := key _ l' a₁ w₁ rfl hq
    exact ⟨e₂, a₂, w₂, hq₂, .of_steps (.head step_scope (harr _ (hg l' _ hr2))) harr₂⟩
  | ret => exact ⟨_, a₁, w₁, hq, .of_steps (.one step_scope) harr⟩
  | panic ch => exact ⟨_, a₁, w₁, hq, .of_steps (.one step_scope) harr⟩
  | outgrown => exact ⟨_, a₁, w₁, hq, .of_steps (.one step_scope) harr⟩
abbrev ResT := (Int × Int × Int) × List Rte
def lnsB (s : ByteArray) (g : Nat → Nat → Nat → List Rte → Nat → ResT) (p ln : Nat) (L : List Rte) (tm : Nat) : ResT :=
  if nlS s p = -1 then (if tm = 0 then ((0, 0, 0), L) else ((16, (tm : Int), 1), [])) else g (p + (nlS s p).toNat + 1) (ln + 1) (p + (nlS s p).toNat + 1) L tm
def lnsR (F : Int) (s : ByteArray) : Nat → Nat → Nat → Nat → List Rte → Nat → ResT
  | 0, _, _, _, _, _ => ((0, 0, 0), [])
  | f + 1, k, ln, st, L, tm =>
    if kdS s (skS s k) = 0 then
      (match entO F s (skS s k) with
        | .inl (e, p) => ((e, (ln : Int), (p : Int) - (st : Int) + 1), [])
        | .inr (r, p) => if L.length < 1048576 then lnsB s (lnsR F s f) p ln (L ++ [r]) tm else lnsB s (lnsR F s f) p ln L (if tm = 0 then ln else tm))
    else lnsB s (lnsR F s f) (skS s k) ln L tm
theorem entO_ne {F : Int} {s : ByteArray} {a : Nat} {e : Int} {p : Nat} (h : entO F s a = .inl (e, p)) : e ≠ 0 := by
  unfold entO at h
  split at h
  · split at h
    · split at h
      · injection h with h; injection h with h1 _; omega
      · split at h
        · injection h with h; injection h with h1 _; omega
        · cases h
    · injection h with h; injection h with h1 _; omega
  · rename_i q
    injection h with h; injection h with h1 _
    rw [← h1]; exact q
theorem entP_bd {F : Int} {s : ByteArray} {a : Nat} (ha : a ≤ s.size) : a ≤ entP (entO F s a) ∧ entP (entO F s a) ≤ s.size := by
  have b1 := wdS_bd s _ a (Nat.le_refl _) ha
  have b2 := skS_bd s _ (wdS s a) (Nat.le_refl _) b1.2.1
  have b3 := wdS_bd s _ (skS s (wdS s a)) (Nat.le_refl _) b2.2.1
  have b4 := skS_bd s _ (wdS s (skS s (wdS s a))) (Nat.le_refl _) b3.2.1
  unfold entO
  split
  · split
    · split
      · exact ⟨by show a ≤ skS s (wdS s a); omega, b2.2.1⟩
      · split
        · exact ⟨by show a ≤ skS s (wdS s (skS s (wdS s a))); omega, b4.2.1⟩
        · exact ⟨by show a ≤ skS s (wdS s (skS s (wdS s a))); omega, b4.2.1⟩
    · exact ⟨by show a ≤ skS s (wdS s a); omega, b2.2.1⟩
  · exact ⟨Nat.le_refl _, ha⟩
def tmE (tm : Nat) : Int := if tm = 0 then 0 else 16
def tmK (tm : Nat) : Int := if tm = 0 then 0 else 1
structure EsC (w : World) (R : Nat) (tm : Nat) (L : List Rte) (lv : Value) (X : World) : Prop where
  z : X.heap[w.heap.size]? = some (.cells #[.int .i64 0, .int .i64 0, .int .i64 0] 37)
  r : ∃ a b c d, X.heap[w.heap.size + 1]? = some (.cells #[a, b, c, d] 47)
  f : ∃ a b c, X.heap[w.heap.size + 2]? = some (.cells #[a, b, c] 37)
  m : X.heap[w.heap.size + 3]? = some (.cells #[.int .i64 (tmE tm), .int .i64 (tm : Int), .int .i64 (tmK tm)] 37)
  l : X.ownsRow (w.heap.size + 4) 47 4 lv L.length (rowR L)
  b : Bo R w X
section
variable {w X Y : World} {R tm : Nat} {L : List Rte} {lv : Value}
theorem EsC.bo (k : EsC w R tm L lv X) (hR : R < w.heap.size) (h : Bo R X Y) : EsC w R tm L lv Y := by
  obtain ⟨a, b, c, d, hr⟩ := k.r
  obtain ⟨e, f, g, hf⟩ := k.f
  exact ⟨(h.blk _ (blk_lt5 k.z) (by omega)).trans k.z, ⟨a, b, c, d, (h.blk _ (blk_lt5 hr) (by omega)).trans hr⟩, ⟨e, f, g, (h.blk _ (blk_lt5 hf) (by omega)).trans hf⟩, (h.blk _ (blk_lt5 k.m) (by omega)).trans k.m, own_heap k.l (fun z q => h.blk z (k.l.lt z q).2 (by have := (k.l.lt z q).1; omega)), k.b.trans h⟩
end
theorem arr43 (t : Array Value) (h : t.size = 43) : ∃ u : Nat → Value, (∀ i, u i = t.getD i undef) ∧ t = #[u 0, u 1, u 2, u 3, u 4, u 5, u 6, u 7, u 8, u 9, u 10, u 11, u 12, u 13, u 14, u 15, u 16, u 17, u 18, u 19, u 20, u 21, u 22, u 23, u 24, u 25, u 26, u 27, u 28, u 29, u 30, u 31, u 32, u 33, u 34, u 35, u 36, u 37, u 38, u 39, u 40, u 41, u 42] := by
  refine ⟨fun i => t.getD i undef, fun _ => rfl, ?_⟩
  obtain ⟨l⟩ := t
  have h' : l.length = 43 := h
  have e : l = (List.range 43).map (fun i => (⟨l⟩ : Array Value).getD i undef) := by
    apply List.ext_getElem
    · simp [h']
    · intro i h1 h2
      simp [Array.getD, h1]
  have e2 : (List.range 43).map (fun i => (⟨l⟩ : Array Value).getD i undef) = [(⟨l⟩ : Array Value).getD 0 undef, (⟨l⟩ : Array Value).getD 1 undef, (⟨l⟩ : Array Value).getD 2 undef, (⟨l⟩ : Array Value).getD 3 undef, (⟨l⟩ : Array Value).getD 4 undef, (⟨l⟩ : Array Value).getD 5 undef, (⟨l⟩ : Array Value).getD 6 undef, (⟨l⟩ : Array Value).getD 7 undef, (⟨l⟩ : Array Value).getD 8 undef, (⟨l⟩ : Array Value).getD 9 undef, (⟨l⟩ : Array Value).getD 10 undef, (⟨l⟩ : Array Value).getD 11 undef, (⟨l⟩ : Array Value).getD 12 undef, (⟨l⟩ : Array Value).getD 13 undef, (⟨l⟩ : Array Value).getD 14 undef, (⟨l⟩ : Array Value).getD 15 undef, (⟨l⟩ : Array Value).getD 16 undef, (⟨l⟩ : Array Value).getD 17 undef, (⟨l⟩ : Array Value).getD 18 undef, (⟨l⟩ : Array Value).getD 19 undef, (⟨l⟩ : Array Value).getD 20 undef, (⟨l⟩ : Array Value).getD 21 undef, (⟨l⟩ : Array Value).getD 22 undef, (⟨l⟩ : Array Value).getD 23 undef, (⟨l⟩ : Array Value).getD 24 undef, (⟨l⟩ : Array Value).getD 25 undef, (⟨l⟩ : Array Value).getD 26 undef, (⟨l⟩ : Array Value).getD 27 undef, (⟨l⟩ : Array Value).getD 28 undef, (⟨l⟩ : Array Value).getD 29 undef, (⟨l⟩ : Array Value).getD 30 undef, (⟨l⟩ : Array Value).getD 31 undef, (⟨l⟩ : Array Value).getD 32 undef, (⟨l⟩ : Array Value).getD 33 undef, (⟨l⟩ : Array Value).getD 34 undef, (⟨l⟩ : Array Value).getD 35 undef, (⟨l⟩ : Array Value).getD 36 undef, (⟨l⟩ : Array Value).getD 37 undef, (⟨l⟩ : Array Value).getD 38 undef, (⟨l⟩ : Array Value).getD 39 undef, (⟨l⟩ : Array Value).getD 40 undef, (⟨l⟩ : Array Value).getD 41 undef, (⟨l⟩ : Array Value).getD 42 undef] := rfl
  rw [e2] at e
  exact congrArg _ e
def atR (R : Nat) (W : World) : Nat := (intOf ((W.cell? ⟨R, 2, none⟩).getD undef)).toNat
theorem RdV.at {W : World} {R : Nat} {F : Int} {s : ByteArray} {k : Nat} {ln st : Int} (h : RdV W R F s (k : Int) ln st) : atR R W = k := by
  unfold atR
  rw [h.cells.2.2.1]
  simp [intOf]
structure LnS (F : Int) (s : ByteArray) (res : ResT) (w : World) (R k ln st tm : Nat) (L : List Rte) (lv : Value) (W : World) : Prop where
  kk : k ≤ s.size
  kn : ln ≤ k + 1
  l1 : 1 ≤ ln
  ks : st ≤ k
  ll : L.length ≤ 1048576
  kt : tm ≤ ln
  e : ∃ f, s.size + 1 - k ≤ f ∧ lnsR F s f k ln st L tm = res
  m : EsC w R tm L lv W
  r : RdV W R F s (k : Int) (ln : Int) (st : Int)
structure LnE (F : Int) (s : ByteArray) (res : ResT) (w : World) (R k ln st tm : Nat) (L : List Rte) (lv : Value) (W : World) : Prop where
  kk : k ≤ s.size
  kn : ln ≤ k + 1
  l1 : 1 ≤ ln
  ks : st ≤ k
  ll : L.length ≤ 1048576
  kt : tm ≤ ln
  e : ∃ f, s.size - k ≤ f ∧ lnsB s (lnsR F s f) k ln L tm = res
  m : EsC w R tm L lv W
  r : RdV W R F s (k : Int) (ln : Int) (st : Int)
theorem s7_blk {Y : World} {h1 h2 : Nat} (hne : h1 ≠ h2) {v0 v1 v2 v3 f0 f1 f2 a b c d e f g : Value} {T1 T2 : TypeId} (hr : Y.heap[h1]? = some (.cells #[a, b, c, d] T1)) (hf : Y.heap[h2]? = some (.cells #[e, f, g] T2)) : (((((((Y.setCell ⟨h1, 0, none⟩ (v0)).setCell ⟨h1, 1, none⟩ (v1)).setCell ⟨h1, 2, none⟩ (v2)).setCell ⟨h1, 3, none⟩ (v3)).setCell ⟨h2, 0, none⟩ (f0)).setCell ⟨h2, 1, none⟩ (f1)).setCell ⟨h2, 2, none⟩ (f2)).heap[h1]? = some (.cells #[v0, v1, v2, v3] T1) ∧ (((((((Y.setCell ⟨h1, 0, none⟩ (v0)).setCell ⟨h1, 1, none⟩ (v1)).setCell ⟨h1, 2, none⟩ (v2)).setCell ⟨h1, 3, none⟩ (v3)).setCell ⟨h2, 0, none⟩ (f0)).setCell ⟨h2, 1, none⟩ (f1)).setCell ⟨h2, 2, none⟩ (f2)).heap[h2]? = some (.cells #[f0, f1, f2] T2) := by
  have k0 := set_blk5 (o := 3) (set_blk5 (o := 2) (set_blk5 (o := 1) (set_blk5 (o := 0) hr v0) v1) v2) v3
  have k1 : ((((Y.setCell ⟨h1, 0, none⟩ v0).setCell ⟨h1, 1, none⟩ v1).setCell ⟨h1, 2, none⟩ v2).setCell ⟨h1, 3, none⟩ v3).heap[h2]? = some (.cells #[e, f, g] T2) := by
    rw [hSet _ (Ne.symm hne), hSet _ (Ne.symm hne), hSet _ (Ne.symm hne), hSet _ (Ne.symm hne)]; exact hf
  constructor
  · rw [hSet _ hne, hSet _ hne, hSet _ hne]; simpa using k0
  · simpa using set_blk5 (o := 2) (set_blk5 (o := 1) (set_blk5 (o := 0) k1 f0) f1) f2
section
variable {w Y : World} {R tm : Nat} {L : List Rte} {lv : Value} {F : Int} {s : ByteArray} {x y z : Int}
theorem s7_far {h1 h2 k : Nat} (n1 : ¬ k = h1) (n2 : ¬ k = h2) {v0 v1 v2 v3 f0 f1 f2 : Value} : (((((((Y.setCell ⟨h1, 0, none⟩ (v0)).setCell ⟨h1, 1, none⟩ (v1)).setCell ⟨h1, 2, none⟩ (v2)).setCell ⟨h1, 3, none⟩ (v3)).setCell ⟨h2, 0, none⟩ (f0)).setCell ⟨h2, 1, none⟩ (f1)).setCell ⟨h2, 2, none⟩ (f2)).heap[k]? = Y.heap[k]? := by
  rw [hSet _ n2, hSet _ n2, hSet _ n2, hSet _ n1, hSet _ n1, hSet _ n1, hSet _ n1]
theorem EsC.store (k : EsC w R tm L lv Y) (hR : R < w.heap.size) {a b c d e f g : Value} (hr : Y.heap[w.heap.size + 1]? = some (.cells #[a, b, c, d] 47)) (hf : Y.heap[w.heap.size + 2]? = some (.cells #[e, f, g] 37)) (v0 v1 v2 v3 f0 f1 f2 : Value) : EsC w R tm L lv (((((((Y.setCell ⟨w.heap.size + 1, 0, none⟩ (v0)).setCell ⟨w.heap.size + 1, 1, none⟩ (v1)).setCell ⟨w.heap.size + 1, 2, none⟩ (v2)).setCell ⟨w.heap.size + 1, 3, none⟩ (v3)).setCell ⟨w.heap.size + 2, 0, none⟩ (f0)).setCell ⟨w.heap.size + 2, 1, none⟩ (f1)).setCell ⟨w.heap.size + 2, 2, none⟩ (f2)) ∧ (((((((Y.setCell ⟨w.heap.size + 1, 0, none⟩ (v0)).setCell ⟨w.heap.size + 1, 1, none⟩ (v1)).setCell ⟨w.heap.size + 1, 2, none⟩ (v2)).setCell ⟨w.heap.size + 1, 3, none⟩ (v3)).setCell ⟨w.heap.size + 2, 0, none⟩ (f0)).setCell ⟨w.heap.size + 2, 1, none⟩ (f1)).setCell ⟨w.heap.size + 2, 2, none⟩ (f2)).heap[w.heap.size + 2]? = some (.cells #[f0, f1, f2] 37) ∧ (((((((Y.setCell ⟨w.heap.size + 1, 0, none⟩ (v0)).setCell ⟨w.heap.size + 1, 1, none⟩ (v1)).setCell ⟨w.heap.size + 1, 2, none⟩ (v2)).setCell ⟨w.heap.size + 1, 3, none⟩ (v3)).setCell ⟨w.heap.size + 2, 0, none⟩ (f0)).setCell ⟨w.heap.size + 2, 1, none⟩ (f1)).setCell ⟨w.heap.size + 2, 2, none⟩ (f2)).heap[w.heap.size + 1]? = some (.cells #[v0, v1, v2, v3] 47) := by
  obtain ⟨b1, b2⟩ := s7_blk (v0 := v0) (v1 := v1) (v2 := v2) (v3 := v3) (f0 := f0) (f1 := f1) (f2 := f2) (by omega) hr hf
  refine ⟨⟨(s7_far (by omega) (by omega)).trans k.z, ⟨_, _, _, _, b1⟩, ⟨_, _, _, b2⟩, (s7_far (by omega) (by omega)).trans k.m, own_heap k.l (fun z q => s7_far (by have := (k.l.lt z q).1; omega) (by have := (k.l.lt z q).1; omega)), ?_⟩, b2, b1⟩
  exact Bt.set (Bt.set (Bt.set (Bt.set (Bt.set (Bt.set (Bt.set k.b (.inr (by omega)) _ _) (.inr (by omega)) _ _) (.inr (by omega)) _ _) (.inr (by omega)) _ _) (.inr (by omega)) _ _) (.inr (by omega)) _ _) (.inr (by omega)) _ _
theorem EsC.setM {ln : Nat} (k : EsC w R tm L lv Y) (hl : 1 ≤ ln) : EsC w R ln L lv (((Y.setCell ⟨w.heap.size + 3, 0, none⟩ (.int .i64 16)).setCell ⟨w.heap.size + 3, 1, none⟩ (.int .i64 (ln : Int))).setCell ⟨w.heap.size + 3, 2, none⟩ (.int .i64 1)) := by
  have far : ∀ {z : Nat}, ¬ z = w.heap.size + 3 → (((Y.setCell ⟨w.heap.size + 3, 0, none⟩ (.int .i64 16)).setCell ⟨w.heap.size + 3, 1, none⟩ (.int .i64 (ln : Int))).setCell ⟨w.heap.size + 3, 2, none⟩ (.int .i64 1)).heap[z]? = Y.heap[z]? := fun h => by rw [hSet _ h, hSet _ h, hSet _ h]
  obtain ⟨a, b, c, d, hr⟩ := k.r
  obtain ⟨e, f, g, hf⟩ := k.f
  refine ⟨(far (by omega)).trans k.z, ⟨a, b, c, d, (far (by omega)).trans hr⟩, ⟨e, f, g, (far (by omega)).trans hf⟩, ?_, own_heap k.l (fun z q => far (by have := (k.l.lt z q).1; omega)), Bt.set (Bt.set (Bt.set k.b (.inr (by omega)) _ _) (.inr (by omega)) _ _) (.inr (by omega)) _ _⟩
  have := set_blk5 (o := 2) (set_blk5 (o := 1) (set_blk5 (o := 0) k.m (.int .i64 16)) (.int .i64 (ln : Int))) (.int .i64 1)
  unfold tmE tmK
  rw [if_neg (by omega), if_neg (by omega)]
  simpa using this
theorem newsR5 (Z : World) (B : Nat) (hB : B = Z.heap.size) (a b c d : Value) (t : TypeId) : ∀ j u, [a, b, c, d][j]? = some u → (Z.alloc (.cells #[a, b, c, d] t)).cell? ((⟨B, 0, none⟩ : Addr).add j) = some u := by
  subst hB
  intro j u hj
  match j, hj with
  | 0, hj => simp at hj; subst hj; simp [Addr.add, go_sem]
  | 1, hj => simp at hj; subst hj; simp [Addr.add, go_sem]
  | 2, hj => simp at hj; subst hj; simp [Addr.add, go_sem]
  | 3, hj => simp at hj; subst hj; simp [Addr.add, go_sem]
theorem fourR5 (a b c d : Int) : ∀ u ∈ [Value.int .u64 a, Value.int .u64 b, Value.int .i64 c, Value.int .i64 d], u.oneCell' = true := by
  intro u hu; simp at hu; rcases hu with rfl | rfl | rfl | rfl <;> rfl
theorem rowR_oneE (L : List Rte) (r : Rte) : rowR (L ++ [r]) = rowR L ++ [.int .u64 (hI r.1.1), .int .u64 (lI r.1.1), .int .i64 r.1.2, .int .i64 r.2] := by
  induction L with
  | nil => rfl
  | cons q L ih => simp only [List.cons_append, rowR, ih]
theorem rdv7 (hR : R < w.heap.size) (k : RdV Y R F s x y z) (v0 v1 v2 v3 f0 f1 f2 : Value) : RdV (((((((Y.setCell ⟨w.heap.size + 1, 0, none⟩ (v0)).setCell ⟨w.heap.size + 1, 1, none⟩ (v1)).setCell ⟨w.heap.size + 1, 2, none⟩ (v2)).setCell ⟨w.heap.size + 1, 3, none⟩ (v3)).setCell ⟨w.heap.size + 2, 0, none⟩ (f0)).setCell ⟨w.heap.size + 2, 1, none⟩ (f1)).setCell ⟨w.heap.size + 2, 2, none⟩ (f2)) R F s x y z := (s7_far (by omega) (by omega)).trans k
end
set_option maxRecDepth 20000 in
set_option maxHeartbeats 32000000 in
theorem entries5_any (R : Nat) (F : Int) (s : ByteArray) (w : World) (h : RdV w R F s 0 1 0) (hs : s.size ≤ 1000000000) (res : ResT) (hres : lnsR F s (s.size + 1) 0 1 0 [] 0 = res) :
    Calls Tryz.prog 33 #[.pointer (some ⟨R, 0, none⟩)] w fun e w' => (∃ lv, e = .returned (.tuple #[lv, .agg #[.int .i64 res.1.1, .int .i64 res.1.2.1, .int .i64 res.1.2.2]]) ∧ w'.ownsRow (w.heap.size + 4) 47 4 lv res.2.length (rowR res.2)) ∧ Bo R w w' := by
  obtain ⟨i0, hi, hz0, hz1, hz2⟩ := info_parts Tryz.infoR
  have hRw : R < w.heap.size := h.lt
  have q1 := bl1 w (.cells #[.int .i64 0, .int .i64 0, .int .i64 0] 37)
  have q2 := bl1 (w.alloc (.cells #[.int .i64 0, .int .i64 0, .int .i64 0] 37)) (.cells #[.int .u64 0, .int .u64 0, .int .i64 0, .int .i64 0] 47)
  have q3 := bl1 ((w.alloc (.cells #[.int .i64 0, .int .i64 0, .int .i64 0] 37)).alloc (.cells #[.int .u64 0, .int .u64 0, .int .i64 0, .int .i64 0] 47)) (.cells #[.int .i64 0, .int .i64 0, .int .i64 0] 37)
  have q4 := bl1 (((w.alloc (.cells #[.int .i64 0, .int .i64 0, .int .i64 0] 37)).alloc (.cells #[.int .u64 0, .int .u64 0, .int .i64 0, .int .i64 0] 47)).alloc (.cells #[.int .i64 0, .int .i64 0, .int .i64 0] 37)) (.cells #[.int .i64 0, .int .i64 0, .int .i64 0] 37)
  have s1 : (w.alloc (.cells #[.int .i64 0, .int .i64 0, .int .i64 0] 37)).heap.size = w.heap.size + 1 := by simp
  have s2 : ((w.alloc (.cells #[.int .i64 0, .int .i64 0, .int .i64 0] 37)).alloc (.cells #[.int .u64 0, .int .u64 0, .int .i64 0, .int .i64 0] 47)).heap.size = w.heap.size + 2 := by simp
  have s3 : (((w.alloc (.cells #[.int .i64 0, .int .i64 0, .int .i64 0] 37)).alloc (.cells #[.int .u64 0, .int .u64 0, .int .i64 0, .int .i64 0] 47)).alloc (.cells #[.int .i64 0, .int .i64 0, .int .i64 0] 37)).heap.size = w.heap.size + 3 := by simp
  have HS0 : Hid (∀ X, X = (((w.alloc (.cells #[.int .i64 0, .int .i64 0, .int .i64 0] 37)).alloc (.cells #[.int .u64 0, .int .u64 0, .int .i64 0, .int .i64 0] 47)).alloc (.cells #[.int .i64 0, .int .i64 0, .int .i64 0] 37)).alloc (.cells #[.int .i64 0, .int .i64 0, .int .i64 0] 37) → LnS F s res w R 0 1 0 0 [] (.slice none 0 0) X) := hidR (by
    rintro X rfl
    refine ⟨Nat.zero_le _, by omega, by omega, by omega, by simp, by omega, ⟨s.size + 1, by omega, hres⟩, ⟨?_, ⟨.int .u64 0, .int .u64 0, .int .i64 0, .int .i64 0, ?_⟩, ⟨.int .i64 0, .int .i64 0, .int .i64 0, ?_⟩, ?_, ⟨rfl, .inl ⟨rfl, rfl⟩⟩, Bt.ofB (keepb q4 (keepb q3 (keepb q2 q1)))⟩, (((h.below q1).below q2).below q3).below q4⟩
    · rw [q4.block _ (by omega), q3.block _ (by omega), q2.block _ (by omega)]
      exact Array.getElem?_push_size
    · rw [q4.block _ (by omega), q3.block _ (by omega), ← s1]
      exact Array.getElem?_push_size
    · rw [q4.block _ (by omega), ← s2]
      exact Array.getElem?_push_size
    · rw [← s3]
      exact Array.getElem?_push_size)
  clear q1 q2 q3 q4 s1 s2 s3 h hres
  go_enter Tryz.func33, Tryz.ntmps33
  go_wp2_with fail
  refine scope_many 1 (fun l a W => ∃ (k ln st tm : Nat) (L : List Rte) (lv : Value), a.tmps.size = 43 ∧ a.tmps.getD 0 undef = .pointer (some ⟨R, 0, none⟩) ∧ a.tmps.getD 2 undef = .slice none 0 0 ∧ a.tmps.getD 3 undef = .pointer (some ⟨w.heap.size, 0, none⟩) ∧ a.tmps.getD 4 undef = lv ∧ a.tmps.getD 5 undef = .pointer (some ⟨w.heap.size + 1, 0, none⟩) ∧ a.tmps.getD 6 undef = .pointer (some ⟨w.heap.size + 1 + 1, 0, none⟩) ∧ a.tmps.getD 7 undef = .pointer (some ⟨w.heap.size + 1 + 1 + 1, 0, none⟩) ∧ a.defers = [] ∧ Hid ((l = 0 ∧ LnE F s res w R k ln st tm L lv W) ∨ (l = 1 ∧ LnS F s res w R k ln st tm L lv W))) (fun l _ W => 2 * (s.size - atR R W) + l) (by rfl) ?pre ?passX ?pass1
  case pre =>
    go_wp2
    exact ⟨0, 1, 0, 0, [], .slice none 0 0, by first | rfl | trivial, by first | rfl | trivial, by first | rfl | trivial, by first | rfl | trivial, by first | rfl | trivial, by first | rfl | trivial, by first | rfl | trivial, by first | rfl | trivial, by first | rfl | trivial, hidR (.inr ⟨by first | rfl | trivial, HS0.out _ rfl⟩)⟩
  case passX =>
    clear HS0
    rintro ⟨tm9, df⟩ W ⟨k, ln, st, tm, L, lv, hsz, h0, h2, h3, h4, h5, h6, h7, hdf, HJ⟩
    dsimp only at hsz h0 h2 h3 h4 h5 h6 h7 hdf
    obtain ⟨u, hu, htm⟩ := arr43 tm9 hsz
    rw [← hu] at h0 h2 h3 h4 h5 h6 h7
    have hS : LnS F s res w R k ln st tm L lv W := by
      rcases HJ.out with ⟨q, -⟩ | ⟨-, q⟩
      · cases q
      · exact q
    rw [htm, hdf, h0, h2, h3, h4, h5, h6, h7, hS.r.at]
    have HS := hidR hS
    have hb0 := skS_bd s _ k (Nat.le_refl _) hS.kk
    have KT := toWord_any R F s (ln : Int) (st : Int) k W hS.r hS.kk hs
    obtain ⟨f, hf1, hf2⟩ := hS.e
    obtain ⟨f, rfl⟩ : ∃ f', f = f' + 1 := ⟨f - 1, by have := hS.kk; omega⟩
    have HE : Hid ((if kdS s (skS s k) = 0 then (match entO F s (skS s k) with | .inl (e, p) => ((e, (ln : Int), (p : Int) - (st : Int) + 1), []) | .inr (r, p) => if L.length < 1048576 then lnsB s (lnsR F s f) p ln (L ++ [r]) tm else lnsB s (lnsR F s f) p ln L (if tm = 0 then ln else tm)) else lnsB s (lnsR F s f) (skS s k) ln L tm) = res) := hidR hf2
    have Hf : Hid (s.size + 1 - k ≤ f + 1) := hidR hf1
    clear hu htm hsz hdf h0 h2 h3 h4 h5 h6 h7 HJ tm9 df hS hf1 hf2
    revert HE KT hb0
    generalize skS s k = a0
    intro hb0 KT HE
    go_wp2_with fail
    refine KT.mono ?_
    rintro e X ⟨rfl, hR, hb⟩
    have HRX := hidR hR
    have HMX := hidR (HS.out.m.bo hRw hb)
    clear KT hR hb
    by_cases hk0 : kdS s a0 = 0
    · have hd0 : decide (kdS s a0 = 0) = true := decide_eq_true hk0
      rw [hd0]
      have HE1 := hidR ((if_pos hk0).symm.trans HE.out)
      have KE := entry5_any R F s (ln : Int) (st : Int) a0 X HRX.out hb0.2.1 hs (by omega) (by have := HS.out.ks; have := HS.out.kk; omega)
      have hpb := entP_bd (F := F) hb0.2.1
      have hne := fun e p => entO_ne (F := F) (s := s) (a := a0) (e := e) (p := p)
      clear HE hk0 hd0
      revert HE1 KE hpb hne
      generalize entO F s a0 = eo
      intro HE1 KE hpb hne
      go_wp2_with fail
      refine KE.mono ?_
      rintro e Y ⟨rfl, hR, hb⟩
      have HRY := hidR hR
      have hMY := HMX.out.bo hRw hb
      have HMY := hidR hMY
      obtain ⟨r0, r1, r2, r3, hr⟩ := hMY.r
      obtain ⟨g0, g1, g2, hg⟩ := hMY.f
      have y0 := at_blk hr 0 r0 rfl
      have y1 := at_blk hr 1 r1 rfl
      have y2 := at_blk hr 2 r2 rfl
      have y3 := at_blk hr 3 r3 rfl
      have v0 := at_blk hg 0 g0 rfl
      have v1 := at_blk hg 1 g1 rfl
      have v2 := at_blk hg 2 g2 rfl
      have x0 := fr_blk5 (j := 0) hr
      have x1 := fr_blk5 (j := 1) hr
      have x2 := fr_blk5 (j := 2) hr
      have x3 := fr_blk5 (j := 3) hr
      have w0 := fr_blk5 (j := 0) hg
      have w1 := fr_blk5 (j := 1) hg
      have w2 := fr_blk5 (j := 2) hg
      clear KE hR hb HRX HMX hMY
      cases eo with
      | inl ep =>
        obtain ⟨e, p⟩ := ep
        have hen : ¬ e = 0 := hne e p rfl
        simp only [entV, entP] at HRY hpb HE1 ⊢
        have HZ := hidR (HMY.out.store hRw hr hg (.int .u64 0) (.int .u64 0) (.int .i64 0) (.int .i64 0) (.int .i64 e) (.int .i64 (ln : Int)) (.int .i64 ((p : Int) - (st : Int) + 1)))
        clear hne hr hg HMY HRY
        go_wp2_with fail
        clear y0 y1 y2 y3 v0 v1 v2 x0 x1 x2 x3 w0 w1 w2
        revert HZ
        generalize ((((((Y.setCell ⟨w.heap.size + 1, 0, none⟩ (.int .u64 0)).setCell ⟨w.heap.size + 1, 1, none⟩ (.int .u64 0)).setCell ⟨w.heap.size + 1, 2, none⟩ (.int .i64 0)).setCell ⟨w.heap.size + 1, 3, none⟩ (.int .i64 0)).setCell ⟨w.heap.size + 2, 0, none⟩ (.int .i64 e)).setCell ⟨w.heap.size + 2, 1, none⟩ (.int .i64 (ln : Int))).setCell ⟨w.heap.size + 2, 2, none⟩ (.int .i64 ((p : Int) - (st : Int) + 1)) = Z
        intro HZ
        have HC0 : Hid ((Z.drew.heap[w.heap.size]? = some (.cells #[.int .i64 0, .int .i64 0, .int .i64 0] 37) ∧ Z.drew.heap[w.heap.size + 2]? = some (.cells #[.int .i64 e, .int .i64 (ln : Int), .int .i64 ((p : Int) - (st : Int) + 1)] 37)) ∧ Bo R w Z.drew) := hidR ⟨⟨HZ.out.1.z, HZ.out.2.1⟩, HZ.out.1.b.trans (Bt.ofB (below_drewN (Below.refl _ _) 1))⟩
        clear HZ
        refine qp_region2 2 (qpOk 2 2 (by decide) (fun N => by kernel_rfl) (by kernel_rfl) (by kernel_rfl) (by kernel_rfl) (by kernel_rfl)) (C := fun X => (X.heap[w.heap.size]? = some (.cells #[.int .i64 0, .int .i64 0, .int .i64 0] 37) ∧ X.heap[w.heap.size + 2]? = some (.cells #[.int .i64 e, .int .i64 (ln : Int), .int .i64 ((p : Int) - (st : Int) + 1)] 37)) ∧ Bo R w X) [some 19, some 2] [.agg #[.int .i64 e, .int .i64 (ln : Int), .int .i64 ((p : Int) - (st : Int) + 1)], .slice none 0 0] (by kernel_rfl) HC0.out ?walk ?fin
        case walk =>
          dsimp only [List.take]
          refine q_run (v := .agg #[.int .i64 e, .int .i64 (ln : Int), .int .i64 ((p : Int) - (st : Int) + 1)]) (by rfl) ?_ ?_
          · (intro w1 hC; have f0 := at_blk hC.1.2 0 (.int .i64 e) rfl; have f1 := at_blk hC.1.2 1 (.int .i64 (ln : Int)) rfl; have f2 := at_blk hC.1.2 2 (.int .i64 ((p : Int) - (st : Int) + 1)) rfl; clear hC; go_simp; first | done | (simp; done) | (simp [*]; done) | omega | (simp; omega) | rfl)
          simp only [Act.put, List.setIfInBounds_toArray, List.set_cons_zero, List.set_cons_succ]
          refine q_run (v := .slice none 0 0) (by rfl) ?_ ?_
          · (intro w1 hC; clear hC; go_simp; first | done | (simp; done) | (simp [*]; done) | omega | (simp; omega) | rfl)
          simp only [Act.put, List.setIfInBounds_toArray, List.set_cons_zero, List.set_cons_succ]
          refine wpQuiet_nil ?_
          simp only [putAll, Act.put, List.setIfInBounds_toArray, List.set_cons_zero, List.set_cons_succ]
        case fin =>
          intro W hC
          simp only [putAll, Act.put, List.setIfInBounds_toArray, List.set_cons_zero, List.set_cons_succ]
          dsimp only [List.drop]
          have hz := hC.1.1
          have c0 := at_blk hz 0 (.int .i64 0) rfl
          have c1 := at_blk hz 1 (.int .i64 0) rfl
          have c2 := at_blk hz 2 (.int .i64 0) rfl
          have d0 := fr_blk5 (j := 0) hz
          have d1 := fr_blk5 (j := 1) hz
          have d2 := fr_blk5 (j := 2) hz
          have HB := hidR (Bt.set (Bt.set (Bt.set hC.2 (g := w.heap.size) (.inr (Nat.le_refl _)) 0 (.int .i64 e)) (g := w.heap.size) (.inr (Nat.le_refl _)) 1 (.int .i64 (ln : Int))) (g := w.heap.size) (.inr (Nat.le_refl _)) 2 (.int .i64 ((p : Int) - (st : Int) + 1)))
          clear hC hz HC0
          go_wp2
          refine jumps_ret ?_
          exact bodyPost_ret (v := .tuple #[.slice none 0 0, .agg #[.int .i64 e, .int .i64 (ln : Int), .int .i64 ((p : Int) - (st : Int) + 1)]]) (by simp [results, Tryz.results33, go_sem, c0, c1, c2]) rfl ⟨⟨_, by rw [← HE1.out], by rw [← HE1.out]; exact ⟨rfl, .inl ⟨rfl, rfl⟩⟩⟩, HB.out⟩
      | inr rp =>
        obtain ⟨⟨⟨rx, rn⟩, rh⟩, p⟩ := rp
        simp only [entV, entP] at HRY hpb HE1 ⊢
        have HZ := hidR (HMY.out.store hRw hr hg (.int .u64 (hI rx)) (.int .u64 (lI rx)) (.int .i64 rn) (.int .i64 rh) (.int .i64 0) (.int .i64 0) (.int .i64 0))
        have HRZ := hidR (rdv7 hRw HRY.out (.int .u64 (hI rx)) (.int .u64 (lI rx)) (.int .i64 rn) (.int .i64 rh) (.int .i64 0) (.int .i64 0) (.int .i64 0))
        have HZ0 := hidR HMY.out.m
        have HRY0 := HRY
        clear hne hr hg HMY HRY
        obtain ⟨ao, cc, rfl⟩ := own_form HZ.out.1.l
        by_cases hll : L.length < 1048576
        · have hll2 : (L.length : Int) < 1048576 := by omega
          have HE2 := hidR ((if_pos hll).symm.trans HE1.out)
          go_wp2_with (at_builtin; apply stopHereU)
          refine (show wpList _ _ _ _ _ _ from ?_)
          clear y0 y1 y2 y3 v0 v1 v2 x0 x1 x2 x3 w0 w1 w2
          have hsz7 : Y.heap.size = (((((((Y.setCell ⟨w.heap.size + 1, 0, none⟩ (.int .u64 (hI rx))).setCell ⟨w.heap.size + 1, 1, none⟩ (.int .u64 (lI rx))).setCell ⟨w.heap.size + 1, 2, none⟩ (.int .i64 rn)).setCell ⟨w.heap.size + 1, 3, none⟩ (.int .i64 rh)).setCell ⟨w.heap.size + 2, 0, none⟩ (.int .i64 0)).setCell ⟨w.heap.size + 2, 1, none⟩ (.int .i64 0)).setCell ⟨w.heap.size + 2, 2, none⟩ (.int .i64 0)).heap.size := by simp
          revert HZ HRZ hsz7
          generalize ((((((Y.setCell ⟨w.heap.size + 1, 0, none⟩ (.int .u64 (hI rx))).setCell ⟨w.heap.size + 1, 1, none⟩ (.int .u64 (lI rx))).setCell ⟨w.heap.size + 1, 2, none⟩ (.int .i64 rn)).setCell ⟨w.heap.size + 1, 3, none⟩ (.int .i64 rh)).setCell ⟨w.heap.size + 2, 0, none⟩ (.int .i64 0)).setCell ⟨w.heap.size + 2, 1, none⟩ (.int .i64 0)).setCell ⟨w.heap.size + 2, 2, none⟩ (.int .i64 0) = Z
          intro HRZ HZ hsz7
          have q9 := bl1 Z (.cells #[.int .u64 (hI rx), .int .u64 (lI rx), .int .i64 rn, .int .i64 rh] 47)
          have hM9 := HZ.out.1.bo hRw (Bt.ofB q9)
          have hsz9 : w.heap.size + 4 ≤ (Z.alloc (.cells #[.int .u64 (hI rx), .int .u64 (lI rx), .int .i64 rn, .int .i64 rh] 47)).heap.size := by have := blk_lt5 hM9.m; omega
          have HRZ9 := hidR (HRZ.out.below q9)
          refine wpList_append_lies _ rfl _ _ 22 rfl (w.heap.size + 4) 47 i0 (.agg #[.int .u64 0, .int .u64 0, .int .i64 0, .int .i64 0]) 4 32 Tryz.underlying22 hi hz0 hz1 hz2 rfl (by decide) _ _ _ rfl hM9.l ⟨Y.heap.size, 0, none⟩ 1 1 [.int .u64 (hI rx), .int .u64 (lI rx), .int .i64 rn, .int .i64 rh] rfl rfl (newsR5 Z _ hsz7 _ _ _ _ _) (fourR5 _ _ _ _) (by decide) (by unfold maxLen; omega) (by omega) hsz9 _ rfl ?_
          intro g4 cap4 w4 hown4 hgrow hat hlt4
          have hob : ∀ z, (Value.slice ao L.length cc).ownBlock = some z → w.heap.size + 4 ≤ z := fun z q => (hM9.l.lt z q).1
          have nb : ∀ {z : Nat} {o : Obj}, (Z.alloc (.cells #[.int .u64 (hI rx), .int .u64 (lI rx), .int .i64 rn, .int .i64 rh] 47)).heap[z]? = some o → z < w.heap.size + 4 → w4.heap[z]? = some o := fun h1 h2 => (hgrow.block _ (blk_lt5 h1) (fun q => by have := hob _ q.symm; omega)).trans h1
          obtain ⟨s0, s1, s2, s3, hsr⟩ := hM9.r
          obtain ⟨s4, s5, s6, hsf⟩ := hM9.f
          have HJ : Hid (LnE F s res w R p ln st tm (L ++ [((rx, rn), rh)]) (.slice (some ⟨g4, 0, none⟩) (L.length + 1) cap4) w4) := hidR ⟨hpb.2, by have := HS.out.kn; omega, HS.out.l1, by have := HS.out.ks; omega, by simp; omega, HS.out.kt, ⟨f, by have := Hf.out; omega, HE2.out⟩, ⟨nb hM9.z (by omega), ⟨_, _, _, _, nb hsr (by omega)⟩, ⟨_, _, _, nb hsf (by omega)⟩, nb hM9.m (by omega), by rw [rowR_oneE, List.length_append]; exact hown4, Bt.grown hM9.b hgrow (fun z q => .inr (by have := hob z q; omega))⟩, nb HRZ9.out (by omega)⟩
          clear hM9 hsz9 hown4 hgrow hat hlt4 hob nb hsr hsf HRZ HZ q9 HE1 HE2
          go_wp2
          refine wp_goto ?_
          refine And.intro ⟨p, ln, st, tm, (L ++ [((rx, rn), rh)]), (.slice (some ⟨g4, 0, none⟩) (L.length + 1) cap4), rfl, rfl, rfl, rfl, rfl, rfl, rfl, rfl, rfl, hidR (.inl ⟨rfl, HJ.out⟩)⟩ ?_
          try dsimp only
          rw [HJ.out.r.at]
          have := HJ.out.kk
          omega
        · have HE2 := hidR ((if_neg hll).symm.trans HE1.out)
          have hll2 : ¬ (L.length : Int) < 1048576 := by omega
          have t0 := at_blk HZ0.out 0 (.int .i64 (tmE tm)) rfl
          by_cases ht : tm = 0
          · have t9 : Y.cell? ⟨w.heap.size + 3, 0, none⟩ = some (.int .i64 0) := by rw [t0, ht]; rfl
            have t1 := at_blk HZ0.out 1 (.int .i64 (tm : Int)) rfl
            have t2 := at_blk HZ0.out 2 (.int .i64 (tmK tm)) rfl
            have j0 := fr_blk5 (j := 0) HZ0.out
            have j1 := fr_blk5 (j := 1) HZ0.out
            have j2 := fr_blk5 (j := 2) HZ0.out
            have l3 := HRY0.out.cells.2.2.2.1
            have hR1 : ¬ R = w.heap.size + 1 := by omega
            have hR2 : ¬ R = w.heap.size + 2 := by omega
            have HT : Hid (LnE F s res w R p ln st ln L (.slice ao L.length cc) ((((((((((Y.setCell ⟨w.heap.size + 1, 0, none⟩ (.int .u64 (hI rx))).setCell ⟨w.heap.size + 1, 1, none⟩ (.int .u64 (lI rx))).setCell ⟨w.heap.size + 1, 2, none⟩ (.int .i64 rn)).setCell ⟨w.heap.size + 1, 3, none⟩ (.int .i64 rh)).setCell ⟨w.heap.size + 2, 0, none⟩ (.int .i64 0)).setCell ⟨w.heap.size + 2, 1, none⟩ (.int .i64 0)).setCell ⟨w.heap.size + 2, 2, none⟩ (.int .i64 0)).setCell ⟨w.heap.size + 3, 0, none⟩ (.int .i64 16)).setCell ⟨w.heap.size + 3, 1, none⟩ (.int .i64 (ln : Int))).setCell ⟨w.heap.size + 3, 2, none⟩ (.int .i64 1))) := hidR ⟨hpb.2, by have := HS.out.kn; omega, HS.out.l1, by have := HS.out.ks; omega, HS.out.ll, Nat.le_refl _, ⟨f, by have := Hf.out; omega, by have q := HE2.out; rw [if_pos ht] at q; exact q⟩, HZ.out.1.setM HS.out.l1, ((hSet _ (by omega)).trans ((hSet _ (by omega)).trans ((hSet _ (by omega)).trans HRZ.out)))⟩
            clear t0 HZ HRZ HZ0 HRY0 HE1 HE2
            go_wp2_with fail
            clear y0 y1 y2 y3 v0 v1 v2 x0 x1 x2 x3 w0 w1 w2 t9 t1 t2 j0 j1 j2 l3 hR1 hR2
            revert HT
            generalize (((((((((Y.setCell ⟨w.heap.size + 1, 0, none⟩ (.int .u64 (hI rx))).setCell ⟨w.heap.size + 1, 1, none⟩ (.int .u64 (lI rx))).setCell ⟨w.heap.size + 1, 2, none⟩ (.int .i64 rn)).setCell ⟨w.heap.size + 1, 3, none⟩ (.int .i64 rh)).setCell ⟨w.heap.size + 2, 0, none⟩ (.int .i64 0)).setCell ⟨w.heap.size + 2, 1, none⟩ (.int .i64 0)).setCell ⟨w.heap.size + 2, 2, none⟩ (.int .i64 0)).setCell ⟨w.heap.size + 3, 0, none⟩ (.int .i64 16)).setCell ⟨w.heap.size + 3, 1, none⟩ (.int .i64 (ln : Int))).setCell ⟨w.heap.size + 3, 2, none⟩ (.int .i64 1) = Z
            intro HL
            refine wp_label ?_
            go_wp2_with fail
            have hbd := nlS_bd s p HL.out.kk
            by_cases hn : nlS s p = -1
            · have KN := toNext_no R F s (ln : Int) (st : Int) p _ HL.out.r HL.out.kk hs hn
              refine KN.mono ?_
              rintro e X9 ⟨rfl, hb⟩
              have hM := HL.out.m.bo hRw (Bt.ofB hb)
              obtain ⟨f9, -, hres9⟩ := HL.out.e
              unfold lnsB at hres9
              rw [if_pos hn] at hres9
              have m0 := at_blk hM.m 0 (.int .i64 (tmE ln)) rfl
              clear KN hb hbd hn HL
              by_cases ht : ln = 0
              · rw [if_pos ht] at hres9
                have m1 : X9.cell? ⟨w.heap.size + 3, 0, none⟩ = some (.int .i64 0) := by rw [m0, ht]; rfl
                have HRes := hidR hres9
                have hz := hM.z
                have c0 := at_blk hz 0 (.int .i64 0) rfl
                have c1 := at_blk hz 1 (.int .i64 0) rfl
                have c2 := at_blk hz 2 (.int .i64 0) rfl
                have d0 := fr_blk5 (j := 0) hz
                have d1 := fr_blk5 (j := 1) hz
                have d2 := fr_blk5 (j := 2) hz
                have HB := hidR (Bt.set (Bt.set (Bt.set hM.b (g := w.heap.size) (.inr (Nat.le_refl _)) 0 (.int .i64 0)) (g := w.heap.size) (.inr (Nat.le_refl _)) 1 (.int .i64 0)) (g := w.heap.size) (.inr (Nat.le_refl _)) 2 (.int .i64 0))
                have HO : Hid ((((X9.setCell ⟨w.heap.size, 0, none⟩ (.int .i64 0)).setCell ⟨w.heap.size, 1, none⟩ (.int .i64 0)).setCell ⟨w.heap.size, 2, none⟩ (.int .i64 0)).ownsRow (w.heap.size + 4) 47 4 (.slice ao L.length cc) L.length (rowR L)) := hidR (own_heap hM.l (fun z q => by
                  have := (hM.l.lt z q).1
                  rw [hSet _ (by omega), hSet _ (by omega), hSet _ (by omega)]))
                clear hM hz m0 ht hres9
                go_wp2
                refine jumps_ret ?_
                exact bodyPost_ret (v := .tuple #[.slice ao L.length cc, .agg #[.int .i64 0, .int .i64 0, .int .i64 0]]) (by simp [results, Tryz.results33, go_sem, c0, c1, c2]) rfl ⟨⟨_, by rw [← HRes.out], by rw [← HRes.out]; exact HO.out⟩, HB.out⟩
              · rw [if_neg ht] at hres9
                have m1 : X9.cell? ⟨w.heap.size + 3, 0, none⟩ = some (.int .i64 16) := by rw [m0]; unfold tmE; rw [if_neg ht]
                have HRes := hidR hres9
                have hmm : X9.heap[w.heap.size + 3]? = some (.cells #[.int .i64 16, .int .i64 (ln : Int), .int .i64 1] 37) := by rw [hM.m]; unfold tmE tmK; rw [if_neg ht, if_neg ht]
                have HC0 : Hid ((X9.drew.heap[w.heap.size]? = some (.cells #[.int .i64 0, .int .i64 0, .int .i64 0] 37) ∧ X9.drew.heap[w.heap.size + 3]? = some (.cells #[.int .i64 16, .int .i64 (ln : Int), .int .i64 1] 37)) ∧ Bo R w X9.drew) := hidR ⟨⟨hM.z, hmm⟩, hM.b.trans (Bt.ofB (below_drewN (Below.refl _ _) 1))⟩
                clear hM m0 ht hres9 hmm
                go_wp2_with fail
                clear m1
                refine qp_region2 2 (qpOk 2 2 (by decide) (fun N => by kernel_rfl) (by kernel_rfl) (by kernel_rfl) (by kernel_rfl) (by kernel_rfl)) (C := fun X => (X.heap[w.heap.size]? = some (.cells #[.int .i64 0, .int .i64 0, .int .i64 0] 37) ∧ X.heap[w.heap.size + 3]? = some (.cells #[.int .i64 16, .int .i64 (ln : Int), .int .i64 1] 37)) ∧ Bo R w X) [some 40, some 2] [.agg #[.int .i64 16, .int .i64 (ln : Int), .int .i64 1], .slice none 0 0] (by kernel_rfl) HC0.out ?walk ?fin
                case walk =>
                  dsimp only [List.take]
                  refine q_run (v := .agg #[.int .i64 16, .int .i64 (ln : Int), .int .i64 1]) (by rfl) ?_ ?_
                  · (intro w1 hC; have f0 := at_blk hC.1.2 0 (.int .i64 16) rfl; have f1 := at_blk hC.1.2 1 (.int .i64 (ln : Int)) rfl; have f2 := at_blk hC.1.2 2 (.int .i64 1) rfl; clear hC; go_simp; first | done | (simp; done) | (simp [*]; done) | omega | (simp; omega) | rfl)
                  simp only [Act.put, List.setIfInBounds_toArray, List.set_cons_zero, List.set_cons_succ]
                  refine q_run (v := .slice none 0 0) (by rfl) ?_ ?_
                  · (intro w1 hC; clear hC; go_simp; first | done | (simp; done) | (simp [*]; done) | omega | (simp; omega) | rfl)
                  simp only [Act.put, List.setIfInBounds_toArray, List.set_cons_zero, List.set_cons_succ]
                  refine wpQuiet_nil ?_
                  simp only [putAll, Act.put, List.setIfInBounds_toArray, List.set_cons_zero, List.set_cons_succ]
                case fin =>
                  intro W hC
                  simp only [putAll, Act.put, List.setIfInBounds_toArray, List.set_cons_zero, List.set_cons_succ]
                  dsimp only [List.drop]
                  have hz := hC.1.1
                  have c0 := at_blk hz 0 (.int .i64 0) rfl
                  have c1 := at_blk hz 1 (.int .i64 0) rfl
                  have c2 := at_blk hz 2 (.int .i64 0) rfl
                  have d0 := fr_blk5 (j := 0) hz
                  have d1 := fr_blk5 (j := 1) hz
                  have d2 := fr_blk5 (j := 2) hz
                  have HB := hidR (Bt.set (Bt.set (Bt.set hC.2 (g := w.heap.size) (.inr (Nat.le_refl _)) 0 (.int .i64 16)) (g := w.heap.size) (.inr (Nat.le_refl _)) 1 (.int .i64 (ln : Int))) (g := w.heap.size) (.inr (Nat.le_refl _)) 2 (.int .i64 1))
                  clear hC hz HC0
                  go_wp2
                  refine jumps_ret ?_
                  exact bodyPost_ret (v := .tuple #[.slice none 0 0, .agg #[.int .i64 16, .int .i64 (ln : Int), .int .i64 1]]) (by simp [results, Tryz.results33, go_sem, c0, c1, c2]) rfl ⟨⟨_, by rw [← HRes.out], by rw [← HRes.out]; exact ⟨rfl, .inl ⟨rfl, rfl⟩⟩⟩, HB.out⟩
            · obtain ⟨i, hi9⟩ : ∃ i : Nat, nlS s p = (i : Int) := ⟨(nlS s p).toNat, by omega⟩
              have KN := toNext_yes R F s (ln : Int) (st : Int) p i _ HL.out.r HL.out.kk hs hi9 (by omega) (by have := HL.out.kn; have := HL.out.kk; omega)
              refine KN.mono ?_
              rintro e X9 ⟨rfl, hR, hb⟩
              obtain ⟨f9, hf9, hres9⟩ := HL.out.e
              unfold lnsB at hres9
              rw [if_neg hn, hi9, Int.toNat_natCast] at hres9
              have HJ : Hid (LnS F s res w R (p + i + 1) (ln + 1) (p + i + 1) ln L (.slice ao L.length cc) X9) := hidR ⟨by omega, by have := HL.out.kn; omega, by omega, Nat.le_refl _, HL.out.ll, by have := HL.out.kt; omega, ⟨f9, by omega, hres9⟩, HL.out.m.bo hRw hb, by push_cast at hR ⊢; exact hR⟩
              have hkn := HL.out.kk
              clear KN hR hb hres9 hn HL
              go_wp2
              refine wp_goto ?_
              refine And.intro ⟨p + i + 1, ln + 1, p + i + 1, ln, L, .slice ao L.length cc, rfl, rfl, rfl, rfl, rfl, rfl, rfl, rfl, rfl, hidR (.inr ⟨rfl, HJ.out⟩)⟩ ?_
              try dsimp only
              rw [HJ.out.r.at]
              have := HJ.out.kk
              omega
          · have t9 : Y.cell? ⟨w.heap.size + 3, 0, none⟩ = some (.int .i64 16) := by rw [t0]; unfold tmE; rw [if_neg ht]
            have HT : Hid (LnE F s res w R p ln st tm L (.slice ao L.length cc) (((((((Y.setCell ⟨w.heap.size + 1, 0, none⟩ (.int .u64 (hI rx))).setCell ⟨w.heap.size + 1, 1, none⟩ (.int .u64 (lI rx))).setCell ⟨w.heap.size + 1, 2, none⟩ (.int .i64 rn)).setCell ⟨w.heap.size + 1, 3, none⟩ (.int .i64 rh)).setCell ⟨w.heap.size + 2, 0, none⟩ (.int .i64 0)).setCell ⟨w.heap.size + 2, 1, none⟩ (.int .i64 0)).setCell ⟨w.heap.size + 2, 2, none⟩ (.int .i64 0))) := hidR ⟨hpb.2, by have := HS.out.kn; omega, HS.out.l1, by have := HS.out.ks; omega, HS.out.ll, HS.out.kt, ⟨f, by have := Hf.out; omega, by have q := HE2.out; rw [if_neg ht] at q; exact q⟩, HZ.out.1, HRZ.out⟩
            clear t0 HZ HRZ HZ0 HRY0 HE1 HE2 ht
            go_wp2_with fail
            clear y0 y1 y2 y3 v0 v1 v2 x0 x1 x2 x3 w0 w1 w2 t9
            revert HT
            generalize ((((((Y.setCell ⟨w.heap.size + 1, 0, none⟩ (.int .u64 (hI rx))).setCell ⟨w.heap.size + 1, 1, none⟩ (.int .u64 (lI rx))).setCell ⟨w.heap.size + 1, 2, none⟩ (.int .i64 rn)).setCell ⟨w.heap.size + 1, 3, none⟩ (.int .i64 rh)).setCell ⟨w.heap.size + 2, 0, none⟩ (.int .i64 0)).setCell ⟨w.heap.size + 2, 1, none⟩ (.int .i64 0)).setCell ⟨w.heap.size + 2, 2, none⟩ (.int .i64 0) = Z
            intro HL
            refine wp_label ?_
            go_wp2_with fail
            have hbd := nlS_bd s p HL.out.kk
            by_cases hn : nlS s p = -1
            · have KN := toNext_no R F s (ln : Int) (st : Int) p _ HL.out.r HL.out.kk hs hn
              refine KN.mono ?_
              rintro e X9 ⟨rfl, hb⟩
              have hM := HL.out.m.bo hRw (Bt.ofB hb)
              obtain ⟨f9, -, hres9⟩ := HL.out.e
              unfold lnsB at hres9
              rw [if_pos hn] at hres9
              have m0 := at_blk hM.m 0 (.int .i64 (tmE tm)) rfl
              clear KN hb hbd hn HL
              by_cases ht : tm = 0
              · rw [if_pos ht] at hres9
                have m1 : X9.cell? ⟨w.heap.size + 3, 0, none⟩ = some (.int .i64 0) := by rw [m0, ht]; rfl
                have HRes := hidR hres9
                have hz := hM.z
                have c0 := at_blk hz 0 (.int .i64 0) rfl
                have c1 := at_blk hz 1 (.int .i64 0) rfl
                have c2 := at_blk hz 2 (.int .i64 0) rfl
                have d0 := fr_blk5 (j := 0) hz
                have d1 := fr_blk5 (j := 1) hz
                have d2 := fr_blk5 (j := 2) hz
                have HB := hidR (Bt.set (Bt.set (Bt.set hM.b (g := w.heap.size) (.inr (Nat.le_refl _)) 0 (.int .i64 0)) (g := w.heap.size) (.inr (Nat.le_refl _)) 1 (.int .i64 0)) (g := w.heap.size) (.inr (Nat.le_refl _)) 2 (.int .i64 0))
                have HO : Hid ((((X9.setCell ⟨w.heap.size, 0, none⟩ (.int .i64 0)).setCell ⟨w.heap.size, 1, none⟩ (.int .i64 0)).setCell ⟨w.heap.size, 2, none⟩ (.int .i64 0)).ownsRow (w.heap.size + 4) 47 4 (.slice ao L.length cc) L.length (rowR L)) := hidR (own_heap hM.l (fun z q => by
                  have := (hM.l.lt z q).1
                  rw [hSet _ (by omega), hSet _ (by omega), hSet _ (by omega)]))
                clear hM hz m0 ht hres9
                go_wp2
                refine jumps_ret ?_
                exact bodyPost_ret (v := .tuple #[.slice ao L.length cc, .agg #[.int .i64 0, .int .i64 0, .int .i64 0]]) (by simp [results, Tryz.results33, go_sem, c0, c1, c2]) rfl ⟨⟨_, by rw [← HRes.out], by rw [← HRes.out]; exact HO.out⟩, HB.out⟩
              · rw [if_neg ht] at hres9
                have m1 : X9.cell? ⟨w.heap.size + 3, 0, none⟩ = some (.int .i64 16) := by rw [m0]; unfold tmE; rw [if_neg ht]
                have HRes := hidR hres9
                have hmm : X9.heap[w.heap.size + 3]? = some (.cells #[.int .i64 16, .int .i64 (tm : Int), .int .i64 1] 37) := by rw [hM.m]; unfold tmE tmK; rw [if_neg ht, if_neg ht]
                have HC0 : Hid ((X9.drew.heap[w.heap.size]? = some (.cells #[.int .i64 0, .int .i64 0, .int .i64 0] 37) ∧ X9.drew.heap[w.heap.size + 3]? = some (.cells #[.int .i64 16, .int .i64 (tm : Int), .int .i64 1] 37)) ∧ Bo R w X9.drew) := hidR ⟨⟨hM.z, hmm⟩, hM.b.trans (Bt.ofB (below_drewN (Below.refl _ _) 1))⟩
                clear hM m0 ht hres9 hmm
                go_wp2_with fail
                clear m1
                refine qp_region2 2 (qpOk 2 2 (by decide) (fun N => by kernel_rfl) (by kernel_rfl) (by kernel_rfl) (by kernel_rfl) (by kernel_rfl)) (C := fun X => (X.heap[w.heap.size]? = some (.cells #[.int .i64 0, .int .i64 0, .int .i64 0] 37) ∧ X.heap[w.heap.size + 3]? = some (.cells #[.int .i64 16, .int .i64 (tm : Int), .int .i64 1] 37)) ∧ Bo R w X) [some 40, some 2] [.agg #[.int .i64 16, .int .i64 (tm : Int), .int .i64 1], .slice none 0 0] (by kernel_rfl) HC0.out ?walk ?fin
                case walk =>
                  dsimp only [List.take]
                  refine q_run (v := .agg #[.int .i64 16, .int .i64 (tm : Int), .int .i64 1]) (by rfl) ?_ ?_
                  · (intro w1 hC; have f0 := at_blk hC.1.2 0 (.int .i64 16) rfl; have f1 := at_blk hC.1.2 1 (.int .i64 (tm : Int)) rfl; have f2 := at_blk hC.1.2 2 (.int .i64 1) rfl; clear hC; go_simp; first | done | (simp; done) | (simp [*]; done) | omega | (simp; omega) | rfl)
                  simp only [Act.put, List.setIfInBounds_toArray, List.set_cons_zero, List.set_cons_succ]
                  refine q_run (v := .slice none 0 0) (by rfl) ?_ ?_
                  · (intro w1 hC; clear hC; go_simp; first | done | (simp; done) | (simp [*]; done) | omega | (simp; omega) | rfl)
                  simp only [Act.put, List.setIfInBounds_toArray, List.set_cons_zero, List.set_cons_succ]
                  refine wpQuiet_nil ?_
                  simp only [putAll, Act.put, List.setIfInBounds_toArray, List.set_cons_zero, List.set_cons_succ]
                case fin =>
                  intro W hC
                  simp only [putAll, Act.put, List.setIfInBounds_toArray, List.set_cons_zero, List.set_cons_succ]
                  dsimp only [List.drop]
                  have hz := hC.1.1
                  have c0 := at_blk hz 0 (.int .i64 0) rfl
                  have c1 := at_blk hz 1 (.int .i64 0) rfl
                  have c2 := at_blk hz 2 (.int .i64 0) rfl
                  have d0 := fr_blk5 (j := 0) hz
                  have d1 := fr_blk5 (j := 1) hz
                  have d2 := fr_blk5 (j := 2) hz
                  have HB := hidR (Bt.set (Bt.set (Bt.set hC.2 (g := w.heap.size) (.inr (Nat.le_refl _)) 0 (.int .i64 16)) (g := w.heap.size) (.inr (Nat.le_refl _)) 1 (.int .i64 (tm : Int))) (g := w.heap.size) (.inr (Nat.le_refl _)) 2 (.int .i64 1))
                  clear hC hz HC0
                  go_wp2
                  refine jumps_ret ?_
                  exact bodyPost_ret (v := .tuple #[.slice none 0 0, .agg #[.int .i64 16, .int .i64 (tm : Int), .int .i64 1]]) (by simp [results, Tryz.results33, go_sem, c0, c1, c2]) rfl ⟨⟨_, by rw [← HRes.out], by rw [← HRes.out]; exact ⟨rfl, .inl ⟨rfl, rfl⟩⟩⟩, HB.out⟩
            · obtain ⟨i, hi9⟩ : ∃ i : Nat, nlS s p = (i : Int) := ⟨(nlS s p).toNat, by omega⟩
              have KN := toNext_yes R F s (ln : Int) (st : Int) p i _ HL.out.r HL.out.kk hs hi9 (by omega) (by have := HL.out.kn; have := HL.out.kk; omega)
              refine KN.mono ?_
              rintro e X9 ⟨rfl, hR, hb⟩
              obtain ⟨f9, hf9, hres9⟩ := HL.out.e
              unfold lnsB at hres9
              rw [if_neg hn, hi9, Int.toNat_natCast] at hres9
              have HJ : Hid (LnS F s res w R (p + i + 1) (ln + 1) (p + i + 1) tm L (.slice ao L.length cc) X9) := hidR ⟨by omega, by have := HL.out.kn; omega, by omega, Nat.le_refl _, HL.out.ll, by have := HL.out.kt; omega, ⟨f9, by omega, hres9⟩, HL.out.m.bo hRw hb, by push_cast at hR ⊢; exact hR⟩
              have hkn := HL.out.kk
              clear KN hR hb hres9 hn HL
              go_wp2
              refine wp_goto ?_
              refine And.intro ⟨p + i + 1, ln + 1, p + i + 1, tm, L, .slice ao L.length cc, rfl, rfl, rfl, rfl, rfl, rfl, rfl, rfl, rfl, hidR (.inr ⟨rfl, HJ.out⟩)⟩ ?_
              try dsimp only
              rw [HJ.out.r.at]
              have := HJ.out.kk
              omega
    · have hd0 : decide (kdS s a0 = 0) = false := decide_eq_false hk0
      rw [hd0]
      have HE1 := hidR ((if_neg hk0).symm.trans HE.out)
      have HJ : Hid (LnE F s res w R a0 ln st tm L lv X) := hidR ⟨hb0.2.1, by have := HS.out.kn; omega, HS.out.l1, by have := HS.out.ks; omega, HS.out.ll, HS.out.kt, ⟨f, by have := Hf.out; omega, HE1.out⟩, HMX.out, HRX.out⟩
      clear HE hk0 hd0
      go_wp2
      refine wp_goto ?_
      refine And.intro ⟨a0, ln, st, tm, L, lv, rfl, rfl, rfl, rfl, rfl, rfl, rfl, rfl, rfl, hidR (.inl ⟨rfl, HJ.out⟩)⟩ ?_
      try dsimp only
      rw [HJ.out.r.at]
      have := HJ.out.kk
      omega
  case pass1 =>
    clear HS0
    rintro l ⟨tm9, df⟩ W hl ⟨k, ln, st, tm, L, lv, hsz, h0, h2, h3, h4, h5, h6, h7, hdf, HJ⟩
    dsimp only at hsz h0 h2 h3 h4 h5 h6 h7 hdf
    obtain ⟨u, hu, htm⟩ := arr43 tm9 hsz
    rw [← hu] at h0 h2 h3 h4 h5 h6 h7
    rcases HJ.out with ⟨rfl, hE⟩ | ⟨q, -⟩
    · refine ⟨_, rfl, ?_⟩
      rw [htm, hdf, h0, h2, h3, h4, h5, h6, h7, hE.r.at]
      have HL := hidR hE
      have hkk := hE.kk
      obtain ⟨ao, cc, rfl⟩ := own_form hE.m.l
      clear hu htm hsz hdf h0 h2 h3 h4 h5 h6 h7 HJ tm9 df hE
      go_wp2_with fail
      have hbd := nlS_bd s k HL.out.kk
      by_cases hn : nlS s k = -1
      · have KN := toNext_no R F s (ln : Int) (st : Int) k _ HL.out.r HL.out.kk hs hn
        refine KN.mono ?_
        rintro e X9 ⟨rfl, hb⟩
        have hM := HL.out.m.bo hRw (Bt.ofB hb)
        obtain ⟨f9, -, hres9⟩ := HL.out.e
        unfold lnsB at hres9
        rw [if_pos hn] at hres9
        have m0 := at_blk hM.m 0 (.int .i64 (tmE tm)) rfl
        clear KN hb hbd hn HL
        by_cases ht : tm = 0
        · rw [if_pos ht] at hres9
          have m1 : X9.cell? ⟨w.heap.size + 3, 0, none⟩ = some (.int .i64 0) := by rw [m0, ht]; rfl
          have HRes := hidR hres9
          have hz := hM.z
          have c0 := at_blk hz 0 (.int .i64 0) rfl
          have c1 := at_blk hz 1 (.int .i64 0) rfl
          have c2 := at_blk hz 2 (.int .i64 0) rfl
          have d0 := fr_blk5 (j := 0) hz
          have d1 := fr_blk5 (j := 1) hz
          have d2 := fr_blk5 (j := 2) hz
          have HB := hidR (Bt.set (Bt.set (Bt.set hM.b (g := w.heap.size) (.inr (Nat.le_refl _)) 0 (.int .i64 0)) (g := w.heap.size) (.inr (Nat.le_refl _)) 1 (.int .i64 0)) (g := w.heap.size) (.inr (Nat.le_refl _)) 2 (.int .i64 0))
          have HO : Hid ((((X9.setCell ⟨w.heap.size, 0, none⟩ (.int .i64 0)).setCell ⟨w.heap.size, 1, none⟩ (.int .i64 0)).setCell ⟨w.heap.size, 2, none⟩ (.int .i64 0)).ownsRow (w.heap.size + 4) 47 4 (.slice ao L.length cc) L.length (rowR L)) := hidR (own_heap hM.l (fun z q => by
            have := (hM.l.lt z q).1
            rw [hSet _ (by omega), hSet _ (by omega), hSet _ (by omega)]))
          clear hM hz m0 ht hres9
          go_wp2
          refine jumps_ret ?_
          exact bodyPost_ret (v := .tuple #[.slice ao L.length cc, .agg #[.int .i64 0, .int .i64 0, .int .i64 0]]) (by simp [results, Tryz.results33, go_sem, c0, c1, c2]) rfl ⟨⟨_, by rw [← HRes.out], by rw [← HRes.out]; exact HO.out⟩, HB.out⟩
        · rw [if_neg ht] at hres9
          have m1 : X9.cell? ⟨w.heap.size + 3, 0, none⟩ = some (.int .i64 16) := by rw [m0]; unfold tmE; rw [if_neg ht]
          have HRes := hidR hres9
          have hmm : X9.heap[w.heap.size + 3]? = some (.cells #[.int .i64 16, .int .i64 (tm : Int), .int .i64 1] 37) := by rw [hM.m]; unfold tmE tmK; rw [if_neg ht, if_neg ht]
          have HC0 : Hid ((X9.drew.heap[w.heap.size]? = some (.cells #[.int .i64 0, .int .i64 0, .int .i64 0] 37) ∧ X9.drew.heap[w.heap.size + 3]? = some (.cells #[.int .i64 16, .int .i64 (tm : Int), .int .i64 1] 37)) ∧ Bo R w X9.drew) := hidR ⟨⟨hM.z, hmm⟩, hM.b.trans (Bt.ofB (below_drewN (Below.refl _ _) 1))⟩
          clear hM m0 ht hres9 hmm
          go_wp2_with fail
          clear m1
          refine qp_region2 2 (qpOk 2 2 (by decide) (fun N => by kernel_rfl) (by kernel_rfl) (by kernel_rfl) (by kernel_rfl) (by kernel_rfl)) (C := fun X => (X.heap[w.heap.size]? = some (.cells #[.int .i64 0, .int .i64 0, .int .i64 0] 37) ∧ X.heap[w.heap.size + 3]? = some (.cells #[.int .i64 16, .int .i64 (tm : Int), .int .i64 1] 37)) ∧ Bo R w X) [some 40, some 2] [.agg #[.int .i64 16, .int .i64 (tm : Int), .int .i64 1], .slice none 0 0] (by kernel_rfl) HC0.out ?walk ?fin
          case walk =>
            dsimp only [List.take]
            refine q_run (v := .agg #[.int .i64 16, .int .i64 (tm : Int), .int .i64 1]) (by rfl) ?_ ?_
            · (intro w1 hC; have f0 := at_blk hC.1.2 0 (.int .i64 16) rfl; have f1 := at_blk hC.1.2 1 (.int .i64 (tm : Int)) rfl; have f2 := at_blk hC.1.2 2 (.int .i64 1) rfl; clear hC; go_simp; first | done | (simp; done) | (simp [*]; done) | omega | (simp; omega) | rfl)
            simp only [Act.put, List.setIfInBounds_toArray, List.set_cons_zero, List.set_cons_succ]
            refine q_run (v := .slice none 0 0) (by rfl) ?_ ?_
            · (intro w1 hC; clear hC; go_simp; first | done | (simp; done) | (simp [*]; done) | omega | (simp; omega) | rfl)
            simp only [Act.put, List.setIfInBounds_toArray, List.set_cons_zero, List.set_cons_succ]
            refine wpQuiet_nil ?_
            simp only [putAll, Act.put, List.setIfInBounds_toArray, List.set_cons_zero, List.set_cons_succ]
          case fin =>
            intro W hC
            simp only [putAll, Act.put, List.setIfInBounds_toArray, List.set_cons_zero, List.set_cons_succ]
            dsimp only [List.drop]
            have hz := hC.1.1
            have c0 := at_blk hz 0 (.int .i64 0) rfl
            have c1 := at_blk hz 1 (.int .i64 0) rfl
            have c2 := at_blk hz 2 (.int .i64 0) rfl
            have d0 := fr_blk5 (j := 0) hz
            have d1 := fr_blk5 (j := 1) hz
            have d2 := fr_blk5 (j := 2) hz
            have HB := hidR (Bt.set (Bt.set (Bt.set hC.2 (g := w.heap.size) (.inr (Nat.le_refl _)) 0 (.int .i64 16)) (g := w.heap.size) (.inr (Nat.le_refl _)) 1 (.int .i64 (tm : Int))) (g := w.heap.size) (.inr (Nat.le_refl _)) 2 (.int .i64 1))
            clear hC hz HC0
            go_wp2
            refine jumps_ret ?_
            exact bodyPost_ret (v := .tuple #[.slice none 0 0, .agg #[.int .i64 16, .int .i64 (tm : Int), .int .i64 1]]) (by simp [results, Tryz.results33, go_sem, c0, c1, c2]) rfl ⟨⟨_, by rw [← HRes.out], by rw [← HRes.out]; exact ⟨rfl, .inl ⟨rfl, rfl⟩⟩⟩, HB.out⟩
      · obtain ⟨i, hi9⟩ : ∃ i : Nat, nlS s k = (i : Int) := ⟨(nlS s k).toNat, by omega⟩
        have KN := toNext_yes R F s (ln : Int) (st : Int) k i _ HL.out.r HL.out.kk hs hi9 (by omega) (by have := HL.out.kn; have := HL.out.kk; omega)
        refine KN.mono ?_
        rintro e X9 ⟨rfl, hR, hb⟩
        obtain ⟨f9, hf9, hres9⟩ := HL.out.e
        unfold lnsB at hres9
        rw [if_neg hn, hi9, Int.toNat_natCast] at hres9
        have HJ : Hid (LnS F s res w R (k + i + 1) (ln + 1) (k + i + 1) tm L (.slice ao L.length cc) X9) := hidR ⟨by omega, by have := HL.out.kn; omega, by omega, Nat.le_refl _, HL.out.ll, by have := HL.out.kt; omega, ⟨f9, by omega, hres9⟩, HL.out.m.bo hRw hb, by push_cast at hR ⊢; exact hR⟩
        have hkn := HL.out.kk
        clear KN hR hb hres9 hn HL
        go_wp2
        refine wp_goto ?_
        refine And.intro ⟨k + i + 1, ln + 1, k + i + 1, tm, L, .slice ao L.length cc, rfl, rfl, rfl, rfl, rfl, rfl, rfl, rfl, rfl, hidR (.inr ⟨rfl, HJ.out⟩)⟩ ?_
        try dsimp only
        rw [HJ.out.r.at]
        have := HJ.out.kk
        omega
    · exact absurd q hl
end Go.Proofs.YtpiicdpipjjenaaGreatDoor
