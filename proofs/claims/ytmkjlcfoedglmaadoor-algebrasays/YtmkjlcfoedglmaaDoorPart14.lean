/-
  Part 14 of the proof: 4 texts, one behind the other.
-/
import Derived.Test.YtmkjlcfoedglmaaDoorPart6
import Derived.Test.YtmkjlcfoedglmaaDoorPart10
import Derived.Test.YtmkjlcfoedglmaaDoorPart12
import Derived.Test.YtmkjlcfoedglmaaDoorPart11
/-
  A region that draws its order and has two special operations, the second of which waits for the first: it makes a block, and fills it; what is read alone may come at any time.
-/
namespace Go.Proofs.YtmkjlcfoedglmaaDoor
open Go.RowKit
set_option linter.unusedSimpArgs false
set_option linter.unusedVariables false

section
variable {P : Program}
/-- The walk's list and the region's: alike but for the operations themselves at some places. -/
structure Sim (b l : List Oper) (m : Nat) (E : Nat → Bool) : Prop where
  len : b.length = m
  same : ∀ i, i < m → ∀ o, l[i]? = some o → ∃ o', b[i]? = some o' ∧ o'.dst = o.dst ∧ o'.after = o.after ∧ o'.guard = o.guard ∧ (E i = false → o' = o)
theorem Sim.get {b l : List Oper} {m : Nat} {E : Nat → Bool} (h : Sim b l m E) (hml : m ≤ l.length) (i : Nat) (o' : Oper) (hi : b[i]? = some o') : i < m ∧ ∃ o, l[i]? = some o ∧ o'.dst = o.dst ∧ o'.after = o.after ∧ o'.guard = o.guard := by
  have him : i < m := by rw [← h.len]; exact (List.getElem?_eq_some_iff.mp hi).1
  have hl : i < l.length := by omega
  obtain ⟨o2, q1, q2, q3, q4, -⟩ := h.same i him l[i] (by simp [hl])
  rw [hi] at q1
  have := Option.some.inj q1
  subst this
  exact ⟨him, l[i], by simp [hl], q2, q3, q4⟩
theorem Sim.yield {b l : List Oper} {m : Nat} {E : Nat → Bool} (h : Sim b l m E) (hml : m ≤ l.length) (tmps : Array Value) (k : Nat) (hk : k < m) : yielded b.toArray tmps k = yielded l.toArray tmps k := by
  have hl : k < l.length := by omega
  obtain ⟨o2, q1, q2, -, -, -⟩ := h.same k hk l[k] (by simp [hl])
  unfold yielded
  simp only [List.getElem?_toArray, q1, List.getElem?_eq_getElem hl, Option.bind_some, q2]
theorem Sim.wanted {b l : List Oper} {m : Nat} {E : Nat → Bool} (h : Sim b l m E) (hml : m ≤ l.length) (a : Act) (o : Oper) (hlt : ∀ k c, o.guard = some (k, c) → k < m) : Region.wanted o (yielded b.toArray a.tmps) = Region.wanted o (yielded l.toArray a.tmps) := by
  unfold Region.wanted
  cases e : o.guard with
  | none => rfl
  | some kb =>
    obtain ⟨k, c⟩ := kb
    simp only
    rw [h.yield hml a.tmps k (hlt k c e)]
theorem Sim.ready {b l : List Oper} {m : Nat} {E : Nat → Bool} (h : Sim b l m E) (hml : m ≤ l.length) (hw : waitB l m = true) (lp : Array Bool) (hs : lp.size = m) (f : Nat) (hu : unl lp = f + 1) (i : Nat)
    (hi : i ∈ Region.ready .any l.toArray (lp ++ Array.replicate (l.length - m) false)) : i < m ∧ i ∈ Region.ready .any b.toArray lp := by
  obtain ⟨him, -⟩ := ready_pre l m m undef hml hw lp hs f hu i hi
  obtain ⟨hun, o, ho, hall⟩ := mem_ready.1 hi
  obtain ⟨o', q1, q2, q3, q4, -⟩ := h.same i him o (by simpa using ho)
  refine ⟨him, mem_ready.2 ⟨by rw [get_app_lt lp _ i (by omega)] at hun; exact hun, o', by simpa using q1, fun e he hb => ?_⟩⟩
  rw [q3] at he
  have := hall e he hb
  rwa [get_app_false] at this
theorem getD_no {lp : Array Bool} {k : Nat} (h1 : lp.getD k true = false) (h2 : lp.getD k false = true) : False := by
  rw [Array.getD_eq_getD_getElem?] at h1 h2
  cases z : lp[k]? with
  | none => rw [z] at h1; simp at h1
  | some b => rw [z] at h1 h2; simp at h1 h2; rw [h2] at h1; cases h1
theorem gdone {l : List Oper} {m j : Nat} (ok : QpOk l m j) {b : List Oper} {E : Nat → Bool} (sim : Sim b l m E) {C : World → Prop} {A : Act} {Q : Exit → Act → World → Prop}
    (hpost : ∀ w, C w → wpList P l.toArray Q (l.drop m) A w) : ∀ (fuel : Nat) (lp : Array Bool) (a : Act) (w : World), lp.size = m → unl lp = fuel → (∀ i, E i = true → lp.getD i false = true) → C w →
      wpAnyQ P .any b.toArray C (fun a' => a' = A) fuel lp a → wpAny P .any l.toArray Q (fuel + (l.length - m)) (lp ++ Array.replicate (l.length - m) false) a w := by
  intro fuel
  induction fuel with
  | zero =>
    intro lp a w hs hu hj hC h
    rw [h.2, unl_zero lp hu, hs, Nat.zero_add, show l.length - m = (l.drop m).length by simp]
    refine any_seq (l.drop m) m _ A w (fun i => by simp) ?_ (hpost w hC)
    have := ok.seq
    rwa [show l.length - m = (l.drop m).length by simp] at this
  | succ fuel ih =>
    intro lp a w hs hu hj hC h
    rw [show fuel + 1 + (l.length - m) = (fuel + (l.length - m)) + 1 by omega]
    refine ⟨fun e => ?_, fun i hi => ?_⟩
    · obtain ⟨k, hk, hf⟩ := unl_some lp fuel hu
      exact absurd e (some_ready ok lp hs k (by omega) hf)
    · obtain ⟨him, hir⟩ := sim.ready ok.ml ok.wait lp hs fuel hu i hi
      obtain ⟨hun, _⟩ := mem_ready.1 hir
      have hE : E i = false := by
        cases q : E i
        · rfl
        · exact (getD_no hun (hj i q)).elim
      obtain ⟨_, o, ho, _⟩ := mem_ready.1 hi
      have ho' : l[i]? = some o := by simpa using ho
      obtain ⟨o2, q1, -, -, -, q5⟩ := sim.same i him o ho'
      obtain rfl := q5 hE
      obtain ⟨v, hy, hK⟩ := yieldsIn_of_qOp (by simpa using q1) (h.2 i hir)
      refine wp_of_yields ho (sim.wanted ok.ml a o2 (ok.guards i o2 ho')) hy hC (fun w' hw' => ?_)
      rw [set_app lp _ i (by omega)]
      exact ih _ _ w' (by simp [hs]) (by have := unl_set lp i hun; omega) (fun k hk => getD_set_true (hj k hk)) hw' hK
theorem gpend {l : List Oper} {m j : Nat} {oj : Oper} (ok : AlOk l m j oj) {b : Nat → List Oper} {E : Nat → Bool} (sim : ∀ N, Sim (b N) l m E) {D : World → Prop} {C1 : Nat → World → Prop} {Cs : Nat → (World → Prop) → Prop} {A : Nat → Act} {val : Nat → Value} {rd : List Nat} {Q : Exit → Act → World → Prop} (Inv : Array Bool → Prop) (hInv : ∀ lp i, Inv lp → (E i = false ∨ i = j) → Inv (lp.setIfInBounds i true))
    (hE : E j = true) (hA : ∀ (i : Nat) o s N, l[i]? = some o → i < m → E i = false → o.dst = some s → (A N).tmps[s]? = (A 0).tmps[s]?) (hAj : ∀ s N, oj.dst = some s → s < (A N).tmps.size → (A N).tmps[s]? = some (val N))
    (hrd : ∀ s ∈ rd, ∀ (k : Nat) o, l[k]? = some o → k < m → o.dst = some s → ∃ e ∈ oj.after, Region.binds .any e = true ∧ e.on = k)
    (hal : ∀ w (a : Act), D w → (∀ s ∈ rd, a.tmps[s]? = (A 0).tmps[s]?) → ∀ (K : Act → World → Prop) Q', (∀ N w', C1 N w' → K (a.put oj.dst (val N)) w') → oj.wp P a w K Q')
    (hgo : ∀ N fuel lp a w, lp.size = m → unl lp = fuel → lp.getD j false = true → Inv lp → (A N).tmps.size = a.tmps.size → C1 N w →
      (∀ X, Cs N X → wpAnyQ P .any (b N).toArray X (fun a' => a' = A N) fuel lp a) → wpAny P .any l.toArray Q (fuel + (l.length - m)) (lp ++ Array.replicate (l.length - m) false) a w) :
    ∀ (fuel : Nat) (lp : Array Bool) (a : Act) (w : World), lp.size = m → unl lp = fuel → lp.getD j true = false → Inv lp → (∀ i, E i = true → i ≠ j → lp.getD i false = true ∨ ∃ o, l[i]? = some o ∧ ∃ e ∈ o.after, Region.binds .any e = true ∧ e.on = j) → D w →
      (∀ N X, Cs N X → wpAnyQ P .any (b N).toArray X (fun a' => a' = A N) fuel lp a) → (∀ N, wpAnyQ P .any (b N).toArray D (fun a' => a' = A N) fuel lp a) →
      (∀ N, (A N).tmps.size = a.tmps.size) → wpAny P .any l.toArray Q (fuel + (l.length - m)) (lp ++ Array.replicate (l.length - m) false) a w := by
  intro fuel
  induction fuel with
  | zero =>
    intro lp a w hs hu hj
    exfalso
    have e := unl_zero lp hu
    rw [e, Array.getD_eq_getD_getElem?] at hj
    have := ok.jm
    simp [show j < lp.size by omega] at hj
  | succ fuel ih =>
    intro lp a w hs hu hj hI hoth hD h1 h0 hsz
    rw [show fuel + 1 + (l.length - m) = (fuel + (l.length - m)) + 1 by omega]
    refine ⟨fun e => absurd e (some_ready ok.toQpOk lp hs j ok.jm hj), fun i hi => ?_⟩
    obtain ⟨him, -⟩ := (sim 0).ready ok.ml ok.wait lp hs fuel hu i hi
    have hir := fun N => ((sim N).ready ok.ml ok.wait lp hs fuel hu i hi).2
    obtain ⟨hun, _⟩ := mem_ready.1 (hir 0)
    obtain ⟨_, o, ho, hall⟩ := mem_ready.1 hi
    have ho' : l[i]? = some o := by simpa using ho
    -- a slot that is written now is not written any more
    have later : ∀ N s, o.dst = some s → ∀ k ok', (b N).toArray[k]? = some ok' → (lp.setIfInBounds i true).getD k true = false → ok'.dst ≠ some s := by
      intro N s hs' k ok' hk hl e
      obtain ⟨hkm, o2, q1, q2, -, -⟩ := (sim N).get ok.ml k ok' (by simpa using hk)
      have := ok.dst k i o2 o s q1 ho' hkm him (by rw [← q2]; exact e) hs'
      subst this
      rw [Array.getD_eq_getD_getElem?] at hl
      simp [show k < lp.size by omega] at hl
    by_cases hij : i = j
    · subst hij
      obtain rfl : o = oj := by rw [ok.here] at ho'; exact (Option.some.inj ho').symm
      unfold wpOp
      simp only [ho]
      rw [if_pos (by unfold Region.wanted; rw [ok.guard])]
      refine .inl ?_
      refine hal w a hD ?_ _ _ ?_
      · intro s hsr
        refine (q_fin _ _ _ (h0 0) s ?_).symm
        intro k ok' hk hl e
        obtain ⟨hkm, o2, q1, q2, -, -⟩ := (sim 0).get ok.ml k ok' (by simpa using hk)
        obtain ⟨e', he', hb', hon⟩ := hrd s hsr k o2 q1 hkm (by rw [← q2]; exact e)
        have h3 := hall e' he' hb'
        rw [hon, get_app_false] at h3
        exact getD_no hl h3
      · intro N w' hC
        rw [set_app lp _ i (by omega)]
        refine hgo N fuel _ _ w' (by simp [hs]) (by have := unl_set lp i hun; omega) (by
          rw [Array.getD_eq_getD_getElem?]
          simp [show i < lp.size by omega]) (hInv lp i hI (.inr rfl)) (by rw [hsz N, put_size]) hC ?_
        intro X hX
        obtain ⟨o2, q1, q2, -, -, -⟩ := (sim N).same i him o ho'
        obtain ⟨v, hy, hK⟩ := yieldsIn_of_qOp (by simpa using q1) ((h1 N X hX).2 i (hir N))
        rw [q2] at hK
        have e : a.put o.dst v = a.put o.dst (val N) := put_same fun s hs' => by
          have f := q_fin _ _ _ hK s (later N s hs')
          rw [← f]
          by_cases c : s < a.tmps.size
          · rw [hAj s N hs' (by rw [hsz N]; exact c), hs']
            simp [Act.put, Array.getElem?_setIfInBounds, c]
          · have c' : a.tmps.size ≤ s := Nat.le_of_not_lt c
            rw [Array.getElem?_eq_none (by rw [hsz N]; exact c'), Array.getElem?_eq_none (by rw [put_size]; exact c')]
        rwa [e] at hK
    · have hEi : E i = false := by
        cases q : E i
        · rfl
        · rcases hoth i q hij with z | ⟨o2, z1, e, z2, z3, z4⟩
          · exact (getD_no hun z).elim
          · rw [ho'] at z1
            have := Option.some.inj z1
            subst this
            have h3 := hall e z2 z3
            rw [z4, get_app_false] at h3
            exact (getD_no hj h3).elim
      have hor : ∀ N, (b N).toArray[i]? = some o := fun N => by
        obtain ⟨o2, q1, -, -, -, q5⟩ := (sim N).same i him o ho'
        obtain rfl := q5 hEi
        simpa using q1
      obtain ⟨v0, hy0, hK0⟩ := yieldsIn_of_qOp (hor 0) ((h0 0).2 i (hir 0))
      have f0 : ∀ s, o.dst = some s → (A 0).tmps[s]? = (a.put o.dst v0).tmps[s]? := fun s hs' => q_fin _ _ _ hK0 s (later 0 s hs')
      have all0 : ∀ N, wpAnyQ P .any (b N).toArray D (fun a' => a' = A N) fuel (lp.setIfInBounds i true) (a.put o.dst v0) := by
        intro N
        obtain ⟨v, _, hK⟩ := yieldsIn_of_qOp (hor N) ((h0 N).2 i (hir N))
        have e : a.put o.dst v = a.put o.dst v0 := put_same fun s hs' => by
          rw [← f0 s hs', ← q_fin _ _ _ hK s (later N s hs')]
          exact hA i o s N ho' him hEi hs'
        rwa [e] at hK
      have all1 : ∀ N X, Cs N X → wpAnyQ P .any (b N).toArray X (fun a' => a' = A N) fuel (lp.setIfInBounds i true) (a.put o.dst v0) := by
        intro N X hX
        obtain ⟨v, _, hK⟩ := yieldsIn_of_qOp (hor N) ((h1 N X hX).2 i (hir N))
        have e : a.put o.dst v = a.put o.dst v0 := put_same fun s hs' => by
          rw [← f0 s hs', ← q_fin _ _ _ hK s (later N s hs')]
          exact hA i o s N ho' him hEi hs'
        rwa [e] at hK
      refine wp_of_yields ho ((sim 0).wanted ok.ml a o (ok.guards i o ho')) hy0 hD (fun w' hw' => ?_)
      rw [set_app lp _ i (by omega)]
      exact ih _ _ w' (by simp [hs]) (by have := unl_set lp i hun; omega) (by rw [getD_set_ne true hij]; exact hj) (hInv lp i hI (.inl hEi)) (fun k hk hne => (hoth k hk hne).imp (fun q => getD_set_true q) id) hw' all1 all0 (fun N => by rw [hsz N, put_size])
theorem putAll_size : ∀ (ds : List (Option Tmp)) (vs : List Value) (a : Act), (putAll a ds vs).tmps.size = a.tmps.size
  | [], _, a => by cases ‹List Value› <;> rfl
  | d :: ds, [], a => rfl
  | d :: ds, v :: vs, a => by
    show (putAll (a.put d v) ds vs).tmps.size = _
    rw [putAll_size ds vs, put_size]
theorem sim_two (l : List Oper) (m j j2 : Nat) (hml : m ≤ l.length) (u v : Value) : Sim (rep (rep (l.take m) j2 u) j v) l m (fun i => i == j || i == j2) := by
  refine ⟨by rw [rep_len, rep_len, List.length_take]; omega, fun i hi o ho => ?_⟩
  obtain ⟨o1, p1, p2, p3, p4⟩ := rep_of (l.take m) j2 u i o (by rw [List.getElem?_take, if_pos hi]; exact ho)
  obtain ⟨o2, q1, q2, q3, q4⟩ := rep_of (rep (l.take m) j2 u) j v i o1 p1
  refine ⟨o2, q1, by rw [q2, p2], by rw [q3, p3], by rw [q4, p4], fun hE => ?_⟩
  simp only [Bool.or_eq_false_iff, beq_eq_false_iff_ne] at hE
  rw [rep_ne _ _ _ _ hE.1, rep_ne _ _ _ _ hE.2, List.getElem?_take, if_pos hi, ho] at q1
  exact (Option.some.inj q1).symm
/-- One walk of the text's order: the region makes a block (operation j) and fills it (operation k, which waits for it). -/
theorem two_region {id : Nat} {l : List Oper} (m j k : Nat) {oj ok' : Oper} (ok : AlOk l m j oj) (ok2 : AlOk l m k ok') (hjk : j ≠ k) (hwt : ok'.after.any (fun e => Region.binds .any e && e.on == j) = true) (hd2 : ok'.dst = none)
    {D : World → Prop} {C1 C2 : Nat → World → Prop} {obj : Obj} {Q : Exit → Act → World → Prop} {a : Act} {w : World} (ds : List (Option Tmp)) (vals : Nat → List Value) (d : Nat) (rd : List Nat) (hm : P.follows .mixedOrders = true)
    (hlex : ∀ N, Region.lexB .any (rep (rep (l.take m) k undef) j (.pointer (some ⟨N, 0, none⟩))).toArray = true)
    (hd : oj.dst = some d) (hA : ∀ N, (putAll a ds (vals N)).tmps.toList.eraseIdx d = (putAll a ds (vals 0)).tmps.toList.eraseIdx d) (hAd : ∀ N, (putAll a ds (vals N)).tmps[d]? = some (.pointer (some ⟨N, 0, none⟩)))
    (hrd : readB l m ok' rd = true)
    (hal : ∀ w (a : Act), D w → (execOp a.eval oj).run P w = .ok (.value (.pointer (some ⟨w.heap.size, 0, none⟩))) (w.alloc obj)) (hC1 : ∀ w, D w → C1 w.heap.size (w.alloc obj))
    (hst : ∀ N w (a' : Act), C1 N w → (∀ s ∈ rd, a'.tmps[s]? = (putAll a ds (vals N)).tmps[s]?) → ∀ (K : Act → World → Prop) Q', (∀ w', C2 N w' → K a' w') → ok'.wp P a' w K Q')
    (hD : D w.drew)
    (hwalk : ∀ N (X : World → Prop), (X = D ∨ X = C1 N ∨ X = C2 N) → wpQuiet P (rep (rep (l.take m) k undef) j (.pointer (some ⟨N, 0, none⟩))).toArray X (fun a' => a' = putAll a ds (vals N)) (rep (rep (l.take m) k undef) j (.pointer (some ⟨N, 0, none⟩))) a)
    (hpost : ∀ N w, C2 N w → wpList P l.toArray Q (l.drop m) (putAll a ds (vals N)) w) : (Code.region id l.toArray true).wp P Q a w := by
  refine wp_region_any hm ?_
  have hml := ok.ml
  have any : ∀ N X, (X = D ∨ X = C1 N ∨ X = C2 N) → wpAnyQ P .any (rep (rep (l.take m) k undef) j (.pointer (some ⟨N, 0, none⟩))).toArray X (fun a' => a' = putAll a ds (vals N)) m (Array.replicate m false) a := by
    intro N X hX
    have hB := hlex N
    simp only [Region.lexB, Bool.and_eq_true] at hB
    have hlen : (rep (rep (l.take m) k undef) j (.pointer (some ⟨N, 0, none⟩))).length = m := by rw [rep_len, rep_len, List.length_take]; omega
    have := wpAnyQ_lex (C := X) (md := .any) hB.1 (rep (rep (l.take m) k undef) j (.pointer (some ⟨N, 0, none⟩))) 0 (Array.replicate m false) a (by simp) (by have := hB.2; simpa [hlen] using this) (hwalk N X hX)
    rwa [hlen] at this
  have hu : unl (Array.replicate m false) = m := by unfold unl; simp
  have hE : ∀ (i : Nat) o s N, l[i]? = some o → i < m → (i == j || i == k) = false → o.dst = some s → (putAll a ds (vals N)).tmps[s]? = (putAll a ds (vals 0)).tmps[s]? := fun i o s N ho hi he hs => by
    simp only [Bool.or_eq_false_iff, beq_eq_false_iff_ne] at he
    exact alA ok d hd hA i o s N ho hi he.1 hs
  obtain ⟨ew, hew1, hew2⟩ := Array.any_eq_true'.mp hwt
  simp only [Bool.and_eq_true, beq_iff_eq] at hew2
  have main := gpend (P := P) (Q := Q) ok (b := fun N => rep (rep (l.take m) k undef) j (.pointer (some ⟨N, 0, none⟩))) (E := fun i => i == j || i == k) (fun N => sim_two l m j k hml _ _) (D := D) (C1 := C1) (Cs := fun N X => X = C1 N ∨ X = C2 N) (A := fun N => putAll a ds (vals N)) (val := fun N => .pointer (some ⟨N, 0, none⟩)) (rd := [])
    (fun lp => lp.getD k true = false) (fun lp i h hi => by
      have : i ≠ k := by
        intro e
        rcases hi with q | q
        · simp [e] at q
        · exact hjk (by rw [← q, e])
      rw [getD_set_ne true this]; exact h)
    (by simp) hE (fun s N hs _ => by
      rw [hd] at hs
      cases hs
      exact hAd N) (fun s hs => by cases hs) (fun w a hw _ K Q' hK => by
        unfold Oper.wp
        rw [hal w a hw]
        simp only [Oper.upon]
        exact hK _ _ (hC1 w hw))
    (fun N fuel lp a1 w1 hs hu' hj hI hz hC hX =>
      gpend (P := P) (Q := Q) ok2 (b := fun _ => rep (rep (l.take m) k undef) j (.pointer (some ⟨N, 0, none⟩))) (E := fun i => i == j || i == k) (fun _ => sim_two l m j k hml _ _) (D := C1 N) (C1 := fun _ => C2 N) (Cs := fun _ X => X = C2 N) (A := fun _ => putAll a ds (vals N)) (val := fun _ => undef) (rd := rd)
        (fun lp => lp.getD j false = true) (fun lp i h _ => getD_set_true h) (by simp) (fun i o s N' _ _ _ _ => rfl) (fun s N' hs => by rw [hd2] at hs; cases hs) (read_of hrd)
        (fun w' a' hw hr K Q' hK => hst N w' a' hw hr K Q' (fun w2 h2 => by
          have := hK 0 w2 h2
          rw [hd2] at this
          exact this))
        (fun N' fuel lp a2 w2 hs hu hk hI hz hC hX => gdone ok.toQpOk (sim_two l m j k hml _ _) (fun w3 h3 => hpost N w3 h3) fuel lp a2 w2 hs hu (fun i hi => by
          simp only [Bool.or_eq_true, beq_iff_eq] at hi
          rcases hi with e | e
          · rw [e]; exact hI
          · rw [e]; exact hk) hC (hX _ rfl))
        fuel lp a1 w1 hs hu' hI hj (fun i hi hne => .inl (by
          have : i = j := by simpa [hne] using hi
          rw [this]; exact hj)) hC (fun _ X hX' => hX X (.inr hX')) (fun _ => hX _ (.inl rfl)) (fun _ => hz))
    m (Array.replicate m false) a w.drew (by simp) hu (by
      rw [Array.getD_eq_getD_getElem?]
      have := ok.jm
      simp [this]) (by
      rw [Array.getD_eq_getD_getElem?]
      have := ok2.jm
      simp [this]) (fun i hi hne => .inr ⟨ok', by
        have : i = k := by simpa [hne] using hi
        rw [this]; exact ok2.here, ew, hew1, hew2.1, hew2.2⟩) hD (fun N X hX => any N X (.inr hX)) (fun N => any N D (.inl rfl)) (fun N => putAll_size _ _ _)
  have e1 : m + (l.length - m) = l.toArray.size := by simp; omega
  have e2 : Array.replicate m false ++ Array.replicate (l.length - m) false = Array.replicate l.toArray.size false := by
    rw [Array.replicate_append_replicate]; congr 1
  rw [e1, e2] at main
  exact main
end
end Go.Proofs.YtmkjlcfoedglmaaDoor
/-
  What the calls of the sweeper's methods do: the innermost one of the open routes.
-/
namespace Go.Proofs.YtmkjlcfoedglmaaDoor
open Go.RowKit
set_option linter.unusedSimpArgs false
set_option linter.unusedVariables false

/-- The open routes as they lie in memory: the innermost one. -/
def InR (W : World) (B g n cap : Nat) (x : BitVec 128) (m h : Int) : Prop := W.cell? ⟨B, 1, none⟩ = some (.slice (some ⟨g, 0, none⟩) (n + 1) cap) ∧ W.cell? ⟨g, n * 4, none⟩ = some (.int .u64 (hI x)) ∧ W.cell? ⟨g, n * 4 + 1, none⟩ = some (.int .u64 (lI x)) ∧ W.cell? ⟨g, n * 4 + 2, none⟩ = some (.int .i64 m) ∧ W.cell? ⟨g, n * 4 + 3, none⟩ = some (.int .i64 h)
theorem InR.below {W W' : World} {B g n cap : Nat} {x : BitVec 128} {m h : Int} (k : InR W B g n cap x m h) (hb : Below W.heap.size W W') : InR W' B g n cap x m h := ⟨keepc hb k.1, keepc hb k.2.1, keepc hb k.2.2.1, keepc hb k.2.2.2.1, keepc hb k.2.2.2.2⟩
/-- A block of four cells that may be written. -/
def AtQ (W : World) (N : Nat) : Prop := W.cell? ⟨N, 0, none⟩ = some (.int .u64 0) ∧ W.cell? ⟨N, 1, none⟩ = some (.int .u64 0) ∧ W.cell? ⟨N, 2, none⟩ = some (.int .i64 0) ∧ W.cell? ⟨N, 3, none⟩ = some (.int .i64 0) ∧ W.frozen? ⟨N, 0, none⟩ = false ∧ W.frozen? ⟨N, 1, none⟩ = false ∧ W.frozen? ⟨N, 2, none⟩ = false ∧ W.frozen? ⟨N, 3, none⟩ = false
theorem atq_new (w : World) (N : Nat) (T : TypeId) (e : N = w.heap.size) : AtQ (w.alloc (.cells #[.int .u64 0, .int .u64 0, .int .i64 0, .int .i64 0] T)) N := by
  subst e
  refine ⟨?_, ?_, ?_, ?_, ?_, ?_, ?_, ?_⟩ <;> simp [go_sem]
def set4 (W : World) (N : Nat) (a b c d : Value) : World := (((W.setCell ⟨N, 0, none⟩ a).setCell ⟨N, 1, none⟩ b).setCell ⟨N, 2, none⟩ c).setCell ⟨N, 3, none⟩ d
theorem bset4 {n C : Nat} {w W : World} (h : Below n w W) (hp : n ≤ C) (a b c d : Value) : Below n w (set4 W C a b c d) := (((h.setCell hp _).setCell hp _).setCell hp _).setCell hp _
theorem set4_at (W : World) (N : Nat) (a b c d : Value) {p q r s : Value} (z0 : W.cell? ⟨N, 0, none⟩ = some p) (z1 : W.cell? ⟨N, 1, none⟩ = some q) (z2 : W.cell? ⟨N, 2, none⟩ = some r) (z3 : W.cell? ⟨N, 3, none⟩ = some s) :
    (set4 W N a b c d).cell? ⟨N, 0, none⟩ = some a ∧ (set4 W N a b c d).cell? ⟨N, 1, none⟩ = some b ∧ (set4 W N a b c d).cell? ⟨N, 2, none⟩ = some c ∧ (set4 W N a b c d).cell? ⟨N, 3, none⟩ = some d := by
  unfold set4
  refine ⟨?_, ?_, ?_, ?_⟩ <;> simp [go_sem, *]
/-- What inner reads while it makes its answer. -/
def CI (w : World) (B g n cap : Nat) (x : BitVec 128) (m h : Int) (W : World) : Prop := InR W B g n cap x m h ∧ AtQ W w.heap.size ∧ Below w.heap.size w W
theorem CI.drew {w W : World} {B g n cap : Nat} {x : BitVec 128} {m h : Int} (k : CI w B g n cap x m h W) : CI w B g n cap x m h W.drew := ⟨k.1, k.2.1, k.2.2.drew⟩
set_option maxHeartbeats 4000000 in
theorem inner_any (B g n cap : Nat) (x : BitVec 128) (m h : Int) (w : World) (hI' : InR w B g n cap x m h) (hn : n ≤ 1000000000) :
    Calls Tryd.prog 54 #[.pointer (some ⟨B, 0, none⟩)] w fun e w' => e = .returned (.agg #[.int .u64 (hI x), .int .u64 (lI x), .int .i64 m, .int .i64 h]) ∧ Below w.heap.size w w' := by
  have HC := hidR (⟨hI'.below (bl1 w (.cells #[.int .u64 0, .int .u64 0, .int .i64 0, .int .i64 0] 53)), atq_new w w.heap.size 53 rfl, bl1 w _⟩ : CI w B g n cap x m h (w.alloc (.cells #[.int .u64 0, .int .u64 0, .int .i64 0, .int .i64 0] 53)))
  have m1 : IntKind.i64.wrap ((n : Int) + 1 - 1) = (n : Int) := by rw [IntKind.wrap_i64]; omega
  have i1 : (0 : Int) ≤ (n : Int) := by omega
  have i2 : (n : Int) < (n : Int) + 1 := by omega
  clear hI'
  go_enter Tryd.func54, Tryd.ntmps54
  go_wp2_with fail
  refine qp_region2 12 (qpOk 12 12 (by decide) (fun N => by kernel_rfl) (by kernel_rfl) (by kernel_rfl) (by kernel_rfl) (by kernel_rfl)) (C := CI w B g n cap x m h) [some 3, some 4, some 5, some 6, some 7, some 8, some 9, some 10, some 11, some 12, some 13, some 14] [.pointer (some ⟨B, 0, none⟩), .pointer (some ⟨B, 0, none⟩), .pointer (some ⟨B, 1, none⟩), .slice (some ⟨g, 0, none⟩) (n + 1) cap, .pointer (some ⟨B, 0, none⟩), .pointer (some ⟨B, 0, none⟩), .pointer (some ⟨B, 1, none⟩), .slice (some ⟨g, 0, none⟩) (n + 1) cap, .int .i64 ((n : Int) + 1), .int .i64 (n : Int), .pointer (some ⟨g, n * 4, none⟩), .agg #[.int .u64 (hI x), .int .u64 (lI x), .int .i64 m, .int .i64 h]] (by kernel_rfl) (CI.drew HC.out) ?walk ?fin
  case walk =>
    dsimp only [List.take]
    clear HC
    refine q_run (v := .pointer (some ⟨B, 0, none⟩)) (by rfl) ?_ ?_
    · (intro w1 hC; obtain ⟨⟨c0, c1, c2, c3, c4⟩, -, -⟩ := hC; go_simp; first | done | (simp; done) | (simp [*]; done) | omega | (simp; omega) | (rw [IntKind.wrap_i64]; omega) | (intro hx; omega) | rfl)
    simp only [Act.put, List.setIfInBounds_toArray, List.set_cons_zero, List.set_cons_succ]
    refine q_run (v := .pointer (some ⟨B, 0, none⟩)) (by rfl) ?_ ?_
    · (intro w1 hC; obtain ⟨⟨c0, c1, c2, c3, c4⟩, -, -⟩ := hC; go_simp; first | done | (simp; done) | (simp [*]; done) | omega | (simp; omega) | (rw [IntKind.wrap_i64]; omega) | (intro hx; omega) | rfl)
    simp only [Act.put, List.setIfInBounds_toArray, List.set_cons_zero, List.set_cons_succ]
    refine q_run (v := .pointer (some ⟨B, 1, none⟩)) (by rfl) ?_ ?_
    · (intro w1 hC; obtain ⟨⟨c0, c1, c2, c3, c4⟩, -, -⟩ := hC; go_simp; first | done | (simp; done) | (simp [*]; done) | omega | (simp; omega) | (rw [IntKind.wrap_i64]; omega) | (intro hx; omega) | rfl)
    simp only [Act.put, List.setIfInBounds_toArray, List.set_cons_zero, List.set_cons_succ]
    refine q_run (v := .slice (some ⟨g, 0, none⟩) (n + 1) cap) (by rfl) ?_ ?_
    · (intro w1 hC; obtain ⟨⟨c0, c1, c2, c3, c4⟩, -, -⟩ := hC; go_simp; first | done | (simp; done) | (simp [*]; done) | omega | (simp; omega) | (rw [IntKind.wrap_i64]; omega) | (intro hx; omega) | rfl)
    simp only [Act.put, List.setIfInBounds_toArray, List.set_cons_zero, List.set_cons_succ]
    refine q_run (v := .pointer (some ⟨B, 0, none⟩)) (by rfl) ?_ ?_
    · (intro w1 hC; obtain ⟨⟨c0, c1, c2, c3, c4⟩, -, -⟩ := hC; go_simp; first | done | (simp; done) | (simp [*]; done) | omega | (simp; omega) | (rw [IntKind.wrap_i64]; omega) | (intro hx; omega) | rfl)
    simp only [Act.put, List.setIfInBounds_toArray, List.set_cons_zero, List.set_cons_succ]
    refine q_run (v := .pointer (some ⟨B, 0, none⟩)) (by rfl) ?_ ?_
    · (intro w1 hC; obtain ⟨⟨c0, c1, c2, c3, c4⟩, -, -⟩ := hC; go_simp; first | done | (simp; done) | (simp [*]; done) | omega | (simp; omega) | (rw [IntKind.wrap_i64]; omega) | (intro hx; omega) | rfl)
    simp only [Act.put, List.setIfInBounds_toArray, List.set_cons_zero, List.set_cons_succ]
    refine q_run (v := .pointer (some ⟨B, 1, none⟩)) (by rfl) ?_ ?_
    · (intro w1 hC; obtain ⟨⟨c0, c1, c2, c3, c4⟩, -, -⟩ := hC; go_simp; first | done | (simp; done) | (simp [*]; done) | omega | (simp; omega) | (rw [IntKind.wrap_i64]; omega) | (intro hx; omega) | rfl)
    simp only [Act.put, List.setIfInBounds_toArray, List.set_cons_zero, List.set_cons_succ]
    refine q_run (v := .slice (some ⟨g, 0, none⟩) (n + 1) cap) (by rfl) ?_ ?_
    · (intro w1 hC; obtain ⟨⟨c0, c1, c2, c3, c4⟩, -, -⟩ := hC; go_simp; first | done | (simp; done) | (simp [*]; done) | omega | (simp; omega) | (rw [IntKind.wrap_i64]; omega) | (intro hx; omega) | rfl)
    simp only [Act.put, List.setIfInBounds_toArray, List.set_cons_zero, List.set_cons_succ]
    refine q_run (v := .int .i64 ((n : Int) + 1)) (by rfl) ?_ ?_
    · (intro w1 hC; obtain ⟨⟨c0, c1, c2, c3, c4⟩, -, -⟩ := hC; go_simp; first | done | (simp; done) | (simp [*]; done) | omega | (simp; omega) | (rw [IntKind.wrap_i64]; omega) | (intro hx; omega) | rfl)
    simp only [Act.put, List.setIfInBounds_toArray, List.set_cons_zero, List.set_cons_succ]
    refine q_run (v := .int .i64 (n : Int)) (by rfl) ?_ ?_
    · (intro w1 hC; obtain ⟨⟨c0, c1, c2, c3, c4⟩, -, -⟩ := hC; go_simp; first | done | (simp; done) | (simp [*]; done) | omega | (simp; omega) | (rw [IntKind.wrap_i64]; omega) | (intro hx; omega) | rfl)
    simp only [Act.put, List.setIfInBounds_toArray, List.set_cons_zero, List.set_cons_succ]
    refine q_run (v := .pointer (some ⟨g, n * 4, none⟩)) (by rfl) ?_ ?_
    · (intro w1 hC; obtain ⟨⟨c0, c1, c2, c3, c4⟩, -, -⟩ := hC; go_simp; first | done | (simp; done) | (simp [*]; done) | omega | (simp; omega) | (rw [IntKind.wrap_i64]; omega) | (intro hx; omega) | rfl)
    simp only [Act.put, List.setIfInBounds_toArray, List.set_cons_zero, List.set_cons_succ]
    refine q_run (v := .agg #[.int .u64 (hI x), .int .u64 (lI x), .int .i64 m, .int .i64 h]) (by rfl) ?_ ?_
    · (intro w1 hC; obtain ⟨⟨c0, c1, c2, c3, c4⟩, -, -⟩ := hC; go_simp; first | done | (simp; done) | (simp [*]; done) | omega | (simp; omega) | (rw [IntKind.wrap_i64]; omega) | (intro hx; omega) | rfl)
    simp only [Act.put, List.setIfInBounds_toArray, List.set_cons_zero, List.set_cons_succ]
    refine wpQuiet_nil ?_
    simp only [putAll, Act.put, List.setIfInBounds_toArray, List.set_cons_zero, List.set_cons_succ]
  case fin =>
    intro W hC
    obtain ⟨-, ⟨z0, z1, z2, z3, z4, z5, z6, z7⟩, kB⟩ := hC
    simp only [putAll, Act.put, List.setIfInBounds_toArray, List.set_cons_zero, List.set_cons_succ]
    dsimp only [List.drop]
    clear HC
    have kB2 := bset4 kB (Nat.le_refl w.heap.size) (.int .u64 (hI x)) (.int .u64 (lI x)) (.int .i64 m) (.int .i64 h)
    obtain ⟨s0, s1, s2, s3⟩ := set4_at W w.heap.size (.int .u64 (hI x)) (.int .u64 (lI x)) (.int .i64 m) (.int .i64 h) z0 z1 z2 z3
    unfold set4 at kB2 s0 s1 s2 s3
    go_wp2
    exact bodyPost_ret (v := .agg #[.int .u64 (hI x), .int .u64 (lI x), .int .i64 m, .int .i64 h]) (by simp [results, Tryd.results54, go_sem, s0, s1, s2, s3]) rfl ⟨rfl, kB2⟩
end Go.Proofs.YtmkjlcfoedglmaaDoor
/-
  What the call of package algebra's behind does.
-/
namespace Go.Proofs.YtmkjlcfoedglmaaDoor
open Go.RowKit
set_option linter.unusedSimpArgs false
set_option linter.unusedVariables false

theorem setG (A : List Value) (n : Nat) (hA : A.length = n * 5) (a b c d e u v : Value) : ((A ++ [a, b, c, d, e]).set (n * 5 + 2) u).set (n * 5 + 3) v = A ++ [a, b, u, v, e] := by
  rw [List.set_append, if_neg (by omega), hA, show n * 5 + 2 - n * 5 = 2 by omega, List.set_append, if_neg (by omega), hA, show n * 5 + 3 - n * 5 = 3 by omega]
  rfl
theorem ownG_last {W : World} {base n g c : Nat} {s : List Sg} {a : Sg} (h : W.ownsRow base 39 5 (.slice (some ⟨g, 0, none⟩) (n + 1) c) (n + 1) (rowG (s ++ [a]))) (hn : s.length = n) :
    W.cell? ⟨g, n * 5, none⟩ = some (.int .u64 (hI a.1.1)) ∧ W.cell? ⟨g, n * 5 + 1, none⟩ = some (.int .u64 (lI a.1.1)) ∧ W.cell? ⟨g, n * 5 + 2, none⟩ = some (.int .u64 (hI a.1.2)) ∧ W.cell? ⟨g, n * 5 + 3, none⟩ = some (.int .u64 (lI a.1.2)) ∧ W.cell? ⟨g, n * 5 + 4, none⟩ = some (.int .i64 a.2) := by
  have t := ownG_cells h n (by simp [hn])
  have e : (s ++ [a])[n]'(by simp [hn]) = a := by subst hn; simp
  rwa [e] at t
theorem own_cap6 {W : World} {base e size n g c : Nat} {xs : List Value} (h : W.ownsRow base e size (.slice (some ⟨g, 0, none⟩) n c) n xs) : n ≤ c := by
  rcases h.2 with ⟨e0, _⟩ | ⟨g', cap', cur, e0, hb, hg, hnc, hm, hs, ht⟩
  · cases e0
  · injection e0 with e1 _ e3
    omega
theorem ownR_cells6 {W : World} {base n g c : Nat} {l : List Rte} (h : W.ownsRow base 53 4 (.slice (some ⟨g, 0, none⟩) n c) n (rowR l)) (j : Nat) (hj : j < l.length) :
    W.cell? ⟨g, j * 4, none⟩ = some (.int .u64 (hI l[j].1.1)) ∧ W.cell? ⟨g, j * 4 + 1, none⟩ = some (.int .u64 (lI l[j].1.1)) ∧ W.cell? ⟨g, j * 4 + 2, none⟩ = some (.int .i64 l[j].1.2) ∧ W.cell? ⟨g, j * 4 + 3, none⟩ = some (.int .i64 l[j].2) := by
  obtain ⟨a0, a1, a2, a3⟩ := rowR_get l j hj
  have f := fun k u => h.cells (g := g) rfl k u
  exact ⟨by have := f _ _ a0; rwa [addA, Nat.zero_add] at this, by have := f _ _ a1; rwa [addA, Nat.zero_add] at this, by have := f _ _ a2; rwa [addA, Nat.zero_add] at this, by have := f _ _ a3; rwa [addA, Nat.zero_add] at this⟩
theorem grown_drew6 (W : World) (n : Nat) (r : Option Nat) : W.grownBy (W.drewN n) r := ⟨rfl, rfl, rfl, Nat.le_refl _, fun _ _ _ => rfl⟩
/-- What behind leaves of memory: the row is laid on in its own place, or anew. -/
def BhO (base : Nat) (v : Value) (st : List Sg) (w : World) (v' : Value) (w' : World) : Prop := w'.ownsRow base 39 5 v' st.length (rowG st.reverse) ∧ w.grownBy w' v.ownBlock ∧ (∀ z, v'.ownBlock = some z → v.ownBlock = some z ∨ w.heap.size ≤ z)
theorem bhO_app {base : Nat} {v : Value} {st : List Sg} {x y : BitVec 128} {h : Int} {w w4 : World} {g cap n : Nat} (o1 o2 : Obj) (nq : Nat) (hn : st.length = n)
    (hown4 : w4.ownsRow base 39 5 (.slice (some ⟨g, 0, none⟩) (n + 1) cap) (n + 1) (rowG st.reverse ++ [.int .u64 (hI x), .int .u64 (lI x), .int .u64 (hI y), .int .u64 (lI y), .int .i64 h])) (hgrow : (((w.alloc o1).drewN nq).alloc o2).grownBy w4 v.ownBlock) (hat : v.ownBlock = some g ∨ g = (((w.alloc o1).drewN nq).alloc o2).heap.size) :
    BhO base v (((x, y), h) :: st) w (.slice (some ⟨g, 0, none⟩) (n + 1) cap) w4 := by
  refine ⟨?_, (((World.grownBy_alloc w o1 _).trans (grown_drew6 _ nq _)).trans (World.grownBy_alloc _ o2 _)).trans hgrow, ?_⟩
  · rw [List.length_cons, hn, List.reverse_cons, rowG_one]
    exact hown4
  · intro z hz
    have e : g = z := by simpa [Value.ownBlock] using hz
    rcases hat with q | q
    · exact .inl (by rw [q, e])
    · right
      simp at q
      omega
theorem bhO_set {base : Nat} {st : List Sg} {ax ay y : BitVec 128} {ah : Int} {w : World} {g cap n : Nat} (o1 : Obj) (nq : Nat) (hn : st.length = n)
    (hown : w.ownsRow base 39 5 (.slice (some ⟨g, 0, none⟩) (n + 1) cap) (n + 1) (rowG (st.reverse ++ [((ax, ay), ah)]))) :
    BhO base (.slice (some ⟨g, 0, none⟩) (n + 1) cap) (((ax, y), ah) :: st) w (.slice (some ⟨g, 0, none⟩) (n + 1) cap) ((((w.alloc o1).drewN nq).setCell ⟨g, n * 5 + 2, none⟩ (.int .u64 (hI y))).setCell ⟨g, n * 5 + 3, none⟩ (.int .u64 (lI y))) := by
  have h0 : ((w.alloc o1).drewN nq).ownsRow base 39 5 (.slice (some ⟨g, 0, none⟩) (n + 1) cap) (n + 1) (rowG (st.reverse ++ [((ax, ay), ah)])) := own_heap (hown.alloc o1) (fun _ _ => rfl)
  obtain ⟨h1, g1⟩ := h0.stored (n * 5 + 2) (.int .u64 (hI y))
  obtain ⟨h2, g2⟩ := h1.stored (n * 5 + 3) (.int .u64 (lI y))
  refine ⟨?_, (((World.grownBy_alloc w o1 _).trans (grown_drew6 _ nq _)).trans g1).trans g2, fun z hz => .inl hz⟩
  rw [List.length_cons, hn, List.reverse_cons, rowG_one]
  rw [rowG_one, setG (rowG st.reverse) n (by rw [rowG_len, List.length_reverse, hn])] at h2
  exact h2
theorem newsGB (W : World) (B : Nat) (hB : B = W.heap.size) (a b c d e : Value) (t : TypeId) : ∀ j u, [a, b, c, d, e][j]? = some u → (W.alloc (.cells #[a, b, c, d, e] t)).cell? ((⟨B, 0, none⟩ : Addr).add j) = some u := by
  subst hB
  exact newsG W a b c d e t
set_option maxRecDepth 20000 in
set_option maxHeartbeats 8000000 in
theorem behind_any (base : Nat) (v : Value) (st : List Sg) (x y : BitVec 128) (h : Int) (w : World) (hown : w.ownsRow base 39 5 v st.length (rowG st.reverse)) (hb : base ≤ w.heap.size) (hl : st.length ≤ 1000000000) :
    Calls Tryd.prog 66 #[v, .agg #[.int .u64 (hI x), .int .u64 (lI x), .int .u64 (hI y), .int .u64 (lI y), .int .i64 h]] w fun e w' => ∃ v', e = .returned v' ∧ BhO base v (behS st ((x, y), h)) w v' w' := by
  obtain ⟨i0, hi, hz0, hz1, hz2⟩ := info_parts Tryd.infoG
  obtain ⟨p0, p1, p2, p3, p4, -⟩ := atg_new w w.heap.size x y h 39 rfl
  cases st with
  | nil =>
    obtain ⟨ao, c, rfl⟩ := own_form hown
    have HN : Hid (([] : List Sg).length = 0) := hidR rfl
    have HO : Hid (w.ownsRow base 39 5 (.slice ao 0 c) 0 (rowG ([] : List Sg).reverse)) := hidR hown
    have ms : IntKind.i64.wrap (0 - 1) = -1 := by rw [IntKind.wrap_i64]; omega
    have h63 : 0 + 1 ≤ maxLen := by unfold maxLen; omega
    have h47 : (0 + 1) * 40 ≤ 140737488355328 := by omega
    clear hown
    go_enter Tryd.func66, Tryd.ntmps66
    go_wp2_with fail
    go_quiet (fail)
    go_wp2_with (first | (
        at_builtin
        refine wpList_append_lies _ rfl _ _ 34 rfl base 39 i0 (.agg #[.int .u64 0, .int .u64 0, .int .u64 0, .int .u64 0, .int .i64 0]) 5 40 Tryd.underlying34 hi hz0 hz1 hz2 rfl (by decide) _ _ _ rfl (own_heap (W' := ((w.alloc (.cells #[.int .u64 (hI x), .int .u64 (lI x), .int .u64 (hI y), .int .u64 (lI y), .int .i64 h] 39)).drewN nq)) (HO.out.alloc _) (fun _ _ => rfl) |>.alloc _) ⟨w.heap.size + 1, 0, none⟩ 1 1 [.int .u64 (hI x), .int .u64 (lI x), .int .u64 (hI y), .int .u64 (lI y), .int .i64 h] rfl rfl (newsGB _ _ (by simp) _ _ _ _ _ _) (fiveG _ _ _ _ _) (by decide) h63 h47 (by simp; omega) _ rfl ?_
        intro g4 cap4 w4 hown4 hgrow hat hlt4
        have HR := hidR (bhO_app _ _ _ HN.out hown4 hgrow hat)
        clear hgrow hat hown4 hlt4 h63 h47 p0 p1 p2 p3 p4))
    go_wp2
    go_ret
    exact ⟨_, rfl, HR.out⟩
  | cons a st =>
    obtain ⟨⟨ax, ay⟩, ah⟩ := a
    obtain ⟨g, cap, rfl, -, -⟩ := hown.form (by simp)
    obtain ⟨n, HN⟩ : ∃ n, Hid (st.length = n) := ⟨_, rfl⟩
    have hlen : (((ax, ay), ah) :: st).length = n + 1 := by have := HN.out; simp [this]
    have hn : n + 1 ≤ 1000000000 := by rw [← hlen]; exact hl
    rw [hlen] at hown
    rw [hlen]
    have HO := hidR hown
    have hrev : (((ax, ay), ah) :: st).reverse = st.reverse ++ [((ax, ay), ah)] := by simp
    rw [hrev] at hown
    obtain ⟨c0, c1, c2, c3, c4⟩ := ownG_last hown (by rw [List.length_reverse]; exact HN.out)
    have f2 := hown.frozenAt (n * 5 + 2)
    have f3 := hown.frozenAt (n * 5 + 3)
    have hcap := own_cap6 hown
    have HS := hidR hown
    have hgl := cell_in c0
    have c4' := keepc (bl1 w (.cells #[.int .u64 (hI x), .int .u64 (lI x), .int .u64 (hI y), .int .u64 (lI y), .int .i64 h] 39)) c4
    have c2' := keepc (bl1 w (.cells #[.int .u64 (hI x), .int .u64 (lI x), .int .u64 (hI y), .int .u64 (lI y), .int .i64 h] 39)) c2
    have c3' := keepc (bl1 w (.cells #[.int .u64 (hI x), .int .u64 (lI x), .int .u64 (hI y), .int .u64 (lI y), .int .i64 h] 39)) c3
    have f2' := keepf (bl1 w (.cells #[.int .u64 (hI x), .int .u64 (lI x), .int .u64 (hI y), .int .u64 (lI y), .int .i64 h] 39)) c2 f2
    have f3' := keepf (bl1 w (.cells #[.int .u64 (hI x), .int .u64 (lI x), .int .u64 (hI y), .int .u64 (lI y), .int .i64 h] 39)) c3 f3
    have m1 : IntKind.i64.wrap ((n : Int) + 1 - 1) = (n : Int) := by rw [IntKind.wrap_i64]; omega
    have i1 : (0 : Int) ≤ (n : Int) := by omega
    have i2 : (n : Int) < (n : Int) + 1 := by omega
    clear c0 c1 c2 c3 c4 f2 f3 hlen hrev hown
    go_enter Tryd.func66, Tryd.ntmps66
    by_cases hh : ah = h
    · have d1 : (ah == h) = true := by simp [hh]
      have HE : Hid (behS (((ax, ay), ah) :: st) ((x, y), h) = ((ax, y), ah) :: st) := hidR (by rw [behS, if_pos hh])
      clear hh
      go_wp2_with fail
      go_quiet (fail)
      go_wp2
      go_ret
      exact ⟨_, rfl, by rw [HE.out]; exact bhO_set _ _ HN.out HS.out⟩
    · have d1 : (ah == h) = false := by simp [hh]
      have HE : Hid (behS (((ax, ay), ah) :: st) ((x, y), h) = ((x, y), h) :: ((ax, ay), ah) :: st) := hidR (by rw [behS, if_neg hh])
      have HN : Hid ((((ax, ay), ah) :: st).length = n + 1) := hidR (by have := HN.out; simp [this])
      have h63 : n + 1 + 1 ≤ maxLen := by unfold maxLen; omega
      have h47 : (n + 1 + 1) * 40 ≤ 140737488355328 := by omega
      clear hh HS f2' f3' c2' c3'
      go_wp2_with fail
      go_quiet (fail)
      go_wp2_with (first | (
          at_builtin
          refine wpList_append_lies _ rfl _ _ 34 rfl base 39 i0 (.agg #[.int .u64 0, .int .u64 0, .int .u64 0, .int .u64 0, .int .i64 0]) 5 40 Tryd.underlying34 hi hz0 hz1 hz2 rfl (by decide) _ _ _ rfl (own_heap (W' := ((w.alloc (.cells #[.int .u64 (hI x), .int .u64 (lI x), .int .u64 (hI y), .int .u64 (lI y), .int .i64 h] 39)).drewN nq)) (HO.out.alloc _) (fun _ _ => rfl) |>.alloc _) ⟨w.heap.size + 1, 0, none⟩ 1 1 [.int .u64 (hI x), .int .u64 (lI x), .int .u64 (hI y), .int .u64 (lI y), .int .i64 h] rfl rfl (newsGB _ _ (by simp) _ _ _ _ _ _) (fiveG _ _ _ _ _) (by decide) h63 h47 (by simp; omega) _ rfl ?_
          intro g4 cap4 w4 hown4 hgrow hat hlt4
          have HR := hidR (bhO_app _ _ _ HN.out hown4 hgrow hat)
          clear hgrow hat hown4 hlt4 h63 h47 p0 p1 p2 p3 p4))
      go_wp2
      go_ret
      exact ⟨_, rfl, by rw [HE.out]; exact HR.out⟩
end Go.Proofs.YtmkjlcfoedglmaaDoor
/-
  A drawn region with one call in its midst that changes memory: one walk of the text's order, the call's answer a letter.
-/
namespace Go.Proofs.YtmkjlcfoedglmaaDoor
open Go.RowKit
set_option linter.unusedSimpArgs false
set_option linter.unusedVariables false
section
variable {P : Program}
theorem cl_region {id : Nat} {l : List Oper} (m j : Nat) {oj : Oper} (ok : AlOk l m j oj) {D : World → Prop} {C1 : Nat → World → Prop} {Q : Exit → Act → World → Prop} {a : Act} {w : World} (ds : List (Option Tmp)) (vals : Nat → List Value) (val : Nat → Value) (d : Nat) (rd : List Nat) (hm : P.follows .mixedOrders = true)
    (hd : oj.dst = some d) (hA : ∀ N, (putAll a ds (vals N)).tmps.toList.eraseIdx d = (putAll a ds (vals 0)).tmps.toList.eraseIdx d) (hrd : readB l m oj rd = true)
    (hal : ∀ w (a' : Act), D w → (∀ s ∈ rd, a'.tmps[s]? = (putAll a ds (vals 0)).tmps[s]?) → ∀ (K : Act → World → Prop) Q', (∀ N w', C1 N w' → K (a'.put oj.dst (val N)) w') → oj.wp P a' w K Q')
    (hD : D w.drew)
    (hwalk : ∀ N (X : World → Prop), (X = D ∨ X = C1 N) → wpQuiet P (rep (l.take m) j (val N)).toArray X (fun a' => a' = putAll a ds (vals N)) (rep (l.take m) j (val N)) a)
    (hpost : ∀ N w, C1 N w → wpList P l.toArray Q (l.drop m) (putAll a ds (vals N)) w) : (Code.region id l.toArray true).wp P Q a w :=
  sp_region m j ok (A := fun N => putAll a ds (vals N)) val rd hm (alA ok d hd hA) (read_of hrd) hal hD hwalk hpost
end
/-- All pairs of numbers, one behind the other. -/
def decN : Nat → Nat × Nat
  | 0 => (0, 0)
  | n + 1 => if (decN n).2 = 0 then (0, (decN n).1 + 1) else ((decN n).1 + 1, (decN n).2 - 1)
theorem decN_all (s : Nat) : ∀ a b : Nat, a + b = s → ∃ n, decN n = (a, b) := by
  induction s with
  | zero =>
    intro a b h
    have ha : a = 0 := by omega
    have hb : b = 0 := by omega
    subst ha; subst hb
    exact ⟨0, rfl⟩
  | succ s ih =>
    intro a
    induction a with
    | zero =>
      intro b h
      obtain ⟨n, hn⟩ := ih s 0 (by omega)
      refine ⟨n + 1, ?_⟩
      rw [decN, hn, if_pos rfl]
      simp; omega
    | succ a iha =>
      intro b h
      obtain ⟨n, hn⟩ := iha (b + 1) (by omega)
      refine ⟨n + 1, ?_⟩
      rw [decN, hn, if_neg (by simp)]
      simp
theorem decN_ex (a b : Nat) : ∃ n, decN n = (a, b) := decN_all (a + b) a b rfl
end Go.Proofs.YtmkjlcfoedglmaaDoor
