/-
  Part 4 of the proof: 3 texts, one behind the other.
-/
import Derived.Test.YtofpbommhklooaaPart3
/-
  A region that draws its order and has two special operations, the second of which waits for the first: it makes a block, and fills it; what is read alone may come at any time.
-/
namespace Go.Proofs.Ytofpbommhklooaa
open Go.RowKit
set_option linter.unusedSimpArgs false
set_option linter.unusedVariables false

section
variable {P : Program}
/-- The walk's list and the region's: alike but for the operations themselves at some places. -/
structure Sim (b l : List Oper) (m : Nat) (E : Nat → Bool) : Prop where
  len : b.length = m
  same : ∀ i, i < m → ∀ o, l[i]? = some o → ∃ o', b[i]? = some o' ∧ o'.dst = o.dst ∧ o'.after = o.after ∧ o'.guard = o.guard ∧ (E i = false → o' = o)
theorem Sim.get {b l : List Oper} {m : Nat} {E : Nat → Bool} (h : Sim b l m E) (hml : m ≤ l.length) (i : Nat) (o' : Oper) (hi : b[i]? = some o') : i < m ∧ ∃ o, l[i]? = some o ∧ o'.dst = o.dst ∧ o'.after = o.after ∧ o'.guard = o.guard := by
  have him : i < m := by rw [← h.len]; exact (List.getElem?_eq_some_iff.mp hi).1
  have hl : i < l.length := by omega
  obtain ⟨o2, q1, q2, q3, q4, -⟩ := h.same i him l[i] (by simp [hl])
  rw [hi] at q1
  have := Option.some.inj q1
  subst this
  exact ⟨him, l[i], by simp [hl], q2, q3, q4⟩
theorem Sim.yield {b l : List Oper} {m : Nat} {E : Nat → Bool} (h : Sim b l m E) (hml : m ≤ l.length) (tmps : Array Value) (k : Nat) (hk : k < m) : yielded b.toArray tmps k = yielded l.toArray tmps k := by
  have hl : k < l.length := by omega
  obtain ⟨o2, q1, q2, -, -, -⟩ := h.same k hk l[k] (by simp [hl])
  unfold yielded
  simp only [List.getElem?_toArray, q1, List.getElem?_eq_getElem hl, Option.bind_some, q2]
theorem Sim.wanted {b l : List Oper} {m : Nat} {E : Nat → Bool} (h : Sim b l m E) (hml : m ≤ l.length) (a : Act) (o : Oper) (hlt : ∀ k c, o.guard = some (k, c) → k < m) : Region.wanted o (yielded b.toArray a.tmps) = Region.wanted o (yielded l.toArray a.tmps) := by
  unfold Region.wanted
  cases e : o.guard with
  | none => rfl
  | some kb =>
    obtain ⟨k, c⟩ := kb
    simp only
    rw [h.yield hml a.tmps k (hlt k c e)]
theorem Sim.ready {b l : List Oper} {m : Nat} {E : Nat → Bool} (h : Sim b l m E) (hml : m ≤ l.length) (hw : waitB l m = true) (lp : Array Bool) (hs : lp.size = m) (f : Nat) (hu : unl lp = f + 1) (i : Nat)
    (hi : i ∈ Region.ready .any l.toArray (lp ++ Array.replicate (l.length - m) false)) : i < m ∧ i ∈ Region.ready .any b.toArray lp := by
  obtain ⟨him, -⟩ := ready_pre l m m undef hml hw lp hs f hu i hi
  obtain ⟨hun, o, ho, hall⟩ := mem_ready.1 hi
  obtain ⟨o', q1, q2, q3, q4, -⟩ := h.same i him o (by simpa using ho)
  refine ⟨him, mem_ready.2 ⟨by rw [get_app_lt lp _ i (by omega)] at hun; exact hun, o', by simpa using q1, fun e he hb => ?_⟩⟩
  rw [q3] at he
  have := hall e he hb
  rwa [get_app_false] at this
theorem getD_no {lp : Array Bool} {k : Nat} (h1 : lp.getD k true = false) (h2 : lp.getD k false = true) : False := by
  rw [Array.getD_eq_getD_getElem?] at h1 h2
  cases z : lp[k]? with
  | none => rw [z] at h1; simp at h1
  | some b => rw [z] at h1 h2; simp at h1 h2; rw [h2] at h1; cases h1
theorem gdone {l : List Oper} {m j : Nat} (ok : QpOk l m j) {b : List Oper} {E : Nat → Bool} (sim : Sim b l m E) {C : World → Prop} {A : Act} {Q : Exit → Act → World → Prop}
    (hpost : ∀ w, C w → wpList P l.toArray Q (l.drop m) A w) : ∀ (fuel : Nat) (lp : Array Bool) (a : Act) (w : World), lp.size = m → unl lp = fuel → (∀ i, E i = true → lp.getD i false = true) → C w →
      wpAnyQ P .any b.toArray C (fun a' => a' = A) fuel lp a → wpAny P .any l.toArray Q (fuel + (l.length - m)) (lp ++ Array.replicate (l.length - m) false) a w := by
  intro fuel
  induction fuel with
  | zero =>
    intro lp a w hs hu hj hC h
    rw [h.2, unl_zero lp hu, hs, Nat.zero_add, show l.length - m = (l.drop m).length by simp]
    refine any_seq (l.drop m) m _ A w (fun i => by simp) ?_ (hpost w hC)
    have := ok.seq
    rwa [show l.length - m = (l.drop m).length by simp] at this
  | succ fuel ih =>
    intro lp a w hs hu hj hC h
    rw [show fuel + 1 + (l.length - m) = (fuel + (l.length - m)) + 1 by omega]
    refine ⟨fun e => ?_, fun i hi => ?_⟩
    · obtain ⟨k, hk, hf⟩ := unl_some lp fuel hu
      exact absurd e (some_ready ok lp hs k (by omega) hf)
    · obtain ⟨him, hir⟩ := sim.ready ok.ml ok.wait lp hs fuel hu i hi
      obtain ⟨hun, _⟩ := mem_ready.1 hir
      have hE : E i = false := by
        cases q : E i
        · rfl
        · exact (getD_no hun (hj i q)).elim
      obtain ⟨_, o, ho, _⟩ := mem_ready.1 hi
      have ho' : l[i]? = some o := by simpa using ho
      obtain ⟨o2, q1, -, -, -, q5⟩ := sim.same i him o ho'
      obtain rfl := q5 hE
      obtain ⟨v, hy, hK⟩ := yieldsIn_of_qOp (by simpa using q1) (h.2 i hir)
      refine wp_of_yields ho (sim.wanted ok.ml a o2 (ok.guards i o2 ho')) hy hC (fun w' hw' => ?_)
      rw [set_app lp _ i (by omega)]
      exact ih _ _ w' (by simp [hs]) (by have := unl_set lp i hun; omega) (fun k hk => getD_set_true (hj k hk)) hw' hK
theorem gpend {l : List Oper} {m j : Nat} {oj : Oper} (ok : AlOk l m j oj) {b : Nat → List Oper} {E : Nat → Bool} (sim : ∀ N, Sim (b N) l m E) {D : World → Prop} {C1 : Nat → World → Prop} {Cs : Nat → (World → Prop) → Prop} {A : Nat → Act} {val : Nat → Value} {rd : List Nat} {Q : Exit → Act → World → Prop} (Inv : Array Bool → Prop) (hInv : ∀ lp i, Inv lp → (E i = false ∨ i = j) → Inv (lp.setIfInBounds i true))
    (hE : E j = true) (hA : ∀ (i : Nat) o s N, l[i]? = some o → i < m → E i = false → o.dst = some s → (A N).tmps[s]? = (A 0).tmps[s]?) (hAj : ∀ s N, oj.dst = some s → s < (A N).tmps.size → (A N).tmps[s]? = some (val N))
    (hrd : ∀ s ∈ rd, ∀ (k : Nat) o, l[k]? = some o → k < m → o.dst = some s → ∃ e ∈ oj.after, Region.binds .any e = true ∧ e.on = k)
    (hal : ∀ w (a : Act), D w → (∀ s ∈ rd, a.tmps[s]? = (A 0).tmps[s]?) → ∀ (K : Act → World → Prop) Q', (∀ N w', C1 N w' → K (a.put oj.dst (val N)) w') → oj.wp P a w K Q')
    (hgo : ∀ N fuel lp a w, lp.size = m → unl lp = fuel → lp.getD j false = true → Inv lp → (A N).tmps.size = a.tmps.size → C1 N w →
      (∀ X, Cs N X → wpAnyQ P .any (b N).toArray X (fun a' => a' = A N) fuel lp a) → wpAny P .any l.toArray Q (fuel + (l.length - m)) (lp ++ Array.replicate (l.length - m) false) a w) :
    ∀ (fuel : Nat) (lp : Array Bool) (a : Act) (w : World), lp.size = m → unl lp = fuel → lp.getD j true = false → Inv lp → (∀ i, E i = true → i ≠ j → lp.getD i false = true ∨ ∃ o, l[i]? = some o ∧ ∃ e ∈ o.after, Region.binds .any e = true ∧ e.on = j) → D w →
      (∀ N X, Cs N X → wpAnyQ P .any (b N).toArray X (fun a' => a' = A N) fuel lp a) → (∀ N, wpAnyQ P .any (b N).toArray D (fun a' => a' = A N) fuel lp a) →
      (∀ N, (A N).tmps.size = a.tmps.size) → wpAny P .any l.toArray Q (fuel + (l.length - m)) (lp ++ Array.replicate (l.length - m) false) a w := by
  intro fuel
  induction fuel with
  | zero =>
    intro lp a w hs hu hj
    exfalso
    have e := unl_zero lp hu
    rw [e, Array.getD_eq_getD_getElem?] at hj
    have := ok.jm
    simp [show j < lp.size by omega] at hj
  | succ fuel ih =>
    intro lp a w hs hu hj hI hoth hD h1 h0 hsz
    rw [show fuel + 1 + (l.length - m) = (fuel + (l.length - m)) + 1 by omega]
    refine ⟨fun e => absurd e (some_ready ok.toQpOk lp hs j ok.jm hj), fun i hi => ?_⟩
    obtain ⟨him, -⟩ := (sim 0).ready ok.ml ok.wait lp hs fuel hu i hi
    have hir := fun N => ((sim N).ready ok.ml ok.wait lp hs fuel hu i hi).2
    obtain ⟨hun, _⟩ := mem_ready.1 (hir 0)
    obtain ⟨_, o, ho, hall⟩ := mem_ready.1 hi
    have ho' : l[i]? = some o := by simpa using ho
    -- a slot that is written now is not written any more
    have later : ∀ N s, o.dst = some s → ∀ k ok', (b N).toArray[k]? = some ok' → (lp.setIfInBounds i true).getD k true = false → ok'.dst ≠ some s := by
      intro N s hs' k ok' hk hl e
      obtain ⟨hkm, o2, q1, q2, -, -⟩ := (sim N).get ok.ml k ok' (by simpa using hk)
      have := ok.dst k i o2 o s q1 ho' hkm him (by rw [← q2]; exact e) hs'
      subst this
      rw [Array.getD_eq_getD_getElem?] at hl
      simp [show k < lp.size by omega] at hl
    by_cases hij : i = j
    · subst hij
      obtain rfl : o = oj := by rw [ok.here] at ho'; exact (Option.some.inj ho').symm
      unfold wpOp
      simp only [ho]
      rw [if_pos (by unfold Region.wanted; rw [ok.guard])]
      refine .inl ?_
      refine hal w a hD ?_ _ _ ?_
      · intro s hsr
        refine (q_fin _ _ _ (h0 0) s ?_).symm
        intro k ok' hk hl e
        obtain ⟨hkm, o2, q1, q2, -, -⟩ := (sim 0).get ok.ml k ok' (by simpa using hk)
        obtain ⟨e', he', hb', hon⟩ := hrd s hsr k o2 q1 hkm (by rw [← q2]; exact e)
        have h3 := hall e' he' hb'
        rw [hon, get_app_false] at h3
        exact getD_no hl h3
      · intro N w' hC
        rw [set_app lp _ i (by omega)]
        refine hgo N fuel _ _ w' (by simp [hs]) (by have := unl_set lp i hun; omega) (by
          rw [Array.getD_eq_getD_getElem?]
          simp [show i < lp.size by omega]) (hInv lp i hI (.inr rfl)) (by rw [hsz N, put_size]) hC ?_
        intro X hX
        obtain ⟨o2, q1, q2, -, -, -⟩ := (sim N).same i him o ho'
        obtain ⟨v, hy, hK⟩ := yieldsIn_of_qOp (by simpa using q1) ((h1 N X hX).2 i (hir N))
        rw [q2] at hK
        have e : a.put o.dst v = a.put o.dst (val N) := put_same fun s hs' => by
          have f := q_fin _ _ _ hK s (later N s hs')
          rw [← f]
          by_cases c : s < a.tmps.size
          · rw [hAj s N hs' (by rw [hsz N]; exact c), hs']
            simp [Act.put, Array.getElem?_setIfInBounds, c]
          · have c' : a.tmps.size ≤ s := Nat.le_of_not_lt c
            rw [Array.getElem?_eq_none (by rw [hsz N]; exact c'), Array.getElem?_eq_none (by rw [put_size]; exact c')]
        rwa [e] at hK
    · have hEi : E i = false := by
        cases q : E i
        · rfl
        · rcases hoth i q hij with z | ⟨o2, z1, e, z2, z3, z4⟩
          · exact (getD_no hun z).elim
          · rw [ho'] at z1
            have := Option.some.inj z1
            subst this
            have h3 := hall e z2 z3
            rw [z4, get_app_false] at h3
            exact (getD_no hj h3).elim
      have hor : ∀ N, (b N).toArray[i]? = some o := fun N => by
        obtain ⟨o2, q1, -, -, -, q5⟩ := (sim N).same i him o ho'
        obtain rfl := q5 hEi
        simpa using q1
      obtain ⟨v0, hy0, hK0⟩ := yieldsIn_of_qOp (hor 0) ((h0 0).2 i (hir 0))
      have f0 : ∀ s, o.dst = some s → (A 0).tmps[s]? = (a.put o.dst v0).tmps[s]? := fun s hs' => q_fin _ _ _ hK0 s (later 0 s hs')
      have all0 : ∀ N, wpAnyQ P .any (b N).toArray D (fun a' => a' = A N) fuel (lp.setIfInBounds i true) (a.put o.dst v0) := by
        intro N
        obtain ⟨v, _, hK⟩ := yieldsIn_of_qOp (hor N) ((h0 N).2 i (hir N))
        have e : a.put o.dst v = a.put o.dst v0 := put_same fun s hs' => by
          rw [← f0 s hs', ← q_fin _ _ _ hK s (later N s hs')]
          exact hA i o s N ho' him hEi hs'
        rwa [e] at hK
      have all1 : ∀ N X, Cs N X → wpAnyQ P .any (b N).toArray X (fun a' => a' = A N) fuel (lp.setIfInBounds i true) (a.put o.dst v0) := by
        intro N X hX
        obtain ⟨v, _, hK⟩ := yieldsIn_of_qOp (hor N) ((h1 N X hX).2 i (hir N))
        have e : a.put o.dst v = a.put o.dst v0 := put_same fun s hs' => by
          rw [← f0 s hs', ← q_fin _ _ _ hK s (later N s hs')]
          exact hA i o s N ho' him hEi hs'
        rwa [e] at hK
      refine wp_of_yields ho ((sim 0).wanted ok.ml a o (ok.guards i o ho')) hy0 hD (fun w' hw' => ?_)
      rw [set_app lp _ i (by omega)]
      exact ih _ _ w' (by simp [hs]) (by have := unl_set lp i hun; omega) (by rw [getD_set_ne true hij]; exact hj) (hInv lp i hI (.inl hEi)) (fun k hk hne => (hoth k hk hne).imp (fun q => getD_set_true q) id) hw' all1 all0 (fun N => by rw [hsz N, put_size])
theorem putAll_size : ∀ (ds : List (Option Tmp)) (vs : List Value) (a : Act), (putAll a ds vs).tmps.size = a.tmps.size
  | [], _, a => by cases ‹List Value› <;> rfl
  | d :: ds, [], a => rfl
  | d :: ds, v :: vs, a => by
    show (putAll (a.put d v) ds vs).tmps.size = _
    rw [putAll_size ds vs, put_size]
theorem sim_two (l : List Oper) (m j j2 : Nat) (hml : m ≤ l.length) (u v : Value) : Sim (rep (rep (l.take m) j2 u) j v) l m (fun i => i == j || i == j2) := by
  refine ⟨by rw [rep_len, rep_len, List.length_take]; omega, fun i hi o ho => ?_⟩
  obtain ⟨o1, p1, p2, p3, p4⟩ := rep_of (l.take m) j2 u i o (by rw [List.getElem?_take, if_pos hi]; exact ho)
  obtain ⟨o2, q1, q2, q3, q4⟩ := rep_of (rep (l.take m) j2 u) j v i o1 p1
  refine ⟨o2, q1, by rw [q2, p2], by rw [q3, p3], by rw [q4, p4], fun hE => ?_⟩
  simp only [Bool.or_eq_false_iff, beq_eq_false_iff_ne] at hE
  rw [rep_ne _ _ _ _ hE.1, rep_ne _ _ _ _ hE.2, List.getElem?_take, if_pos hi, ho] at q1
  exact (Option.some.inj q1).symm
/-- One walk of the text's order: the region makes a block (operation j) and fills it (operation k, which waits for it). -/
theorem two_region {id : Nat} {l : List Oper} (m j k : Nat) {oj ok' : Oper} (ok : AlOk l m j oj) (ok2 : AlOk l m k ok') (hjk : j ≠ k) (hwt : ok'.after.any (fun e => Region.binds .any e && e.on == j) = true) (hd2 : ok'.dst = none)
    {D : World → Prop} {C1 C2 : Nat → World → Prop} {obj : Obj} {Q : Exit → Act → World → Prop} {a : Act} {w : World} (ds : List (Option Tmp)) (vals : Nat → List Value) (d : Nat) (rd : List Nat) (hm : P.follows .mixedOrders = true)
    (hlex : ∀ N, Region.lexB .any (rep (rep (l.take m) k undef) j (.pointer (some ⟨N, 0, none⟩))).toArray = true)
    (hd : oj.dst = some d) (hA : ∀ N, (putAll a ds (vals N)).tmps.toList.eraseIdx d = (putAll a ds (vals 0)).tmps.toList.eraseIdx d) (hAd : ∀ N, (putAll a ds (vals N)).tmps[d]? = some (.pointer (some ⟨N, 0, none⟩)))
    (hrd : readB l m ok' rd = true)
    (hal : ∀ w (a : Act), D w → (execOp a.eval oj).run P w = .ok (.value (.pointer (some ⟨w.heap.size, 0, none⟩))) (w.alloc obj)) (hC1 : ∀ w, D w → C1 w.heap.size (w.alloc obj))
    (hst : ∀ N w (a' : Act), C1 N w → (∀ s ∈ rd, a'.tmps[s]? = (putAll a ds (vals N)).tmps[s]?) → ∀ (K : Act → World → Prop) Q', (∀ w', C2 N w' → K a' w') → ok'.wp P a' w K Q')
    (hD : D w.drew)
    (hwalk : ∀ N (X : World → Prop), (X = D ∨ X = C1 N ∨ X = C2 N) → wpQuiet P (rep (rep (l.take m) k undef) j (.pointer (some ⟨N, 0, none⟩))).toArray X (fun a' => a' = putAll a ds (vals N)) (rep (rep (l.take m) k undef) j (.pointer (some ⟨N, 0, none⟩))) a)
    (hpost : ∀ N w, C2 N w → wpList P l.toArray Q (l.drop m) (putAll a ds (vals N)) w) : (Code.region id l.toArray true).wp P Q a w := by
  refine wp_region_any hm ?_
  have hml := ok.ml
  have any : ∀ N X, (X = D ∨ X = C1 N ∨ X = C2 N) → wpAnyQ P .any (rep (rep (l.take m) k undef) j (.pointer (some ⟨N, 0, none⟩))).toArray X (fun a' => a' = putAll a ds (vals N)) m (Array.replicate m false) a := by
    intro N X hX
    have hB := hlex N
    simp only [Region.lexB, Bool.and_eq_true] at hB
    have hlen : (rep (rep (l.take m) k undef) j (.pointer (some ⟨N, 0, none⟩))).length = m := by rw [rep_len, rep_len, List.length_take]; omega
    have := wpAnyQ_lex (C := X) (md := .any) hB.1 (rep (rep (l.take m) k undef) j (.pointer (some ⟨N, 0, none⟩))) 0 (Array.replicate m false) a (by simp) (by have := hB.2; simpa [hlen] using this) (hwalk N X hX)
    rwa [hlen] at this
  have hu : unl (Array.replicate m false) = m := by unfold unl; simp
  have hE : ∀ (i : Nat) o s N, l[i]? = some o → i < m → (i == j || i == k) = false → o.dst = some s → (putAll a ds (vals N)).tmps[s]? = (putAll a ds (vals 0)).tmps[s]? := fun i o s N ho hi he hs => by
    simp only [Bool.or_eq_false_iff, beq_eq_false_iff_ne] at he
    exact alA ok d hd hA i o s N ho hi he.1 hs
  obtain ⟨ew, hew1, hew2⟩ := Array.any_eq_true'.mp hwt
  simp only [Bool.and_eq_true, beq_iff_eq] at hew2
  have main := gpend (P := P) (Q := Q) ok (b := fun N => rep (rep (l.take m) k undef) j (.pointer (some ⟨N, 0, none⟩))) (E := fun i => i == j || i == k) (fun N => sim_two l m j k hml _ _) (D := D) (C1 := C1) (Cs := fun N X => X = C1 N ∨ X = C2 N) (A := fun N => putAll a ds (vals N)) (val := fun N => .pointer (some ⟨N, 0, none⟩)) (rd := [])
    (fun lp => lp.getD k true = false) (fun lp i h hi => by
      have : i ≠ k := by
        intro e
        rcases hi with q | q
        · simp [e] at q
        · exact hjk (by rw [← q, e])
      rw [getD_set_ne true this]; exact h)
    (by simp) hE (fun s N hs _ => by
      rw [hd] at hs
      cases hs
      exact hAd N) (fun s hs => by cases hs) (fun w a hw _ K Q' hK => by
        unfold Oper.wp
        rw [hal w a hw]
        simp only [Oper.upon]
        exact hK _ _ (hC1 w hw))
    (fun N fuel lp a1 w1 hs hu' hj hI hz hC hX =>
      gpend (P := P) (Q := Q) ok2 (b := fun _ => rep (rep (l.take m) k undef) j (.pointer (some ⟨N, 0, none⟩))) (E := fun i => i == j || i == k) (fun _ => sim_two l m j k hml _ _) (D := C1 N) (C1 := fun _ => C2 N) (Cs := fun _ X => X = C2 N) (A := fun _ => putAll a ds (vals N)) (val := fun _ => undef) (rd := rd)
        (fun lp => lp.getD j false = true) (fun lp i h _ => getD_set_true h) (by simp) (fun i o s N' _ _ _ _ => rfl) (fun s N' hs => by rw [hd2] at hs; cases hs) (read_of hrd)
        (fun w' a' hw hr K Q' hK => hst N w' a' hw hr K Q' (fun w2 h2 => by
          have := hK 0 w2 h2
          rw [hd2] at this
          exact this))
        (fun N' fuel lp a2 w2 hs hu hk hI hz hC hX => gdone ok.toQpOk (sim_two l m j k hml _ _) (fun w3 h3 => hpost N w3 h3) fuel lp a2 w2 hs hu (fun i hi => by
          simp only [Bool.or_eq_true, beq_iff_eq] at hi
          rcases hi with e | e
          · rw [e]; exact hI
          · rw [e]; exact hk) hC (hX _ rfl))
        fuel lp a1 w1 hs hu' hI hj (fun i hi hne => .inl (by
          have : i = j := by simpa [hne] using hi
          rw [this]; exact hj)) hC (fun _ X hX' => hX X (.inr hX')) (fun _ => hX _ (.inl rfl)) (fun _ => hz))
    m (Array.replicate m false) a w.drew (by simp) hu (by
      rw [Array.getD_eq_getD_getElem?]
      have := ok.jm
      simp [this]) (by
      rw [Array.getD_eq_getD_getElem?]
      have := ok2.jm
      simp [this]) (fun i hi hne => .inr ⟨ok', by
        have : i = k := by simpa [hne] using hi
        rw [this]; exact ok2.here, ew, hew1, hew2.1, hew2.2⟩) hD (fun N X hX => any N X (.inr hX)) (fun N => any N D (.inl rfl)) (fun N => putAll_size _ _ _)
  have e1 : m + (l.length - m) = l.toArray.size := by simp; omega
  have e2 : Array.replicate m false ++ Array.replicate (l.length - m) false = Array.replicate l.toArray.size false := by
    rw [Array.replicate_append_replicate]; congr 1
  rw [e1, e2] at main
  exact main
end
end Go.Proofs.Ytofpbommhklooaa
/-
  A drawn region with one call in its midst that changes memory: one walk of the text's order, the call's answer a letter.
-/
namespace Go.Proofs.Ytofpbommhklooaa
open Go.RowKit
set_option linter.unusedSimpArgs false
set_option linter.unusedVariables false
section
variable {P : Program}
theorem cl_region {id : Nat} {l : List Oper} (m j : Nat) {oj : Oper} (ok : AlOk l m j oj) {D : World → Prop} {C1 : Nat → World → Prop} {Q : Exit → Act → World → Prop} {a : Act} {w : World} (ds : List (Option Tmp)) (vals : Nat → List Value) (val : Nat → Value) (d : Nat) (rd : List Nat) (hm : P.follows .mixedOrders = true)
    (hd : oj.dst = some d) (hA : ∀ N, (putAll a ds (vals N)).tmps.toList.eraseIdx d = (putAll a ds (vals 0)).tmps.toList.eraseIdx d) (hrd : readB l m oj rd = true)
    (hal : ∀ w (a' : Act), D w → (∀ s ∈ rd, a'.tmps[s]? = (putAll a ds (vals 0)).tmps[s]?) → ∀ (K : Act → World → Prop) Q', (∀ N w', C1 N w' → K (a'.put oj.dst (val N)) w') → oj.wp P a' w K Q')
    (hD : D w.drew)
    (hwalk : ∀ N (X : World → Prop), (X = D ∨ X = C1 N) → wpQuiet P (rep (l.take m) j (val N)).toArray X (fun a' => a' = putAll a ds (vals N)) (rep (l.take m) j (val N)) a)
    (hpost : ∀ N w, C1 N w → wpList P l.toArray Q (l.drop m) (putAll a ds (vals N)) w) : (Code.region id l.toArray true).wp P Q a w :=
  sp_region m j ok (A := fun N => putAll a ds (vals N)) val rd hm (alA ok d hd hA) (read_of hrd) hal hD hwalk hpost
end
/-- All pairs of numbers, one behind the other. -/
def decN : Nat → Nat × Nat
  | 0 => (0, 0)
  | n + 1 => if (decN n).2 = 0 then (0, (decN n).1 + 1) else ((decN n).1 + 1, (decN n).2 - 1)
theorem decN_all (s : Nat) : ∀ a b : Nat, a + b = s → ∃ n, decN n = (a, b) := by
  induction s with
  | zero =>
    intro a b h
    have ha : a = 0 := by omega
    have hb : b = 0 := by omega
    subst ha; subst hb
    exact ⟨0, rfl⟩
  | succ s ih =>
    intro a
    induction a with
    | zero =>
      intro b h
      obtain ⟨n, hn⟩ := ih s 0 (by omega)
      refine ⟨n + 1, ?_⟩
      rw [decN, hn, if_pos rfl]
      simp; omega
    | succ a iha =>
      intro b h
      obtain ⟨n, hn⟩ := iha (b + 1) (by omega)
      refine ⟨n + 1, ?_⟩
      rw [decN, hn, if_neg (by simp)]
      simp
theorem decN_ex (a b : Nat) : ∃ n, decN n = (a, b) := decN_all (a + b) a b rfl
end Go.Proofs.Ytofpbommhklooaa
/-
  A drawn region that makes a block and lays it behind a row: two letters, one walk of the text's order.
-/
namespace Go.Proofs.Ytofpbommhklooaa
open Go.RowKit
set_option linter.unusedSimpArgs false
set_option linter.unusedVariables false
section
variable {P : Program}
theorem gpend2 {l : List Oper} {m j : Nat} {oj : Oper} (ok : AlOk l m j oj) {b : Nat → List Oper} {E : Nat → Bool} (sim : ∀ N, Sim (b N) l m E) {D : World → Prop} {C1 : Nat → World → Prop} {Cs : Nat → (World → Prop) → Prop} {A : Nat → Act} {val : Nat → Value} {rd : List Nat} {Q : Exit → Act → World → Prop} (Inv : Array Bool → Prop) (hInv : ∀ lp i, Inv lp → (E i = false ∨ i = j) → Inv (lp.setIfInBounds i true))
    (hE : E j = true) (hA : ∀ (i : Nat) o s N, l[i]? = some o → i < m → E i = false → o.dst = some s → (A N).tmps[s]? = (A 0).tmps[s]?) (hAj : ∀ s N, oj.dst = some s → s < (A N).tmps.size → (A N).tmps[s]? = some (val N))
    (hrd : ∀ s ∈ rd, ∀ (k : Nat) o, l[k]? = some o → k < m → o.dst = some s → ∃ e ∈ oj.after, Region.binds .any e = true ∧ e.on = k)
    (hal : ∀ w (a : Act), D w → (∀ s ∈ rd, a.tmps[s]? = (A 0).tmps[s]?) → ∀ (K : Act → World → Prop) Q', (∀ N w', C1 N w' → K (a.put oj.dst (val N)) w') → oj.wp P a w K Q')
    (hgo : ∀ N fuel lp a w, lp.size = m → unl lp = fuel → lp.getD j false = true → Inv lp → (A N).tmps.size = a.tmps.size → C1 N w →
      (∀ N' X, val N' = val N → Cs N' X → wpAnyQ P .any (b N').toArray X (fun a' => a' = A N') fuel lp a) → wpAny P .any l.toArray Q (fuel + (l.length - m)) (lp ++ Array.replicate (l.length - m) false) a w) :
    ∀ (fuel : Nat) (lp : Array Bool) (a : Act) (w : World), lp.size = m → unl lp = fuel → lp.getD j true = false → Inv lp → (∀ i, E i = true → i ≠ j → lp.getD i false = true ∨ ∃ o, l[i]? = some o ∧ ∃ e ∈ o.after, Region.binds .any e = true ∧ e.on = j) → D w →
      (∀ N X, Cs N X → wpAnyQ P .any (b N).toArray X (fun a' => a' = A N) fuel lp a) → (∀ N, wpAnyQ P .any (b N).toArray D (fun a' => a' = A N) fuel lp a) →
      (∀ N, (A N).tmps.size = a.tmps.size) → wpAny P .any l.toArray Q (fuel + (l.length - m)) (lp ++ Array.replicate (l.length - m) false) a w := by
  intro fuel
  induction fuel with
  | zero =>
    intro lp a w hs hu hj
    exfalso
    have e := unl_zero lp hu
    rw [e, Array.getD_eq_getD_getElem?] at hj
    have := ok.jm
    simp [show j < lp.size by omega] at hj
  | succ fuel ih =>
    intro lp a w hs hu hj hI hoth hD h1 h0 hsz
    rw [show fuel + 1 + (l.length - m) = (fuel + (l.length - m)) + 1 by omega]
    refine ⟨fun e => absurd e (some_ready ok.toQpOk lp hs j ok.jm hj), fun i hi => ?_⟩
    obtain ⟨him, -⟩ := (sim 0).ready ok.ml ok.wait lp hs fuel hu i hi
    have hir := fun N => ((sim N).ready ok.ml ok.wait lp hs fuel hu i hi).2
    obtain ⟨hun, _⟩ := mem_ready.1 (hir 0)
    obtain ⟨_, o, ho, hall⟩ := mem_ready.1 hi
    have ho' : l[i]? = some o := by simpa using ho
    -- a slot that is written now is not written any more
    have later : ∀ N s, o.dst = some s → ∀ k ok', (b N).toArray[k]? = some ok' → (lp.setIfInBounds i true).getD k true = false → ok'.dst ≠ some s := by
      intro N s hs' k ok' hk hl e
      obtain ⟨hkm, o2, q1, q2, -, -⟩ := (sim N).get ok.ml k ok' (by simpa using hk)
      have := ok.dst k i o2 o s q1 ho' hkm him (by rw [← q2]; exact e) hs'
      subst this
      rw [Array.getD_eq_getD_getElem?] at hl
      simp [show k < lp.size by omega] at hl
    by_cases hij : i = j
    · subst hij
      obtain rfl : o = oj := by rw [ok.here] at ho'; exact (Option.some.inj ho').symm
      unfold wpOp
      simp only [ho]
      rw [if_pos (by unfold Region.wanted; rw [ok.guard])]
      refine .inl ?_
      refine hal w a hD ?_ _ _ ?_
      · intro s hsr
        refine (q_fin _ _ _ (h0 0) s ?_).symm
        intro k ok' hk hl e
        obtain ⟨hkm, o2, q1, q2, -, -⟩ := (sim 0).get ok.ml k ok' (by simpa using hk)
        obtain ⟨e', he', hb', hon⟩ := hrd s hsr k o2 q1 hkm (by rw [← q2]; exact e)
        have h3 := hall e' he' hb'
        rw [hon, get_app_false] at h3
        exact getD_no hl h3
      · intro N w' hC
        rw [set_app lp _ i (by omega)]
        refine hgo N fuel _ _ w' (by simp [hs]) (by have := unl_set lp i hun; omega) (by
          rw [Array.getD_eq_getD_getElem?]
          simp [show i < lp.size by omega]) (hInv lp i hI (.inr rfl)) (by rw [hsz N, put_size]) hC ?_
        intro N' X hv hX
        obtain ⟨o2, q1, q2, -, -, -⟩ := (sim N').same i him o ho'
        obtain ⟨v, hy, hK⟩ := yieldsIn_of_qOp (by simpa using q1) ((h1 N' X hX).2 i (hir N'))
        rw [q2] at hK
        have e : a.put o.dst v = a.put o.dst (val N') := put_same fun s hs' => by
          have f := q_fin _ _ _ hK s (later N' s hs')
          rw [← f]
          by_cases c : s < a.tmps.size
          · rw [hAj s N' hs' (by rw [hsz N']; exact c), hs']
            simp [Act.put, Array.getElem?_setIfInBounds, c]
          · have c' : a.tmps.size ≤ s := Nat.le_of_not_lt c
            rw [Array.getElem?_eq_none (by rw [hsz N']; exact c'), Array.getElem?_eq_none (by rw [put_size]; exact c')]
        rw [e, hv] at hK
        exact hK
    · have hEi : E i = false := by
        cases q : E i
        · rfl
        · rcases hoth i q hij with z | ⟨o2, z1, e, z2, z3, z4⟩
          · exact (getD_no hun z).elim
          · rw [ho'] at z1
            have := Option.some.inj z1
            subst this
            have h3 := hall e z2 z3
            rw [z4, get_app_false] at h3
            exact (getD_no hj h3).elim
      have hor : ∀ N, (b N).toArray[i]? = some o := fun N => by
        obtain ⟨o2, q1, -, -, -, q5⟩ := (sim N).same i him o ho'
        obtain rfl := q5 hEi
        simpa using q1
      obtain ⟨v0, hy0, hK0⟩ := yieldsIn_of_qOp (hor 0) ((h0 0).2 i (hir 0))
      have f0 : ∀ s, o.dst = some s → (A 0).tmps[s]? = (a.put o.dst v0).tmps[s]? := fun s hs' => q_fin _ _ _ hK0 s (later 0 s hs')
      have all0 : ∀ N, wpAnyQ P .any (b N).toArray D (fun a' => a' = A N) fuel (lp.setIfInBounds i true) (a.put o.dst v0) := by
        intro N
        obtain ⟨v, _, hK⟩ := yieldsIn_of_qOp (hor N) ((h0 N).2 i (hir N))
        have e : a.put o.dst v = a.put o.dst v0 := put_same fun s hs' => by
          rw [← f0 s hs', ← q_fin _ _ _ hK s (later N s hs')]
          exact hA i o s N ho' him hEi hs'
        rwa [e] at hK
      have all1 : ∀ N X, Cs N X → wpAnyQ P .any (b N).toArray X (fun a' => a' = A N) fuel (lp.setIfInBounds i true) (a.put o.dst v0) := by
        intro N X hX
        obtain ⟨v, _, hK⟩ := yieldsIn_of_qOp (hor N) ((h1 N X hX).2 i (hir N))
        have e : a.put o.dst v = a.put o.dst v0 := put_same fun s hs' => by
          rw [← f0 s hs', ← q_fin _ _ _ hK s (later N s hs')]
          exact hA i o s N ho' him hEi hs'
        rwa [e] at hK
      refine wp_of_yields ho ((sim 0).wanted ok.ml a o (ok.guards i o ho')) hy0 hD (fun w' hw' => ?_)
      rw [set_app lp _ i (by omega)]
      exact ih _ _ w' (by simp [hs]) (by have := unl_set lp i hun; omega) (by rw [getD_set_ne true hij]; exact hj) (hInv lp i hI (.inl hEi)) (fun k hk hne => (hoth k hk hne).imp (fun q => getD_set_true q) id) hw' all1 all0 (fun N => by rw [hsz N, put_size])
theorem set2_get (l l' : List Value) (d d2 s : Nat) (h : (l.set d undef).set d2 undef = (l'.set d undef).set d2 undef) (h1 : s ≠ d) (h2 : s ≠ d2) : l[s]? = l'[s]? := by
  have := congrArg (fun x => x[s]?) h
  simpa [List.getElem?_set_ne (Ne.symm h1), List.getElem?_set_ne (Ne.symm h2)] using this
theorem ap_region {id : Nat} {l : List Oper} (m j k : Nat) {oj ok' : Oper} (ok : AlOk l m j oj) (ok2 : AlOk l m k ok') (hjk : j ≠ k) (hwt : ok'.after.any (fun e => Region.binds .any e && e.on == j) = true)
    {D : World → Prop} {C1 : Nat → World → Prop} {C2 : Nat → Nat → World → Prop} {Q : Exit → Act → World → Prop} {a : Act} {w : World} (ds : List (Option Tmp)) (vals : Nat → Nat → List Value) (v1 v2 : Nat → Value) (d d2 : Nat) (rd1 rd : List Nat) (hm : P.follows .mixedOrders = true)
    (hlex : ∀ N M, Region.lexB .any (rep (rep (l.take m) k (v2 M)) j (v1 N)).toArray = true)
    (hd : oj.dst = some d) (hd2 : ok'.dst = some d2) (hA : ∀ N M, (((putAll a ds (vals N M)).tmps.toList.set d undef).set d2 undef) = (((putAll a ds (vals 0 0)).tmps.toList.set d undef).set d2 undef)) (hA1 : ∀ N M, (putAll a ds (vals N M)).tmps[d]? = some (v1 N)) (hA2 : ∀ N M, (putAll a ds (vals N M)).tmps[d2]? = some (v2 M))
    (hrd1 : readB l m oj rd1 = true) (hrd : readB l m ok' rd = true) (hr1 : ∀ s ∈ rd1, s ≠ d ∧ s ≠ d2) (hr2 : d2 ∉ rd)
    (h1 : ∀ w (a' : Act), D w → (∀ s ∈ rd1, a'.tmps[s]? = (putAll a ds (vals 0 0)).tmps[s]?) → ∀ (K : Act → World → Prop) Q', (∀ N w', C1 N w' → K (a'.put oj.dst (v1 N)) w') → oj.wp P a' w K Q')
    (h2 : ∀ N w (a' : Act), C1 N w → (∀ s ∈ rd, a'.tmps[s]? = (putAll a ds (vals N 0)).tmps[s]?) → ∀ (K : Act → World → Prop) Q', (∀ M w', C2 N M w' → K (a'.put ok'.dst (v2 M)) w') → ok'.wp P a' w K Q')
    (hD : D w.drew)
    (hwalk : ∀ N M (X : World → Prop), (X = D ∨ X = C1 N ∨ X = C2 N M) → wpQuiet P (rep (rep (l.take m) k (v2 M)) j (v1 N)).toArray X (fun a' => a' = putAll a ds (vals N M)) (rep (rep (l.take m) k (v2 M)) j (v1 N)) a)
    (hpost : ∀ N M w, C2 N M w → wpList P l.toArray Q (l.drop m) (putAll a ds (vals N M)) w) : (Code.region id l.toArray true).wp P Q a w := by
  refine wp_region_any hm ?_
  have hml := ok.ml
  have any : ∀ N M X, (X = D ∨ X = C1 N ∨ X = C2 N M) → wpAnyQ P .any (rep (rep (l.take m) k (v2 M)) j (v1 N)).toArray X (fun a' => a' = putAll a ds (vals N M)) m (Array.replicate m false) a := by
    intro N M X hX
    have hB := hlex N M
    simp only [Region.lexB, Bool.and_eq_true] at hB
    have hlen : (rep (rep (l.take m) k (v2 M)) j (v1 N)).length = m := by rw [rep_len, rep_len, List.length_take]; omega
    have := wpAnyQ_lex (C := X) (md := .any) hB.1 (rep (rep (l.take m) k (v2 M)) j (v1 N)) 0 (Array.replicate m false) a (by simp) (by have := hB.2; simpa [hlen] using this) (hwalk N M X hX)
    rwa [hlen] at this
  have hu : unl (Array.replicate m false) = m := by unfold unl; simp
  have same : ∀ N M s, s ≠ d → s ≠ d2 → (putAll a ds (vals N M)).tmps[s]? = (putAll a ds (vals 0 0)).tmps[s]? := fun N M s q1 q2 => by
    have := set2_get _ _ d d2 s (hA N M) q1 q2
    simpa using this
  have hE : ∀ (i : Nat) o s N M, l[i]? = some o → i < m → (i == j || i == k) = false → o.dst = some s → (putAll a ds (vals N M)).tmps[s]? = (putAll a ds (vals 0 0)).tmps[s]? := fun i o s N M ho hi he hs => by
    simp only [Bool.or_eq_false_iff, beq_eq_false_iff_ne] at he
    refine same N M s (fun e => he.1 ?_) (fun e => he.2 ?_)
    · exact ok.dst i j o oj s ho ok.here hi ok.jm hs (by rw [hd, e])
    · exact ok2.dst i k o ok' s ho ok2.here hi ok2.jm hs (by rw [hd2, e])
  obtain ⟨ew, hew1, hew2⟩ := Array.any_eq_true'.mp hwt
  simp only [Bool.and_eq_true, beq_iff_eq] at hew2
  have d0 : decN 0 = (0, 0) := rfl
  have main := gpend2 (P := P) (Q := Q) ok (b := fun L => rep (rep (l.take m) k (v2 (decN L).2)) j (v1 (decN L).1)) (E := fun i => i == j || i == k) (fun N => sim_two l m j k hml _ _) (D := D) (C1 := fun L => C1 (decN L).1) (Cs := fun L X => X = C1 (decN L).1 ∨ X = C2 (decN L).1 (decN L).2) (A := fun L => putAll a ds (vals (decN L).1 (decN L).2)) (val := fun L => v1 (decN L).1) (rd := rd1)
    (fun lp => lp.getD k true = false) (fun lp i h hi => by
      have : i ≠ k := by
        intro e
        rcases hi with q | q
        · simp [e] at q
        · exact hjk (by rw [← q, e])
      rw [getD_set_ne true this]; exact h)
    (by simp) (fun i o s N ho hi he hs => by rw [d0]; exact hE i o s _ _ ho hi he hs) (fun s N hs _ => by
      rw [hd] at hs
      cases hs
      exact hA1 _ _) (read_of hrd1) (fun w a' hw hr K Q' hK => h1 w a' hw (fun s hs => by have := hr s hs; rw [d0] at this; exact this) K Q' (fun N w' hC => by
        obtain ⟨L, hL⟩ := decN_ex N 0
        have := hK L w' (by rw [hL]; exact hC)
        rw [hL] at this
        exact this))
    (fun L fuel lp a1 w1 hs hu' hj hI hz hC hX =>
      gpend2 (P := P) (Q := Q) ok2 (b := fun M => rep (rep (l.take m) k (v2 M)) j (v1 (decN L).1)) (E := fun i => i == j || i == k) (fun _ => sim_two l m j k hml _ _) (D := C1 (decN L).1) (C1 := fun M => C2 (decN L).1 M) (Cs := fun M X => X = C2 (decN L).1 M) (A := fun M => putAll a ds (vals (decN L).1 M)) (val := v2) (rd := rd)
        (fun lp => lp.getD j false = true) (fun lp i h _ => getD_set_true h) (by simp) (fun i o s N' ho hi he hs => (hE i o s _ _ ho hi he hs).trans (hE i o s _ _ ho hi he hs).symm) (fun s N' hs _ => by
          rw [hd2] at hs
          cases hs
          exact hA2 _ _) (read_of hrd)
        (fun w' a' hw hr K Q' hK => h2 _ w' a' hw hr K Q' hK)
        (fun M fuel lp a2 w2 hs hu hk hI hz hC hX => gdone ok.toQpOk (sim_two l m j k hml _ _) (fun w3 h3 => hpost _ M w3 h3) fuel lp a2 w2 hs hu (fun i hi => by
          simp only [Bool.or_eq_true, beq_iff_eq] at hi
          rcases hi with e | e
          · rw [e]; exact hI
          · rw [e]; exact hk) hC (hX M _ rfl rfl))
        fuel lp a1 w1 hs hu' hI hj (fun i hi hne => .inl (by
          have : i = j := by simpa [hne] using hi
          rw [this]; exact hj)) hC (fun M X hX' => by
            obtain ⟨L', hL'⟩ := decN_ex (decN L).1 M
            have := hX L' X (by simp only [hL']) (.inr (by rw [hL']; exact hX'))
            rw [hL'] at this
            exact this) (fun M => by
            obtain ⟨L', hL'⟩ := decN_ex (decN L).1 M
            have := hX L' (C1 (decN L).1) (by simp only [hL']) (.inl (by simp only [hL']))
            rw [hL'] at this
            exact this) (fun M => by rw [← hz, putAll_size, putAll_size]))
    m (Array.replicate m false) a w.drew (by simp) hu (by
      rw [Array.getD_eq_getD_getElem?]
      have := ok.jm
      simp [this]) (by
      rw [Array.getD_eq_getD_getElem?]
      have := ok2.jm
      simp [this]) (fun i hi hne => .inr ⟨ok', by
        have : i = k := by simpa [hne] using hi
        rw [this]; exact ok2.here, ew, hew1, hew2.1, hew2.2⟩) hD (fun L X hX => any _ _ X (.inr hX)) (fun L => any _ _ D (.inl rfl)) (fun _ => putAll_size _ _ _)
  have e1 : m + (l.length - m) = l.toArray.size := by simp; omega
  have e2 : Array.replicate m false ++ Array.replicate (l.length - m) false = Array.replicate l.toArray.size false := by
    rw [Array.replicate_append_replicate]; congr 1
  rw [e1, e2] at main
  exact main
end
end Go.Proofs.Ytofpbommhklooaa
