/-
  Part 4 of the proof: 9 texts, one behind the other.
-/
import Derived.Test.YtbgoclfifhdonaaPart3
import Derived.Test.YtbgoclfifhdonaaPart2
import Derived.Test.YtbgoclfifhdonaaPart1
import Derived.Laws.CopyRow
import Derived.Laws.MakeOwn
import Derived.Laws.OwnMore
import Derived.RangeFuncNested
import Derived.Lib.BitFns
namespace Go.Proofs.Ytbgoclfifhdonaa
open Go.RowKit
set_option linter.unusedSimpArgs false
set_option linter.unusedVariables false

section
variable {P : Program}
structure Sim (b l : List Oper) (m : Nat) (E : Nat → Bool) : Prop where
  len : b.length = m
  same : ∀ i, i < m → ∀ o, l[i]? = some o → ∃ o', b[i]? = some o' ∧ o'.dst = o.dst ∧ o'.after = o.after ∧ o'.guard = o.guard ∧ (E i = false → o' = o)
theorem Sim.get {b l : List Oper} {m : Nat} {E : Nat → Bool} (h : Sim b l m E) (hml : m ≤ l.length) (i : Nat) (o' : Oper) (hi : b[i]? = some o') : i < m ∧ ∃ o, l[i]? = some o ∧ o'.dst = o.dst ∧ o'.after = o.after ∧ o'.guard = o.guard := by
  have him : i < m := by rw [← h.len]; exact (List.getElem?_eq_some_iff.mp hi).1
  have hl : i < l.length := by omega
  obtain ⟨o2, q1, q2, q3, q4, -⟩ := h.same i him l[i] (by simp [hl])
  rw [hi] at q1
  have := Option.some.inj q1
  subst this
  exact ⟨him, l[i], by simp [hl], q2, q3, q4⟩
theorem Sim.yield {b l : List Oper} {m : Nat} {E : Nat → Bool} (h : Sim b l m E) (hml : m ≤ l.length) (tmps : Array Value) (k : Nat) (hk : k < m) : yielded b.toArray tmps k = yielded l.toArray tmps k := by
  have hl : k < l.length := by omega
  obtain ⟨o2, q1, q2, -, -, -⟩ := h.same k hk l[k] (by simp [hl])
  unfold yielded
  simp only [List.getElem?_toArray, q1, List.getElem?_eq_getElem hl, Option.bind_some, q2]
theorem Sim.wanted {b l : List Oper} {m : Nat} {E : Nat → Bool} (h : Sim b l m E) (hml : m ≤ l.length) (a : Act) (o : Oper) (hlt : ∀ k c, o.guard = some (k, c) → k < m) : Region.wanted o (yielded b.toArray a.tmps) = Region.wanted o (yielded l.toArray a.tmps) := by
  unfold Region.wanted
  cases e : o.guard with
  | none => rfl
  | some kb =>
    obtain ⟨k, c⟩ := kb
    simp only
    rw [h.yield hml a.tmps k (hlt k c e)]
theorem Sim.ready {b l : List Oper} {m : Nat} {E : Nat → Bool} (h : Sim b l m E) (hml : m ≤ l.length) (hw : waitB l m = true) (lp : Array Bool) (hs : lp.size = m) (f : Nat) (hu : unl lp = f + 1) (i : Nat)
    (hi : i ∈ Region.ready .any l.toArray (lp ++ Array.replicate (l.length - m) false)) : i < m ∧ i ∈ Region.ready .any b.toArray lp := by
  obtain ⟨him, -⟩ := ready_pre l m m undef hml hw lp hs f hu i hi
  obtain ⟨hun, o, ho, hall⟩ := mem_ready.1 hi
  obtain ⟨o', q1, q2, q3, q4, -⟩ := h.same i him o (by simpa using ho)
  refine ⟨him, mem_ready.2 ⟨by rw [get_app_lt lp _ i (by omega)] at hun; exact hun, o', by simpa using q1, fun e he hb => ?_⟩⟩
  rw [q3] at he
  have := hall e he hb
  rwa [get_app_false] at this
theorem getD_no {lp : Array Bool} {k : Nat} (h1 : lp.getD k true = false) (h2 : lp.getD k false = true) : False := by
  rw [Array.getD_eq_getD_getElem?] at h1 h2
  cases z : lp[k]? with
  | none => rw [z] at h1; simp at h1
  | some b => rw [z] at h1 h2; simp at h1 h2; rw [h2] at h1; cases h1
theorem gdone {l : List Oper} {m j : Nat} (ok : QpOk l m j) {b : List Oper} {E : Nat → Bool} (sim : Sim b l m E) {C : World → Prop} {A : Act} {Q : Exit → Act → World → Prop}
    (hpost : ∀ w, C w → wpList P l.toArray Q (l.drop m) A w) : ∀ (fuel : Nat) (lp : Array Bool) (a : Act) (w : World), lp.size = m → unl lp = fuel → (∀ i, E i = true → lp.getD i false = true) → C w →
      wpAnyQ P .any b.toArray C (fun a' => a' = A) fuel lp a → wpAny P .any l.toArray Q (fuel + (l.length - m)) (lp ++ Array.replicate (l.length - m) false) a w := by
  intro fuel
  induction fuel with
  | zero =>
    intro lp a w hs hu hj hC h
    rw [h.2, unl_zero lp hu, hs, Nat.zero_add, show l.length - m = (l.drop m).length by simp]
    refine any_seq (l.drop m) m _ A w (fun i => by simp) ?_ (hpost w hC)
    have := ok.seq
    rwa [show l.length - m = (l.drop m).length by simp] at this
  | succ fuel ih =>
    intro lp a w hs hu hj hC h
    rw [show fuel + 1 + (l.length - m) = (fuel + (l.length - m)) + 1 by omega]
    refine ⟨fun e => ?_, fun i hi => ?_⟩
    · obtain ⟨k, hk, hf⟩ := unl_some lp fuel hu
      exact absurd e (some_ready ok lp hs k (by omega) hf)
    · obtain ⟨him, hir⟩ := sim.ready ok.ml ok.wait lp hs fuel hu i hi
      obtain ⟨hun, _⟩ := mem_ready.1 hir
      have hE : E i = false := by
        cases q : E i
        · rfl
        · exact (getD_no hun (hj i q)).elim
      obtain ⟨_, o, ho, _⟩ := mem_ready.1 hi
      have ho' : l[i]? = some o := by simpa using ho
      obtain ⟨o2, q1, -, -, -, q5⟩ := sim.same i him o ho'
      obtain rfl := q5 hE
      obtain ⟨v, hy, hK⟩ := yieldsIn_of_qOp (by simpa using q1) (h.2 i hir)
      refine wp_of_yields ho (sim.wanted ok.ml a o2 (ok.guards i o2 ho')) hy hC (fun w' hw' => ?_)
      rw [set_app lp _ i (by omega)]
      exact ih _ _ w' (by simp [hs]) (by have := unl_set lp i hun; omega) (fun k hk => getD_set_true (hj k hk)) hw' hK
theorem gpend {l : List Oper} {m j : Nat} {oj : Oper} (ok : AlOk l m j oj) {b : Nat → List Oper} {E : Nat → Bool} (sim : ∀ N, Sim (b N) l m E) {D : World → Prop} {C1 : Nat → World → Prop} {Cs : Nat → (World → Prop) → Prop} {A : Nat → Act} {val : Nat → Value} {rd : List Nat} {Q : Exit → Act → World → Prop} (Inv : Array Bool → Prop) (hInv : ∀ lp i, Inv lp → (E i = false ∨ i = j) → Inv (lp.setIfInBounds i true))
    (hE : E j = true) (hA : ∀ (i : Nat) o s N, l[i]? = some o → i < m → E i = false → o.dst = some s → (A N).tmps[s]? = (A 0).tmps[s]?) (hAj : ∀ s N, oj.dst = some s → s < (A N).tmps.size → (A N).tmps[s]? = some (val N))
    (hrd : ∀ s ∈ rd, ∀ (k : Nat) o, l[k]? = some o → k < m → o.dst = some s → ∃ e ∈ oj.after, Region.binds .any e = true ∧ e.on = k)
    (hal : ∀ w (a : Act), D w → (∀ s ∈ rd, a.tmps[s]? = (A 0).tmps[s]?) → ∀ (K : Act → World → Prop) Q', (∀ N w', C1 N w' → K (a.put oj.dst (val N)) w') → oj.wp P a w K Q')
    (hgo : ∀ N fuel lp a w, lp.size = m → unl lp = fuel → lp.getD j false = true → Inv lp → (A N).tmps.size = a.tmps.size → C1 N w →
      (∀ X, Cs N X → wpAnyQ P .any (b N).toArray X (fun a' => a' = A N) fuel lp a) → wpAny P .any l.toArray Q (fuel + (l.length - m)) (lp ++ Array.replicate (l.length - m) false) a w) :
    ∀ (fuel : Nat) (lp : Array Bool) (a : Act) (w : World), lp.size = m → unl lp = fuel → lp.getD j true = false → Inv lp → (∀ i, E i = true → i ≠ j → lp.getD i false = true ∨ ∃ o, l[i]? = some o ∧ ∃ e ∈ o.after, Region.binds .any e = true ∧ e.on = j) → D w →
      (∀ N X, Cs N X → wpAnyQ P .any (b N).toArray X (fun a' => a' = A N) fuel lp a) → (∀ N, wpAnyQ P .any (b N).toArray D (fun a' => a' = A N) fuel lp a) →
      (∀ N, (A N).tmps.size = a.tmps.size) → wpAny P .any l.toArray Q (fuel + (l.length - m)) (lp ++ Array.replicate (l.length - m) false) a w := by
  intro fuel
  induction fuel with
  | zero =>
    intro lp a w hs hu hj
    exfalso
    have e := unl_zero lp hu
    rw [e, Array.getD_eq_getD_getElem?] at hj
    have := ok.jm
    simp [show j < lp.size by omega] at hj
  | succ fuel ih =>
    intro lp a w hs hu hj hI hoth hD h1 h0 hsz
    rw [show fuel + 1 + (l.length - m) = (fuel + (l.length - m)) + 1 by omega]
    refine ⟨fun e => absurd e (some_ready ok.toQpOk lp hs j ok.jm hj), fun i hi => ?_⟩
    obtain ⟨him, -⟩ := (sim 0).ready ok.ml ok.wait lp hs fuel hu i hi
    have hir := fun N => ((sim N).ready ok.ml ok.wait lp hs fuel hu i hi).2
    obtain ⟨hun, _⟩ := mem_ready.1 (hir 0)
    obtain ⟨_, o, ho, hall⟩ := mem_ready.1 hi
    have ho' : l[i]? = some o := by simpa using ho
    -- a slot that is written now is not written any more
    have later : ∀ N s, o.dst = some s → ∀ k ok', (b N).toArray[k]? = some ok' → (lp.setIfInBounds i true).getD k true = false → ok'.dst ≠ some s := by
      intro N s hs' k ok' hk hl e
      obtain ⟨hkm, o2, q1, q2, -, -⟩ := (sim N).get ok.ml k ok' (by simpa using hk)
      have := ok.dst k i o2 o s q1 ho' hkm him (by rw [← q2]; exact e) hs'
      subst this
      rw [Array.getD_eq_getD_getElem?] at hl
      simp [show k < lp.size by omega] at hl
    by_cases hij : i = j
    · subst hij
      obtain rfl : o = oj := by rw [ok.here] at ho'; exact (Option.some.inj ho').symm
      unfold wpOp
      simp only [ho]
      rw [if_pos (by unfold Region.wanted; rw [ok.guard])]
      refine .inl ?_
      refine hal w a hD ?_ _ _ ?_
      · intro s hsr
        refine (q_fin _ _ _ (h0 0) s ?_).symm
        intro k ok' hk hl e
        obtain ⟨hkm, o2, q1, q2, -, -⟩ := (sim 0).get ok.ml k ok' (by simpa using hk)
        obtain ⟨e', he', hb', hon⟩ := hrd s hsr k o2 q1 hkm (by rw [← q2]; exact e)
        have h3 := hall e' he' hb'
        rw [hon, get_app_false] at h3
        exact getD_no hl h3
      · intro N w' hC
        rw [set_app lp _ i (by omega)]
        refine hgo N fuel _ _ w' (by simp [hs]) (by have := unl_set lp i hun; omega) (by
          rw [Array.getD_eq_getD_getElem?]
          simp [show i < lp.size by omega]) (hInv lp i hI (.inr rfl)) (by rw [hsz N, put_size]) hC ?_
        intro X hX
        obtain ⟨o2, q1, q2, -, -, -⟩ := (sim N).same i him o ho'
        obtain ⟨v, hy, hK⟩ := yieldsIn_of_qOp (by simpa using q1) ((h1 N X hX).2 i (hir N))
        rw [q2] at hK
        have e : a.put o.dst v = a.put o.dst (val N) := put_same fun s hs' => by
          have f := q_fin _ _ _ hK s (later N s hs')
          rw [← f]
          by_cases c : s < a.tmps.size
          · rw [hAj s N hs' (by rw [hsz N]; exact c), hs']
            simp [Act.put, Array.getElem?_setIfInBounds, c]
          · have c' : a.tmps.size ≤ s := Nat.le_of_not_lt c
            rw [Array.getElem?_eq_none (by rw [hsz N]; exact c'), Array.getElem?_eq_none (by rw [put_size]; exact c')]
        rwa [e] at hK
    · have hEi : E i = false := by
        cases q : E i
        · rfl
        · rcases hoth i q hij with z | ⟨o2, z1, e, z2, z3, z4⟩
          · exact (getD_no hun z).elim
          · rw [ho'] at z1
            have := Option.some.inj z1
            subst this
            have h3 := hall e z2 z3
            rw [z4, get_app_false] at h3
            exact (getD_no hj h3).elim
      have hor : ∀ N, (b N).toArray[i]? = some o := fun N => by
        obtain ⟨o2, q1, -, -, -, q5⟩ := (sim N).same i him o ho'
        obtain rfl := q5 hEi
        simpa using q1
      obtain ⟨v0, hy0, hK0⟩ := yieldsIn_of_qOp (hor 0) ((h0 0).2 i (hir 0))
      have f0 : ∀ s, o.dst = some s → (A 0).tmps[s]? = (a.put o.dst v0).tmps[s]? := fun s hs' => q_fin _ _ _ hK0 s (later 0 s hs')
      have all0 : ∀ N, wpAnyQ P .any (b N).toArray D (fun a' => a' = A N) fuel (lp.setIfInBounds i true) (a.put o.dst v0) := by
        intro N
        obtain ⟨v, _, hK⟩ := yieldsIn_of_qOp (hor N) ((h0 N).2 i (hir N))
        have e : a.put o.dst v = a.put o.dst v0 := put_same fun s hs' => by
          rw [← f0 s hs', ← q_fin _ _ _ hK s (later N s hs')]
          exact hA i o s N ho' him hEi hs'
        rwa [e] at hK
      have all1 : ∀ N X, Cs N X → wpAnyQ P .any (b N).toArray X (fun a' => a' = A N) fuel (lp.setIfInBounds i true) (a.put o.dst v0) := by
        intro N X hX
        obtain ⟨v, _, hK⟩ := yieldsIn_of_qOp (hor N) ((h1 N X hX).2 i (hir N))
        have e : a.put o.dst v = a.put o.dst v0 := put_same fun s hs' => by
          rw [← f0 s hs', ← q_fin _ _ _ hK s (later N s hs')]
          exact hA i o s N ho' him hEi hs'
        rwa [e] at hK
      refine wp_of_yields ho ((sim 0).wanted ok.ml a o (ok.guards i o ho')) hy0 hD (fun w' hw' => ?_)
      rw [set_app lp _ i (by omega)]
      exact ih _ _ w' (by simp [hs]) (by have := unl_set lp i hun; omega) (by rw [getD_set_ne true hij]; exact hj) (hInv lp i hI (.inl hEi)) (fun k hk hne => (hoth k hk hne).imp (fun q => getD_set_true q) id) hw' all1 all0 (fun N => by rw [hsz N, put_size])
theorem putAll_size : ∀ (ds : List (Option Tmp)) (vs : List Value) (a : Act), (putAll a ds vs).tmps.size = a.tmps.size
  | [], _, a => by cases ‹List Value› <;> rfl
  | d :: ds, [], a => rfl
  | d :: ds, v :: vs, a => by
    show (putAll (a.put d v) ds vs).tmps.size = _
    rw [putAll_size ds vs, put_size]
theorem sim_two (l : List Oper) (m j j2 : Nat) (hml : m ≤ l.length) (u v : Value) : Sim (rep (rep (l.take m) j2 u) j v) l m (fun i => i == j || i == j2) := by
  refine ⟨by rw [rep_len, rep_len, List.length_take]; omega, fun i hi o ho => ?_⟩
  obtain ⟨o1, p1, p2, p3, p4⟩ := rep_of (l.take m) j2 u i o (by rw [List.getElem?_take, if_pos hi]; exact ho)
  obtain ⟨o2, q1, q2, q3, q4⟩ := rep_of (rep (l.take m) j2 u) j v i o1 p1
  refine ⟨o2, q1, by rw [q2, p2], by rw [q3, p3], by rw [q4, p4], fun hE => ?_⟩
  simp only [Bool.or_eq_false_iff, beq_eq_false_iff_ne] at hE
  rw [rep_ne _ _ _ _ hE.1, rep_ne _ _ _ _ hE.2, List.getElem?_take, if_pos hi, ho] at q1
  exact (Option.some.inj q1).symm
theorem two_region {id : Nat} {l : List Oper} (m j k : Nat) {oj ok' : Oper} (ok : AlOk l m j oj) (ok2 : AlOk l m k ok') (hjk : j ≠ k) (hwt : ok'.after.any (fun e => Region.binds .any e && e.on == j) = true) (hd2 : ok'.dst = none)
    {D : World → Prop} {C1 C2 : Nat → World → Prop} {obj : Obj} {Q : Exit → Act → World → Prop} {a : Act} {w : World} (ds : List (Option Tmp)) (vals : Nat → List Value) (d : Nat) (rd : List Nat) (hm : P.follows .mixedOrders = true)
    (hlex : ∀ N, Region.lexB .any (rep (rep (l.take m) k undef) j (.pointer (some ⟨N, 0, none⟩))).toArray = true)
    (hd : oj.dst = some d) (hA : ∀ N, (putAll a ds (vals N)).tmps.toList.eraseIdx d = (putAll a ds (vals 0)).tmps.toList.eraseIdx d) (hAd : ∀ N, (putAll a ds (vals N)).tmps[d]? = some (.pointer (some ⟨N, 0, none⟩)))
    (hrd : readB l m ok' rd = true)
    (hal : ∀ w (a : Act), D w → (execOp a.eval oj).run P w = .ok (.value (.pointer (some ⟨w.heap.size, 0, none⟩))) (w.alloc obj)) (hC1 : ∀ w, D w → C1 w.heap.size (w.alloc obj))
    (hst : ∀ N w (a' : Act), C1 N w → (∀ s ∈ rd, a'.tmps[s]? = (putAll a ds (vals N)).tmps[s]?) → ∀ (K : Act → World → Prop) Q', (∀ w', C2 N w' → K a' w') → ok'.wp P a' w K Q')
    (hD : D w.drew)
    (hwalk : ∀ N (X : World → Prop), (X = D ∨ X = C1 N ∨ X = C2 N) → wpQuiet P (rep (rep (l.take m) k undef) j (.pointer (some ⟨N, 0, none⟩))).toArray X (fun a' => a' = putAll a ds (vals N)) (rep (rep (l.take m) k undef) j (.pointer (some ⟨N, 0, none⟩))) a)
    (hpost : ∀ N w, C2 N w → wpList P l.toArray Q (l.drop m) (putAll a ds (vals N)) w) : (Code.region id l.toArray true).wp P Q a w := by
  refine wp_region_any hm ?_
  have hml := ok.ml
  have any : ∀ N X, (X = D ∨ X = C1 N ∨ X = C2 N) → wpAnyQ P .any (rep (rep (l.take m) k undef) j (.pointer (some ⟨N, 0, none⟩))).toArray X (fun a' => a' = putAll a ds (vals N)) m (Array.replicate m false) a := by
    intro N X hX
    have hB := hlex N
    simp only [Region.lexB, Bool.and_eq_true] at hB
    have hlen : (rep (rep (l.take m) k undef) j (.pointer (some ⟨N, 0, none⟩))).length = m := by rw [rep_len, rep_len, List.length_take]; omega
    have := wpAnyQ_lex (C := X) (md := .any) hB.1 (rep (rep (l.take m) k undef) j (.pointer (some ⟨N, 0, none⟩))) 0 (Array.replicate m false) a (by simp) (by have := hB.2; simpa [hlen] using this) (hwalk N X hX)
    rwa [hlen] at this
  have hu : unl (Array.replicate m false) = m := by unfold unl; simp
  have hE : ∀ (i : Nat) o s N, l[i]? = some o → i < m → (i == j || i == k) = false → o.dst = some s → (putAll a ds (vals N)).tmps[s]? = (putAll a ds (vals 0)).tmps[s]? := fun i o s N ho hi he hs => by
    simp only [Bool.or_eq_false_iff, beq_eq_false_iff_ne] at he
    exact alA ok d hd hA i o s N ho hi he.1 hs
  obtain ⟨ew, hew1, hew2⟩ := Array.any_eq_true'.mp hwt
  simp only [Bool.and_eq_true, beq_iff_eq] at hew2
  have main := gpend (P := P) (Q := Q) ok (b := fun N => rep (rep (l.take m) k undef) j (.pointer (some ⟨N, 0, none⟩))) (E := fun i => i == j || i == k) (fun N => sim_two l m j k hml _ _) (D := D) (C1 := C1) (Cs := fun N X => X = C1 N ∨ X = C2 N) (A := fun N => putAll a ds (vals N)) (val := fun N => .pointer (some ⟨N, 0, none⟩)) (rd := [])
    (fun lp => lp.getD k true = false) (fun lp i h hi => by
      have : i ≠ k := by
        intro e
        rcases hi with q | q
        · simp [e] at q
        · exact hjk (by rw [← q, e])
      rw [getD_set_ne true this]; exact h)
    (by simp) hE (fun s N hs _ => by
      rw [hd] at hs
      cases hs
      exact hAd N) (fun s hs => by cases hs) (fun w a hw _ K Q' hK => by
        unfold Oper.wp
        rw [hal w a hw]
        simp only [Oper.upon]
        exact hK _ _ (hC1 w hw))
    (fun N fuel lp a1 w1 hs hu' hj hI hz hC hX =>
      gpend (P := P) (Q := Q) ok2 (b := fun _ => rep (rep (l.take m) k undef) j (.pointer (some ⟨N, 0, none⟩))) (E := fun i => i == j || i == k) (fun _ => sim_two l m j k hml _ _) (D := C1 N) (C1 := fun _ => C2 N) (Cs := fun _ X => X = C2 N) (A := fun _ => putAll a ds (vals N)) (val := fun _ => undef) (rd := rd)
        (fun lp => lp.getD j false = true) (fun lp i h _ => getD_set_true h) (by simp) (fun i o s N' _ _ _ _ => rfl) (fun s N' hs => by rw [hd2] at hs; cases hs) (read_of hrd)
        (fun w' a' hw hr K Q' hK => hst N w' a' hw hr K Q' (fun w2 h2 => by
          have := hK 0 w2 h2
          rw [hd2] at this
          exact this))
        (fun N' fuel lp a2 w2 hs hu hk hI hz hC hX => gdone ok.toQpOk (sim_two l m j k hml _ _) (fun w3 h3 => hpost N w3 h3) fuel lp a2 w2 hs hu (fun i hi => by
          simp only [Bool.or_eq_true, beq_iff_eq] at hi
          rcases hi with e | e
          · rw [e]; exact hI
          · rw [e]; exact hk) hC (hX _ rfl))
        fuel lp a1 w1 hs hu' hI hj (fun i hi hne => .inl (by
          have : i = j := by simpa [hne] using hi
          rw [this]; exact hj)) hC (fun _ X hX' => hX X (.inr hX')) (fun _ => hX _ (.inl rfl)) (fun _ => hz))
    m (Array.replicate m false) a w.drew (by simp) hu (by
      rw [Array.getD_eq_getD_getElem?]
      have := ok.jm
      simp [this]) (by
      rw [Array.getD_eq_getD_getElem?]
      have := ok2.jm
      simp [this]) (fun i hi hne => .inr ⟨ok', by
        have : i = k := by simpa [hne] using hi
        rw [this]; exact ok2.here, ew, hew1, hew2.1, hew2.2⟩) hD (fun N X hX => any N X (.inr hX)) (fun N => any N D (.inl rfl)) (fun N => putAll_size _ _ _)
  have e1 : m + (l.length - m) = l.toArray.size := by simp; omega
  have e2 : Array.replicate m false ++ Array.replicate (l.length - m) false = Array.replicate l.toArray.size false := by
    rw [Array.replicate_append_replicate]; congr 1
  rw [e1, e2] at main
  exact main
end
end Go.Proofs.Ytbgoclfifhdonaa
namespace Go.Proofs.Ytbgoclfifhdonaa
open Go.RowKit
set_option linter.unusedSimpArgs false
set_option linter.unusedVariables false

section
variable {P : Program}

theorem putAll_other : ∀ (ds : List (Option Tmp)) (vs : List Value) (a : Act) (s : Nat), (∀ d ∈ ds, d ≠ some s) → (putAll a ds vs).tmps[s]? = a.tmps[s]?
  | [], vs, a, s, _ => by cases vs <;> rfl
  | d :: ds, [], a, s, _ => rfl
  | d :: ds, v :: vs, a, s, h => by
    rw [putAll, putAll_other ds vs (a.put d v) s (fun x hx => h x (List.mem_cons_of_mem _ hx))]
    exact put_other a d v s (h d (by simp))
theorem putAll_defers : ∀ (ds : List (Option Tmp)) (vs : List Value) (a : Act), (putAll a ds vs).defers = a.defers
  | [], vs, a => by cases vs <;> rfl
  | d :: ds, [], a => rfl
  | d :: ds, v :: vs, a => by
    rw [putAll, putAll_defers ds vs (a.put d v)]
    unfold Act.put
    cases d <;> rfl
structure Slt (l : List Oper) (a A : Act) (lp : Array Bool) (a' : Act) : Prop where
  don : ∀ (k : Nat) (o : Oper) (s : Nat), l[k]? = some o → lp.getD k false = true → o.dst = some s → a'.tmps[s]? = A.tmps[s]?
  oth : ∀ s, (∀ (k : Nat) (o : Oper), l[k]? = some o → lp.getD k false = true → o.dst ≠ some s) → a'.tmps[s]? = a.tmps[s]?
  siz : a'.tmps.size = a.tmps.size
  dfr : a'.defers = a.defers
theorem getD_set {lp : Array Bool} {i k : Nat} (h : (lp.setIfInBounds i true).getD k false = true) : k = i ∨ lp.getD k false = true := by
  by_cases e : k = i
  · exact .inl e
  · right
    rw [Array.getD_eq_getD_getElem?] at h ⊢
    rwa [Array.getElem?_setIfInBounds_ne (by omega)] at h
theorem getD_set_same {lp : Array Bool} {i : Nat} (h : i < lp.size) : (lp.setIfInBounds i true).getD i false = true := by
  rw [Array.getD_eq_getD_getElem?, Array.getElem?_setIfInBounds_self_of_lt h]
  rfl
def valO (A : Act) (o : Oper) : Value := ((o.dst).bind fun s => A.tmps[s]?).getD undef
theorem gh_any {γ : Type} {l : List Oper} (ok : QpOk l l.length l.length) (hgd : ∀ o ∈ l, o.guard = none) (hdst : ∀ (i k : Nat) (oi ok : Oper) (s : Nat), l[i]? = some oi → l[k]? = some ok → oi.dst = some s → ok.dst = some s → i = k) {Q : Exit → Act → World → Prop} {a : Act} (A : γ → Act) (hsz : ∀ g, (A g).tmps.size = a.tmps.size) (hdf : ∀ g, (A g).defers = a.defers) (hA : ∀ g s, (∀ o ∈ l, o.dst ≠ some s) → (A g).tmps[s]? = a.tmps[s]?) (R : Array Bool → γ → World → Prop)
    (hstep : ∀ (i : Nat) (o : Oper) (lp : Array Bool) (g : γ) (w' : World) (a' : Act), l[i]? = some o → lp.size = l.length → lp.getD i false = false → (∀ e ∈ o.after, Region.binds .any e = true → lp.getD e.on false = true) → R lp g w' → Slt l a (A g) lp a' →
      ∀ (K : Act → World → Prop) Q', (∀ g' w'', (∀ (k : Nat) (o : Oper) (s : Nat), l[k]? = some o → lp.getD k false = true → o.dst = some s → (A g').tmps[s]? = (A g).tmps[s]?) → R (lp.setIfInBounds i true) g' w'' → ∀ v, valO (A g') o = v → K (a'.put o.dst v) w'') → o.wp P a' w' K Q')
    (hpost : ∀ g w', R (Array.replicate l.length true) g w' → Q .normal (A g) w') :
    ∀ (fuel : Nat) (lp : Array Bool) (g : γ) (a' : Act) (w : World), lp.size = l.length → unl lp = fuel → R lp g w → Slt l a (A g) lp a' → wpAny P .any l.toArray Q fuel lp a' w := by
  intro fuel
  have fin : ∀ (lp : Array Bool) (g : γ) (a' : Act) (w : World), lp.size = l.length → unl lp = 0 → R lp g w → Slt l a (A g) lp a' → Q .normal a' w := by
    intro lp g a' w hs hu hR hS
    have e : lp = Array.replicate l.length true := by have := unl_zero lp hu; rwa [hs] at this
    rw [e] at hR hS
    have : a' = A g := by
      have ht : a'.tmps = (A g).tmps := by
        apply Array.ext_getElem?
        intro s
        by_cases h : ∃ (k : Nat) (o : Oper), l[k]? = some o ∧ o.dst = some s
        · obtain ⟨k, o, h1, h2⟩ := h
          have hk : k < l.length := (List.getElem?_eq_some_iff.mp h1).1
          exact hS.don k o s h1 (by simp [Array.getElem?_replicate, hk]) h2
        · have h' : ∀ o ∈ l, o.dst ≠ some s := by
            intro o ho e
            obtain ⟨k, hk, rfl⟩ := List.mem_iff_getElem.mp ho
            exact h ⟨k, l[k], List.getElem?_eq_getElem hk, e⟩
          rw [hA g s h']
          exact hS.oth s (fun k o h1 _ e => h ⟨k, o, h1, e⟩)
      have hd : a'.defers = (A g).defers := by rw [hS.dfr, hdf]
      cases a'
      cases hAg : A g
      rw [hAg] at ht hd
      simp only at ht hd
      rw [ht, hd]
    rw [this]
    exact hpost g w hR
  induction fuel with
  | zero =>
    intro lp g a' w hs hu hR hS
    refine ⟨?_, fin lp g a' w hs hu hR hS⟩
    have e : lp = Array.replicate l.length true := by have := unl_zero lp hu; rwa [hs] at this
    apply List.eq_nil_iff_forall_not_mem.mpr
    intro i hi
    obtain ⟨hun, o, ho, _⟩ := mem_ready.1 hi
    have hk : i < l.length := by
      have := (Array.getElem?_eq_some_iff.mp ho).1
      simpa using this
    rw [e] at hun
    simp [Array.getElem?_replicate, hk] at hun
  | succ fuel ih =>
    intro lp g a' w hs hu hR hS
    refine ⟨fun e => ?_, fun i hi => ?_⟩
    · obtain ⟨k, hk, hf⟩ := unl_some lp fuel hu
      have hne := some_ready ok lp hs k (by omega) hf
      rw [Nat.sub_self] at hne
      exact absurd (by simpa using e) hne
    · obtain ⟨hun, o, ho, hrd⟩ := mem_ready.1 hi
      have ho' : l[i]? = some o := by simpa using ho
      have hil : i < l.length := (List.getElem?_eq_some_iff.mp ho').1
      have hun' : lp.getD i false = false := by
        rw [Array.getD_eq_getD_getElem?] at hun ⊢
        cases q : lp[i]? with
        | none => rfl
        | some b => rw [q] at hun; simpa using hun
      unfold wpOp
      simp only [ho]
      rw [if_pos (by simp [Region.wanted, hgd o (List.mem_of_getElem? ho')])]
      left
      refine hstep i o lp g w a' ho' hs hun' (fun e he hb => hrd e he hb) hR hS _ _ ?_
      intro g' w'' hsame hR' v hv
      subst hv
      refine ih _ g' _ w'' (by simp [hs]) (by have := unl_set lp i hun; omega) hR' ⟨?_, ?_, ?_, ?_⟩
      · intro k ok s hk hl hd
        rcases getD_set hl with rfl | hl'
        · have : ok = o := by rw [ho'] at hk; cases hk; rfl
          subst this
          unfold Act.put valO
          rw [hd]
          simp only [Option.bind_some]
          by_cases hlt : s < a'.tmps.size
          · rw [Array.getElem?_setIfInBounds_self_of_lt hlt]
            have h2 : s < (A g').tmps.size := by rw [hsz, ← hS.siz]; exact hlt
            rw [Array.getElem?_eq_getElem h2]
            rfl
          · rw [Array.getElem?_eq_none (by simp; omega), Array.getElem?_eq_none (by rw [hsz, ← hS.siz]; omega)]
        · rw [put_other a' o.dst _ s (fun e => by
            have := hdst k i ok o s hk ho' hd e
            subst this
            rw [hun'] at hl'
            cases hl'), hS.don k ok s hk hl' hd, hsame k ok s hk hl' hd]
      · intro s h
        have hne : o.dst ≠ some s := h i o ho' (getD_set_same (by omega))
        rw [put_other a' o.dst _ s hne]
        exact hS.oth s (fun k ok hk hl => h k ok hk (by
          by_cases e : k = i
          · subst e; exact getD_set_same (by omega)
          · rw [Array.getD_eq_getD_getElem?] at hl ⊢
            rwa [Array.getElem?_setIfInBounds_ne (by omega)]))
      · rw [put_size, hS.siz]
      · unfold Act.put
        cases o.dst <;> exact hS.dfr
def dstG (l : List Oper) : Bool := (List.range l.length).all fun i => (List.range l.length).all fun k => i == k || ((l[i]?).bind (·.dst)).isNone || ((l[i]?).bind (·.dst)) != ((l[k]?).bind (·.dst))
theorem dstG_of {l : List Oper} (h : dstG l = true) : ∀ (i k : Nat) (oi ok : Oper) (s : Nat), l[i]? = some oi → l[k]? = some ok → oi.dst = some s → ok.dst = some s → i = k := by
  intro i k oi ok s hi hk h1 h2
  have hil := (List.getElem?_eq_some_iff.mp hi).1
  have hkl := (List.getElem?_eq_some_iff.mp hk).1
  unfold dstG at h
  rw [List.all_eq_true] at h
  have := h i (List.mem_range.mpr hil)
  rw [List.all_eq_true] at this
  have := this k (List.mem_range.mpr hkl)
  rw [hi, hk] at this
  simp only [Option.bind_some, h1, h2] at this
  simpa using this
theorem gh_region {γ : Type} {id : Nat} {l : List Oper} (ok : QpOk l l.length l.length) (hgd : (l.all fun o => o.guard.isNone) = true) (hdst : dstG l = true) {Q : Exit → Act → World → Prop} {a : Act} {w : World} (ds : List (Option Tmp)) (vals : γ → List Value) (hm : P.follows .mixedOrders = true) (hds : ∀ d ∈ ds, ∃ o ∈ l, o.dst = d) (R : Array Bool → γ → World → Prop) (g0 : γ) (h0 : R (Array.replicate l.length false) g0 w.drew)
    (hstep : ∀ (i : Nat) (o : Oper) (lp : Array Bool) (g : γ) (w' : World) (a' : Act), l[i]? = some o → lp.size = l.length → lp.getD i false = false → (∀ e ∈ o.after, Region.binds .any e = true → lp.getD e.on false = true) → R lp g w' → Slt l a (putAll a ds (vals g)) lp a' →
      ∀ (K : Act → World → Prop) Q', (∀ g' w'', (∀ (k : Nat) (o : Oper) (s : Nat), l[k]? = some o → lp.getD k false = true → o.dst = some s → (putAll a ds (vals g')).tmps[s]? = (putAll a ds (vals g)).tmps[s]?) → R (lp.setIfInBounds i true) g' w'' → ∀ v, valO (putAll a ds (vals g')) o = v → K (a'.put o.dst v) w'') → o.wp P a' w' K Q')
    (hpost : ∀ g w', R (Array.replicate l.length true) g w' → Q .normal (putAll a ds (vals g)) w') : (Code.region id l.toArray true).wp P Q a w := by
  refine wp_region_any hm ?_
  have hu : unl (Array.replicate l.length false) = l.length := by unfold unl; simp
  have main := gh_any ok (fun o ho => by have := List.all_eq_true.mp hgd o ho; simpa using this) (dstG_of hdst) (A := fun g => putAll a ds (vals g)) (fun g => putAll_size _ _ _) (fun g => putAll_defers _ _ _) (fun g s h => putAll_other _ _ _ _ (fun d hd e => by obtain ⟨o, ho, hod⟩ := hds d hd; exact h o ho (by rw [hod, e]))) R hstep hpost l.length (Array.replicate l.length false) g0 a w.drew (by simp) hu h0 ⟨fun k o s hk hl => (by rw [Array.getD_eq_getD_getElem?, Array.getElem?_replicate] at hl; split at hl <;> simp at hl), fun s _ => rfl, rfl, rfl⟩
  have e1 : l.length = l.toArray.size := by simp
  rw [e1] at main
  simpa using main
end
end Go.Proofs.Ytbgoclfifhdonaa
namespace Go.Proofs.Ytbgoclfifhdonaa
open Go.RowKit Go.Shelf
set_option linter.unusedSimpArgs false
set_option linter.unusedVariables false

section
variable {P : Program}
end
end Go.Proofs.Ytbgoclfifhdonaa
namespace Go.Proofs.Ytbgoclfifhdonaa
open Go.RowKit Go.Shelf
set_option linter.unusedSimpArgs false
set_option linter.unusedVariables false
attribute [local go_sem] Oper.semAt_some

def KZ (Z : Nat → Prop) (W W' : World) : Prop := W.heap.size ≤ W'.heap.size ∧ ∀ (z : Nat) (o : Obj), W.heap[z]? = some o → Z z → W'.heap[z]? = some o
theorem KZ.trans {Z : Nat → Prop} {X Y V : World} (h : KZ Z X Y) (g : KZ Z Y V) : KZ Z X V := ⟨Nat.le_trans h.1 g.1, fun z o h1 h2 => g.2 z o (h.2 z o h1 h2) h2⟩
def fstW (o k : Nat) : BitVec 32 := BitVec.ofNat 32 (o * 16777216 + k)
theorem fst_uI (o k : Nat) (ho : o ≤ 4) (hk : k < 16777216) : uI (fstW o k) = ((o * 16777216 + k : Nat) : Int) := uI_of _ (by omega)
end Go.Proofs.Ytbgoclfifhdonaa
namespace Go.Proofs.Ytbgoclfifhdonaa
open Go.RowKit
set_option linter.unusedSimpArgs false
set_option linter.unusedVariables false

end Go.Proofs.Ytbgoclfifhdonaa
namespace Go.Proofs.Ytbgoclfifhdonaa
open Go.RowKit
set_option linter.unusedSimpArgs false
set_option linter.unusedVariables false

end Go.Proofs.Ytbgoclfifhdonaa
namespace Go.Proofs.Ytbgoclfifhdonaa
open Go.RowKit Go.Shelf
set_option linter.unusedSimpArgs false
set_option linter.unusedVariables false

theorem gh_quiet14 {P : Program} {o : Oper} {a' : Act} {w' : World} {K : Act → World → Prop} {Q' : Exit → Act → World → Prop} {v : Value} (hr : (execOp a'.eval o).run P w' = .ok (.value v) w') (hK : K (a'.put o.dst v) w') : o.wp P a' w' K Q' := by
  unfold Oper.wp Oper.upon
  rw [hr]
  exact hK
theorem gh_same14 {x y : Array Value} {d s : Nat} (h : x.toList.eraseIdx d = y.toList.eraseIdx d) (hs : s ≠ d) : x[s]? = y[s]? := by
  have := erase_get _ _ d s h hs
  simpa using this
theorem Slt.old14 {l : List Oper} {a A : Act} {lp : Array Bool} {a' : Act} (h : Slt l a A lp a') (s : Nat) (hs : ∀ o ∈ l, o.dst ≠ some s) : a'.tmps[s]? = a.tmps[s]? := h.oth s (fun k o hk _ => hs o (List.mem_of_getElem? hk))
structure EnW (w : World) (N G B : Nat) (W : World) (vc vb : Value) (R : List Nat) : Prop where
  b : Below w.heap.size w W
  c : W.cell? ⟨B, 0, none⟩ = some vc
  f : W.frozen? ⟨B, 0, none⟩ = false
  o : W.ownsRow w.heap.size 5 1 vb R.length (R.map cB)
  n : ∀ z, vb.ownBlock = some z → z = G ∨ N ≤ z
  s : N ≤ W.heap.size
section
variable {w W W' : World} {N G B : Nat} {vc vb vb' : Value} {R : List Nat}
theorem EnW.below (h : EnW w N G B W vc vb R) (hb : Below W.heap.size W W') : EnW w N G B W' vc vb R :=
  ⟨keepb hb h.b, keepc hb h.c, keepf hb h.c h.f, own_b13 hb h.o, h.n, Nat.le_trans h.s hb.size⟩
theorem own_cells14 {W : World} {base e size n : Nat} {v : Value} {xs : List Value} (h : W.ownsRow base e size v n xs) {z : Nat} (hz : v.ownBlock = some z) : ∃ cs T fr, W.heap[z]? = some (.cells cs T fr) := by
  rcases h.2 with ⟨rfl, -⟩ | ⟨g, cap, cur, rfl, h1, h2, -⟩
  · cases hz
  · simp only [Value.ownBlock, Option.some.injEq] at hz
    subst hz
    exact ⟨_, _, _, h2⟩
theorem EnW.kept (h : EnW w N G B W vc vb R) {row : Option Nat} (hg : W.grownBy W' row) (hN : w.heap.size ≤ N) (hr : ∀ r, row = some r → N ≤ r ∧ ∃ o : Obj, W.heap[r]? = some o ∧ o.isCells = false) : EnW w N G B W' vc vb R := by
  have hr' : ∀ r, row = some r → ∃ o : Obj, W.heap[r]? = some o ∧ o.isCells = false := fun r e => (hr r e).2
  have hB : row ≠ some B := by
    intro e
    obtain ⟨o, h1, h2⟩ := hr' B e
    have := h.c
    rw [World.cell?, h1] at this
    cases o with
    | cells cs T fr => cases h2
    | _ => simp at this
  have eB : W'.heap[B]? = W.heap[B]? := hg.block B (cell_in h.c) (fun e => hB e.symm)
  refine ⟨h.b.grown hg (Nat.le_trans hN h.s) (fun k e => by have := (hr k e).1; omega), (World.cell?_of_block (a := ⟨B, 0, none⟩) eB).trans h.c, (World.frozen?_of_block (a := ⟨B, 0, none⟩) eB).trans h.f, h.o.kept hg ?_, h.n, Nat.le_trans h.s hg.size⟩
  cases hv : vb.ownBlock with
  | none => exact .inl rfl
  | some z =>
    refine .inr fun e => ?_
    obtain ⟨o, h1, h2⟩ := hr' z e.symm
    obtain ⟨cs, T, fr, h3⟩ := own_cells14 h.o hv
    rw [h3] at h1
    cases h1
    cases h2
theorem EnW.set (h : EnW w N G B W vc vb R) (hBG : B ≠ G) (hBN : B < N) (hwB : w.heap.size ≤ B) : EnW w N G B (W.setCell ⟨B, 0, none⟩ vb) vb vb R := by
  have hne : vb.ownBlock ≠ some B := by
    intro e
    rcases h.n B e with h1 | h1
    · exact hBG h1
    · omega
  have hc := h.c
  have hf := h.f
  refine ⟨h.b.setCell (p := ⟨B, 0, none⟩) hwB _, by simp [go_sem, hc], by simp [go_sem, hf], ?_, h.n, by simp [World.setCell]; exact h.s⟩
  refine ⟨h.o.1, ?_⟩
  rcases h.o.2 with h1 | ⟨g, cap, cur, e, h1, h2, h3⟩
  · exact .inl h1
  · refine .inr ⟨g, cap, cur, e, h1, ?_, h3⟩
    have hgB : ¬ g = B := by
      rintro rfl
      exact hne (by rw [e]; rfl)
    exact (Below.heap_setCell W ⟨B, 0, none⟩ vb g hgB).trans h2
end
theorem KZ.refl (Z : Nat → Prop) (W : World) : KZ Z W W := ⟨Nat.le_refl _, fun _ _ h _ => h⟩
end Go.Proofs.Ytbgoclfifhdonaa
namespace Go.Proofs.Ytbgoclfifhdonaa
open Go.RowKit Go.Shelf
set_option linter.unusedSimpArgs false
set_option linter.unusedVariables false

theorem at_16 {W : World} {z : Nat} {cs : Array Value} {T : TypeId} (hz : W.heap[z]? = some (.cells cs T)) (j : Nat) (u : Value) (hj : cs[j]? = some u) : W.cell? ⟨z, j, none⟩ = some u := by
  simp [World.cell?, hz, hj]
theorem fr_16 {W : World} {z j : Nat} {cs : Array Value} {T : TypeId} (h : W.heap[z]? = some (.cells cs T)) : W.frozen? ⟨z, j, none⟩ = false := by simp [World.frozen?, h]
theorem set_16 {W : World} {P o : Nat} {cs : Array Value} {T : TypeId} (h : W.heap[P]? = some (.cells cs T)) (v : Value) : (W.setCell ⟨P, o, none⟩ v).heap[P]? = some (.cells (cs.setIfInBounds o v) T) := by
  simp [World.setCell, Array.getElem?_modify, h]
theorem lt_16 {w : World} {z : Nat} {o : Obj} (hz : w.heap[z]? = some o) : z < w.heap.size := (Array.getElem?_eq_some_iff.1 hz).1
theorem far_16 {W : World} {z P o : Nat} {v : Value} (h : z ≠ P) : (W.setCell ⟨P, o, none⟩ v).heap[z]? = W.heap[z]? := Below.heap_setCell W ⟨P, o, none⟩ v z h
theorem new_16 (W : World) (o : Obj) : (W.alloc o).heap[W.heap.size]? = some o := World.alloc_heap_new W o
theorem old_16 {W : World} (o : Obj) {z : Nat} {x : Obj} (h : W.heap[z]? = some x) : (W.alloc o).heap[z]? = some x := (Below.heap_alloc W o z (lt_16 h)).trans h
def KX (X : Nat → Prop) (V U : World) : Prop := V.heap.size ≤ U.heap.size ∧ ∀ z, z < V.heap.size → ¬ X z → U.heap[z]? = V.heap[z]?
theorem KX.refl (X : Nat → Prop) (V : World) : KX X V V := ⟨Nat.le_refl _, fun _ _ _ => rfl⟩
theorem KX.trans {X : Nat → Prop} {A B C : World} (h : KX X A B) (g : KX X B C) : KX X A C := ⟨Nat.le_trans h.1 g.1, fun z h1 h2 => (g.2 z (Nat.lt_of_lt_of_le h1 h.1) h2).trans (h.2 z h1 h2)⟩
theorem KX.below {X : Nat → Prop} {V U U' : World} (h : KX X V U) (hb : Below U.heap.size U U') : KX X V U' := ⟨Nat.le_trans h.1 hb.size, fun z h1 h2 => (hb.block z (Nat.lt_of_lt_of_le h1 h.1)).trans (h.2 z h1 h2)⟩
theorem KX.set {X : Nat → Prop} {V U : World} (h : KX X V U) (b o : Nat) (u : Value) (hb : X b ∨ V.heap.size ≤ b) : KX X V (U.setCell ⟨b, o, none⟩ u) := ⟨by simpa using h.1, fun z h1 h2 => (far_16 (by rintro rfl; rcases hb with q | q; exact h2 q; omega)).trans (h.2 z h1 h2)⟩
theorem KX.own {β : Type} {X : Nat → Prop} {B : Nat} {V : World} (hV : V.heap.size ≤ B) : OwnFrom B (fun (_ : β) U => KX X V U) := fun s A A' row hs hg hr => ⟨Nat.le_trans hs.1 hg.size, fun z h1 h2 => (hg.block z (Nat.lt_of_lt_of_le h1 hs.1) (fun e => by have := (hr z e.symm).1; omega)).trans (hs.2 z h1 h2)⟩
theorem own_base16 {w : World} {base base' e size n : Nat} {v : Value} {xs : List Value} (h : w.ownsRow base e size v n xs) (hb : base' ≤ base) : w.ownsRow base' e size v n xs := by
  refine ⟨h.1, ?_⟩
  rcases h.2 with hn | ⟨g, cap, cur, hv, h1, h2⟩
  · exact .inl hn
  · exact .inr ⟨g, cap, cur, hv, by omega, h2⟩
end Go.Proofs.Ytbgoclfifhdonaa
namespace Go.Proofs.Ytbgoclfifhdonaa
open Go.RowKit
set_option linter.unusedSimpArgs false
set_option linter.unusedVariables false

def bsN : Nat → Nat → Nat
  | 0, _ => 0
  | k + 1, x => x % 2 + bsN k (x / 2)
theorem bsN_pop : ∀ k x, Lib.popAux k x = bsN k x
  | 0, _ => rfl
  | k + 1, x => by simp only [Lib.popAux, bsN]; rw [bsN_pop k]
theorem bsN_zero : ∀ k, bsN k 0 = 0
  | 0 => rfl
  | k + 1 => by simp only [bsN, Nat.zero_mod, Nat.zero_div]; rw [bsN_zero k]
theorem bsN_add : ∀ m k x, bsN (m + k) x = bsN m x + bsN k (x / 2 ^ m)
  | 0, k, x => by simp [bsN]
  | m + 1, k, x => by
    rw [Nat.succ_add]
    simp only [bsN]
    rw [bsN_add m k (x / 2), Nat.div_div_eq_div_mul, Nat.pow_succ, Nat.mul_comm 2]
    omega
theorem bsN_mod : ∀ k x, bsN k (x % 2 ^ k) = bsN k x
  | 0, x => rfl
  | k + 1, x => by
    simp only [bsN]
    have h1 : x % 2 ^ (k + 1) % 2 = x % 2 := by rw [Nat.pow_succ, Nat.mod_mul_left_mod]
    have h2 : x % 2 ^ (k + 1) / 2 = x / 2 % 2 ^ k := by rw [Nat.pow_succ, Nat.mul_comm, Nat.mod_mul_right_div_self]
    rw [h1, h2, bsN_mod k]
theorem bsN_le : ∀ k x, bsN k x ≤ k
  | 0, _ => Nat.le_refl _
  | k + 1, x => by have := bsN_le k (x / 2); simp only [bsN]; omega
theorem bsN_small (m k x : Nat) (h : x < 2 ^ m) : bsN (m + k) x = bsN m x := by
  rw [bsN_add, Nat.div_eq_of_lt h, bsN_zero]; omega
theorem ones8 (b : Nat) (h : b < 256) : Lib.onesCount b = bsN 8 b := by
  unfold Lib.onesCount
  rw [bsN_pop]
  exact bsN_small 8 56 b h
theorem bs32 (x : Nat) (h : x < 4294967296) : bsN 32 x = bsN 8 (x / 16777216) + bsN 8 (x / 65536 % 256) + bsN 8 (x / 256 % 256) + bsN 8 (x % 256) := by
  have e1 := bsN_add 8 24 x
  have e2 := bsN_add 8 16 (x / 2 ^ 8)
  have e3 := bsN_add 8 8 (x / 2 ^ 8 / 2 ^ 8)
  have m1 := bsN_mod 8 x
  have m2 := bsN_mod 8 (x / 2 ^ 8)
  have m3 := bsN_mod 8 (x / 2 ^ 8 / 2 ^ 8)
  have p : (2 : Nat) ^ 8 = 256 := by decide
  rw [p] at e1 e2 e3 m1 m2 m3
  have d1 : x / 256 / 256 = x / 65536 := by omega
  have d2 : x / 65536 / 256 = x / 16777216 := by omega
  rw [d1] at e2 e3 m3
  rw [d2] at e3
  show bsN (8 + 24) x = _
  rw [e1]
  show _ + bsN (8 + 16) _ = _
  rw [e2]
  show _ + (_ + bsN (8 + 8) _) = _
  rw [e3]
  omega
def on32 (x : BitVec 32) : Nat := bsN 32 x.toNat
def fr32 (x : BitVec 32) (k : Nat) : Nat := bsN k (x.toNat / 2 ^ (32 - k))
def bt (x : BitVec 32) (p : Nat) : Bool := x.getLsbD (31 - p)
theorem fr_zero (x : BitVec 32) : fr32 x 0 = 0 := rfl
theorem fr_all (x : BitVec 32) : fr32 x 32 = on32 x := by unfold fr32 on32; simp
theorem bit_val (x : BitVec 32) (i : Nat) : x.toNat / 2 ^ i % 2 = (x.getLsbD i).toNat := by
  have : x.getLsbD i = decide (x.toNat / 2 ^ i % 2 = 1) := by
    unfold BitVec.getLsbD; rw [Nat.testBit_eq_decide_div_mod_eq]
  rw [this]
  by_cases c : x.toNat / 2 ^ i % 2 = 1
  · simp [c]
  · simp [c]; omega
theorem fr_succ (x : BitVec 32) (k : Nat) (h : k < 32) : fr32 x (k + 1) = fr32 x k + (bt x k).toNat := by
  unfold fr32 bt
  rw [show 32 - (k + 1) = 31 - k by omega]
  simp only [bsN]
  rw [bit_val, Nat.div_div_eq_div_mul, ← Nat.pow_succ, show (31 - k).succ = 32 - k by omega]
  omega
theorem on_shr (x : BitVec 32) (r : Nat) (h : r < 32) : on32 (x >>> (31 - r)) = fr32 x (r + 1) := by
  unfold on32 fr32
  rw [BitVec.toNat_ushiftRight, Nat.shiftRight_eq_div_pow, show 32 - (r + 1) = 31 - r by omega]
  have hlt : x.toNat / 2 ^ (31 - r) < 2 ^ (r + 1) := by
    rw [Nat.div_lt_iff_lt_mul (Nat.two_pow_pos _), ← Nat.pow_add, show r + 1 + (31 - r) = 32 by omega]
    exact x.isLt
  have := bsN_small (r + 1) (31 - r) _ hlt
  rw [show r + 1 + (31 - r) = 32 by omega] at this
  exact this
def plc (U : List (BitVec 32)) (p : Nat) : Bool := bt (U.getD (p / 32) 0#32) (p % 32)
def cnt (U : List (BitVec 32)) : Nat → Nat
  | 0 => 0
  | k + 1 => cnt U k + (plc U k).toNat
def sumW (U : List (BitVec 32)) : Nat → Nat
  | 0 => 0
  | a + 1 => sumW U a + on32 (U.getD a 0#32)
theorem cnt_word (U : List (BitVec 32)) (a : Nat) : ∀ r, r ≤ 32 → cnt U (32 * a + r) = cnt U (32 * a) + fr32 (U.getD a 0#32) r
  | 0, _ => by simp [fr_zero]
  | r + 1, h => by
    rw [← Nat.add_assoc]
    simp only [cnt]
    rw [cnt_word U a r (by omega), fr_succ _ r (by omega)]
    unfold plc
    rw [show (32 * a + r) / 32 = a by omega, show (32 * a + r) % 32 = r by omega]
    omega
theorem cnt_words (U : List (BitVec 32)) : ∀ a, cnt U (32 * a) = sumW U a
  | 0 => rfl
  | a + 1 => by
    rw [show 32 * (a + 1) = 32 * a + 32 by omega, cnt_word U a 32 (Nat.le_refl _), cnt_words U a, fr_all]
    rfl
theorem cnt_at (U : List (BitVec 32)) (a r : Nat) (h : r ≤ 32) : cnt U (32 * a + r) = sumW U a + fr32 (U.getD a 0#32) r := by
  rw [cnt_word U a r h, cnt_words]
theorem cnt_mono (U : List (BitVec 32)) : ∀ p q, p ≤ q → cnt U p ≤ cnt U q := by
  intro p q h
  induction q with
  | zero => have : p = 0 := by omega
            subst this; exact Nat.le_refl _
  | succ q ih =>
    by_cases c : p = q + 1
    · subst c; exact Nat.le_refl _
    · have := ih (by omega); simp only [cnt]; omega
theorem cnt_le (U : List (BitVec 32)) : ∀ k, cnt U k ≤ k
  | 0 => Nat.le_refl _
  | k + 1 => by
    have := cnt_le U k
    simp only [cnt]
    cases plc U k <;> simp <;> omega
end Go.Proofs.Ytbgoclfifhdonaa
