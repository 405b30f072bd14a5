/-
  Part 13 of the proof: 3 texts, one behind the other.
-/
import Derived.Test.YtmkjlcfoedglmaaPart12
import Derived.Test.YtmkjlcfoedglmaaPart5
import Derived.Test.YtmkjlcfoedglmaaPart10
/-
  A drawn region that makes a block and lays it behind a row: two letters, one walk of the text's order.
-/
namespace Go.Proofs.Ytmkjlcfoedglmaa
open Go.RowKit
set_option linter.unusedSimpArgs false
set_option linter.unusedVariables false
section
variable {P : Program}
theorem gpend2 {l : List Oper} {m j : Nat} {oj : Oper} (ok : AlOk l m j oj) {b : Nat → List Oper} {E : Nat → Bool} (sim : ∀ N, Sim (b N) l m E) {D : World → Prop} {C1 : Nat → World → Prop} {Cs : Nat → (World → Prop) → Prop} {A : Nat → Act} {val : Nat → Value} {rd : List Nat} {Q : Exit → Act → World → Prop} (Inv : Array Bool → Prop) (hInv : ∀ lp i, Inv lp → (E i = false ∨ i = j) → Inv (lp.setIfInBounds i true))
    (hE : E j = true) (hA : ∀ (i : Nat) o s N, l[i]? = some o → i < m → E i = false → o.dst = some s → (A N).tmps[s]? = (A 0).tmps[s]?) (hAj : ∀ s N, oj.dst = some s → s < (A N).tmps.size → (A N).tmps[s]? = some (val N))
    (hrd : ∀ s ∈ rd, ∀ (k : Nat) o, l[k]? = some o → k < m → o.dst = some s → ∃ e ∈ oj.after, Region.binds .any e = true ∧ e.on = k)
    (hal : ∀ w (a : Act), D w → (∀ s ∈ rd, a.tmps[s]? = (A 0).tmps[s]?) → ∀ (K : Act → World → Prop) Q', (∀ N w', C1 N w' → K (a.put oj.dst (val N)) w') → oj.wp P a w K Q')
    (hgo : ∀ N fuel lp a w, lp.size = m → unl lp = fuel → lp.getD j false = true → Inv lp → (A N).tmps.size = a.tmps.size → C1 N w →
      (∀ N' X, val N' = val N → Cs N' X → wpAnyQ P .any (b N').toArray X (fun a' => a' = A N') fuel lp a) → wpAny P .any l.toArray Q (fuel + (l.length - m)) (lp ++ Array.replicate (l.length - m) false) a w) :
    ∀ (fuel : Nat) (lp : Array Bool) (a : Act) (w : World), lp.size = m → unl lp = fuel → lp.getD j true = false → Inv lp → (∀ i, E i = true → i ≠ j → lp.getD i false = true ∨ ∃ o, l[i]? = some o ∧ ∃ e ∈ o.after, Region.binds .any e = true ∧ e.on = j) → D w →
      (∀ N X, Cs N X → wpAnyQ P .any (b N).toArray X (fun a' => a' = A N) fuel lp a) → (∀ N, wpAnyQ P .any (b N).toArray D (fun a' => a' = A N) fuel lp a) →
      (∀ N, (A N).tmps.size = a.tmps.size) → wpAny P .any l.toArray Q (fuel + (l.length - m)) (lp ++ Array.replicate (l.length - m) false) a w := by
  intro fuel
  induction fuel with
  | zero =>
    intro lp a w hs hu hj
    exfalso
    have e := unl_zero lp hu
    rw [e, Array.getD_eq_getD_getElem?] at hj
    have := ok.jm
    simp [show j < lp.size by omega] at hj
  | succ fuel ih =>
    intro lp a w hs hu hj hI hoth hD h1 h0 hsz
    rw [show fuel + 1 + (l.length - m) = (fuel + (l.length - m)) + 1 by omega]
    refine ⟨fun e => absurd e (some_ready ok.toQpOk lp hs j ok.jm hj), fun i hi => ?_⟩
    obtain ⟨him, -⟩ := (sim 0).ready ok.ml ok.wait lp hs fuel hu i hi
    have hir := fun N => ((sim N).ready ok.ml ok.wait lp hs fuel hu i hi).2
    obtain ⟨hun, _⟩ := mem_ready.1 (hir 0)
    obtain ⟨_, o, ho, hall⟩ := mem_ready.1 hi
    have ho' : l[i]? = some o := by simpa using ho
    -- a slot that is written now is not written any more
    have later : ∀ N s, o.dst = some s → ∀ k ok', (b N).toArray[k]? = some ok' → (lp.setIfInBounds i true).getD k true = false → ok'.dst ≠ some s := by
      intro N s hs' k ok' hk hl e
      obtain ⟨hkm, o2, q1, q2, -, -⟩ := (sim N).get ok.ml k ok' (by simpa using hk)
      have := ok.dst k i o2 o s q1 ho' hkm him (by rw [← q2]; exact e) hs'
      subst this
      rw [Array.getD_eq_getD_getElem?] at hl
      simp [show k < lp.size by omega] at hl
    by_cases hij : i = j
    · subst hij
      obtain rfl : o = oj := by rw [ok.here] at ho'; exact (Option.some.inj ho').symm
      unfold wpOp
      simp only [ho]
      rw [if_pos (by unfold Region.wanted; rw [ok.guard])]
      refine .inl ?_
      refine hal w a hD ?_ _ _ ?_
      · intro s hsr
        refine (q_fin _ _ _ (h0 0) s ?_).symm
        intro k ok' hk hl e
        obtain ⟨hkm, o2, q1, q2, -, -⟩ := (sim 0).get ok.ml k ok' (by simpa using hk)
        obtain ⟨e', he', hb', hon⟩ := hrd s hsr k o2 q1 hkm (by rw [← q2]; exact e)
        have h3 := hall e' he' hb'
        rw [hon, get_app_false] at h3
        exact getD_no hl h3
      · intro N w' hC
        rw [set_app lp _ i (by omega)]
        refine hgo N fuel _ _ w' (by simp [hs]) (by have := unl_set lp i hun; omega) (by
          rw [Array.getD_eq_getD_getElem?]
          simp [show i < lp.size by omega]) (hInv lp i hI (.inr rfl)) (by rw [hsz N, put_size]) hC ?_
        intro N' X hv hX
        obtain ⟨o2, q1, q2, -, -, -⟩ := (sim N').same i him o ho'
        obtain ⟨v, hy, hK⟩ := yieldsIn_of_qOp (by simpa using q1) ((h1 N' X hX).2 i (hir N'))
        rw [q2] at hK
        have e : a.put o.dst v = a.put o.dst (val N') := put_same fun s hs' => by
          have f := q_fin _ _ _ hK s (later N' s hs')
          rw [← f]
          by_cases c : s < a.tmps.size
          · rw [hAj s N' hs' (by rw [hsz N']; exact c), hs']
            simp [Act.put, Array.getElem?_setIfInBounds, c]
          · have c' : a.tmps.size ≤ s := Nat.le_of_not_lt c
            rw [Array.getElem?_eq_none (by rw [hsz N']; exact c'), Array.getElem?_eq_none (by rw [put_size]; exact c')]
        rw [e, hv] at hK
        exact hK
    · have hEi : E i = false := by
        cases q : E i
        · rfl
        · rcases hoth i q hij with z | ⟨o2, z1, e, z2, z3, z4⟩
          · exact (getD_no hun z).elim
          · rw [ho'] at z1
            have := Option.some.inj z1
            subst this
            have h3 := hall e z2 z3
            rw [z4, get_app_false] at h3
            exact (getD_no hj h3).elim
      have hor : ∀ N, (b N).toArray[i]? = some o := fun N => by
        obtain ⟨o2, q1, -, -, -, q5⟩ := (sim N).same i him o ho'
        obtain rfl := q5 hEi
        simpa using q1
      obtain ⟨v0, hy0, hK0⟩ := yieldsIn_of_qOp (hor 0) ((h0 0).2 i (hir 0))
      have f0 : ∀ s, o.dst = some s → (A 0).tmps[s]? = (a.put o.dst v0).tmps[s]? := fun s hs' => q_fin _ _ _ hK0 s (later 0 s hs')
      have all0 : ∀ N, wpAnyQ P .any (b N).toArray D (fun a' => a' = A N) fuel (lp.setIfInBounds i true) (a.put o.dst v0) := by
        intro N
        obtain ⟨v, _, hK⟩ := yieldsIn_of_qOp (hor N) ((h0 N).2 i (hir N))
        have e : a.put o.dst v = a.put o.dst v0 := put_same fun s hs' => by
          rw [← f0 s hs', ← q_fin _ _ _ hK s (later N s hs')]
          exact hA i o s N ho' him hEi hs'
        rwa [e] at hK
      have all1 : ∀ N X, Cs N X → wpAnyQ P .any (b N).toArray X (fun a' => a' = A N) fuel (lp.setIfInBounds i true) (a.put o.dst v0) := by
        intro N X hX
        obtain ⟨v, _, hK⟩ := yieldsIn_of_qOp (hor N) ((h1 N X hX).2 i (hir N))
        have e : a.put o.dst v = a.put o.dst v0 := put_same fun s hs' => by
          rw [← f0 s hs', ← q_fin _ _ _ hK s (later N s hs')]
          exact hA i o s N ho' him hEi hs'
        rwa [e] at hK
      refine wp_of_yields ho ((sim 0).wanted ok.ml a o (ok.guards i o ho')) hy0 hD (fun w' hw' => ?_)
      rw [set_app lp _ i (by omega)]
      exact ih _ _ w' (by simp [hs]) (by have := unl_set lp i hun; omega) (by rw [getD_set_ne true hij]; exact hj) (hInv lp i hI (.inl hEi)) (fun k hk hne => (hoth k hk hne).imp (fun q => getD_set_true q) id) hw' all1 all0 (fun N => by rw [hsz N, put_size])
theorem set2_get (l l' : List Value) (d d2 s : Nat) (h : (l.set d undef).set d2 undef = (l'.set d undef).set d2 undef) (h1 : s ≠ d) (h2 : s ≠ d2) : l[s]? = l'[s]? := by
  have := congrArg (fun x => x[s]?) h
  simpa [List.getElem?_set_ne (Ne.symm h1), List.getElem?_set_ne (Ne.symm h2)] using this
theorem ap_region {id : Nat} {l : List Oper} (m j k : Nat) {oj ok' : Oper} (ok : AlOk l m j oj) (ok2 : AlOk l m k ok') (hjk : j ≠ k) (hwt : ok'.after.any (fun e => Region.binds .any e && e.on == j) = true)
    {D : World → Prop} {C1 : Nat → World → Prop} {C2 : Nat → Nat → World → Prop} {Q : Exit → Act → World → Prop} {a : Act} {w : World} (ds : List (Option Tmp)) (vals : Nat → Nat → List Value) (v1 v2 : Nat → Value) (d d2 : Nat) (rd1 rd : List Nat) (hm : P.follows .mixedOrders = true)
    (hlex : ∀ N M, Region.lexB .any (rep (rep (l.take m) k (v2 M)) j (v1 N)).toArray = true)
    (hd : oj.dst = some d) (hd2 : ok'.dst = some d2) (hA : ∀ N M, (((putAll a ds (vals N M)).tmps.toList.set d undef).set d2 undef) = (((putAll a ds (vals 0 0)).tmps.toList.set d undef).set d2 undef)) (hA1 : ∀ N M, (putAll a ds (vals N M)).tmps[d]? = some (v1 N)) (hA2 : ∀ N M, (putAll a ds (vals N M)).tmps[d2]? = some (v2 M))
    (hrd1 : readB l m oj rd1 = true) (hrd : readB l m ok' rd = true) (hr1 : ∀ s ∈ rd1, s ≠ d ∧ s ≠ d2) (hr2 : d2 ∉ rd)
    (h1 : ∀ w (a' : Act), D w → (∀ s ∈ rd1, a'.tmps[s]? = (putAll a ds (vals 0 0)).tmps[s]?) → ∀ (K : Act → World → Prop) Q', (∀ N w', C1 N w' → K (a'.put oj.dst (v1 N)) w') → oj.wp P a' w K Q')
    (h2 : ∀ N w (a' : Act), C1 N w → (∀ s ∈ rd, a'.tmps[s]? = (putAll a ds (vals N 0)).tmps[s]?) → ∀ (K : Act → World → Prop) Q', (∀ M w', C2 N M w' → K (a'.put ok'.dst (v2 M)) w') → ok'.wp P a' w K Q')
    (hD : D w.drew)
    (hwalk : ∀ N M (X : World → Prop), (X = D ∨ X = C1 N ∨ X = C2 N M) → wpQuiet P (rep (rep (l.take m) k (v2 M)) j (v1 N)).toArray X (fun a' => a' = putAll a ds (vals N M)) (rep (rep (l.take m) k (v2 M)) j (v1 N)) a)
    (hpost : ∀ N M w, C2 N M w → wpList P l.toArray Q (l.drop m) (putAll a ds (vals N M)) w) : (Code.region id l.toArray true).wp P Q a w := by
  refine wp_region_any hm ?_
  have hml := ok.ml
  have any : ∀ N M X, (X = D ∨ X = C1 N ∨ X = C2 N M) → wpAnyQ P .any (rep (rep (l.take m) k (v2 M)) j (v1 N)).toArray X (fun a' => a' = putAll a ds (vals N M)) m (Array.replicate m false) a := by
    intro N M X hX
    have hB := hlex N M
    simp only [Region.lexB, Bool.and_eq_true] at hB
    have hlen : (rep (rep (l.take m) k (v2 M)) j (v1 N)).length = m := by rw [rep_len, rep_len, List.length_take]; omega
    have := wpAnyQ_lex (C := X) (md := .any) hB.1 (rep (rep (l.take m) k (v2 M)) j (v1 N)) 0 (Array.replicate m false) a (by simp) (by have := hB.2; simpa [hlen] using this) (hwalk N M X hX)
    rwa [hlen] at this
  have hu : unl (Array.replicate m false) = m := by unfold unl; simp
  have same : ∀ N M s, s ≠ d → s ≠ d2 → (putAll a ds (vals N M)).tmps[s]? = (putAll a ds (vals 0 0)).tmps[s]? := fun N M s q1 q2 => by
    have := set2_get _ _ d d2 s (hA N M) q1 q2
    simpa using this
  have hE : ∀ (i : Nat) o s N M, l[i]? = some o → i < m → (i == j || i == k) = false → o.dst = some s → (putAll a ds (vals N M)).tmps[s]? = (putAll a ds (vals 0 0)).tmps[s]? := fun i o s N M ho hi he hs => by
    simp only [Bool.or_eq_false_iff, beq_eq_false_iff_ne] at he
    refine same N M s (fun e => he.1 ?_) (fun e => he.2 ?_)
    · exact ok.dst i j o oj s ho ok.here hi ok.jm hs (by rw [hd, e])
    · exact ok2.dst i k o ok' s ho ok2.here hi ok2.jm hs (by rw [hd2, e])
  obtain ⟨ew, hew1, hew2⟩ := Array.any_eq_true'.mp hwt
  simp only [Bool.and_eq_true, beq_iff_eq] at hew2
  have d0 : decN 0 = (0, 0) := rfl
  have main := gpend2 (P := P) (Q := Q) ok (b := fun L => rep (rep (l.take m) k (v2 (decN L).2)) j (v1 (decN L).1)) (E := fun i => i == j || i == k) (fun N => sim_two l m j k hml _ _) (D := D) (C1 := fun L => C1 (decN L).1) (Cs := fun L X => X = C1 (decN L).1 ∨ X = C2 (decN L).1 (decN L).2) (A := fun L => putAll a ds (vals (decN L).1 (decN L).2)) (val := fun L => v1 (decN L).1) (rd := rd1)
    (fun lp => lp.getD k true = false) (fun lp i h hi => by
      have : i ≠ k := by
        intro e
        rcases hi with q | q
        · simp [e] at q
        · exact hjk (by rw [← q, e])
      rw [getD_set_ne true this]; exact h)
    (by simp) (fun i o s N ho hi he hs => by rw [d0]; exact hE i o s _ _ ho hi he hs) (fun s N hs _ => by
      rw [hd] at hs
      cases hs
      exact hA1 _ _) (read_of hrd1) (fun w a' hw hr K Q' hK => h1 w a' hw (fun s hs => by have := hr s hs; rw [d0] at this; exact this) K Q' (fun N w' hC => by
        obtain ⟨L, hL⟩ := decN_ex N 0
        have := hK L w' (by rw [hL]; exact hC)
        rw [hL] at this
        exact this))
    (fun L fuel lp a1 w1 hs hu' hj hI hz hC hX =>
      gpend2 (P := P) (Q := Q) ok2 (b := fun M => rep (rep (l.take m) k (v2 M)) j (v1 (decN L).1)) (E := fun i => i == j || i == k) (fun _ => sim_two l m j k hml _ _) (D := C1 (decN L).1) (C1 := fun M => C2 (decN L).1 M) (Cs := fun M X => X = C2 (decN L).1 M) (A := fun M => putAll a ds (vals (decN L).1 M)) (val := v2) (rd := rd)
        (fun lp => lp.getD j false = true) (fun lp i h _ => getD_set_true h) (by simp) (fun i o s N' ho hi he hs => (hE i o s _ _ ho hi he hs).trans (hE i o s _ _ ho hi he hs).symm) (fun s N' hs _ => by
          rw [hd2] at hs
          cases hs
          exact hA2 _ _) (read_of hrd)
        (fun w' a' hw hr K Q' hK => h2 _ w' a' hw hr K Q' hK)
        (fun M fuel lp a2 w2 hs hu hk hI hz hC hX => gdone ok.toQpOk (sim_two l m j k hml _ _) (fun w3 h3 => hpost _ M w3 h3) fuel lp a2 w2 hs hu (fun i hi => by
          simp only [Bool.or_eq_true, beq_iff_eq] at hi
          rcases hi with e | e
          · rw [e]; exact hI
          · rw [e]; exact hk) hC (hX M _ rfl rfl))
        fuel lp a1 w1 hs hu' hI hj (fun i hi hne => .inl (by
          have : i = j := by simpa [hne] using hi
          rw [this]; exact hj)) hC (fun M X hX' => by
            obtain ⟨L', hL'⟩ := decN_ex (decN L).1 M
            have := hX L' X (by simp only [hL']) (.inr (by rw [hL']; exact hX'))
            rw [hL'] at this
            exact this) (fun M => by
            obtain ⟨L', hL'⟩ := decN_ex (decN L).1 M
            have := hX L' (C1 (decN L).1) (by simp only [hL']) (.inl (by simp only [hL']))
            rw [hL'] at this
            exact this) (fun M => by rw [← hz, putAll_size, putAll_size]))
    m (Array.replicate m false) a w.drew (by simp) hu (by
      rw [Array.getD_eq_getD_getElem?]
      have := ok.jm
      simp [this]) (by
      rw [Array.getD_eq_getD_getElem?]
      have := ok2.jm
      simp [this]) (fun i hi hne => .inr ⟨ok', by
        have : i = k := by simpa [hne] using hi
        rw [this]; exact ok2.here, ew, hew1, hew2.1, hew2.2⟩) hD (fun L X hX => any _ _ X (.inr hX)) (fun L => any _ _ D (.inl rfl)) (fun _ => putAll_size _ _ _)
  have e1 : m + (l.length - m) = l.toArray.size := by simp; omega
  have e2 : Array.replicate m false ++ Array.replicate (l.length - m) false = Array.replicate l.toArray.size false := by
    rw [Array.replicate_append_replicate]; congr 1
  rw [e1, e2] at main
  exact main
end
end Go.Proofs.Ytmkjlcfoedglmaa
/-
  What the calls of the sweeper's methods do: the innermost one of the open routes.
-/
namespace Go.Proofs.Ytmkjlcfoedglmaa
open Go.RowKit
set_option linter.unusedSimpArgs false
set_option linter.unusedVariables false

/-- The open routes as they lie in memory: the innermost one. -/
def InR (W : World) (B g n cap : Nat) (x : BitVec 128) (m h : Int) : Prop := W.cell? ⟨B, 1, none⟩ = some (.slice (some ⟨g, 0, none⟩) (n + 1) cap) ∧ W.cell? ⟨g, n * 4, none⟩ = some (.int .u64 (hI x)) ∧ W.cell? ⟨g, n * 4 + 1, none⟩ = some (.int .u64 (lI x)) ∧ W.cell? ⟨g, n * 4 + 2, none⟩ = some (.int .i64 m) ∧ W.cell? ⟨g, n * 4 + 3, none⟩ = some (.int .i64 h)
theorem InR.below {W W' : World} {B g n cap : Nat} {x : BitVec 128} {m h : Int} (k : InR W B g n cap x m h) (hb : Below W.heap.size W W') : InR W' B g n cap x m h := ⟨keepc hb k.1, keepc hb k.2.1, keepc hb k.2.2.1, keepc hb k.2.2.2.1, keepc hb k.2.2.2.2⟩
/-- A block of four cells that may be written. -/
def AtQ (W : World) (N : Nat) : Prop := W.cell? ⟨N, 0, none⟩ = some (.int .u64 0) ∧ W.cell? ⟨N, 1, none⟩ = some (.int .u64 0) ∧ W.cell? ⟨N, 2, none⟩ = some (.int .i64 0) ∧ W.cell? ⟨N, 3, none⟩ = some (.int .i64 0) ∧ W.frozen? ⟨N, 0, none⟩ = false ∧ W.frozen? ⟨N, 1, none⟩ = false ∧ W.frozen? ⟨N, 2, none⟩ = false ∧ W.frozen? ⟨N, 3, none⟩ = false
theorem atq_new (w : World) (N : Nat) (T : TypeId) (e : N = w.heap.size) : AtQ (w.alloc (.cells #[.int .u64 0, .int .u64 0, .int .i64 0, .int .i64 0] T)) N := by
  subst e
  refine ⟨?_, ?_, ?_, ?_, ?_, ?_, ?_, ?_⟩ <;> simp [go_sem]
def set4 (W : World) (N : Nat) (a b c d : Value) : World := (((W.setCell ⟨N, 0, none⟩ a).setCell ⟨N, 1, none⟩ b).setCell ⟨N, 2, none⟩ c).setCell ⟨N, 3, none⟩ d
theorem bset4 {n C : Nat} {w W : World} (h : Below n w W) (hp : n ≤ C) (a b c d : Value) : Below n w (set4 W C a b c d) := (((h.setCell hp _).setCell hp _).setCell hp _).setCell hp _
theorem set4_at (W : World) (N : Nat) (a b c d : Value) {p q r s : Value} (z0 : W.cell? ⟨N, 0, none⟩ = some p) (z1 : W.cell? ⟨N, 1, none⟩ = some q) (z2 : W.cell? ⟨N, 2, none⟩ = some r) (z3 : W.cell? ⟨N, 3, none⟩ = some s) :
    (set4 W N a b c d).cell? ⟨N, 0, none⟩ = some a ∧ (set4 W N a b c d).cell? ⟨N, 1, none⟩ = some b ∧ (set4 W N a b c d).cell? ⟨N, 2, none⟩ = some c ∧ (set4 W N a b c d).cell? ⟨N, 3, none⟩ = some d := by
  unfold set4
  refine ⟨?_, ?_, ?_, ?_⟩ <;> simp [go_sem, *]
/-- What inner reads while it makes its answer. -/
def CI (w : World) (B g n cap : Nat) (x : BitVec 128) (m h : Int) (W : World) : Prop := InR W B g n cap x m h ∧ AtQ W w.heap.size ∧ Below w.heap.size w W
theorem CI.drew {w W : World} {B g n cap : Nat} {x : BitVec 128} {m h : Int} (k : CI w B g n cap x m h W) : CI w B g n cap x m h W.drew := ⟨k.1, k.2.1, k.2.2.drew⟩
set_option maxHeartbeats 4000000 in
theorem inner_any (B g n cap : Nat) (x : BitVec 128) (m h : Int) (w : World) (hI' : InR w B g n cap x m h) (hn : n ≤ 1000000000) :
    Calls Try.prog 28 #[.pointer (some ⟨B, 0, none⟩)] w fun e w' => e = .returned (.agg #[.int .u64 (hI x), .int .u64 (lI x), .int .i64 m, .int .i64 h]) ∧ Below w.heap.size w w' := by
  have HC := hidR (⟨hI'.below (bl1 w (.cells #[.int .u64 0, .int .u64 0, .int .i64 0, .int .i64 0] 50)), atq_new w w.heap.size 50 rfl, bl1 w _⟩ : CI w B g n cap x m h (w.alloc (.cells #[.int .u64 0, .int .u64 0, .int .i64 0, .int .i64 0] 50)))
  have m1 : IntKind.i64.wrap ((n : Int) + 1 - 1) = (n : Int) := by rw [IntKind.wrap_i64]; omega
  have i1 : (0 : Int) ≤ (n : Int) := by omega
  have i2 : (n : Int) < (n : Int) + 1 := by omega
  clear hI'
  go_enter Try.func28, Try.ntmps28
  go_wp2_with fail
  refine qp_region2 12 (qpOk 12 12 (by decide) (fun N => by kernel_rfl) (by kernel_rfl) (by kernel_rfl) (by kernel_rfl) (by kernel_rfl)) (C := CI w B g n cap x m h) [some 3, some 4, some 5, some 6, some 7, some 8, some 9, some 10, some 11, some 12, some 13, some 14] [.pointer (some ⟨B, 0, none⟩), .pointer (some ⟨B, 0, none⟩), .pointer (some ⟨B, 1, none⟩), .slice (some ⟨g, 0, none⟩) (n + 1) cap, .pointer (some ⟨B, 0, none⟩), .pointer (some ⟨B, 0, none⟩), .pointer (some ⟨B, 1, none⟩), .slice (some ⟨g, 0, none⟩) (n + 1) cap, .int .i64 ((n : Int) + 1), .int .i64 (n : Int), .pointer (some ⟨g, n * 4, none⟩), .agg #[.int .u64 (hI x), .int .u64 (lI x), .int .i64 m, .int .i64 h]] (by kernel_rfl) (CI.drew HC.out) ?walk ?fin
  case walk =>
    dsimp only [List.take]
    clear HC
    refine q_run (v := .pointer (some ⟨B, 0, none⟩)) (by rfl) ?_ ?_
    · (intro w1 hC; obtain ⟨⟨c0, c1, c2, c3, c4⟩, -, -⟩ := hC; go_simp; first | done | (simp; done) | (simp [*]; done) | omega | (simp; omega) | (rw [IntKind.wrap_i64]; omega) | (intro hx; omega) | rfl)
    simp only [Act.put, List.setIfInBounds_toArray, List.set_cons_zero, List.set_cons_succ]
    refine q_run (v := .pointer (some ⟨B, 0, none⟩)) (by rfl) ?_ ?_
    · (intro w1 hC; obtain ⟨⟨c0, c1, c2, c3, c4⟩, -, -⟩ := hC; go_simp; first | done | (simp; done) | (simp [*]; done) | omega | (simp; omega) | (rw [IntKind.wrap_i64]; omega) | (intro hx; omega) | rfl)
    simp only [Act.put, List.setIfInBounds_toArray, List.set_cons_zero, List.set_cons_succ]
    refine q_run (v := .pointer (some ⟨B, 1, none⟩)) (by rfl) ?_ ?_
    · (intro w1 hC; obtain ⟨⟨c0, c1, c2, c3, c4⟩, -, -⟩ := hC; go_simp; first | done | (simp; done) | (simp [*]; done) | omega | (simp; omega) | (rw [IntKind.wrap_i64]; omega) | (intro hx; omega) | rfl)
    simp only [Act.put, List.setIfInBounds_toArray, List.set_cons_zero, List.set_cons_succ]
    refine q_run (v := .slice (some ⟨g, 0, none⟩) (n + 1) cap) (by rfl) ?_ ?_
    · (intro w1 hC; obtain ⟨⟨c0, c1, c2, c3, c4⟩, -, -⟩ := hC; go_simp; first | done | (simp; done) | (simp [*]; done) | omega | (simp; omega) | (rw [IntKind.wrap_i64]; omega) | (intro hx; omega) | rfl)
    simp only [Act.put, List.setIfInBounds_toArray, List.set_cons_zero, List.set_cons_succ]
    refine q_run (v := .pointer (some ⟨B, 0, none⟩)) (by rfl) ?_ ?_
    · (intro w1 hC; obtain ⟨⟨c0, c1, c2, c3, c4⟩, -, -⟩ := hC; go_simp; first | done | (simp; done) | (simp [*]; done) | omega | (simp; omega) | (rw [IntKind.wrap_i64]; omega) | (intro hx; omega) | rfl)
    simp only [Act.put, List.setIfInBounds_toArray, List.set_cons_zero, List.set_cons_succ]
    refine q_run (v := .pointer (some ⟨B, 0, none⟩)) (by rfl) ?_ ?_
    · (intro w1 hC; obtain ⟨⟨c0, c1, c2, c3, c4⟩, -, -⟩ := hC; go_simp; first | done | (simp; done) | (simp [*]; done) | omega | (simp; omega) | (rw [IntKind.wrap_i64]; omega) | (intro hx; omega) | rfl)
    simp only [Act.put, List.setIfInBounds_toArray, List.set_cons_zero, List.set_cons_succ]
    refine q_run (v := .pointer (some ⟨B, 1, none⟩)) (by rfl) ?_ ?_
    · (intro w1 hC; obtain ⟨⟨c0, c1, c2, c3, c4⟩, -, -⟩ := hC; go_simp; first | done | (simp; done) | (simp [*]; done) | omega | (simp; omega) | (rw [IntKind.wrap_i64]; omega) | (intro hx; omega) | rfl)
    simp only [Act.put, List.setIfInBounds_toArray, List.set_cons_zero, List.set_cons_succ]
    refine q_run (v := .slice (some ⟨g, 0, none⟩) (n + 1) cap) (by rfl) ?_ ?_
    · (intro w1 hC; obtain ⟨⟨c0, c1, c2, c3, c4⟩, -, -⟩ := hC; go_simp; first | done | (simp; done) | (simp [*]; done) | omega | (simp; omega) | (rw [IntKind.wrap_i64]; omega) | (intro hx; omega) | rfl)
    simp only [Act.put, List.setIfInBounds_toArray, List.set_cons_zero, List.set_cons_succ]
    refine q_run (v := .int .i64 ((n : Int) + 1)) (by rfl) ?_ ?_
    · (intro w1 hC; obtain ⟨⟨c0, c1, c2, c3, c4⟩, -, -⟩ := hC; go_simp; first | done | (simp; done) | (simp [*]; done) | omega | (simp; omega) | (rw [IntKind.wrap_i64]; omega) | (intro hx; omega) | rfl)
    simp only [Act.put, List.setIfInBounds_toArray, List.set_cons_zero, List.set_cons_succ]
    refine q_run (v := .int .i64 (n : Int)) (by rfl) ?_ ?_
    · (intro w1 hC; obtain ⟨⟨c0, c1, c2, c3, c4⟩, -, -⟩ := hC; go_simp; first | done | (simp; done) | (simp [*]; done) | omega | (simp; omega) | (rw [IntKind.wrap_i64]; omega) | (intro hx; omega) | rfl)
    simp only [Act.put, List.setIfInBounds_toArray, List.set_cons_zero, List.set_cons_succ]
    refine q_run (v := .pointer (some ⟨g, n * 4, none⟩)) (by rfl) ?_ ?_
    · (intro w1 hC; obtain ⟨⟨c0, c1, c2, c3, c4⟩, -, -⟩ := hC; go_simp; first | done | (simp; done) | (simp [*]; done) | omega | (simp; omega) | (rw [IntKind.wrap_i64]; omega) | (intro hx; omega) | rfl)
    simp only [Act.put, List.setIfInBounds_toArray, List.set_cons_zero, List.set_cons_succ]
    refine q_run (v := .agg #[.int .u64 (hI x), .int .u64 (lI x), .int .i64 m, .int .i64 h]) (by rfl) ?_ ?_
    · (intro w1 hC; obtain ⟨⟨c0, c1, c2, c3, c4⟩, -, -⟩ := hC; go_simp; first | done | (simp; done) | (simp [*]; done) | omega | (simp; omega) | (rw [IntKind.wrap_i64]; omega) | (intro hx; omega) | rfl)
    simp only [Act.put, List.setIfInBounds_toArray, List.set_cons_zero, List.set_cons_succ]
    refine wpQuiet_nil ?_
    simp only [putAll, Act.put, List.setIfInBounds_toArray, List.set_cons_zero, List.set_cons_succ]
  case fin =>
    intro W hC
    obtain ⟨-, ⟨z0, z1, z2, z3, z4, z5, z6, z7⟩, kB⟩ := hC
    simp only [putAll, Act.put, List.setIfInBounds_toArray, List.set_cons_zero, List.set_cons_succ]
    dsimp only [List.drop]
    clear HC
    have kB2 := bset4 kB (Nat.le_refl w.heap.size) (.int .u64 (hI x)) (.int .u64 (lI x)) (.int .i64 m) (.int .i64 h)
    obtain ⟨s0, s1, s2, s3⟩ := set4_at W w.heap.size (.int .u64 (hI x)) (.int .u64 (lI x)) (.int .i64 m) (.int .i64 h) z0 z1 z2 z3
    unfold set4 at kB2 s0 s1 s2 s3
    go_wp2
    exact bodyPost_ret (v := .agg #[.int .u64 (hI x), .int .u64 (lI x), .int .i64 m, .int .i64 h]) (by simp [results, Try.results28, go_sem, s0, s1, s2, s3]) rfl ⟨rfl, kB2⟩
end Go.Proofs.Ytmkjlcfoedglmaa
/-
  The sweeper in memory, and what becomes of it.
-/
namespace Go.Proofs.Ytmkjlcfoedglmaa
open Go.RowKit
set_option linter.unusedSimpArgs false
set_option linter.unusedVariables false

def SwC (W : World) (B : Nat) (F : Int) (vo : Value) (nx : BitVec 128) (en : Bool) (vt : Value) : Prop := (W.cell? ⟨B, 0, none⟩ = some (.int .i64 F) ∧ W.cell? ⟨B, 1, none⟩ = some vo ∧ W.cell? ⟨B, 2, none⟩ = some (.int .u64 (hI nx)) ∧ W.cell? ⟨B, 3, none⟩ = some (.int .u64 (lI nx)) ∧ W.cell? ⟨B, 4, none⟩ = some (.bool en) ∧ W.cell? ⟨B, 5, none⟩ = some vt) ∧ W.frozen? ⟨B, 1, none⟩ = false ∧ W.frozen? ⟨B, 2, none⟩ = false ∧ W.frozen? ⟨B, 3, none⟩ = false ∧ W.frozen? ⟨B, 4, none⟩ = false ∧ W.frozen? ⟨B, 5, none⟩ = false
theorem SwC.heap {W W' : World} {B : Nat} {F : Int} {vo : Value} {nx : BitVec 128} {en : Bool} {vt : Value} (k : SwC W B F vo nx en vt) (e : W'.heap[B]? = W.heap[B]?) : SwC W' B F vo nx en vt := by
  unfold SwC at *
  simpa only [cellH e, frozH e] using k
theorem SwC.set1 {W : World} {B : Nat} {F : Int} {vo : Value} {nx : BitVec 128} {en : Bool} {vt : Value} (k : SwC W B F vo nx en vt) (u : Value) : SwC (W.setCell ⟨B, 1, none⟩ u) B F u nx en vt := by
  obtain ⟨⟨a0, a1, a2, a3, a4, a5⟩, f1, f2, f3, f4, f5⟩ := k
  refine ⟨⟨?_, ?_, ?_, ?_, ?_, ?_⟩, ?_, ?_, ?_, ?_, ?_⟩ <;> simp [go_sem, *]
theorem SwC.set5 {W : World} {B : Nat} {F : Int} {vo : Value} {nx : BitVec 128} {en : Bool} {vt : Value} (k : SwC W B F vo nx en vt) (u : Value) : SwC (W.setCell ⟨B, 5, none⟩ u) B F vo nx en u := by
  obtain ⟨⟨a0, a1, a2, a3, a4, a5⟩, f1, f2, f3, f4, f5⟩ := k
  refine ⟨⟨?_, ?_, ?_, ?_, ?_, ?_⟩, ?_, ?_, ?_, ?_, ?_⟩ <;> simp [go_sem, *]
theorem SwC.set3 {W : World} {B : Nat} {F : Int} {vo : Value} {nx : BitVec 128} {en : Bool} {vt : Value} (k : SwC W B F vo nx en vt) (y : BitVec 128) (b : Bool) : SwC (((W.setCell ⟨B, 2, none⟩ (.int .u64 (hI y))).setCell ⟨B, 3, none⟩ (.int .u64 (lI y))).setCell ⟨B, 4, none⟩ (.bool b)) B F vo y b vt := by
  obtain ⟨⟨a0, a1, a2, a3, a4, a5⟩, f1, f2, f3, f4, f5⟩ := k
  refine ⟨⟨?_, ?_, ?_, ?_, ?_, ?_⟩, ?_, ?_, ?_, ?_, ?_⟩ <;> simp [go_sem, *]
theorem SwC.lt {W : World} {B : Nat} {F : Int} {vo : Value} {nx : BitVec 128} {en : Bool} {vt : Value} (k : SwC W B F vo nx en vt) : B < W.heap.size := cell_in k.1.1
/-- The sweeper, its rows, and a block Z that is not its own. -/
structure SwV (W : World) (base B : Nat) (F : Int) (op : List Rte) (t : T3) (Z : Nat → Prop) (ob : Nat → Option Obj) (vo vc vt : Value) : Prop where
  c : SwC W B F vo t.1 t.2.1 vc
  oo : W.ownsRow base 50 4 vo op.length (rowR op.reverse)
  ot : W.ownsRow base 52 5 vt t.2.2.length (rowG t.2.2.reverse)
  n1 : vo.ownBlock ≠ some B
  n2 : vt.ownBlock ≠ some B
  n3 : ∀ z, vo.ownBlock = some z → vt.ownBlock ≠ some z
  bB : base ≤ B
  z : ∀ k, Z k → W.heap[k]? = ob k
  zB : ∀ k, Z k → k ≠ B
  zl : ∀ k, Z k → k < W.heap.size
  z1 : ∀ k, Z k → vo.ownBlock ≠ some k
  z2 : ∀ k, Z k → vt.ownBlock ≠ some k
theorem SwV.below {W W' : World} {base B : Nat} {F : Int} {op : List Rte} {t : T3} {Z : Nat → Prop} {ob : Nat → Option Obj} {vo vc vt : Value} (k : SwV W base B F op t Z ob vo vc vt) (hb : Below W.heap.size W W') : SwV W' base B F op t Z ob vo vc vt :=
  ⟨k.c.heap (hb.block _ k.c.lt), own_heap k.oo (fun g e => hb.block g (k.oo.lt g e).2), own_heap k.ot (fun g e => hb.block g (k.ot.lt g e).2), k.n1, k.n2, k.n3, k.bB, fun z hz => by rw [hb.block _ (k.zl z hz)]; exact k.z z hz, k.zB, fun z hz => by have := hb.size; have := k.zl z hz; omega, k.z1, k.z2⟩
/-- One more block is watched: a new one. -/
theorem SwV.more {W : World} {base B : Nat} {F : Int} {op : List Rte} {t : T3} {Z : Nat → Prop} {ob : Nat → Option Obj} {vo vc vt : Value} (k : SwV W base B F op t Z ob vo vc vt) (o : Obj) : SwV (W.alloc o) base B F op t (fun z => Z z ∨ z = W.heap.size) (fun z => (W.alloc o).heap[z]?) vo vc vt := by
  have k' := k.below (bl1 W o)
  refine ⟨k'.c, k'.oo, k'.ot, k'.n1, k'.n2, k'.n3, k'.bB, fun z _ => rfl, ?_, ?_, ?_, ?_⟩
  · intro z hz
    rcases hz with q | q
    · exact k.zB z q
    · have := k.c.lt; omega
  · intro z hz
    rcases hz with q | q
    · exact k'.zl z q
    · simp [q]
  · intro z hz
    rcases hz with q | q
    · exact k.z1 z q
    · intro e; have := (k.oo.lt _ e).2; omega
  · intro z hz
    rcases hz with q | q
    · exact k.z2 z q
    · intro e; have := (k.ot.lt _ e).2; omega
/-- Fewer blocks are watched, or told in other words. -/
theorem SwV.fewer {W : World} {base B : Nat} {F : Int} {op : List Rte} {t : T3} {Z Y : Nat → Prop} {ob od : Nat → Option Obj} {vo vc vt : Value} (k : SwV W base B F op t Z ob vo vc vt) (h : ∀ z, Y z → Z z) (hd : ∀ z, Y z → ob z = od z) : SwV W base B F op t Y od vo vc vt :=
  ⟨k.c, k.oo, k.ot, k.n1, k.n2, k.n3, k.bB, fun z hz => by rw [← hd z hz]; exact k.z z (h z hz), fun z hz => k.zB z (h z hz), fun z hz => k.zl z (h z hz), fun z hz => k.z1 z (h z hz), fun z hz => k.z2 z (h z hz)⟩
theorem SwV.base {W : World} {base B : Nat} {F : Int} {op : List Rte} {t : T3} {Z : Nat → Prop} {ob : Nat → Option Obj} {vo vc vt : Value} (k : SwV W base B F op t Z ob vo vc vt) : base ≤ W.heap.size := by
  have := k.bB
  have := k.c.lt
  omega
/-- The innermost one of the open routes. -/
theorem SwV.inner {W : World} {base B : Nat} {F : Int} {o : Rte} {os : List Rte} {t : T3} {Z : Nat → Prop} {ob : Nat → Option Obj} {vo vc vt : Value} (k : SwV W base B F (o :: os) t Z ob vo vc vt) : ∃ g cap, vo = .slice (some ⟨g, 0, none⟩) (os.length + 1) cap ∧ InR W B g os.length cap o.1.1 o.1.2 o.2 ∧ os.length + 1 ≤ cap := by
  obtain ⟨g, cap, e, -, -⟩ := k.oo.form (by simp)
  have e : vo = .slice (some ⟨g, 0, none⟩) (os.length + 1) cap := e
  have h := k.oo
  rw [e, List.length_cons, List.reverse_cons] at h
  have h2 := k.c.1.2.1
  rw [e] at h2
  have q : (os.reverse ++ [o])[os.length]'(by simp) = o := by simp [List.getElem_append]
  obtain ⟨c0, c1, c2, c3⟩ := ownR_cells6 h os.length (by simp)
  rw [q] at c0 c1 c2 c3
  exact ⟨g, cap, e, ⟨h2, c0, c1, c2, c3⟩, own_cap6 h⟩
/-- A segment is told: behind has answered. -/
theorem SwV.told {W W' : World} {base B : Nat} {F : Int} {op : List Rte} {nx : BitVec 128} {en : Bool} {to st : List Sg} {Z : Nat → Prop} {ob : Nat → Option Obj} {vo vc vt v' : Value} (k : SwV W base B F op (nx, en, to) Z ob vo vc vt) (h : BhO base vt st W v' W') : SwV W' base B F op (nx, en, st) Z ob vo vc v' := by
  obtain ⟨h1, h2, h3⟩ := h
  have hB := k.c.lt
  have he : ∀ z, z < W.heap.size → vt.ownBlock ≠ some z → W'.heap[z]? = W.heap[z]? := fun z q1 q2 => h2.block z q1 (fun e => q2 e.symm)
  have nv : ∀ z, z < W.heap.size → vt.ownBlock ≠ some z → v'.ownBlock ≠ some z := by
    intro z q1 q2 e
    rcases h3 z e with q | q
    · exact q2 q
    · omega
  refine ⟨k.c.heap (he B hB k.n2), own_heap k.oo (fun g e => he g (k.oo.lt g e).2 (k.n3 g e)), h1, k.n1, nv B hB k.n2, fun z e => nv z (k.oo.lt z e).2 (k.n3 z e), k.bB, fun z hz => by rw [he z (k.zl z hz) (k.z2 z hz)]; exact k.z z hz, k.zB, fun z hz => ?_, k.z1, fun z hz => nv z (k.zl z hz) (k.z2 z hz)⟩
  have := h2.size
  have := k.zl z hz
  omega
/-- The row's new place is laid into the sweeper. -/
theorem SwV.put5 {W : World} {base B : Nat} {F : Int} {op : List Rte} {t : T3} {Z : Nat → Prop} {ob : Nat → Option Obj} {vo vc vt : Value} (k : SwV W base B F op t Z ob vo vc vt) : SwV (W.setCell ⟨B, 5, none⟩ vt) base B F op t Z ob vo vt vt := by
  refine ⟨k.c.set5 vt, own_heap k.oo (fun g e => hSet _ (fun q => k.n1 (by rw [e, q]))), own_heap k.ot (fun g e => hSet _ (fun q => k.n2 (by rw [e, q]))), k.n1, k.n2, k.n3, k.bB, fun z hz => by rw [hSet _ (k.zB z hz)]; exact k.z z hz, k.zB, fun z hz => ?_, k.z1, k.z2⟩
  have := k.zl z hz
  simp
  omega
/-- What comes next is laid into the sweeper. -/
theorem SwV.next {W : World} {base B : Nat} {F : Int} {op : List Rte} {nx : BitVec 128} {en : Bool} {to : List Sg} {Z : Nat → Prop} {ob : Nat → Option Obj} {vo vc vt : Value} (k : SwV W base B F op (nx, en, to) Z ob vo vc vt) (y : BitVec 128) (b : Bool) :
    SwV (((W.setCell ⟨B, 2, none⟩ (.int .u64 (hI y))).setCell ⟨B, 3, none⟩ (.int .u64 (lI y))).setCell ⟨B, 4, none⟩ (.bool b)) base B F op (y, b, to) Z ob vo vc vt := by
  have he : ∀ z, ¬ z = B → (((W.setCell ⟨B, 2, none⟩ (.int .u64 (hI y))).setCell ⟨B, 3, none⟩ (.int .u64 (lI y))).setCell ⟨B, 4, none⟩ (.bool b)).heap[z]? = W.heap[z]? := fun z q => by rw [hSet _ q, hSet _ q, hSet _ q]
  refine ⟨k.c.set3 y b, own_heap k.oo (fun g e => he g (fun q => k.n1 (by rw [e, q]))), own_heap k.ot (fun g e => he g (fun q => k.n2 (by rw [e, q]))), k.n1, k.n2, k.n3, k.bB, fun z hz => by rw [he z (k.zB z hz)]; exact k.z z hz, k.zB, fun z hz => ?_, k.z1, k.z2⟩
  have := k.zl z hz
  simp
  omega
theorem ownR_cut {w : World} {base n g cap : Nat} {s : List Rte} {a : Rte} (h : w.ownsRow base 50 4 (.slice (some ⟨g, 0, none⟩) (n + 1) cap) (n + 1) (rowR (s ++ [a]))) (hn : s.length = n) : w.ownsRow base 50 4 (.slice (some ⟨g, 0, none⟩) n cap) n (rowR s) := by
  have hl : ∀ l : List Rte, (rowR l).length = l.length * 4 := by
    intro l
    induction l with
    | nil => rfl
    | cons r l ih => simp [rowR, ih]; omega
  have ha : ∀ l m : List Rte, rowR (l ++ m) = rowR l ++ rowR m := by
    intro l
    induction l with
    | nil => intro m; rfl
    | cons p l ih => intro m; simp [rowR, ih]
  rcases h.2 with ⟨e0, _⟩ | ⟨g', cap', cur, e0, hb, hg, hnc, hm, hs, ht⟩
  · cases e0
  · injection e0 with e1 _ e3
    injection e1 with e1
    injection e1 with e1
    subst e1; subst e3
    refine ⟨by rw [hl]; omega, .inr ⟨g, cap, cur, rfl, hb, hg, by omega, hm, hs, ?_⟩⟩
    have e : rowR s = (rowR (s ++ [a])).take (n * 4) := by
      rw [ha, List.take_append_of_le_length (by rw [hl]; omega), List.take_of_length_le (by rw [hl]; omega)]
    rw [e, ← ht, List.take_take, Nat.min_eq_left (by omega)]
/-- The innermost route is shut. -/
theorem SwV.pop {W : World} {base B : Nat} {F : Int} {o : Rte} {os : List Rte} {t : T3} {Z : Nat → Prop} {ob : Nat → Option Obj} {g cap : Nat} {vc vt : Value} (k : SwV W base B F (o :: os) t Z ob (.slice (some ⟨g, 0, none⟩) (os.length + 1) cap) vc vt) : SwV (W.setCell ⟨B, 1, none⟩ (.slice (some ⟨g, 0, none⟩) os.length cap)) base B F os t Z ob (.slice (some ⟨g, 0, none⟩) os.length cap) vc vt := by
  have h0 := k.oo
  rw [List.length_cons, List.reverse_cons] at h0
  have hc := ownR_cut h0 (by simp)
  have n1 := k.n1
  refine ⟨k.c.set1 _, own_heap hc (fun g' e => hSet _ (fun q => ?_)), own_heap k.ot (fun g e => hSet _ (fun q => k.n2 (by rw [e, q]))), n1, k.n2, k.n3, k.bB, fun z hz => by rw [hSet _ (k.zB z hz)]; exact k.z z hz, k.zB, fun z hz => ?_, k.z1, k.z2⟩
  · have e : g = g' := by simpa [Value.ownBlock] using e
    apply n1
    simp [Value.ownBlock, e, q]
  · have := k.zl z hz
    simp
    omega
/-- A route is opened: the row is laid on, its place laid into the sweeper. -/
theorem SwV.push {W w4 : World} {base B : Nat} {F : Int} {op : List Rte} {t : T3} {Z : Nat → Prop} {ob : Nat → Option Obj} {vo vc vt : Value} {x : BitVec 128} {m h : Int} {g cap : Nat} (k : SwV W base B F op t Z ob vo vc vt)
    (hown : w4.ownsRow base 50 4 (.slice (some ⟨g, 0, none⟩) (op.length + 1) cap) (op.length + 1) (rowR op.reverse ++ [.int .u64 (hI x), .int .u64 (lI x), .int .i64 m, .int .i64 h])) (hg : W.grownBy w4 vo.ownBlock) (hat : vo.ownBlock = some g ∨ g = W.heap.size) :
    SwC w4 B F vo t.1 t.2.1 vc ∧ SwV (w4.setCell ⟨B, 1, none⟩ (.slice (some ⟨g, 0, none⟩) (op.length + 1) cap)) base B F (((x, m), h) :: op) t Z ob (.slice (some ⟨g, 0, none⟩) (op.length + 1) cap) vc vt := by
  have hB := k.c.lt
  have he : ∀ z, z < W.heap.size → vo.ownBlock ≠ some z → w4.heap[z]? = W.heap[z]? := fun z q1 q2 => hg.block z q1 (fun e => q2 e.symm)
  have gne : ∀ z, z < W.heap.size → vo.ownBlock ≠ some z → g ≠ z := by
    intro z h1 h2 e
    rcases hat with q | q
    · exact h2 (by rw [q, e])
    · omega
  have ob' : ∀ z, Value.ownBlock (.slice (some ⟨g, 0, none⟩) (op.length + 1) cap) = some z → g = z := fun z e => by simpa [Value.ownBlock] using e
  have hc := k.c.heap (he B hB k.n1)
  have ha : rowR (op.reverse ++ [((x, m), h)]) = rowR op.reverse ++ [.int .u64 (hI x), .int .u64 (lI x), .int .i64 m, .int .i64 h] := by
    generalize op.reverse = l
    induction l with
    | nil => rfl
    | cons p l ih => simp [rowR, ih]
  refine ⟨hc, hc.set1 _, ?_, ?_, fun e => gne B hB k.n1 (ob' B e), k.n2, ?_, k.bB, ?_, k.zB, ?_, ?_, k.z2⟩
  · rw [List.length_cons, List.reverse_cons, ha]
    refine own_heap hown (fun z e => hSet _ ?_)
    rw [← ob' z e]
    exact gne B hB k.n1
  · refine own_heap k.ot (fun z e => ?_)
    rw [hSet _ (fun q => k.n2 (by rw [e, q])), he z (k.ot.lt z e).2 (fun q => k.n3 z q e)]
  · intro z e e2
    rw [← ob' z e] at e2
    exact gne g (k.ot.lt g e2).2 (fun q => k.n3 g q e2) rfl
  · intro z q
    rw [hSet _ (k.zB z q), he z (k.zl z q) (k.z1 z q)]
    exact k.z z q
  · intro z q
    have := k.zl z q
    have := hg.size
    simp
    omega
  · intro z q e
    exact gne z (k.zl z q) (k.z1 z q) (ob' z e)
end Go.Proofs.Ytmkjlcfoedglmaa
