/-
  Part 28 of the proof: 7 texts, one behind the other.
-/
import Derived.Test.YtnaghiipfgdimaaPart27
import Derived.Laws.OwnMore
import Derived.Test.YtnaghiipfgdimaaPart5
/-
  A drawn region that makes a block and lays it behind a row: two letters, one walk of the text's order.
-/
namespace Go.Proofs.Ytnaghiipfgdimaa
open Go.RowKit
set_option linter.unusedSimpArgs false
set_option linter.unusedVariables false
section
variable {P : Program}
theorem gpend2 {l : List Oper} {m j : Nat} {oj : Oper} (ok : AlOk l m j oj) {b : Nat → List Oper} {E : Nat → Bool} (sim : ∀ N, Sim (b N) l m E) {D : World → Prop} {C1 : Nat → World → Prop} {Cs : Nat → (World → Prop) → Prop} {A : Nat → Act} {val : Nat → Value} {rd : List Nat} {Q : Exit → Act → World → Prop} (Inv : Array Bool → Prop) (hInv : ∀ lp i, Inv lp → (E i = false ∨ i = j) → Inv (lp.setIfInBounds i true))
    (hE : E j = true) (hA : ∀ (i : Nat) o s N, l[i]? = some o → i < m → E i = false → o.dst = some s → (A N).tmps[s]? = (A 0).tmps[s]?) (hAj : ∀ s N, oj.dst = some s → s < (A N).tmps.size → (A N).tmps[s]? = some (val N))
    (hrd : ∀ s ∈ rd, ∀ (k : Nat) o, l[k]? = some o → k < m → o.dst = some s → ∃ e ∈ oj.after, Region.binds .any e = true ∧ e.on = k)
    (hal : ∀ w (a : Act), D w → (∀ s ∈ rd, a.tmps[s]? = (A 0).tmps[s]?) → ∀ (K : Act → World → Prop) Q', (∀ N w', C1 N w' → K (a.put oj.dst (val N)) w') → oj.wp P a w K Q')
    (hgo : ∀ N fuel lp a w, lp.size = m → unl lp = fuel → lp.getD j false = true → Inv lp → (A N).tmps.size = a.tmps.size → C1 N w →
      (∀ N' X, val N' = val N → Cs N' X → wpAnyQ P .any (b N').toArray X (fun a' => a' = A N') fuel lp a) → wpAny P .any l.toArray Q (fuel + (l.length - m)) (lp ++ Array.replicate (l.length - m) false) a w) :
    ∀ (fuel : Nat) (lp : Array Bool) (a : Act) (w : World), lp.size = m → unl lp = fuel → lp.getD j true = false → Inv lp → (∀ i, E i = true → i ≠ j → lp.getD i false = true ∨ ∃ o, l[i]? = some o ∧ ∃ e ∈ o.after, Region.binds .any e = true ∧ e.on = j) → D w →
      (∀ N X, Cs N X → wpAnyQ P .any (b N).toArray X (fun a' => a' = A N) fuel lp a) → (∀ N, wpAnyQ P .any (b N).toArray D (fun a' => a' = A N) fuel lp a) →
      (∀ N, (A N).tmps.size = a.tmps.size) → wpAny P .any l.toArray Q (fuel + (l.length - m)) (lp ++ Array.replicate (l.length - m) false) a w := by
  intro fuel
  induction fuel with
  | zero =>
    intro lp a w hs hu hj
    exfalso
    have e := unl_zero lp hu
    rw [e, Array.getD_eq_getD_getElem?] at hj
    have := ok.jm
    simp [show j < lp.size by omega] at hj
  | succ fuel ih =>
    intro lp a w hs hu hj hI hoth hD h1 h0 hsz
    rw [show fuel + 1 + (l.length - m) = (fuel + (l.length - m)) + 1 by omega]
    refine ⟨fun e => absurd e (some_ready ok.toQpOk lp hs j ok.jm hj), fun i hi => ?_⟩
    obtain ⟨him, -⟩ := (sim 0).ready ok.ml ok.wait lp hs fuel hu i hi
    have hir := fun N => ((sim N).ready ok.ml ok.wait lp hs fuel hu i hi).2
    obtain ⟨hun, _⟩ := mem_ready.1 (hir 0)
    obtain ⟨_, o, ho, hall⟩ := mem_ready.1 hi
    have ho' : l[i]? = some o := by simpa using ho
    -- a slot that is written now is not written any more
    have later : ∀ N s, o.dst = some s → ∀ k ok', (b N).toArray[k]? = some ok' → (lp.setIfInBounds i true).getD k true = false → ok'.dst ≠ some s := by
      intro N s hs' k ok' hk hl e
      obtain ⟨hkm, o2, q1, q2, -, -⟩ := (sim N).get ok.ml k ok' (by simpa using hk)
      have := ok.dst k i o2 o s q1 ho' hkm him (by rw [← q2]; exact e) hs'
      subst this
      rw [Array.getD_eq_getD_getElem?] at hl
      simp [show k < lp.size by omega] at hl
    by_cases hij : i = j
    · subst hij
      obtain rfl : o = oj := by rw [ok.here] at ho'; exact (Option.some.inj ho').symm
      unfold wpOp
      simp only [ho]
      rw [if_pos (by unfold Region.wanted; rw [ok.guard])]
      refine .inl ?_
      refine hal w a hD ?_ _ _ ?_
      · intro s hsr
        refine (q_fin _ _ _ (h0 0) s ?_).symm
        intro k ok' hk hl e
        obtain ⟨hkm, o2, q1, q2, -, -⟩ := (sim 0).get ok.ml k ok' (by simpa using hk)
        obtain ⟨e', he', hb', hon⟩ := hrd s hsr k o2 q1 hkm (by rw [← q2]; exact e)
        have h3 := hall e' he' hb'
        rw [hon, get_app_false] at h3
        exact getD_no hl h3
      · intro N w' hC
        rw [set_app lp _ i (by omega)]
        refine hgo N fuel _ _ w' (by simp [hs]) (by have := unl_set lp i hun; omega) (by
          rw [Array.getD_eq_getD_getElem?]
          simp [show i < lp.size by omega]) (hInv lp i hI (.inr rfl)) (by rw [hsz N, put_size]) hC ?_
        intro N' X hv hX
        obtain ⟨o2, q1, q2, -, -, -⟩ := (sim N').same i him o ho'
        obtain ⟨v, hy, hK⟩ := yieldsIn_of_qOp (by simpa using q1) ((h1 N' X hX).2 i (hir N'))
        rw [q2] at hK
        have e : a.put o.dst v = a.put o.dst (val N') := put_same fun s hs' => by
          have f := q_fin _ _ _ hK s (later N' s hs')
          rw [← f]
          by_cases c : s < a.tmps.size
          · rw [hAj s N' hs' (by rw [hsz N']; exact c), hs']
            simp [Act.put, Array.getElem?_setIfInBounds, c]
          · have c' : a.tmps.size ≤ s := Nat.le_of_not_lt c
            rw [Array.getElem?_eq_none (by rw [hsz N']; exact c'), Array.getElem?_eq_none (by rw [put_size]; exact c')]
        rw [e, hv] at hK
        exact hK
    · have hEi : E i = false := by
        cases q : E i
        · rfl
        · rcases hoth i q hij with z | ⟨o2, z1, e, z2, z3, z4⟩
          · exact (getD_no hun z).elim
          · rw [ho'] at z1
            have := Option.some.inj z1
            subst this
            have h3 := hall e z2 z3
            rw [z4, get_app_false] at h3
            exact (getD_no hj h3).elim
      have hor : ∀ N, (b N).toArray[i]? = some o := fun N => by
        obtain ⟨o2, q1, -, -, -, q5⟩ := (sim N).same i him o ho'
        obtain rfl := q5 hEi
        simpa using q1
      obtain ⟨v0, hy0, hK0⟩ := yieldsIn_of_qOp (hor 0) ((h0 0).2 i (hir 0))
      have f0 : ∀ s, o.dst = some s → (A 0).tmps[s]? = (a.put o.dst v0).tmps[s]? := fun s hs' => q_fin _ _ _ hK0 s (later 0 s hs')
      have all0 : ∀ N, wpAnyQ P .any (b N).toArray D (fun a' => a' = A N) fuel (lp.setIfInBounds i true) (a.put o.dst v0) := by
        intro N
        obtain ⟨v, _, hK⟩ := yieldsIn_of_qOp (hor N) ((h0 N).2 i (hir N))
        have e : a.put o.dst v = a.put o.dst v0 := put_same fun s hs' => by
          rw [← f0 s hs', ← q_fin _ _ _ hK s (later N s hs')]
          exact hA i o s N ho' him hEi hs'
        rwa [e] at hK
      have all1 : ∀ N X, Cs N X → wpAnyQ P .any (b N).toArray X (fun a' => a' = A N) fuel (lp.setIfInBounds i true) (a.put o.dst v0) := by
        intro N X hX
        obtain ⟨v, _, hK⟩ := yieldsIn_of_qOp (hor N) ((h1 N X hX).2 i (hir N))
        have e : a.put o.dst v = a.put o.dst v0 := put_same fun s hs' => by
          rw [← f0 s hs', ← q_fin _ _ _ hK s (later N s hs')]
          exact hA i o s N ho' him hEi hs'
        rwa [e] at hK
      refine wp_of_yields ho ((sim 0).wanted ok.ml a o (ok.guards i o ho')) hy0 hD (fun w' hw' => ?_)
      rw [set_app lp _ i (by omega)]
      exact ih _ _ w' (by simp [hs]) (by have := unl_set lp i hun; omega) (by rw [getD_set_ne true hij]; exact hj) (hInv lp i hI (.inl hEi)) (fun k hk hne => (hoth k hk hne).imp (fun q => getD_set_true q) id) hw' all1 all0 (fun N => by rw [hsz N, put_size])
theorem set2_get (l l' : List Value) (d d2 s : Nat) (h : (l.set d undef).set d2 undef = (l'.set d undef).set d2 undef) (h1 : s ≠ d) (h2 : s ≠ d2) : l[s]? = l'[s]? := by
  have := congrArg (fun x => x[s]?) h
  simpa [List.getElem?_set_ne (Ne.symm h1), List.getElem?_set_ne (Ne.symm h2)] using this
theorem ap_region {id : Nat} {l : List Oper} (m j k : Nat) {oj ok' : Oper} (ok : AlOk l m j oj) (ok2 : AlOk l m k ok') (hjk : j ≠ k) (hwt : ok'.after.any (fun e => Region.binds .any e && e.on == j) = true)
    {D : World → Prop} {C1 : Nat → World → Prop} {C2 : Nat → Nat → World → Prop} {Q : Exit → Act → World → Prop} {a : Act} {w : World} (ds : List (Option Tmp)) (vals : Nat → Nat → List Value) (v1 v2 : Nat → Value) (d d2 : Nat) (rd1 rd : List Nat) (hm : P.follows .mixedOrders = true)
    (hlex : ∀ N M, Region.lexB .any (rep (rep (l.take m) k (v2 M)) j (v1 N)).toArray = true)
    (hd : oj.dst = some d) (hd2 : ok'.dst = some d2) (hA : ∀ N M, (((putAll a ds (vals N M)).tmps.toList.set d undef).set d2 undef) = (((putAll a ds (vals 0 0)).tmps.toList.set d undef).set d2 undef)) (hA1 : ∀ N M, (putAll a ds (vals N M)).tmps[d]? = some (v1 N)) (hA2 : ∀ N M, (putAll a ds (vals N M)).tmps[d2]? = some (v2 M))
    (hrd1 : readB l m oj rd1 = true) (hrd : readB l m ok' rd = true) (hr1 : ∀ s ∈ rd1, s ≠ d ∧ s ≠ d2) (hr2 : d2 ∉ rd)
    (h1 : ∀ w (a' : Act), D w → (∀ s ∈ rd1, a'.tmps[s]? = (putAll a ds (vals 0 0)).tmps[s]?) → ∀ (K : Act → World → Prop) Q', (∀ N w', C1 N w' → K (a'.put oj.dst (v1 N)) w') → oj.wp P a' w K Q')
    (h2 : ∀ N w (a' : Act), C1 N w → (∀ s ∈ rd, a'.tmps[s]? = (putAll a ds (vals N 0)).tmps[s]?) → ∀ (K : Act → World → Prop) Q', (∀ M w', C2 N M w' → K (a'.put ok'.dst (v2 M)) w') → ok'.wp P a' w K Q')
    (hD : D w.drew)
    (hwalk : ∀ N M (X : World → Prop), (X = D ∨ X = C1 N ∨ X = C2 N M) → wpQuiet P (rep (rep (l.take m) k (v2 M)) j (v1 N)).toArray X (fun a' => a' = putAll a ds (vals N M)) (rep (rep (l.take m) k (v2 M)) j (v1 N)) a)
    (hpost : ∀ N M w, C2 N M w → wpList P l.toArray Q (l.drop m) (putAll a ds (vals N M)) w) : (Code.region id l.toArray true).wp P Q a w := by
  refine wp_region_any hm ?_
  have hml := ok.ml
  have any : ∀ N M X, (X = D ∨ X = C1 N ∨ X = C2 N M) → wpAnyQ P .any (rep (rep (l.take m) k (v2 M)) j (v1 N)).toArray X (fun a' => a' = putAll a ds (vals N M)) m (Array.replicate m false) a := by
    intro N M X hX
    have hB := hlex N M
    simp only [Region.lexB, Bool.and_eq_true] at hB
    have hlen : (rep (rep (l.take m) k (v2 M)) j (v1 N)).length = m := by rw [rep_len, rep_len, List.length_take]; omega
    have := wpAnyQ_lex (C := X) (md := .any) hB.1 (rep (rep (l.take m) k (v2 M)) j (v1 N)) 0 (Array.replicate m false) a (by simp) (by have := hB.2; simpa [hlen] using this) (hwalk N M X hX)
    rwa [hlen] at this
  have hu : unl (Array.replicate m false) = m := by unfold unl; simp
  have same : ∀ N M s, s ≠ d → s ≠ d2 → (putAll a ds (vals N M)).tmps[s]? = (putAll a ds (vals 0 0)).tmps[s]? := fun N M s q1 q2 => by
    have := set2_get _ _ d d2 s (hA N M) q1 q2
    simpa using this
  have hE : ∀ (i : Nat) o s N M, l[i]? = some o → i < m → (i == j || i == k) = false → o.dst = some s → (putAll a ds (vals N M)).tmps[s]? = (putAll a ds (vals 0 0)).tmps[s]? := fun i o s N M ho hi he hs => by
    simp only [Bool.or_eq_false_iff, beq_eq_false_iff_ne] at he
    refine same N M s (fun e => he.1 ?_) (fun e => he.2 ?_)
    · exact ok.dst i j o oj s ho ok.here hi ok.jm hs (by rw [hd, e])
    · exact ok2.dst i k o ok' s ho ok2.here hi ok2.jm hs (by rw [hd2, e])
  obtain ⟨ew, hew1, hew2⟩ := Array.any_eq_true'.mp hwt
  simp only [Bool.and_eq_true, beq_iff_eq] at hew2
  have d0 : decN 0 = (0, 0) := rfl
  have main := gpend2 (P := P) (Q := Q) ok (b := fun L => rep (rep (l.take m) k (v2 (decN L).2)) j (v1 (decN L).1)) (E := fun i => i == j || i == k) (fun N => sim_two l m j k hml _ _) (D := D) (C1 := fun L => C1 (decN L).1) (Cs := fun L X => X = C1 (decN L).1 ∨ X = C2 (decN L).1 (decN L).2) (A := fun L => putAll a ds (vals (decN L).1 (decN L).2)) (val := fun L => v1 (decN L).1) (rd := rd1)
    (fun lp => lp.getD k true = false) (fun lp i h hi => by
      have : i ≠ k := by
        intro e
        rcases hi with q | q
        · simp [e] at q
        · exact hjk (by rw [← q, e])
      rw [getD_set_ne true this]; exact h)
    (by simp) (fun i o s N ho hi he hs => by rw [d0]; exact hE i o s _ _ ho hi he hs) (fun s N hs _ => by
      rw [hd] at hs
      cases hs
      exact hA1 _ _) (read_of hrd1) (fun w a' hw hr K Q' hK => h1 w a' hw (fun s hs => by have := hr s hs; rw [d0] at this; exact this) K Q' (fun N w' hC => by
        obtain ⟨L, hL⟩ := decN_ex N 0
        have := hK L w' (by rw [hL]; exact hC)
        rw [hL] at this
        exact this))
    (fun L fuel lp a1 w1 hs hu' hj hI hz hC hX =>
      gpend2 (P := P) (Q := Q) ok2 (b := fun M => rep (rep (l.take m) k (v2 M)) j (v1 (decN L).1)) (E := fun i => i == j || i == k) (fun _ => sim_two l m j k hml _ _) (D := C1 (decN L).1) (C1 := fun M => C2 (decN L).1 M) (Cs := fun M X => X = C2 (decN L).1 M) (A := fun M => putAll a ds (vals (decN L).1 M)) (val := v2) (rd := rd)
        (fun lp => lp.getD j false = true) (fun lp i h _ => getD_set_true h) (by simp) (fun i o s N' ho hi he hs => (hE i o s _ _ ho hi he hs).trans (hE i o s _ _ ho hi he hs).symm) (fun s N' hs _ => by
          rw [hd2] at hs
          cases hs
          exact hA2 _ _) (read_of hrd)
        (fun w' a' hw hr K Q' hK => h2 _ w' a' hw hr K Q' hK)
        (fun M fuel lp a2 w2 hs hu hk hI hz hC hX => gdone ok.toQpOk (sim_two l m j k hml _ _) (fun w3 h3 => hpost _ M w3 h3) fuel lp a2 w2 hs hu (fun i hi => by
          simp only [Bool.or_eq_true, beq_iff_eq] at hi
          rcases hi with e | e
          · rw [e]; exact hI
          · rw [e]; exact hk) hC (hX M _ rfl rfl))
        fuel lp a1 w1 hs hu' hI hj (fun i hi hne => .inl (by
          have : i = j := by simpa [hne] using hi
          rw [this]; exact hj)) hC (fun M X hX' => by
            obtain ⟨L', hL'⟩ := decN_ex (decN L).1 M
            have := hX L' X (by simp only [hL']) (.inr (by rw [hL']; exact hX'))
            rw [hL'] at this
            exact this) (fun M => by
            obtain ⟨L', hL'⟩ := decN_ex (decN L).1 M
            have := hX L' (C1 (decN L).1) (by simp only [hL']) (.inl (by simp only [hL']))
            rw [hL'] at this
            exact this) (fun M => by rw [← hz, putAll_size, putAll_size]))
    m (Array.replicate m false) a w.drew (by simp) hu (by
      rw [Array.getD_eq_getD_getElem?]
      have := ok.jm
      simp [this]) (by
      rw [Array.getD_eq_getD_getElem?]
      have := ok2.jm
      simp [this]) (fun i hi hne => .inr ⟨ok', by
        have : i = k := by simpa [hne] using hi
        rw [this]; exact ok2.here, ew, hew1, hew2.1, hew2.2⟩) hD (fun L X hX => any _ _ X (.inr hX)) (fun L => any _ _ D (.inl rfl)) (fun _ => putAll_size _ _ _)
  have e1 : m + (l.length - m) = l.toArray.size := by simp; omega
  have e2 : Array.replicate m false ++ Array.replicate (l.length - m) false = Array.replicate l.toArray.size false := by
    rw [Array.replicate_append_replicate]; congr 1
  rw [e1, e2] at main
  exact main
end
end Go.Proofs.Ytnaghiipfgdimaa
/-
  What the call of the grower's lay does.
-/
namespace Go.Proofs.Ytnaghiipfgdimaa
open Go.RowKit
set_option linter.unusedSimpArgs false
set_option linter.unusedVariables false

/-- A row of so many, its block and its room two letters in one. -/
def valG (n N : Nat) : Value := .slice (some ⟨(decN N).1, 0, none⟩) n (decN N).2
theorem news1 {W : World} {N : Nat} {v : Value} (h : W.cell? ⟨N, 0, none⟩ = some v) : ∀ j u, [v][j]? = some u → W.cell? ((⟨N, 0, none⟩ : Addr).add j) = some u := by
  intro j u hj
  rw [addA, Nat.zero_add]
  match j, hj with
  | 0, hj => simp at hj; subst hj; exact h
def cellN (x : Nd) : List Value := [.int .i32 x.word, .int .i32 x.high, .int .i32 x.count, .int .u16 x.hop, .int .u8 x.length, .int .u8 x.height]
theorem news6 {W : World} {N : Nat} {x : Nd} (h : AtN W N 0 x) : ∀ j u, (cellN x)[j]? = some u → W.cell? ((⟨N, 0, none⟩ : Addr).add j) = some u := by
  obtain ⟨a0, a1, a2, a3, a4, a5⟩ := h
  intro j u hj
  rw [addA, Nat.zero_add]
  unfold cellN at hj
  match j, hj with
  | 0, hj => simp at hj; subst hj; exact a0
  | 1, hj => simp at hj; subst hj; exact a1
  | 2, hj => simp at hj; subst hj; exact a2
  | 3, hj => simp at hj; subst hj; exact a3
  | 4, hj => simp at hj; subst hj; exact a4
  | 5, hj => simp at hj; subst hj; exact a5
/-- The cells of the grower and of the tree. -/
def GwC (W : World) (G B : Nat) (F : Int) (vn vw vy : Value) : Prop := W.cell? ⟨G, 0, none⟩ = some (.pointer (some ⟨B, 0, none⟩)) ∧ W.cell? ⟨G, 1, none⟩ = some vy ∧ W.frozen? ⟨G, 1, none⟩ = false ∧ W.cell? ⟨B, 0, none⟩ = some (.int .i64 F) ∧ W.cell? ⟨B, 1, none⟩ = some vn ∧ W.cell? ⟨B, 2, none⟩ = some vw ∧ W.frozen? ⟨B, 1, none⟩ = false ∧ W.frozen? ⟨B, 2, none⟩ = false
/-- What a grower's method leaves as it was: all below base, and all else that was there but the grower, the tree, the nodes and the way. -/
def Bw (w W : World) (base G B : Nat) (vn vy : Value) : Prop := Below base w W ∧ w.heap.size ≤ W.heap.size ∧ ∀ z, z < w.heap.size → z ≠ G → z ≠ B → vn.ownBlock ≠ some z → vy.ownBlock ≠ some z → W.heap[z]? = w.heap[z]?
section
variable {w W W' : World} {base G B : Nat} {vn vy : Value}
theorem Bw.refl (h : base ≤ w.heap.size) : Bw w w base G B vn vy := ⟨(Below.refl w.heap.size w).mono h, Nat.le_refl _, fun _ _ _ _ _ _ => rfl⟩
theorem Bw.below (k : Bw w W base G B vn vy) (hb : Below W.heap.size W W') (h : base ≤ W.heap.size) : Bw w W' base G B vn vy :=
  ⟨k.1.trans (hb.mono h), Nat.le_trans k.2.1 hb.size, fun z a b c d e => by rw [hb.block z (Nat.lt_of_lt_of_le a k.2.1)]; exact k.2.2 z a b c d e⟩
theorem Bw.drewN (k : Bw w W base G B vn vy) (h : base ≤ W.heap.size) (n : Nat) : Bw w (W.drewN n) base G B vn vy := k.below (below_drewN (Below.refl _ _) n) h
theorem Bw.grown (k : Bw w W base G B vn vy) {row : Option Nat} (hg : W.grownBy W' row) (hbl : Below base w W') (hr : ∀ z, row = some z → z < w.heap.size → vn.ownBlock = some z ∨ vy.ownBlock = some z) : Bw w W' base G B vn vy :=
  ⟨hbl, Nat.le_trans k.2.1 hg.size, fun z a b c d e => by
    rw [hg.block z (Nat.lt_of_lt_of_le a k.2.1) (fun q => by
      rcases hr z q.symm a with h | h
      · exact d h
      · exact e h)]
    exact k.2.2 z a b c d e⟩
theorem Bw.set (k : Bw w W base G B vn vy) {g : Nat} (o : Nat) (u : Value) (hb : base ≤ g) (hr : g < w.heap.size → g = G ∨ g = B ∨ vn.ownBlock = some g ∨ vy.ownBlock = some g) : Bw w (W.setCell ⟨g, o, none⟩ u) base G B vn vy :=
  ⟨k.1.setCell (p := ⟨g, o, none⟩) hb u, by simpa using k.2.1, fun z a b c d e => by
    rw [setB u (fun q => by
      subst q
      rcases hr a with h | h | h | h
      · exact b h
      · exact c h
      · exact d h
      · exact e h)]
    exact k.2.2 z a b c d e⟩
end
/-- A row stands where it stood, or in a block that is new. -/
def Nb (w : World) (v v' : Value) : Prop := ∀ g, v'.ownBlock = some g → v.ownBlock = some g ∨ w.heap.size ≤ g
theorem Nb.of {w : World} {v : Value} {g n c : Nat} (h : v.ownBlock = some g ∨ w.heap.size ≤ g) : Nb w v (.slice (some ⟨g, 0, none⟩) n c) := fun z e => by
  have e : g = z := by simpa [Value.ownBlock] using e
  subst e; exact h
section
variable {w W W' : World} {base G B g cap m : Nat} {F : Int} {L : List Nd} {ws : List (BitVec 128)} {y : List Nat} {vn vw vy vy0 : Value} {x : Nd}
theorem GwC.heap (k : GwC W G B F vn vw vy) (hG : W'.heap[G]? = W.heap[G]?) (hB : W'.heap[B]? = W.heap[B]?) : GwC W' G B F vn vw vy := by
  unfold GwC at *
  simpa only [cellB hG, cellB hB, frozB hG, frozB hB] using k
end
theorem Try.infoI8 : (Try.prog.info? 3).map (fun i => (i.zero, i.size, i.bytes)) = some (some (.int .i64 0), 1, 8) := by kernel_rfl
theorem info_of {P : Program} {t : TypeId} {z : Value} {s b : Nat} (h : (P.info? t).map (fun i => (i.zero, i.size, i.bytes)) = some (some z, s, b)) : ∃ i, P.info? t = some i ∧ i.zero = some z ∧ i.size = s ∧ i.bytes = b := by
  cases e : P.info? t with
  | none => rw [e] at h; cases h
  | some i =>
    rw [e] at h
    simp only [Option.map_some, Option.some.injEq, Prod.mk.injEq] at h
    exact ⟨i, rfl, h.1, h.2.1, h.2.2⟩
end Go.Proofs.Ytnaghiipfgdimaa
/-
  What the call of the grower's back does.
-/
namespace Go.Proofs.Ytnaghiipfgdimaa
open Go.RowKit
set_option linter.unusedSimpArgs false
set_option linter.unusedVariables false

def nd8 (L : List Nd) (i : Nat) : Nd := L.getD i Nd.none
theorem nd8_in {L : List Nd} {i : Nat} (h : i < L.length) : nd8 L i = L[i] := by simp [nd8, h]
theorem rowNd_len : ∀ L, (rowNd L).length = L.length * 6
  | [] => rfl
  | x :: L => by simp only [rowNd, List.length_cons, rowNd_len L]; omega
theorem rowNd_get : ∀ (L : List Nd) (k : Nat) (hk : k < L.length), (rowNd L)[k * 6 + 2]? = some (.int .i32 L[k].count) ∧ (rowNd L)[k * 6 + 5]? = some (.int .u8 L[k].height)
  | x :: L, 0, _ => ⟨rfl, rfl⟩
  | x :: L, k + 1, hk => by
    have := rowNd_get L k (by simpa using hk)
    rw [show (k + 1) * 6 + 2 = k * 6 + 2 + 6 by omega, show (k + 1) * 6 + 5 = k * 6 + 5 + 6 by omega]
    exact this
theorem rowNd_cnt : ∀ (L : List Nd) (k : Nat) (hk : k < L.length) (c : Int), (rowNd L).set (k * 6 + 2) (.int .i32 c) = rowNd (L.set k { L[k] with count := c })
  | x :: L, 0, _, c => rfl
  | x :: L, k + 1, hk, c => by
    have := rowNd_cnt L k (by simpa using hk) c
    rw [show (k + 1) * 6 + 2 = k * 6 + 2 + 6 by omega]
    simp only [rowNd, List.set_cons_succ, List.getElem_cons_succ]
    rw [← this]
theorem rowNd_hgt : ∀ (L : List Nd) (k : Nat) (hk : k < L.length) (c : Int), (rowNd L).set (k * 6 + 5) (.int .u8 c) = rowNd (L.set k { L[k] with height := c })
  | x :: L, 0, _, c => rfl
  | x :: L, k + 1, hk, c => by
    have := rowNd_hgt L k (by simpa using hk) c
    rw [show (k + 1) * 6 + 5 = k * 6 + 5 + 6 by omega]
    simp only [rowNd, List.set_cons_succ, List.getElem_cons_succ]
    rw [← this]
theorem rowIn_len : ∀ l, (rowIn l).length = l.length
  | [] => rfl
  | x :: l => by simp only [rowIn, List.length_cons, rowIn_len l]
theorem rowIn_get : ∀ (l : List Nat) (k : Nat) (hk : k < l.length), (rowIn l)[k]? = some (.int .i64 (l[k] : Int))
  | x :: l, 0, _ => rfl
  | x :: l, k + 1, hk => rowIn_get l k (by simpa using hk)
theorem cells8 {W : World} {base e size n g cap : Nat} {xs : List Value} (h : W.ownsRow base e size (.slice (some ⟨g, 0, none⟩) n cap) n xs) {j : Nat} {u : Value} (hj : xs[j]? = some u) : W.cell? ⟨g, j, none⟩ = some u ∧ W.frozen? ⟨g, j, none⟩ = false := by
  have f := h.cells (g := g) rfl j u hj
  rw [addA, Nat.zero_add] at f
  refine ⟨f, ?_⟩
  rcases h.2 with ⟨e0, _⟩ | ⟨g', cap', cur, e0, hb, hg, hnc, hm, hs, ht⟩
  · cases e0
  · injection e0 with e1 _ e3
    injection e1 with e1
    injection e1 with e1
    subst e1
    simp [World.frozen?, hg]
section
variable {W : World} {base G B : Nat} {F : Int} {L : List Nd} {ws : List (BitVec 128)} {y : List Nat} {vw vy : Value} {g cap : Nat}
end
/-- What a node above reckons with when one below it is left. -/
def bk1 (L : List Nd) (p q : Nat) : List Nd := L.set p { nd8 L p with count := IntKind.i32.wrap ((nd8 L p).count + (nd8 L q).count), height := if (nd8 L p).height < IntKind.u8.wrap ((nd8 L q).height + 1) then IntKind.u8.wrap ((nd8 L q).height + 1) else (nd8 L p).height }
theorem bk1_len (L : List Nd) (p q : Nat) : (bk1 L p q).length = L.length := by simp [bk1]
theorem bk1_eq (L : List Nd) (p q : Nat) (hp : p < L.length) (hq : q < L.length) (c h : Int) (hc : c = IntKind.i32.wrap (L[p].count + L[q].count)) (L2 : List Nd) (h2 : L2 = L.set p { L[p] with count := c }) (hp2 : p < L2.length) (hq2 : q < L2.length) (hh : h = if L2[p].height < IntKind.u8.wrap (L2[q].height + 1) then IntKind.u8.wrap (L2[q].height + 1) else L2[p].height) :
    L2.set p { L2[p] with height := h } = bk1 L p q := by
  have e1 : L2[p].height = L[p].height := by subst h2; simp
  have e2 : L2[q].height = L[q].height := by
    subst h2
    by_cases e : p = q
    · subst e; simp
    · simp [List.getElem_set_ne e]
  have e3 : L2[p] = { L[p] with count := c } := by subst h2; simp
  unfold bk1
  rw [nd8_in hp, nd8_in hq, e3, hh, e1, e2, hc]
  subst h2
  simp
/-- The way (its end first) is left down to a length. -/
def bkY (len : Nat) : List Nd → List Nat → List Nd × List Nat
  | L, [] => (L, [])
  | L, [p] => (L, [p])
  | L, q :: p :: r => if len < r.length + 1 then bkY len (bk1 L p q) (p :: r) else (L, q :: p :: r)
end Go.Proofs.Ytnaghiipfgdimaa
/-
  Plain facts for the grower's down: what is written into a node, blocks that are told apart by what they hold, what down makes of nodes and way.
-/
namespace Go.Proofs.Ytnaghiipfgdimaa
open Go.RowKit
set_option linter.unusedSimpArgs false
set_option linter.unusedVariables false

theorem rowNd_hig : ∀ (L : List Nd) (k : Nat) (hk : k < L.length) (c : Int), (rowNd L).set (k * 6 + 1) (.int .i32 c) = rowNd (L.set k { L[k] with high := c })
  | x :: L, 0, _, c => rfl
  | x :: L, k + 1, hk, c => by
    have := rowNd_hig L k (by simpa using hk) c
    rw [show (k + 1) * 6 + 1 = k * 6 + 1 + 6 by omega]
    simp only [rowNd, List.set_cons_succ, List.getElem_cons_succ]
    rw [← this]
theorem rowNd_hop : ∀ (L : List Nd) (k : Nat) (hk : k < L.length) (c : Int), (rowNd L).set (k * 6 + 3) (.int .u16 c) = rowNd (L.set k { L[k] with hop := c })
  | x :: L, 0, _, c => rfl
  | x :: L, k + 1, hk, c => by
    have := rowNd_hop L k (by simpa using hk) c
    rw [show (k + 1) * 6 + 3 = k * 6 + 3 + 6 by omega]
    simp only [rowNd, List.set_cons_succ, List.getElem_cons_succ]
    rw [← this]
theorem rowNd_all : ∀ (L : List Nd) (k : Nat) (hk : k < L.length), (rowNd L)[k * 6]? = some (.int .i32 L[k].word) ∧ (rowNd L)[k * 6 + 1]? = some (.int .i32 L[k].high) ∧ (rowNd L)[k * 6 + 2]? = some (.int .i32 L[k].count) ∧ (rowNd L)[k * 6 + 3]? = some (.int .u16 L[k].hop) ∧ (rowNd L)[k * 6 + 4]? = some (.int .u8 L[k].length) ∧ (rowNd L)[k * 6 + 5]? = some (.int .u8 L[k].height)
  | x :: L, 0, _ => ⟨rfl, rfl, rfl, rfl, rfl, rfl⟩
  | x :: L, k + 1, hk => by
    have := rowNd_all L k (by simpa using hk)
    rw [show (k + 1) * 6 = k * 6 + 6 by omega, show k * 6 + 6 + 1 = k * 6 + 1 + 6 by omega, show k * 6 + 6 + 2 = k * 6 + 2 + 6 by omega, show k * 6 + 6 + 3 = k * 6 + 3 + 6 by omega, show k * 6 + 6 + 4 = k * 6 + 4 + 6 by omega, show k * 6 + 6 + 5 = k * 6 + 5 + 6 by omega]
    exact this
/-- A row's block holds what the row holds: so it is no block that holds something else. -/
theorem own_not {W : World} {base e size n : Nat} {v : Value} {xs : List Value} (h : W.ownsRow base e size v n xs) {z : Nat} {cs : Array Value} {T : TypeId} (hz : W.heap[z]? = some (.cells cs T)) (he : e ≠ T) : v.ownBlock ≠ some z := by
  intro q
  rcases h.2 with ⟨e0, _⟩ | ⟨g, cap, cur, e0, hb, hg, rest⟩
  · rw [e0] at q; cases q
  · rw [e0] at q
    have q : g = z := by simpa [Value.ownBlock] using q
    subst q
    rw [hg] at hz
    injection hz with hz
    injection hz with _ h2 _
    exact he h2
theorem at_block {W : World} {z : Nat} {cs : Array Value} {T : TypeId} (hz : W.heap[z]? = some (.cells cs T)) (j : Nat) (u : Value) (hj : cs[j]? = some u) : W.cell? ⟨z, j, none⟩ = some u := by
  simp [World.cell?, hz, hj]
/-- The node above learns where its kid by 1 will stand. -/
def hiS (x : BitVec 128) (L : List Nd) (y : List Nat) : List Nd := if bitZ x ((y.length : Int) - 1) = 1 then L.set (y.getD (y.length - 1) 0) { nd8 L (y.getD (y.length - 1) 0) with high := IntKind.i32.wrap (L.length : Int) } else L
theorem hiS_len (x : BitVec 128) (L : List Nd) (y : List Nat) : (hiS x L y).length = L.length := by unfold hiS; split <;> simp
/-- What down lays: so many nodes, of the word at place wn. -/
def dnS (wn : Int) (x : BitVec 128) : Nat → List Nd × List Nat → List Nd × List Nat
  | 0, s => s
  | f + 1, s => dnS wn x f (hiS x s.1 s.2 ++ [⟨wn, 0, 0, 0, (s.2.length : Int), 0⟩], s.2 ++ [s.1.length])
theorem dnS_len (wn : Int) (x : BitVec 128) : ∀ f s, (dnS wn x f s).1.length = s.1.length + f ∧ (dnS wn x f s).2.length = s.2.length + f
  | 0, s => ⟨rfl, rfl⟩
  | f + 1, s => by
    have := dnS_len wn x f (hiS x s.1 s.2 ++ [⟨wn, 0, 0, 0, (s.2.length : Int), 0⟩], s.2 ++ [s.1.length])
    simp only [List.length_append, List.length_singleton, hiS_len] at this
    simp only [dnS]
    omega
theorem dnS_way (wn : Int) (x : BitVec 128) : ∀ f s, (∀ i ∈ s.2, i < s.1.length) → ∀ i ∈ (dnS wn x f s).2, i < (dnS wn x f s).1.length
  | 0, s, h => h
  | f + 1, s, h => by
    simp only [dnS]
    refine dnS_way wn x f _ ?_
    intro i hi
    simp only [List.mem_append, List.mem_singleton] at hi
    simp only [List.length_append, List.length_singleton, hiS_len]
    rcases hi with hi | hi
    · have := h i hi; omega
    · omega
/-- The next hop, and one route more, at the end of the way. -/
def dnE (L : List Nd) (p : Nat) (h : Int) : List Nd := L.set p { nd8 L p with hop := IntKind.u16.wrap h, count := IntKind.i32.wrap ((nd8 L p).count + 1) }
/-- What down makes of nodes and way. -/
def dnW (wn : Int) (x : BitVec 128) (n : Nat) (h : Int) (L : List Nd) (y : List Nat) : List Nd × List Nat :=
  let s := dnS wn x (n + 1 - y.length) (L, y)
  (dnE s.1 (s.2.getD n 0) h, s.2)
theorem dnE_eq (L : List Nd) (p : Nat) (hp : p < L.length) (h : Int) (L2 : List Nd) (h2 : L2 = L.set p { L[p] with hop := IntKind.u16.wrap h }) (hp2 : p < L2.length) (c : Int) (hc : c = IntKind.i32.wrap (L2[p].count + 1)) :
    L2.set p { L2[p] with count := c } = dnE L p h := by
  have e3 : L2[p] = { L[p] with hop := IntKind.u16.wrap h } := by subst h2; simp
  unfold dnE
  rw [nd8_in hp, hc, e3]
  subst h2
  simp
end Go.Proofs.Ytnaghiipfgdimaa
/-
  What a grower's down leaves as it was: how the parts of it go together.
-/
namespace Go.Proofs.Ytnaghiipfgdimaa
open Go.RowKit
set_option linter.unusedSimpArgs false
set_option linter.unusedVariables false

/-- All below base, and all else that was there but the grower, the tree and their three rows. -/
def B3 (w W : World) (base G B : Nat) (vn vw vy : Value) : Prop := Below base w W ∧ w.heap.size ≤ W.heap.size ∧ ∀ z, z < w.heap.size → z ≠ G → z ≠ B → vn.ownBlock ≠ some z → vw.ownBlock ≠ some z → vy.ownBlock ≠ some z → W.heap[z]? = w.heap[z]?
theorem Nb.refl (w : World) (v : Value) : Nb w v v := fun _ e => .inl e
theorem Nb.trans {w W : World} {v v1 v2 : Value} (h : Nb w v v1) (k : Nb W v1 v2) (hs : w.heap.size ≤ W.heap.size) : Nb w v v2 := fun g e => by
  rcases k g e with q | q
  · exact h g q
  · exact .inr (Nat.le_trans hs q)
theorem Nb.ne {w : World} {v v1 : Value} (h : Nb w v v1) {z : Nat} (hz : z < w.heap.size) (hn : v.ownBlock ≠ some z) : v1.ownBlock ≠ some z := fun e => by
  rcases h z e with q | q
  · exact hn q
  · omega
section
variable {w W W' : World} {base G B : Nat} {vn vw vy vn1 vw1 vy1 : Value}
theorem B3.refl (h : base ≤ w.heap.size) : B3 w w base G B vn vw vy := ⟨(Below.refl w.heap.size w).mono h, Nat.le_refl _, fun _ _ _ _ _ _ _ => rfl⟩
theorem B3.below (k : B3 w W base G B vn vw vy) (hb : Below W.heap.size W W') (h : base ≤ W.heap.size) : B3 w W' base G B vn vw vy :=
  ⟨k.1.trans (hb.mono h), Nat.le_trans k.2.1 hb.size, fun z a b c d e f => by rw [hb.block z (Nat.lt_of_lt_of_le a k.2.1)]; exact k.2.2 z a b c d e f⟩
theorem B3.bw (k : B3 w W base G B vn vw vy) (h : Bw W W' base G B vn1 vy1) (hn : Nb w vn vn1) (hy : Nb w vy vy1) : B3 w W' base G B vn vw vy :=
  ⟨k.1.trans h.1, Nat.le_trans k.2.1 h.2.1, fun z a b c d e f => by
    rw [h.2.2 z (Nat.lt_of_lt_of_le a k.2.1) b c (hn.ne a d) (hy.ne a f)]
    exact k.2.2 z a b c d e f⟩
theorem B3.grown (k : B3 w W base G B vn vw vy) {row : Option Nat} (hg : W.grownBy W' row) (hbl : Below base w W') (hr : ∀ z, row = some z → z < w.heap.size → vn.ownBlock = some z ∨ vw.ownBlock = some z ∨ vy.ownBlock = some z) : B3 w W' base G B vn vw vy :=
  ⟨hbl, Nat.le_trans k.2.1 hg.size, fun z a b c d e f => by
    rw [hg.block z (Nat.lt_of_lt_of_le a k.2.1) (fun q => by
      rcases hr z q.symm a with h | h | h
      · exact d h
      · exact e h
      · exact f h)]
    exact k.2.2 z a b c d e f⟩
theorem B3.set (k : B3 w W base G B vn vw vy) {g : Nat} (o : Nat) (u : Value) (hb : base ≤ g) (hr : g < w.heap.size → g = G ∨ g = B ∨ vn.ownBlock = some g ∨ vw.ownBlock = some g ∨ vy.ownBlock = some g) : B3 w (W.setCell ⟨g, o, none⟩ u) base G B vn vw vy :=
  ⟨k.1.setCell (p := ⟨g, o, none⟩) hb u, by simpa using k.2.1, fun z a b c d e f => by
    rw [setB u (fun q => by
      subst q
      rcases hr a with h | h | h | h | h
      · exact b h
      · exact c h
      · exact d h
      · exact e h
      · exact f h)]
    exact k.2.2 z a b c d e f⟩
/-- A block of one's own outlives a method of the grower. -/
theorem Bw.mine (k : Bw w W base G B vn vy) {z : Nat} {o : Obj} (hz : w.heap[z]? = some o) (hG : z ≠ G) (hB : z ≠ B) (hn : vn.ownBlock ≠ some z) (hy : vy.ownBlock ≠ some z) : W.heap[z]? = some o := by
  have hl : z < w.heap.size := by
    apply Classical.byContradiction; intro q
    rw [Array.getElem?_eq_none (by omega)] at hz; cases hz
  rw [k.2.2 z hl hG hB hn hy]; exact hz
end
end Go.Proofs.Ytnaghiipfgdimaa
/-
  What the call of the grower's down does.
-/
namespace Go.Proofs.Ytnaghiipfgdimaa
open Go.RowKit
set_option linter.unusedSimpArgs false
set_option linter.unusedVariables false

section
variable {w W : World} {base G B g cap R : Nat} {F : Int} {L : List Nd} {ws : List (BitVec 128)} {y : List Nat} {vn vw vy : Value} {x : BitVec 128} {o : Obj}
end
theorem Try.infoW8 : (Try.prog.info? 36).map (fun i => (i.zero, i.size, i.bytes)) = some (some (.agg #[.int .u64 0, .int .u64 0]), 2, 16) := by kernel_rfl
theorem news2 {W : World} {N : Nat} {a b : Value} (h : W.cell? ⟨N, 0, none⟩ = some a ∧ W.cell? ⟨N, 1, none⟩ = some b) : ∀ j u, [a, b][j]? = some u → W.cell? ((⟨N, 0, none⟩ : Addr).add j) = some u := by
  intro j u hj
  rw [addA, Nat.zero_add]
  match j, hj with
  | 0, hj => simp at hj; subst hj; exact h.1
  | 1, hj => simp at hj; subst hj; exact h.2
theorem hiS_yes {x : BitVec 128} {L : List Nd} {y : List Nat} {q p : Nat} (h : bitZ x (q : Int) = 1) (hq : y.length = q + 1) (hpe : p = y.getD q 0) (hp : p < L.length) (hl : L.length ≤ 1000000000) : hiS x L y = L.set p { L[p] with high := (L.length : Int) } := by
  unfold hiS
  have e : IntKind.i32.wrap (L.length : Int) = L.length := by rw [IntKind.wrap_i32]; omega
  rw [e]
  rw [show (y.length : Int) - 1 = (q : Int) by omega, if_pos h, show y.length - 1 = q by omega, ← hpe, nd8_in hp]
theorem hiS_no {x : BitVec 128} {L : List Nd} {y : List Nat} {q : Nat} (h : ¬ bitZ x (q : Int) = 1) (hq : y.length = q + 1) : hiS x L y = L := by
  unfold hiS
  rw [show (y.length : Int) - 1 = (q : Int) by omega, if_neg h]
def lenV8 : Option Value → Nat
  | some (.slice _ n _) => n
  | _ => 0
end Go.Proofs.Ytnaghiipfgdimaa
/-
  What a tree's questions tell: node, Hop, Height, Count, Kid.
-/
namespace Go.Proofs.Ytnaghiipfgdimaa
open Go.RowKit
set_option linter.unusedSimpArgs false
set_option linter.unusedVariables false

/-- A node's numbers are in their kinds' bounds. -/
def Nd.ok (x : Nd) : Prop := (0 ≤ x.word ∧ x.word ≤ 2147483647) ∧ (0 ≤ x.high ∧ x.high ≤ 2147483647) ∧ (0 ≤ x.count ∧ x.count ≤ 2147483647) ∧ (0 ≤ x.hop ∧ x.hop ≤ 65535) ∧ (0 ≤ x.length ∧ x.length ≤ 255) ∧ (0 ≤ x.height ∧ x.height ≤ 255)
theorem ndAt_ok {L : List Nd} (h : ∀ x ∈ L, x.ok) (n : Int) : (ndAt L n).ok := by
  have h0 : Nd.none.ok := by unfold Nd.none Nd.ok; decide
  unfold ndAt
  split
  · rw [List.getD_eq_getElem?_getD]
    cases e : L[n.toNat]? with
    | none => exact h0
    | some x => exact h x (List.mem_of_getElem? e)
  · exact h0
theorem ndAt_in {L : List Nd} (k : Nat) (hk : k < L.length) : ndAt L (k : Int) = L[k] := by
  unfold ndAt
  rw [if_pos (by omega), List.getD_eq_getElem?_getD, Int.toNat_natCast, List.getElem?_eq_getElem hk]
  rfl
theorem ndAt_out {L : List Nd} (n : Int) (h : isN L n = false) : ndAt L n = Nd.none := by
  unfold isN at h
  unfold ndAt
  split
  · rename_i c
    rw [List.getD_eq_getElem?_getD, List.getElem?_eq_none (by simp at h; have := h c; omega)]
    rfl
  · rfl
theorem AtN.new (w : World) (B : Nat) (x : Nd) (t : TypeId) (h : B = w.heap.size) : AtN (w.alloc (.cells #[.int .i32 x.word, .int .i32 x.high, .int .i32 x.count, .int .u16 x.hop, .int .u8 x.length, .int .u8 x.height] t)) B 0 x := by
  subst h
  refine ⟨?_, ?_, ?_, ?_, ?_, ?_⟩ <;> simp [go_sem]
/-- A node's kid. -/
def kidV (L : List Nd) (n bit : Int) : Int := if bit = 0 ∧ 0 < (ndAt L n).height ∧ n + 1 ≠ (ndAt L n).high then n + 1 else if bit = 1 ∧ 0 < (ndAt L n).high then (ndAt L n).high else -1
def CK (w1 : World) (N : Nat) (x : Nd) (W : World) : Prop := AtN W N 0 x ∧ Below w1.heap.size w1 W
end Go.Proofs.Ytnaghiipfgdimaa
