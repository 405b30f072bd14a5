/-
  Part 12 of the proof: 4 texts, one behind the other.
-/
import Derived.Test.YtmeaikmmhgmgnaaPart11
import Derived.Test.YtmeaikmmhgmgnaaPart6
/-
  Plain: blocks of routes, each in order, and two of them made one.
-/
namespace Go.Proofs.Ytmeaikmmhgmgnaa
open Go.RowKit
set_option linter.unusedSimpArgs false
set_option linter.unusedVariables false

def Blks (B : Nat) (L : List (List Rte)) : Prop := ∀ S ∈ L, S.length = B ∧ SrtL S
theorem Blks.len {B : Nat} : ∀ {L : List (List Rte)}, Blks B L → L.flatten.length = L.length * B
  | [], _ => by simp
  | S :: L, h => by
    have h1 := (h S List.mem_cons_self).1
    have h2 := Blks.len (L := L) (fun x hx => h x (List.mem_cons_of_mem _ hx))
    rw [List.flatten_cons, List.length_append, h1, h2, List.length_cons, Nat.succ_mul]
    omega
theorem Blks.snoc {B : Nat} {L : List (List Rte)} {S : List Rte} (h : Blks B L) (hl : S.length = B) (hs : SrtL S) : Blks B (L ++ [S]) := fun x hx => by
  rcases List.mem_append.mp hx with k | k
  · exact h x k
  · rw [List.mem_singleton.mp k]; exact ⟨hl, hs⟩
theorem Blks.tail {B : Nat} {L : List (List Rte)} {S : List Rte} (h : Blks B (S :: L)) : (S.length = B ∧ SrtL S) ∧ Blks B L := ⟨h S List.mem_cons_self, fun x hx => h x (List.mem_cons_of_mem _ hx)⟩
theorem isrt_len (D : List Rte) : (isrt D).length = D.length := by unfold isrt; rw [List.length_reverse, foldl_len]; simp
/-- The first rounds: some blocks are in order. -/
def Ph1 (D E : List Rte) (a : Nat) : Prop := ∃ L R, E = L.flatten ++ R ∧ Blks 20 L ∧ L.flatten.length = a ∧ SameK D E
/-- All blocks are in order. -/
def Ph2 (B : Nat) (D E : List Rte) : Prop := ∃ L T, E = L.flatten ++ T ∧ Blks B L ∧ SrtL T ∧ T.length < B ∧ SameK D E
/-- The first blocks are made one by twos. -/
def In2 (B : Nat) (D E : List Rte) (a : Nat) : Prop := ∃ L2 L1 T, E = L2.flatten ++ (L1.flatten ++ T) ∧ Blks (2 * B) L2 ∧ Blks B L1 ∧ SrtL T ∧ T.length < B ∧ L2.flatten.length = a ∧ SameK D E
theorem Ph1.zero (D : List Rte) : Ph1 D D 0 := ⟨[], D, by simp, fun _ h => by simp at h, by simp, SameK.refl _⟩
theorem ph1_cut {E P R : List Rte} {a b : Nat} (e : E = P ++ R) (ha : P.length = a) (hb : a ≤ b) : E.take a ++ isrt ((E.drop a).take (b - a)) ++ E.drop b = P ++ (isrt (R.take (b - a)) ++ R.drop (b - a)) := by
  subst e
  subst ha
  rw [List.take_left, List.drop_left, List.drop_append, List.drop_eq_nil_of_le hb, List.nil_append, List.append_assoc]
theorem ph1_same {D P R : List Rte} {k : Nat} (h : SameK D (P ++ R)) : SameK D (P ++ (isrt (R.take k) ++ R.drop k)) := h.trans ((SameK.refl P).app (by
  have := (isrt_spec (R.take k)).2.app (SameK.refl (R.drop k))
  rw [List.take_append_drop] at this
  exact this))
theorem Ph1.step {D E : List Rte} {a : Nat} (h : Ph1 D E a) (hb : a + 20 ≤ E.length) : Ph1 D (E.take a ++ isrt ((E.drop a).take (a + 20 - a)) ++ E.drop (a + 20)) (a + 20) := by
  obtain ⟨L, R, e, hB, hl, hs⟩ := h
  rw [ph1_cut e hl (Nat.le_add_right _ _)]
  have hR : (R.take (a + 20 - a)).length = 20 := by
    rw [e, List.length_append] at hb
    rw [List.length_take]; omega
  refine ⟨L ++ [isrt (R.take (a + 20 - a))], R.drop (a + 20 - a), by simp, hB.snoc (by rw [isrt_len, hR]) (isrt_spec _).1, ?_, ?_⟩
  · simp only [List.flatten_append, List.flatten_cons, List.flatten_nil, List.append_nil, List.length_append, isrt_len, hR, hl]
  · rw [e] at hs
    exact ph1_same hs
theorem Ph1.fin {D E : List Rte} {a n : Nat} (h : Ph1 D E a) (hn : E.length = n) (hb : ¬ a + 20 ≤ n) : a ≤ n ∧ Ph2 20 D (E.take a ++ isrt ((E.drop a).take (n - a)) ++ E.drop n) := by
  obtain ⟨L, R, e, hB, hl, hs⟩ := h
  have hE : a + R.length = n := by rw [← hn, e, List.length_append, hl]
  refine ⟨by omega, ?_⟩
  rw [ph1_cut e hl (by omega)]
  have hR : R.take (n - a) = R := List.take_of_length_le (by omega)
  have hR2 : R.drop (n - a) = [] := List.drop_eq_nil_of_le (by omega)
  rw [e] at hs
  have := ph1_same (k := n - a) hs
  rw [hR, hR2, List.append_nil] at this ⊢
  exact ⟨L, isrt R, rfl, hB, (isrt_spec _).1, by rw [isrt_len]; omega, this⟩
theorem Ph2.start {B : Nat} {D E : List Rte} (h : Ph2 B D E) : In2 B D E 0 := by
  obtain ⟨L, T, e, hB, hT, hl, hs⟩ := h
  exact ⟨[], L, T, by simpa using e, fun _ h => by simp at h, hB, hT, hl, by simp, hs⟩
theorem same_mid {D P X Y R S : List Rte} (h : SameK D (P ++ (X ++ (Y ++ R)))) (k : SameK (X ++ Y) S) : SameK D (P ++ (S ++ R)) := h.trans ((SameK.refl P).app (by
  have := k.app (SameK.refl R)
  rw [List.append_assoc] at this
  exact this))
theorem In2.pair {B : Nat} {D E : List Rte} {a : Nat} (h : In2 B D E a) (hb : a + 2 * B ≤ E.length) : ∃ P X Y R, E = P ++ (X ++ (Y ++ R)) ∧ P.length = a ∧ X.length = B ∧ Y.length = B ∧ SrtL X ∧ SrtL Y ∧ ∀ S, S.length = X.length + Y.length → SrtL S → SameK (X ++ Y) S → In2 B D (P ++ (S ++ R)) (a + 2 * B) := by
  obtain ⟨L2, L1, T, e, h2, h1, hT, hl, ha, hs⟩ := h
  have hlen : a + (L1.length * B + T.length) = E.length := by rw [e, List.length_append, List.length_append, h1.len, ha]
  match L1, h1, e, hlen with
  | [], h1, e, hlen => simp at hlen; omega
  | [X], h1, e, hlen => simp at hlen; omega
  | X :: Y :: L1, h1, e, hlen =>
    obtain ⟨⟨x1, x2⟩, h1⟩ := h1.tail
    obtain ⟨⟨y1, y2⟩, h1⟩ := h1.tail
    have e' : E = L2.flatten ++ (X ++ (Y ++ (L1.flatten ++ T))) := by rw [e]; simp
    refine ⟨L2.flatten, X, Y, L1.flatten ++ T, e', ha, x1, y1, x2, y2, fun S s1 s2 s3 => ?_⟩
    rw [e'] at hs
    refine ⟨L2 ++ [S], L1, T, by simp, h2.snoc (by omega) s2, h1, hT, hl, ?_, same_mid hs s3⟩
    simp only [List.flatten_append, List.flatten_cons, List.flatten_nil, List.append_nil, List.length_append, ha]
    omega
theorem In2.last {B : Nat} {D E : List Rte} {a : Nat} (h : In2 B D E a) (hb : ¬ a + 2 * B ≤ E.length) (hm : a + B < E.length) : ∃ P X Y, E = P ++ (X ++ (Y ++ [])) ∧ P.length = a ∧ X.length = B ∧ 0 < Y.length ∧ SrtL X ∧ SrtL Y ∧ ∀ S, S.length = X.length + Y.length → SrtL S → SameK (X ++ Y) S → Ph2 (2 * B) D (P ++ (S ++ [])) := by
  obtain ⟨L2, L1, T, e, h2, h1, hT, hl, ha, hs⟩ := h
  have hlen : a + (L1.length * B + T.length) = E.length := by rw [e, List.length_append, List.length_append, h1.len, ha]
  match L1, h1, e, hlen with
  | [], h1, e, hlen => simp at hlen; omega
  | X :: Y :: L1, h1, e, hlen =>
    exfalso
    rw [List.length_cons, List.length_cons, Nat.succ_mul, Nat.succ_mul] at hlen
    omega
  | [X], h1, e, hlen =>
    obtain ⟨⟨x1, x2⟩, h1⟩ := h1.tail
    simp at hlen
    have e' : E = L2.flatten ++ (X ++ (T ++ [])) := by rw [e]; simp
    refine ⟨L2.flatten, X, T, e', ha, x1, by omega, x2, hT, fun S s1 s2 s3 => ?_⟩
    rw [e'] at hs
    exact ⟨L2, S, by simp, h2, s2, by omega, same_mid hs s3⟩
theorem In2.done {B : Nat} {D E : List Rte} {a : Nat} (hB : 0 < B) (h : In2 B D E a) (hb : ¬ a + 2 * B ≤ E.length) (hm : ¬ a + B < E.length) : Ph2 (2 * B) D E := by
  obtain ⟨L2, L1, T, e, h2, h1, hT, hl, ha, hs⟩ := h
  have hlen : a + (L1.length * B + T.length) = E.length := by rw [e, List.length_append, List.length_append, h1.len, ha]
  match L1, h1, e, hlen with
  | [], h1, e, hlen => exact ⟨L2, T, by simpa using e, h2, hT, by omega, hs⟩
  | X :: Y :: L1, h1, e, hlen =>
    exfalso
    rw [List.length_cons, List.length_cons, Nat.succ_mul, Nat.succ_mul] at hlen
    omega
  | [X], h1, e, hlen =>
    obtain ⟨⟨x1, x2⟩, h1⟩ := h1.tail
    simp at hlen
    have : T = [] := List.length_eq_zero_iff.mp (by omega)
    subst this
    exact ⟨L2, X, by simpa using e, h2, x2, by omega, hs⟩
theorem Ph2.fin {B : Nat} {D E : List Rte} (h : Ph2 B D E) (hn : ¬ B < E.length) : E = isrt D := by
  obtain ⟨L, T, e, hB, hT, hl, hs⟩ := h
  have hlen : L.length * B + T.length = E.length := by rw [e, List.length_append, hB.len]
  refine isrt_one ?_ hs
  match L, hB, e, hlen with
  | [], hB, e, hlen => rw [e]; simpa using hT
  | X :: Y :: L, hB, e, hlen =>
    exfalso
    rw [List.length_cons, List.length_cons, Nat.succ_mul, Nat.succ_mul] at hlen
    omega
  | [X], hB, e, hlen =>
    obtain ⟨⟨x1, x2⟩, hB⟩ := hB.tail
    simp at hlen
    have : T = [] := List.length_eq_zero_iff.mp (by omega)
    subst this
    rw [e]; simpa using x2
end Go.Proofs.Ytmeaikmmhgmgnaa
/-
  A region that draws its order and has two special operations, the second of which waits for the first: it makes a block, and fills it; what is read alone may come at any time.
-/
namespace Go.Proofs.Ytmeaikmmhgmgnaa
open Go.RowKit
set_option linter.unusedSimpArgs false
set_option linter.unusedVariables false

section
variable {P : Program}
/-- The walk's list and the region's: alike but for the operations themselves at some places. -/
structure Sim (b l : List Oper) (m : Nat) (E : Nat → Bool) : Prop where
  len : b.length = m
  same : ∀ i, i < m → ∀ o, l[i]? = some o → ∃ o', b[i]? = some o' ∧ o'.dst = o.dst ∧ o'.after = o.after ∧ o'.guard = o.guard ∧ (E i = false → o' = o)
theorem Sim.yield {b l : List Oper} {m : Nat} {E : Nat → Bool} (h : Sim b l m E) (hml : m ≤ l.length) (tmps : Array Value) (k : Nat) (hk : k < m) : yielded b.toArray tmps k = yielded l.toArray tmps k := by
  have hl : k < l.length := by omega
  obtain ⟨o2, q1, q2, -, -, -⟩ := h.same k hk l[k] (by simp [hl])
  unfold yielded
  simp only [List.getElem?_toArray, q1, List.getElem?_eq_getElem hl, Option.bind_some, q2]
theorem Sim.wanted {b l : List Oper} {m : Nat} {E : Nat → Bool} (h : Sim b l m E) (hml : m ≤ l.length) (a : Act) (o : Oper) (hlt : ∀ k c, o.guard = some (k, c) → k < m) : Region.wanted o (yielded b.toArray a.tmps) = Region.wanted o (yielded l.toArray a.tmps) := by
  unfold Region.wanted
  cases e : o.guard with
  | none => rfl
  | some kb =>
    obtain ⟨k, c⟩ := kb
    simp only
    rw [h.yield hml a.tmps k (hlt k c e)]
theorem Sim.ready {b l : List Oper} {m : Nat} {E : Nat → Bool} (h : Sim b l m E) (hml : m ≤ l.length) (hw : waitB l m = true) (lp : Array Bool) (hs : lp.size = m) (f : Nat) (hu : unl lp = f + 1) (i : Nat)
    (hi : i ∈ Region.ready .any l.toArray (lp ++ Array.replicate (l.length - m) false)) : i < m ∧ i ∈ Region.ready .any b.toArray lp := by
  obtain ⟨him, -⟩ := ready_pre l m m undef hml hw lp hs f hu i hi
  obtain ⟨hun, o, ho, hall⟩ := mem_ready.1 hi
  obtain ⟨o', q1, q2, q3, q4, -⟩ := h.same i him o (by simpa using ho)
  refine ⟨him, mem_ready.2 ⟨by rw [get_app_lt lp _ i (by omega)] at hun; exact hun, o', by simpa using q1, fun e he hb => ?_⟩⟩
  rw [q3] at he
  have := hall e he hb
  rwa [get_app_false] at this
theorem putAll_size : ∀ (ds : List (Option Tmp)) (vs : List Value) (a : Act), (putAll a ds vs).tmps.size = a.tmps.size
  | [], _, a => by cases ‹List Value› <;> rfl
  | d :: ds, [], a => rfl
  | d :: ds, v :: vs, a => by
    show (putAll (a.put d v) ds vs).tmps.size = _
    rw [putAll_size ds vs, put_size]
end
end Go.Proofs.Ytmeaikmmhgmgnaa
/-
  A region that draws its order, of whatever operations, by what is known of memory and of some numbers when some of them are done.
-/
namespace Go.Proofs.Ytmeaikmmhgmgnaa
open Go.RowKit
set_option linter.unusedSimpArgs false
set_option linter.unusedVariables false

section
variable {P : Program}

theorem putAll_other : ∀ (ds : List (Option Tmp)) (vs : List Value) (a : Act) (s : Nat), (∀ d ∈ ds, d ≠ some s) → (putAll a ds vs).tmps[s]? = a.tmps[s]?
  | [], vs, a, s, _ => by cases vs <;> rfl
  | d :: ds, [], a, s, _ => rfl
  | d :: ds, v :: vs, a, s, h => by
    rw [putAll, putAll_other ds vs (a.put d v) s (fun x hx => h x (List.mem_cons_of_mem _ hx))]
    exact put_other a d v s (h d (by simp))
theorem putAll_defers : ∀ (ds : List (Option Tmp)) (vs : List Value) (a : Act), (putAll a ds vs).defers = a.defers
  | [], vs, a => by cases vs <;> rfl
  | d :: ds, [], a => rfl
  | d :: ds, v :: vs, a => by
    rw [putAll, putAll_defers ds vs (a.put d v)]
    unfold Act.put
    cases d <;> rfl
/-- What stands in the slots when some operations are done. -/
structure Slt (l : List Oper) (a A : Act) (lp : Array Bool) (a' : Act) : Prop where
  don : ∀ (k : Nat) (o : Oper) (s : Nat), l[k]? = some o → lp.getD k false = true → o.dst = some s → a'.tmps[s]? = A.tmps[s]?
  oth : ∀ s, (∀ (k : Nat) (o : Oper), l[k]? = some o → lp.getD k false = true → o.dst ≠ some s) → a'.tmps[s]? = a.tmps[s]?
  siz : a'.tmps.size = a.tmps.size
  dfr : a'.defers = a.defers
theorem getD_set {lp : Array Bool} {i k : Nat} (h : (lp.setIfInBounds i true).getD k false = true) : k = i ∨ lp.getD k false = true := by
  by_cases e : k = i
  · exact .inl e
  · right
    rw [Array.getD_eq_getD_getElem?] at h ⊢
    rwa [Array.getElem?_setIfInBounds_ne (by omega)] at h
theorem getD_set_same {lp : Array Bool} {i : Nat} (h : i < lp.size) : (lp.setIfInBounds i true).getD i false = true := by
  rw [Array.getD_eq_getD_getElem?, Array.getElem?_setIfInBounds_self_of_lt h]
  rfl
def valO (A : Act) (o : Oper) : Value := ((o.dst).bind fun s => A.tmps[s]?).getD undef
theorem gh_any {γ : Type} {l : List Oper} (ok : QpOk l l.length l.length) (hgd : ∀ o ∈ l, o.guard = none) (hdst : ∀ (i k : Nat) (oi ok : Oper) (s : Nat), l[i]? = some oi → l[k]? = some ok → oi.dst = some s → ok.dst = some s → i = k) {Q : Exit → Act → World → Prop} {a : Act} (A : γ → Act) (hsz : ∀ g, (A g).tmps.size = a.tmps.size) (hdf : ∀ g, (A g).defers = a.defers) (hA : ∀ g s, (∀ o ∈ l, o.dst ≠ some s) → (A g).tmps[s]? = a.tmps[s]?) (R : Array Bool → γ → World → Prop)
    (hstep : ∀ (i : Nat) (o : Oper) (lp : Array Bool) (g : γ) (w' : World) (a' : Act), l[i]? = some o → lp.size = l.length → lp.getD i false = false → (∀ e ∈ o.after, Region.binds .any e = true → lp.getD e.on false = true) → R lp g w' → Slt l a (A g) lp a' →
      ∀ (K : Act → World → Prop) Q', (∀ g' w'', (∀ (k : Nat) (o : Oper) (s : Nat), l[k]? = some o → lp.getD k false = true → o.dst = some s → (A g').tmps[s]? = (A g).tmps[s]?) → R (lp.setIfInBounds i true) g' w'' → ∀ v, valO (A g') o = v → K (a'.put o.dst v) w'') → o.wp P a' w' K Q')
    (hpost : ∀ g w', R (Array.replicate l.length true) g w' → Q .normal (A g) w') :
    ∀ (fuel : Nat) (lp : Array Bool) (g : γ) (a' : Act) (w : World), lp.size = l.length → unl lp = fuel → R lp g w → Slt l a (A g) lp a' → wpAny P .any l.toArray Q fuel lp a' w := by
  intro fuel
  have fin : ∀ (lp : Array Bool) (g : γ) (a' : Act) (w : World), lp.size = l.length → unl lp = 0 → R lp g w → Slt l a (A g) lp a' → Q .normal a' w := by
    intro lp g a' w hs hu hR hS
    have e : lp = Array.replicate l.length true := by have := unl_zero lp hu; rwa [hs] at this
    rw [e] at hR hS
    have : a' = A g := by
      have ht : a'.tmps = (A g).tmps := by
        apply Array.ext_getElem?
        intro s
        by_cases h : ∃ (k : Nat) (o : Oper), l[k]? = some o ∧ o.dst = some s
        · obtain ⟨k, o, h1, h2⟩ := h
          have hk : k < l.length := (List.getElem?_eq_some_iff.mp h1).1
          exact hS.don k o s h1 (by simp [Array.getElem?_replicate, hk]) h2
        · have h' : ∀ o ∈ l, o.dst ≠ some s := by
            intro o ho e
            obtain ⟨k, hk, rfl⟩ := List.mem_iff_getElem.mp ho
            exact h ⟨k, l[k], List.getElem?_eq_getElem hk, e⟩
          rw [hA g s h']
          exact hS.oth s (fun k o h1 _ e => h ⟨k, o, h1, e⟩)
      have hd : a'.defers = (A g).defers := by rw [hS.dfr, hdf]
      cases a'
      cases hAg : A g
      rw [hAg] at ht hd
      simp only at ht hd
      rw [ht, hd]
    rw [this]
    exact hpost g w hR
  induction fuel with
  | zero =>
    intro lp g a' w hs hu hR hS
    refine ⟨?_, fin lp g a' w hs hu hR hS⟩
    have e : lp = Array.replicate l.length true := by have := unl_zero lp hu; rwa [hs] at this
    apply List.eq_nil_iff_forall_not_mem.mpr
    intro i hi
    obtain ⟨hun, o, ho, _⟩ := mem_ready.1 hi
    have hk : i < l.length := by
      have := (Array.getElem?_eq_some_iff.mp ho).1
      simpa using this
    rw [e] at hun
    simp [Array.getElem?_replicate, hk] at hun
  | succ fuel ih =>
    intro lp g a' w hs hu hR hS
    refine ⟨fun e => ?_, fun i hi => ?_⟩
    · obtain ⟨k, hk, hf⟩ := unl_some lp fuel hu
      have hne := some_ready ok lp hs k (by omega) hf
      rw [Nat.sub_self] at hne
      exact absurd (by simpa using e) hne
    · obtain ⟨hun, o, ho, hrd⟩ := mem_ready.1 hi
      have ho' : l[i]? = some o := by simpa using ho
      have hil : i < l.length := (List.getElem?_eq_some_iff.mp ho').1
      have hun' : lp.getD i false = false := by
        rw [Array.getD_eq_getD_getElem?] at hun ⊢
        cases q : lp[i]? with
        | none => rfl
        | some b => rw [q] at hun; simpa using hun
      unfold wpOp
      simp only [ho]
      rw [if_pos (by simp [Region.wanted, hgd o (List.mem_of_getElem? ho')])]
      left
      refine hstep i o lp g w a' ho' hs hun' (fun e he hb => hrd e he hb) hR hS _ _ ?_
      intro g' w'' hsame hR' v hv
      subst hv
      refine ih _ g' _ w'' (by simp [hs]) (by have := unl_set lp i hun; omega) hR' ⟨?_, ?_, ?_, ?_⟩
      · intro k ok s hk hl hd
        rcases getD_set hl with rfl | hl'
        · have : ok = o := by rw [ho'] at hk; cases hk; rfl
          subst this
          unfold Act.put valO
          rw [hd]
          simp only [Option.bind_some]
          by_cases hlt : s < a'.tmps.size
          · rw [Array.getElem?_setIfInBounds_self_of_lt hlt]
            have h2 : s < (A g').tmps.size := by rw [hsz, ← hS.siz]; exact hlt
            rw [Array.getElem?_eq_getElem h2]
            rfl
          · rw [Array.getElem?_eq_none (by simp; omega), Array.getElem?_eq_none (by rw [hsz, ← hS.siz]; omega)]
        · rw [put_other a' o.dst _ s (fun e => by
            have := hdst k i ok o s hk ho' hd e
            subst this
            rw [hun'] at hl'
            cases hl'), hS.don k ok s hk hl' hd, hsame k ok s hk hl' hd]
      · intro s h
        have hne : o.dst ≠ some s := h i o ho' (getD_set_same (by omega))
        rw [put_other a' o.dst _ s hne]
        exact hS.oth s (fun k ok hk hl => h k ok hk (by
          by_cases e : k = i
          · subst e; exact getD_set_same (by omega)
          · rw [Array.getD_eq_getD_getElem?] at hl ⊢
            rwa [Array.getElem?_setIfInBounds_ne (by omega)]))
      · rw [put_size, hS.siz]
      · unfold Act.put
        cases o.dst <;> exact hS.dfr
def dstG (l : List Oper) : Bool := (List.range l.length).all fun i => (List.range l.length).all fun k => i == k || ((l[i]?).bind (·.dst)).isNone || ((l[i]?).bind (·.dst)) != ((l[k]?).bind (·.dst))
theorem dstG_of {l : List Oper} (h : dstG l = true) : ∀ (i k : Nat) (oi ok : Oper) (s : Nat), l[i]? = some oi → l[k]? = some ok → oi.dst = some s → ok.dst = some s → i = k := by
  intro i k oi ok s hi hk h1 h2
  have hil := (List.getElem?_eq_some_iff.mp hi).1
  have hkl := (List.getElem?_eq_some_iff.mp hk).1
  unfold dstG at h
  rw [List.all_eq_true] at h
  have := h i (List.mem_range.mpr hil)
  rw [List.all_eq_true] at this
  have := this k (List.mem_range.mpr hkl)
  rw [hi, hk] at this
  simp only [Option.bind_some, h1, h2] at this
  simpa using this
theorem gh_region {γ : Type} {id : Nat} {l : List Oper} (ok : QpOk l l.length l.length) (hgd : (l.all fun o => o.guard.isNone) = true) (hdst : dstG l = true) {Q : Exit → Act → World → Prop} {a : Act} {w : World} (ds : List (Option Tmp)) (vals : γ → List Value) (hm : P.follows .mixedOrders = true) (hds : ∀ d ∈ ds, ∃ o ∈ l, o.dst = d) (R : Array Bool → γ → World → Prop) (g0 : γ) (h0 : R (Array.replicate l.length false) g0 w.drew)
    (hstep : ∀ (i : Nat) (o : Oper) (lp : Array Bool) (g : γ) (w' : World) (a' : Act), l[i]? = some o → lp.size = l.length → lp.getD i false = false → (∀ e ∈ o.after, Region.binds .any e = true → lp.getD e.on false = true) → R lp g w' → Slt l a (putAll a ds (vals g)) lp a' →
      ∀ (K : Act → World → Prop) Q', (∀ g' w'', (∀ (k : Nat) (o : Oper) (s : Nat), l[k]? = some o → lp.getD k false = true → o.dst = some s → (putAll a ds (vals g')).tmps[s]? = (putAll a ds (vals g)).tmps[s]?) → R (lp.setIfInBounds i true) g' w'' → ∀ v, valO (putAll a ds (vals g')) o = v → K (a'.put o.dst v) w'') → o.wp P a' w' K Q')
    (hpost : ∀ g w', R (Array.replicate l.length true) g w' → Q .normal (putAll a ds (vals g)) w') : (Code.region id l.toArray true).wp P Q a w := by
  refine wp_region_any hm ?_
  have hu : unl (Array.replicate l.length false) = l.length := by unfold unl; simp
  have main := gh_any ok (fun o ho => by have := List.all_eq_true.mp hgd o ho; simpa using this) (dstG_of hdst) (A := fun g => putAll a ds (vals g)) (fun g => putAll_size _ _ _) (fun g => putAll_defers _ _ _) (fun g s h => putAll_other _ _ _ _ (fun d hd e => by obtain ⟨o, ho, hod⟩ := hds d hd; exact h o ho (by rw [hod, e]))) R hstep hpost l.length (Array.replicate l.length false) g0 a w.drew (by simp) hu h0 ⟨fun k o s hk hl => (by rw [Array.getD_eq_getD_getElem?, Array.getElem?_replicate] at hl; split at hl <;> simp at hl), fun s _ => rfl, rfl, rfl⟩
  have e1 : l.length = l.toArray.size := by simp
  rw [e1] at main
  simpa using main
end
end Go.Proofs.Ytmeaikmmhgmgnaa
/-
  What is known in a drawn region in which two elements of a row change places.
-/
namespace Go.Proofs.Ytmeaikmmhgmgnaa
open Go.RowKit
set_option linter.unusedSimpArgs false
set_option linter.unusedVariables false

theorem wl_nil5 {P : Program} {ops : Array Oper} {Q : Exit → Act → World → Prop} {a : Act} {w : World} (h : wpList P ops Q [] a w) : Q .normal a w := h
theorem Slt.old5 {l : List Oper} {a A : Act} {lp : Array Bool} {a' : Act} (h : Slt l a A lp a') (s : Nat) (hs : ∀ o ∈ l, o.dst ≠ some s) : a'.tmps[s]? = a.tmps[s]? := h.oth s (fun k o hk _ => hs o (List.mem_of_getElem? hk))
theorem gh_quiet5 {P : Program} {o : Oper} {a' : Act} {w' : World} {K : Act → World → Prop} {Q' : Exit → Act → World → Prop} {v : Value} (hr : (execOp a'.eval o).run P w' = .ok (.value v) w') (hK : K (a'.put o.dst v) w') : o.wp P a' w' K Q' := by
  unfold Oper.wp
  rw [hr]
  exact hK
/-- The stores are the operations 15 and 17; the loads 9 and 13 come ahead of both. -/
structure R17 (B M A : World → Prop) (f : Nat → Bool) (W : World) : Prop where
  bef : f 15 = false → B W
  mid : f 15 = true → f 17 = false → M W
  aft : f 17 = true → A W
  w1 : f 15 = true → f 9 = true ∧ f 13 = true
  w2 : f 17 = true → f 15 = true
section
variable {B M A : World → Prop} {f f' : Nat → Bool} {W W' : World}
theorem R17.start (h : B W) (hf : ∀ j, f j = false) : R17 B M A f W := ⟨fun _ => h, fun q => (by rw [hf] at q; cases q), fun q => (by rw [hf] at q; cases q), fun q => (by rw [hf] at q; cases q), fun q => (by rw [hf] at q; cases q)⟩
theorem R17.load9 (k : R17 B M A f W) (h : f 9 = false) : B W := k.bef (by
  cases e : f 15 with
  | false => rfl
  | true => have := (k.w1 e).1; rw [h] at this; cases this)
theorem R17.load13 (k : R17 B M A f W) (h : f 13 = false) : B W := k.bef (by
  cases e : f 15 with
  | false => rfl
  | true => have := (k.w1 e).2; rw [h] at this; cases this)
theorem R17.quiet {i : Nat} (k : R17 B M A f W) (h1 : i ≠ 15) (h2 : i ≠ 17) (hs : f' i = true) (ho : ∀ j, j ≠ i → f' j = f j) : R17 B M A f' W := by
  have e15 := ho 15 (Ne.symm h1)
  have e17 := ho 17 (Ne.symm h2)
  have up : ∀ j, f j = true → f' j = true := fun j h => by
    by_cases e : j = i
    · rw [e]; exact hs
    · rw [ho j e]; exact h
  exact ⟨fun q => k.bef (by rw [← e15]; exact q), fun q r => k.mid (by rw [← e15]; exact q) (by rw [← e17]; exact r), fun q => k.aft (by rw [← e17]; exact q), fun q => by have := k.w1 (by rw [← e15]; exact q); exact ⟨up 9 this.1, up 13 this.2⟩, fun q => by rw [e15]; exact k.w2 (by rw [← e17]; exact q)⟩
theorem R17.st1 (k : R17 B M A f W) (h : M W') (h9 : f 9 = true) (h13 : f 13 = true) (hun : f 15 = false) (hs : f' 15 = true) (ho : ∀ j, j ≠ 15 → f' j = f j) : R17 B M A f' W' := by
  have e17 : f' 17 = false := by
    rw [ho 17 (by decide)]
    cases e : f 17 with
    | false => rfl
    | true => have := k.w2 e; rw [hun] at this; cases this
  exact ⟨fun q => (by rw [hs] at q; cases q), fun _ _ => h, fun q => (by rw [e17] at q; cases q), fun _ => ⟨by rw [ho 9 (by decide)]; exact h9, by rw [ho 13 (by decide)]; exact h13⟩, fun q => (by rw [e17] at q; cases q)⟩
theorem R17.st2 (k : R17 B M A f W) (h : A W') (h15 : f 15 = true) (hun : f 17 = false) (hs : f' 17 = true) (ho : ∀ j, j ≠ 17 → f' j = f j) : R17 B M A f' W' := by
  have e15 : f' 15 = true := by rw [ho 15 (by decide)]; exact h15
  exact ⟨fun q => (by rw [e15] at q; cases q), fun _ q => (by rw [hs] at q; cases q), fun _ => h, fun q => by have := k.w1 h15; exact ⟨by rw [ho 9 (by decide)]; exact this.1, by rw [ho 13 (by decide)]; exact this.2⟩, fun _ => e15⟩
end
end Go.Proofs.Ytmeaikmmhgmgnaa
