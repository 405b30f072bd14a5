/-
  Part 4 of the proof: 2 texts, one behind the other.
-/
import Derived.Test.YtjgpbahglkaijaaPart2
import Derived.OrdersIn
import Derived.TacticsIn
import Derived.RangeFuncSeq
namespace Go.Proofs.Ytjgpbahglkaijaa
open Go.RowKit
set_option linter.unusedSimpArgs false
set_option linter.unusedVariables false

section
variable {P : Program}

theorem put_size (a : Act) (dst : Option Tmp) (v : Value) : (a.put dst v).tmps.size = a.tmps.size := by
  unfold Act.put; cases dst <;> simp
theorem put_other (a : Act) (dst : Option Tmp) (v : Value) (s : Nat) (h : dst ≠ some s) : (a.put dst v).tmps[s]? = a.tmps[s]? := by
  unfold Act.put
  cases dst with
  | none => rfl
  | some d =>
    have : d ≠ s := fun e => h (by rw [e])
    simp [Array.getElem?_setIfInBounds, this]
theorem put_same {a : Act} {dst : Option Tmp} {v v' : Value} (h : ∀ s, dst = some s → (a.put dst v).tmps[s]? = (a.put dst v').tmps[s]?) : a.put dst v = a.put dst v' := by
  cases dst with
  | none => rfl
  | some d =>
    have := h d rfl
    unfold Act.put at *
    simp only at this ⊢
    by_cases c : d < a.tmps.size
    · simp [Array.getElem?_setIfInBounds, c] at this
      rw [this]
    · have c' : a.tmps.size ≤ d := Nat.le_of_not_lt c
      rw [Array.setIfInBounds_eq_of_size_le c', Array.setIfInBounds_eq_of_size_le c']
theorem q_fin {ops : Array Oper} {C : World → Prop} {A : Act} {md : Region.Mode} : ∀ (fuel : Nat) (listed : Array Bool) (a : Act), wpAnyQ P md ops C (fun a' => a' = A) fuel listed a →
    ∀ s : Nat, (∀ i o, ops[i]? = some o → listed.getD i true = false → o.dst ≠ some s) → A.tmps[s]? = a.tmps[s]? := by
  intro fuel
  induction fuel with
  | zero => intro listed a h s _; rw [h.2]
  | succ fuel ih =>
    intro listed a h s hs
    cases hr : Region.ready md ops listed with
    | nil => rw [h.1 hr]
    | cons i rs =>
      have hi : i ∈ Region.ready md ops listed := by rw [hr]; simp
      obtain ⟨hun, o, ho, _⟩ := mem_ready.1 hi
      obtain ⟨v, _, hK⟩ := yieldsIn_of_qOp ho (h.2 i hi)
      have := ih _ _ hK s (fun k ok hk hl => hs k ok hk (by
        by_cases e : i = k
        · subst e; exact hun
        · rw [getD_set_ne true e] at hl; exact hl))
      rw [this]
      exact put_other _ _ _ _ (hs i o ho hun)

def rep (l : List Oper) (j : Nat) (N : Value) : List Oper := l.modify j fun o => { o with op := .assign (.const N) }
theorem rep_len (l : List Oper) (j : Nat) (N : Value) : (rep l j N).length = l.length := by unfold rep; simp
theorem rep_ne (l : List Oper) (j : Nat) (N : Value) (i : Nat) (h : i ≠ j) : (rep l j N)[i]? = l[i]? := by
  unfold rep; rw [List.getElem?_modify]; simp [Ne.symm h]
theorem rep_same (l : List Oper) (j : Nat) (N : Value) (i : Nat) : ((rep l j N)[i]?).map (fun o => (o.dst, o.after, o.guard)) = (l[i]?).map (fun o => (o.dst, o.after, o.guard)) := by
  unfold rep
  rw [List.getElem?_modify]
  cases l[i]? <;> simp
  split <;> simp
theorem rep_get (l : List Oper) (j : Nat) (N : Value) (i : Nat) (o : Oper) (h : (rep l j N)[i]? = some o) : ∃ o', l[i]? = some o' ∧ o'.dst = o.dst ∧ o'.after = o.after ∧ o'.guard = o.guard := by
  have := rep_same l j N i
  rw [h] at this
  cases e : l[i]? with
  | none => rw [e] at this; simp at this
  | some o' => rw [e] at this; simp at this; exact ⟨o', rfl, this.1.symm, this.2.1.symm, this.2.2.symm⟩
theorem rep_of (l : List Oper) (j : Nat) (N : Value) (i : Nat) (o : Oper) (h : l[i]? = some o) : ∃ o', (rep l j N)[i]? = some o' ∧ o'.dst = o.dst ∧ o'.after = o.after ∧ o'.guard = o.guard := by
  have := rep_same l j N i
  rw [h] at this
  cases e : (rep l j N)[i]? with
  | none => rw [e] at this; simp at this
  | some o' => rw [e] at this; simp at this; exact ⟨o', rfl, this.1, this.2.1, this.2.2⟩
theorem rep_yield (l : List Oper) (j : Nat) (N : Value) (tmps : Array Value) (k : Nat) : yielded (rep l j N).toArray tmps k = yielded l.toArray tmps k := by
  unfold yielded
  have := rep_same l j N k
  simp only [List.getElem?_toArray]
  cases e : l[k]? with
  | none =>
    cases e' : (rep l j N)[k]? with
    | none => rfl
    | some o => rw [e, e'] at this; simp at this
  | some o =>
    cases e' : (rep l j N)[k]? with
    | none => rw [e, e'] at this; simp at this
    | some o' => rw [e, e'] at this; simp at this; simp [this.1]
theorem yield_take (l : List Oper) (m : Nat) (tmps : Array Value) (k : Nat) (hk : k < m) : yielded (l.take m).toArray tmps k = yielded l.toArray tmps k := by
  unfold yielded
  simp [List.getElem?_take, hk]
def seqB (md : Region.Mode) (ops : Array Oper) : Nat → Nat → Array Bool → Bool
  | 0, _, listed => Region.ready md ops listed == []
  | f + 1, k, listed => (Region.ready md ops listed == [k]) && seqB md ops f (k + 1) (listed.setIfInBounds k true)
theorem any_seq {md : Region.Mode} {ops : Array Oper} {Q : Exit → Act → World → Prop} : ∀ (l : List Oper) (k : Nat) (listed : Array Bool) (a : Act) (w : World), (∀ i, l[i]? = ops[k + i]?) → seqB md ops l.length k listed = true →
    wpList P ops Q l a w → wpAny P md ops Q l.length listed a w
  | [], k, listed, a, w, _, hB, h => by
    simp only [List.length_nil, seqB, beq_iff_eq] at hB
    exact ⟨hB, h⟩
  | o :: l, k, listed, a, w, hl, hB, h => by
    simp only [List.length_cons, seqB, Bool.and_eq_true, beq_iff_eq] at hB
    refine ⟨fun e => (by rw [hB.1] at e; cases e), fun i hi => ?_⟩
    rw [hB.1] at hi
    have e : i = k := by simpa using hi
    subst e
    have h0 : ops[i]? = some o := by simpa using (hl 0).symm
    unfold wpOp
    simp only [h0]
    have ih : ∀ a w, wpList P ops Q l a w → wpAny P md ops Q l.length (listed.setIfInBounds i true) a w := fun a w h => any_seq l (i + 1) (listed.setIfInBounds i true) a w (fun q => by have := hl (q + 1); simpa [Nat.add_assoc, Nat.add_comm 1 q] using this) hB.2 h
    unfold wpList at h
    split
    · rename_i hw
      rw [if_pos hw] at h
      exact h.imp (Oper.wp_mono ih) id
    · rename_i hw
      rw [if_neg hw] at h
      exact ih _ _ h

theorem get_app_lt (lp : Array Bool) (p i : Nat) (h : i < lp.size) (d : Bool) : (lp ++ Array.replicate p false).getD i d = lp.getD i d := by
  simp [Array.getElem?_append, h]
theorem get_app_false (lp : Array Bool) (p i : Nat) : (lp ++ Array.replicate p false).getD i false = lp.getD i false := by
  by_cases h : i < lp.size
  · exact get_app_lt lp p i h false
  · simp [Array.getElem?_append, h, Array.getElem?_replicate]
    split <;> rfl
theorem set_app (lp : Array Bool) (p i : Nat) (h : i < lp.size) : (lp ++ Array.replicate p false).setIfInBounds i true = lp.setIfInBounds i true ++ Array.replicate p false := by
  apply Array.ext
  · simp
  · intro q h1 h2
    rw [Array.getElem_setIfInBounds (hj := by simpa using h1)]
    rw [Array.getElem_append, Array.getElem_append]
    by_cases c : i = q
    · subst c
      simp [h]
    · rw [if_neg c]
      simp only [Array.size_setIfInBounds]
      split
      · rw [Array.getElem_setIfInBounds, if_neg c]
      · rfl
def unl (lp : Array Bool) : Nat := lp.toList.count false
theorem count_set : ∀ (l : List Bool) (i : Nat), l[i]? = some false → (l.set i true).count false + 1 = l.count false := by
  intro l
  induction l with
  | nil => intro i h; simp at h
  | cons b l ih =>
    intro i h
    cases i with
    | zero => simp at h; subst h; simp
    | succ i =>
      have := ih i (by simpa using h)
      simp only [List.set_cons_succ, List.count_cons]
      omega
theorem unl_set (lp : Array Bool) (i : Nat) (h : lp.getD i true = false) : unl (lp.setIfInBounds i true) + 1 = unl lp := by
  unfold unl
  rw [Array.toList_setIfInBounds]
  apply count_set
  rw [Array.getElem?_toList]
  cases e : lp[i]? with
  | none => rw [Array.getD_eq_getD_getElem?, e] at h; simp at h
  | some b => rw [Array.getD_eq_getD_getElem?, e] at h; simp at h; rw [h]
theorem unl_zero (lp : Array Bool) (h : unl lp = 0) : lp = Array.replicate lp.size true := by
  unfold unl at h
  rw [List.count_eq_zero] at h
  apply Array.ext
  · simp
  · intro i h1 h2
    simp
    cases e : lp[i] with
    | true => rfl
    | false => exact absurd (by rw [← e]; simp) h
theorem unl_some (lp : Array Bool) (f : Nat) (h : unl lp = f + 1) : ∃ k, k < lp.size ∧ lp.getD k true = false := by
  unfold unl at h
  have : false ∈ lp.toList := List.count_pos_iff.mp (by omega)
  obtain ⟨k, hk, e⟩ := List.getElem_of_mem this
  have hk' : k < lp.size := by simpa using hk
  exact ⟨k, hk', by rw [Array.getD_eq_getD_getElem?]; simp [hk']; simpa using e⟩
def waitB (l : List Oper) (m : Nat) : Bool := (l.drop m).all fun o => (List.range m).all fun k => o.after.any fun e => Region.binds .any e && e.on == k
theorem ready_pre (l : List Oper) (m j : Nat) (N : Value) (hml : m ≤ l.length) (hw : waitB l m = true) (lp : Array Bool) (hs : lp.size = m) (f : Nat) (hu : unl lp = f + 1) (i : Nat)
    (hi : i ∈ Region.ready .any l.toArray (lp ++ Array.replicate (l.length - m) false)) : i < m ∧ i ∈ Region.ready .any (rep (l.take m) j N).toArray lp := by
  obtain ⟨hun, o, ho, hall⟩ := mem_ready.1 hi
  have ho' : l[i]? = some o := by simpa using ho
  have him : i < m := by
    apply Classical.byContradiction
    intro c
    obtain ⟨k, hk, hf⟩ := unl_some lp f hu
    have hmem : o ∈ l.drop m := by
      have : (l.drop m)[i - m]? = some o := by rw [List.getElem?_drop, show m + (i - m) = i by omega]; exact ho'
      exact List.mem_of_getElem? this
    have h1 := List.all_eq_true.mp hw o hmem
    have h2 := List.all_eq_true.mp h1 k (List.mem_range.mpr (by omega))
    obtain ⟨e, he, heq⟩ := Array.any_eq_true'.mp h2
    simp only [Bool.and_eq_true, beq_iff_eq] at heq
    have h3 := hall e he heq.1
    rw [heq.2, get_app_false] at h3
    rw [Array.getD_eq_getD_getElem?] at h3 hf
    cases q : lp[k]? with
    | none => rw [q] at h3; simp at h3
    | some b => rw [q] at h3 hf; simp at h3 hf; rw [h3] at hf; cases hf
  refine ⟨him, mem_ready.2 ⟨by rw [get_app_lt lp _ i (by omega)] at hun; exact hun, ?_⟩⟩
  obtain ⟨o', h1, h2, h3, h4⟩ := rep_of (l.take m) j N i o (by rw [List.getElem?_take, if_pos him]; exact ho')
  refine ⟨o', by simpa using h1, fun e he hb => ?_⟩
  rw [h3] at he
  have := hall e he hb
  rwa [get_app_false] at this

theorem wanted_rep (l : List Oper) (m j : Nat) (N : Value) (a : Act) (o o' : Oper) (hg : o'.guard = o.guard) (hlt : ∀ k b, o.guard = some (k, b) → k < m) : Region.wanted o' (yielded (rep (l.take m) j N).toArray a.tmps) = Region.wanted o (yielded l.toArray a.tmps) := by
  unfold Region.wanted
  rw [hg]
  cases e : o.guard with
  | none => rfl
  | some kb =>
    obtain ⟨k, b⟩ := kb
    simp only
    rw [rep_yield, yield_take l m a.tmps k (hlt k b e)]
theorem wp_of_yields {ops ops' : Array Oper} {C : World → Prop} {Q : Exit → Act → World → Prop} {i : Nat} {o : Oper} {v : Value} {a : Act} {w : World} {K : Act → World → Prop} (ho : ops[i]? = some o) (hw : Region.wanted o (yielded ops' a.tmps) = Region.wanted o (yielded ops a.tmps))
    (hy : YieldsIn P ops' C o v a) (hC : C w) (h : ∀ w', C w' → K (a.put o.dst v) w') : wpOp P ops Q i K a w := by
  unfold wpOp
  simp only [ho]
  rcases hy with ⟨h1, h2⟩ | ⟨h1, h2⟩
  · rw [if_pos (by rw [← hw]; exact h1)]
    exact .inl (Oper.wp_of_quiet (K := fun a' => a' = a.put o.dst v) hC (fun a' w' hw' e => by rw [e]; exact h w' hw') ⟨v, h2, rfl⟩)
  · rw [if_neg (by rw [← hw, h1]; decide)]
    rw [← h2]
    exact h w hC
structure QpOk (l : List Oper) (m j : Nat) : Prop where
  ml : m ≤ l.length
  lex : ∀ N, Region.lexB .any (rep (l.take m) j N).toArray = true
  wait : waitB l m = true
  seq : seqB .any l.toArray (l.length - m) m (Array.replicate m true ++ Array.replicate (l.length - m) false) = true
  guards : ∀ (i : Nat) o, l[i]? = some o → ∀ k b, o.guard = some (k, b) → k < m
  edges : ∀ (i : Nat) o, l[i]? = some o → ∀ e ∈ o.after, Region.binds .any e = true → e.on < i
structure AlOk (l : List Oper) (m j : Nat) (oj : Oper) : Prop extends QpOk l m j where
  jm : j < m
  here : l[j]? = some oj
  guard : oj.guard = none
  dst : ∀ i k oi ok s, l[i]? = some oi → l[k]? = some ok → i < m → k < m → oi.dst = some s → ok.dst = some s → i = k
def guardsB (l : List Oper) (m : Nat) : Bool := l.all fun o => match o.guard with | some (k, _) => decide (k < m) | none => true
theorem guards_of {l : List Oper} {m : Nat} (h : guardsB l m = true) : ∀ (i : Nat) o, l[i]? = some o → ∀ k b, o.guard = some (k, b) → k < m := by
  intro i o ho k b hg
  have := List.all_eq_true.mp h o (List.mem_of_getElem? ho)
  rw [hg] at this
  simpa using this
def edgesB (l : List Oper) : Bool := (List.range l.length).all fun i => match l[i]? with | some o => o.after.all fun e => !Region.binds .any e || decide (e.on < i) | none => true
theorem edges_of {l : List Oper} (h : edgesB l = true) : ∀ (i : Nat) o, l[i]? = some o → ∀ e ∈ o.after, Region.binds .any e = true → e.on < i := by
  intro i o ho e he hb
  have hi : i < l.length := (List.getElem?_eq_some_iff.mp ho).1
  have h1 := List.all_eq_true.mp h i (List.mem_range.mpr hi)
  simp only [ho] at h1
  have := Array.all_eq_true_iff_forall_mem.1 h1 e he
  simpa [hb] using this
def dstB (l : List Oper) (m : Nat) : Bool := (List.range m).all fun i => (List.range m).all fun k => (i == k) || !((l[i]?).bind (·.dst)).isSome || (l[i]?).bind (·.dst) != (l[k]?).bind (·.dst)
theorem dst_of {l : List Oper} {m : Nat} (h : dstB l m = true) : ∀ i k oi ok s, l[i]? = some oi → l[k]? = some ok → i < m → k < m → oi.dst = some s → ok.dst = some s → i = k := by
  intro i k oi ok s h1 h2 h3 h4 h5 h6
  have a := List.all_eq_true.mp h i (List.mem_range.mpr h3)
  have b := List.all_eq_true.mp a k (List.mem_range.mpr h4)
  rw [h1, h2] at b
  simp [h5, h6] at b
  exact b
theorem qpOk {l : List Oper} (m j : Nat) (h1 : m ≤ l.length) (h2 : ∀ N, Region.lexB .any (rep (l.take m) j N).toArray = true) (h3 : waitB l m = true)
    (h4 : seqB .any l.toArray (l.length - m) m (Array.replicate m true ++ Array.replicate (l.length - m) false) = true) (h5 : guardsB l m = true) (h6 : edgesB l = true) : QpOk l m j :=
  ⟨h1, h2, h3, h4, guards_of h5, edges_of h6⟩
theorem alOk {l : List Oper} {m j : Nat} {oj : Oper} (q : QpOk l m j) (h1 : j < m) (h2 : l[j]? = some oj) (h3 : oj.guard = none) (h4 : dstB l m = true) : AlOk l m j oj := ⟨q, h1, h2, h3, dst_of h4⟩
theorem erase_get (l l' : List Value) (d s : Nat) (h : l.eraseIdx d = l'.eraseIdx d) (hs : s ≠ d) : l[s]? = l'[s]? := by
  rcases Nat.lt_or_gt_of_ne hs with q | q
  · have := congrArg (fun x => x[s]?) h
    simpa [List.getElem?_eraseIdx, q] using this
  · have := congrArg (fun x => x[s - 1]?) h
    simp only [List.getElem?_eraseIdx] at this
    rw [if_neg (by omega), if_neg (by omega), show s - 1 + 1 = s by omega] at this
    exact this
theorem alA {l : List Oper} {m j : Nat} {oj : Oper} (ok : AlOk l m j oj) {A : Nat → Act} (d : Nat) (hd : oj.dst = some d) (h : ∀ N, (A N).tmps.toList.eraseIdx d = (A 0).tmps.toList.eraseIdx d) :
    ∀ (i : Nat) o s N, l[i]? = some o → i < m → i ≠ j → o.dst = some s → (A N).tmps[s]? = (A 0).tmps[s]? := by
  intro i o s N ho hi hij hs
  have : s ≠ d := fun e => hij (ok.dst i j o oj s ho ok.here hi ok.jm hs (by rw [hd, e]))
  have := erase_get _ _ d s (h N) this
  simpa using this
theorem some_ready {l : List Oper} {m j : Nat} (ok : QpOk l m j) (lp : Array Bool) (hs : lp.size = m) : ∀ k, k < m → lp.getD k true = false → Region.ready .any l.toArray (lp ++ Array.replicate (l.length - m) false) ≠ [] := by
  intro k
  induction k using Nat.strongRecOn with
  | ind k ih =>
    intro hk hf hr
    have hkl : k < l.length := by have := ok.ml; omega
    by_cases c : ∀ e ∈ (l[k]).after, Region.binds .any e = true → (lp ++ Array.replicate (l.length - m) false).getD e.on false = true
    · have : k ∈ Region.ready .any l.toArray (lp ++ Array.replicate (l.length - m) false) := mem_ready.2 ⟨by rw [get_app_lt lp _ k (by omega)]; exact hf, l[k], by simp [hkl], c⟩
      rw [hr] at this
      cases this
    · simp only [Classical.not_forall] at c
      obtain ⟨e, he, hb, hn⟩ := c
      have hlt := ok.edges k l[k] (by simp [hkl]) e he hb
      rw [get_app_false] at hn
      refine ih e.on hlt (by omega) ?_ hr
      have hlt2 : e.on < lp.size := by omega
      rw [Array.getD_eq_getD_getElem?] at hn ⊢
      simp [hlt2] at hn ⊢
      exact hn
theorem done_any {l : List Oper} {m j : Nat} (ok : QpOk l m j) {C : World → Prop} {N : Value} {A : Act} {Q : Exit → Act → World → Prop}
    (hpost : ∀ w, C w → wpList P l.toArray Q (l.drop m) A w) : ∀ (fuel : Nat) (lp : Array Bool) (a : Act) (w : World), lp.size = m → unl lp = fuel → (j < m → lp.getD j false = true) → C w →
      wpAnyQ P .any (rep (l.take m) j N).toArray C (fun a' => a' = A) fuel lp a → wpAny P .any l.toArray Q (fuel + (l.length - m)) (lp ++ Array.replicate (l.length - m) false) a w := by
  intro fuel
  induction fuel with
  | zero =>
    intro lp a w hs hu hj hC h
    rw [h.2, unl_zero lp hu, hs, Nat.zero_add, show l.length - m = (l.drop m).length by simp]
    refine any_seq (l.drop m) m _ A w (fun i => by simp) ?_ (hpost w hC)
    have := ok.seq
    rwa [show l.length - m = (l.drop m).length by simp] at this
  | succ fuel ih =>
    intro lp a w hs hu hj hC h
    rw [show fuel + 1 + (l.length - m) = (fuel + (l.length - m)) + 1 by omega]
    have key : ∀ i ∈ Region.ready .any l.toArray (lp ++ Array.replicate (l.length - m) false), wpOp P l.toArray Q i (wpAny P .any l.toArray Q (fuel + (l.length - m)) ((lp ++ Array.replicate (l.length - m) false).setIfInBounds i true)) a w := by
      intro i hi
      obtain ⟨him, hir⟩ := ready_pre l m j N ok.ml ok.wait lp hs fuel hu i hi
      obtain ⟨hun, _⟩ := mem_ready.1 hir
      have hij : i ≠ j := by
        intro e
        subst e
        have hj := hj him
        rw [Array.getD_eq_getD_getElem?] at hun hj
        cases q : lp[i]? with
        | none => rw [q] at hun; simp at hun
        | some b => rw [q] at hun hj; simp at hun hj; rw [hun] at hj; cases hj
      obtain ⟨_, o, ho, _⟩ := mem_ready.1 hi
      have ho' : l[i]? = some o := by simpa using ho
      have hor : (rep (l.take m) j N).toArray[i]? = some o := by
        simp only [List.getElem?_toArray]
        rw [rep_ne _ _ _ _ hij, List.getElem?_take, if_pos him]; exact ho'
      obtain ⟨v, hy, hK⟩ := yieldsIn_of_qOp hor (h.2 i hir)
      refine wp_of_yields ho (wanted_rep l m j N a o o rfl (ok.guards i o ho')) hy hC (fun w' hw' => ?_)
      rw [set_app lp _ i (by omega)]
      refine ih _ _ w' (by simp [hs]) (by have := unl_set lp i hun; omega) ?_ hw' hK
      exact fun q => getD_set_true (hj q)
    refine ⟨fun e => ?_, key⟩
    obtain ⟨k, hk, hf⟩ := unl_some lp fuel hu
    exact absurd e (some_ready ok lp hs k (by omega) hf)
theorem pend_any {l : List Oper} {m j : Nat} {oj : Oper} (ok : AlOk l m j oj) {D : World → Prop} {C1 : Nat → World → Prop} {A : Nat → Act} {val : Nat → Value} {rd : List Nat} {Q : Exit → Act → World → Prop}
    (hA : ∀ (i : Nat) o s N, l[i]? = some o → i < m → i ≠ j → o.dst = some s → (A N).tmps[s]? = (A 0).tmps[s]?)
    (hrd : ∀ s ∈ rd, ∀ (k : Nat) o, l[k]? = some o → k < m → o.dst = some s → ∃ e ∈ oj.after, Region.binds .any e = true ∧ e.on = k)
    (hal : ∀ w (a : Act), D w → (∀ s ∈ rd, a.tmps[s]? = (A 0).tmps[s]?) → ∀ (K : Act → World → Prop) Q', (∀ N w', C1 N w' → K (a.put oj.dst (val N)) w') → oj.wp P a w K Q')
    (hpost : ∀ N w, C1 N w → wpList P l.toArray Q (l.drop m) (A N) w) : ∀ (fuel : Nat) (lp : Array Bool) (a : Act) (w : World), lp.size = m → unl lp = fuel → lp.getD j true = false → D w →
      (∀ N, wpAnyQ P .any (rep (l.take m) j (val N)).toArray (C1 N) (fun a' => a' = A N) fuel lp a) → (∀ N, wpAnyQ P .any (rep (l.take m) j (val N)).toArray D (fun a' => a' = A N) fuel lp a) →
      wpAny P .any l.toArray Q (fuel + (l.length - m)) (lp ++ Array.replicate (l.length - m) false) a w := by
  intro fuel
  induction fuel with
  | zero =>
    intro lp a w hs hu hj
    exfalso
    have e := unl_zero lp hu
    rw [e, Array.getD_eq_getD_getElem?] at hj
    have := ok.jm
    simp [show j < lp.size by omega] at hj
  | succ fuel ih =>
    intro lp a w hs hu hj hD h1 h0
    rw [show fuel + 1 + (l.length - m) = (fuel + (l.length - m)) + 1 by omega]
    refine ⟨fun e => absurd e (some_ready ok.toQpOk lp hs j ok.jm hj), fun i hi => ?_⟩
    obtain ⟨him, -⟩ := ready_pre l m j (val 0) ok.ml ok.wait lp hs fuel hu i hi
    have hir := fun N => (ready_pre l m j N ok.ml ok.wait lp hs fuel hu i hi).2
    obtain ⟨hun, _⟩ := mem_ready.1 (hir (val 0))
    obtain ⟨_, o, ho, hall⟩ := mem_ready.1 hi
    have ho' : l[i]? = some o := by simpa using ho
    by_cases hij : i = j
    · subst hij
      obtain rfl : o = oj := by rw [ok.here] at ho'; exact (Option.some.inj ho').symm
      unfold wpOp
      simp only [ho]
      rw [if_pos (by unfold Region.wanted; rw [ok.guard])]
      refine .inl ?_
      refine hal w a hD ?_ _ _ ?_
      · intro s hsr
        refine (q_fin _ _ _ (h0 0) s ?_).symm
        intro k ok' hk hl e
        have hk' : (rep (l.take m) i (val 0))[k]? = some ok' := by simpa using hk
        obtain ⟨o2, q1, q2, -, -⟩ := rep_get _ _ _ _ _ hk'
        rw [List.getElem?_take] at q1
        split at q1
        · rename_i hkm
          obtain ⟨e', he', hb', hon⟩ := hrd s hsr k o2 q1 hkm (by rw [q2]; exact e)
          have h3 := hall e' he' hb'
          rw [hon, get_app_false] at h3
          rw [Array.getD_eq_getD_getElem?] at h3 hl
          cases z : lp[k]? with
          | none => rw [z] at h3; simp at h3
          | some b => rw [z] at h3 hl; simp at h3 hl; rw [h3] at hl; cases hl
        · cases q1
      · intro N w' hC
        obtain ⟨o', g1, g2, g3, g4⟩ := rep_of (l.take m) i (val N) i o (by rw [List.getElem?_take, if_pos him]; exact ho')
        obtain ⟨v, hy, hK⟩ := yieldsIn_of_qOp (by simpa using g1) ((h1 N).2 i (hir (val N)))
        have gop : o'.op = .assign (.const (val N)) := by
          unfold rep at g1
          rw [List.getElem?_modify, List.getElem?_take, if_pos him, ho'] at g1
          simp at g1
          rw [← g1]
        have hv : v = val N := by
          rcases hy with ⟨_, h2⟩ | ⟨h2, _⟩
          · have := h2 _ hC
            unfold Oper.quietAt at this
            simp [execOp, gop, Act.eval, go_sem, Oper.quietUpon] at this
            exact this.symm
          · unfold Region.wanted at h2
            rw [g4, ok.guard] at h2
            cases h2
        rw [hv, g2] at hK
        rw [set_app lp _ i (by omega)]
        exact done_any ok.toQpOk (fun w' hw' => hpost _ w' hw') fuel _ _ _ (by simp [hs]) (by have := unl_set lp i hun; omega) (fun _ => by
          rw [Array.getD_eq_getD_getElem?]
          simp [show i < lp.size by omega]) hC hK
    · have hor : ∀ N, (rep (l.take m) j N).toArray[i]? = some o := fun N => by
        simp only [List.getElem?_toArray]
        rw [rep_ne _ _ _ _ hij, List.getElem?_take, if_pos him]; exact ho'
      -- a slot that is written now is not written any more
      have later : ∀ N s, o.dst = some s → ∀ k ok', (rep (l.take m) j N).toArray[k]? = some ok' → (lp.setIfInBounds i true).getD k true = false → ok'.dst ≠ some s := by
        intro N s hs' k ok' hk hl e
        have hk' : (rep (l.take m) j N)[k]? = some ok' := by simpa using hk
        obtain ⟨o2, q1, q2, -, -⟩ := rep_get _ _ _ _ _ hk'
        rw [List.getElem?_take] at q1
        split at q1
        · rename_i hkm
          have := ok.dst k i o2 o s q1 ho' hkm him (by rw [q2]; exact e) hs'
          subst this
          rw [Array.getD_eq_getD_getElem?] at hl
          simp [show k < lp.size by omega] at hl
        · cases q1
      obtain ⟨v0, hy0, hK0⟩ := yieldsIn_of_qOp (hor (val 0)) ((h0 0).2 i (hir (val 0)))
      have f0 : ∀ s, o.dst = some s → (A 0).tmps[s]? = (a.put o.dst v0).tmps[s]? := fun s hs' => q_fin _ _ _ hK0 s (later (val 0) s hs')
      have all0 : ∀ N, wpAnyQ P .any (rep (l.take m) j (val N)).toArray D (fun a' => a' = A N) fuel (lp.setIfInBounds i true) (a.put o.dst v0) := by
        intro N
        obtain ⟨v, _, hK⟩ := yieldsIn_of_qOp (hor (val N)) ((h0 N).2 i (hir (val N)))
        have e : a.put o.dst v = a.put o.dst v0 := put_same fun s hs' => by
          rw [← f0 s hs', ← q_fin _ _ _ hK s (later (val N) s hs')]
          exact hA i o s N ho' him hij hs'
        rwa [e] at hK
      have all1 : ∀ N, wpAnyQ P .any (rep (l.take m) j (val N)).toArray (C1 N) (fun a' => a' = A N) fuel (lp.setIfInBounds i true) (a.put o.dst v0) := by
        intro N
        obtain ⟨v, _, hK⟩ := yieldsIn_of_qOp (hor (val N)) ((h1 N).2 i (hir (val N)))
        have e : a.put o.dst v = a.put o.dst v0 := put_same fun s hs' => by
          rw [← f0 s hs', ← q_fin _ _ _ hK s (later (val N) s hs')]
          exact hA i o s N ho' him hij hs'
        rwa [e] at hK
      refine wp_of_yields ho (wanted_rep l m j (val 0) a o o rfl (ok.guards i o ho')) hy0 hD (fun w' hw' => ?_)
      rw [set_app lp _ i (by omega)]
      exact ih _ _ w' (by simp [hs]) (by have := unl_set lp i hun; omega) (by rw [getD_set_ne true hij]; exact hj) hw' all1 all0
theorem sp_region {id : Nat} {l : List Oper} (m j : Nat) {oj : Oper} (ok : AlOk l m j oj) {D : World → Prop} {C1 : Nat → World → Prop} {A : Nat → Act} (val : Nat → Value) (rd : List Nat) {Q : Exit → Act → World → Prop} {a : Act} {w : World} (hm : P.follows .mixedOrders = true)
    (hA : ∀ (i : Nat) o s N, l[i]? = some o → i < m → i ≠ j → o.dst = some s → (A N).tmps[s]? = (A 0).tmps[s]?)
    (hrd : ∀ s ∈ rd, ∀ (k : Nat) o, l[k]? = some o → k < m → o.dst = some s → ∃ e ∈ oj.after, Region.binds .any e = true ∧ e.on = k)
    (hal : ∀ w (a : Act), D w → (∀ s ∈ rd, a.tmps[s]? = (A 0).tmps[s]?) → ∀ (K : Act → World → Prop) Q', (∀ N w', C1 N w' → K (a.put oj.dst (val N)) w') → oj.wp P a w K Q')
    (hD : D w.drew)
    (hwalk : ∀ N (X : World → Prop), (X = D ∨ X = C1 N) → wpQuiet P (rep (l.take m) j (val N)).toArray X (fun a' => a' = A N) (rep (l.take m) j (val N)) a)
    (hpost : ∀ N w, C1 N w → wpList P l.toArray Q (l.drop m) (A N) w) : (Code.region id l.toArray true).wp P Q a w := by
  refine wp_region_any hm ?_
  have hml := ok.ml
  have any : ∀ N X, (X = D ∨ X = C1 N) → wpAnyQ P .any (rep (l.take m) j (val N)).toArray X (fun a' => a' = A N) m (Array.replicate m false) a := by
    intro N X hX
    have hB := ok.lex (val N)
    simp only [Region.lexB, Bool.and_eq_true] at hB
    have hlen : (rep (l.take m) j (val N)).length = m := by rw [rep_len, List.length_take]; omega
    have := wpAnyQ_lex (C := X) (md := .any) hB.1 (rep (l.take m) j (val N)) 0 (Array.replicate m false) a (by simp) (by have := hB.2; simpa [hlen] using this) (hwalk N X hX)
    rwa [hlen] at this
  have hu : unl (Array.replicate m false) = m := by unfold unl; simp
  have main := pend_any ok hA hrd hal hpost m (Array.replicate m false) a w.drew (by simp) hu (by
    rw [Array.getD_eq_getD_getElem?]
    have := ok.jm
    simp [this]) hD (fun N => any N _ (.inr rfl)) (fun N => any N _ (.inl rfl))
  have e1 : m + (l.length - m) = l.toArray.size := by simp; omega
  have e2 : Array.replicate m false ++ Array.replicate (l.length - m) false = Array.replicate l.toArray.size false := by
    rw [Array.replicate_append_replicate]; congr 1
  rw [e1, e2] at main
  exact main
theorem al_region {id : Nat} {l : List Oper} (m j : Nat) {oj : Oper} (ok : AlOk l m j oj) {D : World → Prop} {C1 : Nat → World → Prop} {A : Nat → Act} {obj : Obj} {Q : Exit → Act → World → Prop} {a : Act} {w : World} (hm : P.follows .mixedOrders = true)
    (hA : ∀ (i : Nat) o s N, l[i]? = some o → i < m → i ≠ j → o.dst = some s → (A N).tmps[s]? = (A 0).tmps[s]?)
    (hal : ∀ w (a : Act), D w → (execOp a.eval oj).run P w = .ok (.value (.pointer (some ⟨w.heap.size, 0, none⟩))) (w.alloc obj)) (hC1 : ∀ w, D w → C1 w.heap.size (w.alloc obj))
    (hD : D w.drew)
    (hwalk : ∀ N (X : World → Prop), (X = D ∨ X = C1 N) → wpQuiet P (rep (l.take m) j (.pointer (some ⟨N, 0, none⟩))).toArray X (fun a' => a' = A N) (rep (l.take m) j (.pointer (some ⟨N, 0, none⟩))) a)
    (hpost : ∀ N w, C1 N w → wpList P l.toArray Q (l.drop m) (A N) w) : (Code.region id l.toArray true).wp P Q a w :=
  sp_region m j ok (fun N => .pointer (some ⟨N, 0, none⟩)) [] hm hA (fun s hs => by cases hs) (fun w a hw _ K Q' hK => by
    unfold Oper.wp
    rw [hal w a hw]
    simp only [Oper.upon]
    exact hK _ _ (hC1 w hw)) hD hwalk hpost
def readB (l : List Oper) (m : Nat) (oj : Oper) (rd : List Nat) : Bool := rd.all fun s => (List.range m).all fun k => ((l[k]?).bind (·.dst)) != some s || oj.after.any fun e => Region.binds .any e && e.on == k
theorem read_of {l : List Oper} {m : Nat} {oj : Oper} {rd : List Nat} (h : readB l m oj rd = true) : ∀ s ∈ rd, ∀ (k : Nat) o, l[k]? = some o → k < m → o.dst = some s → ∃ e ∈ oj.after, Region.binds .any e = true ∧ e.on = k := by
  intro s hs k o ho hk hd
  have a := List.all_eq_true.mp h s hs
  have b := List.all_eq_true.mp a k (List.mem_range.mpr hk)
  rw [ho] at b
  simp only [Option.bind_some, hd, bne_self_eq_false, Bool.false_or] at b
  obtain ⟨e, he, heq⟩ := Array.any_eq_true'.mp b
  simp only [Bool.and_eq_true, beq_iff_eq] at heq
  exact ⟨e, he, heq.1, heq.2⟩
theorem rep_out (l : List Oper) (j : Nat) (N : Value) (h : l.length ≤ j) : rep l j N = l := by
  apply List.ext_getElem?
  intro i
  by_cases c : i = j
  · subst c
    rw [List.getElem?_eq_none (by rw [rep_len]; exact h), List.getElem?_eq_none h]
  · exact rep_ne l j N i c
def putAll (a : Act) : List (Option Tmp) → List Value → Act
  | d :: ds, v :: vs => putAll (a.put d v) ds vs
  | _, _ => a
theorem al_region2 {id : Nat} {l : List Oper} (m j : Nat) {oj : Oper} (ok : AlOk l m j oj) {D : World → Prop} {C1 : Nat → World → Prop} {obj : Obj} {Q : Exit → Act → World → Prop} {a : Act} {w : World} (ds : List (Option Tmp)) (vals : Nat → List Value) (d : Nat) (hm : P.follows .mixedOrders = true)
    (hd : oj.dst = some d) (hA : ∀ N, (putAll a ds (vals N)).tmps.toList.eraseIdx d = (putAll a ds (vals 0)).tmps.toList.eraseIdx d)
    (hal : ∀ w (a : Act), D w → (execOp a.eval oj).run P w = .ok (.value (.pointer (some ⟨w.heap.size, 0, none⟩))) (w.alloc obj)) (hC1 : ∀ w, D w → C1 w.heap.size (w.alloc obj))
    (hD : D w.drew)
    (hwalk : ∀ N (X : World → Prop), (X = D ∨ X = C1 N) → wpQuiet P (rep (l.take m) j (.pointer (some ⟨N, 0, none⟩))).toArray X (fun a' => a' = putAll a ds (vals N)) (rep (l.take m) j (.pointer (some ⟨N, 0, none⟩))) a)
    (hpost : ∀ N w, C1 N w → wpList P l.toArray Q (l.drop m) (putAll a ds (vals N)) w) : (Code.region id l.toArray true).wp P Q a w :=
  al_region m j ok (A := fun N => putAll a ds (vals N)) hm (alA ok d hd hA) hal hC1 hD hwalk hpost
end
end Go.Proofs.Ytjgpbahglkaijaa
namespace Go.Proofs.Ytjgpbahglkaijaa
open Go.RowKit
set_option linter.unusedSimpArgs false
set_option linter.unusedVariables false

section
variable {P : Program}

end
end Go.Proofs.Ytjgpbahglkaijaa
