/-
  Part 2 of the proof: 3 texts, one behind the other.
-/
import Derived.Test.YthbdmdafldombaaDoorPart1
import Derived.Deep.CutBlock
import Derived.Deep.DeepCutAuto
namespace Go.Proofs.YthbdmdafldombaaDoor
open Go.RowKit
set_option linter.unusedSimpArgs false
set_option linter.unusedVariables false

section
variable {P : Program}

def rep (l : List Oper) (j : Nat) (N : Value) : List Oper := l.modify j fun o => { o with op := .assign (.const N) }
theorem rep_len (l : List Oper) (j : Nat) (N : Value) : (rep l j N).length = l.length := by unfold rep; simp
theorem rep_ne (l : List Oper) (j : Nat) (N : Value) (i : Nat) (h : i ≠ j) : (rep l j N)[i]? = l[i]? := by
  unfold rep; rw [List.getElem?_modify]; simp [Ne.symm h]
theorem rep_same (l : List Oper) (j : Nat) (N : Value) (i : Nat) : ((rep l j N)[i]?).map (fun o => (o.dst, o.after, o.guard)) = (l[i]?).map (fun o => (o.dst, o.after, o.guard)) := by
  unfold rep
  rw [List.getElem?_modify]
  cases l[i]? <;> simp
  split <;> simp
theorem rep_of (l : List Oper) (j : Nat) (N : Value) (i : Nat) (o : Oper) (h : l[i]? = some o) : ∃ o', (rep l j N)[i]? = some o' ∧ o'.dst = o.dst ∧ o'.after = o.after ∧ o'.guard = o.guard := by
  have := rep_same l j N i
  rw [h] at this
  cases e : (rep l j N)[i]? with
  | none => rw [e] at this; simp at this
  | some o' => rw [e] at this; simp at this; exact ⟨o', rfl, this.1, this.2.1, this.2.2⟩
theorem rep_yield (l : List Oper) (j : Nat) (N : Value) (tmps : Array Value) (k : Nat) : yielded (rep l j N).toArray tmps k = yielded l.toArray tmps k := by
  unfold yielded
  have := rep_same l j N k
  simp only [List.getElem?_toArray]
  cases e : l[k]? with
  | none =>
    cases e' : (rep l j N)[k]? with
    | none => rfl
    | some o => rw [e, e'] at this; simp at this
  | some o =>
    cases e' : (rep l j N)[k]? with
    | none => rw [e, e'] at this; simp at this
    | some o' => rw [e, e'] at this; simp at this; simp [this.1]
theorem yield_take (l : List Oper) (m : Nat) (tmps : Array Value) (k : Nat) (hk : k < m) : yielded (l.take m).toArray tmps k = yielded l.toArray tmps k := by
  unfold yielded
  simp [List.getElem?_take, hk]
def seqB (md : Region.Mode) (ops : Array Oper) : Nat → Nat → Array Bool → Bool
  | 0, _, listed => Region.ready md ops listed == []
  | f + 1, k, listed => (Region.ready md ops listed == [k]) && seqB md ops f (k + 1) (listed.setIfInBounds k true)
theorem any_seq {md : Region.Mode} {ops : Array Oper} {Q : Exit → Act → World → Prop} : ∀ (l : List Oper) (k : Nat) (listed : Array Bool) (a : Act) (w : World), (∀ i, l[i]? = ops[k + i]?) → seqB md ops l.length k listed = true →
    wpList P ops Q l a w → wpAny P md ops Q l.length listed a w
  | [], k, listed, a, w, _, hB, h => by
    simp only [List.length_nil, seqB, beq_iff_eq] at hB
    exact ⟨hB, h⟩
  | o :: l, k, listed, a, w, hl, hB, h => by
    simp only [List.length_cons, seqB, Bool.and_eq_true, beq_iff_eq] at hB
    refine ⟨fun e => (by rw [hB.1] at e; cases e), fun i hi => ?_⟩
    rw [hB.1] at hi
    have e : i = k := by simpa using hi
    subst e
    have h0 : ops[i]? = some o := by simpa using (hl 0).symm
    unfold wpOp
    simp only [h0]
    have ih : ∀ a w, wpList P ops Q l a w → wpAny P md ops Q l.length (listed.setIfInBounds i true) a w := fun a w h => any_seq l (i + 1) (listed.setIfInBounds i true) a w (fun q => by have := hl (q + 1); simpa [Nat.add_assoc, Nat.add_comm 1 q] using this) hB.2 h
    unfold wpList at h
    split
    · rename_i hw
      rw [if_pos hw] at h
      exact h.imp (Oper.wp_mono ih) id
    · rename_i hw
      rw [if_neg hw] at h
      exact ih _ _ h

theorem get_app_lt (lp : Array Bool) (p i : Nat) (h : i < lp.size) (d : Bool) : (lp ++ Array.replicate p false).getD i d = lp.getD i d := by
  simp [Array.getElem?_append, h]
theorem get_app_false (lp : Array Bool) (p i : Nat) : (lp ++ Array.replicate p false).getD i false = lp.getD i false := by
  by_cases h : i < lp.size
  · exact get_app_lt lp p i h false
  · simp [Array.getElem?_append, h, Array.getElem?_replicate]
    split <;> rfl
theorem set_app (lp : Array Bool) (p i : Nat) (h : i < lp.size) : (lp ++ Array.replicate p false).setIfInBounds i true = lp.setIfInBounds i true ++ Array.replicate p false := by
  apply Array.ext
  · simp
  · intro q h1 h2
    rw [Array.getElem_setIfInBounds (hj := by simpa using h1)]
    rw [Array.getElem_append, Array.getElem_append]
    by_cases c : i = q
    · subst c
      simp [h]
    · rw [if_neg c]
      simp only [Array.size_setIfInBounds]
      split
      · rw [Array.getElem_setIfInBounds, if_neg c]
      · rfl
def unl (lp : Array Bool) : Nat := lp.toList.count false
theorem count_set : ∀ (l : List Bool) (i : Nat), l[i]? = some false → (l.set i true).count false + 1 = l.count false := by
  intro l
  induction l with
  | nil => intro i h; simp at h
  | cons b l ih =>
    intro i h
    cases i with
    | zero => simp at h; subst h; simp
    | succ i =>
      have := ih i (by simpa using h)
      simp only [List.set_cons_succ, List.count_cons]
      omega
theorem unl_set (lp : Array Bool) (i : Nat) (h : lp.getD i true = false) : unl (lp.setIfInBounds i true) + 1 = unl lp := by
  unfold unl
  rw [Array.toList_setIfInBounds]
  apply count_set
  rw [Array.getElem?_toList]
  cases e : lp[i]? with
  | none => rw [Array.getD_eq_getD_getElem?, e] at h; simp at h
  | some b => rw [Array.getD_eq_getD_getElem?, e] at h; simp at h; rw [h]
theorem unl_zero (lp : Array Bool) (h : unl lp = 0) : lp = Array.replicate lp.size true := by
  unfold unl at h
  rw [List.count_eq_zero] at h
  apply Array.ext
  · simp
  · intro i h1 h2
    simp
    cases e : lp[i] with
    | true => rfl
    | false => exact absurd (by rw [← e]; simp) h
theorem unl_some (lp : Array Bool) (f : Nat) (h : unl lp = f + 1) : ∃ k, k < lp.size ∧ lp.getD k true = false := by
  unfold unl at h
  have : false ∈ lp.toList := List.count_pos_iff.mp (by omega)
  obtain ⟨k, hk, e⟩ := List.getElem_of_mem this
  have hk' : k < lp.size := by simpa using hk
  exact ⟨k, hk', by rw [Array.getD_eq_getD_getElem?]; simp [hk']; simpa using e⟩
def waitB (l : List Oper) (m : Nat) : Bool := (l.drop m).all fun o => (List.range m).all fun k => o.after.any fun e => Region.binds .any e && e.on == k
theorem ready_pre (l : List Oper) (m j : Nat) (N : Value) (hml : m ≤ l.length) (hw : waitB l m = true) (lp : Array Bool) (hs : lp.size = m) (f : Nat) (hu : unl lp = f + 1) (i : Nat)
    (hi : i ∈ Region.ready .any l.toArray (lp ++ Array.replicate (l.length - m) false)) : i < m ∧ i ∈ Region.ready .any (rep (l.take m) j N).toArray lp := by
  obtain ⟨hun, o, ho, hall⟩ := mem_ready.1 hi
  have ho' : l[i]? = some o := by simpa using ho
  have him : i < m := by
    apply Classical.byContradiction
    intro c
    obtain ⟨k, hk, hf⟩ := unl_some lp f hu
    have hmem : o ∈ l.drop m := by
      have : (l.drop m)[i - m]? = some o := by rw [List.getElem?_drop, show m + (i - m) = i by omega]; exact ho'
      exact List.mem_of_getElem? this
    have h1 := List.all_eq_true.mp hw o hmem
    have h2 := List.all_eq_true.mp h1 k (List.mem_range.mpr (by omega))
    obtain ⟨e, he, heq⟩ := Array.any_eq_true'.mp h2
    simp only [Bool.and_eq_true, beq_iff_eq] at heq
    have h3 := hall e he heq.1
    rw [heq.2, get_app_false] at h3
    rw [Array.getD_eq_getD_getElem?] at h3 hf
    cases q : lp[k]? with
    | none => rw [q] at h3; simp at h3
    | some b => rw [q] at h3 hf; simp at h3 hf; rw [h3] at hf; cases hf
  refine ⟨him, mem_ready.2 ⟨by rw [get_app_lt lp _ i (by omega)] at hun; exact hun, ?_⟩⟩
  obtain ⟨o', h1, h2, h3, h4⟩ := rep_of (l.take m) j N i o (by rw [List.getElem?_take, if_pos him]; exact ho')
  refine ⟨o', by simpa using h1, fun e he hb => ?_⟩
  rw [h3] at he
  have := hall e he hb
  rwa [get_app_false] at this

theorem wanted_rep (l : List Oper) (m j : Nat) (N : Value) (a : Act) (o o' : Oper) (hg : o'.guard = o.guard) (hlt : ∀ k b, o.guard = some (k, b) → k < m) : Region.wanted o' (yielded (rep (l.take m) j N).toArray a.tmps) = Region.wanted o (yielded l.toArray a.tmps) := by
  unfold Region.wanted
  rw [hg]
  cases e : o.guard with
  | none => rfl
  | some kb =>
    obtain ⟨k, b⟩ := kb
    simp only
    rw [rep_yield, yield_take l m a.tmps k (hlt k b e)]
theorem wp_of_yields {ops ops' : Array Oper} {C : World → Prop} {Q : Exit → Act → World → Prop} {i : Nat} {o : Oper} {v : Value} {a : Act} {w : World} {K : Act → World → Prop} (ho : ops[i]? = some o) (hw : Region.wanted o (yielded ops' a.tmps) = Region.wanted o (yielded ops a.tmps))
    (hy : YieldsIn P ops' C o v a) (hC : C w) (h : ∀ w', C w' → K (a.put o.dst v) w') : wpOp P ops Q i K a w := by
  unfold wpOp
  simp only [ho]
  rcases hy with ⟨h1, h2⟩ | ⟨h1, h2⟩
  · rw [if_pos (by rw [← hw]; exact h1)]
    exact .inl (Oper.wp_of_quiet (K := fun a' => a' = a.put o.dst v) hC (fun a' w' hw' e => by rw [e]; exact h w' hw') ⟨v, h2, rfl⟩)
  · rw [if_neg (by rw [← hw, h1]; decide)]
    rw [← h2]
    exact h w hC
structure QpOk (l : List Oper) (m j : Nat) : Prop where
  ml : m ≤ l.length
  lex : ∀ N, Region.lexB .any (rep (l.take m) j N).toArray = true
  wait : waitB l m = true
  seq : seqB .any l.toArray (l.length - m) m (Array.replicate m true ++ Array.replicate (l.length - m) false) = true
  guards : ∀ (i : Nat) o, l[i]? = some o → ∀ k b, o.guard = some (k, b) → k < m
  edges : ∀ (i : Nat) o, l[i]? = some o → ∀ e ∈ o.after, Region.binds .any e = true → e.on < i
def guardsB (l : List Oper) (m : Nat) : Bool := l.all fun o => match o.guard with | some (k, _) => decide (k < m) | none => true
theorem guards_of {l : List Oper} {m : Nat} (h : guardsB l m = true) : ∀ (i : Nat) o, l[i]? = some o → ∀ k b, o.guard = some (k, b) → k < m := by
  intro i o ho k b hg
  have := List.all_eq_true.mp h o (List.mem_of_getElem? ho)
  rw [hg] at this
  simpa using this
def edgesB (l : List Oper) : Bool := (List.range l.length).all fun i => match l[i]? with | some o => o.after.all fun e => !Region.binds .any e || decide (e.on < i) | none => true
theorem edges_of {l : List Oper} (h : edgesB l = true) : ∀ (i : Nat) o, l[i]? = some o → ∀ e ∈ o.after, Region.binds .any e = true → e.on < i := by
  intro i o ho e he hb
  have hi : i < l.length := (List.getElem?_eq_some_iff.mp ho).1
  have h1 := List.all_eq_true.mp h i (List.mem_range.mpr hi)
  simp only [ho] at h1
  have := Array.all_eq_true_iff_forall_mem.1 h1 e he
  simpa [hb] using this
theorem qpOk {l : List Oper} (m j : Nat) (h1 : m ≤ l.length) (h2 : ∀ N, Region.lexB .any (rep (l.take m) j N).toArray = true) (h3 : waitB l m = true)
    (h4 : seqB .any l.toArray (l.length - m) m (Array.replicate m true ++ Array.replicate (l.length - m) false) = true) (h5 : guardsB l m = true) (h6 : edgesB l = true) : QpOk l m j :=
  ⟨h1, h2, h3, h4, guards_of h5, edges_of h6⟩
theorem some_ready {l : List Oper} {m j : Nat} (ok : QpOk l m j) (lp : Array Bool) (hs : lp.size = m) : ∀ k, k < m → lp.getD k true = false → Region.ready .any l.toArray (lp ++ Array.replicate (l.length - m) false) ≠ [] := by
  intro k
  induction k using Nat.strongRecOn with
  | ind k ih =>
    intro hk hf hr
    have hkl : k < l.length := by have := ok.ml; omega
    by_cases c : ∀ e ∈ (l[k]).after, Region.binds .any e = true → (lp ++ Array.replicate (l.length - m) false).getD e.on false = true
    · have : k ∈ Region.ready .any l.toArray (lp ++ Array.replicate (l.length - m) false) := mem_ready.2 ⟨by rw [get_app_lt lp _ k (by omega)]; exact hf, l[k], by simp [hkl], c⟩
      rw [hr] at this
      cases this
    · simp only [Classical.not_forall] at c
      obtain ⟨e, he, hb, hn⟩ := c
      have hlt := ok.edges k l[k] (by simp [hkl]) e he hb
      rw [get_app_false] at hn
      refine ih e.on hlt (by omega) ?_ hr
      have hlt2 : e.on < lp.size := by omega
      rw [Array.getD_eq_getD_getElem?] at hn ⊢
      simp [hlt2] at hn ⊢
      exact hn
theorem done_any {l : List Oper} {m j : Nat} (ok : QpOk l m j) {C : World → Prop} {N : Value} {A : Act} {Q : Exit → Act → World → Prop}
    (hpost : ∀ w, C w → wpList P l.toArray Q (l.drop m) A w) : ∀ (fuel : Nat) (lp : Array Bool) (a : Act) (w : World), lp.size = m → unl lp = fuel → (j < m → lp.getD j false = true) → C w →
      wpAnyQ P .any (rep (l.take m) j N).toArray C (fun a' => a' = A) fuel lp a → wpAny P .any l.toArray Q (fuel + (l.length - m)) (lp ++ Array.replicate (l.length - m) false) a w := by
  intro fuel
  induction fuel with
  | zero =>
    intro lp a w hs hu hj hC h
    rw [h.2, unl_zero lp hu, hs, Nat.zero_add, show l.length - m = (l.drop m).length by simp]
    refine any_seq (l.drop m) m _ A w (fun i => by simp) ?_ (hpost w hC)
    have := ok.seq
    rwa [show l.length - m = (l.drop m).length by simp] at this
  | succ fuel ih =>
    intro lp a w hs hu hj hC h
    rw [show fuel + 1 + (l.length - m) = (fuel + (l.length - m)) + 1 by omega]
    have key : ∀ i ∈ Region.ready .any l.toArray (lp ++ Array.replicate (l.length - m) false), wpOp P l.toArray Q i (wpAny P .any l.toArray Q (fuel + (l.length - m)) ((lp ++ Array.replicate (l.length - m) false).setIfInBounds i true)) a w := by
      intro i hi
      obtain ⟨him, hir⟩ := ready_pre l m j N ok.ml ok.wait lp hs fuel hu i hi
      obtain ⟨hun, _⟩ := mem_ready.1 hir
      have hij : i ≠ j := by
        intro e
        subst e
        have hj := hj him
        rw [Array.getD_eq_getD_getElem?] at hun hj
        cases q : lp[i]? with
        | none => rw [q] at hun; simp at hun
        | some b => rw [q] at hun hj; simp at hun hj; rw [hun] at hj; cases hj
      obtain ⟨_, o, ho, _⟩ := mem_ready.1 hi
      have ho' : l[i]? = some o := by simpa using ho
      have hor : (rep (l.take m) j N).toArray[i]? = some o := by
        simp only [List.getElem?_toArray]
        rw [rep_ne _ _ _ _ hij, List.getElem?_take, if_pos him]; exact ho'
      obtain ⟨v, hy, hK⟩ := yieldsIn_of_qOp hor (h.2 i hir)
      refine wp_of_yields ho (wanted_rep l m j N a o o rfl (ok.guards i o ho')) hy hC (fun w' hw' => ?_)
      rw [set_app lp _ i (by omega)]
      refine ih _ _ w' (by simp [hs]) (by have := unl_set lp i hun; omega) ?_ hw' hK
      exact fun q => getD_set_true (hj q)
    refine ⟨fun e => ?_, key⟩
    obtain ⟨k, hk, hf⟩ := unl_some lp fuel hu
    exact absurd e (some_ready ok lp hs k (by omega) hf)
theorem rep_out (l : List Oper) (j : Nat) (N : Value) (h : l.length ≤ j) : rep l j N = l := by
  apply List.ext_getElem?
  intro i
  by_cases c : i = j
  · subst c
    rw [List.getElem?_eq_none (by rw [rep_len]; exact h), List.getElem?_eq_none h]
  · exact rep_ne l j N i c
theorem qp_region {id : Nat} {l : List Oper} (m : Nat) (ok : QpOk l m m) {C : World → Prop} {A : Act} {Q : Exit → Act → World → Prop} {a : Act} {w : World} (hm : P.follows .mixedOrders = true)
    (hC : C w.drew) (hwalk : wpQuiet P (l.take m).toArray C (fun a' => a' = A) (l.take m) a) (hpost : ∀ w, C w → wpList P l.toArray Q (l.drop m) A w) : (Code.region id l.toArray true).wp P Q a w := by
  refine wp_region_any hm ?_
  have hml := ok.ml
  have hlen : (l.take m).length = m := by rw [List.length_take]; omega
  have any : wpAnyQ P .any (l.take m).toArray C (fun a' => a' = A) m (Array.replicate m false) a := by
    have hB := ok.lex undef
    rw [rep_out _ _ _ (by omega)] at hB
    simp only [Region.lexB, Bool.and_eq_true] at hB
    have := wpAnyQ_lex (C := C) (md := .any) hB.1 (l.take m) 0 (Array.replicate m false) a (by simp) (by have := hB.2; simpa [hlen, hml] using this) hwalk
    rwa [hlen] at this
  have hu : unl (Array.replicate m false) = m := by unfold unl; simp
  have main := done_any (P := P) (N := undef) ok hpost m (Array.replicate m false) a w.drew (by simp) hu (fun q => absurd q (Nat.lt_irrefl _)) hC (by rw [rep_out _ _ _ (by omega)]; exact any)
  have e1 : m + (l.length - m) = l.toArray.size := by simp; omega
  have e2 : Array.replicate m false ++ Array.replicate (l.length - m) false = Array.replicate l.toArray.size false := by
    rw [Array.replicate_append_replicate]; congr 1
  rw [e1, e2] at main
  exact main
def putAll (a : Act) : List (Option Tmp) → List Value → Act
  | d :: ds, v :: vs => putAll (a.put d v) ds vs
  | _, _ => a
theorem qp_region2 {id : Nat} {l : List Oper} (m : Nat) (ok : QpOk l m m) {C : World → Prop} {Q : Exit → Act → World → Prop} {a : Act} {w : World} (ds : List (Option Tmp)) (vals : List Value) (hm : P.follows .mixedOrders = true)
    (hC : C w.drew) (hwalk : wpQuiet P (l.take m).toArray C (fun a' => a' = putAll a ds vals) (l.take m) a) (hpost : ∀ w, C w → wpList P l.toArray Q (l.drop m) (putAll a ds vals) w) : (Code.region id l.toArray true).wp P Q a w :=
  qp_region m ok (A := putAll a ds vals) hm hC hwalk hpost
end
end Go.Proofs.YthbdmdafldombaaDoor
namespace Go.Proofs.YthbdmdafldombaaDoor
open Go.RowKit
set_option linter.unusedSimpArgs false
set_option linter.unusedVariables false

theorem byX2 (c : BitVec 32) (b : Nat) (h : b < 256) : bits .xor .u32 (uI c) (b : Int) = uI (c ^^^ BitVec.ofNat 32 b) := by
  rw [← xor32, uI_of b (by omega)]
set_option maxRecDepth 100000 in
set_option maxHeartbeats 4000000 in
theorem rstep13 (c : BitVec 32) (b : Nat) (hb : b < 256) (w : World) :
    Calls Tryd.prog 37 #[.int .u32 (uI c), .int .u8 (b : Int)] w fun e w' => e = .returned (.int .u32 (uI (stp c b))) ∧ w' = w := by
  have hx := byX2 c b hb
  have hbi : ((b : Nat) : Int) < 256 := by omega
  obtain ⟨X, hX⟩ : ∃ X, X = c ^^^ BitVec.ofNat 32 b := ⟨_, rfl⟩
  have HS : Hid (stp c b = hbN 8 X) := by show _ = _; rw [hX]; rfl
  rw [← hX] at hx
  clear hX hb
  go_enter Tryd.func37, Tryd.ntmps37
  go_wp2_with fail
  clear hx
  go_loopg [0, 5, 6] 8 (fun k a i o wr => wr = w ∧ ∃ (C : BitVec 32) (j : Nat), j + k = 8 ∧ a = .int .u32 (uI C) ∧ i = .int .i64 (j : Int) ∧ Hid (hbN k C = hbN 8 X))
  case atStart => exact ⟨rfl, X, 0, rfl, rfl, rfl, rfl⟩
  case round =>
    obtain ⟨rfl, C, j, hk, rfl, rfl, HC⟩ := hrel
    by_cases hj : j < 8
    · have hji : (j : Int) < 8 := by omega
      obtain ⟨g, rfl⟩ : ∃ g, gk = g + 1 := ⟨gk - 1, by omega⟩
      have h1 := odd32 C
      have h2 := half32 C
      have mk : IntKind.i64.wrap ((j : Int) + 1) = (j : Int) + 1 := by rw [IntKind.wrap_i64]; omega
      have HN : Hid (hbN g (hb C) = hbN 8 X) := HC.out
      have HJ : Hid (j + 1 + g = 8) := by show j + 1 + g = 8; omega
      clear HC hk hj
      cases c : C.getLsbD 0
      · rw [hb_even C c] at HN
        rw [c] at h1
        simp only [Bool.false_eq_true, if_false] at h1
        clear c
        go_wp2_with fail
        go_roundg g
        case measure => omega
        case rel => exact ⟨rfl, _, j + 1, HJ.out, rfl, rfl, HN⟩
      · rw [hb_odd C c] at HN
        rw [c] at h1
        simp only [if_true] at h1
        have h3 := xorM (C >>> 1)
        clear c
        go_wp2_with fail
        go_roundg g
        case measure => omega
        case rel => exact ⟨rfl, _, j + 1, HJ.out, rfl, rfl, HN⟩
    · have hji : ¬ (j : Int) < 8 := by omega
      obtain rfl : gk = 0 := by omega
      have HN : Hid (C = hbN 8 X) := HC.out
      go_wp2_with fail
      go_ret
      exact ⟨congrArg Ending.returned (congrArg (Value.int .u32) (congrArg uI (HN.out.trans HS.out.symm))), rfl⟩
noncomputable def aC (f : Nat → BitVec 32) : Array Value := ((List.range 32).map fun i => cU (f i)).toArray
theorem aC_size (f : Nat → BitVec 32) : (aC f).size = 32 := by unfold aC; simp
theorem aC_get (f : Nat → BitVec 32) (j : Nat) (h : j < 32) : (aC f)[j]? = some (.int .u32 (uI (f j))) := by
  unfold aC
  rw [List.getElem?_toArray, List.getElem?_map, List.getElem?_range h]
  rfl
theorem bitI (c : BitVec 32) (i : Nat) (h : i < 32) : bits .and .u32 (uI c / 2 ^ i) 1 = if c.getLsbD i then 1 else 0 := by
  rw [shr32, odd32, BitVec.getLsbD_ushiftRight, Nat.add_zero]
set_option maxRecDepth 100000 in
set_option maxHeartbeats 8000000 in
theorem rthr13 (f : Nat → BitVec 32) (c : BitVec 32) (w : World) :
    Calls Tryd.prog 40 #[.agg (aC f), .int .u32 (uI c)] w fun e w' => e = .returned (.int .u32 (uI (thr f c 32))) ∧ Below w.heap.size w w' := by
  have HB := hid13 (bl1 w (.cells (aC f) 72))
  have HC : Hid (∀ j, j < 32 → (w.alloc (.cells (aC f) 72)).cell? ⟨w.heap.size, j, none⟩ = some (.int .u32 (uI (f j)))) := fun j hj => by
    have e : (w.alloc (.cells (aC f) 72)).heap[w.heap.size]? = some (.cells (aC f) 72) := by
      show (w.heap.push _)[w.heap.size]? = _
      simp
    rw [cell_of_row _ _ _ _ _ _ e]
    exact aC_get f j hj
  go_enter Tryd.func40, Tryd.ntmps40
  go_upto_region 1 with fail
  obtain ⟨W, hW⟩ : ∃ W, W = w.alloc (.cells (aC f) 72) := ⟨_, rfl⟩
  rw [← hW] at HB HC ⊢
  clear hW
  go_wp2_with fail
  go_loopg [5, 6] 32 (fun k v i wr => wr = W ∧ ∃ j : Nat, j + k = 32 ∧ v = .int .u32 (uI (thr f c j)) ∧ i = .int .i64 (j : Int))
  case atStart => exact ⟨rfl, 0, rfl, congrArg (Value.int .u32) uI_zero.symm, rfl⟩
  case round =>
    obtain ⟨rfl, j, hk, rfl, rfl⟩ := hrel
    by_cases hj : j < 32
    · have hji : (j : Int) < 32 := by omega
      obtain ⟨g, rfl⟩ : ∃ g, gk = g + 1 := ⟨gk - 1, by omega⟩
      have h1 := bitI c j hj
      have hcl := HC.out j hj
      have mk : IntKind.i64.wrap ((j : Int) + 1) = (j : Int) + 1 := by rw [IntKind.wrap_i64]; omega
      have HJ : Hid (j + 1 + g = 32) := by show j + 1 + g = 32; omega
      have HN : Hid (thr f c (j + 1) = if c.getLsbD j then thr f c j ^^^ f j else thr f c j) := rfl
      have hxx := xor32 (thr f c j) (f j)
      clear hk
      cases e : c.getLsbD j
      · rw [e] at h1 HN
        simp only [Bool.false_eq_true, if_false] at h1 HN
        clear e
        go_wp2_with fail
        go_roundg g
        case measure => omega
        case rel => exact ⟨rfl, j + 1, HJ.out, congrArg (Value.int .u32) (congrArg uI HN.out.symm), rfl⟩
      · rw [e] at h1 HN
        simp only [if_true] at h1 HN
        clear e
        go_wp2_with fail
        go_roundg g
        case measure => omega
        case rel => exact ⟨rfl, j + 1, HJ.out, congrArg (Value.int .u32) (congrArg uI HN.out.symm), rfl⟩
    · have hji : ¬ (j : Int) < 32 := by omega
      obtain rfl : j = 32 := by omega
      go_wp2_with fail
      go_ret
      exact ⟨rfl, HB.out⟩
end Go.Proofs.YthbdmdafldombaaDoor
namespace Go.Proofs.YthbdmdafldombaaDoor
open Go.RowKit
set_option linter.unusedSimpArgs false
set_option linter.unusedVariables false

def ArX (W : World) (S : Nat) (f : Nat → BitVec 32) (k : Nat) : Prop := ∃ cs : Array Value, W.heap[S]? = some (.cells cs 72 (0, 0)) ∧ cs.size = 32 ∧ ∀ j, j < k → cs[j]? = some (.int .u32 (uI (f j)))
section
variable {W W' : World} {S k : Nat} {f : Nat → BitVec 32}
theorem ArX.full (h : ArX W S f 32) : W.heap[S]? = some (.cells (aC f) 72 (0, 0)) := by
  obtain ⟨cs, h1, h2, h3⟩ := h
  have : cs = aC f := by
    apply Array.ext_getElem?
    intro i
    by_cases c : i < 32
    · rw [h3 i c, aC_get f i c]
    · rw [Array.getElem?_eq_none (by omega), Array.getElem?_eq_none (by rw [aC_size]; omega)]
  rw [h1, this]
theorem ArX.heap (h : ArX W S f k) (e : W'.heap[S]? = W.heap[S]?) : ArX W' S f k := by
  obtain ⟨cs, h1, h2⟩ := h
  exact ⟨cs, e.trans h1, h2⟩
theorem ArX.lt (h : ArX W S f k) : S < W.heap.size := by
  obtain ⟨cs, h1, -⟩ := h
  exact lt_of_block h1
theorem ArX.below (h : ArX W S f k) (hb : Below W.heap.size W W') : ArX W' S f k := h.heap (hb.block S h.lt)
theorem ArX.cell (h : ArX W S f k) (j : Nat) (hj : j < 32) : (∃ v, W.cell? ⟨S, j, none⟩ = some v) ∧ W.frozen? ⟨S, j, none⟩ = false := by
  obtain ⟨cs, h1, h2, -⟩ := h
  refine ⟨?_, frozen_of_row W S j cs _ h1⟩
  rw [cell_of_row W S j cs _ _ h1]
  exact ⟨cs[j]'(by omega), by simp [show j < cs.size by omega]⟩
theorem ArX.get (h : ArX W S f k) (j : Nat) (hj : j < k) : W.cell? ⟨S, j, none⟩ = some (.int .u32 (uI (f j))) := by
  obtain ⟨cs, h1, h2, h3⟩ := h
  rw [cell_of_row W S j cs _ _ h1]
  exact h3 j hj
theorem ArX.set (h : ArX W S f k) (hk : k < 32) : ArX (W.setCell ⟨S, k, none⟩ (.int .u32 (uI (f k)))) S f (k + 1) := by
  obtain ⟨cs, h1, h2, h3⟩ := h
  refine ⟨cs.setIfInBounds k (.int .u32 (uI (f k))), heap_setCell_same W S k cs _ _ h1, by simpa using h2, fun j hj => ?_⟩
  rw [Array.getElem?_setIfInBounds]
  by_cases c : k = j
  · subst c
    simp [h2, hk]
  · rw [if_neg c]; exact h3 j (by omega)
end
theorem ArX.other {W : World} {S S' k o : Nat} {f : Nat → BitVec 32} (h : ArX W S f k) (hne : S ≠ S') (v : Value) : ArX (W.setCell ⟨S', o, none⟩ v) S f k :=
  h.heap (Below.heap_setCell W ⟨S', o, none⟩ v S hne)
theorem shlT (j : Nat) (h : j < 32) : (2 : Int) ^ j % 4294967296 = uI (tp j) := by
  have e : uI (tp j) = ((2 ^ j : Nat) : Int) := by
    rw [uI_eq]
    unfold tp
    rw [BitVec.toNat_twoPow]
    have : 2 ^ j < 2 ^ 32 := Nat.pow_lt_pow_right (by decide) h
    rw [Nat.mod_eq_of_lt this]
  have h2 : (2 : Nat) ^ j < 4294967296 := Nat.pow_lt_pow_right (a := 2) (n := 32) (by decide) h
  have e3 : (2 : Nat) ^ 32 = 4294967296 := by decide
  rw [e]
  have e4 : (2 : Int) ^ j = ((2 ^ j : Nat) : Int) := by simp
  rw [e4]
  generalize 2 ^ j = m at *
  omega
theorem load32 {W : World} {S : Nat} {C : Array Value} (h : W.heap[S]? = some (.cells C 72 (0, 0))) (hs : C.size = 32 := by exact aC_size _) : (Instr.loadAt 72 (.pointer (some ⟨S, 0, none⟩))).run Tryd.prog W = .ok (.agg C) W := by
  have := run_loadVar_row (P := Tryd.prog) W S 72 72 C (0, 0) _ h Tryd.underlying72 rfl (by rw [hs]; kernel_rfl)
  simp [Instr.loadAt, Instr.sureAddr, this]
theorem wpList_load_row {P : Program} {ops : Array Oper} {rest : List Oper} {o : Oper} {a : Act} {w : World} {Q : Exit → Act → World → Prop} (hgd : o.guard = none) (ty : TypeId) (x : Operand) (ho : o.op = .load ty x)
    (g : Nat) (cells : Array Value) (hx : a.eval x = .pointer (some ⟨g, 0, none⟩)) (hl : (Instr.loadAt ty (.pointer (some ⟨g, 0, none⟩))).run P w = .ok (.agg cells) w)
    (h : wpList P ops Q rest (a.put o.dst (.agg cells)) w) : wpList P ops Q (o :: rest) a w :=
  wpList_plain hgd fun K hK => by
    unfold Oper.wp execOp
    simp only [ho, hx, Sem.run_bind, hl, Sem.run_pure, Result.andThen_ok]
    exact hK _ _ h
theorem ex13 {P : Program} {w : World} {s : Sem Value} {v : Value} (h : s.run P w = .ok v w) : (do pure (Next.value (← s)) : Sem Next).run P w = .ok (.value v) w := by
  simp only [Sem.run_bind, h, Sem.run_pure, Result.andThen_ok]
theorem aC_one (f : Nat → BitVec 32) : (aC f).all (·.oneCell') = true := by
  rw [Array.all_eq_true_iff_forall_mem]
  intro v hv
  unfold aC at hv
  simp at hv
  obtain ⟨i, -, rfl⟩ := hv
  rfl
theorem below_setRow {B : Nat} {w W : World} {C : Array Value} (h : Below B w W) : Below B w (W.setRow B C) :=
  ⟨h.os, h.tape, h.output, by have := h.size; simpa [World.setRow] using this, fun k hk => (setRow_other W B k C (by omega)).trans (h.block k hk)⟩
set_option maxRecDepth 100000 in
set_option maxHeartbeats 16000000 in
theorem rjoin13 (a b : BitVec 32) (n : Int) (hn : n ≤ 9223372036854775807) (w : World) :
    Calls Tryd.prog 21 #[.int .u32 (uI a), .int .u32 (uI b), .int .i64 n] w fun e w' => e = .returned (.tuple #[.int .u32 (uI (jnU a b n)), .int .i64 (jnE n)]) ∧ Below w.heap.size w w' := by
  unfold jnU jnE
  by_cases h : n < 0
  · rw [if_pos h, if_pos h, uI_zero]
    go_enter Tryd.func21, Tryd.ntmps21
    go_wp2
    exact bodyPost_ret (v := .tuple #[.int .u32 0, .int .i64 1]) (by simp [results, Tryd.results21, go_sem]) rfl ⟨rfl, Below.refl _ _⟩
  rw [if_neg h, if_neg h]
  obtain ⟨N, rfl⟩ : ∃ k : Nat, n = (k : Int) := ⟨n.toNat, by omega⟩
  have hN : N < 9223372036854775808 := by omega
  simp only [Int.toNat_natCast]
  clear hn
  go_enter Tryd.func21, Tryd.ntmps21
  go_upto_region 4 with fail
  have HA : Hid (ArX (w.alloc (.cells #[.int .u32 0, .int .u32 0, .int .u32 0, .int .u32 0, .int .u32 0, .int .u32 0, .int .u32 0, .int .u32 0, .int .u32 0, .int .u32 0, .int .u32 0, .int .u32 0, .int .u32 0, .int .u32 0, .int .u32 0, .int .u32 0, .int .u32 0, .int .u32 0, .int .u32 0, .int .u32 0, .int .u32 0, .int .u32 0, .int .u32 0, .int .u32 0, .int .u32 0, .int .u32 0, .int .u32 0, .int .u32 0, .int .u32 0, .int .u32 0, .int .u32 0, .int .u32 0] 72)) w.heap.size (fun i => hbN 8 (tp i)) 0 ∧ Below w.heap.size w (w.alloc (.cells #[.int .u32 0, .int .u32 0, .int .u32 0, .int .u32 0, .int .u32 0, .int .u32 0, .int .u32 0, .int .u32 0, .int .u32 0, .int .u32 0, .int .u32 0, .int .u32 0, .int .u32 0, .int .u32 0, .int .u32 0, .int .u32 0, .int .u32 0, .int .u32 0, .int .u32 0, .int .u32 0, .int .u32 0, .int .u32 0, .int .u32 0, .int .u32 0, .int .u32 0, .int .u32 0, .int .u32 0, .int .u32 0, .int .u32 0, .int .u32 0, .int .u32 0, .int .u32 0] 72))) :=
    ⟨⟨_, heap_alloc_new w _, rfl, fun j hj => absurd hj (Nat.not_lt_zero _)⟩, bl1 w _⟩
  obtain ⟨W0, hW0⟩ : ∃ W0, W0 = w.alloc (.cells #[.int .u32 0, .int .u32 0, .int .u32 0, .int .u32 0, .int .u32 0, .int .u32 0, .int .u32 0, .int .u32 0, .int .u32 0, .int .u32 0, .int .u32 0, .int .u32 0, .int .u32 0, .int .u32 0, .int .u32 0, .int .u32 0, .int .u32 0, .int .u32 0, .int .u32 0, .int .u32 0, .int .u32 0, .int .u32 0, .int .u32 0, .int .u32 0, .int .u32 0, .int .u32 0, .int .u32 0, .int .u32 0, .int .u32 0, .int .u32 0, .int .u32 0, .int .u32 0] 72) := ⟨_, rfl⟩
  rw [← hW0] at HA ⊢
  clear hW0 h
  go_wp2_with fail
  go_loopg [9] 32 (fun k i wr => ∃ j : Nat, j + k = 32 ∧ i = .int .i64 (j : Int) ∧ Hid (ArX wr w.heap.size (fun i => hbN 8 (tp i)) j ∧ Below w.heap.size w wr))
  case atStart => exact ⟨0, rfl, rfl, HA⟩
  case round =>
    clear HA
    obtain ⟨j, hk, rfl, HA⟩ := hrel
    by_cases hj : j < 32
    · have hji : (j : Int) < 32 := by omega
      obtain ⟨g, rfl⟩ : ∃ g, gk = g + 1 := ⟨gk - 1, by omega⟩
      have hsh := shlT j hj
      have mk : IntKind.i64.wrap ((j : Int) + 1) = (j : Int) + 1 := by rw [IntKind.wrap_i64]; omega
      obtain ⟨⟨v0, hv0⟩, hf0⟩ := HA.out.1.cell j hj
      have hst : stp (tp j) 0 = hbN 8 (tp j) := by unfold stp; simp
      have HN : Hid (ArX (wr.setCell ⟨w.heap.size, j, none⟩ (.int .u32 (uI (hbN 8 (tp j))))) w.heap.size (fun i => hbN 8 (tp i)) (j + 1) ∧ Below w.heap.size w (wr.setCell ⟨w.heap.size, j, none⟩ (.int .u32 (uI (hbN 8 (tp j)))))) := ⟨HA.out.1.set hj, HA.out.2.setCell (Nat.le_refl _) _⟩
      have HJ : Hid (j + 1 + g = 32) := by show j + 1 + g = 32; omega
      have KS := rstep13 (tp j) 0 (by decide) wr
      rw [hst] at KS
      clear HA hk hst
      go_wp2_with (go_at_call 37; refine KS.mono ?_; rintro e w1 ⟨rfl, hw1⟩; replace hw1 := hw1.symm; subst hw1)
      go_roundg g
      case measure => omega
      case rel => exact ⟨j + 1, HJ.out, rfl, HN⟩
    · have hji : ¬ (j : Int) < 32 := by omega
      obtain rfl : j = 32 := by omega
      go_wp2_with fail
      have hz : (hbN 0 a) = a := rfl
      go_loopg [2, 10, 11, 12] N (fun k n c t i wr => k ≤ N ∧ ∃ P Q : Nat, n = .int .i64 (k : Int) ∧ c = .int .u32 (uI (hbN P a)) ∧ Hid (ArX wr w.heap.size (fun i => hbN Q (tp i)) 32 ∧ Below w.heap.size w wr ∧ P + Q * k = 8 * N))
      case atStart => exact ⟨Nat.le_refl _, 0, 8, rfl, rfl, HA.out.1, HA.out.2, by omega⟩
      case round =>
        clear HA
        obtain ⟨hk2, P, Q, rfl, rfl, HA⟩ := hrel
        by_cases h0 : gk = 0
        · subst h0
          have hx := xor32 (hbN P a) b
          have HE : Hid (P = 8 * N ∧ Below w.heap.size w wr) := ⟨by have := HA.out.2.2; omega, HA.out.2.1⟩
          go_wp2_with fail
          exact bodyPost_ret (v := .tuple #[.int .u32 (uI (hbN P a ^^^ b)), .int .i64 0]) (by simp [results, Tryd.results21, go_sem]) rfl ⟨by rw [HE.out.1], HE.out.2⟩
        · have hpos : 0 < (gk : Int) := by omega
          have hodd := oddN gk (by omega)
          have hhalf : Hid ((gk : Int) / (2 : Int) = ((gk / 2 : Nat) : Int) ∧ gk / 2 < gk ∧ gk / 2 ≤ N) := by refine ⟨?_, ?_, ?_⟩ <;> omega
          have hd := Nat.div_add_mod gk 2
          have hq : Q * gk = Q * (2 * (gk / 2)) + Q * (gk % 2) := by rw [← Nat.mul_add, hd]
          have hq2 : Q * (2 * (gk / 2)) = (Q + Q) * (gk / 2) := by rw [← Nat.mul_assoc, Nat.mul_comm Q 2, Nat.two_mul]
          have E := HA.out.2.2
          have hfu : Hid (∀ W, ArX W w.heap.size (fun i => hbN Q (tp i)) 32 → (Instr.loadAt 72 (.pointer (some ⟨w.heap.size, 0, none⟩))).run Tryd.prog W = .ok (.agg (aC fun i => hbN Q (tp i))) W) := fun W hx => load32 hx.full
          obtain ⟨r, hr⟩ : ∃ r, r = gk % 2 := ⟨_, rfl⟩
          have hr2 : r = 0 ∨ r = 1 := by omega
          rw [← hr] at hodd hq
          have HR := hid13 hr2
          clear hr hr2
          go_upto_if 29 with fail
          go_cut [10] from 25 to 46 (fun c wc => ∃ P' : Nat, c = .int .u32 (uI (hbN P' a)) ∧ Hid (ArX wc w.heap.size (fun i => hbN Q (tp i)) 32 ∧ Below w.heap.size w wc ∧ P' + (Q + Q) * (gk / 2) = 8 * N))
          case first =>
            rcases HR.out with c | c
            · subst c
              have HN : Hid (ArX wr w.heap.size (fun i => hbN Q (tp i)) 32 ∧ Below w.heap.size w wr ∧ P + (Q + Q) * (gk / 2) = 8 * N) := ⟨HA.out.1, HA.out.2.1, by omega⟩
              clear hd hq hq2 E HA hk2 h0 hfu
              go_wp2_with fail
              go_meet
              case rel => exact ⟨P, rfl, HN⟩
            · subst c
              have HN : Hid (P + Q + (Q + Q) * (gk / 2) = 8 * N) := by show P + Q + (Q + Q) * (gk / 2) = 8 * N; omega
              have hl := hfu.out wr HA.out.1
              have KT := rthr13 (fun i => hbN Q (tp i)) (hbN P a) wr
              rw [thr_all Q _ (fun _ _ => rfl), ← hbN_add] at KT
              clear hd hq hq2 E hk2 h0 hfu
              go_wp2_with (first | (refine wpList_load_row rfl 72 _ rfl w.heap.size _ rfl hl ?_) | (go_at_call 40; refine KT.mono ?_; rintro e w1 ⟨rfl, hb1⟩))
              go_meet
              case rel => exact ⟨P + Q, rfl, HA.out.1.below hb1, keepb hb1 HA.out.2.1, HN.out⟩
          case rest =>
            obtain ⟨P', rfl, HC⟩ := hcut
            clear hd hq hq2 E HA hodd hk2 h0 hpos
            go_upto_region 13 with fail
            have HD : Hid (ArX (wc.alloc (.cells #[.int .u32 0, .int .u32 0, .int .u32 0, .int .u32 0, .int .u32 0, .int .u32 0, .int .u32 0, .int .u32 0, .int .u32 0, .int .u32 0, .int .u32 0, .int .u32 0, .int .u32 0, .int .u32 0, .int .u32 0, .int .u32 0, .int .u32 0, .int .u32 0, .int .u32 0, .int .u32 0, .int .u32 0, .int .u32 0, .int .u32 0, .int .u32 0, .int .u32 0, .int .u32 0, .int .u32 0, .int .u32 0, .int .u32 0, .int .u32 0, .int .u32 0, .int .u32 0] 72)) w.heap.size (fun i => hbN Q (tp i)) 32 ∧ ArX (wc.alloc (.cells #[.int .u32 0, .int .u32 0, .int .u32 0, .int .u32 0, .int .u32 0, .int .u32 0, .int .u32 0, .int .u32 0, .int .u32 0, .int .u32 0, .int .u32 0, .int .u32 0, .int .u32 0, .int .u32 0, .int .u32 0, .int .u32 0, .int .u32 0, .int .u32 0, .int .u32 0, .int .u32 0, .int .u32 0, .int .u32 0, .int .u32 0, .int .u32 0, .int .u32 0, .int .u32 0, .int .u32 0, .int .u32 0, .int .u32 0, .int .u32 0, .int .u32 0, .int .u32 0] 72)) wc.heap.size (fun i => hbN (Q + Q) (tp i)) 0 ∧ Below w.heap.size w (wc.alloc (.cells #[.int .u32 0, .int .u32 0, .int .u32 0, .int .u32 0, .int .u32 0, .int .u32 0, .int .u32 0, .int .u32 0, .int .u32 0, .int .u32 0, .int .u32 0, .int .u32 0, .int .u32 0, .int .u32 0, .int .u32 0, .int .u32 0, .int .u32 0, .int .u32 0, .int .u32 0, .int .u32 0, .int .u32 0, .int .u32 0, .int .u32 0, .int .u32 0, .int .u32 0, .int .u32 0, .int .u32 0, .int .u32 0, .int .u32 0, .int .u32 0, .int .u32 0, .int .u32 0] 72)) ∧ ¬ w.heap.size = wc.heap.size) :=
              ⟨HC.out.1.below (bl1 wc _), ⟨_, heap_alloc_new wc _, rfl, fun j hj => absurd hj (Nat.not_lt_zero _)⟩, keepb (bl1 wc _) HC.out.2.1, by have := HC.out.1.lt; omega⟩
            obtain ⟨W1, hW1⟩ : ∃ W1, W1 = wc.alloc (.cells #[.int .u32 0, .int .u32 0, .int .u32 0, .int .u32 0, .int .u32 0, .int .u32 0, .int .u32 0, .int .u32 0, .int .u32 0, .int .u32 0, .int .u32 0, .int .u32 0, .int .u32 0, .int .u32 0, .int .u32 0, .int .u32 0, .int .u32 0, .int .u32 0, .int .u32 0, .int .u32 0, .int .u32 0, .int .u32 0, .int .u32 0, .int .u32 0, .int .u32 0, .int .u32 0, .int .u32 0, .int .u32 0, .int .u32 0, .int .u32 0, .int .u32 0, .int .u32 0] 72) := ⟨_, rfl⟩
            rw [← hW1] at HD ⊢
            have HE := hid13 HC.out.2.2
            obtain ⟨T, hT⟩ : ∃ T, T = wc.heap.size := ⟨_, rfl⟩
            rw [← hT] at HD ⊢
            have HTl : Hid (w.heap.size < T) := by rw [hT]; exact HC.out.1.lt
            clear hW1 HC hT
            obtain ⟨gk2, hgk2⟩ : ∃ g, g = gk := ⟨_, rfl⟩
            rw [← hgk2] at HE hhalf
            go_wp2_with fail
            go_loopg [12] 32 (fun k i wr => ∃ j : Nat, j + k = 32 ∧ i = .int .i64 (j : Int) ∧ Hid (ArX wr w.heap.size (fun i => hbN Q (tp i)) 32 ∧ ArX wr T (fun i => hbN (Q + Q) (tp i)) j ∧ Below w.heap.size w wr ∧ ¬ w.heap.size = T))
            case atStart => exact ⟨0, rfl, rfl, HD⟩
            case round =>
              clear HD
              obtain ⟨j, hk, rfl, HD⟩ := hrel
              by_cases hj : j < 32
              · have hji : (j : Int) < 32 := by omega
                obtain ⟨g, rfl⟩ : ∃ g, gk = g + 1 := ⟨gk - 1, by omega⟩
                have mk : IntKind.i64.wrap ((j : Int) + 1) = (j : Int) + 1 := by rw [IntKind.wrap_i64]; omega
                have HJ : Hid (j + 1 + g = 32) := by show j + 1 + g = 32; omega
                have KT := fun W => rthr13 (fun i => hbN Q (tp i)) (hbN Q (tp j)) W
                rw [thr_all Q _ (fun _ _ => rfl), ← hbN_add] at KT
                go_wp2_with fail
                refine qp_region2 6 (qpOk 6 6 (by decide) (fun N => by kernel_rfl) (by kernel_rfl) (by kernel_rfl) (by kernel_rfl) (by kernel_rfl)) (C := fun W => ArX W w.heap.size (fun i => hbN Q (tp i)) 32 ∧ ArX W T (fun i => hbN (Q + Q) (tp i)) j ∧ Below w.heap.size w W ∧ ¬ w.heap.size = T) [some 37, some 38, some 39, some 40, some 41, some 42] [.int .i64 (j : Int), .agg (aC fun i => hbN Q (tp i)), .int .i64 (j : Int), .pointer (some ⟨w.heap.size, j, none⟩), .int .u32 (uI (hbN Q (tp j))), .int .u32 (uI (hbN (Q + Q) (tp j)))] (by kernel_rfl) ⟨HD.out.1.below (below_drewN (Below.refl _ _) 1), HD.out.2.1.below (below_drewN (Below.refl _ _) 1), HD.out.2.2.1.drew, HD.out.2.2.2⟩ ?walk ?fin
                case walk =>
                  dsimp only [List.take]
                  refine q_run (v := .int .i64 (j : Int)) (by rfl) ?_ ?_
                  · (intro w9 hC; clear hC; go_simp)
                  simp only [Act.put, List.setIfInBounds_toArray, List.set_cons_zero, List.set_cons_succ]
                  refine q_run (v := .agg (aC fun i => hbN Q (tp i))) (by rfl) ?_ ?_
                  · (intro w9 hC; have hl := load32 hC.1.full; clear hC; simp only [execOp, Act.eval]; exact ex13 hl)
                  simp only [Act.put, List.setIfInBounds_toArray, List.set_cons_zero, List.set_cons_succ]
                  refine q_run (v := .int .i64 (j : Int)) (by rfl) ?_ ?_
                  · (intro w9 hC; clear hC; go_simp)
                  simp only [Act.put, List.setIfInBounds_toArray, List.set_cons_zero, List.set_cons_succ]
                  refine q_run (v := .pointer (some ⟨w.heap.size, j, none⟩)) (by rfl) ?_ ?_
                  · (intro w9 hC; clear hC; go_simp)
                  simp only [Act.put, List.setIfInBounds_toArray, List.set_cons_zero, List.set_cons_succ]
                  refine q_run (v := .int .u32 (uI (hbN Q (tp j)))) (by rfl) ?_ ?_
                  · (intro w9 hC; have r0 := hC.1.get j hj; clear hC; go_simp)
                  simp only [Act.put, List.setIfInBounds_toArray, List.set_cons_zero, List.set_cons_succ]
                  refine q_call (v := .int .u32 (uI (hbN (Q + Q) (tp j)))) (f := 40) (args := #[.agg (aC fun i => hbN Q (tp i)), .int .u32 (uI (hbN Q (tp j)))]) (by rfl) ?_ ?_ ?_
                  · (intro w9 hC; clear hC; go_simp)
                  · exact fun w9 hC => (KT w9).mono fun e w' ⟨he, hb⟩ => ⟨he, hC.1.below hb, hC.2.1.below hb, keepb hb hC.2.2.1, hC.2.2.2⟩
                  simp only [Act.put, List.setIfInBounds_toArray, List.set_cons_zero, List.set_cons_succ]
                  refine wpQuiet_nil ?_
                  simp only [putAll, Act.put, List.setIfInBounds_toArray, List.set_cons_zero, List.set_cons_succ]
                case fin =>
                  intro W hC
                  simp only [putAll, Act.put, List.setIfInBounds_toArray, List.set_cons_zero, List.set_cons_succ]
                  dsimp only [List.drop]
                  obtain ⟨⟨v0, hv0⟩, hf0⟩ := hC.2.1.cell j hj
                  have HN : Hid (ArX (W.setCell ⟨T, j, none⟩ (.int .u32 (uI (hbN (Q + Q) (tp j))))) w.heap.size (fun i => hbN Q (tp i)) 32 ∧ ArX (W.setCell ⟨T, j, none⟩ (.int .u32 (uI (hbN (Q + Q) (tp j))))) T (fun i => hbN (Q + Q) (tp i)) (j + 1) ∧ Below w.heap.size w (W.setCell ⟨T, j, none⟩ (.int .u32 (uI (hbN (Q + Q) (tp j))))) ∧ ¬ w.heap.size = T) :=
                    ⟨hC.1.other hC.2.2.2 _, hC.2.1.set hj, hC.2.2.1.setCell (Nat.le_of_lt (HTl.out)) _, hC.2.2.2⟩
                  clear hC HD KT
                  go_wp2
                  go_roundg g
                  case measure => omega
                  case rel => exact ⟨j + 1, HJ.out, rfl, HN⟩
              · have hji : ¬ (j : Int) < 32 := by omega
                obtain rfl : j = 32 := by omega
                have hl := load32 HD.out.2.1.full
                have hfl := HD.out.1.full
                have HR2 : Hid (ArX (wr.setRow w.heap.size (aC fun i => hbN (Q + Q) (tp i))) w.heap.size (fun i => hbN (Q + Q) (tp i)) 32 ∧ Below w.heap.size w (wr.setRow w.heap.size (aC fun i => hbN (Q + Q) (tp i)))) :=
                  ⟨⟨_, setRow_heap wr _ _ _ _ _ hfl, aC_size _, fun j hj => aC_get _ j hj⟩, (below_setRow HD.out.2.2.1)⟩
                have HFL := hid13 hfl
                clear HD hfl
                go_wp2_with (first | (refine wpList_load_row rfl 72 _ rfl T _ rfl hl ?_) | (refine wpList_store_row rfl 72 _ _ rfl w.heap.size (aC fun i => hbN (Q + Q) (tp i)) rfl rfl 72 _ HFL.out (by rw [aC_size]; kernel_rfl) (by rw [aC_size, aC_size]) (aC_one _) ?_))
                go_roundg (gk2 / 2)
                case measure => rw [← hgk2]; exact hhalf.out.2.1
                case rel => exact ⟨hhalf.out.2.2, P', Q + Q, congrArg (Value.int .i64) (by rw [← hgk2]; exact hhalf.out.1), rfl, HR2.out.1, HR2.out.2, HE.out⟩
end Go.Proofs.YthbdmdafldombaaDoor
