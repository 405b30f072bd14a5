/-
  Part 2 of the proof: 5 texts, one behind the other.
-/
import Derived.Test.YtdpfdlkaickkiaaPart1
import Derived.Deep.QuietTactic
import Derived.BigQuiet
namespace Go.Proofs.Ytdpfdlkaickkiaa
open Go.RowKit
set_option linter.unusedSimpArgs false
set_option linter.unusedVariables false

structure Rn where
  f : BitVec 128
  k : Bool
  n : Int
structure Nde where
  b : Int
  r : List Rn
def rnV (r : Rn) : Value := .agg #[.int .u64 (hI r.f), .int .u64 (lI r.f), .bool r.k, .int .i64 r.n]
def RnAt (w : World) (b o : Nat) (r : Rn) : Prop := w.cell? ⟨b, o, none⟩ = some (.int .u64 (hI r.f)) ∧ w.cell? ⟨b, o + 1, none⟩ = some (.int .u64 (lI r.f)) ∧ w.cell? ⟨b, o + 2, none⟩ = some (.bool r.k) ∧ w.cell? ⟨b, o + 3, none⟩ = some (.int .i64 r.n)
theorem RnAt.below {w w' : World} {b o : Nat} {r : Rn} (h : RnAt w b o r) (hb : Below w.heap.size w w') : RnAt w' b o r := ⟨keepc hb h.1, keepc hb h.2.1, keepc hb h.2.2.1, keepc hb h.2.2.2⟩
theorem rnat_new (w : World) (r : Rn) (T : TypeId) : RnAt (w.alloc (.cells #[.int .u64 (hI r.f), .int .u64 (lI r.f), .bool r.k, .int .i64 r.n] T)) w.heap.size 0 r := by
  refine ⟨?_, ?_, ?_, ?_⟩ <;> simp [go_sem]
def RwN (w : World) (v : Value) (l : List Rn) : Prop := ∃ ao c, v = .slice ao l.length c ∧ l.length ≤ c ∧ (l = [] ∨ ∃ b off, ao = some ⟨b, off, none⟩ ∧ ∀ j r, l[j]? = some r → RnAt w b (off + j * 4) r)
theorem RwN.below {w w' : World} {v : Value} {l : List Rn} (h : RwN w v l) (hb : Below w.heap.size w w') : RwN w' v l := by
  obtain ⟨ao, c, e, hc, h⟩ := h
  refine ⟨ao, c, e, hc, h.imp id ?_⟩
  rintro ⟨b, off, e, h⟩
  exact ⟨b, off, e, fun j r hj => (h j r hj).below hb⟩
def RwD (w : World) (v : Value) (L : List Nde) : Prop := ∃ ao c, v = .slice ao L.length c ∧ L.length ≤ c ∧ (L = [] ∨ ∃ b off, ao = some ⟨b, off, none⟩ ∧ ∀ j d, L[j]? = some d → ∃ vr, w.cell? ⟨b, off + j * 2, none⟩ = some (.int .i64 d.b) ∧ w.cell? ⟨b, off + j * 2 + 1, none⟩ = some vr ∧ RwN w vr d.r)
theorem RwD.below {w w' : World} {v : Value} {L : List Nde} (h : RwD w v L) (hb : Below w.heap.size w w') : RwD w' v L := by
  obtain ⟨ao, c, e, hc, h⟩ := h
  refine ⟨ao, c, e, hc, h.imp id ?_⟩
  rintro ⟨b, off, e, h⟩
  refine ⟨b, off, e, fun j d hj => ?_⟩
  obtain ⟨vr, h1, h2, h3⟩ := h j d hj
  exact ⟨vr, keepc hb h1, keepc hb h2, h3.below hb⟩
def bitsB (n : Int) : Bool := decide (0 ≤ n) && decide (n ≤ 128)
theorem isBits_any (n : Int) (w : World) : Calls Try.prog 79 #[.int .i64 n] w fun e w' => e = .returned (.bool (bitsB n)) ∧ w' = w := by
  unfold bitsB
  go_enter Try.func79, Try.ntmps79
  by_cases h1 : 0 ≤ n
  · by_cases h2 : n ≤ 128
    · go_wp2
      go_ret
      exact ⟨by simp [h1, h2], rfl⟩
    · go_wp2
      go_ret
      exact ⟨by simp [h1, h2], rfl⟩
  · go_wp2
    go_ret
    exact ⟨by rw [decide_eq_false (by omega : ¬ 0 ≤ n)]; rfl, rfl⟩
def cntV (r : Rn) : Value := if r.k then .iface 127 (.int .i64 r.n) else .iface 134 (.int .i64 r.n)
theorem Try.leadC (v : Value) (w : World) : (Instr.makeInterface 127 v).run Try.prog w = .ok (.iface 127 v) w := by kernel_rfl
theorem Try.answC (v : Value) (w : World) : (Instr.makeInterface 134 v).run Try.prog w = .ok (.iface 134 v) w := by kernel_rfl
theorem content_any (r : Rn) (w : World) :
    Calls Try.prog 82 #[rnV r] w fun e w' => e = .returned (cntV r) ∧ Below w.heap.size w w' := by
  have c1 := Try.leadC (.int .i64 r.n)
  have c2 := Try.answC (.int .i64 r.n)
  obtain ⟨f, k, n⟩ := r
  unfold cntV rnV
  dsimp only
  cases k
  · go_enter Try.func82, Try.ntmps82
    go_wp2
    go_ret
    exact ⟨rfl, bl1 _ _⟩
  · go_enter Try.func82, Try.ntmps82
    go_wp2
    go_ret
    exact ⟨rfl, bl1 _ _⟩
theorem Try.as1 (W : World) (v : Value) : (Instr.typeAssert (.iface 134 v) 125 134 true).run Try.prog W = .ok (.tuple #[v, .bool true]) W := by kernel_rfl
theorem Try.as2 (W : World) (v : Value) : (Instr.typeAssert (.iface 127 v) 125 127 true).run Try.prog W = .ok (.tuple #[v, .bool true]) W := by kernel_rfl
theorem Try.as3 (W : World) (v : Value) : (Instr.typeAssert (.iface 127 v) 125 134 true).run Try.prog W = .ok (.tuple #[.int .i64 0, .bool false]) W := by kernel_rfl
theorem Try.as4 (W : World) (v : Value) : (Instr.typeAssert (.iface 134 v) 125 127 true).run Try.prog W = .ok (.tuple #[.int .i64 0, .bool false]) W := by kernel_rfl
def runE (r : Rn) (i N : Int) : Int := if r.k then (if r.n ≤ i ∨ N ≤ r.n then 26 else 0) else (if r.n < 0 ∨ 65535 < r.n then 15 else 0)
theorem checkContent_any (r : Rn) (i N : Int) (w : World) :
    Calls Try.prog 81 #[cntV r, .int .i64 i, .int .i64 N] w fun e w' => e = .returned (.int .i64 (runE r i N)) ∧ w' = w := by
  have a1 := Try.as1
  have a2 := Try.as2
  have a3 := Try.as3
  obtain ⟨f, k, n⟩ := r
  unfold cntV runE
  dsimp only
  cases k
  · simp only [Bool.false_eq_true, if_false]
    by_cases h1 : n < 0
    · rw [if_pos (.inl h1)]
      go_enter Try.func81, Try.ntmps81
      go_wp2
      go_ret
      exact ⟨rfl, rfl⟩
    · by_cases h2 : 65535 < n
      · rw [if_pos (.inr h2)]
        go_enter Try.func81, Try.ntmps81
        go_wp2
        go_ret
        exact ⟨rfl, rfl⟩
      · rw [if_neg (by omega)]
        go_enter Try.func81, Try.ntmps81
        go_wp2
        go_ret
        exact ⟨rfl, rfl⟩
  · simp only [if_true]
    by_cases h1 : n ≤ i
    · rw [if_pos (.inl h1)]
      go_enter Try.func81, Try.ntmps81
      go_wp2
      go_ret
      exact ⟨rfl, rfl⟩
    · by_cases h2 : N ≤ n
      · rw [if_pos (.inr h2)]
        go_enter Try.func81, Try.ntmps81
        go_wp2
        go_ret
        exact ⟨rfl, rfl⟩
      · rw [if_neg (by omega)]
        go_enter Try.func81, Try.ntmps81
        go_wp2
        go_ret
        exact ⟨rfl, rfl⟩
def smR (r s : Rn) : Bool := (r.k == s.k) && (r.n == s.n)
set_option maxHeartbeats 1000000 in
theorem sayTheSame_any (r s : Rn) (w : World) :
    Calls Try.prog 92 #[rnV r, rnV s] w fun e w' => e = .returned (.bool (smR r s)) ∧ Below w.heap.size w w' := by
  obtain ⟨f, k, n⟩ := r
  obtain ⟨g, j, m⟩ := s
  unfold smR rnV
  dsimp only
  by_cases h1 : k = j
  · subst h1
    have e1 : (k == k) = true := by simp
    rw [e1, Bool.true_and]
    go_enter Try.func92, Try.ntmps92
    go_wp2
    go_ret
    exact ⟨by first | rfl | simp, bl2 _ _ _⟩
  · have e1 : (k == j) = false := by simpa using h1
    rw [e1, Bool.false_and]
    clear h1
    go_enter Try.func92, Try.ntmps92
    go_wp2
    go_ret
    exact ⟨by first | rfl | simp, bl2 _ _ _⟩
end Go.Proofs.Ytdpfdlkaickkiaa
namespace Go.Proofs.Ytdpfdlkaickkiaa
open Go.RowKit
set_option linter.unusedSimpArgs false
set_option linter.unusedVariables false

theorem q_run {P : Program} {ops : Array Oper} {C : World → Prop} {Q : Act → Prop} {a : Act} {o : Oper} {rest : List Oper} {v : Value}
    (hw : Region.wanted o (yielded ops a.tmps) = true) (h : ∀ w, C w → (execOp a.eval o).run P w = .ok (.value v) w) (k : wpQuiet P ops C Q rest (a.put o.dst v)) : wpQuiet P ops C Q (o :: rest) a := by
  refine wpQuiet_step (fun K hK => ?_)
  rw [if_pos hw]
  refine ⟨v, fun w hC => ?_, hK _ k⟩
  unfold Oper.quietAt; rw [h w hC]; exact ⟨rfl, rfl⟩
theorem q_skip {P : Program} {ops : Array Oper} {C : World → Prop} {Q : Act → Prop} {a : Act} {o : Oper} {rest : List Oper}
    (hw : Region.wanted o (yielded ops a.tmps) = false) (k : wpQuiet P ops C Q rest (a.put o.dst undef)) : wpQuiet P ops C Q (o :: rest) a := by
  refine wpQuiet_step (fun K hK => ?_)
  rw [if_neg (by rw [hw]; decide)]
  exact hK _ k
theorem q_call {P : Program} {ops : Array Oper} {C : World → Prop} {Q : Act → Prop} {a : Act} {o : Oper} {rest : List Oper} {v : Value} {f : FuncId} {args : Array Value}
    (hw : Region.wanted o (yielded ops a.tmps) = true) (h : ∀ w, C w → (execOp a.eval o).run P w = .ok (.enter f args) w) (hc : ∀ w, C w → Calls P f args w fun e w' => e = .returned v ∧ C w') (k : wpQuiet P ops C Q rest (a.put o.dst v)) : wpQuiet P ops C Q (o :: rest) a := by
  refine wpQuiet_step (fun K hK => ?_)
  rw [if_pos hw]
  refine ⟨v, fun w hC => ?_, hK _ k⟩
  unfold Oper.quietAt; rw [h w hC]; exact ⟨rfl, hc w hC⟩
theorem q_region {P : Program} {C : World → Prop} {id : Nat} {Q : Exit → Act → World → Prop} {a : Act} {w : World} {l : List Oper} (hm : P.follows .mixedOrders = true) (hB : Region.lexB .any l.toArray = true) (hC : C w.drew)
    (h : wpQuiet P l.toArray C (fun a' => ∀ w', C w' → Q .normal a' w') l a) : (Code.region id l.toArray true).wp P Q a w :=
  wp_region_quiet (C := C) hm hB hC (by simpa using h)
end Go.Proofs.Ytdpfdlkaickkiaa
namespace Go.Proofs.Ytdpfdlkaickkiaa
open Go.RowKit
set_option linter.unusedSimpArgs false
set_option linter.unusedVariables false

section
variable {P : Program}

theorem put_size (a : Act) (dst : Option Tmp) (v : Value) : (a.put dst v).tmps.size = a.tmps.size := by
  unfold Act.put; cases dst <;> simp
theorem put_other (a : Act) (dst : Option Tmp) (v : Value) (s : Nat) (h : dst ≠ some s) : (a.put dst v).tmps[s]? = a.tmps[s]? := by
  unfold Act.put
  cases dst with
  | none => rfl
  | some d =>
    have : d ≠ s := fun e => h (by rw [e])
    simp [Array.getElem?_setIfInBounds, this]
def rep (l : List Oper) (j : Nat) (N : Value) : List Oper := l.modify j fun o => { o with op := .assign (.const N) }
theorem rep_len (l : List Oper) (j : Nat) (N : Value) : (rep l j N).length = l.length := by unfold rep; simp
theorem rep_ne (l : List Oper) (j : Nat) (N : Value) (i : Nat) (h : i ≠ j) : (rep l j N)[i]? = l[i]? := by
  unfold rep; rw [List.getElem?_modify]; simp [Ne.symm h]
theorem rep_same (l : List Oper) (j : Nat) (N : Value) (i : Nat) : ((rep l j N)[i]?).map (fun o => (o.dst, o.after, o.guard)) = (l[i]?).map (fun o => (o.dst, o.after, o.guard)) := by
  unfold rep
  rw [List.getElem?_modify]
  cases l[i]? <;> simp
  split <;> simp
theorem rep_of (l : List Oper) (j : Nat) (N : Value) (i : Nat) (o : Oper) (h : l[i]? = some o) : ∃ o', (rep l j N)[i]? = some o' ∧ o'.dst = o.dst ∧ o'.after = o.after ∧ o'.guard = o.guard := by
  have := rep_same l j N i
  rw [h] at this
  cases e : (rep l j N)[i]? with
  | none => rw [e] at this; simp at this
  | some o' => rw [e] at this; simp at this; exact ⟨o', rfl, this.1, this.2.1, this.2.2⟩
theorem rep_yield (l : List Oper) (j : Nat) (N : Value) (tmps : Array Value) (k : Nat) : yielded (rep l j N).toArray tmps k = yielded l.toArray tmps k := by
  unfold yielded
  have := rep_same l j N k
  simp only [List.getElem?_toArray]
  cases e : l[k]? with
  | none =>
    cases e' : (rep l j N)[k]? with
    | none => rfl
    | some o => rw [e, e'] at this; simp at this
  | some o =>
    cases e' : (rep l j N)[k]? with
    | none => rw [e, e'] at this; simp at this
    | some o' => rw [e, e'] at this; simp at this; simp [this.1]
theorem yield_take (l : List Oper) (m : Nat) (tmps : Array Value) (k : Nat) (hk : k < m) : yielded (l.take m).toArray tmps k = yielded l.toArray tmps k := by
  unfold yielded
  simp [List.getElem?_take, hk]
def seqB (md : Region.Mode) (ops : Array Oper) : Nat → Nat → Array Bool → Bool
  | 0, _, listed => Region.ready md ops listed == []
  | f + 1, k, listed => (Region.ready md ops listed == [k]) && seqB md ops f (k + 1) (listed.setIfInBounds k true)
theorem any_seq {md : Region.Mode} {ops : Array Oper} {Q : Exit → Act → World → Prop} : ∀ (l : List Oper) (k : Nat) (listed : Array Bool) (a : Act) (w : World), (∀ i, l[i]? = ops[k + i]?) → seqB md ops l.length k listed = true →
    wpList P ops Q l a w → wpAny P md ops Q l.length listed a w
  | [], k, listed, a, w, _, hB, h => by
    simp only [List.length_nil, seqB, beq_iff_eq] at hB
    exact ⟨hB, h⟩
  | o :: l, k, listed, a, w, hl, hB, h => by
    simp only [List.length_cons, seqB, Bool.and_eq_true, beq_iff_eq] at hB
    refine ⟨fun e => (by rw [hB.1] at e; cases e), fun i hi => ?_⟩
    rw [hB.1] at hi
    have e : i = k := by simpa using hi
    subst e
    have h0 : ops[i]? = some o := by simpa using (hl 0).symm
    unfold wpOp
    simp only [h0]
    have ih : ∀ a w, wpList P ops Q l a w → wpAny P md ops Q l.length (listed.setIfInBounds i true) a w := fun a w h => any_seq l (i + 1) (listed.setIfInBounds i true) a w (fun q => by have := hl (q + 1); simpa [Nat.add_assoc, Nat.add_comm 1 q] using this) hB.2 h
    unfold wpList at h
    split
    · rename_i hw
      rw [if_pos hw] at h
      exact h.imp (Oper.wp_mono ih) id
    · rename_i hw
      rw [if_neg hw] at h
      exact ih _ _ h

theorem get_app_lt (lp : Array Bool) (p i : Nat) (h : i < lp.size) (d : Bool) : (lp ++ Array.replicate p false).getD i d = lp.getD i d := by
  simp [Array.getElem?_append, h]
theorem get_app_false (lp : Array Bool) (p i : Nat) : (lp ++ Array.replicate p false).getD i false = lp.getD i false := by
  by_cases h : i < lp.size
  · exact get_app_lt lp p i h false
  · simp [Array.getElem?_append, h, Array.getElem?_replicate]
    split <;> rfl
theorem set_app (lp : Array Bool) (p i : Nat) (h : i < lp.size) : (lp ++ Array.replicate p false).setIfInBounds i true = lp.setIfInBounds i true ++ Array.replicate p false := by
  apply Array.ext
  · simp
  · intro q h1 h2
    rw [Array.getElem_setIfInBounds (hj := by simpa using h1)]
    rw [Array.getElem_append, Array.getElem_append]
    by_cases c : i = q
    · subst c
      simp [h]
    · rw [if_neg c]
      simp only [Array.size_setIfInBounds]
      split
      · rw [Array.getElem_setIfInBounds, if_neg c]
      · rfl
def unl (lp : Array Bool) : Nat := lp.toList.count false
theorem count_set : ∀ (l : List Bool) (i : Nat), l[i]? = some false → (l.set i true).count false + 1 = l.count false := by
  intro l
  induction l with
  | nil => intro i h; simp at h
  | cons b l ih =>
    intro i h
    cases i with
    | zero => simp at h; subst h; simp
    | succ i =>
      have := ih i (by simpa using h)
      simp only [List.set_cons_succ, List.count_cons]
      omega
theorem unl_set (lp : Array Bool) (i : Nat) (h : lp.getD i true = false) : unl (lp.setIfInBounds i true) + 1 = unl lp := by
  unfold unl
  rw [Array.toList_setIfInBounds]
  apply count_set
  rw [Array.getElem?_toList]
  cases e : lp[i]? with
  | none => rw [Array.getD_eq_getD_getElem?, e] at h; simp at h
  | some b => rw [Array.getD_eq_getD_getElem?, e] at h; simp at h; rw [h]
theorem unl_zero (lp : Array Bool) (h : unl lp = 0) : lp = Array.replicate lp.size true := by
  unfold unl at h
  rw [List.count_eq_zero] at h
  apply Array.ext
  · simp
  · intro i h1 h2
    simp
    cases e : lp[i] with
    | true => rfl
    | false => exact absurd (by rw [← e]; simp) h
theorem unl_some (lp : Array Bool) (f : Nat) (h : unl lp = f + 1) : ∃ k, k < lp.size ∧ lp.getD k true = false := by
  unfold unl at h
  have : false ∈ lp.toList := List.count_pos_iff.mp (by omega)
  obtain ⟨k, hk, e⟩ := List.getElem_of_mem this
  have hk' : k < lp.size := by simpa using hk
  exact ⟨k, hk', by rw [Array.getD_eq_getD_getElem?]; simp [hk']; simpa using e⟩
def waitB (l : List Oper) (m : Nat) : Bool := (l.drop m).all fun o => (List.range m).all fun k => o.after.any fun e => Region.binds .any e && e.on == k
theorem ready_pre (l : List Oper) (m j : Nat) (N : Value) (hml : m ≤ l.length) (hw : waitB l m = true) (lp : Array Bool) (hs : lp.size = m) (f : Nat) (hu : unl lp = f + 1) (i : Nat)
    (hi : i ∈ Region.ready .any l.toArray (lp ++ Array.replicate (l.length - m) false)) : i < m ∧ i ∈ Region.ready .any (rep (l.take m) j N).toArray lp := by
  obtain ⟨hun, o, ho, hall⟩ := mem_ready.1 hi
  have ho' : l[i]? = some o := by simpa using ho
  have him : i < m := by
    apply Classical.byContradiction
    intro c
    obtain ⟨k, hk, hf⟩ := unl_some lp f hu
    have hmem : o ∈ l.drop m := by
      have : (l.drop m)[i - m]? = some o := by rw [List.getElem?_drop, show m + (i - m) = i by omega]; exact ho'
      exact List.mem_of_getElem? this
    have h1 := List.all_eq_true.mp hw o hmem
    have h2 := List.all_eq_true.mp h1 k (List.mem_range.mpr (by omega))
    obtain ⟨e, he, heq⟩ := Array.any_eq_true'.mp h2
    simp only [Bool.and_eq_true, beq_iff_eq] at heq
    have h3 := hall e he heq.1
    rw [heq.2, get_app_false] at h3
    rw [Array.getD_eq_getD_getElem?] at h3 hf
    cases q : lp[k]? with
    | none => rw [q] at h3; simp at h3
    | some b => rw [q] at h3 hf; simp at h3 hf; rw [h3] at hf; cases hf
  refine ⟨him, mem_ready.2 ⟨by rw [get_app_lt lp _ i (by omega)] at hun; exact hun, ?_⟩⟩
  obtain ⟨o', h1, h2, h3, h4⟩ := rep_of (l.take m) j N i o (by rw [List.getElem?_take, if_pos him]; exact ho')
  refine ⟨o', by simpa using h1, fun e he hb => ?_⟩
  rw [h3] at he
  have := hall e he hb
  rwa [get_app_false] at this

theorem wanted_rep (l : List Oper) (m j : Nat) (N : Value) (a : Act) (o o' : Oper) (hg : o'.guard = o.guard) (hlt : ∀ k b, o.guard = some (k, b) → k < m) : Region.wanted o' (yielded (rep (l.take m) j N).toArray a.tmps) = Region.wanted o (yielded l.toArray a.tmps) := by
  unfold Region.wanted
  rw [hg]
  cases e : o.guard with
  | none => rfl
  | some kb =>
    obtain ⟨k, b⟩ := kb
    simp only
    rw [rep_yield, yield_take l m a.tmps k (hlt k b e)]
theorem wp_of_yields {ops ops' : Array Oper} {C : World → Prop} {Q : Exit → Act → World → Prop} {i : Nat} {o : Oper} {v : Value} {a : Act} {w : World} {K : Act → World → Prop} (ho : ops[i]? = some o) (hw : Region.wanted o (yielded ops' a.tmps) = Region.wanted o (yielded ops a.tmps))
    (hy : YieldsIn P ops' C o v a) (hC : C w) (h : ∀ w', C w' → K (a.put o.dst v) w') : wpOp P ops Q i K a w := by
  unfold wpOp
  simp only [ho]
  rcases hy with ⟨h1, h2⟩ | ⟨h1, h2⟩
  · rw [if_pos (by rw [← hw]; exact h1)]
    exact .inl (Oper.wp_of_quiet (K := fun a' => a' = a.put o.dst v) hC (fun a' w' hw' e => by rw [e]; exact h w' hw') ⟨v, h2, rfl⟩)
  · rw [if_neg (by rw [← hw, h1]; decide)]
    rw [← h2]
    exact h w hC
structure QpOk (l : List Oper) (m j : Nat) : Prop where
  ml : m ≤ l.length
  lex : ∀ N, Region.lexB .any (rep (l.take m) j N).toArray = true
  wait : waitB l m = true
  seq : seqB .any l.toArray (l.length - m) m (Array.replicate m true ++ Array.replicate (l.length - m) false) = true
  guards : ∀ (i : Nat) o, l[i]? = some o → ∀ k b, o.guard = some (k, b) → k < m
  edges : ∀ (i : Nat) o, l[i]? = some o → ∀ e ∈ o.after, Region.binds .any e = true → e.on < i
def guardsB (l : List Oper) (m : Nat) : Bool := l.all fun o => match o.guard with | some (k, _) => decide (k < m) | none => true
theorem guards_of {l : List Oper} {m : Nat} (h : guardsB l m = true) : ∀ (i : Nat) o, l[i]? = some o → ∀ k b, o.guard = some (k, b) → k < m := by
  intro i o ho k b hg
  have := List.all_eq_true.mp h o (List.mem_of_getElem? ho)
  rw [hg] at this
  simpa using this
def edgesB (l : List Oper) : Bool := (List.range l.length).all fun i => match l[i]? with | some o => o.after.all fun e => !Region.binds .any e || decide (e.on < i) | none => true
theorem edges_of {l : List Oper} (h : edgesB l = true) : ∀ (i : Nat) o, l[i]? = some o → ∀ e ∈ o.after, Region.binds .any e = true → e.on < i := by
  intro i o ho e he hb
  have hi : i < l.length := (List.getElem?_eq_some_iff.mp ho).1
  have h1 := List.all_eq_true.mp h i (List.mem_range.mpr hi)
  simp only [ho] at h1
  have := Array.all_eq_true_iff_forall_mem.1 h1 e he
  simpa [hb] using this
theorem qpOk {l : List Oper} (m j : Nat) (h1 : m ≤ l.length) (h2 : ∀ N, Region.lexB .any (rep (l.take m) j N).toArray = true) (h3 : waitB l m = true)
    (h4 : seqB .any l.toArray (l.length - m) m (Array.replicate m true ++ Array.replicate (l.length - m) false) = true) (h5 : guardsB l m = true) (h6 : edgesB l = true) : QpOk l m j :=
  ⟨h1, h2, h3, h4, guards_of h5, edges_of h6⟩
theorem erase_get (l l' : List Value) (d s : Nat) (h : l.eraseIdx d = l'.eraseIdx d) (hs : s ≠ d) : l[s]? = l'[s]? := by
  rcases Nat.lt_or_gt_of_ne hs with q | q
  · have := congrArg (fun x => x[s]?) h
    simpa [List.getElem?_eraseIdx, q] using this
  · have := congrArg (fun x => x[s - 1]?) h
    simp only [List.getElem?_eraseIdx] at this
    rw [if_neg (by omega), if_neg (by omega), show s - 1 + 1 = s by omega] at this
    exact this
theorem some_ready {l : List Oper} {m j : Nat} (ok : QpOk l m j) (lp : Array Bool) (hs : lp.size = m) : ∀ k, k < m → lp.getD k true = false → Region.ready .any l.toArray (lp ++ Array.replicate (l.length - m) false) ≠ [] := by
  intro k
  induction k using Nat.strongRecOn with
  | ind k ih =>
    intro hk hf hr
    have hkl : k < l.length := by have := ok.ml; omega
    by_cases c : ∀ e ∈ (l[k]).after, Region.binds .any e = true → (lp ++ Array.replicate (l.length - m) false).getD e.on false = true
    · have : k ∈ Region.ready .any l.toArray (lp ++ Array.replicate (l.length - m) false) := mem_ready.2 ⟨by rw [get_app_lt lp _ k (by omega)]; exact hf, l[k], by simp [hkl], c⟩
      rw [hr] at this
      cases this
    · simp only [Classical.not_forall] at c
      obtain ⟨e, he, hb, hn⟩ := c
      have hlt := ok.edges k l[k] (by simp [hkl]) e he hb
      rw [get_app_false] at hn
      refine ih e.on hlt (by omega) ?_ hr
      have hlt2 : e.on < lp.size := by omega
      rw [Array.getD_eq_getD_getElem?] at hn ⊢
      simp [hlt2] at hn ⊢
      exact hn
theorem done_any {l : List Oper} {m j : Nat} (ok : QpOk l m j) {C : World → Prop} {N : Value} {A : Act} {Q : Exit → Act → World → Prop}
    (hpost : ∀ w, C w → wpList P l.toArray Q (l.drop m) A w) : ∀ (fuel : Nat) (lp : Array Bool) (a : Act) (w : World), lp.size = m → unl lp = fuel → (j < m → lp.getD j false = true) → C w →
      wpAnyQ P .any (rep (l.take m) j N).toArray C (fun a' => a' = A) fuel lp a → wpAny P .any l.toArray Q (fuel + (l.length - m)) (lp ++ Array.replicate (l.length - m) false) a w := by
  intro fuel
  induction fuel with
  | zero =>
    intro lp a w hs hu hj hC h
    rw [h.2, unl_zero lp hu, hs, Nat.zero_add, show l.length - m = (l.drop m).length by simp]
    refine any_seq (l.drop m) m _ A w (fun i => by simp) ?_ (hpost w hC)
    have := ok.seq
    rwa [show l.length - m = (l.drop m).length by simp] at this
  | succ fuel ih =>
    intro lp a w hs hu hj hC h
    rw [show fuel + 1 + (l.length - m) = (fuel + (l.length - m)) + 1 by omega]
    have key : ∀ i ∈ Region.ready .any l.toArray (lp ++ Array.replicate (l.length - m) false), wpOp P l.toArray Q i (wpAny P .any l.toArray Q (fuel + (l.length - m)) ((lp ++ Array.replicate (l.length - m) false).setIfInBounds i true)) a w := by
      intro i hi
      obtain ⟨him, hir⟩ := ready_pre l m j N ok.ml ok.wait lp hs fuel hu i hi
      obtain ⟨hun, _⟩ := mem_ready.1 hir
      have hij : i ≠ j := by
        intro e
        subst e
        have hj := hj him
        rw [Array.getD_eq_getD_getElem?] at hun hj
        cases q : lp[i]? with
        | none => rw [q] at hun; simp at hun
        | some b => rw [q] at hun hj; simp at hun hj; rw [hun] at hj; cases hj
      obtain ⟨_, o, ho, _⟩ := mem_ready.1 hi
      have ho' : l[i]? = some o := by simpa using ho
      have hor : (rep (l.take m) j N).toArray[i]? = some o := by
        simp only [List.getElem?_toArray]
        rw [rep_ne _ _ _ _ hij, List.getElem?_take, if_pos him]; exact ho'
      obtain ⟨v, hy, hK⟩ := yieldsIn_of_qOp hor (h.2 i hir)
      refine wp_of_yields ho (wanted_rep l m j N a o o rfl (ok.guards i o ho')) hy hC (fun w' hw' => ?_)
      rw [set_app lp _ i (by omega)]
      refine ih _ _ w' (by simp [hs]) (by have := unl_set lp i hun; omega) ?_ hw' hK
      exact fun q => getD_set_true (hj q)
    refine ⟨fun e => ?_, key⟩
    obtain ⟨k, hk, hf⟩ := unl_some lp fuel hu
    exact absurd e (some_ready ok lp hs k (by omega) hf)
theorem rep_out (l : List Oper) (j : Nat) (N : Value) (h : l.length ≤ j) : rep l j N = l := by
  apply List.ext_getElem?
  intro i
  by_cases c : i = j
  · subst c
    rw [List.getElem?_eq_none (by rw [rep_len]; exact h), List.getElem?_eq_none h]
  · exact rep_ne l j N i c
def putAll (a : Act) : List (Option Tmp) → List Value → Act
  | d :: ds, v :: vs => putAll (a.put d v) ds vs
  | _, _ => a
end
end Go.Proofs.Ytdpfdlkaickkiaa
namespace Go.Proofs.Ytdpfdlkaickkiaa
open Go.RowKit
set_option linter.unusedSimpArgs false
set_option linter.unusedVariables false

section
variable {P : Program}
structure Sim (b l : List Oper) (m : Nat) (E : Nat → Bool) : Prop where
  len : b.length = m
  same : ∀ i, i < m → ∀ o, l[i]? = some o → ∃ o', b[i]? = some o' ∧ o'.dst = o.dst ∧ o'.after = o.after ∧ o'.guard = o.guard ∧ (E i = false → o' = o)
theorem Sim.yield {b l : List Oper} {m : Nat} {E : Nat → Bool} (h : Sim b l m E) (hml : m ≤ l.length) (tmps : Array Value) (k : Nat) (hk : k < m) : yielded b.toArray tmps k = yielded l.toArray tmps k := by
  have hl : k < l.length := by omega
  obtain ⟨o2, q1, q2, -, -, -⟩ := h.same k hk l[k] (by simp [hl])
  unfold yielded
  simp only [List.getElem?_toArray, q1, List.getElem?_eq_getElem hl, Option.bind_some, q2]
theorem Sim.wanted {b l : List Oper} {m : Nat} {E : Nat → Bool} (h : Sim b l m E) (hml : m ≤ l.length) (a : Act) (o : Oper) (hlt : ∀ k c, o.guard = some (k, c) → k < m) : Region.wanted o (yielded b.toArray a.tmps) = Region.wanted o (yielded l.toArray a.tmps) := by
  unfold Region.wanted
  cases e : o.guard with
  | none => rfl
  | some kb =>
    obtain ⟨k, c⟩ := kb
    simp only
    rw [h.yield hml a.tmps k (hlt k c e)]
theorem Sim.ready {b l : List Oper} {m : Nat} {E : Nat → Bool} (h : Sim b l m E) (hml : m ≤ l.length) (hw : waitB l m = true) (lp : Array Bool) (hs : lp.size = m) (f : Nat) (hu : unl lp = f + 1) (i : Nat)
    (hi : i ∈ Region.ready .any l.toArray (lp ++ Array.replicate (l.length - m) false)) : i < m ∧ i ∈ Region.ready .any b.toArray lp := by
  obtain ⟨him, -⟩ := ready_pre l m m undef hml hw lp hs f hu i hi
  obtain ⟨hun, o, ho, hall⟩ := mem_ready.1 hi
  obtain ⟨o', q1, q2, q3, q4, -⟩ := h.same i him o (by simpa using ho)
  refine ⟨him, mem_ready.2 ⟨by rw [get_app_lt lp _ i (by omega)] at hun; exact hun, o', by simpa using q1, fun e he hb => ?_⟩⟩
  rw [q3] at he
  have := hall e he hb
  rwa [get_app_false] at this
theorem putAll_size : ∀ (ds : List (Option Tmp)) (vs : List Value) (a : Act), (putAll a ds vs).tmps.size = a.tmps.size
  | [], _, a => by cases ‹List Value› <;> rfl
  | d :: ds, [], a => rfl
  | d :: ds, v :: vs, a => by
    show (putAll (a.put d v) ds vs).tmps.size = _
    rw [putAll_size ds vs, put_size]
end
end Go.Proofs.Ytdpfdlkaickkiaa
namespace Go.Proofs.Ytdpfdlkaickkiaa
open Go.RowKit
set_option linter.unusedSimpArgs false
set_option linter.unusedVariables false

section
variable {P : Program}

theorem putAll_other : ∀ (ds : List (Option Tmp)) (vs : List Value) (a : Act) (s : Nat), (∀ d ∈ ds, d ≠ some s) → (putAll a ds vs).tmps[s]? = a.tmps[s]?
  | [], vs, a, s, _ => by cases vs <;> rfl
  | d :: ds, [], a, s, _ => rfl
  | d :: ds, v :: vs, a, s, h => by
    rw [putAll, putAll_other ds vs (a.put d v) s (fun x hx => h x (List.mem_cons_of_mem _ hx))]
    exact put_other a d v s (h d (by simp))
theorem putAll_defers : ∀ (ds : List (Option Tmp)) (vs : List Value) (a : Act), (putAll a ds vs).defers = a.defers
  | [], vs, a => by cases vs <;> rfl
  | d :: ds, [], a => rfl
  | d :: ds, v :: vs, a => by
    rw [putAll, putAll_defers ds vs (a.put d v)]
    unfold Act.put
    cases d <;> rfl
structure Slt (l : List Oper) (a A : Act) (lp : Array Bool) (a' : Act) : Prop where
  don : ∀ (k : Nat) (o : Oper) (s : Nat), l[k]? = some o → lp.getD k false = true → o.dst = some s → a'.tmps[s]? = A.tmps[s]?
  oth : ∀ s, (∀ (k : Nat) (o : Oper), l[k]? = some o → lp.getD k false = true → o.dst ≠ some s) → a'.tmps[s]? = a.tmps[s]?
  siz : a'.tmps.size = a.tmps.size
  dfr : a'.defers = a.defers
theorem getD_set {lp : Array Bool} {i k : Nat} (h : (lp.setIfInBounds i true).getD k false = true) : k = i ∨ lp.getD k false = true := by
  by_cases e : k = i
  · exact .inl e
  · right
    rw [Array.getD_eq_getD_getElem?] at h ⊢
    rwa [Array.getElem?_setIfInBounds_ne (by omega)] at h
theorem getD_set_same {lp : Array Bool} {i : Nat} (h : i < lp.size) : (lp.setIfInBounds i true).getD i false = true := by
  rw [Array.getD_eq_getD_getElem?, Array.getElem?_setIfInBounds_self_of_lt h]
  rfl
def valO (A : Act) (o : Oper) : Value := ((o.dst).bind fun s => A.tmps[s]?).getD undef
theorem gh_any {γ : Type} {l : List Oper} (ok : QpOk l l.length l.length) (hgd : ∀ o ∈ l, o.guard = none) (hdst : ∀ (i k : Nat) (oi ok : Oper) (s : Nat), l[i]? = some oi → l[k]? = some ok → oi.dst = some s → ok.dst = some s → i = k) {Q : Exit → Act → World → Prop} {a : Act} (A : γ → Act) (hsz : ∀ g, (A g).tmps.size = a.tmps.size) (hdf : ∀ g, (A g).defers = a.defers) (hA : ∀ g s, (∀ o ∈ l, o.dst ≠ some s) → (A g).tmps[s]? = a.tmps[s]?) (R : Array Bool → γ → World → Prop)
    (hstep : ∀ (i : Nat) (o : Oper) (lp : Array Bool) (g : γ) (w' : World) (a' : Act), l[i]? = some o → lp.size = l.length → lp.getD i false = false → (∀ e ∈ o.after, Region.binds .any e = true → lp.getD e.on false = true) → R lp g w' → Slt l a (A g) lp a' →
      ∀ (K : Act → World → Prop) Q', (∀ g' w'', (∀ (k : Nat) (o : Oper) (s : Nat), l[k]? = some o → lp.getD k false = true → o.dst = some s → (A g').tmps[s]? = (A g).tmps[s]?) → R (lp.setIfInBounds i true) g' w'' → ∀ v, valO (A g') o = v → K (a'.put o.dst v) w'') → o.wp P a' w' K Q')
    (hpost : ∀ g w', R (Array.replicate l.length true) g w' → Q .normal (A g) w') :
    ∀ (fuel : Nat) (lp : Array Bool) (g : γ) (a' : Act) (w : World), lp.size = l.length → unl lp = fuel → R lp g w → Slt l a (A g) lp a' → wpAny P .any l.toArray Q fuel lp a' w := by
  intro fuel
  have fin : ∀ (lp : Array Bool) (g : γ) (a' : Act) (w : World), lp.size = l.length → unl lp = 0 → R lp g w → Slt l a (A g) lp a' → Q .normal a' w := by
    intro lp g a' w hs hu hR hS
    have e : lp = Array.replicate l.length true := by have := unl_zero lp hu; rwa [hs] at this
    rw [e] at hR hS
    have : a' = A g := by
      have ht : a'.tmps = (A g).tmps := by
        apply Array.ext_getElem?
        intro s
        by_cases h : ∃ (k : Nat) (o : Oper), l[k]? = some o ∧ o.dst = some s
        · obtain ⟨k, o, h1, h2⟩ := h
          have hk : k < l.length := (List.getElem?_eq_some_iff.mp h1).1
          exact hS.don k o s h1 (by simp [Array.getElem?_replicate, hk]) h2
        · have h' : ∀ o ∈ l, o.dst ≠ some s := by
            intro o ho e
            obtain ⟨k, hk, rfl⟩ := List.mem_iff_getElem.mp ho
            exact h ⟨k, l[k], List.getElem?_eq_getElem hk, e⟩
          rw [hA g s h']
          exact hS.oth s (fun k o h1 _ e => h ⟨k, o, h1, e⟩)
      have hd : a'.defers = (A g).defers := by rw [hS.dfr, hdf]
      cases a'
      cases hAg : A g
      rw [hAg] at ht hd
      simp only at ht hd
      rw [ht, hd]
    rw [this]
    exact hpost g w hR
  induction fuel with
  | zero =>
    intro lp g a' w hs hu hR hS
    refine ⟨?_, fin lp g a' w hs hu hR hS⟩
    have e : lp = Array.replicate l.length true := by have := unl_zero lp hu; rwa [hs] at this
    apply List.eq_nil_iff_forall_not_mem.mpr
    intro i hi
    obtain ⟨hun, o, ho, _⟩ := mem_ready.1 hi
    have hk : i < l.length := by
      have := (Array.getElem?_eq_some_iff.mp ho).1
      simpa using this
    rw [e] at hun
    simp [Array.getElem?_replicate, hk] at hun
  | succ fuel ih =>
    intro lp g a' w hs hu hR hS
    refine ⟨fun e => ?_, fun i hi => ?_⟩
    · obtain ⟨k, hk, hf⟩ := unl_some lp fuel hu
      have hne := some_ready ok lp hs k (by omega) hf
      rw [Nat.sub_self] at hne
      exact absurd (by simpa using e) hne
    · obtain ⟨hun, o, ho, hrd⟩ := mem_ready.1 hi
      have ho' : l[i]? = some o := by simpa using ho
      have hil : i < l.length := (List.getElem?_eq_some_iff.mp ho').1
      have hun' : lp.getD i false = false := by
        rw [Array.getD_eq_getD_getElem?] at hun ⊢
        cases q : lp[i]? with
        | none => rfl
        | some b => rw [q] at hun; simpa using hun
      unfold wpOp
      simp only [ho]
      rw [if_pos (by simp [Region.wanted, hgd o (List.mem_of_getElem? ho')])]
      left
      refine hstep i o lp g w a' ho' hs hun' (fun e he hb => hrd e he hb) hR hS _ _ ?_
      intro g' w'' hsame hR' v hv
      subst hv
      refine ih _ g' _ w'' (by simp [hs]) (by have := unl_set lp i hun; omega) hR' ⟨?_, ?_, ?_, ?_⟩
      · intro k ok s hk hl hd
        rcases getD_set hl with rfl | hl'
        · have : ok = o := by rw [ho'] at hk; cases hk; rfl
          subst this
          unfold Act.put valO
          rw [hd]
          simp only [Option.bind_some]
          by_cases hlt : s < a'.tmps.size
          · rw [Array.getElem?_setIfInBounds_self_of_lt hlt]
            have h2 : s < (A g').tmps.size := by rw [hsz, ← hS.siz]; exact hlt
            rw [Array.getElem?_eq_getElem h2]
            rfl
          · rw [Array.getElem?_eq_none (by simp; omega), Array.getElem?_eq_none (by rw [hsz, ← hS.siz]; omega)]
        · rw [put_other a' o.dst _ s (fun e => by
            have := hdst k i ok o s hk ho' hd e
            subst this
            rw [hun'] at hl'
            cases hl'), hS.don k ok s hk hl' hd, hsame k ok s hk hl' hd]
      · intro s h
        have hne : o.dst ≠ some s := h i o ho' (getD_set_same (by omega))
        rw [put_other a' o.dst _ s hne]
        exact hS.oth s (fun k ok hk hl => h k ok hk (by
          by_cases e : k = i
          · subst e; exact getD_set_same (by omega)
          · rw [Array.getD_eq_getD_getElem?] at hl ⊢
            rwa [Array.getElem?_setIfInBounds_ne (by omega)]))
      · rw [put_size, hS.siz]
      · unfold Act.put
        cases o.dst <;> exact hS.dfr
def dstG (l : List Oper) : Bool := (List.range l.length).all fun i => (List.range l.length).all fun k => i == k || ((l[i]?).bind (·.dst)).isNone || ((l[i]?).bind (·.dst)) != ((l[k]?).bind (·.dst))
theorem dstG_of {l : List Oper} (h : dstG l = true) : ∀ (i k : Nat) (oi ok : Oper) (s : Nat), l[i]? = some oi → l[k]? = some ok → oi.dst = some s → ok.dst = some s → i = k := by
  intro i k oi ok s hi hk h1 h2
  have hil := (List.getElem?_eq_some_iff.mp hi).1
  have hkl := (List.getElem?_eq_some_iff.mp hk).1
  unfold dstG at h
  rw [List.all_eq_true] at h
  have := h i (List.mem_range.mpr hil)
  rw [List.all_eq_true] at this
  have := this k (List.mem_range.mpr hkl)
  rw [hi, hk] at this
  simp only [Option.bind_some, h1, h2] at this
  simpa using this
theorem gh_region {γ : Type} {id : Nat} {l : List Oper} (ok : QpOk l l.length l.length) (hgd : (l.all fun o => o.guard.isNone) = true) (hdst : dstG l = true) {Q : Exit → Act → World → Prop} {a : Act} {w : World} (ds : List (Option Tmp)) (vals : γ → List Value) (hm : P.follows .mixedOrders = true) (hds : ∀ d ∈ ds, ∃ o ∈ l, o.dst = d) (R : Array Bool → γ → World → Prop) (g0 : γ) (h0 : R (Array.replicate l.length false) g0 w.drew)
    (hstep : ∀ (i : Nat) (o : Oper) (lp : Array Bool) (g : γ) (w' : World) (a' : Act), l[i]? = some o → lp.size = l.length → lp.getD i false = false → (∀ e ∈ o.after, Region.binds .any e = true → lp.getD e.on false = true) → R lp g w' → Slt l a (putAll a ds (vals g)) lp a' →
      ∀ (K : Act → World → Prop) Q', (∀ g' w'', (∀ (k : Nat) (o : Oper) (s : Nat), l[k]? = some o → lp.getD k false = true → o.dst = some s → (putAll a ds (vals g')).tmps[s]? = (putAll a ds (vals g)).tmps[s]?) → R (lp.setIfInBounds i true) g' w'' → ∀ v, valO (putAll a ds (vals g')) o = v → K (a'.put o.dst v) w'') → o.wp P a' w' K Q')
    (hpost : ∀ g w', R (Array.replicate l.length true) g w' → Q .normal (putAll a ds (vals g)) w') : (Code.region id l.toArray true).wp P Q a w := by
  refine wp_region_any hm ?_
  have hu : unl (Array.replicate l.length false) = l.length := by unfold unl; simp
  have main := gh_any ok (fun o ho => by have := List.all_eq_true.mp hgd o ho; simpa using this) (dstG_of hdst) (A := fun g => putAll a ds (vals g)) (fun g => putAll_size _ _ _) (fun g => putAll_defers _ _ _) (fun g s h => putAll_other _ _ _ _ (fun d hd e => by obtain ⟨o, ho, hod⟩ := hds d hd; exact h o ho (by rw [hod, e]))) R hstep hpost l.length (Array.replicate l.length false) g0 a w.drew (by simp) hu h0 ⟨fun k o s hk hl => (by rw [Array.getD_eq_getD_getElem?, Array.getElem?_replicate] at hl; split at hl <;> simp at hl), fun s _ => rfl, rfl, rfl⟩
  have e1 : l.length = l.toArray.size := by simp
  rw [e1] at main
  simpa using main
end
end Go.Proofs.Ytdpfdlkaickkiaa
