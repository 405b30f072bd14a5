/-
  Part 12 of the proof: 7 texts, one behind the other.
-/
import Derived.Test.YtmkjlcfoedglmaaDoorPart11
import Derived.Test.YtmkjlcfoedglmaaDoorPart4
import Derived.Test.YtmkjlcfoedglmaaDoorPart10
import Derived.Test.YtmkjlcfoedglmaaDoorPart6
import Derived.Test.YtmkjlcfoedglmaaDoorPart5
/-
  The routes that cover right segments are a right table, one behind the other, no two of one segment siblings; it leads
  each address where the segments say, and has them again.
-/
namespace Go.Proofs.YtmkjlcfoedglmaaDoor
set_option linter.unusedSimpArgs false
set_option linter.unusedVariables false

/-- Two prefixes beside one another that make up one. -/
def Sb (p q : BitVec 128 × Int) : Prop := p.2 = q.2 ∧ 0 < q.2 ∧ q.1.toNat = p.1.toNat + 2 ^ (128 - q.2.toNat) ∧ 2 ^ (128 - (q.2 - 1).toNat) ∣ p.1.toNat
theorem rt_le (F : Int) (x : BitVec 128) (n : Int) (h : Rt F x n) : x.toNat ≤ (lastW F x n).toNat := le_last F x n h x (rt_fam F x n h) h.2.2
theorem covL_all (F : Int) (hf : fam F = true) (b : BitVec 128) : ∀ k a, Rng F a b → b.toNat < a.toNat + k →
    (∀ p ∈ covL F b k a, Rt F p.1 p.2 ∧ a.toNat ≤ p.1.toNat ∧ (lastW F p.1 p.2).toNat ≤ b.toNat) ∧
    (covL F b k a).Pairwise (fun p q => (lastW F p.1 p.2).toNat < q.1.toNat ∧ ¬ Sb p q) ∧
    (∀ x, rightE F x = 0 → a.toNat ≤ x.toNat → x.toNat ≤ b.toNat → ∃ p ∈ covL F b k a, cutW x p.2 = p.1) := by
  intro k
  induction k with
  | zero => intro a h hk; have := h.2.2; omega
  | succ k ih =>
    intro a h hk
    obtain ⟨hr, hl⟩ := wid_rt F a b h
    obtain ⟨f0, f1⟩ := fam_bd F hf
    have here : ∀ x, rightE F x = 0 → a.toNat ≤ x.toNat → x.toNat ≤ (lastW F a (widN F a b)).toNat → cutW x (widN F a b) = a := fun x hx h1 h2 =>
      (has_ends F a _ hr x (right0 F x hx).2).mpr ⟨h1, h2⟩
    by_cases q : lastW F a (widN F a b) = b
    · rw [cov_end F b k a q]
      refine ⟨?_, List.pairwise_singleton _ _, ?_⟩
      · intro p hp
        rw [List.mem_singleton] at hp
        subst hp
        exact ⟨hr, Nat.le_refl _, hl⟩
      · intro x hx h1 h2
        exact ⟨_, List.mem_singleton.mpr rfl, here x hx h1 (by rw [q]; exact h2)⟩
    · obtain ⟨n1, n2, n3⟩ := rng_next F a b h q
      obtain ⟨m1, m2, m3, m4⟩ := next_nat F _ n1
      have pp := Nat.two_pow_pos (128 - (widN F a b).toNat)
      have pu := Nat.two_pow_pos (128 - F.toNat)
      obtain ⟨i1, i2, i3⟩ := ih _ n2 (by omega)
      rw [cov_on F b k a q]
      refine ⟨?_, ?_, ?_⟩
      · intro p hp
        rcases List.mem_cons.mp hp with rfl | hp
        · exact ⟨hr, Nat.le_refl _, hl⟩
        · obtain ⟨j1, j2, j3⟩ := i1 p hp
          exact ⟨j1, by omega, j3⟩
      · refine List.pairwise_cons.mpr ⟨fun p hp => ?_, i2⟩
        obtain ⟨j1, j2, j3⟩ := i1 p hp
        refine ⟨by show (lastW F a (widN F a b)).toNat < _; omega, ?_⟩
        rintro ⟨c1, c2, c3, c4⟩
        have c1 : widN F a b = p.2 := c1
        have c3 : p.1.toNat = a.toNat + 2 ^ (128 - p.2.toNat) := c3
        have c4 : 2 ^ (128 - (p.2 - 1).toNat) ∣ a.toNat := c4
        have h1 := j1.2.1
        have cc := (cut_dvd a (p.2 - 1)).mpr c4
        have l1 := last_nat F a (p.2 - 1) ⟨by omega, by omega, cc⟩ f1
        have l2 := last_nat F p.1 p.2 j1 f1
        have e : 2 ^ (128 - (p.2 - 1).toNat) = 2 ^ (128 - p.2.toNat) + 2 ^ (128 - p.2.toNat) := by
          rw [show 128 - (p.2 - 1).toNat = (128 - p.2.toNat) + 1 by omega, Nat.pow_succ]; omega
        have := (wid_iff F a b h.1 h.2.1 h.2.2 (p.2 - 1) (by omega) (by omega)).mp ⟨cc, by omega⟩
        omega
      · intro x hx h1 h2
        by_cases g : x.toNat ≤ (lastW F a (widN F a b)).toNat
        · exact ⟨_, List.mem_cons_self, here x hx h1 g⟩
        · obtain ⟨k1, k2, k3, k4⟩ := next_le F _ x (right_of F _ hf (last_fam F a _ hr)) hx (by omega)
          obtain ⟨p, p1, p2⟩ := i3 x hx k2 h2
          exact ⟨p, List.mem_cons_of_mem _ p1, p2⟩
theorem look_same (x : BitVec 128) (h : Int) : ∀ (l : List Rte) (a : Int), (∀ r ∈ l, r.2 = h) → ((∃ r ∈ l, hasR r x = true) ∨ a = h) → look x a l = h
  | [], a, _, e => by
    rcases e with ⟨r, hr, _⟩ | e
    · cases hr
    · exact e
  | r :: l, a, hh, e => by
    rw [look]
    refine look_same x h l _ (fun q hq => hh q (List.mem_cons_of_mem _ hq)) ?_
    by_cases hr : hasR r x = true
    · right; rw [if_pos hr]; exact hh r (by simp)
    · rw [if_neg hr]
      rcases e with ⟨q, hq, e⟩ | e
      · rcases List.mem_cons.mp hq with rfl | hq
        · exact absurd e hr
        · exact .inl ⟨q, hq, e⟩
      · exact .inr e
/-- Routes one behind the other; no two with one hop make up one prefix. -/
def Aft (F : Int) (p q : Rte) : Prop := (lastW F p.1.1 p.1.2).toNat < q.1.1.toNat ∧ ¬ (p.2 = q.2 ∧ Sb p.1 q.1)
theorem covS_all (F : Int) (hf : fam F = true) (s : Sg) (h : sgE F s = 0) :
    (∀ r ∈ covS F s, Ro F r ∧ s.1.1.toNat ≤ r.1.1.toNat ∧ (lastW F r.1.1 r.1.2).toNat ≤ s.1.2.toNat ∧ r.2 = s.2 ∧ r.2 ≠ 0) ∧
    (covS F s).Pairwise (Aft F) ∧
    (∀ x, rightE F x = 0 → s.1.1.toNat ≤ x.toNat → x.toNat ≤ s.1.2.toNat → look x 0 (covS F s) = s.2) := by
  obtain ⟨s1, s2, s3, s4, s5⟩ := sgE_zero F s h
  unfold covS
  by_cases z : s.2 = 0
  · rw [if_pos z]
    exact ⟨(fun r hr => nomatch hr), List.Pairwise.nil, fun x _ _ _ => z.symm⟩
  · rw [if_neg z]
    have ce : covE F s.1.1 s.1.2 = 0 := by
      unfold covE
      rw [if_pos s1, if_pos s2, if_neg (by rw [cmp_lt0]; omega)]
    unfold covT
    rw [if_pos ce]
    obtain ⟨a1, a2, a3⟩ := covL_all F hf s.1.2 (s.1.2.toNat - s.1.1.toNat + 1) s.1.1 ⟨s1, s2, s5⟩ (by omega)
    refine ⟨?_, ?_, ?_⟩
    · intro r hr
      obtain ⟨p, hp, rfl⟩ := List.mem_map.mp hr
      obtain ⟨b1, b2, b3⟩ := a1 p hp
      exact ⟨⟨b1, s3, s4⟩, b2, b3, rfl, z⟩
    · rw [List.pairwise_map]
      exact a2.imp (fun g => ⟨g.1, fun c => g.2 c.2⟩)
    · intro x hx h1 h2
      obtain ⟨p, p1, p2⟩ := a3 x hx h1 h2
      refine look_same x s.2 _ 0 (fun r hr => ?_) (.inl ⟨(p, s.2), List.mem_map.mpr ⟨p, p1, rfl⟩, ?_⟩)
      · obtain ⟨p, hp, rfl⟩ := List.mem_map.mp hr
        rfl
      · unfold hasR
        simpa using p2
theorem none_below (F : Int) (hf : fam F = true) (l : List Rte) (x : BitVec 128) (hx : rightE F x = 0) (h : ∀ r ∈ l, Ro F r ∧ x.toNat < r.1.1.toNat) (a : Int) : look x a l = a := by
  refine look_none x l a (fun r hr => ?_)
  obtain ⟨h1, h2⟩ := h r hr
  cases q : hasR r x with
  | false => rfl
  | true => have := (hasR_ends F r hf h1 x hx).mp q; omega
theorem none_above (F : Int) (hf : fam F = true) (l : List Rte) (x : BitVec 128) (hx : rightE F x = 0) (h : ∀ r ∈ l, Ro F r ∧ (lastW F r.1.1 r.1.2).toNat < x.toNat) (a : Int) : look x a l = a := by
  refine look_none x l a (fun r hr => ?_)
  obtain ⟨h1, h2⟩ := h r hr
  cases q : hasR r x with
  | false => rfl
  | true => have := (hasR_ends F r hf h1 x hx).mp q; omega
theorem covR_all (F : Int) (hf : fam F = true) : ∀ (l : List Sg) (s : Sg), sgE F s = 0 → sgsGo F (some s) l = 0 →
    (∀ r ∈ covR F (s :: l), Ro F r ∧ s.1.1.toNat ≤ r.1.1.toNat ∧ r.2 ≠ 0 ∧ (r.1.1.toNat = s.1.1.toNat → r.2 = s.2)) ∧
    (covR F (s :: l)).Pairwise (Aft F) ∧
    (∀ x, rightE F x = 0 → s.1.1.toNat ≤ x.toNat → ∃ t ∈ s :: l, t.1.1.toNat ≤ x.toNat ∧ x.toNat ≤ t.1.2.toNat ∧ look x 0 (covR F (s :: l)) = t.2)
  | [], s, h1, h2 => by
    obtain ⟨s1, s2, s3, s4, s5⟩ := sgE_zero F s h1
    obtain ⟨a1, a2, a3⟩ := covS_all F hf s h1
    have e : covR F [s] = covS F s := by simp [covR]
    rw [e]
    refine ⟨fun r hr => ?_, a2, fun x hx g => ?_⟩
    · obtain ⟨b1, b2, b3, b4, b5⟩ := a1 r hr
      exact ⟨b1, b2, b5, fun _ => b4⟩
    · have hn : nextB F s.1.2 = false := by
        rw [sgsGo] at h2
        cases e : nextB F s.1.2 with
        | false => rfl
        | true => rw [if_pos (show moO F (some s) = true from e)] at h2; omega
      have m := right_max F x hx
      rw [← next_none F s.1.2 s2 hn] at m
      exact ⟨s, by simp, g, m, a3 x hx g m⟩
  | r :: l, s, h1, h2 => by
    obtain ⟨s1, s2, s3, s4, s5⟩ := sgE_zero F s h1
    obtain ⟨a1, a2, a3⟩ := covS_all F hf s h1
    obtain ⟨r1, r2, r3, r4, r5⟩ := sgsGo_cons F (some s) r l h2
    obtain ⟨b1, b2, b3⟩ := covR_all F hf l r r1 r5
    obtain ⟨n1, n2, n3, n4⟩ := next_nat F s.1.2 r2
    have hp := Nat.two_pow_pos (128 - F.toNat)
    have e : r.1.1.toNat = s.1.2.toNat + 2 ^ (128 - F.toNat) := by rw [r3]; exact n1
    obtain ⟨f0, f1⟩ := fam_bd F hf
    rw [show covR F (s :: r :: l) = covS F s ++ covR F (r :: l) from rfl]
    refine ⟨fun q hq => ?_, ?_, fun x hx g => ?_⟩
    · rcases List.mem_append.mp hq with hq | hq
      · obtain ⟨c1, c2, c3, c4, c5⟩ := a1 q hq
        exact ⟨c1, c2, c5, fun _ => c4⟩
      · obtain ⟨c1, c2, c3, c4⟩ := b1 q hq
        exact ⟨c1, by omega, c3, fun z => by omega⟩
    · refine List.pairwise_append.mpr ⟨a2, b2, fun p hp' q hq => ?_⟩
      obtain ⟨c1, c2, c3, c4, c5⟩ := a1 p hp'
      obtain ⟨d1, d2, d3, d4⟩ := b1 q hq
      refine ⟨by omega, ?_⟩
      rintro ⟨g0, g1, g2, g3, g4⟩
      have l1 := last_nat F p.1.1 p.1.2 c1.1 f1
      rw [g1] at l1
      have hz : q.1.1.toNat = r.1.1.toNat := by rw [g1] at c3; omega
      apply r4
      show some s.2 = some r.2
      rw [← d4 hz, ← g0, c4]
    · by_cases g2 : x.toNat ≤ s.1.2.toNat
      · refine ⟨s, by simp, g, g2, ?_⟩
        rw [look_app, a3 x hx g g2]
        exact none_below F hf _ x hx (fun q hq => ⟨(b1 q hq).1, by have := (b1 q hq).2.1; omega⟩) _
      · obtain ⟨k1, k2, k3, k4⟩ := next_le F s.1.2 x s2 hx (by omega)
        obtain ⟨t, t1, t2, t3, t4⟩ := b3 x hx (by rw [r3]; exact k2)
        refine ⟨t, List.mem_cons_of_mem _ t1, t2, t3, ?_⟩
        rw [look_app, none_above F hf (covS F s) x hx (fun q hq => ⟨(a1 q hq).1, by have := (a1 q hq).2.2.1; omega⟩)]
        exact t4
/-- The routes of right segments: a right table in order, that leads where they say. -/
theorem covR_table (F : Int) (hf : fam F = true) (l : List Sg) (h : sgsGo F none l = 0) :
    (∀ r ∈ covR F l, Ro F r ∧ r.2 ≠ 0) ∧ (covR F l).Pairwise (Aft F) ∧ (covR F l).Pairwise (fun a b => pcmpZ a.1.1 a.1.2 b.1.1 b.1.2 < 0) ∧
    (∀ f, Says F f l → ∀ x, rightE F x = 0 → look x 0 (covR F l) = f x) := by
  cases l with
  | nil => simp [sgsGo, moO] at h
  | cons s l =>
    obtain ⟨s1, s2, s3, s4, s5⟩ := sgsGo_cons F none s l h
    obtain ⟨a1, a2, a3⟩ := covR_all F hf l s s1 s5
    have z : s.1.1.toNat = 0 := by rw [s3]; rfl
    refine ⟨fun r hr => ⟨(a1 r hr).1, (a1 r hr).2.2.1⟩, a2, ?_, fun f hs x hx => ?_⟩
    · refine List.Pairwise.imp_of_mem (fun {p q} hp _ g => ?_) a2
      have g1 := rt_le F _ _ (a1 p hp).1.1
      have g2 := g.1
      have le := (pcmp_le p.1.1 p.1.2 q.1.1 q.1.2).mpr (.inl (by omega))
      have ne : ¬ pcmpZ p.1.1 p.1.2 q.1.1 q.1.2 = 0 := fun c => by
        have := congrArg BitVec.toNat ((pcmp_eq0 _ _ _ _).mp c).1
        omega
      omega
    · obtain ⟨t, t1, t2, t3, t4⟩ := a3 x hx (by omega)
      rw [t4]
      exact hs t t1 x hx t2 t3
/-- They have the segments again. -/
theorem covR_swp (F : Int) (hf : fam F = true) (f : BitVec 128 → Int) (l : List Sg) (h : sgsGo F none l = 0) (hs : Says F f l) : swp F (covR F l) = l := by
  obtain ⟨a1, a2, a3, a4⟩ := covR_table F hf l h
  obtain ⟨b1, b2⟩ := swp_right F hf (covR F l) (fun q hq => (a1 q hq).1) a3
  exact segs_unique F f _ _ none none b1 h rfl rfl (fun s hs' x hx h1 h2 => by rw [b2 s hs' x hx h1 h2]; exact a4 f hs x hx) hs
end Go.Proofs.YtmkjlcfoedglmaaDoor
/-
  The walk of Qt under a cover that no reckoning opens: for regions in which operations are passed over.
-/
namespace Go.Proofs.YtmkjlcfoedglmaaDoor
open Go.RowKit
set_option linter.unusedSimpArgs false
set_option linter.unusedVariables false

structure QW (P : Program) (ops : Array Oper) (C : World → Prop) (Q : Act → Prop) (l : List Oper) (a : Act) : Prop where
  out : wpQuiet P ops C Q l a
theorem qw_run {P : Program} {ops : Array Oper} {C : World → Prop} {Q : Act → Prop} {a : Act} {o : Oper} {rest : List Oper} {v : Value}
    (hw : Region.wanted o (yielded ops a.tmps) = true) (h : ∀ w, C w → (execOp a.eval o).run P w = .ok (.value v) w) (k : QW P ops C Q rest (a.put o.dst v)) : QW P ops C Q (o :: rest) a := ⟨q_run hw h k.out⟩
theorem qw_skip {P : Program} {ops : Array Oper} {C : World → Prop} {Q : Act → Prop} {a : Act} {o : Oper} {rest : List Oper}
    (hw : Region.wanted o (yielded ops a.tmps) = false) (k : QW P ops C Q rest (a.put o.dst undef)) : QW P ops C Q (o :: rest) a := ⟨q_skip hw k.out⟩
theorem qw_call {P : Program} {ops : Array Oper} {C : World → Prop} {Q : Act → Prop} {a : Act} {o : Oper} {rest : List Oper} {v : Value} {f : FuncId} {args : Array Value}
    (hw : Region.wanted o (yielded ops a.tmps) = true) (h : ∀ w, C w → (execOp a.eval o).run P w = .ok (.enter f args) w) (hc : ∀ w, C w → Calls P f args w fun e w' => e = .returned v ∧ C w') (k : QW P ops C Q rest (a.put o.dst v)) : QW P ops C Q (o :: rest) a := ⟨q_call hw h hc k.out⟩
theorem qw_nil {P : Program} {ops : Array Oper} {C : World → Prop} {Q : Act → Prop} {a : Act} (h : Q a) : QW P ops C Q [] a := ⟨wpQuiet_nil h⟩
theorem qw_region {P : Program} {C : World → Prop} {id : Nat} {Q : Exit → Act → World → Prop} {a : Act} {w : World} {l : List Oper} (hm : P.follows .mixedOrders = true) (hB : Region.lexB .any l.toArray = true) (hC : C w.drew)
    (h : QW P l.toArray C (fun a' => ∀ w', C w' → Q .normal a' w') l a) : (Code.region id l.toArray true).wp P Q a w := q_region hm hB hC h.out
end Go.Proofs.YtmkjlcfoedglmaaDoor
/-
  What the call of slices.BinarySearchFunc does at routes, with package table's comparison.
-/
namespace Go.Proofs.YtmkjlcfoedglmaaDoor
open Go.RowKit
set_option linter.unusedSimpArgs false
set_option linter.unusedVariables false

/-- The place sought for, and a route of the row. -/
def CBs (w : World) (b o : Nat) (y : BitVec 128) (m : Int) (x : BitVec 128) (n h : Int) (W : World) : Prop := AtP W w.heap.size y m ∧ (W.cell? ⟨b, o, none⟩ = some (.int .u64 (hI x)) ∧ W.cell? ⟨b, o + 1, none⟩ = some (.int .u64 (lI x)) ∧ W.cell? ⟨b, o + 2, none⟩ = some (.int .i64 n) ∧ W.cell? ⟨b, o + 3, none⟩ = some (.int .i64 h)) ∧ Below w.heap.size w W
theorem CBs.below {w W W' : World} {b o : Nat} {y : BitVec 128} {m : Int} {x : BitVec 128} {n h : Int} (g : CBs w b o y m x n h W) (hb : Below W.heap.size W W') : CBs w b o y m x n h W' := ⟨g.1.below hb, ⟨keepc hb g.2.1.1, keepc hb g.2.1.2.1, keepc hb g.2.1.2.2.1, keepc hb g.2.1.2.2.2⟩, keepb hb g.2.2⟩
theorem CBs.drew {w W : World} {b o : Nat} {y : BitVec 128} {m : Int} {x : BitVec 128} {n h : Int} (g : CBs w b o y m x n h W) : CBs w b o y m x n h W.drew := ⟨g.1, g.2.1, g.2.2.drew⟩
/-- How a route stands to a prefix. -/
def toP (y : BitVec 128) (m : Int) (r : Rte) : Int := pcmpZ r.1.1 r.1.2 y m
end Go.Proofs.YtmkjlcfoedglmaaDoor
/-
  What the call of package table's place does.
-/
namespace Go.Proofs.YtmkjlcfoedglmaaDoor
open Go.RowKit
set_option linter.unusedSimpArgs false
set_option linter.unusedVariables false

/-- The routes stand in an order by which a prefix can be sought. -/
def Mono (y : BitVec 128) (m : Int) (l : List Rte) : Prop := ∀ (a b : Nat) (hb : b < l.length) (hab : a ≤ b), toP y m l[b] < 0 → toP y m (l[a]'(by omega)) < 0
/-- How many routes are ahead of a prefix, and is it the next one's? -/
def Place (y : BitVec 128) (m : Int) (l : List Rte) (i : Nat) (ok : Bool) : Prop := i ≤ l.length ∧ (∀ (j : Nat) (hj : j < l.length), j < i ↔ toP y m l[j] < 0) ∧ ok = (match l[i]? with | some r => decide (toP y m r = 0) | none => false)
/-- There is but one place. -/
theorem Place.one {y : BitVec 128} {m : Int} {l : List Rte} {i j : Nat} {a b : Bool} (h : Place y m l i a) (g : Place y m l j b) : i = j ∧ a = b := by
  have e : i = j := by
    rcases Nat.lt_trichotomy i j with q | q | q
    · have h1 := (g.2.1 i (by have := g.1; omega)).1 q
      have h2 := (h.2.1 i (by have := g.1; omega)).2 h1
      omega
    · exact q
    · have h1 := (h.2.1 j (by have := h.1; omega)).1 q
      have h2 := (g.2.1 j (by have := h.1; omega)).2 h1
      omega
  subst e
  exact ⟨rfl, by rw [h.2.2, g.2.2]⟩
end Go.Proofs.YtmkjlcfoedglmaaDoor
/-
  What the call of package table's Find does.
-/
namespace Go.Proofs.YtmkjlcfoedglmaaDoor
open Go.RowKit
set_option linter.unusedSimpArgs false
set_option linter.unusedVariables false

/-- A table in memory. -/
def AtT (w : World) (B : Nat) (F : Int) (v : Value) : Prop := w.cell? ⟨B, 0, none⟩ = some (.int .i64 F) ∧ w.cell? ⟨B, 1, none⟩ = some v
theorem AtT.below {w w' : World} {B : Nat} {F : Int} {v : Value} (g : AtT w B F v) (hb : Below w.heap.size w w') : AtT w' B F v := ⟨keepc hb g.1, keepc hb g.2⟩
theorem att_new (w : World) (B : Nat) (F : Int) (v : Value) (T : TypeId) (e : B = w.heap.size) : AtT (w.alloc (.cells #[.int .i64 F, v] T)) B F v := by
  subst e
  refine ⟨?_, ?_⟩ <;> simp [go_sem]
end Go.Proofs.YtmkjlcfoedglmaaDoor
/-
  What the call of turnpikeref5's Find does.
-/
namespace Go.Proofs.YtmkjlcfoedglmaaDoor
open Go.RowKit
set_option linter.unusedSimpArgs false
set_option linter.unusedVariables false

/-- The hop of the first route that bears a prefix. -/
def fndO (y : BitVec 128) (m : Int) : List Rte → Option Int
  | [] => none
  | r :: l => if ((r.1.1 == y) && (r.1.2 == m)) = true then some r.2 else fndO y m l
theorem fndO_drop (y : BitVec 128) (m : Int) (l : List Rte) (k : Nat) (hk : k < l.length) : fndO y m (l.drop k) = if ((l[k].1.1 == y) && (l[k].1.2 == m)) = true then some l[k].2 else fndO y m (l.drop (k + 1)) := by
  rw [List.drop_eq_getElem_cons hk]
  rfl
end Go.Proofs.YtmkjlcfoedglmaaDoor
/-
  In a table that is in order the search finds what going over all routes finds.
-/
namespace Go.Proofs.YtmkjlcfoedglmaaDoor
open Go.RowKit
set_option linter.unusedSimpArgs false
set_option linter.unusedVariables false

/-- The routes' prefixes are in order, none twice. -/
def OrdR (l : List Rte) : Prop := ∀ (a b : Nat) (hb : b < l.length) (hab : a < b), pcmpZ (l[a]'(by omega)).1.1 (l[a]'(by omega)).1.2 l[b].1.1 l[b].1.2 < 0
theorem pcmp_lt (x : BitVec 128) (n : Int) (y : BitVec 128) (m : Int) : pcmpZ x n y m < 0 ↔ (x.toNat < y.toNat ∨ (x.toNat = y.toNat ∧ n < m)) := by
  have h := pcmp_le x n y m
  have e := pcmp_eq0 x n y m
  constructor
  · intro q
    rcases h.1 (by omega) with r | ⟨r, s⟩
    · exact .inl r
    · refine .inr ⟨by rw [r], ?_⟩
      rcases Int.lt_or_eq_of_le s with t | t
      · exact t
      · have := e.2 ⟨r, t⟩; omega
  · intro q
    have hle : pcmpZ x n y m ≤ 0 := h.2 (q.imp id fun ⟨r, s⟩ => ⟨BitVec.eq_of_toNat_eq r, by omega⟩)
    have hne : pcmpZ x n y m ≠ 0 := fun q0 => by
      obtain ⟨r, s⟩ := e.1 q0
      rcases q with q | ⟨-, q⟩
      · rw [r] at q; omega
      · omega
    omega
theorem ord_mono {l : List Rte} (h : OrdR l) (y : BitVec 128) (m : Int) : Mono y m l := by
  intro a b hb hab hlt
  rcases Nat.lt_or_eq_of_le hab with q | q
  · have h1 := (pcmp_lt _ _ _ _).1 (h a b hb q)
    have h2 := (pcmp_lt _ _ _ _).1 hlt
    refine (pcmp_lt _ _ _ _).2 ?_
    omega
  · subst q; exact hlt
theorem fndO_none {y : BitVec 128} {m : Int} : ∀ {l : List Rte}, (∀ (j : Nat) (hj : j < l.length), toP y m l[j] ≠ 0) → fndO y m l = none := by
  intro l
  induction l with
  | nil => intro _; rfl
  | cons r l ih =>
    intro h
    have h0 := h 0 (by simp)
    have hn : ¬ ((r.1.1 == y) && (r.1.2 == m)) = true := fun q => by
      simp only [Bool.and_eq_true, beq_iff_eq] at q
      exact h0 ((pcmp_eq0 _ _ _ _).2 q)
    unfold fndO
    rw [if_neg hn]
    exact ih fun j hj => h (j + 1) (by simpa using hj)
theorem fndO_at {y : BitVec 128} {m : Int} : ∀ {l : List Rte} (i : Nat) (hi : i < l.length), (∀ (j : Nat) (hj : j < i), toP y m (l[j]'(by omega)) ≠ 0) → toP y m l[i] = 0 → fndO y m l = some l[i].2 := by
  intro l
  induction l with
  | nil => intro i hi; simp at hi
  | cons r l ih =>
    intro i hi h h0
    unfold fndO
    cases i with
    | zero =>
      obtain ⟨e1, e2⟩ := (pcmp_eq0 _ _ _ _).1 h0
      have hp : ((r.1.1 == y) && (r.1.2 == m)) = true := by
        simp only [Bool.and_eq_true, beq_iff_eq]
        exact ⟨e1, e2⟩
      rw [if_pos hp]
      rfl
    | succ i =>
      have hn : ¬ ((r.1.1 == y) && (r.1.2 == m)) = true := fun q => by
        simp only [Bool.and_eq_true, beq_iff_eq] at q
        exact h 0 (by omega) ((pcmp_eq0 _ _ _ _).2 q)
      rw [if_neg hn]
      exact ih i (by simpa using hi) (fun j hj => h (j + 1) (by omega)) h0
/-- What is found by the place. -/
theorem fnd_place {y : BitVec 128} {m : Int} {l : List Rte} {i : Nat} {ok : Bool} {h : Int} (hO : OrdR l) (hP : Place y m l i ok) (h1 : ok = true → ∃ hi : i < l.length, h = l[i].2) (h0 : ok = false → h = 0) : h = (fndO y m l).getD 0 ∧ ok = (fndO y m l).isSome := by
  obtain ⟨hi, hj, hk⟩ := hP
  cases ok
  · have hn : fndO y m l = none := fndO_none fun j hjl e => by
      have a1 := hj j hjl
      have n1 : ¬ j < i := fun q => by have := a1.1 q; omega
      have hil : i < l.length := by omega
      rw [List.getElem?_eq_getElem hil] at hk
      have ki : toP y m l[i] ≠ 0 := by
        intro q
        have : decide (toP y m l[i] = 0) = true := by simpa using q
        simp only at hk
        rw [this] at hk
        cases hk
      rcases Nat.lt_or_eq_of_le (Nat.le_of_not_lt n1) with q | q
      · have a2 := hj i hil
        have n2 : ¬ toP y m l[i] < 0 := fun q => by have := a2.2 q; omega
        have o1 := (pcmp_lt _ _ _ _).1 (hO i j hjl q)
        obtain ⟨e1, e2⟩ := (pcmp_eq0 _ _ _ _).1 e
        apply n2
        refine (pcmp_lt _ _ _ _).2 ?_
        rw [e1, e2] at o1
        exact o1
      · subst q; exact ki e
    rw [hn]
    exact ⟨h0 rfl, rfl⟩
  · obtain ⟨hil, e⟩ := h1 rfl
    rw [List.getElem?_eq_getElem hil] at hk
    have ki : toP y m l[i] = 0 := by simpa using hk.symm
    have hs := fndO_at i hil (fun j hji q => by have := (hj j (by omega)).1 hji; omega) ki
    rw [hs]
    exact ⟨e, rfl⟩
end Go.Proofs.YtmkjlcfoedglmaaDoor
