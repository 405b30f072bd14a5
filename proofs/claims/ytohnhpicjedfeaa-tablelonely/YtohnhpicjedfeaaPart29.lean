/-
  Part 29 of the proof: 1 texts, one behind the other.
-/
import Derived.Test.YtohnhpicjedfeaaPart28
namespace Go.Proofs.Ytohnhpicjedfeaa
open Go.RowKit Go.Shelf
set_option linter.unusedSimpArgs false
set_option linter.unusedVariables false

theorem own_blkL {W : World} {base e size n : Nat} {v : Value} {xs : List Value} (h : W.ownsRow base e size v n xs) (z : Nat) (hz : v.ownBlock = some z) : ∃ cur, W.heap[z]? = some (.cells cur e (0, 0)) := by
  rcases h.2 with ⟨e0, _⟩ | ⟨g, cap, cur, e0, _, hg, _⟩
  · rw [e0] at hz; cases hz
  · rw [e0] at hz
    have : some g = some z := hz
    injection this with this
    subst this
    exact ⟨cur, hg⟩
theorem gh_sameL {x y : Array Value} {d s : Nat} (h : x.toList.set d undef = y.toList.set d undef) (h1 : s ≠ d) : x[s]? = y[s]? := by
  have := congrArg (fun l => l[s]?) h
  simp only [List.getElem?_set_ne (Ne.symm h1)] at this
  simpa using this
theorem gh_sameL3 {x y : Array Value} {d1 d2 d3 s : Nat} (h : ((x.toList.set d1 undef).set d2 undef).set d3 undef = ((y.toList.set d1 undef).set d2 undef).set d3 undef) (h1 : s ≠ d1) (h2 : s ≠ d2) (h3 : s ≠ d3) : x[s]? = y[s]? := by
  have := congrArg (fun l => l[s]?) h
  simp only [List.getElem?_set_ne (Ne.symm h1), List.getElem?_set_ne (Ne.symm h2), List.getElem?_set_ne (Ne.symm h3)] at this
  simpa using this
theorem own_notT {W : World} {base size n A : Nat} {v : Value} {xs : List Value} {cs : Array Value} (h : W.ownsRow base 40 size v n xs) (hA : W.heap[A]? = some (.cells cs 25)) : ¬ v.ownBlock = some A := fun e => by
  obtain ⟨cur, h2⟩ := own_blkL h A e
  rw [hA] at h2
  simp at h2
def tabO (f11 : Bool) (F2 : Int) (v6 : Value) : Array Value := if f11 = true then #[.int .i64 F2, v6] else #[.int .i64 0, .slice none 0 0]
structure R18 (wf : World) (F2 : Int) (r : Rte) (l S : List Rte) (mo : Option Addr) (mc : Nat) (f4 f5 f6 f10 f11 : Bool) (B : Nat) (v5 v6 : Value) (A : Nat) (W : World) : Prop where
  bel : Below wf.heap.size wf W
  b : f4 = true → f5 = false → wf.heap.size ≤ B ∧ W.heap[B]? = some (.cells #[.int .u64 (hI r.1.1), .int .u64 (lI r.1.1), .int .i64 r.1.2, .int .i64 r.2] 40)
  o5 : f5 = false → W.ownsRow wf.heap.size 40 4 (.slice mo l.length mc) l.length (rowR l)
  o6 : f5 = true → f6 = false → W.ownsRow wf.heap.size 40 4 v5 (l.length + 1) (rowR (l ++ [r]))
  o7 : f6 = true → W.ownsRow wf.heap.size 40 4 v6 S.length (rowR S)
  a : f10 = true → wf.heap.size ≤ A ∧ W.heap[A]? = some (.cells (tabO f11 F2 v6) 25)
  c5 : f5 = true → f4 = true
  c6 : f6 = true → f5 = true
  c11 : f11 = true → f10 = true ∧ f6 = true
theorem rtsG_of (F : Int) : ∀ l : List Rte, (∀ r ∈ l, rteE F r = 0) → rtsG F l = 0
  | [], _ => rfl
  | a :: l, h => by
    rw [rtsG, if_pos (h a List.mem_cons_self)]
    exact rtsG_of F l (fun r hr => h r (List.mem_cons_of_mem _ hr))
theorem rts_appL (F : Int) (l : List Rte) (r : Rte) (h : rtsE F l = 0) (hl : l.length ≤ 3000) (hr : Rt F r.1.1 r.1.2) (h1 : 1 ≤ r.2) (h2 : r.2 ≤ 65535) : rtsE F (l ++ [r]) = 0 := by
  obtain ⟨hf, -, hall⟩ := rts_all F l h
  have hre : rteE F r = 0 := by
    have hc : checkE F r.1.1 r.1.2 = 0 := by
      unfold checkE
      have a1 := hr.1
      have a2 := hr.2.1
      rw [if_pos hf, if_neg (by omega), if_neg (by omega), if_pos (by rw [hr.2.2]; simp)]
    unfold rteE
    rw [if_pos hc, if_pos (by unfold hopB; simp [h1, h2])]
  unfold rtsE
  rw [if_pos hf, if_neg (by simp; omega)]
  refine rtsG_of F _ (fun x hx => ?_)
  rcases List.mem_append.mp hx with q | q
  · exact hall x q
  · rw [List.mem_singleton.mp q]; exact hre
theorem fnd_setL (l : List Rte) (r : Rte) (hO : OrdR l) (hm : r ∈ l) : fndO r.1.1 r.1.2 l = some r.2 := by
  obtain ⟨i, hi, e⟩ := List.getElem_of_mem hm
  have := fndO_at (y := r.1.1) (m := r.1.2) (l := l) i hi (fun j hj => by
    have h := hO j i hi hj
    rw [e] at h
    unfold toP
    intro q
    omega) (by rw [e]; unfold toP; exact (pcmp_eq0 _ _ _ _).mpr ⟨rfl, rfl⟩)
  rw [e] at this
  exact this
theorem set_rtR (F : Int) (l : List Rte) (r : Rte) (h : RtR F l) (hO : OrdR l) (hr : Rt F r.1.1 r.1.2) : RtR F (setF l r) := fun x hx => by
  rcases setF_mem r l (ordP_of hO) x hx with q | q
  · rw [q]; exact hr
  · exact h x q
section
variable {wf : World} {F2 : Int} {r : Rte} {l S : List Rte} {mo : Option Addr} {mc : Nat} {f4 f5 f6 f10 f11 : Bool} {B : Nat} {v5 v6 : Value} {A : Nat} {W W' : World}
theorem R18.below (k : R18 wf F2 r l S mo mc f4 f5 f6 f10 f11 B v5 v6 A W) (hb : Below W.heap.size W W') : R18 wf F2 r l S mo mc f4 f5 f6 f10 f11 B v5 v6 A W' :=
  ⟨keepb hb k.bel, fun h g => ⟨(k.b h g).1, (hb.block _ (blk_lt5 (k.b h g).2)).trans (k.b h g).2⟩, fun h => own_below hb (k.o5 h), fun h g => own_below hb (k.o6 h g), fun h => own_below hb (k.o7 h), fun h => ⟨(k.a h).1, (hb.block _ (blk_lt5 (k.a h).2)).trans (k.a h).2⟩, k.c5, k.c6, k.c11⟩
theorem R18.build (k : R18 wf F2 r l S mo mc false f5 f6 f10 f11 B v5 v6 A W) : R18 wf F2 r l S mo mc true f5 f6 f10 f11 W.heap.size v5 v6 A (W.alloc (.cells #[.int .u64 (hI r.1.1), .int .u64 (lI r.1.1), .int .i64 r.1.2, .int .i64 r.2] 40)) := by
  have hb := bl1 W (.cells #[.int .u64 (hI r.1.1), .int .u64 (lI r.1.1), .int .i64 r.1.2, .int .i64 r.2] 40)
  have k2 := k.below hb
  exact ⟨k2.bel, fun _ _ => ⟨k.bel.size, Array.getElem?_push_size⟩, k2.o5, k2.o6, k2.o7, k2.a, fun _ => rfl, k2.c6, k2.c11⟩
theorem R18.al (k : R18 wf F2 r l S mo mc f4 f5 f6 false f11 B v5 v6 A W) : R18 wf F2 r l S mo mc f4 f5 f6 true f11 B v5 v6 W.heap.size (W.alloc (.cells #[.int .i64 0, .slice none 0 0] 25)) := by
  have h11 : f11 = false := by
    cases h : f11 with
    | false => rfl
    | true => exact absurd (k.c11 h).1 (by decide)
  subst h11
  have hb := bl1 W (.cells #[.int .i64 0, .slice none 0 0] 25)
  have k2 := k.below hb
  exact ⟨k2.bel, k2.b, k2.o5, k2.o6, k2.o7, fun _ => ⟨k.bel.size, Array.getElem?_push_size⟩, k2.c5, k2.c6, fun h => by cases h⟩
theorem R18.app (k : R18 wf F2 r l S mo mc true false f6 f10 f11 B v5 v6 A W) (v' : Value) (ho : W'.ownsRow wf.heap.size 40 4 v' (l.length + 1) (rowR (l ++ [r]))) (hg : W.grownBy W' (Value.slice mo l.length mc).ownBlock) : R18 wf F2 r l S mo mc true true f6 f10 f11 B v' v6 A W' := by
  have h6 : f6 = false := by
    cases h : f6 with
    | false => rfl
    | true => exact absurd (k.c6 h) (by decide)
  subst h6
  have h11 : f11 = false := by
    cases h : f11 with
    | false => rfl
    | true => exact absurd (k.c11 h).2 (by decide)
  subst h11
  refine ⟨⟨by rw [hg.os, k.bel.os], by rw [hg.tape, k.bel.tape], by rw [hg.output, k.bel.output], Nat.le_trans k.bel.size hg.size, fun z hz => by rw [hg.block z (by have := k.bel.size; omega) (fun e => by have := ((k.o5 rfl).lt z e.symm).1; omega), k.bel.block z hz]⟩, fun _ h => (by cases h), fun h => (by cases h), fun _ _ => ho, fun h => (by cases h), fun h => ⟨(k.a h).1, ?_⟩, fun _ => rfl, fun h => (by cases h), fun h => (by cases h)⟩
  rw [hg.block _ (blk_lt5 (k.a h).2) (fun e => own_notT (k.o5 rfl) (k.a h).2 e.symm)]
  exact (k.a h).2
theorem R18.can (k : R18 wf F2 r l S mo mc true true false f10 f11 B v5 v6 A W) (hb : Below W.heap.size W W') (v' : Value) (ho : W'.ownsRow W.heap.size 40 4 v' S.length (rowR S)) : R18 wf F2 r l S mo mc true true true f10 f11 B v5 v' A W' := by
  have h11 : f11 = false := by
    cases h : f11 with
    | false => rfl
    | true => exact absurd (k.c11 h).2 (by decide)
  subst h11
  have k2 := k.below hb
  exact ⟨k2.bel, fun _ h => (by cases h), fun h => (by cases h), fun _ h => (by cases h), fun _ => own_wide ho k.bel.size, k2.a, fun _ => rfl, fun _ => rfl, fun h => (by cases h)⟩
theorem R18.st (k : R18 wf F2 r l S mo mc true true true true false B v5 v6 A W) : R18 wf F2 r l S mo mc true true true true true B v5 v6 A ((W.setCell ⟨A, 0, none⟩ (.int .i64 F2)).setCell ⟨A, 1, none⟩ v6) := by
  obtain ⟨h1, h2⟩ := k.a rfl
  have hn := own_notT (k.o7 rfl) h2
  refine ⟨(k.bel.setCell (p := ⟨A, 0, none⟩) h1 _).setCell (p := ⟨A, 1, none⟩) h1 _, fun _ h => (by cases h), fun h => (by cases h), fun _ h => (by cases h), fun _ => own_heap (k.o7 rfl) (fun z e => ?_), fun _ => ⟨h1, ?_⟩, fun _ => rfl, fun _ => rfl, fun _ => ⟨rfl, rfl⟩⟩
  · have hz : ¬ z = A := fun q => hn (by rw [← q]; exact e)
    rw [hSet6 _ hz, hSet6 _ hz]
  · simpa [tabO] using set_blk5 (o := 1) (set_blk5 (o := 0) h2 (.int .i64 F2)) v6
end
end Go.Proofs.Ytohnhpicjedfeaa
