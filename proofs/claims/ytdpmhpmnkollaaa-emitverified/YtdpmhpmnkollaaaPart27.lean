/-
  Part 27 of the proof: 4 texts, one behind the other.
-/
import Derived.Test.YtdpmhpmnkollaaaPart8
import Derived.Test.YtdpmhpmnkollaaaPart1
import Derived.Test.YtdpmhpmnkollaaaPart2
import Derived.Test.YtdpmhpmnkollaaaPart22
import Derived.Test.YtdpmhpmnkollaaaPart26
import Derived.Test.YtdpmhpmnkollaaaPart7
namespace Go.Proofs.Ytdpmhpmnkollaaa
open Go.RowKit
set_option linter.unusedSimpArgs false
set_option linter.unusedVariables false

theorem At.drew {w : World} {B : Nat} {x : BitVec 128} (h : At w B x) : At w.drew B x := h
end Go.Proofs.Ytdpmhpmnkollaaa
namespace Go.Proofs.Ytdpmhpmnkollaaa
open Go.RowKit
set_option linter.unusedSimpArgs false
set_option linter.unusedVariables false

def hs (x y : BitVec 128) : Int := IntKind.u64.wrap (hI x + hI y)
def hd (x y : BitVec 128) : Int := IntKind.u64.wrap (hI x - hI y)
end Go.Proofs.Ytdpmhpmnkollaaa
namespace Go.Proofs.Ytdpmhpmnkollaaa
open Go.RowKit
set_option linter.unusedSimpArgs false
set_option linter.unusedVariables false

theorem isFamily_any (F : Int) (w : World) :
    Calls Try.prog 19 #[.int .i64 F] w fun e w' => e = .returned (.bool (fam F)) ∧ w' = w := by
  unfold fam
  by_cases h1 : F = 32
  · subst h1
    go_enter Try.func19, Try.ntmps19
    go_wp2
    go_ret
    exact ⟨rfl, rfl⟩
  · have b1 : (F == 32) = false := by simp [h1]
    have b2 : (F == 128) = decide (F = 128) := by rw [Bool.eq_iff_iff]; simp
    rw [show decide (F = 32) = false by simp [h1], Bool.false_or]
    go_enter Try.func19, Try.ntmps19
    go_wp2
    go_ret
    exact ⟨rfl, rfl⟩

end Go.Proofs.Ytdpmhpmnkollaaa
namespace Go.Proofs.Ytdpmhpmnkollaaa
open Go.RowKit Go.Shelf
set_option linter.unusedSimpArgs false
set_option linter.unusedVariables false
attribute [local go_sem] Oper.semAt_some

structure Kv where
  a : Int
  t : Int
  vm : Value
  en : Int
  ve : Value
def rowK : List Kv → List Value
  | [] => []
  | x :: t => .int .i64 x.a :: .int .i64 x.t :: x.vm :: .int .i64 x.en :: x.ve :: rowK t
theorem rowK_app : ∀ (A : List Kv) (x : Kv), rowK (A ++ [x]) = rowK A ++ [.int .i64 x.a, .int .i64 x.t, x.vm, .int .i64 x.en, x.ve]
  | [], e => rfl
  | y :: A, e => by
    show _ :: _ :: _ :: _ :: _ :: rowK (A ++ [e]) = _
    rw [rowK_app A e]; rfl
theorem rowK_get : ∀ (A : List Kv) (j : Nat) (x : Kv), A[j]? = some x → (rowK A)[j * 5]? = some (.int .i64 x.a) ∧ (rowK A)[j * 5 + 1]? = some (.int .i64 x.t) ∧ (rowK A)[j * 5 + 2]? = some x.vm ∧ (rowK A)[j * 5 + 3]? = some (.int .i64 x.en) ∧ (rowK A)[j * 5 + 4]? = some x.ve
  | [], j, e, h => by simp at h
  | y :: A, 0, e, h => by simp at h; subst h; exact ⟨rfl, rfl, rfl, rfl, rfl⟩
  | y :: A, j + 1, e, h => by
    have := rowK_get A j e (by simpa using h)
    rw [show (j + 1) * 5 = j * 5 + 5 by omega]
    exact this
def KbO (W : World) (base : Nat) (x : Kv) (d : DB) : Prop := x.a = d.a ∧ x.t = d.t ∧ x.en = d.en ∧ W.ownsRow base 96 1 x.vm d.m.length (d.m.map cU) ∧ ∃ es, W.ownsRow base 67 3 x.ve es.length (rowE es) ∧ es.map Prod.fst = d.es ∧ ∀ e ∈ es, ∃ ao n c, e.2 = Value.slice ao n c
structure KbV (W : World) (base : Nat) (vl : Value) (K : List Kv) (D : List DB) : Prop where
  o : W.ownsRow base 72 5 vl K.length (rowK K)
  l : K.length = D.length
  m : ∀ (j : Nat) (x : Kv) (d : DB), K[j]? = some x → D[j]? = some d → KbO W base x d
theorem KbO.below {W W' : World} {base : Nat} {x : Kv} {d : DB} (h : KbO W base x d) (hb : Below W.heap.size W W') : KbO W' base x d := by
  obtain ⟨h1, h2, h3, h4, es, h5, h6⟩ := h
  exact ⟨h1, h2, h3, own_b13 hb h4, es, own_b13 hb h5, h6⟩
theorem KbV.below {W W' : World} {base : Nat} {vl : Value} {K : List Kv} {D : List DB} (h : KbV W base vl K D) (hb : Below W.heap.size W W') : KbV W' base vl K D := ⟨own_b13 hb h.o, h.l, fun j x d h1 h2 => (h.m j x d h1 h2).below hb⟩
theorem KbV.nil {W : World} {base : Nat} : KbV W base (.slice none 0 0) [] [] := ⟨World.ownsRow_nil _ _ _ _, rfl, fun j x d h => by simp at h⟩
theorem KbV.get {W : World} {base : Nat} {vl : Value} {K : List Kv} {D : List DB} (h : KbV W base vl K D) {j : Nat} {d : DB} (hd : D[j]? = some d) : ∃ x, K[j]? = some x ∧ KbO W base x d := by
  have h1 : j < K.length := by rw [h.l]; exact (List.getElem?_eq_some_iff.mp hd).1
  exact ⟨K[j], List.getElem?_eq_getElem h1, h.m j _ d (List.getElem?_eq_getElem h1) hd⟩
theorem KbV.far {W : World} {base : Nat} {vl : Value} {K : List Kv} {D : List DB} (h : KbV W base vl K D) {z o : Nat} {cs : Array Value} {T : TypeId} {fr : Nat × Nat} (hz : W.heap[z]? = some (.cells cs T fr)) (h1 : 72 ≠ T) (h2 : 96 ≠ T) (h3 : 67 ≠ T) (u : Value) : KbV (W.setCell ⟨z, o, none⟩ u) base vl K D := by
  have hk : ∀ y, y ≠ z → (W.setCell ⟨z, o, none⟩ u).heap[y]? = W.heap[y]? := fun y q => far_16 q
  refine ⟨own_keep18 h.o (fun g e => hk g (fun q => own_not18 h.o hz h1 (q ▸ e))), h.l, fun j x d q1 q2 => ?_⟩
  obtain ⟨a1, a2, a3, a4, es, a5, a6⟩ := h.m j x d q1 q2
  exact ⟨a1, a2, a3, own_keep18 a4 (fun g e => hk g (fun q => own_not18 a4 hz h2 (q ▸ e))), es, own_keep18 a5 (fun g e => hk g (fun q => own_not18 a5 hz h3 (q ▸ e))), a6⟩
theorem KbV.push {W W1 W2 W3 : World} {base : Nat} {v v' : Value} {K : List Kv} {D : List DB} {x : Kv} {d : DB} (h : KbV W base v K D) (hbs : base ≤ W.heap.size) (h1 : Below W.heap.size W W1) (hx : KbO W1 W.heap.size x d) (h2 : Below W1.heap.size W1 W2) (hg : W2.grownBy W3 v.ownBlock)
    (ho : W3.ownsRow base 72 5 v' (K.length + 1) (rowK K ++ [.int .i64 x.a, .int .i64 x.t, x.vm, .int .i64 x.en, x.ve])) : KbV W3 base v' (K ++ [x]) (D ++ [d]) := by
  have hb2 : Below W.heap.size W W2 := keepb h2 h1
  have keep : ∀ {b0 e s n : Nat} {y : Value} {xs : List Value}, e ≠ 72 → W2.ownsRow b0 e s y n xs → W3.ownsRow b0 e s y n xs := fun he hx => own_keep18 hx (fun g hg2 => by
    obtain ⟨cs, hcs⟩ := own_typed18 hx g hg2
    refine hg.block g (lt_16 hcs) (fun q => ?_)
    exact own_not18 (own_b13 hb2 h.o) hcs (Ne.symm he) q.symm)
  refine ⟨?_, by rw [List.length_append, List.length_append, h.l]; rfl, fun j y e q1 q2 => ?_⟩
  · rw [rowK_app, List.length_append, List.length_singleton]
    exact ho
  · by_cases hj : j < D.length
    · rw [List.getElem?_append_left (by rw [h.l]; exact hj)] at q1
      rw [List.getElem?_append_left hj] at q2
      obtain ⟨a1, a2, a3, a4, es, a5, a6⟩ := h.m j y e q1 q2
      exact ⟨a1, a2, a3, keep (by decide) (own_b13 hb2 a4), es, keep (by decide) (own_b13 hb2 a5), a6⟩
    · have hj1 := (List.getElem?_eq_some_iff.mp q2).1
      rw [List.length_append, List.length_singleton] at hj1
      have hj2 : j = D.length := by omega
      subst hj2
      rw [List.getElem?_append_right (Nat.le_refl _), Nat.sub_self] at q2
      rw [List.getElem?_append_right (by rw [h.l]; exact Nat.le_refl _), h.l, Nat.sub_self] at q1
      simp at q1 q2
      subst q1 q2
      obtain ⟨a1, a2, a3, a4, es, a5, a6⟩ := hx
      exact ⟨a1, a2, a3, own_base16 (keep (by decide) (own_b13 h2 a4)) hbs, es, own_base16 (keep (by decide) (own_b13 h2 a5)) hbs, a6⟩
theorem news_five18 (w : World) (a b c d e : Value) (T : TypeId) (B : Nat) (hB : B = w.heap.size) : ∀ j u, [a, b, c, d, e][j]? = some u → (w.alloc (.cells #[a, b, c, d, e] T)).cell? ((⟨B, 0, none⟩ : Addr).add j) = some u := by
  subst hB
  intro j u hj
  match j, hj with
  | 0, hj => simp at hj; subst hj; simp [go_sem, Addr.add]
  | 1, hj => simp at hj; subst hj; simp [go_sem, Addr.add]
  | 2, hj => simp at hj; subst hj; simp [go_sem, Addr.add]
  | 3, hj => simp at hj; subst hj; simp [go_sem, Addr.add]
  | 4, hj => simp at hj; subst hj; simp [go_sem, Addr.add]
  | n + 5, hj => simp at hj
theorem one_five18 (a b e : Int) (ao bo : Option Addr) (n c m k : Nat) : ∀ u ∈ [Value.int .i64 a, .int .i64 b, .slice ao n c, .int .i64 e, .slice bo m k], u.oneCell' = true := by
  intro u hu
  simp at hu
  rcases hu with rfl | rfl | rfl | rfl | rfl <;> rfl
theorem Try.infoBk18 : (Try.prog.info? 72).map (fun i => (i.zero, i.size, i.bytes)) = some (some (.agg #[.int .i64 0, .int .i64 0, .slice none 0 0, .int .i64 0, .slice none 0 0]), 5, 72) := by kernel_rfl
theorem Try.infoBo18 : (Try.prog.info? 4).map (fun i => (i.zero, i.size, i.bytes)) = some (some (.bool false), 1, 1) := by kernel_rfl
theorem kfind18 {W : World} {base : Nat} {ao : Option Addr} {c : Nat} {K : List Kv} {D : List DB} (h : KbV W base (.slice ao K.length c) K D) (x : Int) (hs : (D.map DB.a).Pairwise (· < ·)) (hl : D.length ≤ 1000000000) :
    Calls Try.prog 27 #[.slice ao K.length c, .int .i64 x] W fun e w' => e = .returned (.int .i64 (fnB (D.map DB.a) x)) ∧ w' = W := by
  have hq : (D.map DB.a).length = K.length := by rw [List.length_map, h.l]
  rw [← hq]
  refine rfind18 ao c (D.map DB.a) x W ?_ hs (by rw [List.length_map]; exact hl)
  by_cases hD : D = []
  · left; rw [hD]; rfl
  · right
    obtain ⟨g, cap, hv, -⟩ := own_some18 h.o (by rw [h.l]; exact List.length_pos_iff.mpr hD)
    injection hv with e1 e2 e3
    refine ⟨g, 0, e1, fun j y hj => ?_⟩
    rw [List.getElem?_map] at hj
    cases hd : D[j]? with
    | none => rw [hd] at hj; cases hj
    | some d =>
      rw [hd] at hj
      injection hj with hj
      obtain ⟨k, hk, ho⟩ := h.get hd
      have ho2 := h.o
      rw [e1] at ho2
      have := (own_at18 ho2 (rowK_get K j k hk).1).1
      rw [Nat.zero_add, this, ho.1, hj]
end Go.Proofs.Ytdpmhpmnkollaaa
