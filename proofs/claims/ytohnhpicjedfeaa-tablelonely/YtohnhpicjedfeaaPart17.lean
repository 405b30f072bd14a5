/-
  Part 17 of the proof: 3 texts, one behind the other.
-/
import Derived.Test.YtohnhpicjedfeaaPart10
import Derived.Test.YtohnhpicjedfeaaPart11
namespace Go.Proofs.Ytohnhpicjedfeaa
open Go.RowKit
set_option linter.unusedSimpArgs false
set_option linter.unusedVariables false

def Blks (B : Nat) (L : List (List Rte)) : Prop := ∀ S ∈ L, S.length = B ∧ SrtL S
theorem Blks.len {B : Nat} : ∀ {L : List (List Rte)}, Blks B L → L.flatten.length = L.length * B
  | [], _ => by simp
  | S :: L, h => by
    have h1 := (h S List.mem_cons_self).1
    have h2 := Blks.len (L := L) (fun x hx => h x (List.mem_cons_of_mem _ hx))
    rw [List.flatten_cons, List.length_append, h1, h2, List.length_cons, Nat.succ_mul]
    omega
theorem Blks.snoc {B : Nat} {L : List (List Rte)} {S : List Rte} (h : Blks B L) (hl : S.length = B) (hs : SrtL S) : Blks B (L ++ [S]) := fun x hx => by
  rcases List.mem_append.mp hx with k | k
  · exact h x k
  · rw [List.mem_singleton.mp k]; exact ⟨hl, hs⟩
theorem Blks.tail {B : Nat} {L : List (List Rte)} {S : List Rte} (h : Blks B (S :: L)) : (S.length = B ∧ SrtL S) ∧ Blks B L := ⟨h S List.mem_cons_self, fun x hx => h x (List.mem_cons_of_mem _ hx)⟩
theorem isrt_len (D : List Rte) : (isrt D).length = D.length := by unfold isrt; rw [List.length_reverse, foldl_len]; simp
def Ph1 (D E : List Rte) (a : Nat) : Prop := ∃ L R, E = L.flatten ++ R ∧ Blks 20 L ∧ L.flatten.length = a ∧ SameK D E
def Ph2 (B : Nat) (D E : List Rte) : Prop := ∃ L T, E = L.flatten ++ T ∧ Blks B L ∧ SrtL T ∧ T.length < B ∧ SameK D E
def In2 (B : Nat) (D E : List Rte) (a : Nat) : Prop := ∃ L2 L1 T, E = L2.flatten ++ (L1.flatten ++ T) ∧ Blks (2 * B) L2 ∧ Blks B L1 ∧ SrtL T ∧ T.length < B ∧ L2.flatten.length = a ∧ SameK D E
theorem Ph1.zero (D : List Rte) : Ph1 D D 0 := ⟨[], D, by simp, fun _ h => by simp at h, by simp, SameK.refl _⟩
theorem ph1_cut {E P R : List Rte} {a b : Nat} (e : E = P ++ R) (ha : P.length = a) (hb : a ≤ b) : E.take a ++ isrt ((E.drop a).take (b - a)) ++ E.drop b = P ++ (isrt (R.take (b - a)) ++ R.drop (b - a)) := by
  subst e
  subst ha
  rw [List.take_left, List.drop_left, List.drop_append, List.drop_eq_nil_of_le hb, List.nil_append, List.append_assoc]
theorem ph1_same {D P R : List Rte} {k : Nat} (h : SameK D (P ++ R)) : SameK D (P ++ (isrt (R.take k) ++ R.drop k)) := h.trans ((SameK.refl P).app (by
  have := (isrt_spec (R.take k)).2.app (SameK.refl (R.drop k))
  rw [List.take_append_drop] at this
  exact this))
theorem Ph1.step {D E : List Rte} {a : Nat} (h : Ph1 D E a) (hb : a + 20 ≤ E.length) : Ph1 D (E.take a ++ isrt ((E.drop a).take (a + 20 - a)) ++ E.drop (a + 20)) (a + 20) := by
  obtain ⟨L, R, e, hB, hl, hs⟩ := h
  rw [ph1_cut e hl (Nat.le_add_right _ _)]
  have hR : (R.take (a + 20 - a)).length = 20 := by
    rw [e, List.length_append] at hb
    rw [List.length_take]; omega
  refine ⟨L ++ [isrt (R.take (a + 20 - a))], R.drop (a + 20 - a), by simp, hB.snoc (by rw [isrt_len, hR]) (isrt_spec _).1, ?_, ?_⟩
  · simp only [List.flatten_append, List.flatten_cons, List.flatten_nil, List.append_nil, List.length_append, isrt_len, hR, hl]
  · rw [e] at hs
    exact ph1_same hs
theorem Ph1.fin {D E : List Rte} {a n : Nat} (h : Ph1 D E a) (hn : E.length = n) (hb : ¬ a + 20 ≤ n) : a ≤ n ∧ Ph2 20 D (E.take a ++ isrt ((E.drop a).take (n - a)) ++ E.drop n) := by
  obtain ⟨L, R, e, hB, hl, hs⟩ := h
  have hE : a + R.length = n := by rw [← hn, e, List.length_append, hl]
  refine ⟨by omega, ?_⟩
  rw [ph1_cut e hl (by omega)]
  have hR : R.take (n - a) = R := List.take_of_length_le (by omega)
  have hR2 : R.drop (n - a) = [] := List.drop_eq_nil_of_le (by omega)
  rw [e] at hs
  have := ph1_same (k := n - a) hs
  rw [hR, hR2, List.append_nil] at this ⊢
  exact ⟨L, isrt R, rfl, hB, (isrt_spec _).1, by rw [isrt_len]; omega, this⟩
theorem Ph2.start {B : Nat} {D E : List Rte} (h : Ph2 B D E) : In2 B D E 0 := by
  obtain ⟨L, T, e, hB, hT, hl, hs⟩ := h
  exact ⟨[], L, T, by simpa using e, fun _ h => by simp at h, hB, hT, hl, by simp, hs⟩
theorem same_mid {D P X Y R S : List Rte} (h : SameK D (P ++ (X ++ (Y ++ R)))) (k : SameK (X ++ Y) S) : SameK D (P ++ (S ++ R)) := h.trans ((SameK.refl P).app (by
  have := k.app (SameK.refl R)
  rw [List.append_assoc] at this
  exact this))
theorem In2.pair {B : Nat} {D E : List Rte} {a : Nat} (h : In2 B D E a) (hb : a + 2 * B ≤ E.length) : ∃ P X Y R, E = P ++ (X ++ (Y ++ R)) ∧ P.length = a ∧ X.length = B ∧ Y.length = B ∧ SrtL X ∧ SrtL Y ∧ ∀ S, S.length = X.length + Y.length → SrtL S → SameK (X ++ Y) S → In2 B D (P ++ (S ++ R)) (a + 2 * B) := by
  obtain ⟨L2, L1, T, e, h2, h1, hT, hl, ha, hs⟩ := h
  have hlen : a + (L1.length * B + T.length) = E.length := by rw [e, List.length_append, List.length_append, h1.len, ha]
  match L1, h1, e, hlen with
  | [], h1, e, hlen => simp at hlen; omega
  | [X], h1, e, hlen => simp at hlen; omega
  | X :: Y :: L1, h1, e, hlen =>
    obtain ⟨⟨x1, x2⟩, h1⟩ := h1.tail
    obtain ⟨⟨y1, y2⟩, h1⟩ := h1.tail
    have e' : E = L2.flatten ++ (X ++ (Y ++ (L1.flatten ++ T))) := by rw [e]; simp
    refine ⟨L2.flatten, X, Y, L1.flatten ++ T, e', ha, x1, y1, x2, y2, fun S s1 s2 s3 => ?_⟩
    rw [e'] at hs
    refine ⟨L2 ++ [S], L1, T, by simp, h2.snoc (by omega) s2, h1, hT, hl, ?_, same_mid hs s3⟩
    simp only [List.flatten_append, List.flatten_cons, List.flatten_nil, List.append_nil, List.length_append, ha]
    omega
theorem In2.last {B : Nat} {D E : List Rte} {a : Nat} (h : In2 B D E a) (hb : ¬ a + 2 * B ≤ E.length) (hm : a + B < E.length) : ∃ P X Y, E = P ++ (X ++ (Y ++ [])) ∧ P.length = a ∧ X.length = B ∧ 0 < Y.length ∧ SrtL X ∧ SrtL Y ∧ ∀ S, S.length = X.length + Y.length → SrtL S → SameK (X ++ Y) S → Ph2 (2 * B) D (P ++ (S ++ [])) := by
  obtain ⟨L2, L1, T, e, h2, h1, hT, hl, ha, hs⟩ := h
  have hlen : a + (L1.length * B + T.length) = E.length := by rw [e, List.length_append, List.length_append, h1.len, ha]
  match L1, h1, e, hlen with
  | [], h1, e, hlen => simp at hlen; omega
  | X :: Y :: L1, h1, e, hlen =>
    exfalso
    rw [List.length_cons, List.length_cons, Nat.succ_mul, Nat.succ_mul] at hlen
    omega
  | [X], h1, e, hlen =>
    obtain ⟨⟨x1, x2⟩, h1⟩ := h1.tail
    simp at hlen
    have e' : E = L2.flatten ++ (X ++ (T ++ [])) := by rw [e]; simp
    refine ⟨L2.flatten, X, T, e', ha, x1, by omega, x2, hT, fun S s1 s2 s3 => ?_⟩
    rw [e'] at hs
    exact ⟨L2, S, by simp, h2, s2, by omega, same_mid hs s3⟩
theorem In2.done {B : Nat} {D E : List Rte} {a : Nat} (hB : 0 < B) (h : In2 B D E a) (hb : ¬ a + 2 * B ≤ E.length) (hm : ¬ a + B < E.length) : Ph2 (2 * B) D E := by
  obtain ⟨L2, L1, T, e, h2, h1, hT, hl, ha, hs⟩ := h
  have hlen : a + (L1.length * B + T.length) = E.length := by rw [e, List.length_append, List.length_append, h1.len, ha]
  match L1, h1, e, hlen with
  | [], h1, e, hlen => exact ⟨L2, T, by simpa using e, h2, hT, by omega, hs⟩
  | X :: Y :: L1, h1, e, hlen =>
    exfalso
    rw [List.length_cons, List.length_cons, Nat.succ_mul, Nat.succ_mul] at hlen
    omega
  | [X], h1, e, hlen =>
    obtain ⟨⟨x1, x2⟩, h1⟩ := h1.tail
    simp at hlen
    have : T = [] := List.length_eq_zero_iff.mp (by omega)
    subst this
    exact ⟨L2, X, by simpa using e, h2, x2, by omega, hs⟩
theorem Ph2.fin {B : Nat} {D E : List Rte} (h : Ph2 B D E) (hn : ¬ B < E.length) : E = isrt D := by
  obtain ⟨L, T, e, hB, hT, hl, hs⟩ := h
  have hlen : L.length * B + T.length = E.length := by rw [e, List.length_append, hB.len]
  refine isrt_one ?_ hs
  match L, hB, e, hlen with
  | [], hB, e, hlen => rw [e]; simpa using hT
  | X :: Y :: L, hB, e, hlen =>
    exfalso
    rw [List.length_cons, List.length_cons, Nat.succ_mul, Nat.succ_mul] at hlen
    omega
  | [X], hB, e, hlen =>
    obtain ⟨⟨x1, x2⟩, hB⟩ := hB.tail
    simp at hlen
    have : T = [] := List.length_eq_zero_iff.mp (by omega)
    subst this
    rw [e]; simpa using x2
end Go.Proofs.Ytohnhpicjedfeaa
namespace Go.Proofs.Ytohnhpicjedfeaa
open Go.RowKit
set_option linter.unusedSimpArgs false
set_option linter.unusedVariables false

structure R4 (m n p q : Nat) (B M A : World → Prop) (f : Nat → Bool) (W : World) : Prop where
  bef : f p = false → B W
  mid : f p = true → f q = false → M W
  aft : f q = true → A W
  w1 : f p = true → f m = true ∧ f n = true
  w2 : f q = true → f p = true
section
variable {m n p q : Nat} {B M A : World → Prop} {f f' : Nat → Bool} {W W' : World}
theorem R4.start (h : B W) (hf : ∀ j, f j = false) : R4 m n p q B M A f W := ⟨fun _ => h, fun q => (by rw [hf] at q; cases q), fun q => (by rw [hf] at q; cases q), fun q => (by rw [hf] at q; cases q), fun q => (by rw [hf] at q; cases q)⟩
theorem R4.loadm (k : R4 m n p q B M A f W) (h : f m = false) : B W := k.bef (by
  cases e : f p with
  | false => rfl
  | true => have := (k.w1 e).1; rw [h] at this; cases this)
theorem R4.loadn (k : R4 m n p q B M A f W) (h : f n = false) : B W := k.bef (by
  cases e : f p with
  | false => rfl
  | true => have := (k.w1 e).2; rw [h] at this; cases this)
theorem R4.quiet {i : Nat} (k : R4 m n p q B M A f W) (h1 : i ≠ p) (h2 : i ≠ q) (hs : f' i = true) (ho : ∀ j, j ≠ i → f' j = f j) : R4 m n p q B M A f' W := by
  have e15 := ho p (Ne.symm h1)
  have e17 := ho q (Ne.symm h2)
  have up : ∀ j, f j = true → f' j = true := fun j h => by
    by_cases e : j = i
    · rw [e]; exact hs
    · rw [ho j e]; exact h
  exact ⟨fun z => k.bef (by rw [← e15]; exact z), fun z r => k.mid (by rw [← e15]; exact z) (by rw [← e17]; exact r), fun z => k.aft (by rw [← e17]; exact z), fun z => by have := k.w1 (by rw [← e15]; exact z); exact ⟨up m this.1, up n this.2⟩, fun z => by rw [e15]; exact k.w2 (by rw [← e17]; exact z)⟩
theorem R4.st1 (k : R4 m n p q B M A f W) (c1 : m ≠ p) (c2 : n ≠ p) (c3 : q ≠ p) (h : M W') (h9 : f m = true) (h13 : f n = true) (hun : f p = false) (hs : f' p = true) (ho : ∀ j, j ≠ p → f' j = f j) : R4 m n p q B M A f' W' := by
  have e17 : f' q = false := by
    rw [ho q c3]
    cases e : f q with
    | false => rfl
    | true => have := k.w2 e; rw [hun] at this; cases this
  exact ⟨fun z => (by rw [hs] at z; cases z), fun _ _ => h, fun z => (by rw [e17] at z; cases z), fun _ => ⟨by rw [ho m c1]; exact h9, by rw [ho n c2]; exact h13⟩, fun z => (by rw [e17] at z; cases z)⟩
theorem R4.st2 (k : R4 m n p q B M A f W) (c1 : m ≠ q) (c2 : n ≠ q) (c3 : p ≠ q) (h : A W') (h15 : f p = true) (hun : f q = false) (hs : f' q = true) (ho : ∀ j, j ≠ q → f' j = f j) : R4 m n p q B M A f' W' := by
  have e15 : f' p = true := by rw [ho p c3]; exact h15
  exact ⟨fun z => (by rw [e15] at z; cases z), fun _ z => (by rw [hs] at z; cases z), fun _ => h, fun z => by have := k.w1 h15; exact ⟨by rw [ho m c1]; exact this.1, by rw [ho n c2]; exact this.2⟩, fun _ => e15⟩
end
end Go.Proofs.Ytohnhpicjedfeaa
namespace Go.Proofs.Ytohnhpicjedfeaa
open Go.RowKit
set_option linter.unusedSimpArgs false
set_option linter.unusedVariables false
attribute [local go_sem] Oper.semAt_some

def sw2 (L : List Rte) (p q : Nat) : List Rte := match L[p]?, L[q]? with
  | some x, some y => (L.set p y).set q x
  | _, _ => L
def swN (D : List Rte) (a b : Nat) : Nat → List Rte
  | 0 => D
  | i + 1 => sw2 (swN D a b i) (a + i) (b + i)
theorem sw2_len (L : List Rte) (p q : Nat) : (sw2 L p q).length = L.length := by unfold sw2; split <;> simp
theorem swN_len (D : List Rte) (a b : Nat) : ∀ i, (swN D a b i).length = D.length
  | 0 => rfl
  | i + 1 => by rw [swN, sw2_len, swN_len D a b i]
theorem swN_succ {D : List Rte} {a b i p q : Nat} {x y : Rte} (hx : (swN D a b i)[p]? = some x) (hy : (swN D a b i)[q]? = some y) (hp : p = a + i) (hq : q = b + i) : swN D a b (i + 1) = ((swN D a b i).set p y).set q x := by
  subst hp hq
  rw [swN, sw2, hx, hy]
set_option maxRecDepth 20000 in
set_option maxHeartbeats 16000000 in
theorem swapR_any (base g c n a b k : Nat) (D : List Rte) (w : World) (h : RwO w base g c n D) (hab : a + k ≤ b) (hbn : b + k ≤ n) (hn : n ≤ 1000000000) :
    Calls Try.prog 88 #[.slice (some ⟨g, 0, none⟩) n c, .int .i64 (a : Int), .int .i64 (b : Int), .int .i64 (k : Int), .func (.func 37) #[] #[]] w fun e w' => e = .returned (.tuple #[]) ∧ RwO w' base g c n (swN D a b k) ∧ Bo g w w' := by
  have hDl : D.length = n := h.1
  have H0 := hidR h
  clear h
  go_enter Try.func88, Try.ntmps88
  go_wp2_with fail
  go_loopw [10] (fun iv wr => ∃ i : Nat, i ≤ k ∧ iv = .int .i64 (i : Int) ∧ Hid (RwO wr base g c n (swN D a b i)) ∧ Hid (Bo g w wr)) (fun iv _ => k - (intOf iv).toNat)
  case atStart => exact ⟨0, Nat.zero_le _, rfl, H0, hidR (Bt.refl _ _)⟩
  case round =>
    clear H0
    obtain ⟨i, hi, rfl, HR, HB⟩ := hrel
    by_cases hik : (i : Int) < (k : Int)
    · have hll : (swN D a b i).length = n := by rw [swN_len, hDl]
      obtain ⟨p, hpi⟩ : ∃ p, p = a + i := ⟨_, rfl⟩
      obtain ⟨qq, hqi⟩ : ∃ qq, qq = b + i := ⟨_, rfl⟩
      have hpn : p < n := by omega
      have hqn : qq < n := by omega
      obtain ⟨rx, hrx⟩ : ∃ r, (swN D a b i)[p]? = some r := ⟨_, List.getElem?_eq_getElem (by rw [hll]; exact hpn)⟩
      obtain ⟨ry, hry⟩ : ∃ r, (swN D a b i)[qq]? = some r := ⟨_, List.getElem?_eq_getElem (by rw [hll]; exact hqn)⟩
      have Hpx := hidR hrx
      have Hqy := hidR hry
      have Hqm : Hid (((swN D a b i).set p ry)[qq]? = some ry) := hidR (by rw [List.getElem?_set_ne (by omega)]; exact hry)
      have wp1 : IntKind.i64.wrap ((a : Int) + (i : Int)) = (p : Int) := by rw [IntKind.wrap_i64]; omega
      have wq1 : IntKind.i64.wrap ((b : Int) + (i : Int)) = (qq : Int) := by rw [IntKind.wrap_i64]; omega
      have wi : IntKind.i64.wrap ((i : Int) + 1) = ((i + 1 : Nat) : Int) := by rw [IntKind.wrap_i64]; push_cast; omega
      have p0 : (0 : Int) ≤ (p : Int) := by omega
      have q0 : (0 : Int) ≤ (qq : Int) := by omega
      have p1 : (p : Int) < (n : Int) := by omega
      have q1 : (qq : Int) < (n : Int) := by omega
      have HC0 : Hid (RwO wr.drew base g c n (swN D a b i) ∧ Bo g w wr.drew) := hidR ⟨HR.out.below (below_drewN (Below.refl _ _) 1), HB.out.trans (Bt.ofB (below_drewN (Below.refl _ _) 1))⟩
      have Hpi := hidR hpi
      have Hqi := hidR hqi
      clear HR HB hrx hry hll hpi hqi
      go_wp2_with fail
      refine gh_region (γ := Unit) (qpOk 24 24 (by decide) (fun N => by kernel_rfl) (by kernel_rfl) (by kernel_rfl) (by kernel_rfl) (by kernel_rfl)) (by kernel_rfl) (by kernel_rfl) [some 16, some 17, some 18, some 19, some 20, some 21, some 22, some 23, some 24, some 25, some 26, some 27, some 28, some 29, some 30, some 31, some 32, some 33, some 34, some 35, some 36, none, some 37, none] (fun _ => [.slice (some ⟨g, 0, none⟩) n c, .int .i64 (a : Int), .int .i64 (i : Int), .int .i64 (p : Int), .slice (some ⟨g, 0, none⟩) n c, .int .i64 (b : Int), .int .i64 (i : Int), .int .i64 (qq : Int), .slice (some ⟨g, 0, none⟩) n c, .int .i64 (b : Int), .int .i64 (i : Int), .int .i64 (qq : Int), .pointer (some ⟨g, qq * 4, none⟩), .agg #[.int .u64 (hI ry.1.1), .int .u64 (lI ry.1.1), .int .i64 ry.1.2, .int .i64 ry.2], .slice (some ⟨g, 0, none⟩) n c, .int .i64 (a : Int), .int .i64 (i : Int), .int .i64 (p : Int), .pointer (some ⟨g, p * 4, none⟩), .agg #[.int .u64 (hI rx.1.1), .int .u64 (lI rx.1.1), .int .i64 rx.1.2, .int .i64 rx.2], .pointer (some ⟨g, p * 4, none⟩), undef, .pointer (some ⟨g, qq * 4, none⟩), undef]) (by kernel_rfl) (by simp) (fun lp _ W => R4 13 19 21 23 (fun X => RwO X base g c n (swN D a b i) ∧ Bo g w X) (fun X => RwO X base g c n ((swN D a b i).set p ry) ∧ Bo g w X) (fun X => RwO X base g c n (((swN D a b i).set p ry).set qq rx) ∧ Bo g w X) (fun j => lp.getD j false) W) () (R4.start HC0.out (fun j => by simp [Array.getElem?_replicate]; split <;> rfl)) ?step ?fin
      case step =>
        intro q o lp g9 w' a' ho hsz hun hdep hR hS K Q' hK
        have hfl : ∀ j, j ≠ q → (lp.setIfInBounds q true).getD j false = lp.getD j false := fun j hj => by rw [Array.getD_eq_getD_getElem?, Array.getD_eq_getD_getElem?, Array.getElem?_setIfInBounds_ne (by omega)]
        have hq : q < 24 := (List.getElem?_eq_some_iff.mp ho).1
        have hft : (lp.setIfInBounds q true).getD q false = true := getD_set_same (by rw [hsz]; exact hq)
        match q, ho, hun, hdep, hK, hfl, hft, hq with
        | 0, ho, hun, hdep, hK, hfl, hft, _ =>
          obtain rfl := Option.some.inj ho
          have o0 : a'.tmps[0]? = some (.slice (some ⟨g, 0, none⟩) n c) := (hS.old5 0 (by simp)).trans rfl
          have hK' := hK g9 w' (fun _ _ _ _ _ _ => rfl) (hR.quiet (i := 0) (by decide) (by decide) hft hfl) (.slice (some ⟨g, 0, none⟩) n c) (by simp only [valO, Option.bind_some]; simp only [putAll, Act.put, List.setIfInBounds_toArray, List.set_cons_zero, List.set_cons_succ]; rfl)
          clear hS hdep hR
          refine gh_quiet5 (v := .slice (some ⟨g, 0, none⟩) n c) ?_ ?_
          · (simp only [execOp, Act.eval, o0]; go_simp; first | done | (simp; done) | (simp [*]; done) | omega | (simp; omega))
          · exact hK'
        | 1, ho, hun, hdep, hK, hfl, hft, _ =>
          obtain rfl := Option.some.inj ho
          have o1 : a'.tmps[1]? = some (.int .i64 (a : Int)) := (hS.old5 1 (by simp)).trans rfl
          have hK' := hK g9 w' (fun _ _ _ _ _ _ => rfl) (hR.quiet (i := 1) (by decide) (by decide) hft hfl) (.int .i64 (a : Int)) (by simp only [valO, Option.bind_some]; simp only [putAll, Act.put, List.setIfInBounds_toArray, List.set_cons_zero, List.set_cons_succ]; rfl)
          clear hS hdep hR
          refine gh_quiet5 (v := .int .i64 (a : Int)) ?_ ?_
          · (simp only [execOp, Act.eval, o1]; go_simp; first | done | (simp; done) | (simp [*]; done) | omega | (simp; omega))
          · exact hK'
        | 2, ho, hun, hdep, hK, hfl, hft, _ =>
          obtain rfl := Option.some.inj ho
          have o10 : a'.tmps[10]? = some (.int .i64 (i : Int)) := (hS.old5 10 (by simp)).trans rfl
          have hK' := hK g9 w' (fun _ _ _ _ _ _ => rfl) (hR.quiet (i := 2) (by decide) (by decide) hft hfl) (.int .i64 (i : Int)) (by simp only [valO, Option.bind_some]; simp only [putAll, Act.put, List.setIfInBounds_toArray, List.set_cons_zero, List.set_cons_succ]; rfl)
          clear hS hdep hR
          refine gh_quiet5 (v := .int .i64 (i : Int)) ?_ ?_
          · (simp only [execOp, Act.eval, o10]; go_simp; first | done | (simp; done) | (simp [*]; done) | omega | (simp; omega))
          · exact hK'
        | 3, ho, hun, hdep, hK, hfl, hft, _ =>
          obtain rfl := Option.some.inj ho
          have d1 : lp.getD 1 false = true := hdep { on := 1, ground := .data } (by simp) rfl
          have e17 : a'.tmps[17]? = some (.int .i64 (a : Int)) := (hS.don 1 _ 17 rfl d1 rfl).trans (by simp only [putAll, Act.put, List.setIfInBounds_toArray, List.set_cons_zero, List.set_cons_succ]; rfl)
          have d2 : lp.getD 2 false = true := hdep { on := 2, ground := .data } (by simp) rfl
          have e18 : a'.tmps[18]? = some (.int .i64 (i : Int)) := (hS.don 2 _ 18 rfl d2 rfl).trans (by simp only [putAll, Act.put, List.setIfInBounds_toArray, List.set_cons_zero, List.set_cons_succ]; rfl)
          have hK' := hK g9 w' (fun _ _ _ _ _ _ => rfl) (hR.quiet (i := 3) (by decide) (by decide) hft hfl) (.int .i64 (p : Int)) (by simp only [valO, Option.bind_some]; simp only [putAll, Act.put, List.setIfInBounds_toArray, List.set_cons_zero, List.set_cons_succ]; rfl)
          clear hS hdep hR
          refine gh_quiet5 (v := .int .i64 (p : Int)) ?_ ?_
          · (simp only [execOp, Act.eval, e17, e18]; go_simp; first | done | (simp; done) | (simp [*]; done) | omega | (simp; omega))
          · exact hK'
        | 4, ho, hun, hdep, hK, hfl, hft, _ =>
          obtain rfl := Option.some.inj ho
          have o0 : a'.tmps[0]? = some (.slice (some ⟨g, 0, none⟩) n c) := (hS.old5 0 (by simp)).trans rfl
          have hK' := hK g9 w' (fun _ _ _ _ _ _ => rfl) (hR.quiet (i := 4) (by decide) (by decide) hft hfl) (.slice (some ⟨g, 0, none⟩) n c) (by simp only [valO, Option.bind_some]; simp only [putAll, Act.put, List.setIfInBounds_toArray, List.set_cons_zero, List.set_cons_succ]; rfl)
          clear hS hdep hR
          refine gh_quiet5 (v := .slice (some ⟨g, 0, none⟩) n c) ?_ ?_
          · (simp only [execOp, Act.eval, o0]; go_simp; first | done | (simp; done) | (simp [*]; done) | omega | (simp; omega))
          · exact hK'
        | 5, ho, hun, hdep, hK, hfl, hft, _ =>
          obtain rfl := Option.some.inj ho
          have o2 : a'.tmps[2]? = some (.int .i64 (b : Int)) := (hS.old5 2 (by simp)).trans rfl
          have hK' := hK g9 w' (fun _ _ _ _ _ _ => rfl) (hR.quiet (i := 5) (by decide) (by decide) hft hfl) (.int .i64 (b : Int)) (by simp only [valO, Option.bind_some]; simp only [putAll, Act.put, List.setIfInBounds_toArray, List.set_cons_zero, List.set_cons_succ]; rfl)
          clear hS hdep hR
          refine gh_quiet5 (v := .int .i64 (b : Int)) ?_ ?_
          · (simp only [execOp, Act.eval, o2]; go_simp; first | done | (simp; done) | (simp [*]; done) | omega | (simp; omega))
          · exact hK'
        | 6, ho, hun, hdep, hK, hfl, hft, _ =>
          obtain rfl := Option.some.inj ho
          have o10 : a'.tmps[10]? = some (.int .i64 (i : Int)) := (hS.old5 10 (by simp)).trans rfl
          have hK' := hK g9 w' (fun _ _ _ _ _ _ => rfl) (hR.quiet (i := 6) (by decide) (by decide) hft hfl) (.int .i64 (i : Int)) (by simp only [valO, Option.bind_some]; simp only [putAll, Act.put, List.setIfInBounds_toArray, List.set_cons_zero, List.set_cons_succ]; rfl)
          clear hS hdep hR
          refine gh_quiet5 (v := .int .i64 (i : Int)) ?_ ?_
          · (simp only [execOp, Act.eval, o10]; go_simp; first | done | (simp; done) | (simp [*]; done) | omega | (simp; omega))
          · exact hK'
        | 7, ho, hun, hdep, hK, hfl, hft, _ =>
          obtain rfl := Option.some.inj ho
          have d5 : lp.getD 5 false = true := hdep { on := 5, ground := .data } (by simp) rfl
          have e21 : a'.tmps[21]? = some (.int .i64 (b : Int)) := (hS.don 5 _ 21 rfl d5 rfl).trans (by simp only [putAll, Act.put, List.setIfInBounds_toArray, List.set_cons_zero, List.set_cons_succ]; rfl)
          have d6 : lp.getD 6 false = true := hdep { on := 6, ground := .data } (by simp) rfl
          have e22 : a'.tmps[22]? = some (.int .i64 (i : Int)) := (hS.don 6 _ 22 rfl d6 rfl).trans (by simp only [putAll, Act.put, List.setIfInBounds_toArray, List.set_cons_zero, List.set_cons_succ]; rfl)
          have hK' := hK g9 w' (fun _ _ _ _ _ _ => rfl) (hR.quiet (i := 7) (by decide) (by decide) hft hfl) (.int .i64 (qq : Int)) (by simp only [valO, Option.bind_some]; simp only [putAll, Act.put, List.setIfInBounds_toArray, List.set_cons_zero, List.set_cons_succ]; rfl)
          clear hS hdep hR
          refine gh_quiet5 (v := .int .i64 (qq : Int)) ?_ ?_
          · (simp only [execOp, Act.eval, e21, e22]; go_simp; first | done | (simp; done) | (simp [*]; done) | omega | (simp; omega))
          · exact hK'
        | 8, ho, hun, hdep, hK, hfl, hft, _ =>
          obtain rfl := Option.some.inj ho
          have o0 : a'.tmps[0]? = some (.slice (some ⟨g, 0, none⟩) n c) := (hS.old5 0 (by simp)).trans rfl
          have hK' := hK g9 w' (fun _ _ _ _ _ _ => rfl) (hR.quiet (i := 8) (by decide) (by decide) hft hfl) (.slice (some ⟨g, 0, none⟩) n c) (by simp only [valO, Option.bind_some]; simp only [putAll, Act.put, List.setIfInBounds_toArray, List.set_cons_zero, List.set_cons_succ]; rfl)
          clear hS hdep hR
          refine gh_quiet5 (v := .slice (some ⟨g, 0, none⟩) n c) ?_ ?_
          · (simp only [execOp, Act.eval, o0]; go_simp; first | done | (simp; done) | (simp [*]; done) | omega | (simp; omega))
          · exact hK'
        | 9, ho, hun, hdep, hK, hfl, hft, _ =>
          obtain rfl := Option.some.inj ho
          have o2 : a'.tmps[2]? = some (.int .i64 (b : Int)) := (hS.old5 2 (by simp)).trans rfl
          have hK' := hK g9 w' (fun _ _ _ _ _ _ => rfl) (hR.quiet (i := 9) (by decide) (by decide) hft hfl) (.int .i64 (b : Int)) (by simp only [valO, Option.bind_some]; simp only [putAll, Act.put, List.setIfInBounds_toArray, List.set_cons_zero, List.set_cons_succ]; rfl)
          clear hS hdep hR
          refine gh_quiet5 (v := .int .i64 (b : Int)) ?_ ?_
          · (simp only [execOp, Act.eval, o2]; go_simp; first | done | (simp; done) | (simp [*]; done) | omega | (simp; omega))
          · exact hK'
        | 10, ho, hun, hdep, hK, hfl, hft, _ =>
          obtain rfl := Option.some.inj ho
          have o10 : a'.tmps[10]? = some (.int .i64 (i : Int)) := (hS.old5 10 (by simp)).trans rfl
          have hK' := hK g9 w' (fun _ _ _ _ _ _ => rfl) (hR.quiet (i := 10) (by decide) (by decide) hft hfl) (.int .i64 (i : Int)) (by simp only [valO, Option.bind_some]; simp only [putAll, Act.put, List.setIfInBounds_toArray, List.set_cons_zero, List.set_cons_succ]; rfl)
          clear hS hdep hR
          refine gh_quiet5 (v := .int .i64 (i : Int)) ?_ ?_
          · (simp only [execOp, Act.eval, o10]; go_simp; first | done | (simp; done) | (simp [*]; done) | omega | (simp; omega))
          · exact hK'
        | 11, ho, hun, hdep, hK, hfl, hft, _ =>
          obtain rfl := Option.some.inj ho
          have d9 : lp.getD 9 false = true := hdep { on := 9, ground := .data } (by simp) rfl
          have e25 : a'.tmps[25]? = some (.int .i64 (b : Int)) := (hS.don 9 _ 25 rfl d9 rfl).trans (by simp only [putAll, Act.put, List.setIfInBounds_toArray, List.set_cons_zero, List.set_cons_succ]; rfl)
          have d10 : lp.getD 10 false = true := hdep { on := 10, ground := .data } (by simp) rfl
          have e26 : a'.tmps[26]? = some (.int .i64 (i : Int)) := (hS.don 10 _ 26 rfl d10 rfl).trans (by simp only [putAll, Act.put, List.setIfInBounds_toArray, List.set_cons_zero, List.set_cons_succ]; rfl)
          have hK' := hK g9 w' (fun _ _ _ _ _ _ => rfl) (hR.quiet (i := 11) (by decide) (by decide) hft hfl) (.int .i64 (qq : Int)) (by simp only [valO, Option.bind_some]; simp only [putAll, Act.put, List.setIfInBounds_toArray, List.set_cons_zero, List.set_cons_succ]; rfl)
          clear hS hdep hR
          refine gh_quiet5 (v := .int .i64 (qq : Int)) ?_ ?_
          · (simp only [execOp, Act.eval, e25, e26]; go_simp; first | done | (simp; done) | (simp [*]; done) | omega | (simp; omega))
          · exact hK'
        | 12, ho, hun, hdep, hK, hfl, hft, _ =>
          obtain rfl := Option.some.inj ho
          have d8 : lp.getD 8 false = true := hdep { on := 8, ground := .data } (by simp) rfl
          have e24 : a'.tmps[24]? = some (.slice (some ⟨g, 0, none⟩) n c) := (hS.don 8 _ 24 rfl d8 rfl).trans (by simp only [putAll, Act.put, List.setIfInBounds_toArray, List.set_cons_zero, List.set_cons_succ]; rfl)
          have d11 : lp.getD 11 false = true := hdep { on := 11, ground := .data } (by simp) rfl
          have e27 : a'.tmps[27]? = some (.int .i64 (qq : Int)) := (hS.don 11 _ 27 rfl d11 rfl).trans (by simp only [putAll, Act.put, List.setIfInBounds_toArray, List.set_cons_zero, List.set_cons_succ]; rfl)
          have hK' := hK g9 w' (fun _ _ _ _ _ _ => rfl) (hR.quiet (i := 12) (by decide) (by decide) hft hfl) (.pointer (some ⟨g, qq * 4, none⟩)) (by simp only [valO, Option.bind_some]; simp only [putAll, Act.put, List.setIfInBounds_toArray, List.set_cons_zero, List.set_cons_succ]; rfl)
          clear hS hdep hR
          refine gh_quiet5 (v := .pointer (some ⟨g, qq * 4, none⟩)) ?_ ?_
          · (simp only [execOp, Act.eval, e24, e27]; go_simp; first | done | (simp; done) | (simp [*]; done) | omega | (simp; omega))
          · exact hK'
        | 13, ho, hun, hdep, hK, hfl, hft, _ =>
          obtain rfl := Option.some.inj ho
          have d12 : lp.getD 12 false = true := hdep { on := 12, ground := .data } (by simp) rfl
          have e28 : a'.tmps[28]? = some (.pointer (some ⟨g, qq * 4, none⟩)) := (hS.don 12 _ 28 rfl d12 rfl).trans (by simp only [putAll, Act.put, List.setIfInBounds_toArray, List.set_cons_zero, List.set_cons_succ]; rfl)
          have hB := hR.loadm hun
          have u0 := (hB.1.cells Hqy.out).1
          have u1 := (hB.1.cells Hqy.out).2.1
          have u2 := (hB.1.cells Hqy.out).2.2.1
          have u3 := (hB.1.cells Hqy.out).2.2.2
          clear hB
          have hK' := hK g9 w' (fun _ _ _ _ _ _ => rfl) (hR.quiet (i := 13) (by decide) (by decide) hft hfl) (.agg #[.int .u64 (hI ry.1.1), .int .u64 (lI ry.1.1), .int .i64 ry.1.2, .int .i64 ry.2]) (by simp only [valO, Option.bind_some]; simp only [putAll, Act.put, List.setIfInBounds_toArray, List.set_cons_zero, List.set_cons_succ]; rfl)
          clear hS hdep hR
          refine gh_quiet5 (v := .agg #[.int .u64 (hI ry.1.1), .int .u64 (lI ry.1.1), .int .i64 ry.1.2, .int .i64 ry.2]) ?_ ?_
          · (simp only [execOp, Act.eval, e28]; go_simp; first | done | (simp; done) | (simp [*]; done) | omega | (simp; omega))
          · exact hK'
        | 14, ho, hun, hdep, hK, hfl, hft, _ =>
          obtain rfl := Option.some.inj ho
          have o0 : a'.tmps[0]? = some (.slice (some ⟨g, 0, none⟩) n c) := (hS.old5 0 (by simp)).trans rfl
          have hK' := hK g9 w' (fun _ _ _ _ _ _ => rfl) (hR.quiet (i := 14) (by decide) (by decide) hft hfl) (.slice (some ⟨g, 0, none⟩) n c) (by simp only [valO, Option.bind_some]; simp only [putAll, Act.put, List.setIfInBounds_toArray, List.set_cons_zero, List.set_cons_succ]; rfl)
          clear hS hdep hR
          refine gh_quiet5 (v := .slice (some ⟨g, 0, none⟩) n c) ?_ ?_
          · (simp only [execOp, Act.eval, o0]; go_simp; first | done | (simp; done) | (simp [*]; done) | omega | (simp; omega))
          · exact hK'
        | 15, ho, hun, hdep, hK, hfl, hft, _ =>
          obtain rfl := Option.some.inj ho
          have o1 : a'.tmps[1]? = some (.int .i64 (a : Int)) := (hS.old5 1 (by simp)).trans rfl
          have hK' := hK g9 w' (fun _ _ _ _ _ _ => rfl) (hR.quiet (i := 15) (by decide) (by decide) hft hfl) (.int .i64 (a : Int)) (by simp only [valO, Option.bind_some]; simp only [putAll, Act.put, List.setIfInBounds_toArray, List.set_cons_zero, List.set_cons_succ]; rfl)
          clear hS hdep hR
          refine gh_quiet5 (v := .int .i64 (a : Int)) ?_ ?_
          · (simp only [execOp, Act.eval, o1]; go_simp; first | done | (simp; done) | (simp [*]; done) | omega | (simp; omega))
          · exact hK'
        | 16, ho, hun, hdep, hK, hfl, hft, _ =>
          obtain rfl := Option.some.inj ho
          have o10 : a'.tmps[10]? = some (.int .i64 (i : Int)) := (hS.old5 10 (by simp)).trans rfl
          have hK' := hK g9 w' (fun _ _ _ _ _ _ => rfl) (hR.quiet (i := 16) (by decide) (by decide) hft hfl) (.int .i64 (i : Int)) (by simp only [valO, Option.bind_some]; simp only [putAll, Act.put, List.setIfInBounds_toArray, List.set_cons_zero, List.set_cons_succ]; rfl)
          clear hS hdep hR
          refine gh_quiet5 (v := .int .i64 (i : Int)) ?_ ?_
          · (simp only [execOp, Act.eval, o10]; go_simp; first | done | (simp; done) | (simp [*]; done) | omega | (simp; omega))
          · exact hK'
        | 17, ho, hun, hdep, hK, hfl, hft, _ =>
          obtain rfl := Option.some.inj ho
          have d15 : lp.getD 15 false = true := hdep { on := 15, ground := .data } (by simp) rfl
          have e31 : a'.tmps[31]? = some (.int .i64 (a : Int)) := (hS.don 15 _ 31 rfl d15 rfl).trans (by simp only [putAll, Act.put, List.setIfInBounds_toArray, List.set_cons_zero, List.set_cons_succ]; rfl)
          have d16 : lp.getD 16 false = true := hdep { on := 16, ground := .data } (by simp) rfl
          have e32 : a'.tmps[32]? = some (.int .i64 (i : Int)) := (hS.don 16 _ 32 rfl d16 rfl).trans (by simp only [putAll, Act.put, List.setIfInBounds_toArray, List.set_cons_zero, List.set_cons_succ]; rfl)
          have hK' := hK g9 w' (fun _ _ _ _ _ _ => rfl) (hR.quiet (i := 17) (by decide) (by decide) hft hfl) (.int .i64 (p : Int)) (by simp only [valO, Option.bind_some]; simp only [putAll, Act.put, List.setIfInBounds_toArray, List.set_cons_zero, List.set_cons_succ]; rfl)
          clear hS hdep hR
          refine gh_quiet5 (v := .int .i64 (p : Int)) ?_ ?_
          · (simp only [execOp, Act.eval, e31, e32]; go_simp; first | done | (simp; done) | (simp [*]; done) | omega | (simp; omega))
          · exact hK'
        | 18, ho, hun, hdep, hK, hfl, hft, _ =>
          obtain rfl := Option.some.inj ho
          have d14 : lp.getD 14 false = true := hdep { on := 14, ground := .data } (by simp) rfl
          have e30 : a'.tmps[30]? = some (.slice (some ⟨g, 0, none⟩) n c) := (hS.don 14 _ 30 rfl d14 rfl).trans (by simp only [putAll, Act.put, List.setIfInBounds_toArray, List.set_cons_zero, List.set_cons_succ]; rfl)
          have d17 : lp.getD 17 false = true := hdep { on := 17, ground := .data } (by simp) rfl
          have e33 : a'.tmps[33]? = some (.int .i64 (p : Int)) := (hS.don 17 _ 33 rfl d17 rfl).trans (by simp only [putAll, Act.put, List.setIfInBounds_toArray, List.set_cons_zero, List.set_cons_succ]; rfl)
          have hK' := hK g9 w' (fun _ _ _ _ _ _ => rfl) (hR.quiet (i := 18) (by decide) (by decide) hft hfl) (.pointer (some ⟨g, p * 4, none⟩)) (by simp only [valO, Option.bind_some]; simp only [putAll, Act.put, List.setIfInBounds_toArray, List.set_cons_zero, List.set_cons_succ]; rfl)
          clear hS hdep hR
          refine gh_quiet5 (v := .pointer (some ⟨g, p * 4, none⟩)) ?_ ?_
          · (simp only [execOp, Act.eval, e30, e33]; go_simp; first | done | (simp; done) | (simp [*]; done) | omega | (simp; omega))
          · exact hK'
        | 19, ho, hun, hdep, hK, hfl, hft, _ =>
          obtain rfl := Option.some.inj ho
          have d18 : lp.getD 18 false = true := hdep { on := 18, ground := .data } (by simp) rfl
          have e34 : a'.tmps[34]? = some (.pointer (some ⟨g, p * 4, none⟩)) := (hS.don 18 _ 34 rfl d18 rfl).trans (by simp only [putAll, Act.put, List.setIfInBounds_toArray, List.set_cons_zero, List.set_cons_succ]; rfl)
          have hB := hR.loadn hun
          have u0 := (hB.1.cells Hpx.out).1
          have u1 := (hB.1.cells Hpx.out).2.1
          have u2 := (hB.1.cells Hpx.out).2.2.1
          have u3 := (hB.1.cells Hpx.out).2.2.2
          clear hB
          have hK' := hK g9 w' (fun _ _ _ _ _ _ => rfl) (hR.quiet (i := 19) (by decide) (by decide) hft hfl) (.agg #[.int .u64 (hI rx.1.1), .int .u64 (lI rx.1.1), .int .i64 rx.1.2, .int .i64 rx.2]) (by simp only [valO, Option.bind_some]; simp only [putAll, Act.put, List.setIfInBounds_toArray, List.set_cons_zero, List.set_cons_succ]; rfl)
          clear hS hdep hR
          refine gh_quiet5 (v := .agg #[.int .u64 (hI rx.1.1), .int .u64 (lI rx.1.1), .int .i64 rx.1.2, .int .i64 rx.2]) ?_ ?_
          · (simp only [execOp, Act.eval, e34]; go_simp; first | done | (simp; done) | (simp [*]; done) | omega | (simp; omega))
          · exact hK'
        | 20, ho, hun, hdep, hK, hfl, hft, _ =>
          obtain rfl := Option.some.inj ho
          have d0 : lp.getD 0 false = true := hdep { on := 0, ground := .data } (by simp) rfl
          have e16 : a'.tmps[16]? = some (.slice (some ⟨g, 0, none⟩) n c) := (hS.don 0 _ 16 rfl d0 rfl).trans (by simp only [putAll, Act.put, List.setIfInBounds_toArray, List.set_cons_zero, List.set_cons_succ]; rfl)
          have d3 : lp.getD 3 false = true := hdep { on := 3, ground := .data } (by simp) rfl
          have e19 : a'.tmps[19]? = some (.int .i64 (p : Int)) := (hS.don 3 _ 19 rfl d3 rfl).trans (by simp only [putAll, Act.put, List.setIfInBounds_toArray, List.set_cons_zero, List.set_cons_succ]; rfl)
          have hK' := hK g9 w' (fun _ _ _ _ _ _ => rfl) (hR.quiet (i := 20) (by decide) (by decide) hft hfl) (.pointer (some ⟨g, p * 4, none⟩)) (by simp only [valO, Option.bind_some]; simp only [putAll, Act.put, List.setIfInBounds_toArray, List.set_cons_zero, List.set_cons_succ]; rfl)
          clear hS hdep hR
          refine gh_quiet5 (v := .pointer (some ⟨g, p * 4, none⟩)) ?_ ?_
          · (simp only [execOp, Act.eval, e16, e19]; go_simp; first | done | (simp; done) | (simp [*]; done) | omega | (simp; omega))
          · exact hK'
        | 21, ho, hun, hdep, hK, hfl, hft, _ =>
          obtain rfl := Option.some.inj ho
          have d20 : lp.getD 20 false = true := hdep { on := 20, ground := .data } (by simp) rfl
          have e36 : a'.tmps[36]? = some (.pointer (some ⟨g, p * 4, none⟩)) := (hS.don 20 _ 36 rfl d20 rfl).trans (by simp only [putAll, Act.put, List.setIfInBounds_toArray, List.set_cons_zero, List.set_cons_succ]; rfl)
          have d13 : lp.getD 13 false = true := hdep { on := 13, ground := .data } (by simp) rfl
          have e29 : a'.tmps[29]? = some (.agg #[.int .u64 (hI ry.1.1), .int .u64 (lI ry.1.1), .int .i64 ry.1.2, .int .i64 ry.2]) := (hS.don 13 _ 29 rfl d13 rfl).trans (by simp only [putAll, Act.put, List.setIfInBounds_toArray, List.set_cons_zero, List.set_cons_succ]; rfl)
          have d19 : lp.getD 19 false = true := hdep { on := 19, ground := .phase } (by simp) rfl
          have hB := hR.bef hun
          have u0 := (hB.1.cells Hpx.out).1
          have u1 := (hB.1.cells Hpx.out).2.1
          have u2 := (hB.1.cells Hpx.out).2.2.1
          have u3 := (hB.1.cells Hpx.out).2.2.2
          have u4 := hB.1.free (j := p * 4) (by omega)
          have u5 := hB.1.free (j := p * 4 + 1) (by omega)
          have u6 := hB.1.free (j := p * 4 + 2) (by omega)
          have u7 := hB.1.free (j := p * 4 + 3) (by omega)
          have hK' := hK g9 _ (fun _ _ _ _ _ _ => rfl) (hR.st1 (by decide) (by decide) (by decide) (⟨hB.1.set hpn ry, Bo.set (Bo.set (Bo.set (Bo.set hB.2 _ _) _ _) _ _) _ _⟩) d13 d19 hun hft hfl) undef rfl
          clear hS hdep hR hB
          unfold Oper.wp
          simp [execOp, Act.eval, e36, e29, go_sem, Oper.upon, u0, u1, u2, u3, u4, u5, u6, u7, *]
          exact hK'
        | 22, ho, hun, hdep, hK, hfl, hft, _ =>
          obtain rfl := Option.some.inj ho
          have d4 : lp.getD 4 false = true := hdep { on := 4, ground := .data } (by simp) rfl
          have e20 : a'.tmps[20]? = some (.slice (some ⟨g, 0, none⟩) n c) := (hS.don 4 _ 20 rfl d4 rfl).trans (by simp only [putAll, Act.put, List.setIfInBounds_toArray, List.set_cons_zero, List.set_cons_succ]; rfl)
          have d7 : lp.getD 7 false = true := hdep { on := 7, ground := .data } (by simp) rfl
          have e23 : a'.tmps[23]? = some (.int .i64 (qq : Int)) := (hS.don 7 _ 23 rfl d7 rfl).trans (by simp only [putAll, Act.put, List.setIfInBounds_toArray, List.set_cons_zero, List.set_cons_succ]; rfl)
          have hK' := hK g9 w' (fun _ _ _ _ _ _ => rfl) (hR.quiet (i := 22) (by decide) (by decide) hft hfl) (.pointer (some ⟨g, qq * 4, none⟩)) (by simp only [valO, Option.bind_some]; simp only [putAll, Act.put, List.setIfInBounds_toArray, List.set_cons_zero, List.set_cons_succ]; rfl)
          clear hS hdep hR
          refine gh_quiet5 (v := .pointer (some ⟨g, qq * 4, none⟩)) ?_ ?_
          · (simp only [execOp, Act.eval, e20, e23]; go_simp; first | done | (simp; done) | (simp [*]; done) | omega | (simp; omega))
          · exact hK'
        | 23, ho, hun, hdep, hK, hfl, hft, _ =>
          obtain rfl := Option.some.inj ho
          have d22 : lp.getD 22 false = true := hdep { on := 22, ground := .data } (by simp) rfl
          have e37 : a'.tmps[37]? = some (.pointer (some ⟨g, qq * 4, none⟩)) := (hS.don 22 _ 37 rfl d22 rfl).trans (by simp only [putAll, Act.put, List.setIfInBounds_toArray, List.set_cons_zero, List.set_cons_succ]; rfl)
          have d19 : lp.getD 19 false = true := hdep { on := 19, ground := .data } (by simp) rfl
          have e35 : a'.tmps[35]? = some (.agg #[.int .u64 (hI rx.1.1), .int .u64 (lI rx.1.1), .int .i64 rx.1.2, .int .i64 rx.2]) := (hS.don 19 _ 35 rfl d19 rfl).trans (by simp only [putAll, Act.put, List.setIfInBounds_toArray, List.set_cons_zero, List.set_cons_succ]; rfl)
          have d21 : lp.getD 21 false = true := hdep { on := 21, ground := .chain } (by simp) rfl
          have hB := hR.mid d21 hun
          have u0 := (hB.1.cells Hqm.out).1
          have u1 := (hB.1.cells Hqm.out).2.1
          have u2 := (hB.1.cells Hqm.out).2.2.1
          have u3 := (hB.1.cells Hqm.out).2.2.2
          have u4 := hB.1.free (j := qq * 4) (by omega)
          have u5 := hB.1.free (j := qq * 4 + 1) (by omega)
          have u6 := hB.1.free (j := qq * 4 + 2) (by omega)
          have u7 := hB.1.free (j := qq * 4 + 3) (by omega)
          have hK' := hK g9 _ (fun _ _ _ _ _ _ => rfl) (hR.st2 (by decide) (by decide) (by decide) (⟨hB.1.set hqn rx, Bo.set (Bo.set (Bo.set (Bo.set hB.2 _ _) _ _) _ _) _ _⟩) d21 hun hft hfl) undef rfl
          clear hS hdep hR hB
          unfold Oper.wp
          simp [execOp, Act.eval, e37, e35, go_sem, Oper.upon, u0, u1, u2, u3, u4, u5, u6, u7, *]
          exact hK'
        | m9 + 24, ho, hun, hdep, hK, hfl, hft, hq => exact absurd hq (by omega)
      case fin =>
        intro g9 W hR
        have hN := hR.aft (by simp)
        simp only [putAll, Act.put, List.setIfInBounds_toArray, List.set_cons_zero, List.set_cons_succ]
        clear hR
        have HN := hidR hN
        clear hN HC0
        refine wl_nil5 (P := Try.prog) (ops := #[]) ?_
        go_wp2
        go_roundw
        case rel => exact ⟨i + 1, by omega, by first | rfl | (push_cast; rfl) | simp, hidR (by rw [swN_succ Hpx.out Hqy.out Hpi.out Hqi.out]; exact HN.out.1), hidR HN.out.2⟩
        case measure => simp [intOf]; omega
    · obtain rfl : i = k := by omega
      clear hik
      have hik : ¬ (i : Int) < (i : Int) := by omega
      go_wp2
      exact bodyPost_end (v := .tuple #[]) (by simp [results, Try.results88, go_sem]) rfl ⟨rfl, HR.out, HB.out⟩
end Go.Proofs.Ytohnhpicjedfeaa
