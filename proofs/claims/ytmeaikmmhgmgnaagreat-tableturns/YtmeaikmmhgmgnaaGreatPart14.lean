/-
  Part 14 of the proof: 3 texts, one behind the other.
-/
import Derived.Test.YtmeaikmmhgmgnaaGreatPart12
import Derived.Test.YtmeaikmmhgmgnaaGreatPart13
namespace Go.Proofs.YtmeaikmmhgmgnaaGreat
open Go.RowKit
set_option linter.unusedSimpArgs false
set_option linter.unusedVariables false

structure R4 (m n p q : Nat) (B M A : World → Prop) (f : Nat → Bool) (W : World) : Prop where
  bef : f p = false → B W
  mid : f p = true → f q = false → M W
  aft : f q = true → A W
  w1 : f p = true → f m = true ∧ f n = true
  w2 : f q = true → f p = true
section
variable {m n p q : Nat} {B M A : World → Prop} {f f' : Nat → Bool} {W W' : World}
theorem R4.start (h : B W) (hf : ∀ j, f j = false) : R4 m n p q B M A f W := ⟨fun _ => h, fun q => (by rw [hf] at q; cases q), fun q => (by rw [hf] at q; cases q), fun q => (by rw [hf] at q; cases q), fun q => (by rw [hf] at q; cases q)⟩
theorem R4.loadm (k : R4 m n p q B M A f W) (h : f m = false) : B W := k.bef (by
  cases e : f p with
  | false => rfl
  | true => have := (k.w1 e).1; rw [h] at this; cases this)
theorem R4.loadn (k : R4 m n p q B M A f W) (h : f n = false) : B W := k.bef (by
  cases e : f p with
  | false => rfl
  | true => have := (k.w1 e).2; rw [h] at this; cases this)
theorem R4.quiet {i : Nat} (k : R4 m n p q B M A f W) (h1 : i ≠ p) (h2 : i ≠ q) (hs : f' i = true) (ho : ∀ j, j ≠ i → f' j = f j) : R4 m n p q B M A f' W := by
  have e15 := ho p (Ne.symm h1)
  have e17 := ho q (Ne.symm h2)
  have up : ∀ j, f j = true → f' j = true := fun j h => by
    by_cases e : j = i
    · rw [e]; exact hs
    · rw [ho j e]; exact h
  exact ⟨fun z => k.bef (by rw [← e15]; exact z), fun z r => k.mid (by rw [← e15]; exact z) (by rw [← e17]; exact r), fun z => k.aft (by rw [← e17]; exact z), fun z => by have := k.w1 (by rw [← e15]; exact z); exact ⟨up m this.1, up n this.2⟩, fun z => by rw [e15]; exact k.w2 (by rw [← e17]; exact z)⟩
theorem R4.st1 (k : R4 m n p q B M A f W) (c1 : m ≠ p) (c2 : n ≠ p) (c3 : q ≠ p) (h : M W') (h9 : f m = true) (h13 : f n = true) (hun : f p = false) (hs : f' p = true) (ho : ∀ j, j ≠ p → f' j = f j) : R4 m n p q B M A f' W' := by
  have e17 : f' q = false := by
    rw [ho q c3]
    cases e : f q with
    | false => rfl
    | true => have := k.w2 e; rw [hun] at this; cases this
  exact ⟨fun z => (by rw [hs] at z; cases z), fun _ _ => h, fun z => (by rw [e17] at z; cases z), fun _ => ⟨by rw [ho m c1]; exact h9, by rw [ho n c2]; exact h13⟩, fun z => (by rw [e17] at z; cases z)⟩
theorem R4.st2 (k : R4 m n p q B M A f W) (c1 : m ≠ q) (c2 : n ≠ q) (c3 : p ≠ q) (h : A W') (h15 : f p = true) (hun : f q = false) (hs : f' q = true) (ho : ∀ j, j ≠ q → f' j = f j) : R4 m n p q B M A f' W' := by
  have e15 : f' p = true := by rw [ho p c3]; exact h15
  exact ⟨fun z => (by rw [e15] at z; cases z), fun _ z => (by rw [hs] at z; cases z), fun _ => h, fun z => by have := k.w1 h15; exact ⟨by rw [ho m c1]; exact this.1, by rw [ho n c2]; exact this.2⟩, fun _ => e15⟩
end
end Go.Proofs.YtmeaikmmhgmgnaaGreat
namespace Go.Proofs.YtmeaikmmhgmgnaaGreat
open Go.RowKit
set_option linter.unusedSimpArgs false
set_option linter.unusedVariables false
attribute [local go_sem] Oper.semAt_some

def sw2 (L : List Rte) (p q : Nat) : List Rte := match L[p]?, L[q]? with
  | some x, some y => (L.set p y).set q x
  | _, _ => L
def swN (D : List Rte) (a b : Nat) : Nat → List Rte
  | 0 => D
  | i + 1 => sw2 (swN D a b i) (a + i) (b + i)
theorem sw2_len (L : List Rte) (p q : Nat) : (sw2 L p q).length = L.length := by unfold sw2; split <;> simp
theorem swN_len (D : List Rte) (a b : Nat) : ∀ i, (swN D a b i).length = D.length
  | 0 => rfl
  | i + 1 => by rw [swN, sw2_len, swN_len D a b i]
theorem swN_succ {D : List Rte} {a b i p q : Nat} {x y : Rte} (hx : (swN D a b i)[p]? = some x) (hy : (swN D a b i)[q]? = some y) (hp : p = a + i) (hq : q = b + i) : swN D a b (i + 1) = ((swN D a b i).set p y).set q x := by
  subst hp hq
  rw [swN, sw2, hx, hy]
set_option maxRecDepth 20000 in
set_option maxHeartbeats 16000000 in
theorem swapR_any (base g c n a b k : Nat) (D : List Rte) (w : World) (h : RwO w base g c n D) (hab : a + k ≤ b) (hbn : b + k ≤ n) (hn : n ≤ 1000000000) :
    Calls Tryz.prog 124 #[.slice (some ⟨g, 0, none⟩) n c, .int .i64 (a : Int), .int .i64 (b : Int), .int .i64 (k : Int), .func (.func 49) #[] #[]] w fun e w' => e = .returned (.tuple #[]) ∧ RwO w' base g c n (swN D a b k) ∧ Bo g w w' := by
  have hDl : D.length = n := h.1
  have H0 := hidR h
  clear h
  go_enter Tryz.func124, Tryz.ntmps124
  go_wp2_with fail
  go_loopw [10] (fun iv wr => ∃ i : Nat, i ≤ k ∧ iv = .int .i64 (i : Int) ∧ Hid (RwO wr base g c n (swN D a b i)) ∧ Hid (Bo g w wr)) (fun iv _ => k - (intOf iv).toNat)
  case atStart => exact ⟨0, Nat.zero_le _, rfl, H0, hidR (Bt.refl _ _)⟩
  case round =>
    clear H0
    obtain ⟨i, hi, rfl, HR, HB⟩ := hrel
    by_cases hik : (i : Int) < (k : Int)
    · have hll : (swN D a b i).length = n := by rw [swN_len, hDl]
      obtain ⟨p, hpi⟩ : ∃ p, p = a + i := ⟨_, rfl⟩
      obtain ⟨qq, hqi⟩ : ∃ qq, qq = b + i := ⟨_, rfl⟩
      have hpn : p < n := by omega
      have hqn : qq < n := by omega
      obtain ⟨rx, hrx⟩ : ∃ r, (swN D a b i)[p]? = some r := ⟨_, List.getElem?_eq_getElem (by rw [hll]; exact hpn)⟩
      obtain ⟨ry, hry⟩ : ∃ r, (swN D a b i)[qq]? = some r := ⟨_, List.getElem?_eq_getElem (by rw [hll]; exact hqn)⟩
      have Hpx := hidR hrx
      have Hqy := hidR hry
      have Hqm : Hid (((swN D a b i).set p ry)[qq]? = some ry) := hidR (by rw [List.getElem?_set_ne (by omega)]; exact hry)
      have wp1 : IntKind.i64.wrap ((a : Int) + (i : Int)) = (p : Int) := by rw [IntKind.wrap_i64]; omega
      have wq1 : IntKind.i64.wrap ((b : Int) + (i : Int)) = (qq : Int) := by rw [IntKind.wrap_i64]; omega
      have wi : IntKind.i64.wrap ((i : Int) + 1) = ((i + 1 : Nat) : Int) := by rw [IntKind.wrap_i64]; push_cast; omega
      have p0 : (0 : Int) ≤ (p : Int) := by omega
      have q0 : (0 : Int) ≤ (qq : Int) := by omega
      have p1 : (p : Int) < (n : Int) := by omega
      have q1 : (qq : Int) < (n : Int) := by omega
      have HC0 : Hid (RwO wr.drew base g c n (swN D a b i) ∧ Bo g w wr.drew) := hidR ⟨HR.out.below (below_drewN (Below.refl _ _) 1), HB.out.trans (Bt.ofB (below_drewN (Below.refl _ _) 1))⟩
      have Hpi := hidR hpi
      have Hqi := hidR hqi
      clear HR HB hrx hry hll hpi hqi
      go_wp2_with fail
      refine gh_region (γ := Unit) (qpOk 24 24 (by decide) (fun N => by kernel_rfl) (by kernel_rfl) (by kernel_rfl) (by kernel_rfl) (by kernel_rfl)) (by kernel_rfl) (by kernel_rfl) [some 16, some 17, some 18, some 19, some 20, some 21, some 22, some 23, some 24, some 25, some 26, some 27, some 28, some 29, some 30, some 31, some 32, some 33, some 34, some 35, some 36, none, some 37, none] (fun _ => [.slice (some ⟨g, 0, none⟩) n c, .int .i64 (a : Int), .int .i64 (i : Int), .int .i64 (p : Int), .slice (some ⟨g, 0, none⟩) n c, .int .i64 (b : Int), .int .i64 (i : Int), .int .i64 (qq : Int), .slice (some ⟨g, 0, none⟩) n c, .int .i64 (b : Int), .int .i64 (i : Int), .int .i64 (qq : Int), .pointer (some ⟨g, qq * 4, none⟩), .agg #[.int .u64 (hI ry.1.1), .int .u64 (lI ry.1.1), .int .i64 ry.1.2, .int .i64 ry.2], .slice (some ⟨g, 0, none⟩) n c, .int .i64 (a : Int), .int .i64 (i : Int), .int .i64 (p : Int), .pointer (some ⟨g, p * 4, none⟩), .agg #[.int .u64 (hI rx.1.1), .int .u64 (lI rx.1.1), .int .i64 rx.1.2, .int .i64 rx.2], .pointer (some ⟨g, p * 4, none⟩), undef, .pointer (some ⟨g, qq * 4, none⟩), undef]) (by kernel_rfl) (by simp) (fun lp _ W => R4 13 19 21 23 (fun X => RwO X base g c n (swN D a b i) ∧ Bo g w X) (fun X => RwO X base g c n ((swN D a b i).set p ry) ∧ Bo g w X) (fun X => RwO X base g c n (((swN D a b i).set p ry).set qq rx) ∧ Bo g w X) (fun j => lp.getD j false) W) () (R4.start HC0.out (fun j => by simp [Array.getElem?_replicate]; split <;> rfl)) ?step ?fin
      case step =>
        intro q o lp g9 w' a' ho hsz hun hdep hR hS K Q' hK
        have hfl : ∀ j, j ≠ q → (lp.setIfInBounds q true).getD j false = lp.getD j false := fun j hj => by rw [Array.getD_eq_getD_getElem?, Array.getD_eq_getD_getElem?, Array.getElem?_setIfInBounds_ne (by omega)]
        have hq : q < 24 := (List.getElem?_eq_some_iff.mp ho).1
        have hft : (lp.setIfInBounds q true).getD q false = true := getD_set_same (by rw [hsz]; exact hq)
        match q, ho, hun, hdep, hK, hfl, hft, hq with
        | 0, ho, hun, hdep, hK, hfl, hft, _ =>
          obtain rfl := Option.some.inj ho
          have o0 : a'.tmps[0]? = some (.slice (some ⟨g, 0, none⟩) n c) := (hS.old5 0 (by simp)).trans rfl
          have hK' := hK g9 w' (fun _ _ _ _ _ _ => rfl) (hR.quiet (i := 0) (by decide) (by decide) hft hfl) (.slice (some ⟨g, 0, none⟩) n c) (by simp only [valO, Option.bind_some]; simp only [putAll, Act.put, List.setIfInBounds_toArray, List.set_cons_zero, List.set_cons_succ]; rfl)
          clear hS hdep hR
          refine gh_quiet5 (v := .slice (some ⟨g, 0, none⟩) n c) ?_ ?_
          · (simp only [execOp, Act.eval, o0]; go_simp; first | done | (simp; done) | (simp [*]; done) | omega | (simp; omega))
          · exact hK'
        | 1, ho, hun, hdep, hK, hfl, hft, _ =>
          obtain rfl := Option.some.inj ho
          have o1 : a'.tmps[1]? = some (.int .i64 (a : Int)) := (hS.old5 1 (by simp)).trans rfl
          have hK' := hK g9 w' (fun _ _ _ _ _ _ => rfl) (hR.quiet (i := 1) (by decide) (by decide) hft hfl) (.int .i64 (a : Int)) (by simp only [valO, Option.bind_some]; simp only [putAll, Act.put, List.setIfInBounds_toArray, List.set_cons_zero, List.set_cons_succ]; rfl)
          clear hS hdep hR
          refine gh_quiet5 (v := .int .i64 (a : Int)) ?_ ?_
          · (simp only [execOp, Act.eval, o1]; go_simp; first | done | (simp; done) | (simp [*]; done) | omega | (simp; omega))
          · exact hK'
        | 2, ho, hun, hdep, hK, hfl, hft, _ =>
          obtain rfl := Option.some.inj ho
          have o10 : a'.tmps[10]? = some (.int .i64 (i : Int)) := (hS.old5 10 (by simp)).trans rfl
          have hK' := hK g9 w' (fun _ _ _ _ _ _ => rfl) (hR.quiet (i := 2) (by decide) (by decide) hft hfl) (.int .i64 (i : Int)) (by simp only [valO, Option.bind_some]; simp only [putAll, Act.put, List.setIfInBounds_toArray, List.set_cons_zero, List.set_cons_succ]; rfl)
          clear hS hdep hR
          refine gh_quiet5 (v := .int .i64 (i : Int)) ?_ ?_
          · (simp only [execOp, Act.eval, o10]; go_simp; first | done | (simp; done) | (simp [*]; done) | omega | (simp; omega))
          · exact hK'
        | 3, ho, hun, hdep, hK, hfl, hft, _ =>
          obtain rfl := Option.some.inj ho
          have d1 : lp.getD 1 false = true := hdep { on := 1, ground := .data } (by simp) rfl
          have e17 : a'.tmps[17]? = some (.int .i64 (a : Int)) := (hS.don 1 _ 17 rfl d1 rfl).trans (by simp only [putAll, Act.put, List.setIfInBounds_toArray, List.set_cons_zero, List.set_cons_succ]; rfl)
          have d2 : lp.getD 2 false = true := hdep { on := 2, ground := .data } (by simp) rfl
          have e18 : a'.tmps[18]? = some (.int .i64 (i : Int)) := (hS.don 2 _ 18 rfl d2 rfl).trans (by simp only [putAll, Act.put, List.setIfInBounds_toArray, List.set_cons_zero, List.set_cons_succ]; rfl)
          have hK' := hK g9 w' (fun _ _ _ _ _ _ => rfl) (hR.quiet (i := 3) (by decide) (by decide) hft hfl) (.int .i64 (p : Int)) (by simp only [valO, Option.bind_some]; simp only [putAll, Act.put, List.setIfInBounds_toArray, List.set_cons_zero, List.set_cons_succ]; rfl)
          clear hS hdep hR
          refine gh_quiet5 (v := .int .i64 (p : Int)) ?_ ?_
          · (simp only [execOp, Act.eval, e17, e18]; go_simp; first | done | (simp; done) | (simp [*]; done) | omega | (simp; omega))
          · exact hK'
        | 4, ho, hun, hdep, hK, hfl, hft, _ =>
          obtain rfl := Option.some.inj ho
          have o0 : a'.tmps[0]? = some (.slice (some ⟨g, 0, none⟩) n c) := (hS.old5 0 (by simp)).trans rfl
          have hK' := hK g9 w' (fun _ _ _ _ _ _ => rfl) (hR.quiet (i := 4) (by decide) (by decide) hft hfl) (.slice (some ⟨g, 0, none⟩) n c) (by simp only [valO, Option.bind_some]; simp only [putAll, Act.put, List.setIfInBounds_toArray, List.set_cons_zero, List.set_cons_succ]; rfl)
          clear hS hdep hR
          refine gh_quiet5 (v := .slice (some ⟨g, 0, none⟩) n c) ?_ ?_
          · (simp only [execOp, Act.eval, o0]; go_simp; first | done | (simp; done) | (simp [*]; done) | omega | (simp; omega))
          · exact hK'
        | 5, ho, hun, hdep, hK, hfl, hft, _ =>
          obtain rfl := Option.some.inj ho
          have o2 : a'.tmps[2]? = some (.int .i64 (b : Int)) := (hS.old5 2 (by simp)).trans rfl
          have hK' := hK g9 w' (fun _ _ _ _ _ _ => rfl) (hR.quiet (i := 5) (by decide) (by decide) hft hfl) (.int .i64 (b : Int)) (by simp only [valO, Option.bind_some]; simp only [putAll, Act.put, List.setIfInBounds_toArray, List.set_cons_zero, List.set_cons_succ]; rfl)
          clear hS hdep hR
          refine gh_quiet5 (v := .int .i64 (b : Int)) ?_ ?_
          · (simp only [execOp, Act.eval, o2]; go_simp; first | done | (simp; done) | (simp [*]; done) | omega | (simp; omega))
          · exact hK'
        | 6, ho, hun, hdep, hK, hfl, hft, _ =>
          obtain rfl := Option.some.inj ho
          have o10 : a'.tmps[10]? = some (.int .i64 (i : Int)) := (hS.old5 10 (by simp)).trans rfl
          have hK' := hK g9 w' (fun _ _ _ _ _ _ => rfl) (hR.quiet (i := 6) (by decide) (by decide) hft hfl) (.int .i64 (i : Int)) (by simp only [valO, Option.bind_some]; simp only [putAll, Act.put, List.setIfInBounds_toArray, List.set_cons_zero, List.set_cons_succ]; rfl)
          clear hS hdep hR
          refine gh_quiet5 (v := .int .i64 (i : Int)) ?_ ?_
          · (simp only [execOp, Act.eval, o10]; go_simp; first | done | (simp; done) | (simp [*]; done) | omega | (simp; omega))
          · exact hK'
        | 7, ho, hun, hdep, hK, hfl, hft, _ =>
          obtain rfl := Option.some.inj ho
          have d5 : lp.getD 5 false = true := hdep { on := 5, ground := .data } (by simp) rfl
          have e21 : a'.tmps[21]? = some (.int .i64 (b : Int)) := (hS.don 5 _ 21 rfl d5 rfl).trans (by simp only [putAll, Act.put, List.setIfInBounds_toArray, List.set_cons_zero, List.set_cons_succ]; rfl)
          have d6 : lp.getD 6 false = true := hdep { on := 6, ground := .data } (by simp) rfl
          have e22 : a'.tmps[22]? = some (.int .i64 (i : Int)) := (hS.don 6 _ 22 rfl d6 rfl).trans (by simp only [putAll, Act.put, List.setIfInBounds_toArray, List.set_cons_zero, List.set_cons_succ]; rfl)
          have hK' := hK g9 w' (fun _ _ _ _ _ _ => rfl) (hR.quiet (i := 7) (by decide) (by decide) hft hfl) (.int .i64 (qq : Int)) (by simp only [valO, Option.bind_some]; simp only [putAll, Act.put, List.setIfInBounds_toArray, List.set_cons_zero, List.set_cons_succ]; rfl)
          clear hS hdep hR
          refine gh_quiet5 (v := .int .i64 (qq : Int)) ?_ ?_
          · (simp only [execOp, Act.eval, e21, e22]; go_simp; first | done | (simp; done) | (simp [*]; done) | omega | (simp; omega))
          · exact hK'
        | 8, ho, hun, hdep, hK, hfl, hft, _ =>
          obtain rfl := Option.some.inj ho
          have o0 : a'.tmps[0]? = some (.slice (some ⟨g, 0, none⟩) n c) := (hS.old5 0 (by simp)).trans rfl
          have hK' := hK g9 w' (fun _ _ _ _ _ _ => rfl) (hR.quiet (i := 8) (by decide) (by decide) hft hfl) (.slice (some ⟨g, 0, none⟩) n c) (by simp only [valO, Option.bind_some]; simp only [putAll, Act.put, List.setIfInBounds_toArray, List.set_cons_zero, List.set_cons_succ]; rfl)
          clear hS hdep hR
          refine gh_quiet5 (v := .slice (some ⟨g, 0, none⟩) n c) ?_ ?_
          · (simp only [execOp, Act.eval, o0]; go_simp; first | done | (simp; done) | (simp [*]; done) | omega | (simp; omega))
          · exact hK'
        | 9, ho, hun, hdep, hK, hfl, hft, _ =>
          obtain rfl := Option.some.inj ho
          have o2 : a'.tmps[2]? = some (.int .i64 (b : Int)) := (hS.old5 2 (by simp)).trans rfl
          have hK' := hK g9 w' (fun _ _ _ _ _ _ => rfl) (hR.quiet (i := 9) (by decide) (by decide) hft hfl) (.int .i64 (b : Int)) (by simp only [valO, Option.bind_some]; simp only [putAll, Act.put, List.setIfInBounds_toArray, List.set_cons_zero, List.set_cons_succ]; rfl)
          clear hS hdep hR
          refine gh_quiet5 (v := .int .i64 (b : Int)) ?_ ?_
          · (simp only [execOp, Act.eval, o2]; go_simp; first | done | (simp; done) | (simp [*]; done) | omega | (simp; omega))
          · exact hK'
        | 10, ho, hun, hdep, hK, hfl, hft, _ =>
          obtain rfl := Option.some.inj ho
          have o10 : a'.tmps[10]? = some (.int .i64 (i : Int)) := (hS.old5 10 (by simp)).trans rfl
          have hK' := hK g9 w' (fun _ _ _ _ _ _ => rfl) (hR.quiet (i := 10) (by decide) (by decide) hft hfl) (.int .i64 (i : Int)) (by simp only [valO, Option.bind_some]; simp only [putAll, Act.put, List.setIfInBounds_toArray, List.set_cons_zero, List.set_cons_succ]; rfl)
          clear hS hdep hR
          refine gh_quiet5 (v := .int .i64 (i : Int)) ?_ ?_
          · (simp only [execOp, Act.eval, o10]; go_simp; first | done | (simp; done) | (simp [*]; done) | omega | (simp; omega))
          · exact hK'
        | 11, ho, hun, hdep, hK, hfl, hft, _ =>
          obtain rfl := Option.some.inj ho
          have d9 : lp.getD 9 false = true := hdep { on := 9, ground := .data } (by simp) rfl
          have e25 : a'.tmps[25]? = some (.int .i64 (b : Int)) := (hS.don 9 _ 25 rfl d9 rfl).trans (by simp only [putAll, Act.put, List.setIfInBounds_toArray, List.set_cons_zero, List.set_cons_succ]; rfl)
          have d10 : lp.getD 10 false = true := hdep { on := 10, ground := .data } (by simp) rfl
          have e26 : a'.tmps[26]? = some (.int .i64 (i : Int)) := (hS.don 10 _ 26 rfl d10 rfl).trans (by simp only [putAll, Act.put, List.setIfInBounds_toArray, List.set_cons_zero, List.set_cons_succ]; rfl)
          have hK' := hK g9 w' (fun _ _ _ _ _ _ => rfl) (hR.quiet (i := 11) (by decide) (by decide) hft hfl) (.int .i64 (qq : Int)) (by simp only [valO, Option.bind_some]; simp only [putAll, Act.put, List.setIfInBounds_toArray, List.set_cons_zero, List.set_cons_succ]; rfl)
          clear hS hdep hR
          refine gh_quiet5 (v := .int .i64 (qq : Int)) ?_ ?_
          · (simp only [execOp, Act.eval, e25, e26]; go_simp; first | done | (simp; done) | (simp [*]; done) | omega | (simp; omega))
          · exact hK'
        | 12, ho, hun, hdep, hK, hfl, hft, _ =>
          obtain rfl := Option.some.inj ho
          have d8 : lp.getD 8 false = true := hdep { on := 8, ground := .data } (by simp) rfl
          have e24 : a'.tmps[24]? = some (.slice (some ⟨g, 0, none⟩) n c) := (hS.don 8 _ 24 rfl d8 rfl).trans (by simp only [putAll, Act.put, List.setIfInBounds_toArray, List.set_cons_zero, List.set_cons_succ]; rfl)
          have d11 : lp.getD 11 false = true := hdep { on := 11, ground := .data } (by simp) rfl
          have e27 : a'.tmps[27]? = some (.int .i64 (qq : Int)) := (hS.don 11 _ 27 rfl d11 rfl).trans (by simp only [putAll, Act.put, List.setIfInBounds_toArray, List.set_cons_zero, List.set_cons_succ]; rfl)
          have hK' := hK g9 w' (fun _ _ _ _ _ _ => rfl) (hR.quiet (i := 12) (by decide) (by decide) hft hfl) (.pointer (some ⟨g, qq * 4, none⟩)) (by simp only [valO, Option.bind_some]; simp only [putAll, Act.put, List.setIfInBounds_toArray, List.set_cons_zero, List.set_cons_succ]; rfl)
          clear hS hdep hR
          refine gh_quiet5 (v := .pointer (some ⟨g, qq * 4, none⟩)) ?_ ?_
          · (simp only [execOp, Act.eval, e24, e27]; go_simp; first | done | (simp; done) | (simp [*]; done) | omega | (simp; omega))
          · exact hK'
        | 13, ho, hun, hdep, hK, hfl, hft, _ =>
          obtain rfl := Option.some.inj ho
          have d12 : lp.getD 12 false = true := hdep { on := 12, ground := .data } (by simp) rfl
          have e28 : a'.tmps[28]? = some (.pointer (some ⟨g, qq * 4, none⟩)) := (hS.don 12 _ 28 rfl d12 rfl).trans (by simp only [putAll, Act.put, List.setIfInBounds_toArray, List.set_cons_zero, List.set_cons_succ]; rfl)
          have hB := hR.loadm hun
          have u0 := (hB.1.cells Hqy.out).1
          have u1 := (hB.1.cells Hqy.out).2.1
          have u2 := (hB.1.cells Hqy.out).2.2.1
          have u3 := (hB.1.cells Hqy.out).2.2.2
          clear hB
          have hK' := hK g9 w' (fun _ _ _ _ _ _ => rfl) (hR.quiet (i := 13) (by decide) (by decide) hft hfl) (.agg #[.int .u64 (hI ry.1.1), .int .u64 (lI ry.1.1), .int .i64 ry.1.2, .int .i64 ry.2]) (by simp only [valO, Option.bind_some]; simp only [putAll, Act.put, List.setIfInBounds_toArray, List.set_cons_zero, List.set_cons_succ]; rfl)
          clear hS hdep hR
          refine gh_quiet5 (v := .agg #[.int .u64 (hI ry.1.1), .int .u64 (lI ry.1.1), .int .i64 ry.1.2, .int .i64 ry.2]) ?_ ?_
          · (simp only [execOp, Act.eval, e28]; go_simp; first | done | (simp; done) | (simp [*]; done) | omega | (simp; omega))
          · exact hK'
        | 14, ho, hun, hdep, hK, hfl, hft, _ =>
          obtain rfl := Option.some.inj ho
          have o0 : a'.tmps[0]? = some (.slice (some ⟨g, 0, none⟩) n c) := (hS.old5 0 (by simp)).trans rfl
          have hK' := hK g9 w' (fun _ _ _ _ _ _ => rfl) (hR.quiet (i := 14) (by decide) (by decide) hft hfl) (.slice (some ⟨g, 0, none⟩) n c) (by simp only [valO, Option.bind_some]; simp only [putAll, Act.put, List.setIfInBounds_toArray, List.set_cons_zero, List.set_cons_succ]; rfl)
          clear hS hdep hR
          refine gh_quiet5 (v := .slice (some ⟨g, 0, none⟩) n c) ?_ ?_
          · (simp only [execOp, Act.eval, o0]; go_simp; first | done | (simp; done) | (simp [*]; done) | omega | (simp; omega))
          · exact hK'
        | 15, ho, hun, hdep, hK, hfl, hft, _ =>
          obtain rfl := Option.some.inj ho
          have o1 : a'.tmps[1]? = some (.int .i64 (a : Int)) := (hS.old5 1 (by simp)).trans rfl
          have hK' := hK g9 w' (fun _ _ _ _ _ _ => rfl) (hR.quiet (i := 15) (by decide) (by decide) hft hfl) (.int .i64 (a : Int)) (by simp only [valO, Option.bind_some]; simp only [putAll, Act.put, List.setIfInBounds_toArray, List.set_cons_zero, List.set_cons_succ]; rfl)
          clear hS hdep hR
          refine gh_quiet5 (v := .int .i64 (a : Int)) ?_ ?_
          · (simp only [execOp, Act.eval, o1]; go_simp; first | done | (simp; done) | (simp [*]; done) | omega | (simp; omega))
          · exact hK'
        | 16, ho, hun, hdep, hK, hfl, hft, _ =>
          obtain rfl := Option.some.inj ho
          have o10 : a'.tmps[10]? = some (.int .i64 (i : Int)) := (hS.old5 10 (by simp)).trans rfl
          have hK' := hK g9 w' (fun _ _ _ _ _ _ => rfl) (hR.quiet (i := 16) (by decide) (by decide) hft hfl) (.int .i64 (i : Int)) (by simp only [valO, Option.bind_some]; simp only [putAll, Act.put, List.setIfInBounds_toArray, List.set_cons_zero, List.set_cons_succ]; rfl)
          clear hS hdep hR
          refine gh_quiet5 (v := .int .i64 (i : Int)) ?_ ?_
          · (simp only [execOp, Act.eval, o10]; go_simp; first | done | (simp; done) | (simp [*]; done) | omega | (simp; omega))
          · exact hK'
        | 17, ho, hun, hdep, hK, hfl, hft, _ =>
          obtain rfl := Option.some.inj ho
          have d15 : lp.getD 15 false = true := hdep { on := 15, ground := .data } (by simp) rfl
          have e31 : a'.tmps[31]? = some (.int .i64 (a : Int)) := (hS.don 15 _ 31 rfl d15 rfl).trans (by simp only [putAll, Act.put, List.setIfInBounds_toArray, List.set_cons_zero, List.set_cons_succ]; rfl)
          have d16 : lp.getD 16 false = true := hdep { on := 16, ground := .data } (by simp) rfl
          have e32 : a'.tmps[32]? = some (.int .i64 (i : Int)) := (hS.don 16 _ 32 rfl d16 rfl).trans (by simp only [putAll, Act.put, List.setIfInBounds_toArray, List.set_cons_zero, List.set_cons_succ]; rfl)
          have hK' := hK g9 w' (fun _ _ _ _ _ _ => rfl) (hR.quiet (i := 17) (by decide) (by decide) hft hfl) (.int .i64 (p : Int)) (by simp only [valO, Option.bind_some]; simp only [putAll, Act.put, List.setIfInBounds_toArray, List.set_cons_zero, List.set_cons_succ]; rfl)
          clear hS hdep hR
          refine gh_quiet5 (v := .int .i64 (p : Int)) ?_ ?_
          · (simp only [execOp, Act.eval, e31, e32]; go_simp; first | done | (simp; done) | (simp [*]; done) | omega | (simp; omega))
          · exact hK'
        | 18, ho, hun, hdep, hK, hfl, hft, _ =>
          obtain rfl := Option.some.inj ho
          have d14 : lp.getD 14 false = true := hdep { on := 14, ground := .data } (by simp) rfl
          have e30 : a'.tmps[30]? = some (.slice (some ⟨g, 0, none⟩) n c) := (hS.don 14 _ 30 rfl d14 rfl).trans (by simp only [putAll, Act.put, List.setIfInBounds_toArray, List.set_cons_zero, List.set_cons_succ]; rfl)
          have d17 : lp.getD 17 false = true := hdep { on := 17, ground := .data } (by simp) rfl
          have e33 : a'.tmps[33]? = some (.int .i64 (p : Int)) := (hS.don 17 _ 33 rfl d17 rfl).trans (by simp only [putAll, Act.put, List.setIfInBounds_toArray, List.set_cons_zero, List.set_cons_succ]; rfl)
          have hK' := hK g9 w' (fun _ _ _ _ _ _ => rfl) (hR.quiet (i := 18) (by decide) (by decide) hft hfl) (.pointer (some ⟨g, p * 4, none⟩)) (by simp only [valO, Option.bind_some]; simp only [putAll, Act.put, List.setIfInBounds_toArray, List.set_cons_zero, List.set_cons_succ]; rfl)
          clear hS hdep hR
          refine gh_quiet5 (v := .pointer (some ⟨g, p * 4, none⟩)) ?_ ?_
          · (simp only [execOp, Act.eval, e30, e33]; go_simp; first | done | (simp; done) | (simp [*]; done) | omega | (simp; omega))
          · exact hK'
        | 19, ho, hun, hdep, hK, hfl, hft, _ =>
          obtain rfl := Option.some.inj ho
          have d18 : lp.getD 18 false = true := hdep { on := 18, ground := .data } (by simp) rfl
          have e34 : a'.tmps[34]? = some (.pointer (some ⟨g, p * 4, none⟩)) := (hS.don 18 _ 34 rfl d18 rfl).trans (by simp only [putAll, Act.put, List.setIfInBounds_toArray, List.set_cons_zero, List.set_cons_succ]; rfl)
          have hB := hR.loadn hun
          have u0 := (hB.1.cells Hpx.out).1
          have u1 := (hB.1.cells Hpx.out).2.1
          have u2 := (hB.1.cells Hpx.out).2.2.1
          have u3 := (hB.1.cells Hpx.out).2.2.2
          clear hB
          have hK' := hK g9 w' (fun _ _ _ _ _ _ => rfl) (hR.quiet (i := 19) (by decide) (by decide) hft hfl) (.agg #[.int .u64 (hI rx.1.1), .int .u64 (lI rx.1.1), .int .i64 rx.1.2, .int .i64 rx.2]) (by simp only [valO, Option.bind_some]; simp only [putAll, Act.put, List.setIfInBounds_toArray, List.set_cons_zero, List.set_cons_succ]; rfl)
          clear hS hdep hR
          refine gh_quiet5 (v := .agg #[.int .u64 (hI rx.1.1), .int .u64 (lI rx.1.1), .int .i64 rx.1.2, .int .i64 rx.2]) ?_ ?_
          · (simp only [execOp, Act.eval, e34]; go_simp; first | done | (simp; done) | (simp [*]; done) | omega | (simp; omega))
          · exact hK'
        | 20, ho, hun, hdep, hK, hfl, hft, _ =>
          obtain rfl := Option.some.inj ho
          have d0 : lp.getD 0 false = true := hdep { on := 0, ground := .data } (by simp) rfl
          have e16 : a'.tmps[16]? = some (.slice (some ⟨g, 0, none⟩) n c) := (hS.don 0 _ 16 rfl d0 rfl).trans (by simp only [putAll, Act.put, List.setIfInBounds_toArray, List.set_cons_zero, List.set_cons_succ]; rfl)
          have d3 : lp.getD 3 false = true := hdep { on := 3, ground := .data } (by simp) rfl
          have e19 : a'.tmps[19]? = some (.int .i64 (p : Int)) := (hS.don 3 _ 19 rfl d3 rfl).trans (by simp only [putAll, Act.put, List.setIfInBounds_toArray, List.set_cons_zero, List.set_cons_succ]; rfl)
          have hK' := hK g9 w' (fun _ _ _ _ _ _ => rfl) (hR.quiet (i := 20) (by decide) (by decide) hft hfl) (.pointer (some ⟨g, p * 4, none⟩)) (by simp only [valO, Option.bind_some]; simp only [putAll, Act.put, List.setIfInBounds_toArray, List.set_cons_zero, List.set_cons_succ]; rfl)
          clear hS hdep hR
          refine gh_quiet5 (v := .pointer (some ⟨g, p * 4, none⟩)) ?_ ?_
          · (simp only [execOp, Act.eval, e16, e19]; go_simp; first | done | (simp; done) | (simp [*]; done) | omega | (simp; omega))
          · exact hK'
        | 21, ho, hun, hdep, hK, hfl, hft, _ =>
          obtain rfl := Option.some.inj ho
          have d20 : lp.getD 20 false = true := hdep { on := 20, ground := .data } (by simp) rfl
          have e36 : a'.tmps[36]? = some (.pointer (some ⟨g, p * 4, none⟩)) := (hS.don 20 _ 36 rfl d20 rfl).trans (by simp only [putAll, Act.put, List.setIfInBounds_toArray, List.set_cons_zero, List.set_cons_succ]; rfl)
          have d13 : lp.getD 13 false = true := hdep { on := 13, ground := .data } (by simp) rfl
          have e29 : a'.tmps[29]? = some (.agg #[.int .u64 (hI ry.1.1), .int .u64 (lI ry.1.1), .int .i64 ry.1.2, .int .i64 ry.2]) := (hS.don 13 _ 29 rfl d13 rfl).trans (by simp only [putAll, Act.put, List.setIfInBounds_toArray, List.set_cons_zero, List.set_cons_succ]; rfl)
          have d19 : lp.getD 19 false = true := hdep { on := 19, ground := .phase } (by simp) rfl
          have hB := hR.bef hun
          have u0 := (hB.1.cells Hpx.out).1
          have u1 := (hB.1.cells Hpx.out).2.1
          have u2 := (hB.1.cells Hpx.out).2.2.1
          have u3 := (hB.1.cells Hpx.out).2.2.2
          have u4 := hB.1.free (j := p * 4) (by omega)
          have u5 := hB.1.free (j := p * 4 + 1) (by omega)
          have u6 := hB.1.free (j := p * 4 + 2) (by omega)
          have u7 := hB.1.free (j := p * 4 + 3) (by omega)
          have hK' := hK g9 _ (fun _ _ _ _ _ _ => rfl) (hR.st1 (by decide) (by decide) (by decide) (⟨hB.1.set hpn ry, Bo.set (Bo.set (Bo.set (Bo.set hB.2 _ _) _ _) _ _) _ _⟩) d13 d19 hun hft hfl) undef rfl
          clear hS hdep hR hB
          unfold Oper.wp
          simp [execOp, Act.eval, e36, e29, go_sem, Oper.upon, u0, u1, u2, u3, u4, u5, u6, u7, *]
          exact hK'
        | 22, ho, hun, hdep, hK, hfl, hft, _ =>
          obtain rfl := Option.some.inj ho
          have d4 : lp.getD 4 false = true := hdep { on := 4, ground := .data } (by simp) rfl
          have e20 : a'.tmps[20]? = some (.slice (some ⟨g, 0, none⟩) n c) := (hS.don 4 _ 20 rfl d4 rfl).trans (by simp only [putAll, Act.put, List.setIfInBounds_toArray, List.set_cons_zero, List.set_cons_succ]; rfl)
          have d7 : lp.getD 7 false = true := hdep { on := 7, ground := .data } (by simp) rfl
          have e23 : a'.tmps[23]? = some (.int .i64 (qq : Int)) := (hS.don 7 _ 23 rfl d7 rfl).trans (by simp only [putAll, Act.put, List.setIfInBounds_toArray, List.set_cons_zero, List.set_cons_succ]; rfl)
          have hK' := hK g9 w' (fun _ _ _ _ _ _ => rfl) (hR.quiet (i := 22) (by decide) (by decide) hft hfl) (.pointer (some ⟨g, qq * 4, none⟩)) (by simp only [valO, Option.bind_some]; simp only [putAll, Act.put, List.setIfInBounds_toArray, List.set_cons_zero, List.set_cons_succ]; rfl)
          clear hS hdep hR
          refine gh_quiet5 (v := .pointer (some ⟨g, qq * 4, none⟩)) ?_ ?_
          · (simp only [execOp, Act.eval, e20, e23]; go_simp; first | done | (simp; done) | (simp [*]; done) | omega | (simp; omega))
          · exact hK'
        | 23, ho, hun, hdep, hK, hfl, hft, _ =>
          obtain rfl := Option.some.inj ho
          have d22 : lp.getD 22 false = true := hdep { on := 22, ground := .data } (by simp) rfl
          have e37 : a'.tmps[37]? = some (.pointer (some ⟨g, qq * 4, none⟩)) := (hS.don 22 _ 37 rfl d22 rfl).trans (by simp only [putAll, Act.put, List.setIfInBounds_toArray, List.set_cons_zero, List.set_cons_succ]; rfl)
          have d19 : lp.getD 19 false = true := hdep { on := 19, ground := .data } (by simp) rfl
          have e35 : a'.tmps[35]? = some (.agg #[.int .u64 (hI rx.1.1), .int .u64 (lI rx.1.1), .int .i64 rx.1.2, .int .i64 rx.2]) := (hS.don 19 _ 35 rfl d19 rfl).trans (by simp only [putAll, Act.put, List.setIfInBounds_toArray, List.set_cons_zero, List.set_cons_succ]; rfl)
          have d21 : lp.getD 21 false = true := hdep { on := 21, ground := .chain } (by simp) rfl
          have hB := hR.mid d21 hun
          have u0 := (hB.1.cells Hqm.out).1
          have u1 := (hB.1.cells Hqm.out).2.1
          have u2 := (hB.1.cells Hqm.out).2.2.1
          have u3 := (hB.1.cells Hqm.out).2.2.2
          have u4 := hB.1.free (j := qq * 4) (by omega)
          have u5 := hB.1.free (j := qq * 4 + 1) (by omega)
          have u6 := hB.1.free (j := qq * 4 + 2) (by omega)
          have u7 := hB.1.free (j := qq * 4 + 3) (by omega)
          have hK' := hK g9 _ (fun _ _ _ _ _ _ => rfl) (hR.st2 (by decide) (by decide) (by decide) (⟨hB.1.set hqn rx, Bo.set (Bo.set (Bo.set (Bo.set hB.2 _ _) _ _) _ _) _ _⟩) d21 hun hft hfl) undef rfl
          clear hS hdep hR hB
          unfold Oper.wp
          simp [execOp, Act.eval, e37, e35, go_sem, Oper.upon, u0, u1, u2, u3, u4, u5, u6, u7, *]
          exact hK'
        | m9 + 24, ho, hun, hdep, hK, hfl, hft, hq => exact absurd hq (by omega)
      case fin =>
        intro g9 W hR
        have hN := hR.aft (by simp)
        simp only [putAll, Act.put, List.setIfInBounds_toArray, List.set_cons_zero, List.set_cons_succ]
        clear hR
        have HN := hidR hN
        clear hN HC0
        refine wl_nil5 (P := Tryz.prog) (ops := #[]) ?_
        go_wp2
        go_roundw
        case rel => exact ⟨i + 1, by omega, by first | rfl | (push_cast; rfl) | simp, hidR (by rw [swN_succ Hpx.out Hqy.out Hpi.out Hqi.out]; exact HN.out.1), hidR HN.out.2⟩
        case measure => simp [intOf]; omega
    · obtain rfl : i = k := by omega
      clear hik
      have hik : ¬ (i : Int) < (i : Int) := by omega
      go_wp2
      exact bodyPost_end (v := .tuple #[]) (by simp [results, Tryz.results124, go_sem]) rfl ⟨rfl, HR.out, HB.out⟩
end Go.Proofs.YtmeaikmmhgmgnaaGreat
namespace Go.Proofs.YtmeaikmmhgmgnaaGreat
open Go.RowKit
set_option linter.unusedSimpArgs false
set_option linter.unusedVariables false
attribute [local go_sem] Oper.semAt_some

theorem swN_get {D : List Rte} {a b : Nat} : ∀ (i : Nat), a + i ≤ b → b + i ≤ D.length → ∀ t, (swN D a b i)[t]? = if a ≤ t ∧ t < a + i then D[t + (b - a)]? else if b ≤ t ∧ t < b + i then D[t - (b - a)]? else D[t]?
  | 0, _, _, t => by rw [if_neg (by omega), if_neg (by omega)]; rfl
  | i + 1, h1, h2, t => by
    have ih := swN_get i (by omega) (by omega) (D := D) (a := a) (b := b)
    have hx : (swN D a b i)[a + i]? = some (D[a + i]'(by omega)) := by rw [ih, if_neg (by omega), if_neg (by omega)]; exact List.getElem?_eq_getElem _
    have hy : (swN D a b i)[b + i]? = some (D[b + i]'(by omega)) := by rw [ih, if_neg (by omega), if_neg (by omega)]; exact List.getElem?_eq_getElem _
    rw [swN_succ hx hy rfl rfl]
    have hl := swN_len D a b i
    by_cases c1 : t = b + i
    · subst c1
      rw [List.getElem?_set_self (by rw [List.length_set, hl]; omega), if_neg (by omega), if_pos (by omega), show b + i - (b - a) = a + i by omega]
      exact (List.getElem?_eq_getElem _).symm
    · rw [List.getElem?_set_ne (by omega)]
      by_cases c2 : t = a + i
      · subst c2
        rw [List.getElem?_set_self (by rw [hl]; omega), if_pos (by omega), show a + i + (b - a) = b + i by omega]
        exact (List.getElem?_eq_getElem _).symm
      · rw [List.getElem?_set_ne (by omega), ih]
        by_cases c3 : a ≤ t ∧ t < a + i
        · rw [if_pos c3, if_pos (by omega)]
        · rw [if_neg c3, if_neg (show ¬ (a ≤ t ∧ t < a + (i + 1)) by omega)]
          by_cases c4 : b ≤ t ∧ t < b + i
          · rw [if_pos c4, if_pos (show b ≤ t ∧ t < b + (i + 1) by omega)]
          · rw [if_neg c4, if_neg (show ¬ (b ≤ t ∧ t < b + (i + 1)) by omega)]
theorem swN_app (P U Q V R : List Rte) (h : U.length = V.length) : swN (P ++ (U ++ (Q ++ (V ++ R)))) P.length (P.length + U.length + Q.length) U.length = P ++ (V ++ (Q ++ (U ++ R))) := by
  apply List.ext_getElem?
  intro t
  rw [swN_get _ (by omega) (by simp; omega)]
  by_cases c1 : t < P.length
  · rw [if_neg (by omega), if_neg (by omega), List.getElem?_append_left c1, List.getElem?_append_left c1]
  · rw [List.getElem?_append_right (l₁ := P) (l₂ := V ++ (Q ++ (U ++ R))) (by omega)]
    by_cases c2 : t < P.length + U.length
    · rw [if_pos (by omega), List.getElem?_append_right (by omega), List.getElem?_append_right (by omega), List.getElem?_append_right (by omega), List.getElem?_append_left (by omega), List.getElem?_append_left (by omega)]
      congr 1; omega
    · rw [if_neg (by omega), List.getElem?_append_right (l₁ := V) (l₂ := Q ++ (U ++ R)) (by omega)]
      by_cases c3 : t < P.length + U.length + Q.length
      · rw [if_neg (by omega), List.getElem?_append_right (by omega), List.getElem?_append_right (by omega), List.getElem?_append_left (by omega), List.getElem?_append_left (by omega)]
        congr 1; omega
      · rw [List.getElem?_append_right (l₁ := Q) (l₂ := U ++ R) (by omega)]
        by_cases c4 : t < P.length + U.length + Q.length + U.length
        · rw [if_pos (by omega), List.getElem?_append_right (by omega), List.getElem?_append_left (by omega), List.getElem?_append_left (by omega)]
          congr 1; omega
        · rw [if_neg (by omega), List.getElem?_append_right (by omega), List.getElem?_append_right (by omega), List.getElem?_append_right (by omega), List.getElem?_append_right (by omega), List.getElem?_append_right (by omega)]
          congr 1; omega
set_option maxRecDepth 20000 in
set_option maxHeartbeats 16000000 in
theorem rotate_any (base g c n a m b : Nat) (P X Y R : List Rte) (w : World) (h : RwO w base g c n (P ++ (X ++ (Y ++ R)))) (ha : P.length = a) (hm : a + X.length = m) (hb : m + Y.length = b) (hX : 0 < X.length) (hY : 0 < Y.length) (hn : n ≤ 1000000000) :
    Calls Tryz.prog 111 #[.slice (some ⟨g, 0, none⟩) n c, .int .i64 (a : Int), .int .i64 (m : Int), .int .i64 (b : Int), .func (.func 49) #[] #[]] w fun e w' => e = .returned (.tuple #[]) ∧ RwO w' base g c n (P ++ (Y ++ (X ++ R))) ∧ Bo g w w' := by
  have hl := h.1
  simp only [List.length_append] at hl
  have wi : IntKind.i64.wrap ((m : Int) - (a : Int)) = (X.length : Int) := by rw [IntKind.wrap_i64]; omega
  have wj : IntKind.i64.wrap ((b : Int) - (m : Int)) = (Y.length : Int) := by rw [IntKind.wrap_i64]; omega
  have H0 := hidR h
  obtain ⟨xl, hxl⟩ : ∃ xl, xl = X.length := ⟨_, rfl⟩
  obtain ⟨yl, hyl⟩ : ∃ yl, yl = Y.length := ⟨_, rfl⟩
  rw [← hxl] at wi hm hX
  rw [← hyl] at wj hb hY
  have HL : Hid (xl = X.length ∧ yl = Y.length ∧ P.length = a) := hidR ⟨hxl, hyl, ha⟩
  have hbn : b ≤ n := by omega
  clear h hl hxl hyl ha
  go_enter Tryz.func111, Tryz.ntmps111
  go_wp2_with fail
  go_loopw [10, 11] (fun iv jv wr => ∃ (i j : Nat) (P' U V R' : List Rte), iv = .int .i64 (i : Int) ∧ jv = .int .i64 (j : Int) ∧ 0 < i ∧ 0 < j ∧ i ≤ m ∧ m + j ≤ n ∧ Hid (U.length = i ∧ V.length = j ∧ P'.length + i = m) ∧ Hid (P' ++ (V ++ (U ++ R')) = P ++ (Y ++ (X ++ R))) ∧ Hid (RwO wr base g c n (P' ++ (U ++ (V ++ R')))) ∧ Hid (Bo g w wr)) (fun iv jv _ => (intOf iv).toNat + (intOf jv).toNat)
  case atStart => exact ⟨xl, yl, P, X, Y, R, rfl, rfl, hX, hY, by omega, by omega, hidR ⟨HL.out.1.symm, HL.out.2.1.symm, by have := HL.out.2.2; omega⟩, hidR rfl, H0, hidR (Bt.refl _ _)⟩
  case round =>
    clear H0 HL wi wj
    obtain ⟨i, j, P', U, V, R', rfl, rfl, hi, hj, him, hjn, HLn, HT, HR, HB⟩ := hrel
    obtain ⟨ul, vl, pl⟩ := HLn.out
    obtain ⟨p, hp⟩ : ∃ p, p = P'.length := ⟨_, rfl⟩
    have w1 : IntKind.i64.wrap ((m : Int) - (i : Int)) = (p : Int) := by rw [IntKind.wrap_i64]; omega
    rcases Nat.lt_trichotomy j i with cc | cc | cc
    · have e : U = U.take j ++ U.drop j := (List.take_append_drop _ _).symm
      have l1 : (U.take j).length = j := by rw [List.length_take]; omega
      have l2 : (U.drop j).length = i - j := by rw [List.length_drop]; omega
      have hR := HR.out
      rw [e, List.append_assoc] at hR
      have hS := swN_app P' (U.take j) (U.drop j) V R' (by omega)
      rw [l1, l2, show P'.length + j + (i - j) = m by omega, ← hp] at hS
      have KS := swapR_any base g c n p m j _ wr hR (by omega) (by omega) hn
      rw [hS] at KS
      have HT2 : Hid ((P' ++ V) ++ (U.take j ++ (U.drop j ++ R')) = P ++ (Y ++ (X ++ R))) := hidR (by rw [← HT.out, ← List.append_assoc (U.take j) (U.drop j) R', List.take_append_drop, List.append_assoc])
      have HL2 : Hid ((U.drop j).length = i - j ∧ (U.take j).length = j ∧ (P' ++ V).length + (i - j) = m) := hidR ⟨l2, l1, by rw [List.length_append]; omega⟩
      have d1 : ((i : Int) != (j : Int)) = true := by simp; omega
      have d2 : (j : Int) < (i : Int) := by omega
      have w2 : IntKind.i64.wrap ((i : Int) - (j : Int)) = ((i - j : Nat) : Int) := by rw [IntKind.wrap_i64]; omega
      clear hR hS HR HT HLn e l1 l2 ul vl pl hp
      go_wp2_with fail
      refine KS.mono ?_
      rintro e w2 ⟨rfl, h1, h2⟩
      have HR2 : Hid (RwO w2 base g c n ((P' ++ V) ++ (U.drop j ++ (U.take j ++ R')))) := hidR (by rw [List.append_assoc]; exact h1)
      have HB2 := hidR (HB.out.trans h2)
      clear KS h1 h2 HB
      go_wp2
      go_roundw
      case rel => exact ⟨i - j, j, P' ++ V, U.drop j, U.take j, R', rfl, rfl, by omega, hj, by omega, hjn, HL2, HT2, HR2, HB2⟩
      case measure => simp [intOf]; omega
    · subst cc
      have hS := swN_app P' U [] V R' (by omega)
      rw [List.nil_append, List.nil_append, List.length_nil, Nat.add_zero, ul, show P'.length + j = m by omega, ← hp] at hS
      have KS := swapR_any base g c n p m j _ wr HR.out (by omega) (by omega) hn
      rw [hS, HT.out] at KS
      have d1 : ((j : Int) != (j : Int)) = false := by simp
      clear hS HR HT HLn ul vl pl hp
      go_wp2_with fail
      refine KS.mono ?_
      rintro e w2 ⟨rfl, h1, h2⟩
      have HR2 := hidR h1
      have HB2 := hidR (HB.out.trans h2)
      clear KS h1 h2 HB
      go_wp2
      exact bodyPost_end (v := .tuple #[]) (by simp [results, Tryz.results111, go_sem]) rfl ⟨rfl, HR2.out, HB2.out⟩
    · have e : V = V.take (j - i) ++ V.drop (j - i) := (List.take_append_drop _ _).symm
      have l1 : (V.take (j - i)).length = j - i := by rw [List.length_take]; omega
      have l2 : (V.drop (j - i)).length = i := by rw [List.length_drop]; omega
      have hR := HR.out
      rw [e, List.append_assoc] at hR
      have hS := swN_app P' U (V.take (j - i)) (V.drop (j - i)) R' (by omega)
      obtain ⟨q, hq⟩ : ∃ q, q = m + j - i := ⟨_, rfl⟩
      rw [ul, l1, show P'.length + i + (j - i) = q by omega, ← hp] at hS
      have KS := swapR_any base g c n p q i _ wr hR (by omega) (by omega) hn
      rw [hS] at KS
      have HT2 : Hid (P' ++ (V.take (j - i) ++ (V.drop (j - i) ++ (U ++ R'))) = P ++ (Y ++ (X ++ R))) := hidR (by rw [← HT.out, ← List.append_assoc (V.take (j - i)) (V.drop (j - i)), List.take_append_drop])
      have HL2 : Hid ((V.drop (j - i)).length = i ∧ (V.take (j - i)).length = j - i ∧ P'.length + i = m) := hidR ⟨l2, l1, pl⟩
      have d1 : ((i : Int) != (j : Int)) = true := by simp; omega
      have d2 : ¬ (j : Int) < (i : Int) := by omega
      have w3 : IntKind.i64.wrap ((m : Int) + (j : Int)) = (m : Int) + (j : Int) := by rw [IntKind.wrap_i64]; omega
      have w4 : IntKind.i64.wrap ((m : Int) + (j : Int) - (i : Int)) = (q : Int) := by rw [IntKind.wrap_i64]; omega
      have w2 : IntKind.i64.wrap ((j : Int) - (i : Int)) = ((j - i : Nat) : Int) := by rw [IntKind.wrap_i64]; omega
      clear hR hS HR HT HLn e l1 l2 ul vl pl hp hq
      go_wp2_with fail
      refine KS.mono ?_
      rintro e w2 ⟨rfl, h1, h2⟩
      have HR2 := hidR h1
      have HB2 := hidR (HB.out.trans h2)
      clear KS h1 h2 HB
      go_wp2
      go_roundw
      case rel => exact ⟨i, j - i, P', V.drop (j - i), V.take (j - i), U ++ R', rfl, rfl, hi, by omega, him, by omega, HL2, HT2, HR2, HB2⟩
      case measure => simp [intOf]; omega
end Go.Proofs.YtmeaikmmhgmgnaaGreat
