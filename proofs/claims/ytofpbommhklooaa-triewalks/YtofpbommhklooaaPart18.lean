/-
  Part 18 of the proof: 1 texts, one behind the other.
-/
import Derived.Test.YtofpbommhklooaaPart16
import Derived.Test.YtofpbommhklooaaPart17
/-
  The document's Kid.
-/
namespace Go.Proofs.Ytofpbommhklooaa
open Go.RowKit
set_option linter.unusedSimpArgs false
set_option linter.unusedVariables false
attribute [local go_sem] Oper.semAt_some

theorem AtP.blk8 {W W' : World} {B : Nat} {x : BitVec 128} {n : Int} (k : AtP W B x n) (e : W'.heap[B]? = W.heap[B]?) : AtP W' B x n := by
  obtain ⟨a, b, c, d, f, g⟩ := k
  refine ⟨(World.cell?_of_block (a := ⟨B, 0, none⟩) e).trans a, (World.cell?_of_block (a := ⟨B, 1, none⟩) e).trans b, (World.cell?_of_block (a := ⟨B, 2, none⟩) e).trans c, ?_, ?_, ?_⟩ <;> simp only [World.frozen?, e] at d f g ⊢ <;> assumption
theorem AtP.lt8 {W : World} {B : Nat} {x : BitVec 128} {n : Int} (k : AtP W B x n) : B < W.heap.size := cell_in k.1
/-- A prefix is written over. -/
def setP8 (W : World) (B : Nat) (z : BitVec 128) (n : Int) : World := ((W.setCell ⟨B, 0, none⟩ (.int .u64 (hI z))).setCell ⟨B, 1, none⟩ (.int .u64 (lI z))).setCell ⟨B, 2, none⟩ (.int .i64 n)
theorem setP8_blk {W : World} {B C : Nat} (z : BitVec 128) (n : Int) (h : ¬ C = B) : (setP8 W B z n).heap[C]? = W.heap[C]? := by
  unfold setP8; rw [setB _ h, setB _ h, setB _ h]
structure R2K (V : World) (x y : BitVec 128) (m : Int) (b1 b2 b3 b4 : Bool) (g : Nat × Nat) (W : World) : Prop where
  bel : Below V.heap.size V W
  a : b1 = true → V.heap.size ≤ g.1 ∧ (if b3 = true then AtP W g.1 x m else AtP W g.1 0#128 0)
  b : b2 = true → V.heap.size ≤ g.2 ∧ (if b4 = true then AtP W g.2 y m else AtP W g.2 0#128 0)
  ne : b1 = true → b2 = true → g.1 ≠ g.2
  c : b3 = true → b1 = true
  d : b4 = true → b2 = true
section
variable {V W W' : World} {x y : BitVec 128} {m : Int} {b1 b2 b3 b4 : Bool} {g : Nat × Nat}
theorem if_at {b : Bool} {B : Nat} (h : if b = true then AtP W B x m else AtP W B 0#128 0) : ∃ z n, AtP W B z n := by
  cases b
  · exact ⟨_, _, by simpa using h⟩
  · exact ⟨_, _, by simpa using h⟩
theorem if_blk {b : Bool} {B : Nat} (h : if b = true then AtP W B x m else AtP W B 0#128 0) (e : W'.heap[B]? = W.heap[B]?) : if b = true then AtP W' B x m else AtP W' B 0#128 0 := by
  cases b
  · simp only [Bool.false_eq_true, if_false] at h ⊢; exact h.blk8 e
  · simp only [if_true] at h ⊢; exact h.blk8 e
theorem R2K.below (k : R2K V x y m b1 b2 b3 b4 g W) (hb : Below W.heap.size W W') : R2K V x y m b1 b2 b3 b4 g W' :=
  ⟨keepb hb k.bel, fun h => ⟨(k.a h).1, if_blk (k.a h).2 (by obtain ⟨_, _, q⟩ := if_at (k.a h).2; exact hb.block _ q.lt8)⟩, fun h => ⟨(k.b h).1, if_blk (k.b h).2 (by obtain ⟨_, _, q⟩ := if_at (k.b h).2; exact hb.block _ q.lt8)⟩, k.ne, k.c, k.d⟩
theorem new0 (W : World) : AtP (W.alloc (.cells #[.int .u64 0, .int .u64 0, .int .i64 0] 45)) W.heap.size 0#128 0 := by
  have ha := atp_new W W.heap.size 0#128 0 45 rfl
  rwa [hI_zero, lI_zero] at ha
theorem R2K.al1 (k : R2K V x y m false b2 b3 b4 g W) : R2K V x y m true b2 b3 b4 (W.heap.size, g.2) (W.alloc (.cells #[.int .u64 0, .int .u64 0, .int .i64 0] 45)) := by
  have h3 : b3 = false := by
    cases h : b3 with
    | false => rfl
    | true => exact absurd (k.c h) (by decide)
  have hb := bl1 W (.cells #[.int .u64 0, .int .u64 0, .int .i64 0] 45)
  have k2 := k.below hb
  refine ⟨k2.bel, fun _ => ⟨k.bel.size, by rw [h3, if_neg (by decide)]; exact new0 W⟩, fun h => k2.b h, fun _ h => ?_, fun _ => rfl, k.d⟩
  obtain ⟨_, _, q⟩ := if_at (k.b h).2
  have := q.lt8
  show W.heap.size ≠ g.2
  omega
theorem R2K.al2 (k : R2K V x y m b1 false b3 b4 g W) : R2K V x y m b1 true b3 b4 (g.1, W.heap.size) (W.alloc (.cells #[.int .u64 0, .int .u64 0, .int .i64 0] 45)) := by
  have h4 : b4 = false := by
    cases h : b4 with
    | false => rfl
    | true => exact absurd (k.d h) (by decide)
  have hb := bl1 W (.cells #[.int .u64 0, .int .u64 0, .int .i64 0] 45)
  have k2 := k.below hb
  refine ⟨k2.bel, fun h => k2.a h, fun _ => ⟨k.bel.size, by rw [h4, if_neg (by decide)]; exact new0 W⟩, fun h _ => ?_, k.c, fun _ => rfl⟩
  obtain ⟨_, _, q⟩ := if_at (k.a h).2
  have := q.lt8
  show g.1 ≠ W.heap.size
  omega
theorem R2K.st1 (k : R2K V x y m b1 b2 false b4 g W) (h1 : b1 = true) : R2K V x y m b1 b2 true b4 g (setP8 W g.1 x m) := by
  obtain ⟨q1, q2⟩ := k.a h1
  rw [if_neg (by decide)] at q2
  refine ⟨((k.bel.setCell (p := ⟨g.1, 0, none⟩) q1 _).setCell (p := ⟨g.1, 1, none⟩) q1 _).setCell (p := ⟨g.1, 2, none⟩) q1 _, fun _ => ⟨q1, by rw [if_pos rfl]; exact q2.set8 x m⟩, fun h => ⟨(k.b h).1, if_blk (k.b h).2 (setP8_blk _ _ (fun e => k.ne h1 h e.symm))⟩, k.ne, fun _ => h1, k.d⟩
theorem R2K.st2 (k : R2K V x y m b1 b2 b3 false g W) (h2 : b2 = true) : R2K V x y m b1 b2 b3 true g (setP8 W g.2 y m) := by
  obtain ⟨q1, q2⟩ := k.b h2
  rw [if_neg (by decide)] at q2
  refine ⟨((k.bel.setCell (p := ⟨g.2, 0, none⟩) q1 _).setCell (p := ⟨g.2, 1, none⟩) q1 _).setCell (p := ⟨g.2, 2, none⟩) q1 _, fun h => ⟨(k.a h).1, if_blk (k.a h).2 (setP8_blk _ _ (fun e => k.ne h h2 e))⟩, fun _ => ⟨q1, by rw [if_pos rfl]; exact q2.set8 y m⟩, k.ne, k.c, fun _ => h2⟩
end
section
variable (D : Nat) (F : Int) (v : Value) (P : List (BitVec 128 × Int)) (Z : List Int) (gp cp gz cz : Nat)
set_option maxRecDepth 20000 in
set_option maxHeartbeats 4000000 in
theorem rkid8_no (n bit : Int) (w : World) (h : DrT w D F v P Z gp cp gz cz) (hn : ¬ (0 ≤ n ∧ n < P.length) ∨ ¬ (bit = 0 ∨ bit = 1)) :
    Calls Try.prog 26 #[.pointer (some ⟨D, 0, none⟩), .int .i64 n, .int .i64 bit] w fun e w' => e = .returned (.int .i64 (-1)) ∧ w' = w := by
  have KI := ris8_any D F v P Z gp cp gz cz n w h
  by_cases hc : 0 ≤ n ∧ n < P.length
  · have h0 : (bit != 0) = true := by rw [bne_iff_ne]; omega
    have h1 : (bit != 1) = true := by rw [bne_iff_ne]; omega
    have hd : (decide (0 ≤ n) && decide (n < (P.length : Int))) = true := by
      rw [Bool.and_eq_true, decide_eq_true_eq, decide_eq_true_eq]; exact hc
    rw [hd] at KI
    clear h hn hc hd
    go_enter Try.func26, Try.ntmps26
    go_wp2_with fail
    refine KI.mono ?_
    rintro e w' ⟨rfl, rfl⟩
    clear KI
    go_wp2
    exact bodyPost_ret (v := .int .i64 (-1)) (by simp [results, Try.results26, go_sem, *]) rfl ⟨rfl, rfl⟩
  · rw [is_no hc] at KI
    clear h hn hc
    go_enter Try.func26, Try.ntmps26
    go_wp2_with fail
    refine KI.mono ?_
    rintro e w' ⟨rfl, rfl⟩
    clear KI
    go_wp2
    exact bodyPost_ret (v := .int .i64 (-1)) (by simp [results, Try.results26, go_sem, *]) rfl ⟨rfl, rfl⟩
set_option maxRecDepth 100000 in
set_option maxHeartbeats 16000000 in
theorem rkid8_0 (n : Nat) (y : BitVec 128) (u : Int) (w : World) (h : DrT w D F v P Z gp cp gz cz) (hy : P[n]? = some (y, u)) (hu : 0 ≤ u) (hF : F ≤ 128) (hS : SrtP P) (hl : P.length ≤ 1000000000) :
    Calls Try.prog 26 #[.pointer (some ⟨D, 0, none⟩), .int .i64 (n : Int), .int .i64 0] w fun r w' => (∃ q, r = .returned (.int .i64 q) ∧ ((F ≤ u ∧ q = -1) ∨ (u < F ∧ FdR P y (u + 1) q))) ∧ Below w.heap.size w w' := by
  have KI := ris8_any D F v P Z gp cp gz cz (n : Int) w h
  have hn : n < P.length := (List.getElem?_eq_some_iff.mp hy).1
  rw [is_yes hn] at KI
  have KO := fun w => rkids_any F y u w hu hF
  have HQ : Hid (∀ q, (u < F → FdR P (kidL F y u) (kidN F u) q) → u < F → FdR P y (u + 1) q) := hidX (fun q k c => by
    have := k c
    unfold kidN kidL at this
    rwa [if_neg (by omega), if_neg (by omega)] at this)
  have KF := fun w h => rfind8_any D F v P Z gp cp gz cz (kidL F y u) (kidN F u) w h hS hl
  have HCD := hidX (fun X (hb : Below w.heap.size w X) => h.below hb)
  have Hy := hidX hy
  revert KO HQ KF
  generalize kidL F y u = a
  generalize (if F ≤ u then 0#128 else putW y u 1) = b
  generalize kidN F u = m
  intro KO HQ KF
  clear h hy hS
  go_enter Try.func26, Try.ntmps26
  go_wp2_with fail
  refine KI.mono ?_
  rintro e w0 ⟨rfl, rfl⟩
  clear KI
  have hn' : (n : Int) < (P.length : Int) := by omega
  obtain ⟨t, ht⟩ : ∃ t, t = decide (u < F) := ⟨_, rfl⟩
  rw [← ht] at KO
  have Ht := hidX ht
  clear ht
  go_wp2_with fail
  refine gh_region (γ := Nat × Nat) (qpOk 21 21 (by decide) (fun N => by kernel_rfl) (by kernel_rfl) (by kernel_rfl) (by kernel_rfl) (by kernel_rfl)) (by kernel_rfl) (by kernel_rfl) [some 23, some 24, some 25, some 26, some 27, some 28, some 29, some 30, some 31, some 32, some 33, some 34, some 22, some 35, some 36, some 37, some 7, some 8, none, none, some 9] (fun g => [.pointer (some ⟨D, 0, none⟩), .pointer (some ⟨D, 0, none⟩), .pointer (some ⟨D, 0, none⟩), .int .i64 F, .pointer (some ⟨D, 0, none⟩), .pointer (some ⟨D, 0, none⟩), .pointer (some ⟨D, 1, none⟩), .slice (some ⟨gp, 0, none⟩) P.length cp, .int .i64 (n : Int), .pointer (some ⟨gp, n * 3, none⟩), .agg #[.int .u64 (hI y), .int .u64 (lI y), .int .i64 u], .tuple #[.agg #[.int .u64 (hI a), .int .u64 (lI a), .int .i64 m], .agg #[.int .u64 (hI b), .int .u64 (lI b), .int .i64 m], .bool t], .tuple #[.agg #[.int .u64 (hI a), .int .u64 (lI a), .int .i64 m], .agg #[.int .u64 (hI b), .int .u64 (lI b), .int .i64 m], .bool t], .agg #[.int .u64 (hI a), .int .u64 (lI a), .int .i64 m], .agg #[.int .u64 (hI b), .int .u64 (lI b), .int .i64 m], .bool t, .pointer (some ⟨g.1, 0, none⟩), .pointer (some ⟨g.2, 0, none⟩), undef, undef, .bool t]) (by kernel_rfl) (by simp) (fun lp g V => R2K w0 a b m (lp.getD 16 false) (lp.getD 17 false) (lp.getD 18 false) (lp.getD 19 false) g V) (0, 0) ⟨below_drewN (Below.refl _ _) 1, fun h => (by simp at h), fun h => (by simp at h), fun h => (by simp at h), fun h => (by simp at h), fun h => (by simp at h)⟩ ?step ?fin
  case step =>
    intro q o lp g w' a' ho hsz hun hdep hR hS K Q' hK
    have hfl : ∀ j, j ≠ q → (lp.setIfInBounds q true).getD j false = lp.getD j false := fun j hj => by rw [Array.getD_eq_getD_getElem?, Array.getD_eq_getD_getElem?, Array.getElem?_setIfInBounds_ne (by omega)]
    have hq : q < 21 := (List.getElem?_eq_some_iff.mp ho).1
    have hD := HCD.out w' hR.bel
    have f0 := hD.f
    have f1 := hD.ps
    obtain ⟨r0, r1, r2⟩ := hD.p n y u Hy.out
    clear hD
    match q, ho, hun, hdep, hK, hfl, hq with
    | 0, ho, hun, hdep, hK, hfl, _ =>
      obtain rfl := Option.some.inj ho
      have o0 : a'.tmps[0]? = some (.pointer (some ⟨D, 0, none⟩)) := (hS.old8 0 (by simp)).trans rfl
      have hK' := hK g w' (fun _ _ _ _ _ _ => rfl) (by rw [hfl 16 (by decide), hfl 17 (by decide), hfl 18 (by decide), hfl 19 (by decide)]; exact hR) (.pointer (some ⟨D, 0, none⟩)) (by simp only [valO, Option.bind_some]; simp only [putAll, Act.put, List.setIfInBounds_toArray, List.set_cons_zero, List.set_cons_succ]; rfl)
      clear hS hdep hR
      refine gh_quiet8 (v := .pointer (some ⟨D, 0, none⟩)) ?_ ?_
      · (simp only [execOp, Act.eval, o0]; go_simp; first | done | (simp; done) | (simp [*]; done) | omega | (simp; omega) | (simp [*]; omega))
      · exact hK'
    | 1, ho, hun, hdep, hK, hfl, _ =>
      obtain rfl := Option.some.inj ho
      have d0 : lp.getD 0 false = true := hdep { on := 0, ground := .data } (by simp) rfl
      have e23 : a'.tmps[23]? = some (.pointer (some ⟨D, 0, none⟩)) := (hS.don 0 _ 23 rfl d0 rfl).trans (by simp only [putAll, Act.put, List.setIfInBounds_toArray, List.set_cons_zero, List.set_cons_succ]; rfl)
      have hK' := hK g w' (fun _ _ _ _ _ _ => rfl) (by rw [hfl 16 (by decide), hfl 17 (by decide), hfl 18 (by decide), hfl 19 (by decide)]; exact hR) (.pointer (some ⟨D, 0, none⟩)) (by simp only [valO, Option.bind_some]; simp only [putAll, Act.put, List.setIfInBounds_toArray, List.set_cons_zero, List.set_cons_succ]; rfl)
      clear hS hdep hR
      refine gh_quiet8 (v := .pointer (some ⟨D, 0, none⟩)) ?_ ?_
      · (simp only [execOp, Act.eval, e23]; go_simp; first | done | (simp; done) | (simp [*]; done) | omega | (simp; omega) | (simp [*]; omega))
      · exact hK'
    | 2, ho, hun, hdep, hK, hfl, _ =>
      obtain rfl := Option.some.inj ho
      have d1 : lp.getD 1 false = true := hdep { on := 1, ground := .data } (by simp) rfl
      have e24 : a'.tmps[24]? = some (.pointer (some ⟨D, 0, none⟩)) := (hS.don 1 _ 24 rfl d1 rfl).trans (by simp only [putAll, Act.put, List.setIfInBounds_toArray, List.set_cons_zero, List.set_cons_succ]; rfl)
      have hK' := hK g w' (fun _ _ _ _ _ _ => rfl) (by rw [hfl 16 (by decide), hfl 17 (by decide), hfl 18 (by decide), hfl 19 (by decide)]; exact hR) (.pointer (some ⟨D, 0, none⟩)) (by simp only [valO, Option.bind_some]; simp only [putAll, Act.put, List.setIfInBounds_toArray, List.set_cons_zero, List.set_cons_succ]; rfl)
      clear hS hdep hR
      refine gh_quiet8 (v := .pointer (some ⟨D, 0, none⟩)) ?_ ?_
      · (simp only [execOp, Act.eval, e24]; go_simp; first | done | (simp; done) | (simp [*]; done) | omega | (simp; omega) | (simp [*]; omega))
      · exact hK'
    | 3, ho, hun, hdep, hK, hfl, _ =>
      obtain rfl := Option.some.inj ho
      have d2 : lp.getD 2 false = true := hdep { on := 2, ground := .data } (by simp) rfl
      have e25 : a'.tmps[25]? = some (.pointer (some ⟨D, 0, none⟩)) := (hS.don 2 _ 25 rfl d2 rfl).trans (by simp only [putAll, Act.put, List.setIfInBounds_toArray, List.set_cons_zero, List.set_cons_succ]; rfl)
      have hK' := hK g w' (fun _ _ _ _ _ _ => rfl) (by rw [hfl 16 (by decide), hfl 17 (by decide), hfl 18 (by decide), hfl 19 (by decide)]; exact hR) (.int .i64 F) (by simp only [valO, Option.bind_some]; simp only [putAll, Act.put, List.setIfInBounds_toArray, List.set_cons_zero, List.set_cons_succ]; rfl)
      clear hS hdep hR
      refine gh_quiet8 (v := .int .i64 F) ?_ ?_
      · (simp only [execOp, Act.eval, e25]; go_simp; first | done | (simp; done) | (simp [*]; done) | omega | (simp; omega) | (simp [*]; omega))
      · exact hK'
    | 4, ho, hun, hdep, hK, hfl, _ =>
      obtain rfl := Option.some.inj ho
      have o0 : a'.tmps[0]? = some (.pointer (some ⟨D, 0, none⟩)) := (hS.old8 0 (by simp)).trans rfl
      have hK' := hK g w' (fun _ _ _ _ _ _ => rfl) (by rw [hfl 16 (by decide), hfl 17 (by decide), hfl 18 (by decide), hfl 19 (by decide)]; exact hR) (.pointer (some ⟨D, 0, none⟩)) (by simp only [valO, Option.bind_some]; simp only [putAll, Act.put, List.setIfInBounds_toArray, List.set_cons_zero, List.set_cons_succ]; rfl)
      clear hS hdep hR
      refine gh_quiet8 (v := .pointer (some ⟨D, 0, none⟩)) ?_ ?_
      · (simp only [execOp, Act.eval, o0]; go_simp; first | done | (simp; done) | (simp [*]; done) | omega | (simp; omega) | (simp [*]; omega))
      · exact hK'
    | 5, ho, hun, hdep, hK, hfl, _ =>
      obtain rfl := Option.some.inj ho
      have d4 : lp.getD 4 false = true := hdep { on := 4, ground := .data } (by simp) rfl
      have e27 : a'.tmps[27]? = some (.pointer (some ⟨D, 0, none⟩)) := (hS.don 4 _ 27 rfl d4 rfl).trans (by simp only [putAll, Act.put, List.setIfInBounds_toArray, List.set_cons_zero, List.set_cons_succ]; rfl)
      have hK' := hK g w' (fun _ _ _ _ _ _ => rfl) (by rw [hfl 16 (by decide), hfl 17 (by decide), hfl 18 (by decide), hfl 19 (by decide)]; exact hR) (.pointer (some ⟨D, 0, none⟩)) (by simp only [valO, Option.bind_some]; simp only [putAll, Act.put, List.setIfInBounds_toArray, List.set_cons_zero, List.set_cons_succ]; rfl)
      clear hS hdep hR
      refine gh_quiet8 (v := .pointer (some ⟨D, 0, none⟩)) ?_ ?_
      · (simp only [execOp, Act.eval, e27]; go_simp; first | done | (simp; done) | (simp [*]; done) | omega | (simp; omega) | (simp [*]; omega))
      · exact hK'
    | 6, ho, hun, hdep, hK, hfl, _ =>
      obtain rfl := Option.some.inj ho
      have d5 : lp.getD 5 false = true := hdep { on := 5, ground := .data } (by simp) rfl
      have e28 : a'.tmps[28]? = some (.pointer (some ⟨D, 0, none⟩)) := (hS.don 5 _ 28 rfl d5 rfl).trans (by simp only [putAll, Act.put, List.setIfInBounds_toArray, List.set_cons_zero, List.set_cons_succ]; rfl)
      have hK' := hK g w' (fun _ _ _ _ _ _ => rfl) (by rw [hfl 16 (by decide), hfl 17 (by decide), hfl 18 (by decide), hfl 19 (by decide)]; exact hR) (.pointer (some ⟨D, 1, none⟩)) (by simp only [valO, Option.bind_some]; simp only [putAll, Act.put, List.setIfInBounds_toArray, List.set_cons_zero, List.set_cons_succ]; rfl)
      clear hS hdep hR
      refine gh_quiet8 (v := .pointer (some ⟨D, 1, none⟩)) ?_ ?_
      · (simp only [execOp, Act.eval, e28]; go_simp; first | done | (simp; done) | (simp [*]; done) | omega | (simp; omega) | (simp [*]; omega))
      · exact hK'
    | 7, ho, hun, hdep, hK, hfl, _ =>
      obtain rfl := Option.some.inj ho
      have d6 : lp.getD 6 false = true := hdep { on := 6, ground := .data } (by simp) rfl
      have e29 : a'.tmps[29]? = some (.pointer (some ⟨D, 1, none⟩)) := (hS.don 6 _ 29 rfl d6 rfl).trans (by simp only [putAll, Act.put, List.setIfInBounds_toArray, List.set_cons_zero, List.set_cons_succ]; rfl)
      have hK' := hK g w' (fun _ _ _ _ _ _ => rfl) (by rw [hfl 16 (by decide), hfl 17 (by decide), hfl 18 (by decide), hfl 19 (by decide)]; exact hR) (.slice (some ⟨gp, 0, none⟩) P.length cp) (by simp only [valO, Option.bind_some]; simp only [putAll, Act.put, List.setIfInBounds_toArray, List.set_cons_zero, List.set_cons_succ]; rfl)
      clear hS hdep hR
      refine gh_quiet8 (v := .slice (some ⟨gp, 0, none⟩) P.length cp) ?_ ?_
      · (simp only [execOp, Act.eval, e29]; go_simp; first | done | (simp; done) | (simp [*]; done) | omega | (simp; omega) | (simp [*]; omega))
      · exact hK'
    | 8, ho, hun, hdep, hK, hfl, _ =>
      obtain rfl := Option.some.inj ho
      have o1 : a'.tmps[1]? = some (.int .i64 (n : Int)) := (hS.old8 1 (by simp)).trans rfl
      have hK' := hK g w' (fun _ _ _ _ _ _ => rfl) (by rw [hfl 16 (by decide), hfl 17 (by decide), hfl 18 (by decide), hfl 19 (by decide)]; exact hR) (.int .i64 (n : Int)) (by simp only [valO, Option.bind_some]; simp only [putAll, Act.put, List.setIfInBounds_toArray, List.set_cons_zero, List.set_cons_succ]; rfl)
      clear hS hdep hR
      refine gh_quiet8 (v := .int .i64 (n : Int)) ?_ ?_
      · (simp only [execOp, Act.eval, o1]; go_simp; first | done | (simp; done) | (simp [*]; done) | omega | (simp; omega) | (simp [*]; omega))
      · exact hK'
    | 9, ho, hun, hdep, hK, hfl, _ =>
      obtain rfl := Option.some.inj ho
      have d7 : lp.getD 7 false = true := hdep { on := 7, ground := .data } (by simp) rfl
      have e30 : a'.tmps[30]? = some (.slice (some ⟨gp, 0, none⟩) P.length cp) := (hS.don 7 _ 30 rfl d7 rfl).trans (by simp only [putAll, Act.put, List.setIfInBounds_toArray, List.set_cons_zero, List.set_cons_succ]; rfl)
      have d8 : lp.getD 8 false = true := hdep { on := 8, ground := .data } (by simp) rfl
      have e31 : a'.tmps[31]? = some (.int .i64 (n : Int)) := (hS.don 8 _ 31 rfl d8 rfl).trans (by simp only [putAll, Act.put, List.setIfInBounds_toArray, List.set_cons_zero, List.set_cons_succ]; rfl)
      have hK' := hK g w' (fun _ _ _ _ _ _ => rfl) (by rw [hfl 16 (by decide), hfl 17 (by decide), hfl 18 (by decide), hfl 19 (by decide)]; exact hR) (.pointer (some ⟨gp, n * 3, none⟩)) (by simp only [valO, Option.bind_some]; simp only [putAll, Act.put, List.setIfInBounds_toArray, List.set_cons_zero, List.set_cons_succ]; rfl)
      clear hS hdep hR
      refine gh_quiet8 (v := .pointer (some ⟨gp, n * 3, none⟩)) ?_ ?_
      · (simp only [execOp, Act.eval, e30, e31]; go_simp; first | done | (simp; done) | (simp [*]; done) | omega | (simp; omega) | (simp [*]; omega))
      · exact hK'
    | 10, ho, hun, hdep, hK, hfl, _ =>
      obtain rfl := Option.some.inj ho
      have d9 : lp.getD 9 false = true := hdep { on := 9, ground := .data } (by simp) rfl
      have e32 : a'.tmps[32]? = some (.pointer (some ⟨gp, n * 3, none⟩)) := (hS.don 9 _ 32 rfl d9 rfl).trans (by simp only [putAll, Act.put, List.setIfInBounds_toArray, List.set_cons_zero, List.set_cons_succ]; rfl)
      have hK' := hK g w' (fun _ _ _ _ _ _ => rfl) (by rw [hfl 16 (by decide), hfl 17 (by decide), hfl 18 (by decide), hfl 19 (by decide)]; exact hR) (.agg #[.int .u64 (hI y), .int .u64 (lI y), .int .i64 u]) (by simp only [valO, Option.bind_some]; simp only [putAll, Act.put, List.setIfInBounds_toArray, List.set_cons_zero, List.set_cons_succ]; rfl)
      clear hS hdep hR
      refine gh_quiet8 (v := .agg #[.int .u64 (hI y), .int .u64 (lI y), .int .i64 u]) ?_ ?_
      · (simp only [execOp, Act.eval, e32]; go_simp; first | done | (simp; done) | (simp [*]; done) | omega | (simp; omega) | (simp [*]; omega))
      · exact hK'
    | 11, ho, hun, hdep, hK, hfl, _ =>
      obtain rfl := Option.some.inj ho
      have d3 : lp.getD 3 false = true := hdep { on := 3, ground := .data } (by simp) rfl
      have e26 : a'.tmps[26]? = some (.int .i64 F) := (hS.don 3 _ 26 rfl d3 rfl).trans (by simp only [putAll, Act.put, List.setIfInBounds_toArray, List.set_cons_zero, List.set_cons_succ]; rfl)
      have d10 : lp.getD 10 false = true := hdep { on := 10, ground := .data } (by simp) rfl
      have e33 : a'.tmps[33]? = some (.agg #[.int .u64 (hI y), .int .u64 (lI y), .int .i64 u]) := (hS.don 10 _ 33 rfl d10 rfl).trans (by simp only [putAll, Act.put, List.setIfInBounds_toArray, List.set_cons_zero, List.set_cons_succ]; rfl)
      have KE := KO w'
      clear hdep
      unfold Oper.wp
      simp only [execOp, Act.eval]
      simp [go_sem, e26, e33, Oper.upon]
      refine KE.mono ?_
      rintro e W2 ⟨rfl, hb2⟩
      exact hK g W2 (fun _ _ _ _ _ _ => rfl) (by rw [hfl 16 (by decide), hfl 17 (by decide), hfl 18 (by decide), hfl 19 (by decide)]; exact hR.below hb2) _ (by simp only [valO, Option.bind_some]; simp only [putAll, Act.put, List.setIfInBounds_toArray, List.set_cons_zero, List.set_cons_succ]; rfl)
    | 12, ho, hun, hdep, hK, hfl, _ =>
      obtain rfl := Option.some.inj ho
      have d11 : lp.getD 11 false = true := hdep { on := 11, ground := .data } (by simp) rfl
      have e34 : a'.tmps[34]? = some (.tuple #[.agg #[.int .u64 (hI a), .int .u64 (lI a), .int .i64 m], .agg #[.int .u64 (hI b), .int .u64 (lI b), .int .i64 m], .bool t]) := (hS.don 11 _ 34 rfl d11 rfl).trans (by simp only [putAll, Act.put, List.setIfInBounds_toArray, List.set_cons_zero, List.set_cons_succ]; rfl)
      have hK' := hK g w' (fun _ _ _ _ _ _ => rfl) (by rw [hfl 16 (by decide), hfl 17 (by decide), hfl 18 (by decide), hfl 19 (by decide)]; exact hR) (.tuple #[.agg #[.int .u64 (hI a), .int .u64 (lI a), .int .i64 m], .agg #[.int .u64 (hI b), .int .u64 (lI b), .int .i64 m], .bool t]) (by simp only [valO, Option.bind_some]; simp only [putAll, Act.put, List.setIfInBounds_toArray, List.set_cons_zero, List.set_cons_succ]; rfl)
      clear hS hdep hR
      refine gh_quiet8 (v := .tuple #[.agg #[.int .u64 (hI a), .int .u64 (lI a), .int .i64 m], .agg #[.int .u64 (hI b), .int .u64 (lI b), .int .i64 m], .bool t]) ?_ ?_
      · (simp only [execOp, Act.eval, e34]; go_simp; first | done | (simp; done) | (simp [*]; done) | omega | (simp; omega) | (simp [*]; omega))
      · exact hK'
    | 13, ho, hun, hdep, hK, hfl, _ =>
      obtain rfl := Option.some.inj ho
      have d12 : lp.getD 12 false = true := hdep { on := 12, ground := .data } (by simp) rfl
      have e22 : a'.tmps[22]? = some (.tuple #[.agg #[.int .u64 (hI a), .int .u64 (lI a), .int .i64 m], .agg #[.int .u64 (hI b), .int .u64 (lI b), .int .i64 m], .bool t]) := (hS.don 12 _ 22 rfl d12 rfl).trans (by simp only [putAll, Act.put, List.setIfInBounds_toArray, List.set_cons_zero, List.set_cons_succ]; rfl)
      have hK' := hK g w' (fun _ _ _ _ _ _ => rfl) (by rw [hfl 16 (by decide), hfl 17 (by decide), hfl 18 (by decide), hfl 19 (by decide)]; exact hR) (.agg #[.int .u64 (hI a), .int .u64 (lI a), .int .i64 m]) (by simp only [valO, Option.bind_some]; simp only [putAll, Act.put, List.setIfInBounds_toArray, List.set_cons_zero, List.set_cons_succ]; rfl)
      clear hS hdep hR
      refine gh_quiet8 (v := .agg #[.int .u64 (hI a), .int .u64 (lI a), .int .i64 m]) ?_ ?_
      · (simp only [execOp, Act.eval, e22]; go_simp; first | done | (simp; done) | (simp [*]; done) | omega | (simp; omega) | (simp [*]; omega))
      · exact hK'
    | 14, ho, hun, hdep, hK, hfl, _ =>
      obtain rfl := Option.some.inj ho
      have d12 : lp.getD 12 false = true := hdep { on := 12, ground := .data } (by simp) rfl
      have e22 : a'.tmps[22]? = some (.tuple #[.agg #[.int .u64 (hI a), .int .u64 (lI a), .int .i64 m], .agg #[.int .u64 (hI b), .int .u64 (lI b), .int .i64 m], .bool t]) := (hS.don 12 _ 22 rfl d12 rfl).trans (by simp only [putAll, Act.put, List.setIfInBounds_toArray, List.set_cons_zero, List.set_cons_succ]; rfl)
      have hK' := hK g w' (fun _ _ _ _ _ _ => rfl) (by rw [hfl 16 (by decide), hfl 17 (by decide), hfl 18 (by decide), hfl 19 (by decide)]; exact hR) (.agg #[.int .u64 (hI b), .int .u64 (lI b), .int .i64 m]) (by simp only [valO, Option.bind_some]; simp only [putAll, Act.put, List.setIfInBounds_toArray, List.set_cons_zero, List.set_cons_succ]; rfl)
      clear hS hdep hR
      refine gh_quiet8 (v := .agg #[.int .u64 (hI b), .int .u64 (lI b), .int .i64 m]) ?_ ?_
      · (simp only [execOp, Act.eval, e22]; go_simp; first | done | (simp; done) | (simp [*]; done) | omega | (simp; omega) | (simp [*]; omega))
      · exact hK'
    | 15, ho, hun, hdep, hK, hfl, _ =>
      obtain rfl := Option.some.inj ho
      have d12 : lp.getD 12 false = true := hdep { on := 12, ground := .data } (by simp) rfl
      have e22 : a'.tmps[22]? = some (.tuple #[.agg #[.int .u64 (hI a), .int .u64 (lI a), .int .i64 m], .agg #[.int .u64 (hI b), .int .u64 (lI b), .int .i64 m], .bool t]) := (hS.don 12 _ 22 rfl d12 rfl).trans (by simp only [putAll, Act.put, List.setIfInBounds_toArray, List.set_cons_zero, List.set_cons_succ]; rfl)
      have hK' := hK g w' (fun _ _ _ _ _ _ => rfl) (by rw [hfl 16 (by decide), hfl 17 (by decide), hfl 18 (by decide), hfl 19 (by decide)]; exact hR) (.bool t) (by simp only [valO, Option.bind_some]; simp only [putAll, Act.put, List.setIfInBounds_toArray, List.set_cons_zero, List.set_cons_succ]; rfl)
      clear hS hdep hR
      refine gh_quiet8 (v := .bool t) ?_ ?_
      · (simp only [execOp, Act.eval, e22]; go_simp; first | done | (simp; done) | (simp [*]; done) | omega | (simp; omega) | (simp [*]; omega))
      · exact hK'
    | 16, ho, hun, hdep, hK, hfl, _ =>
      obtain rfl := Option.some.inj ho
      rw [hun] at hR
      have hK' := hK (w'.heap.size, g.2) (w'.alloc (.cells #[.int .u64 0, .int .u64 0, .int .i64 0] 45)) (fun k ok s hk hl hd => gh_same8 (d := 7) (s := s) (by simp only [putAll, Act.put, List.setIfInBounds_toArray, List.set_cons_zero, List.set_cons_succ]; rfl) (by rintro rfl; have := dstG_of (by kernel_rfl) k 16 ok _ 7 hk rfl hd rfl; subst this; rw [hun] at hl; cases hl)) (by rw [hfl 17 (by decide), hfl 18 (by decide), hfl 19 (by decide), getD_set_same (by rw [hsz]; decide)]; exact hR.al1) (.pointer (some ⟨w'.heap.size, 0, none⟩)) (by simp only [valO, Option.bind_some]; simp only [putAll, Act.put, List.setIfInBounds_toArray, List.set_cons_zero, List.set_cons_succ]; rfl)
      clear hS hdep hR
      unfold Oper.wp
      simp only [execOp]
      go_simp
      exact hK'
    | 17, ho, hun, hdep, hK, hfl, _ =>
      obtain rfl := Option.some.inj ho
      rw [hun] at hR
      have hK' := hK (g.1, w'.heap.size) (w'.alloc (.cells #[.int .u64 0, .int .u64 0, .int .i64 0] 45)) (fun k ok s hk hl hd => gh_same8 (d := 8) (s := s) (by simp only [putAll, Act.put, List.setIfInBounds_toArray, List.set_cons_zero, List.set_cons_succ]; rfl) (by rintro rfl; have := dstG_of (by kernel_rfl) k 17 ok _ 8 hk rfl hd rfl; subst this; rw [hun] at hl; cases hl)) (by rw [hfl 16 (by decide), hfl 18 (by decide), hfl 19 (by decide), getD_set_same (by rw [hsz]; decide)]; exact hR.al2) (.pointer (some ⟨w'.heap.size, 0, none⟩)) (by simp only [valO, Option.bind_some]; simp only [putAll, Act.put, List.setIfInBounds_toArray, List.set_cons_zero, List.set_cons_succ]; rfl)
      clear hS hdep hR
      unfold Oper.wp
      simp only [execOp]
      go_simp
      exact hK'
    | 18, ho, hun, hdep, hK, hfl, _ =>
      obtain rfl := Option.some.inj ho
      have d13 : lp.getD 13 false = true := hdep { on := 13, ground := .data } (by simp) rfl
      have e35 : a'.tmps[35]? = some (.agg #[.int .u64 (hI a), .int .u64 (lI a), .int .i64 m]) := (hS.don 13 _ 35 rfl d13 rfl).trans (by simp only [putAll, Act.put, List.setIfInBounds_toArray, List.set_cons_zero, List.set_cons_succ]; rfl)
      have d16 : lp.getD 16 false = true := hdep { on := 16, ground := .data } (by simp) rfl
      have e7 : a'.tmps[7]? = some (.pointer (some ⟨g.1, 0, none⟩)) := (hS.don 16 _ 7 rfl d16 rfl).trans (by simp only [putAll, Act.put, List.setIfInBounds_toArray, List.set_cons_zero, List.set_cons_succ]; rfl)
      rw [hun] at hR
      have hz := (hR.a d16).2
      simp only [Bool.false_eq_true, if_false] at hz
      obtain ⟨z0, z1, z2, k0, k1, k2⟩ := hz
      have hK' := hK g _ (fun _ _ _ _ _ _ => rfl) (by rw [hfl 16 (by decide), hfl 17 (by decide), hfl 19 (by decide), getD_set_same (by rw [hsz]; decide)]; exact hR.st1 d16) undef rfl
      unfold setP8 at hK'
      clear hS hdep hR
      unfold Oper.wp
      simp [execOp, Act.eval, e35, e7, go_sem, z0, z1, z2, k0, k1, k2, Oper.upon]
      exact hK'
    | 19, ho, hun, hdep, hK, hfl, _ =>
      obtain rfl := Option.some.inj ho
      have d14 : lp.getD 14 false = true := hdep { on := 14, ground := .data } (by simp) rfl
      have e36 : a'.tmps[36]? = some (.agg #[.int .u64 (hI b), .int .u64 (lI b), .int .i64 m]) := (hS.don 14 _ 36 rfl d14 rfl).trans (by simp only [putAll, Act.put, List.setIfInBounds_toArray, List.set_cons_zero, List.set_cons_succ]; rfl)
      have d17 : lp.getD 17 false = true := hdep { on := 17, ground := .data } (by simp) rfl
      have e8 : a'.tmps[8]? = some (.pointer (some ⟨g.2, 0, none⟩)) := (hS.don 17 _ 8 rfl d17 rfl).trans (by simp only [putAll, Act.put, List.setIfInBounds_toArray, List.set_cons_zero, List.set_cons_succ]; rfl)
      rw [hun] at hR
      have hz := (hR.b d17).2
      simp only [Bool.false_eq_true, if_false] at hz
      obtain ⟨z0, z1, z2, k0, k1, k2⟩ := hz
      have hK' := hK g _ (fun _ _ _ _ _ _ => rfl) (by rw [hfl 16 (by decide), hfl 17 (by decide), hfl 18 (by decide), getD_set_same (by rw [hsz]; decide)]; exact hR.st2 d17) undef rfl
      unfold setP8 at hK'
      clear hS hdep hR
      unfold Oper.wp
      simp [execOp, Act.eval, e36, e8, go_sem, z0, z1, z2, k0, k1, k2, Oper.upon]
      exact hK'
    | 20, ho, hun, hdep, hK, hfl, _ =>
      obtain rfl := Option.some.inj ho
      have d15 : lp.getD 15 false = true := hdep { on := 15, ground := .data } (by simp) rfl
      have e37 : a'.tmps[37]? = some (.bool t) := (hS.don 15 _ 37 rfl d15 rfl).trans (by simp only [putAll, Act.put, List.setIfInBounds_toArray, List.set_cons_zero, List.set_cons_succ]; rfl)
      have hK' := hK g w' (fun _ _ _ _ _ _ => rfl) (by rw [hfl 16 (by decide), hfl 17 (by decide), hfl 18 (by decide), hfl 19 (by decide)]; exact hR) (.bool t) (by simp only [valO, Option.bind_some]; simp only [putAll, Act.put, List.setIfInBounds_toArray, List.set_cons_zero, List.set_cons_succ]; rfl)
      clear hS hdep hR
      refine gh_quiet8 (v := .bool t) ?_ ?_
      · (simp only [execOp, Act.eval, e37]; go_simp; first | done | (simp; done) | (simp [*]; done) | omega | (simp; omega) | (simp [*]; omega))
      · exact hK'
    | n + 21, ho, hun, hdep, hK, hfl, hq => exact absurd hq (by omega)
  case fin =>
    intro g V2 hR
    have hR : R2K w0 a b m true true true true g V2 := by simpa using hR
    have h1 := hR.a rfl
    have h2 := hR.b rfl
    rw [if_pos rfl] at h1 h2
    have HA := hidX h1.2
    have HY := hidX h2.2
    have HB := hidX hR.bel
    have HG := hidX h1.1
    simp only [putAll, Act.put, List.setIfInBounds_toArray, List.set_cons_zero, List.set_cons_succ]
    clear hR h1 h2
    obtain ⟨g1, g2⟩ := g
    dsimp only at HA HY HG ⊢
    refine wl_nil8 (P := Try.prog) (ops := #[]) ?_
    clear KO
    cases t
    · have hc : F ≤ u := by have := Ht.out.symm; rw [decide_eq_false_iff_not] at this; omega
      go_wp2
      exact bodyPost_ret (v := .int .i64 (-1)) (by simp [results, Try.results26, go_sem, *]) rfl ⟨⟨_, rfl, .inl ⟨hc, rfl⟩⟩, HB.out⟩
    · have hc : u < F := by have := Ht.out.symm; rwa [decide_eq_true_eq] at this
      obtain ⟨a0, a1, a2, a3, a4, a5⟩ := HA.out
      obtain ⟨c0, c1, c2, -, -, -⟩ := HY.out
      have KX := KF _ (HCD.out _ HB.out)
      go_wp2_with fail
      refine KX.mono ?_
      rintro e w5 ⟨⟨q, rfl, hq⟩, hb⟩
      have HR := hidX (And.intro hq (keepb hb HB.out))
      clear KX hq hb a0 a1 a2 a3 a4 a5 c0 c1 c2
      go_wp2
      exact bodyPost_ret (v := .int .i64 q) (by simp [results, Try.results26, go_sem]) rfl ⟨⟨_, rfl, .inr ⟨hc, HQ.out q (fun _ => HR.out.1) hc⟩⟩, HR.out.2⟩
set_option maxRecDepth 100000 in
set_option maxHeartbeats 16000000 in
theorem rkid8_1 (n : Nat) (y : BitVec 128) (u : Int) (w : World) (h : DrT w D F v P Z gp cp gz cz) (hy : P[n]? = some (y, u)) (hu : 0 ≤ u) (hF : F ≤ 128) (hS : SrtP P) (hl : P.length ≤ 1000000000) :
    Calls Try.prog 26 #[.pointer (some ⟨D, 0, none⟩), .int .i64 (n : Int), .int .i64 1] w fun r w' => (∃ q, r = .returned (.int .i64 q) ∧ ((F ≤ u ∧ q = -1) ∨ (u < F ∧ FdR P (putW y u 1) (u + 1) q))) ∧ Below w.heap.size w w' := by
  have KI := ris8_any D F v P Z gp cp gz cz (n : Int) w h
  have hn : n < P.length := (List.getElem?_eq_some_iff.mp hy).1
  rw [is_yes hn] at KI
  have KO := fun w => rkids_any F y u w hu hF
  have HQ : Hid (∀ q, (u < F → FdR P (if F ≤ u then 0#128 else putW y u 1) (kidN F u) q) → u < F → FdR P (putW y u 1) (u + 1) q) := hidX (fun q k c => by
    have := k c
    unfold kidN  at this
    rwa [if_neg (by omega), if_neg (by omega)] at this)
  have KF := fun w h => rfind8_any D F v P Z gp cp gz cz (if F ≤ u then 0#128 else putW y u 1) (kidN F u) w h hS hl
  have HCD := hidX (fun X (hb : Below w.heap.size w X) => h.below hb)
  have Hy := hidX hy
  revert KO HQ KF
  generalize kidL F y u = a
  generalize (if F ≤ u then 0#128 else putW y u 1) = b
  generalize kidN F u = m
  intro KO HQ KF
  clear h hy hS
  go_enter Try.func26, Try.ntmps26
  go_wp2_with fail
  refine KI.mono ?_
  rintro e w0 ⟨rfl, rfl⟩
  clear KI
  have hn' : (n : Int) < (P.length : Int) := by omega
  obtain ⟨t, ht⟩ : ∃ t, t = decide (u < F) := ⟨_, rfl⟩
  rw [← ht] at KO
  have Ht := hidX ht
  clear ht
  go_wp2_with fail
  refine gh_region (γ := Nat × Nat) (qpOk 21 21 (by decide) (fun N => by kernel_rfl) (by kernel_rfl) (by kernel_rfl) (by kernel_rfl) (by kernel_rfl)) (by kernel_rfl) (by kernel_rfl) [some 23, some 24, some 25, some 26, some 27, some 28, some 29, some 30, some 31, some 32, some 33, some 34, some 22, some 35, some 36, some 37, some 7, some 8, none, none, some 9] (fun g => [.pointer (some ⟨D, 0, none⟩), .pointer (some ⟨D, 0, none⟩), .pointer (some ⟨D, 0, none⟩), .int .i64 F, .pointer (some ⟨D, 0, none⟩), .pointer (some ⟨D, 0, none⟩), .pointer (some ⟨D, 1, none⟩), .slice (some ⟨gp, 0, none⟩) P.length cp, .int .i64 (n : Int), .pointer (some ⟨gp, n * 3, none⟩), .agg #[.int .u64 (hI y), .int .u64 (lI y), .int .i64 u], .tuple #[.agg #[.int .u64 (hI a), .int .u64 (lI a), .int .i64 m], .agg #[.int .u64 (hI b), .int .u64 (lI b), .int .i64 m], .bool t], .tuple #[.agg #[.int .u64 (hI a), .int .u64 (lI a), .int .i64 m], .agg #[.int .u64 (hI b), .int .u64 (lI b), .int .i64 m], .bool t], .agg #[.int .u64 (hI a), .int .u64 (lI a), .int .i64 m], .agg #[.int .u64 (hI b), .int .u64 (lI b), .int .i64 m], .bool t, .pointer (some ⟨g.1, 0, none⟩), .pointer (some ⟨g.2, 0, none⟩), undef, undef, .bool t]) (by kernel_rfl) (by simp) (fun lp g V => R2K w0 a b m (lp.getD 16 false) (lp.getD 17 false) (lp.getD 18 false) (lp.getD 19 false) g V) (0, 0) ⟨below_drewN (Below.refl _ _) 1, fun h => (by simp at h), fun h => (by simp at h), fun h => (by simp at h), fun h => (by simp at h), fun h => (by simp at h)⟩ ?step ?fin
  case step =>
    intro q o lp g w' a' ho hsz hun hdep hR hS K Q' hK
    have hfl : ∀ j, j ≠ q → (lp.setIfInBounds q true).getD j false = lp.getD j false := fun j hj => by rw [Array.getD_eq_getD_getElem?, Array.getD_eq_getD_getElem?, Array.getElem?_setIfInBounds_ne (by omega)]
    have hq : q < 21 := (List.getElem?_eq_some_iff.mp ho).1
    have hD := HCD.out w' hR.bel
    have f0 := hD.f
    have f1 := hD.ps
    obtain ⟨r0, r1, r2⟩ := hD.p n y u Hy.out
    clear hD
    match q, ho, hun, hdep, hK, hfl, hq with
    | 0, ho, hun, hdep, hK, hfl, _ =>
      obtain rfl := Option.some.inj ho
      have o0 : a'.tmps[0]? = some (.pointer (some ⟨D, 0, none⟩)) := (hS.old8 0 (by simp)).trans rfl
      have hK' := hK g w' (fun _ _ _ _ _ _ => rfl) (by rw [hfl 16 (by decide), hfl 17 (by decide), hfl 18 (by decide), hfl 19 (by decide)]; exact hR) (.pointer (some ⟨D, 0, none⟩)) (by simp only [valO, Option.bind_some]; simp only [putAll, Act.put, List.setIfInBounds_toArray, List.set_cons_zero, List.set_cons_succ]; rfl)
      clear hS hdep hR
      refine gh_quiet8 (v := .pointer (some ⟨D, 0, none⟩)) ?_ ?_
      · (simp only [execOp, Act.eval, o0]; go_simp; first | done | (simp; done) | (simp [*]; done) | omega | (simp; omega) | (simp [*]; omega))
      · exact hK'
    | 1, ho, hun, hdep, hK, hfl, _ =>
      obtain rfl := Option.some.inj ho
      have d0 : lp.getD 0 false = true := hdep { on := 0, ground := .data } (by simp) rfl
      have e23 : a'.tmps[23]? = some (.pointer (some ⟨D, 0, none⟩)) := (hS.don 0 _ 23 rfl d0 rfl).trans (by simp only [putAll, Act.put, List.setIfInBounds_toArray, List.set_cons_zero, List.set_cons_succ]; rfl)
      have hK' := hK g w' (fun _ _ _ _ _ _ => rfl) (by rw [hfl 16 (by decide), hfl 17 (by decide), hfl 18 (by decide), hfl 19 (by decide)]; exact hR) (.pointer (some ⟨D, 0, none⟩)) (by simp only [valO, Option.bind_some]; simp only [putAll, Act.put, List.setIfInBounds_toArray, List.set_cons_zero, List.set_cons_succ]; rfl)
      clear hS hdep hR
      refine gh_quiet8 (v := .pointer (some ⟨D, 0, none⟩)) ?_ ?_
      · (simp only [execOp, Act.eval, e23]; go_simp; first | done | (simp; done) | (simp [*]; done) | omega | (simp; omega) | (simp [*]; omega))
      · exact hK'
    | 2, ho, hun, hdep, hK, hfl, _ =>
      obtain rfl := Option.some.inj ho
      have d1 : lp.getD 1 false = true := hdep { on := 1, ground := .data } (by simp) rfl
      have e24 : a'.tmps[24]? = some (.pointer (some ⟨D, 0, none⟩)) := (hS.don 1 _ 24 rfl d1 rfl).trans (by simp only [putAll, Act.put, List.setIfInBounds_toArray, List.set_cons_zero, List.set_cons_succ]; rfl)
      have hK' := hK g w' (fun _ _ _ _ _ _ => rfl) (by rw [hfl 16 (by decide), hfl 17 (by decide), hfl 18 (by decide), hfl 19 (by decide)]; exact hR) (.pointer (some ⟨D, 0, none⟩)) (by simp only [valO, Option.bind_some]; simp only [putAll, Act.put, List.setIfInBounds_toArray, List.set_cons_zero, List.set_cons_succ]; rfl)
      clear hS hdep hR
      refine gh_quiet8 (v := .pointer (some ⟨D, 0, none⟩)) ?_ ?_
      · (simp only [execOp, Act.eval, e24]; go_simp; first | done | (simp; done) | (simp [*]; done) | omega | (simp; omega) | (simp [*]; omega))
      · exact hK'
    | 3, ho, hun, hdep, hK, hfl, _ =>
      obtain rfl := Option.some.inj ho
      have d2 : lp.getD 2 false = true := hdep { on := 2, ground := .data } (by simp) rfl
      have e25 : a'.tmps[25]? = some (.pointer (some ⟨D, 0, none⟩)) := (hS.don 2 _ 25 rfl d2 rfl).trans (by simp only [putAll, Act.put, List.setIfInBounds_toArray, List.set_cons_zero, List.set_cons_succ]; rfl)
      have hK' := hK g w' (fun _ _ _ _ _ _ => rfl) (by rw [hfl 16 (by decide), hfl 17 (by decide), hfl 18 (by decide), hfl 19 (by decide)]; exact hR) (.int .i64 F) (by simp only [valO, Option.bind_some]; simp only [putAll, Act.put, List.setIfInBounds_toArray, List.set_cons_zero, List.set_cons_succ]; rfl)
      clear hS hdep hR
      refine gh_quiet8 (v := .int .i64 F) ?_ ?_
      · (simp only [execOp, Act.eval, e25]; go_simp; first | done | (simp; done) | (simp [*]; done) | omega | (simp; omega) | (simp [*]; omega))
      · exact hK'
    | 4, ho, hun, hdep, hK, hfl, _ =>
      obtain rfl := Option.some.inj ho
      have o0 : a'.tmps[0]? = some (.pointer (some ⟨D, 0, none⟩)) := (hS.old8 0 (by simp)).trans rfl
      have hK' := hK g w' (fun _ _ _ _ _ _ => rfl) (by rw [hfl 16 (by decide), hfl 17 (by decide), hfl 18 (by decide), hfl 19 (by decide)]; exact hR) (.pointer (some ⟨D, 0, none⟩)) (by simp only [valO, Option.bind_some]; simp only [putAll, Act.put, List.setIfInBounds_toArray, List.set_cons_zero, List.set_cons_succ]; rfl)
      clear hS hdep hR
      refine gh_quiet8 (v := .pointer (some ⟨D, 0, none⟩)) ?_ ?_
      · (simp only [execOp, Act.eval, o0]; go_simp; first | done | (simp; done) | (simp [*]; done) | omega | (simp; omega) | (simp [*]; omega))
      · exact hK'
    | 5, ho, hun, hdep, hK, hfl, _ =>
      obtain rfl := Option.some.inj ho
      have d4 : lp.getD 4 false = true := hdep { on := 4, ground := .data } (by simp) rfl
      have e27 : a'.tmps[27]? = some (.pointer (some ⟨D, 0, none⟩)) := (hS.don 4 _ 27 rfl d4 rfl).trans (by simp only [putAll, Act.put, List.setIfInBounds_toArray, List.set_cons_zero, List.set_cons_succ]; rfl)
      have hK' := hK g w' (fun _ _ _ _ _ _ => rfl) (by rw [hfl 16 (by decide), hfl 17 (by decide), hfl 18 (by decide), hfl 19 (by decide)]; exact hR) (.pointer (some ⟨D, 0, none⟩)) (by simp only [valO, Option.bind_some]; simp only [putAll, Act.put, List.setIfInBounds_toArray, List.set_cons_zero, List.set_cons_succ]; rfl)
      clear hS hdep hR
      refine gh_quiet8 (v := .pointer (some ⟨D, 0, none⟩)) ?_ ?_
      · (simp only [execOp, Act.eval, e27]; go_simp; first | done | (simp; done) | (simp [*]; done) | omega | (simp; omega) | (simp [*]; omega))
      · exact hK'
    | 6, ho, hun, hdep, hK, hfl, _ =>
      obtain rfl := Option.some.inj ho
      have d5 : lp.getD 5 false = true := hdep { on := 5, ground := .data } (by simp) rfl
      have e28 : a'.tmps[28]? = some (.pointer (some ⟨D, 0, none⟩)) := (hS.don 5 _ 28 rfl d5 rfl).trans (by simp only [putAll, Act.put, List.setIfInBounds_toArray, List.set_cons_zero, List.set_cons_succ]; rfl)
      have hK' := hK g w' (fun _ _ _ _ _ _ => rfl) (by rw [hfl 16 (by decide), hfl 17 (by decide), hfl 18 (by decide), hfl 19 (by decide)]; exact hR) (.pointer (some ⟨D, 1, none⟩)) (by simp only [valO, Option.bind_some]; simp only [putAll, Act.put, List.setIfInBounds_toArray, List.set_cons_zero, List.set_cons_succ]; rfl)
      clear hS hdep hR
      refine gh_quiet8 (v := .pointer (some ⟨D, 1, none⟩)) ?_ ?_
      · (simp only [execOp, Act.eval, e28]; go_simp; first | done | (simp; done) | (simp [*]; done) | omega | (simp; omega) | (simp [*]; omega))
      · exact hK'
    | 7, ho, hun, hdep, hK, hfl, _ =>
      obtain rfl := Option.some.inj ho
      have d6 : lp.getD 6 false = true := hdep { on := 6, ground := .data } (by simp) rfl
      have e29 : a'.tmps[29]? = some (.pointer (some ⟨D, 1, none⟩)) := (hS.don 6 _ 29 rfl d6 rfl).trans (by simp only [putAll, Act.put, List.setIfInBounds_toArray, List.set_cons_zero, List.set_cons_succ]; rfl)
      have hK' := hK g w' (fun _ _ _ _ _ _ => rfl) (by rw [hfl 16 (by decide), hfl 17 (by decide), hfl 18 (by decide), hfl 19 (by decide)]; exact hR) (.slice (some ⟨gp, 0, none⟩) P.length cp) (by simp only [valO, Option.bind_some]; simp only [putAll, Act.put, List.setIfInBounds_toArray, List.set_cons_zero, List.set_cons_succ]; rfl)
      clear hS hdep hR
      refine gh_quiet8 (v := .slice (some ⟨gp, 0, none⟩) P.length cp) ?_ ?_
      · (simp only [execOp, Act.eval, e29]; go_simp; first | done | (simp; done) | (simp [*]; done) | omega | (simp; omega) | (simp [*]; omega))
      · exact hK'
    | 8, ho, hun, hdep, hK, hfl, _ =>
      obtain rfl := Option.some.inj ho
      have o1 : a'.tmps[1]? = some (.int .i64 (n : Int)) := (hS.old8 1 (by simp)).trans rfl
      have hK' := hK g w' (fun _ _ _ _ _ _ => rfl) (by rw [hfl 16 (by decide), hfl 17 (by decide), hfl 18 (by decide), hfl 19 (by decide)]; exact hR) (.int .i64 (n : Int)) (by simp only [valO, Option.bind_some]; simp only [putAll, Act.put, List.setIfInBounds_toArray, List.set_cons_zero, List.set_cons_succ]; rfl)
      clear hS hdep hR
      refine gh_quiet8 (v := .int .i64 (n : Int)) ?_ ?_
      · (simp only [execOp, Act.eval, o1]; go_simp; first | done | (simp; done) | (simp [*]; done) | omega | (simp; omega) | (simp [*]; omega))
      · exact hK'
    | 9, ho, hun, hdep, hK, hfl, _ =>
      obtain rfl := Option.some.inj ho
      have d7 : lp.getD 7 false = true := hdep { on := 7, ground := .data } (by simp) rfl
      have e30 : a'.tmps[30]? = some (.slice (some ⟨gp, 0, none⟩) P.length cp) := (hS.don 7 _ 30 rfl d7 rfl).trans (by simp only [putAll, Act.put, List.setIfInBounds_toArray, List.set_cons_zero, List.set_cons_succ]; rfl)
      have d8 : lp.getD 8 false = true := hdep { on := 8, ground := .data } (by simp) rfl
      have e31 : a'.tmps[31]? = some (.int .i64 (n : Int)) := (hS.don 8 _ 31 rfl d8 rfl).trans (by simp only [putAll, Act.put, List.setIfInBounds_toArray, List.set_cons_zero, List.set_cons_succ]; rfl)
      have hK' := hK g w' (fun _ _ _ _ _ _ => rfl) (by rw [hfl 16 (by decide), hfl 17 (by decide), hfl 18 (by decide), hfl 19 (by decide)]; exact hR) (.pointer (some ⟨gp, n * 3, none⟩)) (by simp only [valO, Option.bind_some]; simp only [putAll, Act.put, List.setIfInBounds_toArray, List.set_cons_zero, List.set_cons_succ]; rfl)
      clear hS hdep hR
      refine gh_quiet8 (v := .pointer (some ⟨gp, n * 3, none⟩)) ?_ ?_
      · (simp only [execOp, Act.eval, e30, e31]; go_simp; first | done | (simp; done) | (simp [*]; done) | omega | (simp; omega) | (simp [*]; omega))
      · exact hK'
    | 10, ho, hun, hdep, hK, hfl, _ =>
      obtain rfl := Option.some.inj ho
      have d9 : lp.getD 9 false = true := hdep { on := 9, ground := .data } (by simp) rfl
      have e32 : a'.tmps[32]? = some (.pointer (some ⟨gp, n * 3, none⟩)) := (hS.don 9 _ 32 rfl d9 rfl).trans (by simp only [putAll, Act.put, List.setIfInBounds_toArray, List.set_cons_zero, List.set_cons_succ]; rfl)
      have hK' := hK g w' (fun _ _ _ _ _ _ => rfl) (by rw [hfl 16 (by decide), hfl 17 (by decide), hfl 18 (by decide), hfl 19 (by decide)]; exact hR) (.agg #[.int .u64 (hI y), .int .u64 (lI y), .int .i64 u]) (by simp only [valO, Option.bind_some]; simp only [putAll, Act.put, List.setIfInBounds_toArray, List.set_cons_zero, List.set_cons_succ]; rfl)
      clear hS hdep hR
      refine gh_quiet8 (v := .agg #[.int .u64 (hI y), .int .u64 (lI y), .int .i64 u]) ?_ ?_
      · (simp only [execOp, Act.eval, e32]; go_simp; first | done | (simp; done) | (simp [*]; done) | omega | (simp; omega) | (simp [*]; omega))
      · exact hK'
    | 11, ho, hun, hdep, hK, hfl, _ =>
      obtain rfl := Option.some.inj ho
      have d3 : lp.getD 3 false = true := hdep { on := 3, ground := .data } (by simp) rfl
      have e26 : a'.tmps[26]? = some (.int .i64 F) := (hS.don 3 _ 26 rfl d3 rfl).trans (by simp only [putAll, Act.put, List.setIfInBounds_toArray, List.set_cons_zero, List.set_cons_succ]; rfl)
      have d10 : lp.getD 10 false = true := hdep { on := 10, ground := .data } (by simp) rfl
      have e33 : a'.tmps[33]? = some (.agg #[.int .u64 (hI y), .int .u64 (lI y), .int .i64 u]) := (hS.don 10 _ 33 rfl d10 rfl).trans (by simp only [putAll, Act.put, List.setIfInBounds_toArray, List.set_cons_zero, List.set_cons_succ]; rfl)
      have KE := KO w'
      clear hdep
      unfold Oper.wp
      simp only [execOp, Act.eval]
      simp [go_sem, e26, e33, Oper.upon]
      refine KE.mono ?_
      rintro e W2 ⟨rfl, hb2⟩
      exact hK g W2 (fun _ _ _ _ _ _ => rfl) (by rw [hfl 16 (by decide), hfl 17 (by decide), hfl 18 (by decide), hfl 19 (by decide)]; exact hR.below hb2) _ (by simp only [valO, Option.bind_some]; simp only [putAll, Act.put, List.setIfInBounds_toArray, List.set_cons_zero, List.set_cons_succ]; rfl)
    | 12, ho, hun, hdep, hK, hfl, _ =>
      obtain rfl := Option.some.inj ho
      have d11 : lp.getD 11 false = true := hdep { on := 11, ground := .data } (by simp) rfl
      have e34 : a'.tmps[34]? = some (.tuple #[.agg #[.int .u64 (hI a), .int .u64 (lI a), .int .i64 m], .agg #[.int .u64 (hI b), .int .u64 (lI b), .int .i64 m], .bool t]) := (hS.don 11 _ 34 rfl d11 rfl).trans (by simp only [putAll, Act.put, List.setIfInBounds_toArray, List.set_cons_zero, List.set_cons_succ]; rfl)
      have hK' := hK g w' (fun _ _ _ _ _ _ => rfl) (by rw [hfl 16 (by decide), hfl 17 (by decide), hfl 18 (by decide), hfl 19 (by decide)]; exact hR) (.tuple #[.agg #[.int .u64 (hI a), .int .u64 (lI a), .int .i64 m], .agg #[.int .u64 (hI b), .int .u64 (lI b), .int .i64 m], .bool t]) (by simp only [valO, Option.bind_some]; simp only [putAll, Act.put, List.setIfInBounds_toArray, List.set_cons_zero, List.set_cons_succ]; rfl)
      clear hS hdep hR
      refine gh_quiet8 (v := .tuple #[.agg #[.int .u64 (hI a), .int .u64 (lI a), .int .i64 m], .agg #[.int .u64 (hI b), .int .u64 (lI b), .int .i64 m], .bool t]) ?_ ?_
      · (simp only [execOp, Act.eval, e34]; go_simp; first | done | (simp; done) | (simp [*]; done) | omega | (simp; omega) | (simp [*]; omega))
      · exact hK'
    | 13, ho, hun, hdep, hK, hfl, _ =>
      obtain rfl := Option.some.inj ho
      have d12 : lp.getD 12 false = true := hdep { on := 12, ground := .data } (by simp) rfl
      have e22 : a'.tmps[22]? = some (.tuple #[.agg #[.int .u64 (hI a), .int .u64 (lI a), .int .i64 m], .agg #[.int .u64 (hI b), .int .u64 (lI b), .int .i64 m], .bool t]) := (hS.don 12 _ 22 rfl d12 rfl).trans (by simp only [putAll, Act.put, List.setIfInBounds_toArray, List.set_cons_zero, List.set_cons_succ]; rfl)
      have hK' := hK g w' (fun _ _ _ _ _ _ => rfl) (by rw [hfl 16 (by decide), hfl 17 (by decide), hfl 18 (by decide), hfl 19 (by decide)]; exact hR) (.agg #[.int .u64 (hI a), .int .u64 (lI a), .int .i64 m]) (by simp only [valO, Option.bind_some]; simp only [putAll, Act.put, List.setIfInBounds_toArray, List.set_cons_zero, List.set_cons_succ]; rfl)
      clear hS hdep hR
      refine gh_quiet8 (v := .agg #[.int .u64 (hI a), .int .u64 (lI a), .int .i64 m]) ?_ ?_
      · (simp only [execOp, Act.eval, e22]; go_simp; first | done | (simp; done) | (simp [*]; done) | omega | (simp; omega) | (simp [*]; omega))
      · exact hK'
    | 14, ho, hun, hdep, hK, hfl, _ =>
      obtain rfl := Option.some.inj ho
      have d12 : lp.getD 12 false = true := hdep { on := 12, ground := .data } (by simp) rfl
      have e22 : a'.tmps[22]? = some (.tuple #[.agg #[.int .u64 (hI a), .int .u64 (lI a), .int .i64 m], .agg #[.int .u64 (hI b), .int .u64 (lI b), .int .i64 m], .bool t]) := (hS.don 12 _ 22 rfl d12 rfl).trans (by simp only [putAll, Act.put, List.setIfInBounds_toArray, List.set_cons_zero, List.set_cons_succ]; rfl)
      have hK' := hK g w' (fun _ _ _ _ _ _ => rfl) (by rw [hfl 16 (by decide), hfl 17 (by decide), hfl 18 (by decide), hfl 19 (by decide)]; exact hR) (.agg #[.int .u64 (hI b), .int .u64 (lI b), .int .i64 m]) (by simp only [valO, Option.bind_some]; simp only [putAll, Act.put, List.setIfInBounds_toArray, List.set_cons_zero, List.set_cons_succ]; rfl)
      clear hS hdep hR
      refine gh_quiet8 (v := .agg #[.int .u64 (hI b), .int .u64 (lI b), .int .i64 m]) ?_ ?_
      · (simp only [execOp, Act.eval, e22]; go_simp; first | done | (simp; done) | (simp [*]; done) | omega | (simp; omega) | (simp [*]; omega))
      · exact hK'
    | 15, ho, hun, hdep, hK, hfl, _ =>
      obtain rfl := Option.some.inj ho
      have d12 : lp.getD 12 false = true := hdep { on := 12, ground := .data } (by simp) rfl
      have e22 : a'.tmps[22]? = some (.tuple #[.agg #[.int .u64 (hI a), .int .u64 (lI a), .int .i64 m], .agg #[.int .u64 (hI b), .int .u64 (lI b), .int .i64 m], .bool t]) := (hS.don 12 _ 22 rfl d12 rfl).trans (by simp only [putAll, Act.put, List.setIfInBounds_toArray, List.set_cons_zero, List.set_cons_succ]; rfl)
      have hK' := hK g w' (fun _ _ _ _ _ _ => rfl) (by rw [hfl 16 (by decide), hfl 17 (by decide), hfl 18 (by decide), hfl 19 (by decide)]; exact hR) (.bool t) (by simp only [valO, Option.bind_some]; simp only [putAll, Act.put, List.setIfInBounds_toArray, List.set_cons_zero, List.set_cons_succ]; rfl)
      clear hS hdep hR
      refine gh_quiet8 (v := .bool t) ?_ ?_
      · (simp only [execOp, Act.eval, e22]; go_simp; first | done | (simp; done) | (simp [*]; done) | omega | (simp; omega) | (simp [*]; omega))
      · exact hK'
    | 16, ho, hun, hdep, hK, hfl, _ =>
      obtain rfl := Option.some.inj ho
      rw [hun] at hR
      have hK' := hK (w'.heap.size, g.2) (w'.alloc (.cells #[.int .u64 0, .int .u64 0, .int .i64 0] 45)) (fun k ok s hk hl hd => gh_same8 (d := 7) (s := s) (by simp only [putAll, Act.put, List.setIfInBounds_toArray, List.set_cons_zero, List.set_cons_succ]; rfl) (by rintro rfl; have := dstG_of (by kernel_rfl) k 16 ok _ 7 hk rfl hd rfl; subst this; rw [hun] at hl; cases hl)) (by rw [hfl 17 (by decide), hfl 18 (by decide), hfl 19 (by decide), getD_set_same (by rw [hsz]; decide)]; exact hR.al1) (.pointer (some ⟨w'.heap.size, 0, none⟩)) (by simp only [valO, Option.bind_some]; simp only [putAll, Act.put, List.setIfInBounds_toArray, List.set_cons_zero, List.set_cons_succ]; rfl)
      clear hS hdep hR
      unfold Oper.wp
      simp only [execOp]
      go_simp
      exact hK'
    | 17, ho, hun, hdep, hK, hfl, _ =>
      obtain rfl := Option.some.inj ho
      rw [hun] at hR
      have hK' := hK (g.1, w'.heap.size) (w'.alloc (.cells #[.int .u64 0, .int .u64 0, .int .i64 0] 45)) (fun k ok s hk hl hd => gh_same8 (d := 8) (s := s) (by simp only [putAll, Act.put, List.setIfInBounds_toArray, List.set_cons_zero, List.set_cons_succ]; rfl) (by rintro rfl; have := dstG_of (by kernel_rfl) k 17 ok _ 8 hk rfl hd rfl; subst this; rw [hun] at hl; cases hl)) (by rw [hfl 16 (by decide), hfl 18 (by decide), hfl 19 (by decide), getD_set_same (by rw [hsz]; decide)]; exact hR.al2) (.pointer (some ⟨w'.heap.size, 0, none⟩)) (by simp only [valO, Option.bind_some]; simp only [putAll, Act.put, List.setIfInBounds_toArray, List.set_cons_zero, List.set_cons_succ]; rfl)
      clear hS hdep hR
      unfold Oper.wp
      simp only [execOp]
      go_simp
      exact hK'
    | 18, ho, hun, hdep, hK, hfl, _ =>
      obtain rfl := Option.some.inj ho
      have d13 : lp.getD 13 false = true := hdep { on := 13, ground := .data } (by simp) rfl
      have e35 : a'.tmps[35]? = some (.agg #[.int .u64 (hI a), .int .u64 (lI a), .int .i64 m]) := (hS.don 13 _ 35 rfl d13 rfl).trans (by simp only [putAll, Act.put, List.setIfInBounds_toArray, List.set_cons_zero, List.set_cons_succ]; rfl)
      have d16 : lp.getD 16 false = true := hdep { on := 16, ground := .data } (by simp) rfl
      have e7 : a'.tmps[7]? = some (.pointer (some ⟨g.1, 0, none⟩)) := (hS.don 16 _ 7 rfl d16 rfl).trans (by simp only [putAll, Act.put, List.setIfInBounds_toArray, List.set_cons_zero, List.set_cons_succ]; rfl)
      rw [hun] at hR
      have hz := (hR.a d16).2
      simp only [Bool.false_eq_true, if_false] at hz
      obtain ⟨z0, z1, z2, k0, k1, k2⟩ := hz
      have hK' := hK g _ (fun _ _ _ _ _ _ => rfl) (by rw [hfl 16 (by decide), hfl 17 (by decide), hfl 19 (by decide), getD_set_same (by rw [hsz]; decide)]; exact hR.st1 d16) undef rfl
      unfold setP8 at hK'
      clear hS hdep hR
      unfold Oper.wp
      simp [execOp, Act.eval, e35, e7, go_sem, z0, z1, z2, k0, k1, k2, Oper.upon]
      exact hK'
    | 19, ho, hun, hdep, hK, hfl, _ =>
      obtain rfl := Option.some.inj ho
      have d14 : lp.getD 14 false = true := hdep { on := 14, ground := .data } (by simp) rfl
      have e36 : a'.tmps[36]? = some (.agg #[.int .u64 (hI b), .int .u64 (lI b), .int .i64 m]) := (hS.don 14 _ 36 rfl d14 rfl).trans (by simp only [putAll, Act.put, List.setIfInBounds_toArray, List.set_cons_zero, List.set_cons_succ]; rfl)
      have d17 : lp.getD 17 false = true := hdep { on := 17, ground := .data } (by simp) rfl
      have e8 : a'.tmps[8]? = some (.pointer (some ⟨g.2, 0, none⟩)) := (hS.don 17 _ 8 rfl d17 rfl).trans (by simp only [putAll, Act.put, List.setIfInBounds_toArray, List.set_cons_zero, List.set_cons_succ]; rfl)
      rw [hun] at hR
      have hz := (hR.b d17).2
      simp only [Bool.false_eq_true, if_false] at hz
      obtain ⟨z0, z1, z2, k0, k1, k2⟩ := hz
      have hK' := hK g _ (fun _ _ _ _ _ _ => rfl) (by rw [hfl 16 (by decide), hfl 17 (by decide), hfl 18 (by decide), getD_set_same (by rw [hsz]; decide)]; exact hR.st2 d17) undef rfl
      unfold setP8 at hK'
      clear hS hdep hR
      unfold Oper.wp
      simp [execOp, Act.eval, e36, e8, go_sem, z0, z1, z2, k0, k1, k2, Oper.upon]
      exact hK'
    | 20, ho, hun, hdep, hK, hfl, _ =>
      obtain rfl := Option.some.inj ho
      have d15 : lp.getD 15 false = true := hdep { on := 15, ground := .data } (by simp) rfl
      have e37 : a'.tmps[37]? = some (.bool t) := (hS.don 15 _ 37 rfl d15 rfl).trans (by simp only [putAll, Act.put, List.setIfInBounds_toArray, List.set_cons_zero, List.set_cons_succ]; rfl)
      have hK' := hK g w' (fun _ _ _ _ _ _ => rfl) (by rw [hfl 16 (by decide), hfl 17 (by decide), hfl 18 (by decide), hfl 19 (by decide)]; exact hR) (.bool t) (by simp only [valO, Option.bind_some]; simp only [putAll, Act.put, List.setIfInBounds_toArray, List.set_cons_zero, List.set_cons_succ]; rfl)
      clear hS hdep hR
      refine gh_quiet8 (v := .bool t) ?_ ?_
      · (simp only [execOp, Act.eval, e37]; go_simp; first | done | (simp; done) | (simp [*]; done) | omega | (simp; omega) | (simp [*]; omega))
      · exact hK'
    | n + 21, ho, hun, hdep, hK, hfl, hq => exact absurd hq (by omega)
  case fin =>
    intro g V2 hR
    have hR : R2K w0 a b m true true true true g V2 := by simpa using hR
    have h1 := hR.a rfl
    have h2 := hR.b rfl
    rw [if_pos rfl] at h1 h2
    have HA := hidX h1.2
    have HY := hidX h2.2
    have HB := hidX hR.bel
    have HG := hidX h1.1
    simp only [putAll, Act.put, List.setIfInBounds_toArray, List.set_cons_zero, List.set_cons_succ]
    clear hR h1 h2
    obtain ⟨g1, g2⟩ := g
    dsimp only at HA HY HG ⊢
    refine wl_nil8 (P := Try.prog) (ops := #[]) ?_
    clear KO
    cases t
    · have hc : F ≤ u := by have := Ht.out.symm; rw [decide_eq_false_iff_not] at this; omega
      go_wp2
      exact bodyPost_ret (v := .int .i64 (-1)) (by simp [results, Try.results26, go_sem, *]) rfl ⟨⟨_, rfl, .inl ⟨hc, rfl⟩⟩, HB.out⟩
    · have hc : u < F := by have := Ht.out.symm; rwa [decide_eq_true_eq] at this
      obtain ⟨a0, a1, a2, a3, a4, a5⟩ := HA.out
      obtain ⟨c0, c1, c2, -, -, -⟩ := HY.out
      have HA2 := hidX (HA.out.set8 b m)
      have HB2 := hidX (((HB.out.setCell (p := ⟨g1, 0, none⟩) HG.out (.int .u64 (hI b))).setCell (p := ⟨g1, 1, none⟩) HG.out (.int .u64 (lI b))).setCell (p := ⟨g1, 2, none⟩) HG.out (.int .i64 m))
      have KX := KF _ (HCD.out _ HB2.out)
      go_wp2_with fail
      refine KX.mono ?_
      rintro e w5 ⟨⟨q, rfl, hq⟩, hb⟩
      have HR := hidX (And.intro hq (keepb hb HB2.out))
      clear KX hq hb a0 a1 a2 a3 a4 a5 c0 c1 c2
      go_wp2
      exact bodyPost_ret (v := .int .i64 q) (by simp [results, Try.results26, go_sem]) rfl ⟨⟨_, rfl, .inr ⟨hc, HQ.out q (fun _ => HR.out.1) hc⟩⟩, HR.out.2⟩
end
end Go.Proofs.Ytofpbommhklooaa
