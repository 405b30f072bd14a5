/-
  Part 10 of the proof: 2 texts, one behind the other.
-/
import Derived.Test.YtologchdnjnadaaDoorPart9
/-
  A reader of code's text: name, number, word.
-/
namespace Go.Proofs.YtologchdnjnadaaDoor
open Go.RowKit
set_option linter.unusedSimpArgs false
set_option linter.unusedVariables false
attribute [local go_sem] Oper.semAt_some

theorem jump_ret15 {l : Nat} {J : Act → World → Prop} {Q : Exit → Act → World → Prop} {a : Act} {w : World} (h : Q .ret a w) : Exit.jump l J Q .ret a w := h
theorem then_more15 {P : Program} {A : Code} {K K' : Act → World → Prop} {Q : Exit → Act → World → Prop} {a : Act} {w : World} (h : A.wp P (Exit.then K (fun _ _ _ => False)) a w) (hk : ∀ a w, K a w → K' a w) : A.wp P (Exit.then K' Q) a w := fun b k cs => by
  obtain ⟨e, a', w', h, arr⟩ := h b k cs
  refine ⟨e, a', w', ?_, arr⟩
  cases e with
  | normal => exact hk _ _ h
  | _ => exact h.elim
theorem scope_two15 {P : Program} {a : Act} {w : World} {Q : Exit → Act → World → Prop} {A1 A2 X : Code} (l : Nat) (J : Act → World → Prop) (μ : Act → World → Nat) (hf : findLabel (A1.seq (A2.seq ((Code.label l).seq X))) l = some (Code.skip.seq X))
    (pre : A1.wp P (Exit.then (fun a w => A2.wp P (Exit.then J (fun _ _ _ => False)) a w) (fun _ _ _ => False)) a w)
    (pass : ∀ a w, J a w → X.wp P (Exit.jump l (fun a' w' => J a' w' ∧ μ a' w' < μ a w) Q) a w) : (Code.scope (A1.seq (A2.seq ((Code.label l).seq X)))).wp P Q a w := by
  refine wp_scope_jumps l J μ hf ?_ (fun a w h => wp_seq (wp_skip (pass a w h)))
  refine wp_seq (then_more15 pre fun a w h => wp_seq (then_more15 h fun a w h => wp_seq (wp_label ?_)))
  refine (show X.wp P (Exit.jump l J Q) a w from fun b k cs => ?_)
  obtain ⟨e, a2, w2, h2, arr2⟩ := pass a w h b k cs
  refine ⟨e, a2, w2, ?_, arr2⟩
  cases e <;> first | exact h2 | exact ⟨h2.1, h2.2.1⟩
def atA (R : Nat) (W : World) : Nat := (intOf13 ((W.cell? ⟨R, 1, none⟩).getD undef)).toNat
theorem RdA.at {W : World} {R : Nat} {s : ByteArray} {k : Nat} (h : RdA W R s (k : Int)) : atA R W = k := by unfold atA; rw [h.c1]; simp [intOf13]
set_option maxHeartbeats 4000000 in
theorem rname_any (R : Nat) (s : ByteArray) (k : Nat) (w : World) (h : RdA w R s k) (hk : k ≤ s.size) (hs : s.size ≤ 1000000000) (hN : Nm w) (hR : 0 ≠ R) :
    Calls Tryd.prog 31 #[.pointer (some ⟨R, 0, none⟩)] w fun e w' => e = .returned (.tuple #[.int .i64 (nmV (nmP (fr s k)) : Int), .bool (nmP (fr s k)).isSome]) ∧ RdA w' R s ((k + nmC (nmP (fr s k)) : Nat) : Int) ∧ Bs R w w' := by
  have hNk : ∀ W, Bs R w W → Nm W := fun W hb j hj => by
    have := hN j hj
    have hlt := cell_in this
    unfold World.cell? at this ⊢
    rw [hb.blk _ hlt hR]; exact this
  have HS0 : Hid (nmF (fr s k) 5 0 = nmP (fr s k) ∧ RdA w R s k ∧ Bs R w w) := hid13 ⟨rfl, h, Bs.refl _ _⟩
  clear h hN
  go_enter Tryd.func31, Tryd.ntmps31
  go_wp2_with fail
  go_loopg [4, 5] 5 (fun g x4 i wr => ∃ (j : Nat), j + g = 5 ∧ i = .int .i64 (j : Int) ∧ Hid (nmF (fr s k) g j = nmP (fr s k) ∧ RdA wr R s k ∧ Bs R w wr))
  case atStart => exact ⟨0, by omega, rfl, HS0⟩
  case round =>
    clear HS0
    obtain ⟨j, hj, rfl, HS⟩ := hrel
    by_cases hlt : j < 5
    · have hli : (j : Int) < 5 := by omega
      have c0 := hNk wr HS.out.2.2 j hlt
      have K1 := rtakes_any R s (nmS j) k wr HS.out.2.1 hk hs (by have : ∀ j : Fin 5, (nmS j.val).size ≤ 100 := by decide
                                                                  exact this ⟨j, hlt⟩)
      have mj : IntKind.i64.wrap ((j : Int) + 1) = (j : Int) + 1 := by rw [IntKind.wrap_i64]; omega
      obtain ⟨g, rfl⟩ : ∃ g, gk = g + 1 := ⟨gk - 1, by omega⟩
      have HE : Hid ((if (nmL j).isPrefixOf (fr s k) = true then some j else nmF (fr s k) g (j + 1)) = nmP (fr s k)) := hid13 HS.out.1
      have hz : (nmS j).data.toList = nmL j := rfl
      have hz2 : (nmS j).size = (nmL j).length := rfl
      rw [hz, hz2] at K1
      have HJ : Hid (j + (g + 1) = 5 ∧ j < 5) := ⟨hj, hlt⟩
      have HBs := hid13 HS.out.2.2
      clear hz hz2 HS hj hlt
      generalize (nmL j).isPrefixOf (fr s k) = t at *
      cases t with
      | true =>
        have HP : Hid (nmP (fr s k) = some j) := hid13 HE.out.symm
        clear HE
        go_wp2_with fail
        refine K1.mono ?_
        rintro e w1 ⟨rfl, h1, h2⟩
        have H1 := hid13 h1
        have H2 := hid13 (HBs.out.trans h2)
        clear K1 h1 h2
        go_wp2
        exact bodyPost_ret (v := .tuple #[.int .i64 (j : Int), .bool true]) (by simp [results, Tryd.results31, go_sem]) rfl ⟨by rw [HP.out]; rfl, by rw [HP.out]; exact H1.out, H2.out⟩
      | false =>
        have HE2 : Hid (nmF (fr s k) g (j + 1) = nmP (fr s k)) := hid13 HE.out
        clear HE
        go_wp2_with fail
        refine K1.mono ?_
        rintro e w1 ⟨rfl, h1, h2⟩
        have H1 := hid13 h1
        have H2 := hid13 (HBs.out.trans h2)
        clear K1 h1 h2
        go_wp2
        go_roundg g
        case measure => omega
        case rel => exact ⟨j + 1, by have := HJ.out; omega, rfl, hid13 ⟨HE2.out, H1.out, H2.out⟩⟩
    · have hli : ¬ (j : Int) < 5 := by omega
      obtain rfl : gk = 0 := by omega
      have HP : Hid (nmP (fr s k) = none) := hid13 HS.out.1.symm
      clear hj hlt
      go_wp2
      exact bodyPost_ret (v := .tuple #[.int .i64 0, .bool false]) (by simp [results, Tryd.results31, go_sem]) rfl ⟨by rw [HP.out]; rfl, by rw [HP.out]; exact HS.out.2.1, HS.out.2.2⟩
end Go.Proofs.YtologchdnjnadaaDoor
/-
  A reader of code's text: number, word.
-/
namespace Go.Proofs.YtologchdnjnadaaDoor
open Go.RowKit
set_option linter.unusedSimpArgs false
set_option linter.unusedVariables false
attribute [local go_sem] Oper.semAt_some

set_option maxRecDepth 20000

theorem arr67a (t : Array Value) (h : t.size = 67) : ∃ u : Nat → Value, (∀ i, u i = t.getD i undef) ∧ t = #[u 0, u 1, u 2, u 3, u 4, u 5, u 6, u 7, u 8, u 9, u 10, u 11, u 12, u 13, u 14, u 15, u 16, u 17, u 18, u 19, u 20, u 21, u 22, u 23, u 24, u 25, u 26, u 27, u 28, u 29, u 30, u 31, u 32, u 33, u 34, u 35, u 36, u 37, u 38, u 39, u 40, u 41, u 42, u 43, u 44, u 45, u 46, u 47, u 48, u 49, u 50, u 51, u 52, u 53, u 54, u 55, u 56, u 57, u 58, u 59, u 60, u 61, u 62, u 63, u 64, u 65, u 66] := by
  refine ⟨fun i => t.getD i undef, fun _ => rfl, ?_⟩
  obtain ⟨l⟩ := t
  have h' : l.length = 67 := h
  have e : l = (List.range 67).map (fun i => (⟨l⟩ : Array Value).getD i undef) := by
    apply List.ext_getElem
    · simp [h']
    · intro i h1 h2
      simp [Array.getD, h1]
  have e2 : (List.range 67).map (fun i => (⟨l⟩ : Array Value).getD i undef) = [(⟨l⟩ : Array Value).getD 0 undef, (⟨l⟩ : Array Value).getD 1 undef, (⟨l⟩ : Array Value).getD 2 undef, (⟨l⟩ : Array Value).getD 3 undef, (⟨l⟩ : Array Value).getD 4 undef, (⟨l⟩ : Array Value).getD 5 undef, (⟨l⟩ : Array Value).getD 6 undef, (⟨l⟩ : Array Value).getD 7 undef, (⟨l⟩ : Array Value).getD 8 undef, (⟨l⟩ : Array Value).getD 9 undef, (⟨l⟩ : Array Value).getD 10 undef, (⟨l⟩ : Array Value).getD 11 undef, (⟨l⟩ : Array Value).getD 12 undef, (⟨l⟩ : Array Value).getD 13 undef, (⟨l⟩ : Array Value).getD 14 undef, (⟨l⟩ : Array Value).getD 15 undef, (⟨l⟩ : Array Value).getD 16 undef, (⟨l⟩ : Array Value).getD 17 undef, (⟨l⟩ : Array Value).getD 18 undef, (⟨l⟩ : Array Value).getD 19 undef, (⟨l⟩ : Array Value).getD 20 undef, (⟨l⟩ : Array Value).getD 21 undef, (⟨l⟩ : Array Value).getD 22 undef, (⟨l⟩ : Array Value).getD 23 undef, (⟨l⟩ : Array Value).getD 24 undef, (⟨l⟩ : Array Value).getD 25 undef, (⟨l⟩ : Array Value).getD 26 undef, (⟨l⟩ : Array Value).getD 27 undef, (⟨l⟩ : Array Value).getD 28 undef, (⟨l⟩ : Array Value).getD 29 undef, (⟨l⟩ : Array Value).getD 30 undef, (⟨l⟩ : Array Value).getD 31 undef, (⟨l⟩ : Array Value).getD 32 undef, (⟨l⟩ : Array Value).getD 33 undef, (⟨l⟩ : Array Value).getD 34 undef, (⟨l⟩ : Array Value).getD 35 undef, (⟨l⟩ : Array Value).getD 36 undef, (⟨l⟩ : Array Value).getD 37 undef, (⟨l⟩ : Array Value).getD 38 undef, (⟨l⟩ : Array Value).getD 39 undef, (⟨l⟩ : Array Value).getD 40 undef, (⟨l⟩ : Array Value).getD 41 undef, (⟨l⟩ : Array Value).getD 42 undef, (⟨l⟩ : Array Value).getD 43 undef, (⟨l⟩ : Array Value).getD 44 undef, (⟨l⟩ : Array Value).getD 45 undef, (⟨l⟩ : Array Value).getD 46 undef, (⟨l⟩ : Array Value).getD 47 undef, (⟨l⟩ : Array Value).getD 48 undef, (⟨l⟩ : Array Value).getD 49 undef, (⟨l⟩ : Array Value).getD 50 undef, (⟨l⟩ : Array Value).getD 51 undef, (⟨l⟩ : Array Value).getD 52 undef, (⟨l⟩ : Array Value).getD 53 undef, (⟨l⟩ : Array Value).getD 54 undef, (⟨l⟩ : Array Value).getD 55 undef, (⟨l⟩ : Array Value).getD 56 undef, (⟨l⟩ : Array Value).getD 57 undef, (⟨l⟩ : Array Value).getD 58 undef, (⟨l⟩ : Array Value).getD 59 undef, (⟨l⟩ : Array Value).getD 60 undef, (⟨l⟩ : Array Value).getD 61 undef, (⟨l⟩ : Array Value).getD 62 undef, (⟨l⟩ : Array Value).getD 63 undef, (⟨l⟩ : Array Value).getD 64 undef, (⟨l⟩ : Array Value).getD 65 undef, (⟨l⟩ : Array Value).getD 66 undef] := rfl
  rw [e2] at e
  exact congrArg _ e

theorem arr32a (t : Array Value) (h : t.size = 32) : ∃ u : Nat → Value, (∀ i, u i = t.getD i undef) ∧ t = #[u 0, u 1, u 2, u 3, u 4, u 5, u 6, u 7, u 8, u 9, u 10, u 11, u 12, u 13, u 14, u 15, u 16, u 17, u 18, u 19, u 20, u 21, u 22, u 23, u 24, u 25, u 26, u 27, u 28, u 29, u 30, u 31] := by
  refine ⟨fun i => t.getD i undef, fun _ => rfl, ?_⟩
  obtain ⟨l⟩ := t
  have h' : l.length = 32 := h
  have e : l = (List.range 32).map (fun i => (⟨l⟩ : Array Value).getD i undef) := by
    apply List.ext_getElem
    · simp [h']
    · intro i h1 h2
      simp [Array.getD, h1]
  have e2 : (List.range 32).map (fun i => (⟨l⟩ : Array Value).getD i undef) = [(⟨l⟩ : Array Value).getD 0 undef, (⟨l⟩ : Array Value).getD 1 undef, (⟨l⟩ : Array Value).getD 2 undef, (⟨l⟩ : Array Value).getD 3 undef, (⟨l⟩ : Array Value).getD 4 undef, (⟨l⟩ : Array Value).getD 5 undef, (⟨l⟩ : Array Value).getD 6 undef, (⟨l⟩ : Array Value).getD 7 undef, (⟨l⟩ : Array Value).getD 8 undef, (⟨l⟩ : Array Value).getD 9 undef, (⟨l⟩ : Array Value).getD 10 undef, (⟨l⟩ : Array Value).getD 11 undef, (⟨l⟩ : Array Value).getD 12 undef, (⟨l⟩ : Array Value).getD 13 undef, (⟨l⟩ : Array Value).getD 14 undef, (⟨l⟩ : Array Value).getD 15 undef, (⟨l⟩ : Array Value).getD 16 undef, (⟨l⟩ : Array Value).getD 17 undef, (⟨l⟩ : Array Value).getD 18 undef, (⟨l⟩ : Array Value).getD 19 undef, (⟨l⟩ : Array Value).getD 20 undef, (⟨l⟩ : Array Value).getD 21 undef, (⟨l⟩ : Array Value).getD 22 undef, (⟨l⟩ : Array Value).getD 23 undef, (⟨l⟩ : Array Value).getD 24 undef, (⟨l⟩ : Array Value).getD 25 undef, (⟨l⟩ : Array Value).getD 26 undef, (⟨l⟩ : Array Value).getD 27 undef, (⟨l⟩ : Array Value).getD 28 undef, (⟨l⟩ : Array Value).getD 29 undef, (⟨l⟩ : Array Value).getD 30 undef, (⟨l⟩ : Array Value).getD 31 undef] := rfl
  rw [e2] at e
  exact congrArg _ e


theorem noGoto15 {Q : Exit → Act → World → Prop} {a : Act} {w : World} (h : Q .ret a w) : Exit.noGoto Q .ret a w := h
theorem bkL_cons (c : UInt8) (Y : List UInt8) : bkL (c :: Y) = if c = 32 then some Y else none := rfl
theorem dg_go {f n : Nat} {L M : List UInt8} {c : UInt8} (h : L = c :: M) (hd : isD c = true) : dgP (f + 1) n L = ((dgP f (10 * n + (c.toNat - 48)) M).1, (dgP f (10 * n + (c.toNat - 48)) M).2 + 1) := by
  subst h; show (if isD c = true then _ else _) = _; rw [if_pos hd]
theorem dg_none {f n : Nat} : dgP f n [] = (n, 0) := by cases f <;> rfl
theorem dg_not {f n : Nat} {L M : List UInt8} {c : UInt8} (h : L = c :: M) (hd : isD c = false) : dgP f n L = (n, 0) := by
  subst h
  cases f with
  | zero => rfl
  | succ f => show (if isD c = true then _ else _) = _; rw [if_neg (by rw [hd]; decide)]
/-- What is known at the label of number. -/
structure NuS (w : World) (R : Nat) (s : ByteArray) (k V C j n : Nat) (W : World) : Prop where
  lo : k + 1 ≤ j
  hi : j ≤ k + 10
  en : j ≤ s.size
  bd : n < 10 ^ (j - (k + 1))
  v : (dgP (9 - (j - (k + 1))) n (fr s j)).1 = V
  c : (j - (k + 1)) + (dgP (9 - (j - (k + 1))) n (fr s j)).2 = C
  r : RdA W R s j
  b : Bs R w W
theorem NuS.stop {w : World} {R : Nat} {s : ByteArray} {k V C j n : Nat} {W : World} (h : NuS w R s k V C j n W) (hc : ¬ (48 ≤ hrB s j ∧ hrB s j ≤ 57) ∨ j = k + 10) : V = n ∧ C = j - (k + 1) := by
  have key : dgP (9 - (j - (k + 1))) n (fr s j) = (n, 0) := by
    by_cases h1 : j = s.size
    · rw [fr_nil h1]; exact dg_none
    · obtain ⟨c, e1, e2⟩ := fr_cons (s := s) (k := j) (by have := h.en; omega)
      rcases hc with hc | hc
      · refine dg_not e1 ?_
        unfold hrB at hc
        rw [if_neg h1, e2] at hc
        unfold isD
        rw [Bool.and_eq_false_iff]
        simp only [decide_eq_false_iff_not]
        omega
      · rw [show 9 - (j - (k + 1)) = 0 by omega]; rfl
  have hv := h.v
  have hcc := h.c
  rw [key] at hv hcc
  exact ⟨hv.symm, by simpa using hcc.symm⟩
theorem NuS.go {w : World} {R : Nat} {s : ByteArray} {k V C j n : Nat} {W W' : World} (h : NuS w R s k V C j n W) (c1 : 48 ≤ hrB s j) (c2 : hrB s j ≤ 57) (hl : j < k + 10) (d : Nat) (hd : hrB s j - 48 = (d : Int)) (hr : RdA W' R s (j + 1 : Nat)) (hb : Bs R w W') : NuS w R s k V C (j + 1) (10 * n + d) W' ∧ j < s.size := by
  have h1 : j ≠ s.size := by
    intro q; unfold hrB at c1; rw [if_pos q] at c1; omega
  have hlt : j < s.size := by have := h.en; omega
  obtain ⟨c, e1, e2⟩ := fr_cons (s := s) (k := j) hlt
  have e3 : hrB s j = (c.toNat : Int) := by unfold hrB; rw [if_neg h1, e2]
  have hlo := h.lo
  have hD : isD c = true := by unfold isD; rw [Bool.and_eq_true]; simp only [decide_eq_true_eq]; omega
  have hdc : c.toNat - 48 = d := by omega
  have e4 := dg_go (f := 8 - (j - (k + 1))) (n := n) e1 hD
  rw [show 8 - (j - (k + 1)) + 1 = 9 - (j - (k + 1)) by omega, hdc] at e4
  have hv := h.v
  have hc := h.c
  rw [e4] at hv hc
  have e5 : 9 - (j + 1 - (k + 1)) = 8 - (j - (k + 1)) := by omega
  refine ⟨⟨by omega, by omega, by omega, ?_, by rw [e5]; exact hv, by rw [e5]; simp only at hc ⊢; omega, hr, hb⟩, hlt⟩
  have hb := h.bd
  rw [show j + 1 - (k + 1) = (j - (k + 1)) + 1 by omega, Nat.pow_succ]
  omega
theorem NuS.small {w : World} {R : Nat} {s : ByteArray} {k V C j n : Nat} {W : World} (h : NuS w R s k V C j n W) (hl : j < k + 10) : n < 100000000 := by
  have h1 := h.bd
  have h2 : 10 ^ (j - (k + 1)) ≤ 10 ^ 8 := Nat.pow_le_pow_right (by decide) (by have := h.lo; omega)
  have : 10 ^ 8 = 100000000 := by decide
  omega

set_option maxHeartbeats 8000000 in
theorem rnumber_any (R : Nat) (s : ByteArray) (k : Nat) (w : World) (h : RdA w R s k) (hk : k ≤ s.size) (hs : s.size ≤ 1000000000) :
    Calls Tryd.prog 32 #[.pointer (some ⟨R, 0, none⟩)] w fun e w' => ∃ x a : Int, e = .returned (.tuple #[.int .i64 x, .bool (nuP (fr s k)).isSome]) ∧ RdA w' R s a ∧ Bs R w w' ∧ ∀ n c, nuP (fr s k) = some (n, c) → x = (n : Int) ∧ a = ((k + c : Nat) : Int) := by
  have K1 := rtakes_any R s ⟨#[32]⟩ k w h hk hs (by decide)
  have e0 : ((⟨#[32]⟩ : ByteArray).data.toList).isPrefixOf (fr s k) = (bkL (fr s k)).isSome := bk_pre _
  rw [e0] at K1
  cases hb : bkL (fr s k) with
  | none =>
    have hn : nuP (fr s k) = none := by unfold nuP; rw [hb]; rfl
    rw [hb] at K1
    rw [hn]
    simp only [Option.isSome] at K1 ⊢
    clear e0 hb hn h
    go_enter Tryd.func32, Tryd.ntmps32
    go_wp2_with fail
    refine wp_scope_straight ?_
    go_wp2_with fail
    refine K1.mono ?_
    rintro e w1 ⟨rfl, h1, h2⟩
    have H1 := hid13 h1
    have H2 := hid13 h2
    clear K1 h1 h2
    go_wp2
    refine noGoto15 ?_
    exact bodyPost_ret (v := .tuple #[.int .i64 0, .bool false]) (by simp [results, Tryd.results32, go_sem]) rfl ⟨_, _, rfl, H1.out, H2.out, fun n c q => by cases q⟩
  | some Y =>
    have hlt : k < s.size := by
      apply Classical.byContradiction; intro q
      rw [fr_nil (by omega)] at hb; cases hb
    obtain ⟨c, hc1, hc2⟩ := fr_cons hlt
    have hY : fr s (k + 1) = Y := by
      rw [hc1, bkL_cons] at hb
      by_cases q : c = 32
      · rw [if_pos q] at hb; injection hb
      · rw [if_neg q] at hb; cases hb
    have hn : nuP (fr s k) = if numB Y = true then some ((dgP 9 0 Y).1, (dgP 9 0 Y).2 + 1) else none := by unfold nuP; rw [hb]; rfl
    rw [hb] at K1
    simp only [Option.isSome, if_true] at K1
    obtain ⟨V, hV⟩ : ∃ V, V = (dgP 9 0 Y).1 := ⟨_, rfl⟩
    obtain ⟨C, hC⟩ : ∃ C, C = (dgP 9 0 Y).2 := ⟨_, rfl⟩
    have HN : Hid (nuP (fr s k) = if (C == 1 || (decide (1 < C) && !(Y.head? == some 48))) = true then some (V, C + 1) else none) := hid13 (by rw [hn, hV, hC]; rfl)
    have HY := hid13 hY
    have HC : Hid (C = (dgP 9 0 Y).2 ∧ V = (dgP 9 0 Y).1) := ⟨hC, hV⟩
    have HK : Hid (k < s.size ∧ s.size ≤ 1000000000) := ⟨hlt, hs⟩
    clear e0 hb hn h hc1 hc2 hV hC hY c
    go_enter Tryd.func32, Tryd.ntmps32
    go_wp2_with fail
    refine scope_two15 0 (fun a' W => ∃ (j n : Nat), a'.tmps.size = 67 ∧ a'.tmps.getD 0 undef = .pointer (some ⟨R, 0, none⟩) ∧ a'.tmps.getD 2 undef = .int .i64 0 ∧ a'.tmps.getD 3 undef = .bool false ∧ a'.tmps.getD 4 undef = .int .i64 (n : Int) ∧ a'.tmps.getD 5 undef = .int .i64 ((k : Int) + 1) ∧ a'.defers = [] ∧ Hid (NuS w R s k V C j n W)) (fun _ W => s.size - atA R W) (by rfl) ?pre ?pass
    case pre =>
      go_wp2_with fail
      refine K1.mono ?_
      rintro e w1 ⟨rfl, h1, h2⟩
      have h1' : RdA w1 R s ((k : Int) + 1) := h1
      have H1 := hid13 h1'
      have H2 := hid13 h2
      have r1 := h1'.c1
      clear K1 h1 h2 h1'
      go_wp2
      go_quiet (fail)
      have HS : Hid (NuS w R s k V C (k + 1) 0 (w1.drewN nq)) := hid13 ⟨by omega, by omega, by have := HK.out; omega, by simp, by rw [Nat.sub_self, Nat.sub_zero, HY.out]; exact HC.out.2.symm, by rw [Nat.sub_self, Nat.sub_zero, HY.out, Nat.zero_add]; exact HC.out.1.symm, by have := H1.out.below (below_drewN (Below.refl _ _) nq); simpa using this, H2.out.trans (Bs.ofB (below_drewN (Below.refl _ _) nq))⟩
      go_wp2
      exact ⟨k + 1, 0, by first | rfl | trivial, by first | rfl | trivial, by first | rfl | trivial, by first | rfl | trivial, by first | rfl | trivial, by first | rfl | trivial, by first | rfl | trivial, HS⟩
    case pass =>
      clear K1
      rintro ⟨tm9, df⟩ W ⟨j, n, hsz, h0, h2, h3, h4, h5, hdf, HJ⟩
      dsimp only at hsz h0 h2 h3 h4 h5 hdf
      obtain ⟨u, hu, htm⟩ := arr67a tm9 hsz
      rw [← hu] at h0 h2 h3 h4 h5
      rw [htm, hdf, h0, h2, h3, h4, h5, HJ.out.r.at]
      have KH := here_any R s j W HJ.out.r HJ.out.en HK.out.2
      clear hu htm hsz hdf h0 h2 h3 h4 h5 tm9 df hlt hs hk
      obtain ⟨c, hc⟩ : ∃ c, c = hrB s j := ⟨_, rfl⟩
      have HCc := hid13 hc
      rw [← hc] at KH
      clear hc

      by_cases c1 : 48 ≤ c
      · by_cases c2 : c ≤ 57
        · have HM : Hid (IntKind.i64.wrap ((j : Int) - ((k : Int) + 1)) = (j : Int) - ((k : Int) + 1)) := hid13 (by rw [IntKind.wrap_i64]; have := HJ.out.lo; have := HJ.out.en; have := HK.out; omega)
          by_cases c3 : j < k + 10
          · obtain ⟨d, hd⟩ : ∃ d : Nat, c - 48 = (d : Int) := ⟨(c - 48).toNat, by omega⟩
            have hdd : d < 10 := by omega
            have hsm := HJ.out.small c3
            obtain ⟨z, hz⟩ : ∃ z : Nat, (z : Int) = (j : Int) - ((k : Int) + 1) := ⟨j - (k + 1), by have := HJ.out.lo; omega⟩
            have ms : IntKind.i64.wrap ((j : Int) - ((k : Int) + 1)) = (z : Int) := HM.out.trans hz.symm
            have ml : (z : Int) < 9 := by omega
            have m1 : IntKind.i64.wrap (10 * (n : Int)) = 10 * (n : Int) := by rw [IntKind.wrap_i64]; omega
            have m2 : IntKind.u8.wrap (c - 48) = (d : Int) := by rw [hd]; simp [IntKind.wrap, IntKind.bits, IntKind.signed]; omega
            have m3 : wrap64 (10 * (n : Int) + (d : Int)) = ((10 * n + d : Nat) : Int) := by unfold wrap64; omega
            have m5 : wrap64 (d : Int) = (d : Int) := by unfold wrap64; omega
            have m4 : IntKind.i64.wrap ((j : Int) + 1) = ((j + 1 : Nat) : Int) := by rw [IntKind.wrap_i64]; have := HJ.out.en; have := HK.out; omega
            have HD : Hid (48 ≤ hrB s j ∧ hrB s j ≤ 57 ∧ j < k + 10 ∧ hrB s j - 48 = (d : Int)) := hid13 (by rw [← HCc.out]; exact ⟨c1, c2, c3, hd⟩)
            clear HM hd hdd hsm hz
            go_wp2_with fail
            refine KH.mono ?_
            rintro e w1 ⟨rfl, hb1⟩
            have r1 := (HJ.out.r.below hb1).c1
            have f1 := (HJ.out.r.below hb1).free 1
            have HG : Hid (NuS w R s k V C (j + 1) (10 * n + d) (w1.setCell ⟨R, 1, none⟩ (.int .i64 ((j : Int) + 1))) ∧ j < s.size) := hid13 (HJ.out.go HD.out.1 HD.out.2.1 HD.out.2.2.1 d HD.out.2.2.2 (show RdA _ R s ((j : Int) + 1) from (HJ.out.r.below hb1).setA ((j : Int) + 1)) ((HJ.out.b.trans (Bs.ofB hb1)).set 1 _))
            clear KH hb1
            go_wp2
            refine wp_goto ?_
            refine And.intro rfl (And.intro ⟨j + 1, 10 * n + d, by first | rfl | trivial, by first | rfl | trivial, by first | rfl | trivial, by first | rfl | trivial, (show Value.int .i64 (wrap64 (10 * (n : Int) + (d : Int))) = _ from by rw [m3]), by first | rfl | trivial, by first | rfl | trivial, hid13 HG.out.1⟩ ?_)
            rw [HG.out.1.r.at]
            have := HG.out.2
            omega
          · clear HM
            have HV := hid13 (HJ.out.stop (by have := HCc.out; have := HJ.out.hi; omega))
            obtain ⟨z, hz⟩ : ∃ z : Nat, z = j - (k + 1) := ⟨_, rfl⟩
            have HZ : Hid (z = j - (k + 1) ∧ k + 1 ≤ j ∧ j ≤ s.size) := ⟨hz, HJ.out.lo, HJ.out.en⟩
            have mz : IntKind.i64.wrap ((j : Int) - ((k : Int) + 1)) = (z : Int) := by rw [IntKind.wrap_i64]; have := HZ.out; have := HK.out; omega
            have ml : ¬ (z : Int) < 9 := by have := HZ.out; omega
            clear hz c3
            go_wp2_with fail
            refine KH.mono ?_
            rintro e w1 ⟨rfl, hb1⟩
            have r1 := (HJ.out.r.below hb1).c1
            have H1 : Hid (RdA w1 R s j ∧ Bs R w w1) := ⟨HJ.out.r.below hb1, HJ.out.b.trans (Bs.ofB hb1)⟩
            clear KH hb1
            by_cases hz1 : z = 1
            · exfalso; omega
            · have hzi : ((z : Int) == 1) = false := by rw [beq_eq_false_iff_ne]; omega
              by_cases hz2 : 1 < z
              · have hz3 : decide ((1 : Int) < (z : Int)) = true := decide_eq_true (by omega)
                have hkb := byteAt_in s (k + 1) (by have := HZ.out; omega)
                have hk2 : ((k : Int) + 1) < (s.size : Int) := by have := HZ.out; omega
                have hk3 : (0 : Int) ≤ (k : Int) + 1 := by omega
                have hk4 : ((k : Int) + 1).toNat = k + 1 := by omega
                have r0 := H1.out.1.c0
                have HD : Hid ((Y.head? == some 48) = (byteAt s (k + 1) == 48)) := hid13 (by
                  obtain ⟨c0, e1, e2⟩ := fr_cons (s := s) (k := k + 1) (by have := HZ.out; omega)
                  rw [← HY.out, e1, e2]
                  show (some c0 == some 48) = _
                  by_cases q : c0 = 48
                  · subst q; rfl
                  · have q2 : ((c0.toNat : Int) == 48) = false := by rw [beq_eq_false_iff_ne]; intro e; exact q (UInt8.toNat_inj.1 (by have : (48 : UInt8).toNat = 48 := rfl; omega))
                    rw [q2]; simpa using q)
                by_cases hz8 : byteAt s (k + 1) = 48
                · have HR : Hid (nuP (fr s k) = none) := hid13 (by rw [HN.out, HV.out.2, ← HZ.out.1, HD.out, hz8]; simp; omega)
                  rw [hz8] at hkb
                  go_wp2
                  go_quiet (fail)
                  have HB : Hid (RdA (w1.drewN nq) R s j ∧ Bs R w (w1.drewN nq)) := hid13 ⟨H1.out.1.below (below_drewN (Below.refl _ _) nq), H1.out.2.trans (Bs.ofB (below_drewN (Below.refl _ _) nq))⟩
                  go_wp2
                  refine jump_ret15 ?_
                  exact bodyPost_ret (v := .tuple #[.int .i64 (n : Int), .bool false]) (by simp [results, Tryd.results32, go_sem]) rfl ⟨_, _, by rw [HR.out]; rfl, HB.out.1, HB.out.2, fun n' c' q => by rw [HR.out] at q; cases q⟩
                · have HR : Hid (nuP (fr s k) = some (n, z + 1)) := hid13 (by
                    have q8 : (byteAt s (k + 1) == 48) = false := by rw [beq_eq_false_iff_ne]; exact hz8
                    rw [HN.out, HV.out.2, ← HZ.out.1, HD.out, q8, HV.out.1, if_pos (by simp; omega)])
                  have hz9 : (byteAt s (k + 1) == 48) = false := by rw [beq_eq_false_iff_ne]; exact hz8
                  revert hkb hz8 hz9 HD
                  generalize byteAt s (k + 1) = b0
                  intro hkb hz8 hz9 HD
                  go_wp2
                  go_quiet (fail)
                  have HB : Hid (RdA (w1.drewN nq) R s j ∧ Bs R w (w1.drewN nq)) := hid13 ⟨H1.out.1.below (below_drewN (Below.refl _ _) nq), H1.out.2.trans (Bs.ofB (below_drewN (Below.refl _ _) nq))⟩
                  go_wp2
                  refine jump_ret15 ?_
                  exact bodyPost_ret (v := .tuple #[.int .i64 (n : Int), .bool true]) (by simp [results, Tryd.results32, go_sem, *]) rfl ⟨_, _, by rw [HR.out]; rfl, HB.out.1, HB.out.2, fun n' c' q => by rw [HR.out] at q; injection q with q; injection q with q1 q2; exact ⟨by rw [q1], by rw [← q2]; have := HZ.out; omega⟩⟩
              · exfalso; omega
        · have c2' : ¬ c ≤ 57 := c2
          have HV := hid13 (HJ.out.stop (by have := HCc.out; have := HJ.out.hi; omega))
          obtain ⟨z, hz⟩ : ∃ z : Nat, z = j - (k + 1) := ⟨_, rfl⟩
          have HZ : Hid (z = j - (k + 1) ∧ k + 1 ≤ j ∧ j ≤ s.size) := ⟨hz, HJ.out.lo, HJ.out.en⟩
          have mz : IntKind.i64.wrap ((j : Int) - ((k : Int) + 1)) = (z : Int) := by rw [IntKind.wrap_i64]; have := HZ.out; have := HK.out; omega
          clear hz
          go_wp2_with fail
          refine KH.mono ?_
          rintro e w1 ⟨rfl, hb1⟩
          have r1 := (HJ.out.r.below hb1).c1
          have H1 : Hid (RdA w1 R s j ∧ Bs R w w1) := ⟨HJ.out.r.below hb1, HJ.out.b.trans (Bs.ofB hb1)⟩
          clear KH hb1
          by_cases hz1 : z = 1
          · subst hz1
            go_wp2
            go_quiet (fail)
            have HR : Hid (nuP (fr s k) = some (n, 1 + 1)) := hid13 (by rw [HN.out, HV.out.2, ← HZ.out.1, HV.out.1]; rfl)
            have HB : Hid (RdA (w1.drewN nq) R s j ∧ Bs R w (w1.drewN nq)) := hid13 ⟨H1.out.1.below (below_drewN (Below.refl _ _) nq), H1.out.2.trans (Bs.ofB (below_drewN (Below.refl _ _) nq))⟩
            go_wp2
            refine jump_ret15 ?_
            exact bodyPost_ret (v := .tuple #[.int .i64 (n : Int), .bool true]) (by simp [results, Tryd.results32, go_sem, *]) rfl ⟨_, _, by rw [HR.out]; rfl, HB.out.1, HB.out.2, fun n' c' q => by rw [HR.out] at q; injection q with q; injection q with q1 q2; exact ⟨by rw [q1], by rw [← q2]; have := HZ.out; omega⟩⟩
          · have hzi : ((z : Int) == 1) = false := by rw [beq_eq_false_iff_ne]; omega
            by_cases hz2 : 1 < z
            · have hz3 : decide ((1 : Int) < (z : Int)) = true := decide_eq_true (by omega)
              have hkb := byteAt_in s (k + 1) (by have := HZ.out; omega)
              have hk2 : ((k : Int) + 1) < (s.size : Int) := by have := HZ.out; omega
              have hk3 : (0 : Int) ≤ (k : Int) + 1 := by omega
              have hk4 : ((k : Int) + 1).toNat = k + 1 := by omega
              have r0 := H1.out.1.c0
              have HD : Hid ((Y.head? == some 48) = (byteAt s (k + 1) == 48)) := hid13 (by
                obtain ⟨c0, e1, e2⟩ := fr_cons (s := s) (k := k + 1) (by have := HZ.out; omega)
                rw [← HY.out, e1, e2]
                show (some c0 == some 48) = _
                by_cases q : c0 = 48
                · subst q; rfl
                · have q2 : ((c0.toNat : Int) == 48) = false := by rw [beq_eq_false_iff_ne]; intro e; exact q (UInt8.toNat_inj.1 (by have : (48 : UInt8).toNat = 48 := rfl; omega))
                  rw [q2]; simpa using q)
              by_cases hz8 : byteAt s (k + 1) = 48
              · have HR : Hid (nuP (fr s k) = none) := hid13 (by rw [HN.out, HV.out.2, ← HZ.out.1, HD.out, hz8]; simp; omega)
                rw [hz8] at hkb
                go_wp2
                go_quiet (fail)
                have HB : Hid (RdA (w1.drewN nq) R s j ∧ Bs R w (w1.drewN nq)) := hid13 ⟨H1.out.1.below (below_drewN (Below.refl _ _) nq), H1.out.2.trans (Bs.ofB (below_drewN (Below.refl _ _) nq))⟩
                go_wp2
                refine jump_ret15 ?_
                exact bodyPost_ret (v := .tuple #[.int .i64 (n : Int), .bool false]) (by simp [results, Tryd.results32, go_sem]) rfl ⟨_, _, by rw [HR.out]; rfl, HB.out.1, HB.out.2, fun n' c' q => by rw [HR.out] at q; cases q⟩
              · have HR : Hid (nuP (fr s k) = some (n, z + 1)) := hid13 (by
                  have q8 : (byteAt s (k + 1) == 48) = false := by rw [beq_eq_false_iff_ne]; exact hz8
                  rw [HN.out, HV.out.2, ← HZ.out.1, HD.out, q8, HV.out.1, if_pos (by simp; omega)])
                have hz9 : (byteAt s (k + 1) == 48) = false := by rw [beq_eq_false_iff_ne]; exact hz8
                revert hkb hz8 hz9 HD
                generalize byteAt s (k + 1) = b0
                intro hkb hz8 hz9 HD
                go_wp2
                go_quiet (fail)
                have HB : Hid (RdA (w1.drewN nq) R s j ∧ Bs R w (w1.drewN nq)) := hid13 ⟨H1.out.1.below (below_drewN (Below.refl _ _) nq), H1.out.2.trans (Bs.ofB (below_drewN (Below.refl _ _) nq))⟩
                go_wp2
                refine jump_ret15 ?_
                exact bodyPost_ret (v := .tuple #[.int .i64 (n : Int), .bool true]) (by simp [results, Tryd.results32, go_sem, *]) rfl ⟨_, _, by rw [HR.out]; rfl, HB.out.1, HB.out.2, fun n' c' q => by rw [HR.out] at q; injection q with q; injection q with q1 q2; exact ⟨by rw [q1], by rw [← q2]; have := HZ.out; omega⟩⟩
            · obtain rfl : z = 0 := by omega
              have HR : Hid (nuP (fr s k) = none) := hid13 (by rw [HN.out, HV.out.2, ← HZ.out.1]; rfl)
              go_wp2
              go_quiet (fail)
              have HB : Hid (RdA (w1.drewN nq) R s j ∧ Bs R w (w1.drewN nq)) := hid13 ⟨H1.out.1.below (below_drewN (Below.refl _ _) nq), H1.out.2.trans (Bs.ofB (below_drewN (Below.refl _ _) nq))⟩
              go_wp2
              refine jump_ret15 ?_
              exact bodyPost_ret (v := .tuple #[.int .i64 (n : Int), .bool false]) (by simp [results, Tryd.results32, go_sem]) rfl ⟨_, _, by rw [HR.out]; rfl, HB.out.1, HB.out.2, fun n' c' q => by rw [HR.out] at q; cases q⟩
      · have c1' : ¬ 48 ≤ c := c1
        have HV := hid13 (HJ.out.stop (by have := HCc.out; have := HJ.out.hi; omega))
        obtain ⟨z, hz⟩ : ∃ z : Nat, z = j - (k + 1) := ⟨_, rfl⟩
        have HZ : Hid (z = j - (k + 1) ∧ k + 1 ≤ j ∧ j ≤ s.size) := ⟨hz, HJ.out.lo, HJ.out.en⟩
        have mz : IntKind.i64.wrap ((j : Int) - ((k : Int) + 1)) = (z : Int) := by rw [IntKind.wrap_i64]; have := HZ.out; have := HK.out; omega
        clear hz
        go_wp2_with fail
        refine KH.mono ?_
        rintro e w1 ⟨rfl, hb1⟩
        have r1 := (HJ.out.r.below hb1).c1
        have H1 : Hid (RdA w1 R s j ∧ Bs R w w1) := ⟨HJ.out.r.below hb1, HJ.out.b.trans (Bs.ofB hb1)⟩
        clear KH hb1
        by_cases hz1 : z = 1
        · subst hz1
          go_wp2
          go_quiet (fail)
          have HR : Hid (nuP (fr s k) = some (n, 1 + 1)) := hid13 (by rw [HN.out, HV.out.2, ← HZ.out.1, HV.out.1]; rfl)
          have HB : Hid (RdA (w1.drewN nq) R s j ∧ Bs R w (w1.drewN nq)) := hid13 ⟨H1.out.1.below (below_drewN (Below.refl _ _) nq), H1.out.2.trans (Bs.ofB (below_drewN (Below.refl _ _) nq))⟩
          go_wp2
          refine jump_ret15 ?_
          exact bodyPost_ret (v := .tuple #[.int .i64 (n : Int), .bool true]) (by simp [results, Tryd.results32, go_sem, *]) rfl ⟨_, _, by rw [HR.out]; rfl, HB.out.1, HB.out.2, fun n' c' q => by rw [HR.out] at q; injection q with q; injection q with q1 q2; exact ⟨by rw [q1], by rw [← q2]; have := HZ.out; omega⟩⟩
        · have hzi : ((z : Int) == 1) = false := by rw [beq_eq_false_iff_ne]; omega
          by_cases hz2 : 1 < z
          · have hz3 : decide ((1 : Int) < (z : Int)) = true := decide_eq_true (by omega)
            have hkb := byteAt_in s (k + 1) (by have := HZ.out; omega)
            have hk2 : ((k : Int) + 1) < (s.size : Int) := by have := HZ.out; omega
            have hk3 : (0 : Int) ≤ (k : Int) + 1 := by omega
            have hk4 : ((k : Int) + 1).toNat = k + 1 := by omega
            have r0 := H1.out.1.c0
            have HD : Hid ((Y.head? == some 48) = (byteAt s (k + 1) == 48)) := hid13 (by
              obtain ⟨c0, e1, e2⟩ := fr_cons (s := s) (k := k + 1) (by have := HZ.out; omega)
              rw [← HY.out, e1, e2]
              show (some c0 == some 48) = _
              by_cases q : c0 = 48
              · subst q; rfl
              · have q2 : ((c0.toNat : Int) == 48) = false := by rw [beq_eq_false_iff_ne]; intro e; exact q (UInt8.toNat_inj.1 (by have : (48 : UInt8).toNat = 48 := rfl; omega))
                rw [q2]; simpa using q)
            by_cases hz8 : byteAt s (k + 1) = 48
            · have HR : Hid (nuP (fr s k) = none) := hid13 (by rw [HN.out, HV.out.2, ← HZ.out.1, HD.out, hz8]; simp; omega)
              rw [hz8] at hkb
              go_wp2
              go_quiet (fail)
              have HB : Hid (RdA (w1.drewN nq) R s j ∧ Bs R w (w1.drewN nq)) := hid13 ⟨H1.out.1.below (below_drewN (Below.refl _ _) nq), H1.out.2.trans (Bs.ofB (below_drewN (Below.refl _ _) nq))⟩
              go_wp2
              refine jump_ret15 ?_
              exact bodyPost_ret (v := .tuple #[.int .i64 (n : Int), .bool false]) (by simp [results, Tryd.results32, go_sem]) rfl ⟨_, _, by rw [HR.out]; rfl, HB.out.1, HB.out.2, fun n' c' q => by rw [HR.out] at q; cases q⟩
            · have HR : Hid (nuP (fr s k) = some (n, z + 1)) := hid13 (by
                have q8 : (byteAt s (k + 1) == 48) = false := by rw [beq_eq_false_iff_ne]; exact hz8
                rw [HN.out, HV.out.2, ← HZ.out.1, HD.out, q8, HV.out.1, if_pos (by simp; omega)])
              have hz9 : (byteAt s (k + 1) == 48) = false := by rw [beq_eq_false_iff_ne]; exact hz8
              revert hkb hz8 hz9 HD
              generalize byteAt s (k + 1) = b0
              intro hkb hz8 hz9 HD
              go_wp2
              go_quiet (fail)
              have HB : Hid (RdA (w1.drewN nq) R s j ∧ Bs R w (w1.drewN nq)) := hid13 ⟨H1.out.1.below (below_drewN (Below.refl _ _) nq), H1.out.2.trans (Bs.ofB (below_drewN (Below.refl _ _) nq))⟩
              go_wp2
              refine jump_ret15 ?_
              exact bodyPost_ret (v := .tuple #[.int .i64 (n : Int), .bool true]) (by simp [results, Tryd.results32, go_sem, *]) rfl ⟨_, _, by rw [HR.out]; rfl, HB.out.1, HB.out.2, fun n' c' q => by rw [HR.out] at q; injection q with q; injection q with q1 q2; exact ⟨by rw [q1], by rw [← q2]; have := HZ.out; omega⟩⟩
          · obtain rfl : z = 0 := by omega
            have HR : Hid (nuP (fr s k) = none) := hid13 (by rw [HN.out, HV.out.2, ← HZ.out.1]; rfl)
            go_wp2
            go_quiet (fail)
            have HB : Hid (RdA (w1.drewN nq) R s j ∧ Bs R w (w1.drewN nq)) := hid13 ⟨H1.out.1.below (below_drewN (Below.refl _ _) nq), H1.out.2.trans (Bs.ofB (below_drewN (Below.refl _ _) nq))⟩
            go_wp2
            refine jump_ret15 ?_
            exact bodyPost_ret (v := .tuple #[.int .i64 (n : Int), .bool false]) (by simp [results, Tryd.results32, go_sem]) rfl ⟨_, _, by rw [HR.out]; rfl, HB.out.1, HB.out.2, fun n' c' q => by rw [HR.out] at q; cases q⟩

end Go.Proofs.YtologchdnjnadaaDoor
