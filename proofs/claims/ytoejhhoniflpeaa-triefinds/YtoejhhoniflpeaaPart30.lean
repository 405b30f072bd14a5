/-
  Part 30 of the proof: 3 texts, one behind the other.
-/
import Derived.Test.YtoejhhoniflpeaaPart17
import Derived.Test.YtoejhhoniflpeaaPart26
import Derived.Test.YtoejhhoniflpeaaPart5
import Derived.Test.YtoejhhoniflpeaaPart29
/-
  The document's Down.
-/
namespace Go.Proofs.Ytoejhhoniflpeaa
open Go.RowKit
set_option linter.unusedSimpArgs false
set_option linter.unusedVariables false
attribute [local go_sem] Oper.semAt_some

theorem atL_step8 (L : List Nd) (v : Int) {n k : Nat} (h : n ≤ k) : atL L v n (k + 1 - n) = atL L v n (k - n) ++ (if ln L k = v then [(k : Int)] else []) := by
  rw [show k + 1 - n = (k - n) + 1 by omega]
  show atL L v n (k - n) ++ (if ln L (n + (k - n)) = v then [((n + (k - n) : Nat) : Int)] else []) = _
  rw [show n + (k - n) = k by omega]
theorem atL_len8 (L : List Nd) (v : Int) (a : Nat) : ∀ m, (atL L v a m).length ≤ m
  | 0 => Nat.le_refl _
  | m + 1 => by
    have := atL_len8 L v a m
    simp only [atL, List.length_append]
    split <;> simp <;> omega
theorem own_bel8 {w w' : World} {base e size n : Nat} {v : Value} {xs : List Value} (hb : Below w.heap.size w w') (h : w.ownsRow base e size v n xs) : w'.ownsRow base e size v n xs := own_blk h (fun g q => hb.block g (h.lt g q).2)
section
variable (D : Nat) (F : Int) (v : Value) (P : List (BitVec 128 × Int)) (Z : List Int) (gp cp gz cz : Nat)
set_option maxRecDepth 20000 in
set_option maxHeartbeats 4000000 in
theorem rdown8_no (n bits : Int) (w : World) (h : DrT w D F v P Z gp cp gz cz) (hn : ¬ (0 ≤ n ∧ n < P.length) ∨ bits < 0) :
    Calls Try.prog 25 #[.pointer (some ⟨D, 0, none⟩), .int .i64 n, .int .i64 bits] w fun e w' => e = .returned (.slice none 0 0) ∧ w' = w := by
  have KI := ris8_any D F v P Z gp cp gz cz n w h
  by_cases hc : 0 ≤ n ∧ n < P.length
  · have h0 : bits < 0 := by omega
    have hd : (decide (0 ≤ n) && decide (n < (P.length : Int))) = true := by
      rw [Bool.and_eq_true, decide_eq_true_eq, decide_eq_true_eq]; exact hc
    rw [hd] at KI
    clear h hn hc hd
    go_enter Try.func25, Try.ntmps25
    go_wp2_with fail
    refine KI.mono ?_
    rintro e w' ⟨rfl, rfl⟩
    clear KI
    go_wp2
    exact bodyPost_ret (v := .slice none 0 0) (by simp [results, Try.results25, go_sem, *]) rfl ⟨rfl, rfl⟩
  · rw [is_no hc] at KI
    clear h hn hc
    go_enter Try.func25, Try.ntmps25
    go_wp2_with fail
    refine KI.mono ?_
    rintro e w' ⟨rfl, rfl⟩
    clear KI
    go_wp2
    exact bodyPost_ret (v := .slice none 0 0) (by simp [results, Try.results25, go_sem, *]) rfl ⟨rfl, rfl⟩
set_option maxRecDepth 100000 in
set_option maxHeartbeats 16000000 in
theorem rdown8_yes (L : List Nd) (n e : Nat) (bits : Int) (w : World) (h : DrT w D F v P Z gp cp gz cz) (he : EndP P n e) (hl : P.length ≤ 1000000000) (hp : ∀ j, j < P.length → ∃ x, P[j]? = some (x, ln L j)) (hln : ∀ j, j < P.length → 0 ≤ ln L j ∧ ln L j ≤ 128) (hb0 : 0 ≤ bits) :
    Calls Try.prog 25 #[.pointer (some ⟨D, 0, none⟩), .int .i64 (n : Int), .int .i64 bits] w fun r w' => (∃ lv, r = .returned lv ∧ w'.ownsRow w.heap.size 3 1 lv (atL L (ln L n + bits) n (e - n)).length (rowZ (atL L (ln L n + bits) n (e - n)))) ∧ Below w.heap.size w w' := by
  obtain ⟨j0, ji, jz0, jz1, jz2⟩ := info_of Try.infoI8
  have KI := ris8_any D F v P Z gp cp gz cz (n : Int) w h
  have hnP : n < P.length := by have := he.1; have := he.2.1; omega
  rw [is_yes hnP] at KI
  have KE := fun w h => rend8_any D F v P Z gp cp gz cz n e w h he hl
  have HCD := hidX (fun X (hb : Below w.heap.size w X) => h.below hb)
  have HS := hidX (Below.refl w.heap.size w)
  have Hz := hidX hp
  have Hln := hidX hln
  obtain ⟨y, hy⟩ := hp n hnP
  obtain ⟨u, hu⟩ : ∃ u, u = ln L n := ⟨_, rfl⟩
  have hu2 := hln n hnP
  rw [← hu] at hy hu2 ⊢
  have Hy := hidX hy
  have hne : n ≤ e := by have := he.1; omega
  have heP : e ≤ P.length := he.2.1
  have hb1 : ¬ bits < 0 := by omega
  clear h he hp hln hy hu
  go_enter Try.func25, Try.ntmps25
  go_wp2_with fail
  refine KI.mono ?_
  rintro r w' ⟨rfl, rfl⟩
  clear KI
  go_wp2_with fail
  go_loopw [7, 8] (fun lv9 i wr => ∃ (k : Nat) (A : List Int) (lw : Value), lw = lv9 ∧ n ≤ k ∧ k ≤ e ∧ Hid (A = atL L (u + bits) n (k - n)) ∧ Hid (wr.ownsRow w'.heap.size 3 1 lw A.length (rowZ A)) ∧ i = .int .i64 (k : Int) ∧ Hid (Below w'.heap.size w' wr)) (fun _ i _ => e - (intOf i).toNat)
  case atStart => exact ⟨n, [], _, rfl, Nat.le_refl _, hne, hidX (by rw [Nat.sub_self]; rfl), hidX ⟨rfl, .inl ⟨rfl, rfl⟩⟩, rfl, HS⟩
  case round =>
    clear HS
    obtain ⟨k, A, lw, rfl, hk1, hk2, HA, HO, rfl, HS⟩ := hrel
    have KX := KE _ (HCD.out _ HS.out)
    by_cases hlt : (k : Int) < (e : Int)
    · obtain ⟨x, hx⟩ := Hz.out k (by omega)
      have Hst := hidX (atL_step8 L (u + bits) hk1)
      have hAl : A.length ≤ 1000000000 := by have := atL_len8 L (u + bits) n (k - n); rw [← HA.out] at this; omega
      obtain ⟨q, hq⟩ : ∃ q, q = ln L k := ⟨_, rfl⟩
      have hq2 := Hln.out k (by omega)
      rw [← hq, ← HA.out] at Hst
      rw [← hq] at hx hq2
      have Hx := hidX hx
      clear hq hx
      have hkP : k < P.length := by omega
      have wk : IntKind.i64.wrap ((k : Int) + 1) = ((k + 1 : Nat) : Int) := by rw [IntKind.wrap_i64]; push_cast; omega
      have wq : IntKind.i64.wrap (q - u) = q - u := by rw [IntKind.wrap_i64]; omega
      go_wp2_with fail
      refine KX.mono ?_
      rintro r w2 ⟨rfl, hb⟩
      have HS2 := hidX (keepb hb HS.out)
      have HD := hidX (And.intro (HCD.out _ (keepb (below_drewN (Below.refl _ _) 1) HS2.out)) (And.intro (own_bel8 (below_drewN (Below.refl _ _) 1) (own_bel8 hb HO.out)) (keepb (below_drewN (Below.refl _ _) 1) HS2.out)))
      clear KX HS hb KE HS2 HO
      by_cases hqb : q - u = bits
      · have wb : IntKind.i64.wrap bits = bits := by rw [IntKind.wrap_i64]; omega
        go_wp2_with fail
        refine qw_region (C := fun W => DrT W D F v P Z gp cp gz cz ∧ W.ownsRow w'.heap.size 3 1 lw A.length (rowZ A) ∧ Below w'.heap.size w' W) (by kernel_rfl) (by kernel_rfl) HD.out ?_
        clear HD
        refine qw_run (v := .pointer (some ⟨D, 0, none⟩)) (by rfl) ?_ ?_
        · (intro w1 hC; clear hC; go_simp; first | done | (simp; done) | (simp [*]; done) | omega | (simp; omega) | rfl)
        simp only [Act.put, List.setIfInBounds_toArray, List.set_cons_zero, List.set_cons_succ]
        refine qw_run (v := .pointer (some ⟨D, 0, none⟩)) (by rfl) ?_ ?_
        · (intro w1 hC; clear hC; go_simp; first | done | (simp; done) | (simp [*]; done) | omega | (simp; omega) | rfl)
        simp only [Act.put, List.setIfInBounds_toArray, List.set_cons_zero, List.set_cons_succ]
        refine qw_run (v := .pointer (some ⟨D, 1, none⟩)) (by rfl) ?_ ?_
        · (intro w1 hC; clear hC; go_simp; first | done | (simp; done) | (simp [*]; done) | omega | (simp; omega) | rfl)
        simp only [Act.put, List.setIfInBounds_toArray, List.set_cons_zero, List.set_cons_succ]
        refine qw_run (v := .slice (some ⟨gp, 0, none⟩) P.length cp) (by rfl) ?_ ?_
        · (intro w1 hC; have f0 := hC.1.ps; clear hC; go_simp; first | done | (simp; done) | (simp [*]; done) | omega | (simp; omega) | rfl)
        simp only [Act.put, List.setIfInBounds_toArray, List.set_cons_zero, List.set_cons_succ]
        refine qw_run (v := .int .i64 (k : Int)) (by rfl) ?_ ?_
        · (intro w1 hC; clear hC; go_simp; first | done | (simp; done) | (simp [*]; done) | omega | (simp; omega) | rfl)
        simp only [Act.put, List.setIfInBounds_toArray, List.set_cons_zero, List.set_cons_succ]
        refine qw_run (v := .pointer (some ⟨gp, k * 3, none⟩)) (by rfl) ?_ ?_
        · (intro w1 hC; clear hC; go_simp; first | done | (simp; done) | (simp [*]; done) | omega | (simp; omega) | rfl)
        simp only [Act.put, List.setIfInBounds_toArray, List.set_cons_zero, List.set_cons_succ]
        refine qw_run (v := .pointer (some ⟨gp, k * 3 + 2, none⟩)) (by rfl) ?_ ?_
        · (intro w1 hC; clear hC; go_simp; first | done | (simp; done) | (simp [*]; done) | omega | (simp; omega) | rfl)
        simp only [Act.put, List.setIfInBounds_toArray, List.set_cons_zero, List.set_cons_succ]
        refine qw_run (v := .int .i64 q) (by rfl) ?_ ?_
        · (intro w1 hC; have f0 := (hC.1.p _ _ _ Hx.out).2.2; clear hC; go_simp; first | done | (simp; done) | (simp [*]; done) | omega | (simp; omega) | rfl)
        simp only [Act.put, List.setIfInBounds_toArray, List.set_cons_zero, List.set_cons_succ]
        refine qw_run (v := .pointer (some ⟨D, 0, none⟩)) (by rfl) ?_ ?_
        · (intro w1 hC; clear hC; go_simp; first | done | (simp; done) | (simp [*]; done) | omega | (simp; omega) | rfl)
        simp only [Act.put, List.setIfInBounds_toArray, List.set_cons_zero, List.set_cons_succ]
        refine qw_run (v := .pointer (some ⟨D, 0, none⟩)) (by rfl) ?_ ?_
        · (intro w1 hC; clear hC; go_simp; first | done | (simp; done) | (simp [*]; done) | omega | (simp; omega) | rfl)
        simp only [Act.put, List.setIfInBounds_toArray, List.set_cons_zero, List.set_cons_succ]
        refine qw_run (v := .pointer (some ⟨D, 1, none⟩)) (by rfl) ?_ ?_
        · (intro w1 hC; clear hC; go_simp; first | done | (simp; done) | (simp [*]; done) | omega | (simp; omega) | rfl)
        simp only [Act.put, List.setIfInBounds_toArray, List.set_cons_zero, List.set_cons_succ]
        refine qw_run (v := .slice (some ⟨gp, 0, none⟩) P.length cp) (by rfl) ?_ ?_
        · (intro w1 hC; have f0 := hC.1.ps; clear hC; go_simp; first | done | (simp; done) | (simp [*]; done) | omega | (simp; omega) | rfl)
        simp only [Act.put, List.setIfInBounds_toArray, List.set_cons_zero, List.set_cons_succ]
        refine qw_run (v := .int .i64 (n : Int)) (by rfl) ?_ ?_
        · (intro w1 hC; clear hC; go_simp; first | done | (simp; done) | (simp [*]; done) | omega | (simp; omega) | rfl)
        simp only [Act.put, List.setIfInBounds_toArray, List.set_cons_zero, List.set_cons_succ]
        refine qw_run (v := .pointer (some ⟨gp, n * 3, none⟩)) (by rfl) ?_ ?_
        · (intro w1 hC; clear hC; go_simp; first | done | (simp; done) | (simp [*]; done) | omega | (simp; omega) | rfl)
        simp only [Act.put, List.setIfInBounds_toArray, List.set_cons_zero, List.set_cons_succ]
        refine qw_run (v := .pointer (some ⟨gp, n * 3 + 2, none⟩)) (by rfl) ?_ ?_
        · (intro w1 hC; clear hC; go_simp; first | done | (simp; done) | (simp [*]; done) | omega | (simp; omega) | rfl)
        simp only [Act.put, List.setIfInBounds_toArray, List.set_cons_zero, List.set_cons_succ]
        refine qw_run (v := .int .i64 u) (by rfl) ?_ ?_
        · (intro w1 hC; have f0 := (hC.1.p _ _ _ Hy.out).2.2; clear hC; go_simp; first | done | (simp; done) | (simp [*]; done) | omega | (simp; omega) | rfl)
        simp only [Act.put, List.setIfInBounds_toArray, List.set_cons_zero, List.set_cons_succ]
        refine qw_run (v := .int .i64 (q - u)) (by rfl) ?_ ?_
        · (intro w1 hC; clear hC; go_simp; first | done | (simp; done) | (simp [*]; done) | omega | (simp; omega) | rfl)
        simp only [Act.put, List.setIfInBounds_toArray, List.set_cons_zero, List.set_cons_succ]
        refine qw_run (v := .int .i64 bits) (by rfl) ?_ ?_
        · (intro w1 hC; clear hC; go_simp; first | done | (simp; done) | (simp [*]; done) | omega | (simp; omega) | rfl)
        simp only [Act.put, List.setIfInBounds_toArray, List.set_cons_zero, List.set_cons_succ]
        refine qw_run (v := .bool true) (by rfl) ?_ ?_
        · (intro w1 hC; clear hC; go_simp; first | done | (simp; done) | (simp [*]; done) | omega | (simp; omega) | rfl)
        simp only [Act.put, List.setIfInBounds_toArray, List.set_cons_zero, List.set_cons_succ]
        refine qw_nil ?_
        intro w3 hC
        have q9 := bl1 w3 (.cells #[.int .i64 (k : Int)] 3)
        have HO9 := hidX (own_bel8 q9 hC.2.1)
        have HB9 := hidX (keepb q9 hC.2.2)
        have h63 : A.length + 1 ≤ maxLen := by unfold maxLen; omega
        have h47 : (A.length + 1) * 8 ≤ 140737488355328 := by omega
        clear hC q9
        go_wp2_with (first | (
            at_builtin
            refine wpList_append_lies _ rfl _ _ 32 rfl w'.heap.size 3 j0 (.int .i64 0) 1 8 Try.underlying32 ji jz0 jz1 jz2 rfl (by decide) _ _ _ rfl HO9.out ⟨w3.heap.size, 0, none⟩ 1 1 [.int .i64 (k : Int)] rfl rfl (news1 (by simp [go_sem])) (by intro u hu; simp at hu; subst hu; rfl) (by decide) h63 h47 HB9.out.size _ rfl ?_
            intro g4 cap4 w4 hown4 hgrow hat hlt4
            have HO4 := hidX hown4
            have HB4 := hidX (HB9.out.grown hgrow HB9.out.size (fun z e => (HO9.out.lt z e).1))
            clear hgrow hat hown4 hlt4 h63 h47))
        go_wp2
        go_roundw
        case rel => exact ⟨k + 1, A ++ [(k : Int)], _, rfl, by omega, by omega, hidX (by rw [Hst.out, if_pos (by omega)]), hidX (by rw [rowZ_app, List.length_append]; exact HO4.out), rfl, HB4⟩
        case measure => simp [intOf]; omega
      · go_wp2_with fail
        refine qw_region (C := fun W => DrT W D F v P Z gp cp gz cz ∧ W.ownsRow w'.heap.size 3 1 lw A.length (rowZ A) ∧ Below w'.heap.size w' W) (by kernel_rfl) (by kernel_rfl) HD.out ?_
        clear HD
        refine qw_run (v := .pointer (some ⟨D, 0, none⟩)) (by rfl) ?_ ?_
        · (intro w1 hC; clear hC; go_simp; first | done | (simp; done) | (simp [*]; done) | omega | (simp; omega) | rfl)
        simp only [Act.put, List.setIfInBounds_toArray, List.set_cons_zero, List.set_cons_succ]
        refine qw_run (v := .pointer (some ⟨D, 0, none⟩)) (by rfl) ?_ ?_
        · (intro w1 hC; clear hC; go_simp; first | done | (simp; done) | (simp [*]; done) | omega | (simp; omega) | rfl)
        simp only [Act.put, List.setIfInBounds_toArray, List.set_cons_zero, List.set_cons_succ]
        refine qw_run (v := .pointer (some ⟨D, 1, none⟩)) (by rfl) ?_ ?_
        · (intro w1 hC; clear hC; go_simp; first | done | (simp; done) | (simp [*]; done) | omega | (simp; omega) | rfl)
        simp only [Act.put, List.setIfInBounds_toArray, List.set_cons_zero, List.set_cons_succ]
        refine qw_run (v := .slice (some ⟨gp, 0, none⟩) P.length cp) (by rfl) ?_ ?_
        · (intro w1 hC; have f0 := hC.1.ps; clear hC; go_simp; first | done | (simp; done) | (simp [*]; done) | omega | (simp; omega) | rfl)
        simp only [Act.put, List.setIfInBounds_toArray, List.set_cons_zero, List.set_cons_succ]
        refine qw_run (v := .int .i64 (k : Int)) (by rfl) ?_ ?_
        · (intro w1 hC; clear hC; go_simp; first | done | (simp; done) | (simp [*]; done) | omega | (simp; omega) | rfl)
        simp only [Act.put, List.setIfInBounds_toArray, List.set_cons_zero, List.set_cons_succ]
        refine qw_run (v := .pointer (some ⟨gp, k * 3, none⟩)) (by rfl) ?_ ?_
        · (intro w1 hC; clear hC; go_simp; first | done | (simp; done) | (simp [*]; done) | omega | (simp; omega) | rfl)
        simp only [Act.put, List.setIfInBounds_toArray, List.set_cons_zero, List.set_cons_succ]
        refine qw_run (v := .pointer (some ⟨gp, k * 3 + 2, none⟩)) (by rfl) ?_ ?_
        · (intro w1 hC; clear hC; go_simp; first | done | (simp; done) | (simp [*]; done) | omega | (simp; omega) | rfl)
        simp only [Act.put, List.setIfInBounds_toArray, List.set_cons_zero, List.set_cons_succ]
        refine qw_run (v := .int .i64 q) (by rfl) ?_ ?_
        · (intro w1 hC; have f0 := (hC.1.p _ _ _ Hx.out).2.2; clear hC; go_simp; first | done | (simp; done) | (simp [*]; done) | omega | (simp; omega) | rfl)
        simp only [Act.put, List.setIfInBounds_toArray, List.set_cons_zero, List.set_cons_succ]
        refine qw_run (v := .pointer (some ⟨D, 0, none⟩)) (by rfl) ?_ ?_
        · (intro w1 hC; clear hC; go_simp; first | done | (simp; done) | (simp [*]; done) | omega | (simp; omega) | rfl)
        simp only [Act.put, List.setIfInBounds_toArray, List.set_cons_zero, List.set_cons_succ]
        refine qw_run (v := .pointer (some ⟨D, 0, none⟩)) (by rfl) ?_ ?_
        · (intro w1 hC; clear hC; go_simp; first | done | (simp; done) | (simp [*]; done) | omega | (simp; omega) | rfl)
        simp only [Act.put, List.setIfInBounds_toArray, List.set_cons_zero, List.set_cons_succ]
        refine qw_run (v := .pointer (some ⟨D, 1, none⟩)) (by rfl) ?_ ?_
        · (intro w1 hC; clear hC; go_simp; first | done | (simp; done) | (simp [*]; done) | omega | (simp; omega) | rfl)
        simp only [Act.put, List.setIfInBounds_toArray, List.set_cons_zero, List.set_cons_succ]
        refine qw_run (v := .slice (some ⟨gp, 0, none⟩) P.length cp) (by rfl) ?_ ?_
        · (intro w1 hC; have f0 := hC.1.ps; clear hC; go_simp; first | done | (simp; done) | (simp [*]; done) | omega | (simp; omega) | rfl)
        simp only [Act.put, List.setIfInBounds_toArray, List.set_cons_zero, List.set_cons_succ]
        refine qw_run (v := .int .i64 (n : Int)) (by rfl) ?_ ?_
        · (intro w1 hC; clear hC; go_simp; first | done | (simp; done) | (simp [*]; done) | omega | (simp; omega) | rfl)
        simp only [Act.put, List.setIfInBounds_toArray, List.set_cons_zero, List.set_cons_succ]
        refine qw_run (v := .pointer (some ⟨gp, n * 3, none⟩)) (by rfl) ?_ ?_
        · (intro w1 hC; clear hC; go_simp; first | done | (simp; done) | (simp [*]; done) | omega | (simp; omega) | rfl)
        simp only [Act.put, List.setIfInBounds_toArray, List.set_cons_zero, List.set_cons_succ]
        refine qw_run (v := .pointer (some ⟨gp, n * 3 + 2, none⟩)) (by rfl) ?_ ?_
        · (intro w1 hC; clear hC; go_simp; first | done | (simp; done) | (simp [*]; done) | omega | (simp; omega) | rfl)
        simp only [Act.put, List.setIfInBounds_toArray, List.set_cons_zero, List.set_cons_succ]
        refine qw_run (v := .int .i64 u) (by rfl) ?_ ?_
        · (intro w1 hC; have f0 := (hC.1.p _ _ _ Hy.out).2.2; clear hC; go_simp; first | done | (simp; done) | (simp [*]; done) | omega | (simp; omega) | rfl)
        simp only [Act.put, List.setIfInBounds_toArray, List.set_cons_zero, List.set_cons_succ]
        refine qw_run (v := .int .i64 (q - u)) (by rfl) ?_ ?_
        · (intro w1 hC; clear hC; go_simp; first | done | (simp; done) | (simp [*]; done) | omega | (simp; omega) | rfl)
        simp only [Act.put, List.setIfInBounds_toArray, List.set_cons_zero, List.set_cons_succ]
        refine qw_run (v := .int .i64 bits) (by rfl) ?_ ?_
        · (intro w1 hC; clear hC; go_simp; first | done | (simp; done) | (simp [*]; done) | omega | (simp; omega) | rfl)
        simp only [Act.put, List.setIfInBounds_toArray, List.set_cons_zero, List.set_cons_succ]
        refine qw_run (v := .bool false) (by rfl) ?_ ?_
        · (intro w1 hC; clear hC; go_simp; first | done | (simp; done) | (simp [*]; done) | omega | (simp; omega) | rfl)
        simp only [Act.put, List.setIfInBounds_toArray, List.set_cons_zero, List.set_cons_succ]
        refine qw_nil ?_
        intro w3 hC
        have HO3 := hidX hC.2.1
        have HB3 := hidX hC.2.2
        clear hC
        go_wp2
        go_roundw
        case rel => exact ⟨k + 1, A, _, rfl, by omega, by omega, hidX (by rw [Hst.out, if_neg (by omega), List.append_nil]), HO3, rfl, HB3⟩
        case measure => simp [intOf]; omega
    · have hke : k = e := by omega
      go_wp2_with fail
      refine KX.mono ?_
      rintro r w2 ⟨rfl, hb⟩
      have HS2 := hidX (And.intro (own_bel8 hb HO.out) (keepb hb HS.out))
      clear KX HS hb KE HO
      go_wp2
      exact bodyPost_ret (by simp [results, Try.results25, go_sem]; rfl) rfl ⟨⟨_, rfl, by rw [← hke, ← HA.out]; exact HS2.out.1⟩, HS2.out.2⟩
end
end Go.Proofs.Ytoejhhoniflpeaa
/-
  The document's Find and Down tell what the program's tell.
-/
namespace Go.Proofs.Ytoejhhoniflpeaa
open Go.RowKit
set_option linter.unusedSimpArgs false
set_option linter.unusedVariables false

section
variable {F : Int} {l : List Rte} {ws : List (BitVec 128)} {L : List Nd} {P : List (BitVec 128 × Int)} {Z : List Int} {D gp cp gz cz : Nat} {v : Value}
/-- What Find tells, by the nodes. -/
def fdN (ws : List (BitVec 128)) (L : List Nd) (x : BitVec 128) (pl m : Int) : Prop := (∃ i : Nat, m = (i : Int) ∧ i < L.length ∧ ln L i = pl ∧ pfA ws L i = x) ∨ (m = -1 ∧ ∀ i, i < L.length → ln L i = pl → pfA ws L i ≠ x)
theorem Ctx.fdN_one (c : Ctx F l ws L) {x : BitVec 128} {pl m m' : Int} (h : fdN ws L x pl m) (h' : fdN ws L x pl m') : m = m' := by
  rcases h with ⟨i, rfl, h1, h2, h3⟩ | ⟨rfl, h⟩
  · rcases h' with ⟨j, rfl, g1, g2, g3⟩ | ⟨-, g⟩
    · rw [c.uniqP h1 g1 (by rw [h2, g2]) (by rw [h3, g3])]
    · exact absurd h3 (g i h1 h2)
  · rcases h' with ⟨j, rfl, g1, g2, g3⟩ | ⟨rfl, g⟩
    · exact absurd g3 (h j g1 g2)
    · rfl
theorem Dc.fdN (d : Dc ws L P Z) {x : BitVec 128} {pl m : Int} (h : FdR P x pl m) : fdN ws L x pl m := by
  rcases h with ⟨i, rfl, hi⟩ | ⟨rfl, h⟩
  · obtain ⟨h1, h2, h3⟩ := d.inv hi
    exact .inl ⟨i, rfl, h1, h3.symm, h2.symm⟩
  · exact .inr ⟨rfl, fun i hi hl hx => h i (by rw [d.pf hi, hl, hx])⟩
theorem rfind8_eq (c : Ctx F l ws L) (d : Dc ws L P Z) (x : BitVec 128) (pl : Int) (w : World) (h : DrT w D F v P Z gp cp gz cz) :
    Calls Try.prog 24 #[.pointer (some ⟨D, 0, none⟩), .agg #[.int .u64 (hI x), .int .u64 (lI x), .int .i64 pl]] w fun e w' => (∃ m, e = .returned (.int .i64 m) ∧ fdN ws L x pl m) ∧ Below w.heap.size w w' := by
  refine (rfind8_any D F v P Z gp cp gz cz x pl w h (d.srt c.t) (d.sm c)).mono ?_
  rintro e w' ⟨⟨m, rfl, hm⟩, hb⟩
  exact ⟨⟨m, rfl, d.fdN hm⟩, hb⟩
/-- The nodes that lie so many bits below one: none, where there is no such node. -/
def dnA (L : List Nd) (n bits : Int) : List Int := if 0 ≤ n ∧ n < L.length ∧ 0 ≤ bits then dnL L bits.toNat n else []
theorem rdown8_eq (c : Ctx F l ws L) (d : Dc ws L P Z) (n bits : Int) (w : World) (h : DrT w D F v P Z gp cp gz cz) :
    Calls Try.prog 25 #[.pointer (some ⟨D, 0, none⟩), .int .i64 n, .int .i64 bits] w fun e w' => (∃ lv, e = .returned lv ∧ w'.ownsRow w.heap.size 3 1 lv (dnA L n bits).length (rowZ (dnA L n bits))) ∧ Below w.heap.size w w' := by
  by_cases hn : 0 ≤ n ∧ n < L.length ∧ 0 ≤ bits
  · unfold dnA
    rw [if_pos hn]
    obtain ⟨i, rfl⟩ : ∃ i : Nat, n = (i : Int) := ⟨n.toNat, by omega⟩
    obtain ⟨b, rfl⟩ : ∃ b : Nat, bits = (b : Int) := ⟨bits.toNat, by omega⟩
    have hi : i < L.length := by omega
    obtain ⟨e, hE, -, -⟩ := c.t.node hi
    rw [Int.toNat_natCast, c.t.dn b i e hE]
    exact rdown8_yes D F v P Z gp cp gz cz L i e (b : Int) w h (d.endP c hE) (d.sm c) (fun j hj => ⟨_, d.pf (by rw [← d.pl]; exact hj)⟩) (fun j hj => c.t.ln128 (by rw [← d.pl]; exact hj)) (by omega)
  · unfold dnA
    rw [if_neg hn]
    refine (rdown8_no D F v P Z gp cp gz cz n bits w h (by rw [d.pl]; omega)).mono ?_
    rintro e w' ⟨rfl, rfl⟩
    exact ⟨⟨_, rfl, rfl, .inl ⟨rfl, rfl⟩⟩, Below.refl _ _⟩
end
end Go.Proofs.Ytoejhhoniflpeaa
/-
  Plain: what the law TrieDown counts.
-/
namespace Go.Proofs.Ytoejhhoniflpeaa
open Go.RowKit
set_option linter.unusedSimpArgs false
set_option linter.unusedVariables false

theorem atL_inc (L : List Nd) (v : Int) (a : Nat) : ∀ m, (atL L v a m).Pairwise (fun x y => x < y)
  | 0 => List.Pairwise.nil
  | m + 1 => by
    simp only [atL]
    rw [List.pairwise_append]
    refine ⟨atL_inc L v a m, ?_, ?_⟩
    · split
      · exact List.pairwise_singleton _ _
      · exact List.Pairwise.nil
    · intro x hx y hy
      obtain ⟨i, rfl, h1, h2, h3⟩ := atL_mem L v a m x hx
      split at hy
      · simp only [List.mem_singleton] at hy; omega
      · simp at hy
/-- The last of a list, -1: none. -/
def lstI (l : List Int) : Int := l.getLast?.getD (-1)
theorem lstI_one (l : List Int) (y : Int) : lstI (l ++ [y]) = y := by simp [lstI]
theorem lst_lt {l pre : List Int} {y : Int} (h : l.Pairwise (fun x y => x < y)) (hp : pre ++ [y] <+: l) (h0 : 0 ≤ y) : lstI pre < y := by
  obtain ⟨t, rfl⟩ := hp
  unfold lstI
  cases hl : pre.getLast? with
  | none => simp; omega
  | some z =>
    have hz : z ∈ pre := List.mem_of_getLast? hl
    rw [List.append_assoc, List.pairwise_append] at h
    have := h.2.2 z hz y (by simp)
    simpa using this
/-- How many of the nodes ahead of a number lie so many bits below. -/
def cwD (L : List Nd) (v : Int) (n e j : Nat) : Int := ((atL L v n (min j e - n)).length : Int)
theorem cwD_step (L : List Nd) (v : Int) (n e j : Nat) : cwD L v n e (j + 1) = cwD L v n e j + (if (n ≤ j ∧ j < e) ∧ ln L j = v then 1 else 0) := by
  unfold cwD
  by_cases c : n ≤ j ∧ j < e
  · rw [show min (j + 1) e - n = (j - n) + 1 by omega, show min j e - n = j - n by omega]
    simp only [atL, List.length_append]
    rw [show n + (j - n) = j by omega]
    by_cases d : ln L j = v
    · rw [if_pos d, if_pos ⟨c, d⟩]; simp
    · rw [if_neg d, if_neg (fun q => d q.2)]; simp
  · rw [if_neg (fun q => c q.1), show min (j + 1) e - n = min j e - n by omega]; omega
theorem cwD_zero (L : List Nd) (v : Int) (n e : Nat) : cwD L v n e 0 = 0 := by unfold cwD; rw [show min 0 e - n = 0 by omega]; rfl
theorem cwD_end (L : List Nd) (v : Int) (n e j : Nat) (h : e ≤ j) : cwD L v n e j = ((atL L v n (e - n)).length : Int) := by unfold cwD; rw [show min j e = e by omega]
theorem atL_len (L : List Nd) (v : Int) (a : Nat) : ∀ m, (atL L v a m).length ≤ m
  | 0 => by simp [atL]
  | m + 1 => by
    have := atL_len L v a m
    simp only [atL, List.length_append]
    split <;> simp <;> omega
theorem cwD_bd (L : List Nd) (v : Int) (n e j : Nat) : 0 ≤ cwD L v n e j ∧ cwD L v n e j ≤ e := by
  have := atL_len L v n (min j e - n)
  unfold cwD
  omega
end Go.Proofs.Ytoejhhoniflpeaa
