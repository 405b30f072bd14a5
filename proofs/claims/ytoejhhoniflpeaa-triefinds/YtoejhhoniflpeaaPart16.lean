/-
  Part 16 of the proof: 1 texts, one behind the other.
-/
import Derived.Test.YtoejhhoniflpeaaPart12
import Derived.Test.YtoejhhoniflpeaaPart10
import Derived.Test.YtoejhhoniflpeaaPart11
import Derived.Test.YtoejhhoniflpeaaPart15
/-
  The document's tree, once it stands: what it tells of a number.
-/
namespace Go.Proofs.Ytoejhhoniflpeaa
open Go.RowKit
set_option linter.unusedSimpArgs false
set_option linter.unusedVariables false
attribute [local go_sem] Oper.semAt_some

/-- The document's tree in memory, to be read. -/
structure DrT (W : World) (D : Nat) (F : Int) (v : Value) (P : List (BitVec 128 × Int)) (Z : List Int) (gp cp gz cz : Nat) : Prop where
  f : W.cell? ⟨D, 0, none⟩ = some (.int .i64 F)
  ps : W.cell? ⟨D, 1, none⟩ = some (.slice (some ⟨gp, 0, none⟩) P.length cp)
  zs : W.cell? ⟨D, 2, none⟩ = some (.slice (some ⟨gz, 0, none⟩) Z.length cz)
  tf : W.cell? ⟨D, 3, none⟩ = some (.int .i64 F)
  tv : W.cell? ⟨D, 4, none⟩ = some v
  p : ∀ j x m, P[j]? = some (x, m) → W.cell? ⟨gp, j * 3, none⟩ = some (.int .u64 (hI x)) ∧ W.cell? ⟨gp, j * 3 + 1, none⟩ = some (.int .u64 (lI x)) ∧ W.cell? ⟨gp, j * 3 + 2, none⟩ = some (.int .i64 m)
  z : ∀ j k, Z[j]? = some k → W.cell? ⟨gz, j, none⟩ = some (.int .i64 k)
section
variable {W W' : World} {D : Nat} {F : Int} {v : Value} {P : List (BitVec 128 × Int)} {Z : List Int} {gp cp gz cz : Nat}
theorem DrT.below (k : DrT W D F v P Z gp cp gz cz) (hb : Below W.heap.size W W') : DrT W' D F v P Z gp cp gz cz :=
  ⟨keepc hb k.f, keepc hb k.ps, keepc hb k.zs, keepc hb k.tf, keepc hb k.tv, fun j x m h => ⟨keepc hb (k.p j x m h).1, keepc hb (k.p j x m h).2.1, keepc hb (k.p j x m h).2.2⟩, fun j q h => keepc hb (k.z j q h)⟩
/-- What New has made. -/
theorem DwV.read {base : Nat} {vp vh : Value} (k : DwV W base D F v P Z vp vh) (hP : P ≠ []) (hZ : Z ≠ []) : ∃ gp cp gz cz, DrT W D F v P Z gp cp gz cz := by
  have hs : ∀ {e size : Nat} {u : Value} {n : Nat} {xs : List Value}, W.ownsRow base e size u n xs → 0 < n → ∃ g c, u = .slice (some ⟨g, 0, none⟩) n c := by
    intro e size u n xs h hn
    rcases h.2 with ⟨e0, e1, _⟩ | ⟨g', cap', cur, e0, hb, hg, hnc, hm, hs, ht⟩
    · omega
    · exact ⟨_, _, e0⟩
  obtain ⟨gp, cp, rfl⟩ := hs k.op (List.length_pos_iff.mpr hP)
  obtain ⟨gz, cz, rfl⟩ := hs k.oz (List.length_pos_iff.mpr hZ)
  refine ⟨gp, cp, gz, cz, at_block k.d 0 _ rfl, at_block k.d 1 _ rfl, at_block k.d 2 _ rfl, at_block k.d 3 _ rfl, at_block k.d 4 _ rfl, ?_, ?_⟩
  · intro j x m h
    obtain ⟨hj, e⟩ := List.getElem?_eq_some_iff.mp h
    have := rowPf_get P j hj
    rw [e] at this
    exact ⟨(cells8 k.op this.1).1, (cells8 k.op this.2.1).1, (cells8 k.op this.2.2).1⟩
  · intro j q h
    obtain ⟨hj, e⟩ := List.getElem?_eq_some_iff.mp h
    have := rowZ_get Z j hj
    rw [e] at this
    exact (cells8 k.oz this).1
end
theorem ris8_any (D : Nat) (F : Int) (v : Value) (P : List (BitVec 128 × Int)) (Z : List Int) (gp cp gz cz : Nat) (n : Int) (w : World) (h : DrT w D F v P Z gp cp gz cz) :
    Calls Try.prog 45 #[.pointer (some ⟨D, 0, none⟩), .int .i64 n] w fun e w' => e = .returned (.bool (decide (0 ≤ n) && decide (n < P.length))) ∧ w' = w := by
  have n0 := h.ps
  clear h
  go_enter Try.func45, Try.ntmps45
  by_cases c : 0 ≤ n
  · have c' : decide (0 ≤ n) = true := by simpa using c
    rw [c']
    go_wp2
    exact bodyPost_ret (v := .bool (decide (n < P.length))) (by simp [results, Try.results45, go_sem, *]) rfl ⟨by simp, rfl⟩
  · have c' : decide (0 ≤ n) = false := by simpa using c
    rw [c']
    go_wp2
    exact bodyPost_ret (v := .bool false) (by simp [results, Try.results45, go_sem, *]) rfl ⟨by simp, rfl⟩
theorem rhop8_no (D : Nat) (F : Int) (v : Value) (P : List (BitVec 128 × Int)) (Z : List Int) (gp cp gz cz : Nat) (n : Int) (w : World) (h : DrT w D F v P Z gp cp gz cz) (hn : ¬ (0 ≤ n ∧ n < P.length)) :
    Calls Try.prog 21 #[.pointer (some ⟨D, 0, none⟩), .int .i64 n] w fun e w' => e = .returned (.int .i64 0) ∧ w' = w := by
  have KI := ris8_any D F v P Z gp cp gz cz n w h
  have hd : (decide (0 ≤ n) && decide (n < (P.length : Int))) = false := by
    rw [Bool.and_eq_false_iff, decide_eq_false_iff_not, decide_eq_false_iff_not]; omega
  rw [hd] at KI
  clear h hd hn
  go_enter Try.func21, Try.ntmps21
  go_wp2_with fail
  refine KI.mono ?_
  rintro e w' ⟨rfl, rfl⟩
  clear KI
  go_wp2
  exact bodyPost_ret (v := .int .i64 0) (by simp [results, Try.results21, go_sem, *]) rfl ⟨rfl, rfl⟩
theorem rhop8_yes (D : Nat) (F : Int) (v : Value) (P : List (BitVec 128 × Int)) (Z : List Int) (gp cp gz cz n : Nat) (k : Int) (w : World) (h : DrT w D F v P Z gp cp gz cz) (hn : n < P.length) (hz : Z[n]? = some k) :
    Calls Try.prog 21 #[.pointer (some ⟨D, 0, none⟩), .int .i64 (n : Int)] w fun e w' => e = .returned (.int .i64 k) ∧ w' = w := by
  have KI := ris8_any D F v P Z gp cp gz cz (n : Int) w h
  have hd : (decide (0 ≤ (n : Int)) && decide ((n : Int) < (P.length : Int))) = true := by
    rw [Bool.and_eq_true, decide_eq_true_eq, decide_eq_true_eq]; omega
  rw [hd] at KI
  have z0 := h.zs
  have z1 := h.z n k hz
  have z2 : n < Z.length := (List.getElem?_eq_some_iff.mp hz).1
  clear h hd hn hz
  go_enter Try.func21, Try.ntmps21
  go_wp2_with fail
  refine KI.mono ?_
  rintro e w' ⟨rfl, rfl⟩
  clear KI
  go_wp2
  exact bodyPost_ret (v := .int .i64 k) (by simp [results, Try.results21, go_sem, *]) rfl ⟨rfl, rfl⟩
/-- Where the nodes within a node end, by the prefixes alone. -/
def EndP (P : List (BitVec 128 × Int)) (n e : Nat) : Prop := n < e ∧ e ≤ P.length ∧ ∀ k x m y u, n < k → k ≤ e → P[k]? = some (x, m) → P[n]? = some (y, u) → rwithinB x m y u = decide (k < e)
set_option maxRecDepth 100000 in
set_option maxHeartbeats 16000000 in
theorem rend8_any (D : Nat) (F : Int) (v : Value) (P : List (BitVec 128 × Int)) (Z : List Int) (gp cp gz cz n e : Nat) (w : World) (h : DrT w D F v P Z gp cp gz cz) (he : EndP P n e) (hl : P.length ≤ 1000000000) :
    Calls Try.prog 47 #[.pointer (some ⟨D, 0, none⟩), .int .i64 (n : Int)] w fun r w' => r = .returned (.int .i64 (e : Int)) ∧ Below w.heap.size w w' := by
  have KW := fun x m y u w => rwithin_any x m y u w
  have hn : n < P.length := by have := he.1; have := he.2.1; omega
  obtain ⟨y, u, hy⟩ : ∃ y u, P[n]? = some (y, u) := ⟨P[n].1, P[n].2, by rw [List.getElem?_eq_getElem hn]⟩
  have HS := hidX (And.intro h (Below.refl w.heap.size w))
  have He := hidX he
  have Hy := hidX hy
  have w1 : IntKind.i64.wrap ((n : Int) + 1) = ((n + 1 : Nat) : Int) := by rw [IntKind.wrap_i64]; push_cast; omega
  have hn0 : n + 1 ≤ e := he.1
  have he0 : e ≤ P.length := he.2.1
  clear h he hy
  go_enter Try.func47, Try.ntmps47
  go_wp2_with fail
  go_loopw [5] (fun i wr => ∃ k : Nat, n < k ∧ k ≤ e ∧ i = .int .i64 (k : Int) ∧ Hid (DrT wr D F v P Z gp cp gz cz ∧ Below w.heap.size w wr)) (fun i _ => e - (intOf i).toNat)
  case atStart => exact ⟨n + 1, by omega, hn0, rfl, HS⟩
  case round =>
    clear HS w1
    obtain ⟨k, hk1, hk2, rfl, HS⟩ := hrel
    have HD := hidX (And.intro (HS.out.1.below (below_drewN (Below.refl _ _) 1)) (keepb (below_drewN (Below.refl _ _) 1) HS.out.2))
    clear HS
    have hC : ∀ W W', (DrT W D F v P Z gp cp gz cz ∧ Below w.heap.size w W) → Below W.heap.size W W' → (DrT W' D F v P Z gp cp gz cz ∧ Below w.heap.size w W') := fun W W' a b => ⟨a.1.below b, keepb b a.2⟩
    have HCb := hidX hC
    clear hC
    by_cases hlt : k < P.length
    · obtain ⟨x, m, hx⟩ : ∃ x m, P[k]? = some (x, m) := ⟨P[k].1, P[k].2, by rw [List.getElem?_eq_getElem hlt]⟩
      have hb := He.out.2.2 k x m y u hk1 hk2 hx Hy.out
      have Hx := hidX hx
      have KX := KW x m y u
      rw [hb] at KX
      obtain ⟨b, hbe⟩ : ∃ b, decide (k < e) = b := ⟨_, rfl⟩
      rw [hbe] at KX
      have Hbe := hidX hbe
      have hlt' : (k : Int) < (P.length : Int) := by omega
      have wk : IntKind.i64.wrap ((k : Int) + 1) = ((k + 1 : Nat) : Int) := by rw [IntKind.wrap_i64]; push_cast; omega
      clear hb hx hbe KW
      go_wp2_with fail
      refine qw_region (C := fun W => DrT W D F v P Z gp cp gz cz ∧ Below w.heap.size w W) (by kernel_rfl) (by kernel_rfl) HD.out ?_
      clear HD
      refine qw_run (v := .int .i64 (k : Int)) (by rfl) ?_ ?_
      · (intro w1 hC; clear hC; go_simp; first | done | (simp; done) | (simp [*]; done) | omega | (simp; omega) | rfl)
      simp only [Act.put, List.setIfInBounds_toArray, List.set_cons_zero, List.set_cons_succ]
      refine qw_run (v := .pointer (some ⟨D, 0, none⟩)) (by rfl) ?_ ?_
      · (intro w1 hC; clear hC; go_simp; first | done | (simp; done) | (simp [*]; done) | omega | (simp; omega) | rfl)
      simp only [Act.put, List.setIfInBounds_toArray, List.set_cons_zero, List.set_cons_succ]
      refine qw_run (v := .pointer (some ⟨D, 0, none⟩)) (by rfl) ?_ ?_
      · (intro w1 hC; clear hC; go_simp; first | done | (simp; done) | (simp [*]; done) | omega | (simp; omega) | rfl)
      simp only [Act.put, List.setIfInBounds_toArray, List.set_cons_zero, List.set_cons_succ]
      refine qw_run (v := .pointer (some ⟨D, 1, none⟩)) (by rfl) ?_ ?_
      · (intro w1 hC; clear hC; go_simp; first | done | (simp; done) | (simp [*]; done) | omega | (simp; omega) | rfl)
      simp only [Act.put, List.setIfInBounds_toArray, List.set_cons_zero, List.set_cons_succ]
      refine qw_run (v := .slice (some ⟨gp, 0, none⟩) P.length cp) (by rfl) ?_ ?_
      · (intro w1 hC; have f0 := hC.1.ps; clear hC; go_simp; first | done | (simp; done) | (simp [*]; done) | omega | (simp; omega) | rfl)
      simp only [Act.put, List.setIfInBounds_toArray, List.set_cons_zero, List.set_cons_succ]
      refine qw_run (v := .int .i64 (P.length : Int)) (by rfl) ?_ ?_
      · (intro w1 hC; clear hC; go_simp; first | done | (simp; done) | (simp [*]; done) | omega | (simp; omega) | rfl)
      simp only [Act.put, List.setIfInBounds_toArray, List.set_cons_zero, List.set_cons_succ]
      refine qw_run (v := .bool true) (by rfl) ?_ ?_
      · (intro w1 hC; clear hC; go_simp; first | done | (simp; done) | (simp [*]; done) | omega | (simp; omega) | rfl)
      simp only [Act.put, List.setIfInBounds_toArray, List.set_cons_zero, List.set_cons_succ]
      refine qw_run (v := .bool true) (by rfl) ?_ ?_
      · (intro w1 hC; clear hC; go_simp; first | done | (simp; done) | (simp [*]; done) | omega | (simp; omega) | rfl)
      simp only [Act.put, List.setIfInBounds_toArray, List.set_cons_zero, List.set_cons_succ]
      refine qw_run (v := .pointer (some ⟨D, 0, none⟩)) (by rfl) ?_ ?_
      · (intro w1 hC; clear hC; go_simp; first | done | (simp; done) | (simp [*]; done) | omega | (simp; omega) | rfl)
      simp only [Act.put, List.setIfInBounds_toArray, List.set_cons_zero, List.set_cons_succ]
      refine qw_run (v := .pointer (some ⟨D, 0, none⟩)) (by rfl) ?_ ?_
      · (intro w1 hC; clear hC; go_simp; first | done | (simp; done) | (simp [*]; done) | omega | (simp; omega) | rfl)
      simp only [Act.put, List.setIfInBounds_toArray, List.set_cons_zero, List.set_cons_succ]
      refine qw_run (v := .pointer (some ⟨D, 1, none⟩)) (by rfl) ?_ ?_
      · (intro w1 hC; clear hC; go_simp; first | done | (simp; done) | (simp [*]; done) | omega | (simp; omega) | rfl)
      simp only [Act.put, List.setIfInBounds_toArray, List.set_cons_zero, List.set_cons_succ]
      refine qw_run (v := .slice (some ⟨gp, 0, none⟩) P.length cp) (by rfl) ?_ ?_
      · (intro w1 hC; have f0 := hC.1.ps; clear hC; go_simp; first | done | (simp; done) | (simp [*]; done) | omega | (simp; omega) | rfl)
      simp only [Act.put, List.setIfInBounds_toArray, List.set_cons_zero, List.set_cons_succ]
      refine qw_run (v := .int .i64 (k : Int)) (by rfl) ?_ ?_
      · (intro w1 hC; clear hC; go_simp; first | done | (simp; done) | (simp [*]; done) | omega | (simp; omega) | rfl)
      simp only [Act.put, List.setIfInBounds_toArray, List.set_cons_zero, List.set_cons_succ]
      refine qw_run (v := .pointer (some ⟨gp, k * 3, none⟩)) (by rfl) ?_ ?_
      · (intro w1 hC; clear hC; go_simp; first | done | (simp; done) | (simp [*]; done) | omega | (simp; omega) | rfl)
      simp only [Act.put, List.setIfInBounds_toArray, List.set_cons_zero, List.set_cons_succ]
      refine qw_run (v := .agg #[.int .u64 (hI x), .int .u64 (lI x), .int .i64 m]) (by rfl) ?_ ?_
      · (intro w1 hC; have f0 := (hC.1.p _ _ _ Hx.out).1; have f1 := (hC.1.p _ _ _ Hx.out).2.1; have f2 := (hC.1.p _ _ _ Hx.out).2.2; clear hC; go_simp; first | done | (simp; done) | (simp [*]; done) | omega | (simp; omega) | rfl)
      simp only [Act.put, List.setIfInBounds_toArray, List.set_cons_zero, List.set_cons_succ]
      refine qw_run (v := .pointer (some ⟨D, 0, none⟩)) (by rfl) ?_ ?_
      · (intro w1 hC; clear hC; go_simp; first | done | (simp; done) | (simp [*]; done) | omega | (simp; omega) | rfl)
      simp only [Act.put, List.setIfInBounds_toArray, List.set_cons_zero, List.set_cons_succ]
      refine qw_run (v := .pointer (some ⟨D, 0, none⟩)) (by rfl) ?_ ?_
      · (intro w1 hC; clear hC; go_simp; first | done | (simp; done) | (simp [*]; done) | omega | (simp; omega) | rfl)
      simp only [Act.put, List.setIfInBounds_toArray, List.set_cons_zero, List.set_cons_succ]
      refine qw_run (v := .pointer (some ⟨D, 1, none⟩)) (by rfl) ?_ ?_
      · (intro w1 hC; clear hC; go_simp; first | done | (simp; done) | (simp [*]; done) | omega | (simp; omega) | rfl)
      simp only [Act.put, List.setIfInBounds_toArray, List.set_cons_zero, List.set_cons_succ]
      refine qw_run (v := .slice (some ⟨gp, 0, none⟩) P.length cp) (by rfl) ?_ ?_
      · (intro w1 hC; have f0 := hC.1.ps; clear hC; go_simp; first | done | (simp; done) | (simp [*]; done) | omega | (simp; omega) | rfl)
      simp only [Act.put, List.setIfInBounds_toArray, List.set_cons_zero, List.set_cons_succ]
      refine qw_run (v := .int .i64 (n : Int)) (by rfl) ?_ ?_
      · (intro w1 hC; clear hC; go_simp; first | done | (simp; done) | (simp [*]; done) | omega | (simp; omega) | rfl)
      simp only [Act.put, List.setIfInBounds_toArray, List.set_cons_zero, List.set_cons_succ]
      refine qw_run (v := .pointer (some ⟨gp, n * 3, none⟩)) (by rfl) ?_ ?_
      · (intro w1 hC; clear hC; go_simp; first | done | (simp; done) | (simp [*]; done) | omega | (simp; omega) | rfl)
      simp only [Act.put, List.setIfInBounds_toArray, List.set_cons_zero, List.set_cons_succ]
      refine qw_run (v := .agg #[.int .u64 (hI y), .int .u64 (lI y), .int .i64 u]) (by rfl) ?_ ?_
      · (intro w1 hC; have f0 := (hC.1.p _ _ _ Hy.out).1; have f1 := (hC.1.p _ _ _ Hy.out).2.1; have f2 := (hC.1.p _ _ _ Hy.out).2.2; clear hC; go_simp; first | done | (simp; done) | (simp [*]; done) | omega | (simp; omega) | rfl)
      simp only [Act.put, List.setIfInBounds_toArray, List.set_cons_zero, List.set_cons_succ]
      refine qw_call (v := .bool b) (f := 69) (args := #[.agg #[.int .u64 (hI x), .int .u64 (lI x), .int .i64 m], .agg #[.int .u64 (hI y), .int .u64 (lI y), .int .i64 u]]) (by rfl) ?_ ?_ ?_
      · (intro w1 hC; clear hC; go_simp)
      · exact fun w1 hC => (KX w1).mono fun e w' ⟨he, hb⟩ => ⟨he, HCb.out _ _ hC hb⟩
      simp only [Act.put, List.setIfInBounds_toArray, List.set_cons_zero, List.set_cons_succ]
      refine qw_run (v := .bool b) (by rfl) ?_ ?_
      · (intro w1 hC; clear hC; go_simp; first | done | (simp; done) | (simp [*]; done) | omega | (simp; omega) | rfl)
      simp only [Act.put, List.setIfInBounds_toArray, List.set_cons_zero, List.set_cons_succ]
      refine qw_nil ?_
      clear KX
      intro w1 hC
      have HS := hidX hC
      clear hC
      cases b
      · have hke : k = e := by have := Hbe.out; rw [decide_eq_false_iff_not] at this; omega
        subst hke
        go_wp2
        exact bodyPost_ret (v := .int .i64 (k : Int)) (by simp [results, Try.results47, go_sem]) rfl ⟨rfl, HS.out.2⟩
      · have hke : k < e := by have := Hbe.out; rwa [decide_eq_true_eq] at this
        go_wp2
        go_roundw
        case rel => exact ⟨k + 1, by omega, by omega, rfl, HS⟩
        case measure => simp [intOf]; omega
    · have hke : k = e := by omega
      subst hke
      have hlt' : ¬ (k : Int) < (P.length : Int) := by omega
      clear KW
      go_wp2_with fail
      refine qw_region (C := fun W => DrT W D F v P Z gp cp gz cz ∧ Below w.heap.size w W) (by kernel_rfl) (by kernel_rfl) HD.out ?_
      clear HD
      refine qw_run (v := .int .i64 (k : Int)) (by rfl) ?_ ?_
      · (intro w1 hC; clear hC; go_simp; first | done | (simp; done) | (simp [*]; done) | omega | (simp; omega) | rfl)
      simp only [Act.put, List.setIfInBounds_toArray, List.set_cons_zero, List.set_cons_succ]
      refine qw_run (v := .pointer (some ⟨D, 0, none⟩)) (by rfl) ?_ ?_
      · (intro w1 hC; clear hC; go_simp; first | done | (simp; done) | (simp [*]; done) | omega | (simp; omega) | rfl)
      simp only [Act.put, List.setIfInBounds_toArray, List.set_cons_zero, List.set_cons_succ]
      refine qw_run (v := .pointer (some ⟨D, 0, none⟩)) (by rfl) ?_ ?_
      · (intro w1 hC; clear hC; go_simp; first | done | (simp; done) | (simp [*]; done) | omega | (simp; omega) | rfl)
      simp only [Act.put, List.setIfInBounds_toArray, List.set_cons_zero, List.set_cons_succ]
      refine qw_run (v := .pointer (some ⟨D, 1, none⟩)) (by rfl) ?_ ?_
      · (intro w1 hC; clear hC; go_simp; first | done | (simp; done) | (simp [*]; done) | omega | (simp; omega) | rfl)
      simp only [Act.put, List.setIfInBounds_toArray, List.set_cons_zero, List.set_cons_succ]
      refine qw_run (v := .slice (some ⟨gp, 0, none⟩) P.length cp) (by rfl) ?_ ?_
      · (intro w1 hC; have f0 := hC.1.ps; clear hC; go_simp; first | done | (simp; done) | (simp [*]; done) | omega | (simp; omega) | rfl)
      simp only [Act.put, List.setIfInBounds_toArray, List.set_cons_zero, List.set_cons_succ]
      refine qw_run (v := .int .i64 (P.length : Int)) (by rfl) ?_ ?_
      · (intro w1 hC; clear hC; go_simp; first | done | (simp; done) | (simp [*]; done) | omega | (simp; omega) | rfl)
      simp only [Act.put, List.setIfInBounds_toArray, List.set_cons_zero, List.set_cons_succ]
      refine qw_run (v := .bool false) (by rfl) ?_ ?_
      · (intro w1 hC; clear hC; go_simp; first | done | (simp; done) | (simp [*]; done) | omega | (simp; omega) | rfl)
      simp only [Act.put, List.setIfInBounds_toArray, List.set_cons_zero, List.set_cons_succ]
      refine qw_run (v := .bool false) (by rfl) ?_ ?_
      · (intro w1 hC; clear hC; go_simp; first | done | (simp; done) | (simp [*]; done) | omega | (simp; omega) | rfl)
      simp only [Act.put, List.setIfInBounds_toArray, List.set_cons_zero, List.set_cons_succ]
      refine qw_skip (by rfl) ?_
      simp only [Act.put, List.setIfInBounds_toArray, List.set_cons_zero, List.set_cons_succ]
      refine qw_skip (by rfl) ?_
      simp only [Act.put, List.setIfInBounds_toArray, List.set_cons_zero, List.set_cons_succ]
      refine qw_skip (by rfl) ?_
      simp only [Act.put, List.setIfInBounds_toArray, List.set_cons_zero, List.set_cons_succ]
      refine qw_skip (by rfl) ?_
      simp only [Act.put, List.setIfInBounds_toArray, List.set_cons_zero, List.set_cons_succ]
      refine qw_skip (by rfl) ?_
      simp only [Act.put, List.setIfInBounds_toArray, List.set_cons_zero, List.set_cons_succ]
      refine qw_skip (by rfl) ?_
      simp only [Act.put, List.setIfInBounds_toArray, List.set_cons_zero, List.set_cons_succ]
      refine qw_skip (by rfl) ?_
      simp only [Act.put, List.setIfInBounds_toArray, List.set_cons_zero, List.set_cons_succ]
      refine qw_skip (by rfl) ?_
      simp only [Act.put, List.setIfInBounds_toArray, List.set_cons_zero, List.set_cons_succ]
      refine qw_skip (by rfl) ?_
      simp only [Act.put, List.setIfInBounds_toArray, List.set_cons_zero, List.set_cons_succ]
      refine qw_skip (by rfl) ?_
      simp only [Act.put, List.setIfInBounds_toArray, List.set_cons_zero, List.set_cons_succ]
      refine qw_skip (by rfl) ?_
      simp only [Act.put, List.setIfInBounds_toArray, List.set_cons_zero, List.set_cons_succ]
      refine qw_skip (by rfl) ?_
      simp only [Act.put, List.setIfInBounds_toArray, List.set_cons_zero, List.set_cons_succ]
      refine qw_skip (by rfl) ?_
      simp only [Act.put, List.setIfInBounds_toArray, List.set_cons_zero, List.set_cons_succ]
      refine qw_skip (by rfl) ?_
      simp only [Act.put, List.setIfInBounds_toArray, List.set_cons_zero, List.set_cons_succ]
      refine qw_skip (by rfl) ?_
      simp only [Act.put, List.setIfInBounds_toArray, List.set_cons_zero, List.set_cons_succ]
      refine qw_run (v := .bool false) (by rfl) ?_ ?_
      · (intro w1 hC; clear hC; go_simp; first | done | (simp; done) | (simp [*]; done) | omega | (simp; omega) | rfl)
      simp only [Act.put, List.setIfInBounds_toArray, List.set_cons_zero, List.set_cons_succ]
      refine qw_nil ?_
      intro w1 hC
      have HS := hidX hC
      clear hC
      go_wp2
      exact bodyPost_ret (v := .int .i64 (k : Int)) (by simp [results, Try.results47, go_sem]) rfl ⟨rfl, HS.out.2⟩
end Go.Proofs.Ytoejhhoniflpeaa
