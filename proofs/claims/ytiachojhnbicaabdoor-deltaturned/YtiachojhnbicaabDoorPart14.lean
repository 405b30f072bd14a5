/-
  Part 14 of the proof: 2 texts, one behind the other.
-/
import Derived.Test.YtiachojhnbicaabDoorPart5
import Derived.Test.YtiachojhnbicaabDoorPart2
import Derived.Lib.SmallJoins
import Derived.Test.YtiachojhnbicaabDoorPart13
namespace Go.Proofs.YtiachojhnbicaabDoor
open Go.RowKit
set_option linter.unusedSimpArgs false
set_option linter.unusedVariables false

theorem kn21_ne : ¬ ([97, 98, 99, 100, 101] : List Nat) = [97, 98, 88, 101] := by decide
theorem kn21_P : dfP [97, 98, 99, 100, 101] [97, 98, 88, 101] = ⟨2, 2, [88]⟩ := by rfl
set_option maxRecDepth 100000 in
set_option maxHeartbeats 8000000 in
theorem known21 (w : World) :
    Calls Tryd.prog 4 #[] w fun e w' => e = .returned (.bool true) ∧ Below w.heap.size w w' := by
  have kc1 := Go.Joins.run_convert_bytes_const_at (P := Tryd.prog) w 22 5 #[.int .u8 97, .int .u8 98, .int .u8 99, .int .u8 100, .int .u8 101] 5 5 w.heap.size rfl Tryd.underlying22 Tryd.underlying5
  have q1 := bl1 w (.cells #[.int .u8 97, .int .u8 98, .int .u8 99, .int .u8 100, .int .u8 101] 5 (5, 6))
  have o1 := lit_rwx (f := cB) w #[.int .u8 97, .int .u8 98, .int .u8 99, .int .u8 100, .int .u8 101] 5 (5, 6) [97, 98, 99, 100, 101] rfl
  obtain ⟨w1, hw1⟩ : ∃ w1, w1 = w.alloc (.cells #[.int .u8 97, .int .u8 98, .int .u8 99, .int .u8 100, .int .u8 101] 5 (5, 6)) := ⟨_, rfl⟩
  have kc2 := Go.Joins.run_convert_bytes_const_at (P := Tryd.prog) w1 22 5 #[.int .u8 97, .int .u8 98, .int .u8 88, .int .u8 101] 4 4 (w.heap.size + 1) (by rw [hw1]; simp) Tryd.underlying22 Tryd.underlying5
  rw [hw1] at kc2
  rw [← hw1] at q1 o1
  have q2 := bl1 w1 (.cells #[.int .u8 97, .int .u8 98, .int .u8 88, .int .u8 101] 5 (4, 5))
  have o2 := lit_rwx (f := cB) w1 #[.int .u8 97, .int .u8 98, .int .u8 88, .int .u8 101] 5 (4, 5) [97, 98, 88, 101] rfl
  obtain ⟨w2, hw2⟩ : ∃ w2, w2 = w1.alloc (.cells #[.int .u8 97, .int .u8 98, .int .u8 88, .int .u8 101] 5 (4, 5)) := ⟨_, rfl⟩
  rw [← hw2] at q2 o2
  have o1' := o1.below q2
  have K1 := diff21 _ _ [97, 98, 99, 100, 101] [97, 98, 88, 101] w2 o1' o2 (o1'.row (fun h => by cases h)) (o2.row (fun h => by cases h)) (by decide) (by decide) (by decide) (by decide)
  have HQ : Hid (Below w.heap.size w w2) := keepb q2 q1
  have HW : Hid (w2 = (w.alloc (.cells #[.int .u8 97, .int .u8 98, .int .u8 99, .int .u8 100, .int .u8 101] 5 (5, 6))).alloc (.cells #[.int .u8 97, .int .u8 98, .int .u8 88, .int .u8 101] 5 (4, 5))) := by rw [hw2, hw1]; rfl
  have hsz : w1.heap.size = w.heap.size + 1 := by rw [hw1]; simp
  rw [hsz] at K1
  clear q1 q2 o1 o2 o1' hw1 hw2 hsz
  go_enter Tryd.func4, Tryd.ntmps4
  go_wp2_with fail
  rw [← HW.out]
  refine K1.mono ?_
  rintro e w3 ⟨v3, rfl, hd, hb3⟩
  have HB3 : Hid (Below w.heap.size w w3) := keepb hb3 HQ.out
  unfold DfO at hd
  rw [if_neg kn21_ne, kn21_P] at hd
  obtain ⟨z, vx, rfl, h1, h2, -⟩ := hd
  have c0 : w3.cell? ⟨z, 0, none⟩ = some (.int .i64 2) := (h1.cellAt 0 (by decide)).trans rfl
  have c1 : w3.cell? ⟨z, 1, none⟩ = some (.int .i64 2) := (h1.cellAt 1 (by decide)).trans rfl
  have c2 : w3.cell? ⟨z, 2, none⟩ = some vx := (h1.cellAt 2 (by decide)).trans rfl
  have cv := conv13 (own_rwx h2) (by decide)
  obtain ⟨xo, xc, hvx⟩ := own_form h2
  subst hvx
  dsimp only at cv c2
  rw [show ([88] : List Nat).length = 1 from rfl] at cv c2
  have hbq : ((bsA [88]).toList == [88]) = true := by rw [bsA_list]; decide
  generalize bsA [88] = st at *
  clear h1 h2 hb3 HQ K1 HW kc1 kc2
  go_wp2
  go_ret
  exact ⟨by first | rfl | decide, HB3.out⟩
end Go.Proofs.YtiachojhnbicaabDoor
namespace Go.Proofs.YtiachojhnbicaabDoor
open Go.RowKit Go.Shelf
set_option linter.unusedSimpArgs false
set_option linter.unusedVariables false
attribute [local go_sem] Oper.semAt_some

theorem pcP_lt21 {l r : List Nat} {p : Pt} (h : pcP l = some (p, r)) (hx : ∀ z ∈ l, z < 256) : (∀ z ∈ p.x, z < 256) ∧ ∀ z ∈ r, z < 256 := by
  unfold pcP at h
  split at h
  · cases h
  · split at h
    · cases h
    · injection h with h
      injection h with h1 h2
      refine ⟨fun z hz => ?_, fun z hz => ?_⟩
      · rw [← h1] at hz
        exact hx z (List.mem_of_mem_drop (List.mem_of_mem_take hz))
      · rw [← h2] at hz
        exact hx z (List.mem_of_mem_drop (List.mem_of_mem_drop hz))
theorem lsP_lt21 : ∀ (n : Nat) (l : List Nat) (L : List Pt) (r : List Nat), lsP n l = some (L, r) → (∀ z ∈ l, z < 256) → ∀ p ∈ L, ∀ z ∈ p.x, z < 256
  | 0, l, L, r, h, _ => by
    simp only [lsP, Option.some.injEq, Prod.mk.injEq] at h
    obtain ⟨rfl, rfl⟩ := h
    intro p hp; cases hp
  | n + 1, l, L, r, h, hx => by
    unfold lsP at h
    cases hp : pcP l with
    | none => rw [hp] at h; cases h
    | some q =>
      obtain ⟨p, r1⟩ := q
      rw [hp] at h
      simp only at h
      cases hq : lsP n r1 with
      | none => rw [hq] at h; cases h
      | some q2 =>
        obtain ⟨L2, r2⟩ := q2
        rw [hq] at h
        simp only [Option.some.injEq, Prod.mk.injEq] at h
        obtain ⟨rfl, rfl⟩ := h
        have h1 := pcP_lt21 hp hx
        have h2 := lsP_lt21 n r1 L2 r2 hq h1.2
        intro t ht
        rcases List.mem_cons.1 ht with rfl | ht
        · exact h1.1
        · exact h2 t ht
theorem psR_ok21 (a b : List Nat) (hx : ∀ z ∈ b, z < 256) : (∀ p ∈ (psR a b).2, ∀ z ∈ p.x, z < 256) ∧ (psR a b).2.length ≤ b.length := by
  unfold psR
  split
  · exact ⟨fun p hp => (by cases hp), by simp⟩
  split
  · exact ⟨fun p hp => (by cases hp), by simp⟩
  split
  · exact ⟨fun p hp => (by cases hp), by simp⟩
  split
  · exact ⟨fun p hp => (by cases hp), by simp⟩
  split
  · exact ⟨fun p hp => (by cases hp), by simp⟩
  · rename_i L r hls
    split
    · exact ⟨fun p hp => (by cases hp), by simp⟩
    split
    · refine ⟨lsP_lt21 _ _ _ _ hls (fun z hz => hx z (List.mem_of_mem_drop (List.mem_of_mem_take (List.mem_of_mem_drop (List.mem_of_mem_drop hz))))), ?_⟩
      have := lsP_len21 _ _ _ _ hls
      rw [List.length_drop, List.length_drop, List.length_take, List.length_drop] at this
      show L.length ≤ _
      omega
    · exact ⟨fun p hp => (by cases hp), by simp⟩
set_option maxRecDepth 100000 in
set_option maxHeartbeats 32000000 in
theorem deltaReads_any (v : Value) (a : List Nat) (u : Value) (b : List Nat) (w : World) (hA : RowA w 1 v a.length (a.map cB)) (hv : RwX cB w v a) (hal : a.length * 1 ≤ 140737488351232) (hx : ∀ z ∈ a, z < 256) (hB : RowA w 1 u b.length (b.map cB)) (hu : RwX cB w u b) (hbl : b.length * 1 ≤ 140737488351232) (hy : ∀ z ∈ b, z < 256) (hT : Hf w) :
    Calls Tryd.prog 10 #[v, u] w fun e w' => e = .returned (.bool true) ∧ Below w.heap.size w w' := by
  obtain ⟨i0, hi, hz0, hz1, hz2⟩ := info13 Tryd.infoB13
  obtain ⟨ao, c, hvf, hc, -⟩ := id hv
  obtain ⟨bo, d, huf, hd, -⟩ := id hu
  have HV : Hid (RowA w 1 v a.length (a.map cB) ∧ RwX cB w v a ∧ RowA w 1 u b.length (b.map cB) ∧ RwX cB w u b ∧ (∀ z ∈ a, z < 256) ∧ (∀ z ∈ b, z < 256) ∧ Hf w) := ⟨hA, hv, hB, hu, hx, hy, hT⟩
  subst hvf huf
  clear hA hv hB hu hx hy hc hd hal hbl hT
  go_enter Tryd.func10, Tryd.ntmps10
  go_wp2_with fail
  refine (known21 w).mono ?_
  rintro e w1 ⟨rfl, hb⟩
  have HB1 := hid13 hb
  clear hb
  by_cases h1 : (32768 : Int) < (a.length : Int)
  · have d1 : decide ((32768 : Int) < (a.length : Int)) = true := decide_eq_true h1
    go_wp2
    go_ret
    exact ⟨rfl, HB1.out⟩
  have d1 : decide ((32768 : Int) < (a.length : Int)) = false := decide_eq_false h1
  by_cases h2 : (32768 : Int) < (b.length : Int)
  · have d2 : decide ((32768 : Int) < (b.length : Int)) = true := decide_eq_true h2
    go_wp2
    go_ret
    exact ⟨rfl, HB1.out⟩
  have d2 : decide ((32768 : Int) < (b.length : Int)) = false := decide_eq_false h2
  have HL : Hid (a.length ≤ 32768 ∧ b.length ≤ 32768) := ⟨by omega, by omega⟩
  go_wp2_with (at_builtin; apply stopHere9)
  have q1 := bl1 w1 (.cells #[] 5)
  have o1 : (w1.alloc (.cells #[] 5)).ownsRow w.heap.size 5 1 (.slice (some ⟨w1.heap.size, 0, none⟩) 0 0) 0 [] := World.ownsRow_made w1 #[] 0 HB1.out.size (by unfold maxLen; omega) (by simp)
  have r1 := HV.out.1.below (keepb q1 HB1.out)
  refine (show wpList _ _ _ _ _ _ from ?_)
  refine wpList_append_rowA rfl _ _ 22 rfl w.heap.size 5 i0 (.int .u8 0) 1 1 Tryd.underlying22 hi hz0 hz1 hz2 rfl (by decide) _ 0 [] rfl o1 _ a.length (a.map cB) rfl r1 (cB_one a) (by have := HL.out; unfold maxLen; omega) (by have := HL.out; omega) (keepb q1 HB1.out).size ?_
  intro x1o x1c w2 hO hg
  rw [Nat.zero_add, List.nil_append] at hO
  rw [Nat.zero_add]
  have HB2 : Hid (Below w.heap.size w w2) := hid13 ((keepb q1 HB1.out).grown hg (keepb q1 HB1.out).size (fun z hz => (o1.lt z hz).1))
  have HX := hid13 hO
  clear hO hg o1 r1 q1 HB1
  go_wp2_with (at_builtin; apply stopHere9)
  have q2 := bl1 w2 (.cells #[] 5)
  have o2 : (w2.alloc (.cells #[] 5)).ownsRow w.heap.size 5 1 (.slice (some ⟨w2.heap.size, 0, none⟩) 0 0) 0 [] := World.ownsRow_made w2 #[] 0 HB2.out.size (by unfold maxLen; omega) (by simp)
  have r2 := HV.out.2.2.1.below (keepb q2 HB2.out)
  refine (show wpList _ _ _ _ _ _ from ?_)
  refine wpList_append_rowA rfl _ _ 22 rfl w.heap.size 5 i0 (.int .u8 0) 1 1 Tryd.underlying22 hi hz0 hz1 hz2 rfl (by decide) _ 0 [] rfl o2 _ b.length (b.map cB) rfl r2 (cB_one b) (by have := HL.out; unfold maxLen; omega) (by have := HL.out; omega) (keepb q2 HB2.out).size ?_
  intro x2o x2c w3 hO hg
  rw [Nat.zero_add, List.nil_append] at hO
  rw [Nat.zero_add]
  have HB3 : Hid (Below w.heap.size w w3) := hid13 ((keepb q2 HB2.out).grown hg (keepb q2 HB2.out).size (fun z hz => (o2.lt z hz).1))
  have hbn2 : Below w2.heap.size w2 w3 := q2.grown hg q2.size (fun z hz => by injection hz with hz; subst hz; exact Nat.le_refl _)
  have HX2 := hid13 (own_b13 hbn2 HX.out)
  have HY := hid13 hO
  clear hO hg o2 r2 q2 hbn2 HB2 HX d1 d2
  go_wp2_with fail
  refine (parse21 _ a _ b w3 (own_rwx HX2.out) HV.out.2.2.2.2.1 (by have := HL.out; omega) (own_rwx HY.out) (own_rowA HY.out) HV.out.2.2.2.2.2.1 (by have := HL.out; omega) (HV.out.2.2.2.2.2.2.below HB3.out)).mono ?_
  rintro e w4 ⟨v4, rfl, hp4, hb⟩
  have HB4 : Hid (Below w.heap.size w w4) := keepb hb HB3.out
  have HP4 := hid13 hp4
  have HOk := hid13 (psR_ok21 a b HV.out.2.2.2.2.2.1)
  obtain ⟨o4, c4, hv4⟩ : ∃ o c, v4 = .slice o (psR a b).2.length c := by obtain ⟨o, c, h, -⟩ := hp4; exact ⟨o, c, h⟩
  subst hv4
  clear hb hp4 HB3 HX2 HY
  go_wp2_with fail
  refine (rparse21 _ a _ b w4 (HV.out.2.1.below HB4.out) HV.out.2.2.2.2.1 (by have := HL.out; omega) (HV.out.2.2.2.1.below HB4.out) (HV.out.2.2.1.below HB4.out) HV.out.2.2.2.2.2.1 (by have := HL.out; omega)).mono ?_
  rintro e w5 ⟨v5, rfl, hp5, hb⟩
  have HB5 : Hid (Below w.heap.size w w5) := keepb hb HB4.out
  have HP5 := hid13 (And.intro (HP4.out.below hb) hp5)
  obtain ⟨o5, c5, hv5⟩ : ∃ o c, v5 = .slice o (psR a b).2.length c := by obtain ⟨o, c, h, -⟩ := hp5; exact ⟨o, c, h⟩
  subst hv5
  clear hb hp5 HB4 HP4
  have KS := same21 _ _ (psR a b).2 (psR a b).2 w5 HP5.out.1 HP5.out.2 HOk.out.1 HOk.out.1 (by have := HOk.out; have := HL.out; omega)
  rw [smL_self] at KS
  generalize (psR a b).2.length = pl at *
  generalize (psR a b).1 = pe at *
  go_wp2_with fail
  refine KS.mono ?_
  rintro e w6 ⟨rfl, hb⟩
  have HB6 : Hid (Below w.heap.size w w6) := keepb hb HB5.out
  clear hb KS
  go_wp2
  go_ret
  exact ⟨by first | rfl | simp, HB6.out⟩
end Go.Proofs.YtiachojhnbicaabDoor
