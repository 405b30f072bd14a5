/-
  Part 6 of the proof: 4 texts, one behind the other.
-/
import Derived.Test.YtgbhbooogofmbabDoorPart5
import Derived.Test.YtgbhbooogofmbabDoorPart2
import Derived.ArgAppend
import Derived.Lib.SmallJoins
import Derived.Test.YtgbhbooogofmbabDoorPart4
import Derived.Test.YtgbhbooogofmbabDoorPart3
namespace Go.Proofs.YtgbhbooogofmbabDoor
open Go.RowKit
set_option linter.unusedSimpArgs false
set_option linter.unusedVariables false

theorem lit_own17 {w : World} (base : Nat) (arr : Array Value) (l : List Nat) (hb : base ≤ w.heap.size) (he : arr.toList = l.map cB) (hl : l.length ≤ 1000) (n : Nat) (hn : n = l.length) :
    (w.alloc (.cells arr 5)).ownsRow base 5 1 (.slice (some ⟨w.heap.size, 0, none⟩) n n) l.length (l.map cB) := by
  subst hn
  have hs : arr.size = l.length := by rw [← Array.length_toList, he, List.length_map]
  have := World.ownsRow_lit (base := base) (e := 5) (size := 1) w arr l.length hb (by unfold maxLen; omega) (by rw [hs]; omega)
  rw [he] at this
  exact this
set_option maxRecDepth 20000 in
set_option maxHeartbeats 4000000 in
theorem hbytes_any (W D S n : Nat) (hW : W < 256) (hD : D < 256) (hS : S < 65536) (hn : n < 4294967296) (w : World) :
    Calls Tryd.prog 13 #[.agg #[.int .i64 (W : Int), .int .i64 (D : Int), .int .i64 (S : Int), .int .i64 (n : Int)]] w fun e w' => ∃ v', e = .returned v' ∧ w'.ownsRow w.heap.size 5 1 v' (hdB W D S n).length ((hdB W D S n).map cB) ∧ Below w.heap.size w w' := by
  obtain ⟨i0, hi, hz0, hz1, hz2⟩ := info13 Tryd.infoB13
  obtain ⟨a, ha⟩ : ∃ a : Int, a = (W : Int) := ⟨_, rfl⟩
  obtain ⟨b, hb⟩ : ∃ b : Int, b = (D : Int) := ⟨_, rfl⟩
  obtain ⟨c, hc⟩ : ∃ c : Int, c = (S : Int) := ⟨_, rfl⟩
  obtain ⟨d, hd⟩ : ∃ d : Int, d = (n : Int) := ⟨_, rfl⟩
  rw [← ha, ← hb, ← hc, ← hd]
  have a1 : IntKind.u8.wrap a = a := by simp [IntKind.wrap, IntKind.bits, IntKind.signed]; omega
  have b1 : IntKind.u8.wrap b = b := by simp [IntKind.wrap, IntKind.bits, IntKind.signed]; omega
  have c1 : IntKind.u16.wrap c = c := by simp [IntKind.wrap, IntKind.bits, IntKind.signed]; omega
  have d1 : IntKind.u32.wrap d = d := by simp [IntKind.wrap, IntKind.bits, IntKind.signed]; omega
  have q1 := bl1 w (.cells #[.int .i64 a, .int .i64 b, .int .i64 c, .int .i64 d] 37)
  obtain ⟨w1, hw1⟩ : ∃ w1, w1 = w.alloc (.cells #[.int .i64 a, .int .i64 b, .int .i64 c, .int .i64 d] 37) := ⟨_, rfl⟩
  have k0 : w1.cell? ⟨w.heap.size, 0, none⟩ = some (.int .i64 a) := by rw [hw1]; simp [go_sem]
  have k1 : w1.cell? ⟨w.heap.size, 1, none⟩ = some (.int .i64 b) := by rw [hw1]; simp [go_sem]
  have k2 : w1.cell? ⟨w.heap.size, 2, none⟩ = some (.int .i64 c) := by rw [hw1]; simp [go_sem]
  have k3 : w1.cell? ⟨w.heap.size, 3, none⟩ = some (.int .i64 d) := by rw [hw1]; simp [go_sem]
  have e1 : w1.heap.size = w.heap.size + 1 := by rw [hw1]; simp
  rw [← hw1] at q1
  have q2 := bl1 w1 (.cells #[.int .u8 84, .int .u8 80, .int .u8 75, .int .u8 49] 5 (4, 5))
  obtain ⟨w2, hw2⟩ : ∃ w2, w2 = w1.alloc (.cells #[.int .u8 84, .int .u8 80, .int .u8 75, .int .u8 49] 5 (4, 5)) := ⟨_, rfl⟩
  have c2 : ∀ j u, ([84, 80, 75, 49].map cB)[j]? = some u → w2.cell? ⟨w1.heap.size, j, none⟩ = some u := by
    intro j u hj
    rw [hw2, Go.Joins.cell_alloc_mark_at _ _ _ _ _ _ rfl]
    rw [show (#[.int .u8 84, .int .u8 80, .int .u8 75, .int .u8 49] : Array Value) = ([84, 80, 75, 49].map cB).toArray from rfl, List.getElem?_toArray]
    exact hj
  have e2 : w2.heap.size = w.heap.size + 2 := by rw [hw2]; simp; omega
  rw [← hw2] at q2
  have q3 := bl1 w2 (.cells #[.int .u8 a, .int .u8 b] 5)
  have o3 := lit_own17 (w := w2) w.heap.size #[.int .u8 a, .int .u8 b] [W, D] (by omega) (by rw [ha, hb]; rfl) (by show 2 ≤ 1000; decide) 2 rfl
  obtain ⟨w3, hw3⟩ : ∃ w3, w3 = w2.alloc (.cells #[.int .u8 a, .int .u8 b] 5) := ⟨_, rfl⟩
  have e3 : w3.heap.size = w.heap.size + 3 := by rw [hw3]; simp; omega
  rw [← hw3] at q3 o3
  have HO2 : Hid (∀ j u, ([84, 80, 75, 49].map cB)[j]? = some u → w3.cell? ((⟨w.heap.size + 1, 0, none⟩ : Addr).add j) = some u) := hid13 (fun j u hj => by
    rw [addA, Nat.zero_add, ← e1]; exact keepc q3 (c2 j u hj))
  have HO3 : Hid (∀ j u, ([W, D].map cB)[j]? = some u → w3.cell? ((⟨w.heap.size + 2, 0, none⟩ : Addr).add j) = some u) := hid13 (fun j u hj => by
    obtain ⟨-, ao, cp, h2, -, h4⟩ := own_rowA o3
    injection h2 with h5 h6 h7
    subst h5
    rcases h4 with ⟨h, -, -⟩ | ⟨ad, h, h4⟩
    · cases h
    · injection h with h; subst h; rw [← e2]; exact h4 j u hj)
  have HB3 := hid13 (keepb q3 (keepb q2 q1))
  have HK : Hid (w3.cell? ⟨w.heap.size, 2, none⟩ = some (.int .i64 c) ∧ w3.cell? ⟨w.heap.size, 3, none⟩ = some (.int .i64 d)) := ⟨keepc q3 (keepc q2 k2), keepc q3 (keepc q2 k3)⟩
  have HV : Hid (a = (W : Int) ∧ b = (D : Int) ∧ c = (S : Int) ∧ d = (n : Int) ∧ S < 65536 ∧ n < 4294967296) := ⟨ha, hb, hc, hd, hS, hn⟩
  have HW : Hid (w3 = ((w.alloc (.cells #[.int .i64 a, .int .i64 b, .int .i64 c, .int .i64 d] 37)).alloc (.cells #[.int .u8 84, .int .u8 80, .int .u8 75, .int .u8 49] 5 (4, 5))).alloc (.cells #[.int .u8 a, .int .u8 b] 5)) := by show _ = _; rw [hw3, hw2, hw1]
  have kc := Go.Joins.run_convert_bytes_const_at (P := Tryd.prog) (w.alloc (.cells #[.int .i64 a, .int .i64 b, .int .i64 c, .int .i64 d] 37)) 22 5 #[.int .u8 84, .int .u8 80, .int .u8 75, .int .u8 49] 4 4 (w.heap.size + 1) (by simp) Tryd.underlying22 Tryd.underlying5
  clear q1 q2 q3 o3 k0 k1 k2 k3 hw1 hw2 hw3 e1 e2 e3 ha hb hc hd hW hD hS hn c2
  go_enter Tryd.func13, Tryd.ntmps13
  go_wp2_with (at_builtin; apply stopHere9)
  refine (show wpList _ _ _ _ _ _ from ?_)
  rw [← HW.out]
  refine wpList_append_grows _ rfl _ _ 22 rfl 5 i0 (.int .u8 0) 1 1 Tryd.underlying22 hi hz0 hz1 hz2 rfl (by decide) (some ⟨w.heap.size + 1, 0, none⟩) 4 4 ([84, 80, 75, 49].map cB) rfl (fun h => by cases h) rfl (fun b h j u hj => by injection h with h; subst h; exact HO2.out j u hj) ⟨w.heap.size + 2, 0, none⟩ 2 2 ([W, D].map cB) rfl rfl HO3.out (cB_one _) (by decide) (by unfold maxLen; decide) (by decide) ?_
  intro v4 w4 hO4 hg4
  have hB4 : Below w.heap.size w w4 := HB3.out.grown hg4 HB3.out.size (fun z hz => by cases hz)
  have HO4 : Hid (w4.ownsRow w.heap.size 5 1 v4 [84, 80, 75, 49, W, D].length ([84, 80, 75, 49, W, D].map cB)) := own_wide13 hO4 HB3.out.size
  have h42 : w4.cell? ⟨w.heap.size, 2, none⟩ = some (.int .i64 c) := keepc ((Below.refl _ _).grown hg4 (Nat.le_refl _) (fun z hz => by cases hz)) HK.out.1
  have h43 : w4.cell? ⟨w.heap.size, 3, none⟩ = some (.int .i64 d) := keepc ((Below.refl _ _).grown hg4 (Nat.le_refl _) (fun z hz => by cases hz)) HK.out.2
  have HB4 := hid13 hB4
  have K5 := put16_any v4 [84, 80, 75, 49, W, D] S w4 (own_rowA HO4.out) (by show 6 ≤ _; decide) HV.out.2.2.2.2.1
  rw [← HV.out.2.2.1] at K5
  clear hO4 hg4 hB4 HO2 HO3 HB3 HK HW kc
  obtain ⟨g4, cc4, hv4⟩ := own_form HO4.out
  subst hv4
  go_wp2_with fail
  refine K5.mono ?_
  rintro e5 w5 ⟨v5, rfl, hO5, hb5⟩
  have h53 := keepc hb5 h43
  have HB5 := hid13 (keepb hb5 HB4.out)
  have K6 := put32_any v5 ([84, 80, 75, 49, W, D] ++ by2 S) n w5 (own_rowA hO5) (by show 8 ≤ _; decide) HV.out.2.2.2.2.2
  rw [← HV.out.2.2.2.1] at K6
  clear K5 hO5 hb5 h42 h43 HB4 HO4
  go_wp2_with fail
  refine K6.mono ?_
  rintro e6 w6 ⟨v6, rfl, hO6, hb6⟩
  have HB6 := hid13 (keepb hb6 HB5.out)
  have HO6 := hid13 (own_wide13 hO6 HB5.out.size)
  clear K6 hO6 hb6 h53 HB5
  go_wp2
  exact bodyPost_ret (v := v6) (by simp [results, Tryd.results13, go_sem]) rfl ⟨_, rfl, HO6.out, HB6.out⟩
end Go.Proofs.YtgbhbooogofmbabDoor
namespace Go.Proofs.YtgbhbooogofmbabDoor
open Go.RowKit
set_option linter.unusedSimpArgs false
set_option linter.unusedVariables false

def pkB (W D S n : Int) (l : List Nat) : List Nat := if pkE W D S n l = 0 then imB W.toNat D.toNat S.toNat n.toNat l else []
theorem pkB_no {W D S n : Int} {l : List Nat} (h : pkE W D S n l ≠ 0) : pkB W D S n l = [] := by unfold pkB; rw [if_neg h]
theorem pk_nat {W D S n : Int} {l : List Nat} (h : pkE W D S n l = 0) : W = (W.toNat : Int) ∧ D = (D.toNat : Int) ∧ S = (S.toNat : Int) ∧ n = (n.toNat : Int) ∧ W.toNat < 256 ∧ D.toNat < 256 ∧ S.toNat < 65536 ∧ n.toNat < 4294967296 := by
  obtain ⟨h1, h2, h3, h4⟩ := pk_zero h
  obtain ⟨c1, c2, c3, c4⟩ := chk_zero17 h1
  omega
theorem pkB_lt {W D S n : Int} {l : List Nat} (hl : ∀ b ∈ l, b < 256) : ∀ b ∈ pkB W D S n l, b < 256 := by
  intro b hb
  unfold pkB at hb
  split at hb
  · rename_i h
    obtain ⟨-, -, -, -, h1, h2, h3, h4⟩ := pk_nat h
    exact imB_lt h1 h2 h3 h4 hl b hb
  · cases hb
set_option maxRecDepth 20000 in
set_option maxHeartbeats 8000000 in
theorem pack_any (W D S n : Int) (v : Value) (l : List Nat) (w : World) (hA : RowA w 1 v l.length (l.map cB)) (hv : RwX cB w v l) (hl : l.length ≤ 140737488000000) (hx : ∀ b ∈ l, b < 256) (hT : Hf w) :
    Calls Tryd.prog 6 #[.agg #[.int .i64 W, .int .i64 D, .int .i64 S, .int .i64 n], v] w fun e w' => ∃ v', e = .returned (.tuple #[v', .int .i64 (pkE W D S n l)]) ∧ w'.ownsRow w.heap.size 5 1 v' (pkB W D S n l).length ((pkB W D S n l).map cB) ∧ Below w.heap.size w w' := by
  obtain ⟨vo, vc, hvf, -⟩ := id hv
  have q1 := bl1 w (.cells #[.int .i64 W, .int .i64 D, .int .i64 S, .int .i64 n] 25)
  obtain ⟨w1, hw1⟩ : ∃ w1, w1 = w.alloc (.cells #[.int .i64 W, .int .i64 D, .int .i64 S, .int .i64 n] 25) := ⟨_, rfl⟩
  have e1 : w1.heap.size = w.heap.size + 1 := by rw [hw1]; simp
  rw [← hw1] at q1
  have q2 := bl1 w1 (.cells #[.int .i64 W, .int .i64 D, .int .i64 S, .int .i64 n] 37)
  have hc : ∀ j : Nat, (w1.alloc (.cells #[.int .i64 W, .int .i64 D, .int .i64 S, .int .i64 n] 37)).cell? ⟨w.heap.size + 1, j, none⟩ = (#[.int .i64 W, .int .i64 D, .int .i64 S, .int .i64 n] : Array Value)[j]? := fun j => by rw [← e1]; exact World.cell?_alloc_mark w1 _ _ _ j
  obtain ⟨w2, hw2⟩ : ∃ w2, w2 = w1.alloc (.cells #[.int .i64 W, .int .i64 D, .int .i64 S, .int .i64 n] 37) := ⟨_, rfl⟩
  rw [← hw2] at q2 hc
  have HB2 := hid13 (keepb q2 q1)
  have K3 := hcheck_any W D S n w2
  have HW2 : Hid (w2 = (w.alloc (.cells #[.int .i64 W, .int .i64 D, .int .i64 S, .int .i64 n] 25)).alloc (.cells #[.int .i64 W, .int .i64 D, .int .i64 S, .int .i64 n] 37)) := by show _ = _; rw [hw2, hw1]
  rw [HW2.out] at K3
  have HA := hid13 hA
  have HV := hid13 hv
  have HL := hid13 hl
  have HX := hid13 hx
  have HT := hid13 hT
  have HC : Hid (w2.cell? ⟨w.heap.size + 1, 0, none⟩ = some (.int .i64 W) ∧ w2.cell? ⟨w.heap.size + 1, 1, none⟩ = some (.int .i64 D) ∧ w2.cell? ⟨w.heap.size + 1, 2, none⟩ = some (.int .i64 S) ∧ w2.cell? ⟨w.heap.size + 1, 3, none⟩ = some (.int .i64 n)) := ⟨hc 0, hc 1, hc 2, hc 3⟩
  have HE : Hid (pkE W D S n l = if chkH W D S ≠ 0 then chkH W D S else if ¬ (l.length % 4 = 0 ∧ ((l.length / 4 : Nat) : Int) = n) then 22 else if 1048572 < n then 18 else 0) := hid13 rfl
  have HP := hid13 (fun h => pkB_no (W := W) (D := D) (S := S) (n := n) (l := l) h)
  have HN := hid13 (fun h => pk_nat (W := W) (D := D) (S := S) (n := n) (l := l) h)
  have HP0 : Hid (pkE W D S n l = 0 → pkB W D S n l = imB W.toNat D.toNat S.toNat n.toNat l) := hid13 (fun h => by unfold pkB; rw [if_pos h])
  subst hvf
  clear q1 q2 hc hw1 hw2 e1 hA hv hl hx hT
  generalize pkE W D S n l = E at *
  generalize pkB W D S n l = B at *
  generalize hck : chkH W D S = c at *
  clear hck
  go_enter Tryd.func6, Tryd.ntmps6
  go_wp2_with fail
  refine K3.mono ?_
  rintro e3 w3 ⟨rfl, hb3⟩
  rw [← HW2.out] at hb3
  have HB3 := hid13 (keepb hb3 HB2.out)
  have h30 := keepc hb3 HC.out.1
  have h31 := keepc hb3 HC.out.2.1
  have h32 := keepc hb3 HC.out.2.2.1
  have h33 := keepc hb3 HC.out.2.2.2
  clear K3 hb3 HC HB2 HW2
  by_cases h0 : c = 0
  · have hE := HE.out
    rw [if_neg (fun q => q h0)] at hE
    have K4 := counts_any W D S n (.slice vo l.length vc) l w3 (HV.out.below HB3.out) (by have := HL.out; omega)
    subst h0
    by_cases h1 : (l.length % 4 = 0 ∧ ((l.length / 4 : Nat) : Int) = n)
    · rw [if_neg (fun q => q h1)] at hE
      rw [decide_eq_true h1] at K4
      have K5 := fun w => tooLong_any W D S n w
      by_cases h2 : 1048572 < n
      · rw [if_pos h2] at hE
        have HE9 : Hid (E = 18 ∧ B = []) := ⟨hE, HP.out (by rw [hE]; decide)⟩
        have K5' := fun w => (tooLong_any W D S n w)
        rw [decide_eq_true h2] at K5'
        clear HE HP HN HP0 hE h1 h2 K5
        go_wp2_with fail
        refine K4.mono ?_
        rintro e4 w4 ⟨rfl, hb4⟩
        have HB4 := hid13 (keepb hb4 HB3.out)
        have h40 := keepc hb4 h30
        have h41 := keepc hb4 h31
        have h42 := keepc hb4 h32
        have h43 := keepc hb4 h33
        clear K4 hb4 HB3 h30 h31 h32 h33
        go_wp2_with fail
        refine (K5' w4).mono ?_
        rintro e5 w5 ⟨rfl, hb5⟩
        have HB5 := hid13 (keepb hb5 HB4.out)
        clear hb5 HB4 h40 h41 h42 h43 K5'
        go_wp2
        refine bodyPost_ret (v := .tuple #[.slice none 0 0, .int .i64 18]) (by simp [results, Tryd.results6, go_sem]) rfl ⟨_, by rw [HE9.out.1], ?_, HB5.out⟩
        rw [HE9.out.2]; exact World.ownsRow_nil _ _ _ _
      · rw [if_neg h2] at hE
        obtain ⟨n1, n2, n3, n4, n5, n6, n7, n8⟩ := HN.out hE
        have K5' := fun w => (tooLong_any W D S n w)
        rw [decide_eq_false h2] at K5'
        have K6 := fun w => hbytes_any W.toNat D.toNat S.toNat n.toNat n5 n6 n7 n8 w
        rw [← n1, ← n2, ← n3, ← n4] at K6
        have HH : Hid (∀ b ∈ hdB W.toNat D.toNat S.toNat n.toNat, b < 256) := hdB_lt n5 n6 n7 n8
        have HE9 : Hid (E = 0 ∧ B = (hdB W.toNat D.toNat S.toNat n.toNat ++ by4 (crS (hdB W.toNat D.toNat S.toNat n.toNat ++ l)).toNat) ++ l ∧ (hdB W.toNat D.toNat S.toNat n.toNat).length = 12) := ⟨hE, HP0.out hE, rfl⟩
        generalize hdB W.toNat D.toNat S.toNat n.toNat = H at *
        clear HE HP HN HP0 hE h1 h2 K5 n1 n2 n3 n4 n5 n6 n7 n8
        go_wp2_with fail
        refine K4.mono ?_
        rintro e4 w4 ⟨rfl, hb4⟩
        have HB4 := hid13 (keepb hb4 HB3.out)
        have h40 := keepc hb4 h30
        have h41 := keepc hb4 h31
        have h42 := keepc hb4 h32
        have h43 := keepc hb4 h33
        clear K4 hb4 HB3 h30 h31 h32 h33
        go_wp2_with fail
        refine (K5' w4).mono ?_
        rintro e5 w5 ⟨rfl, hb5⟩
        have HB5 := hid13 (keepb hb5 HB4.out)
        have h50 := keepc hb5 h40
        have h51 := keepc hb5 h41
        have h52 := keepc hb5 h42
        have h53 := keepc hb5 h43
        clear hb5 HB4 h40 h41 h42 h43 K5'
        go_wp2_with fail
        refine (K6 w5).mono ?_
        rintro e6 w6 ⟨v6, rfl, hO6, hb6⟩
        have HB6 := hid13 (keepb hb6 HB5.out)
        obtain ⟨a6, c6, hv6⟩ := own_form hO6
        subst hv6
        have HO6 := hid13 hO6
        clear hb6 hO6 HB5 h50 h51 h52 h53 K6
        have q7 := bl1 w6 (.cells #[.slice a6 H.length c6, .slice vo l.length vc] 22)
        have K7 := sum_two (W := w6.alloc (.cells #[.slice a6 H.length c6, .slice vo l.length vc] 22)) (N := w6.heap.size) (by simp [go_sem]) (by simp [go_sem]) (RwX.below (own_rwx HO6.out) q7) ((HV.out.below HB6.out).below q7) (by have := HE9.out.2.2; omega) (by have := HL.out; omega) HH.out HX.out ((HT.out.below HB6.out).below q7)
        have K8 := put32_any (.slice a6 H.length c6) H (crS (H ++ l)).toNat (w6.alloc (.cells #[.slice a6 H.length c6, .slice vo l.length vc] 22)) ((own_rowA HO6.out).below q7) (by have := HE9.out.2.2; omega) (BitVec.isLt _)
        rw [← uI_eq] at K8
        have HE10 : Hid (E = 0 ∧ B = (H ++ by4 (crS (H ++ l)).toNat) ++ l ∧ (H ++ by4 (crS (H ++ l)).toNat).length = 16) := ⟨HE9.out.1, HE9.out.2.1, by rw [List.length_append, HE9.out.2.2]; rfl⟩
        generalize H ++ by4 (crS (H ++ l)).toNat = H4 at *
        generalize uI (crS (H ++ l)) = z at *
        have HQ7 := hid13 q7
        clear q7 HE9
        go_wp2_with fail
        refine K7.mono ?_
        rintro e7 w7 ⟨rfl, rfl⟩
        clear K7
        go_wp2_with fail
        refine K8.mono ?_
        rintro e8 w8 ⟨v8, rfl, hO8, hb8⟩
        have HB8 := hid13 (keepb hb8 (keepb HQ7.out HB6.out))
        obtain ⟨a8, c8, hv8⟩ := own_form hO8
        subst hv8
        have q9 := bl1 w8 (.cells #[.slice a8 H4.length c8, .slice vo l.length vc] 22)
        have r9 := lit_rwx (f := fun p : Value × List Nat => p.1) w8 #[.slice a8 H4.length c8, .slice vo l.length vc] 22 (0, 0) [(.slice a8 H4.length c8, H4), (.slice vo l.length vc, l)] rfl
        have K9 := concat13 _ _ _ r9 (by
          intro p hp
          simp only [List.mem_cons, List.mem_nil_iff, or_false] at hp
          rcases hp with rfl | rfl
          · exact (own_rowA hO8).below q9
          · exact (HA.out.below HB8.out).below q9) (by show 2 ≤ 1000; decide) (by
            show (H4 ++ (l ++ [])).length ≤ _
            rw [List.append_nil, List.length_append]
            have := HL.out
            have := HE10.out.2.2
            omega)
        have ha : allB [(.slice a8 H4.length c8, H4), (.slice vo l.length vc, l)] = H4 ++ l := by
          show H4 ++ (l ++ []) = _
          rw [List.append_nil]
        rw [ha] at K9
        have HB9 := hid13 (keepb q9 HB8.out)
        have HE11 : Hid (E = 0 ∧ B = H4 ++ l) := ⟨HE10.out.1, HE10.out.2.1⟩
        generalize H4 ++ l = Z at *
        clear K8 hO8 hb8 q9 r9 ha HO6 HQ7 HB6 HE10 HB8
        go_wp2_with fail
        refine K9.mono ?_
        rintro e10 w10 ⟨v10, rfl, hO10, hb10⟩
        have HB10 := hid13 (keepb hb10 HB9.out)
        have HO10 := hid13 (own_wide13 hO10 HB9.out.size)
        clear K9 hO10 hb10
        go_wp2
        refine bodyPost_ret (v := .tuple #[v10, .int .i64 0]) (by simp [results, Tryd.results6, go_sem]) rfl ⟨_, by rw [HE11.out.1], ?_, HB10.out⟩
        rw [HE11.out.2]; exact HO10.out
    · rw [if_pos h1] at hE
      rw [decide_eq_false h1] at K4
      have HE9 : Hid (E = 22 ∧ B = []) := ⟨hE, HP.out (by rw [hE]; decide)⟩
      clear HE HP HN HP0 hE h1
      go_wp2_with fail
      refine K4.mono ?_
      rintro e4 w4 ⟨rfl, hb4⟩
      have HB4 := hid13 (keepb hb4 HB3.out)
      clear K4 hb4 HB3 h30 h31 h32 h33
      go_wp2
      refine bodyPost_ret (v := .tuple #[.slice none 0 0, .int .i64 22]) (by simp [results, Tryd.results6, go_sem]) rfl ⟨_, by rw [HE9.out.1], ?_, HB4.out⟩
      rw [HE9.out.2]; exact World.ownsRow_nil _ _ _ _
  · have hn : (c != 0) = true := by simpa using h0
    have HE2 : Hid (E = c ∧ B = []) := by
      have h1 : E = c := by rw [HE.out, if_pos h0]
      exact ⟨h1, HP.out (by rw [h1]; exact h0)⟩
    clear HE HP HN HP0
    go_wp2
    refine bodyPost_ret (v := .tuple #[.slice none 0 0, .int .i64 c]) (by simp [results, Tryd.results6, go_sem]) rfl ⟨_, by rw [HE2.out.1], ?_, HB3.out⟩
    rw [HE2.out.2]; exact World.ownsRow_nil _ _ _ _
end Go.Proofs.YtgbhbooogofmbabDoor
namespace Go.Proofs.YtgbhbooogofmbabDoor
open Go.RowKit
set_option linter.unusedSimpArgs false
set_option linter.unusedVariables false

theorem gt_take {r : List Nat} {k m : Nat} (h : k + m ≤ r.length) : gtN r (k : Int) m = numN13 ((r.drop k).take m) := by
  unfold gtN
  rw [if_pos ⟨by omega, by omega⟩, Int.toNat_natCast]
theorem rwx_at {w : World} {v : Value} {l : List Nat} (h : RwX cB w v l) (hl : 16 ≤ l.length) : ∃ b off c, v = .slice (some ⟨b, off, none⟩) l.length c ∧ l.length ≤ c ∧ ∀ (j x : Nat), l[j]? = some x → w.cell? ⟨b, off + j, none⟩ = some (.int .u8 (x : Int)) := by
  obtain ⟨ao, c, e, hc, h⟩ := h
  rcases h with h | ⟨b, off, e2, h⟩
  · rw [h] at hl; cases hl
  · subst e2; exact ⟨b, off, c, e, hc, h⟩
set_option maxRecDepth 20000 in
set_option maxHeartbeats 8000000 in
theorem headOf_any (v : Value) (l : List Nat) (w : World) (hv : RwX cB w v l) (h16 : 16 ≤ l.length) (hl : l.length ≤ 140737488355328) (hx : ∀ b ∈ l, b < 256) :
    Calls Tryd.prog 29 #[v] w fun e w' => e = .returned (.agg #[.int .i64 ((rW l : Nat) : Int), .int .i64 ((rD l : Nat) : Int), .int .i64 ((rS l : Nat) : Int), .int .i64 ((rN l : Nat) : Int)]) ∧ Below w.heap.size w w' := by
  obtain ⟨b, off, cc, hvf, hcc, hcell⟩ := rwx_at hv h16
  have h4 := hcell 4 (rW l) (by unfold rW; rw [List.getD_eq_getElem?_getD, List.getElem?_eq_getElem (by omega)]; rfl)
  have h5 := hcell 5 (rD l) (by unfold rD; rw [List.getD_eq_getElem?_getD, List.getElem?_eq_getElem (by omega)]; rfl)
  have gS : gtN l 6 2 = rS l := gt_take (k := 6) (m := 2) (by omega)
  have gN : gtN l 8 4 = rN l := gt_take (k := 8) (m := 4) (by omega)
  have hlt : ∀ k m, (∀ b ∈ (l.drop k).take m, b < 256) := fun k m b hb => hx b (List.mem_of_mem_drop (List.mem_of_mem_take hb))
  have bW : rW l < 256 := hx _ (by unfold rW; rw [List.getD_eq_getElem?_getD, List.getElem?_eq_getElem (by omega)]; exact List.getElem_mem _)
  have bD : rD l < 256 := hx _ (by unfold rD; rw [List.getD_eq_getElem?_getD, List.getElem?_eq_getElem (by omega)]; exact List.getElem_mem _)
  have bS : rS l < 65536 := Nat.lt_of_lt_of_le (numN_lt _ (hlt 6 2)) (Nat.le_trans (Nat.pow_le_pow_right (by decide) (by rw [List.length_take]; exact Nat.min_le_left _ _)) (by decide))
  have bN : rN l < 4294967296 := Nat.lt_of_lt_of_le (numN_lt _ (hlt 8 4)) (Nat.le_trans (Nat.pow_le_pow_right (by decide) (by rw [List.length_take]; exact Nat.min_le_left _ _)) (by decide))
  have q1 := bl1 w (.cells #[.int .i64 0, .int .i64 0, .int .i64 0, .int .i64 0] 37)
  have K2 := get16_any v l 6 (w.alloc (.cells #[.int .i64 0, .int .i64 0, .int .i64 0, .int .i64 0] 37)) (hv.below q1) hl hx (by decide) (by decide)
  have K3 := fun w1 (hb : Below (w.alloc (.cells #[.int .i64 0, .int .i64 0, .int .i64 0, .int .i64 0] 37)).heap.size (w.alloc (.cells #[.int .i64 0, .int .i64 0, .int .i64 0, .int .i64 0] 37)) w1) => get32_any v l 8 w1 ((hv.below q1).below hb) hl hx (by decide) (by decide)
  rw [gS] at K2
  rw [gN] at K3
  obtain ⟨s, hs⟩ : ∃ s : Int, s = (rS l : Int) := ⟨_, rfl⟩
  obtain ⟨m, hm⟩ : ∃ m : Int, m = (rN l : Int) := ⟨_, rfl⟩
  obtain ⟨x4, hx4⟩ : ∃ x : Int, x = (rW l : Int) := ⟨_, rfl⟩
  obtain ⟨x5, hx5⟩ : ∃ x : Int, x = (rD l : Int) := ⟨_, rfl⟩
  rw [← hs] at K2
  rw [← hm] at K3
  rw [← hs, ← hm, ← hx4, ← hx5]
  rw [← hx4] at h4
  rw [← hx5] at h5
  have n4 : 0 ≤ x4 := by omega
  have n4' : x4 < 256 := by omega
  have n5 : 0 ≤ x5 := by omega
  have n5' : x5 < 256 := by omega
  have ns : 0 ≤ s := by omega
  have ns' : s < 65536 := by omega
  have nm : 0 ≤ m := by omega
  have nm' : m < 4294967296 := by omega
  generalize gtE l 6 2 = y2 at *
  generalize gtE l 8 4 = y4 at *
  have HC : Hid (w.cell? ⟨b, off + 4, none⟩ = some (.int .u8 x4) ∧ w.cell? ⟨b, off + 5, none⟩ = some (.int .u8 x5)) := ⟨h4, h5⟩
  have HQ := hid13 q1
  have HL : Hid (16 ≤ l.length) := h16
  have hl5 : (5 : Int) < (l.length : Int) := by omega
  subst hvf
  clear hs hm hx4 hx5 bW bD bS bN gS gN hlt h4 h5 hcell hv hx q1 hcc hl h16
  go_enter Tryd.func29, Tryd.ntmps29
  go_wp2_with fail
  refine K2.mono ?_
  rintro e2 w2 ⟨rfl, hb2⟩
  have K4 := K3 w2 hb2
  have HB2 := hid13 hb2
  clear K2 K3 hb2
  go_wp2_with fail
  refine K4.mono ?_
  rintro e3 w3 ⟨rfl, hb3⟩
  have HB3 := hid13 (keepb hb3 HB2.out)
  have c4 := keepc HB3.out (keepc HQ.out HC.out.1)
  have c5 := keepc HB3.out (keepc HQ.out HC.out.2)
  have z0 := keepc HB3.out (show (w.alloc (.cells #[.int .i64 0, .int .i64 0, .int .i64 0, .int .i64 0] 37)).cell? ⟨w.heap.size, 0, none⟩ = some (.int .i64 0) by simp [go_sem])
  have z1 := keepc HB3.out (show (w.alloc (.cells #[.int .i64 0, .int .i64 0, .int .i64 0, .int .i64 0] 37)).cell? ⟨w.heap.size, 1, none⟩ = some (.int .i64 0) by simp [go_sem])
  have z2 := keepc HB3.out (show (w.alloc (.cells #[.int .i64 0, .int .i64 0, .int .i64 0, .int .i64 0] 37)).cell? ⟨w.heap.size, 2, none⟩ = some (.int .i64 0) by simp [go_sem])
  have z3 := keepc HB3.out (show (w.alloc (.cells #[.int .i64 0, .int .i64 0, .int .i64 0, .int .i64 0] 37)).cell? ⟨w.heap.size, 3, none⟩ = some (.int .i64 0) by simp [go_sem])
  have f0 := keepf HB3.out (show (w.alloc (.cells #[.int .i64 0, .int .i64 0, .int .i64 0, .int .i64 0] 37)).cell? ⟨w.heap.size, 0, none⟩ = some (.int .i64 0) by simp [go_sem]) (show (w.alloc (.cells #[.int .i64 0, .int .i64 0, .int .i64 0, .int .i64 0] 37)).frozen? ⟨w.heap.size, 0, none⟩ = false by simp [go_sem])
  have f1 := keepf HB3.out (show (w.alloc (.cells #[.int .i64 0, .int .i64 0, .int .i64 0, .int .i64 0] 37)).cell? ⟨w.heap.size, 1, none⟩ = some (.int .i64 0) by simp [go_sem]) (show (w.alloc (.cells #[.int .i64 0, .int .i64 0, .int .i64 0, .int .i64 0] 37)).frozen? ⟨w.heap.size, 1, none⟩ = false by simp [go_sem])
  have f2 := keepf HB3.out (show (w.alloc (.cells #[.int .i64 0, .int .i64 0, .int .i64 0, .int .i64 0] 37)).cell? ⟨w.heap.size, 2, none⟩ = some (.int .i64 0) by simp [go_sem]) (show (w.alloc (.cells #[.int .i64 0, .int .i64 0, .int .i64 0, .int .i64 0] 37)).frozen? ⟨w.heap.size, 2, none⟩ = false by simp [go_sem])
  have f3 := keepf HB3.out (show (w.alloc (.cells #[.int .i64 0, .int .i64 0, .int .i64 0, .int .i64 0] 37)).cell? ⟨w.heap.size, 3, none⟩ = some (.int .i64 0) by simp [go_sem]) (show (w.alloc (.cells #[.int .i64 0, .int .i64 0, .int .i64 0, .int .i64 0] 37)).frozen? ⟨w.heap.size, 3, none⟩ = false by simp [go_sem])
  have HBw := hid13 (keepb HB3.out HQ.out)
  clear K4 hb3 HB2 HC
  go_wp2_with fail
  go_region
  go_wp2
  exact bodyPost_ret (v := .agg #[.int .i64 x4, .int .i64 x5, .int .i64 s, .int .i64 m]) (by simp [results, Tryd.results29, go_sem, *]) rfl ⟨rfl, ((((HBw.out.setCell (p := ⟨w.heap.size, 0, none⟩) (Nat.le_refl _) _).setCell (p := ⟨w.heap.size, 1, none⟩) (Nat.le_refl _) _).setCell (p := ⟨w.heap.size, 2, none⟩) (Nat.le_refl _) _).setCell (p := ⟨w.heap.size, 3, none⟩) (Nat.le_refl _) _).drew⟩
def Bx (w : World) (B : Nat) (cs : List Value) (X : World) : Prop := Below w.heap.size w X ∧ ∀ j u, cs[j]? = some u → X.cell? ⟨B, j, none⟩ = some u
theorem Bx.keep {w X X' : World} {B : Nat} {cs : List Value} (h : Bx w B cs X) (hb : Below X.heap.size X X') : Bx w B cs X' := ⟨keepb hb h.1, fun j u hj => keepc hb (h.2 j u hj)⟩
theorem Bx.drew {w X : World} {B : Nat} {cs : List Value} (h : Bx w B cs X) : Bx w B cs X.drew := ⟨h.1.drew, h.2⟩
theorem bx_new {w X : World} {t : TypeId} (hb : Below w.heap.size w X) (arr : Array Value) : Bx w X.heap.size arr.toList (X.alloc (.cells arr t)) :=
  ⟨hb.alloc hb.size _, fun j u hj => by rw [World.cell?_alloc_mark, ← Array.getElem?_toList]; exact hj⟩
theorem slice_mid17 {P : Program} {w : World} {t e : TypeId} {i : TypeInfo} {size : Nat} (ht : P.underlying t = some (.slice e)) (hi : P.info? e = some i) (hsize : i.size = size) (ao : Option Addr) (n c k h : Nat) (hk : k ≤ h) (hh : h ≤ c) :
    Sem.run P (Instr.sliceAt t (.slice ao n c) (some (.int .i64 k)) (some (.int .i64 h)) none) w = .ok (.slice (if c = k then ao else ao.map (·.add (k * size))) (h - k) (c - k)) w := by
  subst hsize
  simp [Instr.sliceAt, Instr.slice, Instr.sliceBounds, Instr.sliceBound, run_underlying ht, sizeOf, typeInfo, hi, hk, hh, go_sem]
theorem ex17 {P : Program} {w : World} {s : Sem Value} {v : Value} (h : s.run P w = .ok v w) : (do pure (Next.value (← s)) : Sem Next).run P w = .ok (.value v) w := by
  simp only [Sem.run_bind, h, Sem.run_pure, Result.andThen_ok]
def cdV (b off c k : Nat) : Value := .slice (if c = 16 then some ⟨b, off, none⟩ else (some (⟨b, off, none⟩ : Addr)).map (·.add (16 * 1))) k (c - 16)
theorem cd_rowA {W : World} {b off c n : Nat} {l : List Nat} (h : ∀ j x : Nat, l[j]? = some x → W.cell? ⟨b, off + j, none⟩ = some (.int .u8 (x : Int))) (hc : l.length ≤ c) (hn : 16 + 4 * n ≤ l.length) :
    RowA W 1 (cdV b off c (4 * n)) ((l.drop 16).take (4 * n)).length (((l.drop 16).take (4 * n)).map cB) ∧ RwX cB W (cdV b off c (4 * n)) ((l.drop 16).take (4 * n)) := by
  have hl : ((l.drop 16).take (4 * n)).length = 4 * n := by rw [List.length_take, List.length_drop]; omega
  by_cases h16 : c = 16
  · have hn0 : n = 0 := by omega
    subst hn0
    unfold cdV
    rw [if_pos h16]
    refine ⟨⟨by simp, _, _, by rw [hl], by rw [hl]; omega, .inr ⟨_, rfl, fun j u hj => ?_⟩⟩, ⟨_, _, by rw [hl], by rw [hl]; omega, .inl (by simp)⟩⟩
    simp at hj
  · unfold cdV
    rw [if_neg h16]
    have hc2 : ∀ j x : Nat, ((l.drop 16).take (4 * n))[j]? = some x → W.cell? ⟨b, off + 16 + j, none⟩ = some (.int .u8 (x : Int)) := by
      intro j x hj
      rw [List.getElem?_take] at hj
      split at hj
      · rw [List.getElem?_drop] at hj
        rw [Nat.add_assoc]
        exact h _ _ hj
      · cases hj
    refine ⟨⟨by simp, _, _, by rw [hl], by rw [hl]; omega, .inr ⟨⟨b, off + 16, none⟩, by simp [addA], fun j u hj => ?_⟩⟩, ⟨_, _, by rw [hl], by rw [hl]; omega, .inr ⟨b, off + 16, by simp [addA], fun j x hj => hc2 j x hj⟩⟩⟩
    rw [List.getElem?_map] at hj
    cases hx : ((l.drop 16).take (4 * n))[j]? with
    | none => rw [hx] at hj; cases hj
    | some y => rw [hx] at hj; cases hj; rw [addA]; exact hc2 j y hx
end Go.Proofs.YtgbhbooogofmbabDoor
namespace Go.Proofs.YtgbhbooogofmbabDoor
open Go.RowKit
set_option linter.unusedSimpArgs false
set_option linter.unusedVariables false

section
variable {P : Program}

end
end Go.Proofs.YtgbhbooogofmbabDoor
