/-
  Part 9 of the proof: 7 texts, one behind the other.
-/
import Derived.Test.YtgbhbooogofmbabDoorPart6
import Derived.Test.YtgbhbooogofmbabDoorPart8
import Derived.Test.YtgbhbooogofmbabDoorPart3
import Derived.Test.YtgbhbooogofmbabDoorPart4
import Derived.Test.YtgbhbooogofmbabDoorPart1
import Derived.Test.YtgbhbooogofmbabDoorPart2
import Derived.Deep.CutBlock
import Derived.Deep.DeepCutAuto
namespace Go.Proofs.YtgbhbooogofmbabDoor
open Go.RowKit
set_option linter.unusedSimpArgs false
set_option linter.unusedVariables false

theorem eqH_run (a b c d a' b' c' d' : Int) (w : World) :
    (Op.equalIn 10000 25 (.agg #[.int .i64 a, .int .i64 b, .int .i64 c, .int .i64 d]) (.agg #[.int .i64 a', .int .i64 b', .int .i64 c', .int .i64 d'])).run Tryd.prog w = .ok ((a == a') && ((b == b') && ((c == c') && (d == d')))) w := by
  by_cases h1 : a = a'
  · by_cases h2 : b = b'
    · by_cases h3 : c = c'
      · by_cases h4 : d = d'
        · subst h1 h2 h3 h4; go_simp
          try simp [*]
        · subst h1 h2 h3; go_simp
          try simp [*]
      · subst h1 h2; go_simp
        try simp [*]
    · subst h1; go_simp
      try simp [*]
  · go_simp
    try simp [*]
theorem kn_pk : pkE 32 0 1 1 [4, 0, 0, 9] = 0 := by decide +kernel
theorem kn_B : pkB 32 0 1 1 [4, 0, 0, 9] = imB 32 0 1 1 [4, 0, 0, 9] := by unfold pkB; rw [if_pos kn_pk]; rfl
theorem kn_op : opE (imB 32 0 1 1 [4, 0, 0, 9]) 0 = 0 := by
  unfold opE
  rw [if_neg (by rw [imB_len]; decide)]
  have := im_of (W := 32) (D := 0) (S := 1) (n := 1) (l := [4, 0, 0, 9]) kn_pk []
  rw [List.append_nil] at this
  exact this
theorem kn_opV : opV (imB 32 0 1 1 [4, 0, 0, 9]) 0 = .agg #[.int .i64 32, .int .i64 0, .int .i64 1, .int .i64 1] ∧ opC (imB 32 0 1 1 [4, 0, 0, 9]) 0 = [4, 0, 0, 9] := by
  obtain ⟨a1, a2, a3, a4, a5, a6, a7, a8⟩ := im_read (W := 32) (D := 0) (S := 1) (n := 1) (l := [4, 0, 0, 9]) (by decide) (by decide) rfl []
  rw [List.append_nil] at a2 a3 a4 a5 a6
  unfold opV opC
  rw [if_pos kn_op, if_pos kn_op, show (0 : Int).toNat = 0 from rfl, List.drop_zero, a2, a3, a4, a5, a6]
  exact ⟨rfl, rfl⟩
set_option maxRecDepth 100000 in
set_option maxHeartbeats 8000000 in
theorem known17 (w : World) (hT : Hf w) :
    Calls Tryd.prog 4 #[] w fun e w' => e = .returned (.bool true) ∧ Below w.heap.size w w' := by
  obtain ⟨i0, hi, hz0, hz1, hz2⟩ := info13 Tryd.infoB13
  have q1 := bl1 w (.cells #[.int .u8 4, .int .u8 0, .int .u8 0, .int .u8 9] 5)
  have o1 := lit_own17 (w := w) w.heap.size #[.int .u8 4, .int .u8 0, .int .u8 0, .int .u8 9] [4, 0, 0, 9] (Nat.le_refl _) rfl (by decide) 4 rfl
  have K1 := pack_any 32 0 1 1 (.slice (some ⟨w.heap.size, 0, none⟩) 4 4) [4, 0, 0, 9] (w.alloc (.cells #[.int .u8 4, .int .u8 0, .int .u8 0, .int .u8 9] 5)) (own_rowA o1) (own_rwx o1) (by decide) (by decide) (hT.below q1)
  rw [kn_pk, kn_B] at K1
  have HQ := hid13 q1
  have HT := hid13 hT
  have hBl : (imB 32 0 1 1 [4, 0, 0, 9]).length = 20 := imB_len _ _ _ _ _
  have h12 : (imB 32 0 1 1 [4, 0, 0, 9]).take 12 = [84, 80, 75, 49, 32, 0, 0, 1, 0, 0, 0, 1] := by
    have := (im_read (W := 32) (D := 0) (S := 1) (n := 1) (l := [4, 0, 0, 9]) (by decide) (by decide) rfl []).2.2.2.2.2.2.1
    rw [List.append_nil] at this
    exact this
  have hlt : ∀ b ∈ imB 32 0 1 1 [4, 0, 0, 9], b < 256 := imB_lt (by decide) (by decide) (by decide) (by decide) (by decide)
  have K2 := fun v w' (hv : RwX cB w' v (imB 32 0 1 1 [4, 0, 0, 9])) (hT : Hf w') => open_any v _ 0 w' hv (by rw [hBl]; decide) hlt hT
  rw [kn_op, kn_opV.1, kn_opV.2] at K2
  generalize imB 32 0 1 1 [4, 0, 0, 9] = B at *
  have HB : Hid (B.take 12 = [84, 80, 75, 49, 32, 0, 0, 1, 0, 0, 0, 1] ∧ B.length = 20 ∧ ∀ b ∈ B, b < 256) := ⟨h12, hBl, hlt⟩
  clear q1 o1 hT hBl h12 hlt hz0 hz1 hz2
  go_enter Tryd.func4, Tryd.ntmps4
  go_wp2_with fail
  refine K1.mono ?_
  rintro e w1 ⟨v1, rfl, hO1, hb1⟩
  rw [HB.out.2.1] at hO1
  obtain ⟨ao, c, hv⟩ := own_form hO1
  subst hv
  have hR : RwX cB w1 (.slice ao 20 c) B := own_rwx (l := B) (by rw [HB.out.2.1]; exact hO1)
  have hc20 : (20 : Int) ≤ (c : Int) := by
    obtain ⟨ao', c', e, hc, -⟩ := id hR
    injection e with e1 e2 e3
    rw [HB.out.2.1] at hc
    omega
  have hs := run_slice_to (P := Tryd.prog) (w := w1) Tryd.underlying22 hi ao 20 c 12 (by omega)
  have hR12 : RwX cB w1 (.slice ao 12 c) [84, 80, 75, 49, 32, 0, 0, 1, 0, 0, 0, 1] := by
    have h : RwX cB w1 (.slice ao 20 c) (B.take 12 ++ B.drop 12) := by rw [List.take_append_drop]; exact hR
    have := rwx_take h
    rw [HB.out.1] at this
    exact this
  have hcv := conv13 hR12 (by decide)
  rw [show bsA [84, 80, 75, 49, 32, 0, 0, 1, 0, 0, 0, 1] = ⟨#[84, 80, 75, 49, 32, 0, 0, 1, 0, 0, 0, 1]⟩ from rfl] at hcv
  have HB1 := hid13 (keepb hb1 HQ.out)
  have K3 := K2 _ w1 hR (HT.out.below HB1.out)
  clear K1 K2 hO1 hb1 hR hR12 HB HQ HT hi
  go_wp2_with fail
  refine K3.mono ?_
  rintro e w2 ⟨v2, rfl, hO2, hb2⟩
  obtain ⟨ao2, c2, hv2⟩ := own_form hO2
  subst hv2
  have q3 := bl1 w2 (.cells #[.int .i64 32, .int .i64 0, .int .i64 1, .int .i64 1] 25)
  have hcv2 : (convert 22 9 (.slice ao2 4 c2)).run Tryd.prog (w2.alloc (.cells #[.int .i64 32, .int .i64 0, .int .i64 1, .int .i64 1] 25)) = .ok (.string (bsA [4, 0, 0, 9])) (w2.alloc (.cells #[.int .i64 32, .int .i64 0, .int .i64 1, .int .i64 1] 25)) := conv13 ((own_rwx (l := [4, 0, 0, 9]) hO2).below q3) (by decide)
  rw [show bsA [4, 0, 0, 9] = ⟨#[4, 0, 0, 9]⟩ from rfl] at hcv2
  have HB2 := hid13 (keepb q3 (keepb hb2 HB1.out))
  have hq := eqH_run 32 0 1 1 32 0 1 1
  clear K3 hO2 hb2 HB1 q3 hs hcv hc20
  go_wp2
  go_ret
  exact ⟨rfl, HB2.out⟩
end Go.Proofs.YtgbhbooogofmbabDoor
namespace Go.Proofs.YtgbhbooogofmbabDoor
set_option linter.unusedSimpArgs false
set_option linter.unusedVariables false

theorem op_zero (l : List Nat) : opE l 0 = ofE l := by
  unfold opE; rw [if_neg (by omega)]; rfl
theorem pk_facts {W D S n : Nat} {l : List Nat} (h : pkE W D S n l = 0) : S < 65536 ∧ n < 4294967296 ∧ l.length = 4 * n ∧ n ≤ 1048572 ∧ W < 256 ∧ D < 256 := by
  obtain ⟨h1, h2, h3, h4⟩ := pk_zero h
  obtain ⟨c1, c2, c3, c4⟩ := chk_zero17 h1
  omega
end Go.Proofs.YtgbhbooogofmbabDoor
namespace Go.Proofs.YtgbhbooogofmbabDoor
open Go.RowKit
set_option linter.unusedSimpArgs false
set_option linter.unusedVariables false

theorem within17 (a n : Int) (hn : 0 < n) (hm : n ≤ 1000000000000000000) (w : World) :
    Calls Tryd.prog 9 #[.int .i64 a, .int .i64 n] w fun e w' => e = .returned (.int .i64 (wthT a n)) ∧ w' = w := by
  have h1 := Int.tmod_lt_of_pos a hn
  have h2 := Int.lt_tmod_of_pos a hn
  have hne : ¬ n = 0 := by omega
  have hne1 : ¬ n = -1 := by omega
  obtain ⟨r, hr⟩ : ∃ r, r = a.tmod n := ⟨_, rfl⟩
  have HR := hid13 hr
  rw [← hr] at h1 h2
  have hr' := hr.symm
  clear hr
  by_cases c : r < 0
  · have w2 : IntKind.i64.wrap (r + n) = r + n := by rw [IntKind.wrap_i64]; omega
    have HE : Hid (wthT a n = r + n) := by show _ = _; unfold wthT; rw [← HR.out, if_pos c]
    go_enter Tryd.func9, Tryd.ntmps9
    go_wp2
    go_ret
    exact ⟨by rw [HE.out]; rfl, rfl⟩
  · have HE : Hid (wthT a n = r) := by show _ = _; unfold wthT; rw [← HR.out, if_neg c]
    go_enter Tryd.func9, Tryd.ntmps9
    go_wp2
    go_ret
    exact ⟨by rw [HE.out]; rfl, rfl⟩

def hW (six : Bool) : Nat := if six then 128 else 32
def hD (six : Bool) (depth : Int) : Nat := (wthT depth ((hW six : Int) + 1)).toNat
def hS (six : Bool) (depth : Int) : Nat := (max 1 (3 * (hD six depth : Int))).toNat
theorem hD_is (six : Bool) (depth : Int) : wthT depth ((hW six : Int) + 1) = (hD six depth : Int) ∧ hD six depth ≤ hW six := by
  have := wthT_in depth ((hW six : Int) + 1) (by omega)
  unfold hD
  omega
theorem hS_is (six : Bool) (depth : Int) : max 1 (3 * (hD six depth : Int)) = (hS six depth : Int) := by unfold hS; omega
theorem h_chk (six : Bool) (depth : Int) : chkH (hW six) (hD six depth) (hS six depth) = 0 := by
  have h1 := (hD_is six depth).2
  have h2 := hS_is six depth
  have h3 : hW six = 32 ∨ hW six = 128 := by cases six; exact .inl rfl; exact .inr rfl
  unfold chkH
  rw [if_neg (by omega), if_neg (by omega)]
theorem h_pk (six : Bool) (depth : Int) (l : List Nat) (h4 : l.length % 4 = 0) (hl : l.length ≤ 4194288) : pkE (hW six) (hD six depth) (hS six depth) ((l.length / 4 : Nat) : Int) l = 0 := by
  unfold pkE
  rw [h_chk, if_neg (fun q => q rfl), if_neg (fun q => q ⟨h4, rfl⟩), if_neg (by omega)]
set_option maxHeartbeats 4000000 in
theorem header17 (six : Bool) (depth words : Int) (w : World) :
    Calls Tryd.prog 5 #[.bool six, .int .i64 depth, .int .i64 words] w fun e w' => e = .returned (.agg #[.int .i64 ((hW six : Nat) : Int), .int .i64 ((hD six depth : Nat) : Int), .int .i64 ((hS six depth : Nat) : Int), .int .i64 words]) ∧ Below w.heap.size w w' := by
  have KW := fun X => within17 depth ((hW six : Int) + 1) (by omega) (by cases six <;> decide) X
  rw [(hD_is six depth).1] at KW
  have mx := max_16 1 (3 * (hD six depth : Int))
  rw [hS_is] at mx
  have hd1 : (hD six depth : Int) ≤ 128 := by have := (hD_is six depth).2; cases six; (have : hW false = 32 := rfl); omega; (have : hW true = 128 := rfl); omega
  have hd0 : 0 ≤ (hD six depth : Int) := by omega
  generalize ((hD six depth : Nat) : Int) = d at *
  generalize ((hS six depth : Nat) : Int) = s at *
  have q1 := bl1 w (.cells #[.int .i64 0, .int .i64 0, .int .i64 0, .int .i64 0] 25)
  obtain ⟨w1, hw1⟩ : ∃ w1, w1 = w.alloc (.cells #[.int .i64 0, .int .i64 0, .int .i64 0, .int .i64 0] 25) := ⟨_, rfl⟩
  have HW1 := hid13 hw1
  have HB1 : Hid (Below w.heap.size w w1) := by rw [hw1]; exact q1
  clear q1 hw1
  go_enter Tryd.func5, Tryd.ntmps5
  cases six with
  | false =>
    have KW' : ∀ X, Calls Tryd.prog 9 #[.int .i64 depth, .int .i64 33] X fun e w' => e = .returned (.int .i64 d) ∧ w' = X := KW
    have hw : ((hW false : Nat) : Int) = 32 := rfl
    rw [hw]
    clear KW hw
    go_wp2_with (go_at_call 9; refine (KW' _).mono ?_; rintro e w2 ⟨rfl, hw2⟩; replace hw2 := hw2.symm; subst hw2)
    exact bodyPost_ret (v := .agg #[.int .i64 32, .int .i64 d, .int .i64 s, .int .i64 words]) (by simp [results, Tryd.results5, go_sem]) rfl ⟨rfl, keepb (bl1 _ _) (bl1 w _)⟩
  | true =>
    have KW' : ∀ X, Calls Tryd.prog 9 #[.int .i64 depth, .int .i64 129] X fun e w' => e = .returned (.int .i64 d) ∧ w' = X := KW
    have hw : ((hW true : Nat) : Int) = 128 := rfl
    rw [hw]
    clear KW hw
    go_wp2_with (go_at_call 9; refine (KW' _).mono ?_; rintro e w2 ⟨rfl, hw2⟩; replace hw2 := hw2.symm; subst hw2)
    exact bodyPost_ret (v := .agg #[.int .i64 128, .int .i64 d, .int .i64 s, .int .i64 words]) (by simp [results, Tryd.results5, go_sem]) rfl ⟨rfl, keepb (bl1 _ _) (bl1 w _)⟩
theorem rowA_take17 {w : World} {ao : Option Addr} {n c m : Nat} {l : List Nat} (h : RowA w 1 (.slice ao n c) l.length (l.map cB)) (hn : n = l.length) (hm : m ≤ l.length) : RowA w 1 (.slice ao m c) (l.take m).length ((l.take m).map cB) := by
  obtain ⟨h1, ao', c', e, hc, h⟩ := h
  injection e with e1 e2 e3
  subst e1 e3
  have hl : (l.take m).length = m := by rw [List.length_take]; omega
  refine ⟨by simp, ao, c, by rw [hl], by rw [hl]; omega, ?_⟩
  rcases h with ⟨h2, h3, h4⟩ | ⟨a, h2, h3⟩
  · exact .inl ⟨h2, h3, by omega⟩
  · refine .inr ⟨a, h2, fun j u hj => h3 j u ?_⟩
    rw [List.getElem?_map] at hj ⊢
    rw [List.getElem?_take] at hj
    split at hj
    · exact hj
    · cases hj
end Go.Proofs.YtgbhbooogofmbabDoor
namespace Go.Proofs.YtgbhbooogofmbabDoor
open Go.RowKit
set_option linter.unusedSimpArgs false
set_option linter.unusedVariables false

theorem byX2 (c : BitVec 32) (b : Nat) (h : b < 256) : bits .xor .u32 (uI c) (b : Int) = uI (c ^^^ BitVec.ofNat 32 b) := by
  rw [← xor32, uI_of b (by omega)]
set_option maxRecDepth 100000 in
set_option maxHeartbeats 4000000 in
theorem rstep13 (c : BitVec 32) (b : Nat) (hb : b < 256) (w : World) :
    Calls Tryd.prog 33 #[.int .u32 (uI c), .int .u8 (b : Int)] w fun e w' => e = .returned (.int .u32 (uI (stp c b))) ∧ w' = w := by
  have hx := byX2 c b hb
  have hbi : ((b : Nat) : Int) < 256 := by omega
  obtain ⟨X, hX⟩ : ∃ X, X = c ^^^ BitVec.ofNat 32 b := ⟨_, rfl⟩
  have HS : Hid (stp c b = hbN 8 X) := by show _ = _; rw [hX]; rfl
  rw [← hX] at hx
  clear hX hb
  go_enter Tryd.func33, Tryd.ntmps33
  go_wp2_with fail
  clear hx
  go_loopg [0, 5, 6] 8 (fun k a i o wr => wr = w ∧ ∃ (C : BitVec 32) (j : Nat), j + k = 8 ∧ a = .int .u32 (uI C) ∧ i = .int .i64 (j : Int) ∧ Hid (hbN k C = hbN 8 X))
  case atStart => exact ⟨rfl, X, 0, rfl, rfl, rfl, rfl⟩
  case round =>
    obtain ⟨rfl, C, j, hk, rfl, rfl, HC⟩ := hrel
    by_cases hj : j < 8
    · have hji : (j : Int) < 8 := by omega
      obtain ⟨g, rfl⟩ : ∃ g, gk = g + 1 := ⟨gk - 1, by omega⟩
      have h1 := odd32 C
      have h2 := half32 C
      have mk : IntKind.i64.wrap ((j : Int) + 1) = (j : Int) + 1 := by rw [IntKind.wrap_i64]; omega
      have HN : Hid (hbN g (hb C) = hbN 8 X) := HC.out
      have HJ : Hid (j + 1 + g = 8) := by show j + 1 + g = 8; omega
      clear HC hk hj
      cases c : C.getLsbD 0
      · rw [hb_even C c] at HN
        rw [c] at h1
        simp only [Bool.false_eq_true, if_false] at h1
        clear c
        go_wp2_with fail
        go_roundg g
        case measure => omega
        case rel => exact ⟨rfl, _, j + 1, HJ.out, rfl, rfl, HN⟩
      · rw [hb_odd C c] at HN
        rw [c] at h1
        simp only [if_true] at h1
        have h3 := xorM (C >>> 1)
        clear c
        go_wp2_with fail
        go_roundg g
        case measure => omega
        case rel => exact ⟨rfl, _, j + 1, HJ.out, rfl, rfl, HN⟩
    · have hji : ¬ (j : Int) < 8 := by omega
      obtain rfl : gk = 0 := by omega
      have HN : Hid (C = hbN 8 X) := HC.out
      go_wp2_with fail
      go_ret
      exact ⟨congrArg Ending.returned (congrArg (Value.int .u32) (congrArg uI (HN.out.trans HS.out.symm))), rfl⟩
end Go.Proofs.YtgbhbooogofmbabDoor
namespace Go.Proofs.YtgbhbooogofmbabDoor
open Go.RowKit
set_option linter.unusedSimpArgs false
set_option linter.unusedVariables false

theorem rsum13 (v : Value) (l : List Nat) (w : World) (hv : RwX cB w v l) (hl : l.length ≤ 9223372036854775806) (hx : ∀ b ∈ l, b < 256) :
    Calls Tryd.prog 24 #[v] w fun e w' => e = .returned (.int .u32 (uI (crS l))) ∧ w' = w := by
  obtain ⟨ao, cc, rfl, hc, hv⟩ := hv
  have HV := hid13 hv
  have HX := hid13 hx
  have HL := hid13 hl
  clear hv hc hl hx
  go_enter Tryd.func24, Tryd.ntmps24
  go_wp2_with fail
  go_loopg [3, 4] l.length (fun g a i wr => wr = w ∧ ∃ (k : Nat) (C : BitVec 32), k + g = l.length ∧ a = .int .u32 (uI C) ∧ i = .int .i64 (k : Int) ∧ Hid (crF C (l.drop k) = crF (BitVec.allOnes 32) l))
  case atStart =>
    refine ⟨rfl, 0, BitVec.allOnes 32, by omega, ?_, rfl, rfl⟩
    exact congrArg (Value.int .u32) (by rw [uI_eq]; decide)
  case round =>
    obtain ⟨rfl, k, C, hk, rfl, rfl, HC⟩ := hrel
    by_cases hlt : k < l.length
    · have hli : (k : Int) < (l.length : Int) := by omega
      obtain ⟨bo, off, rfl, hcell⟩ : ∃ bo off, ao = some ⟨bo, off, none⟩ ∧ ∀ j x, l[j]? = some x → wr.cell? ⟨bo, off + j, none⟩ = some (cB x) := by
        rcases HV.out with h | h
        · rw [h] at hlt; simp at hlt
        · exact h
      obtain ⟨q, hq⟩ : ∃ q, q = l[k] := ⟨_, rfl⟩
      have hrd : wr.cell? ⟨bo, off + k, none⟩ = some (.int .u8 (q : Int)) := hcell k q (by rw [hq]; simp [hlt])
      have HE : Hid (crF (stp C q) (l.drop (k + 1)) = crF (BitVec.allOnes 32) l) := hid13 (by rw [hq, ← crF_at hlt]; exact HC.out)
      have KS := fun W => rstep13 C q (HX.out q (by rw [hq]; exact List.getElem_mem hlt)) W
      have mk : IntKind.i64.wrap ((k : Int) + 1) = (k : Int) + 1 := by have := HL.out; rw [IntKind.wrap_i64]; omega
      have HK : Hid (k + gk = l.length ∧ k < l.length) := ⟨hk, hlt⟩
      clear hq hcell HC hk hlt
      go_wp2_with (go_at_call 33; refine (KS _).mono ?_; rintro e w1 ⟨rfl, hw1⟩; replace hw1 := hw1.symm; subst hw1)
      go_roundg (gk - 1)
      case measure => have := HK.out; omega
      case rel => exact ⟨rfl, k + 1, _, by have := HK.out; omega, rfl, rfl, HE⟩
    · have hli : ¬ (k : Int) < (l.length : Int) := by omega
      have HE : Hid (~~~ C = crS l) := hid13 (by
        have := HC.out
        rw [List.drop_eq_nil_of_le (by omega), crF_nil] at this
        show ~~~ C = crS _
        unfold crS
        rw [this])
      have hn := notU C
      go_wp2_with fail
      go_ret
      exact ⟨congrArg Ending.returned (congrArg (Value.int .u32) (by first | exact congrArg uI HE.out | (rw [← HE.out]; exact hn))), rfl⟩
end Go.Proofs.YtgbhbooogofmbabDoor
namespace Go.Proofs.YtgbhbooogofmbabDoor
open Go.RowKit
set_option linter.unusedSimpArgs false
set_option linter.unusedVariables false

set_option maxRecDepth 100000 in
set_option maxHeartbeats 8000000 in
theorem rput17 (w0 : World) (v : Value) (l : List Nat) (x : Nat) (K : Int) (k : Nat) (hK : K = (k : Int)) (hk0 : 0 < k) (hk : k ≤ 4) (w : World) (hS : PS13 w0 w v l) (hl : l.length ≤ 140737488355000) (hx : x < 4294967296) :
    Calls Tryd.prog 23 #[v, .int .u32 (x : Int), .int .i64 K] w fun e w' => ∃ v', e = .returned v' ∧ w'.ownsRow w0.heap.size 5 1 v' (l ++ lastB x k).length ((l ++ lastB x k).map cB) ∧ Below w0.heap.size w0 w' := by
  subst hK
  have HS0 := hid13 hS
  obtain ⟨N, hN⟩ : ∃ N : Int, N = (x : Int) := ⟨_, rfl⟩
  have HN := hid13 hN
  have hN0 : 0 ≤ N := by omega
  have hN1 : N < 4294967296 := by omega
  have hq : N / 16777216 < 256 := by omega
  have hq0 : 0 ≤ N / 16777216 := by omega
  rw [← hN]
  have hki : (k : Int) ≤ 4 := by omega
  have HK0 : Hid (0 < k ∧ k ≤ 4 ∧ l.length ≤ 140737488355000) := ⟨hk0, hk, hl⟩
  clear hN hS hx hk0 hk hl
  go_enter Tryd.func23, Tryd.ntmps23
  go_wp2_with fail
  go_loopg [0, 7] k (fun g vb i wr => ∃ (c : Nat) (v : Value) (R : List Nat), c = g ∧ c ≤ k ∧ vb = v ∧ i = .int .i64 ((c : Int) - 1) ∧ Hid (PS13 w0 wr v R) ∧ (c < k → wr.ownsRow w0.heap.size 5 1 v R.length (R.map cB)) ∧ Hid (R ++ lastB x c = l ++ lastB x k))
  case atStart => exact ⟨k, _, l, rfl, Nat.le_refl _, rfl, rfl, HS0, fun h => by omega, rfl⟩
  case round =>
    clear HS0
    obtain ⟨c, vb, R, rfl, hck, hvb, rfl, HS, HO, HR0⟩ := hrel
    subst hvb
    cases c with
    | zero =>
      have HO2 := hid13 (HO HK0.out.1)
      have e : R = l ++ lastB x k := by have := HR0.out; simp only [lastB, List.append_nil] at this; exact this
      subst e
      clear HO
      go_wp2_with fail
      exact bodyPost_ret (v := u0) (by simp [results, Tryd.results23, go_sem]) rfl ⟨_, rfl, HO2.out, HS.out.1⟩
    | succ c =>
      have HR : Hid (R.length ≤ 140737488355200) := by
        have h1 := congrArg List.length HR0.out
        have h2 : ∀ c, (lastB x c).length = c := by intro c; induction c with | zero => rfl | succ c ih => simp [lastB, ih]
        rw [List.length_append, List.length_append, h2, h2] at h1
        have := HK0.out
        show _ ≤ _
        omega
      obtain ⟨b, hb⟩ : ∃ b, b = x / 256 ^ c % 256 := ⟨_, rfl⟩
      have HP : Hid ((R ++ [b]) ++ lastB x c = l ++ lastB x k) := by
        have := HR0.out
        simp only [lastB] at this
        rw [List.append_assoc, hb]; exact this
      obtain ⟨y, hyb⟩ : ∃ y : Int, y = (b : Int) := ⟨_, rfl⟩
      have HY : Hid (N = (x : Int) ∧ x < 4294967296 ∧ y = ((x / 256 ^ c % 256 : Nat) : Int)) := ⟨HN.out, by have := HN.out; omega, by rw [hyb, hb]⟩
      have HK : Hid (c < c + 1 ∧ c ≤ k) := ⟨by omega, by omega⟩
      have hc4 : c < 4 := by have := HK0.out; omega
      have hp1 : ((c + 1 : Nat) : Int) - 1 = (c : Int) := by omega
      rw [hp1]
      clear HO HR0 hb hp1 hck
      rcases c with _ | _ | _ | _ | c
      · have hy : N % 256 = y := by have := HY.out; simp at this; omega
        go_wp2_with (at_builtin; apply stopHere9)
        refine (show wpList _ _ _ _ _ _ from ?_)
        try rw [hyb]
        refine wpList_put13 rfl _ _ rfl w0 wr u0 R HS.out b HR.out rfl rfl ?_
        intro v5 w5 ho5 hb5
        have HS5 : Hid (PS13 w0 w5 v5 (R ++ [b])) := ⟨hb5, .inl ho5⟩
        have HW5 := hid13 ho5
        clear ho5 hb5 HS
        go_wp2
        go_roundg 0
        case measure => exact HK.out.1
        case rel => exact ⟨0, v5, R ++ [b], rfl, HK.out.2, rfl, rfl, HS5, fun _ => HW5.out, HP.out⟩
      · have hy : N / 256 % 256 = y := by have := HY.out; simp at this; omega
        go_wp2_with (at_builtin; apply stopHere9)
        refine (show wpList _ _ _ _ _ _ from ?_)
        try rw [hyb]
        refine wpList_put13 rfl _ _ rfl w0 wr u0 R HS.out b HR.out rfl rfl ?_
        intro v5 w5 ho5 hb5
        have HS5 : Hid (PS13 w0 w5 v5 (R ++ [b])) := ⟨hb5, .inl ho5⟩
        have HW5 := hid13 ho5
        clear ho5 hb5 HS
        go_wp2
        go_roundg 1
        case measure => exact HK.out.1
        case rel => exact ⟨1, v5, R ++ [b], rfl, HK.out.2, rfl, rfl, HS5, fun _ => HW5.out, HP.out⟩
      · have hy : N / 65536 % 256 = y := by have := HY.out; simp at this; omega
        go_wp2_with (at_builtin; apply stopHere9)
        refine (show wpList _ _ _ _ _ _ from ?_)
        try rw [hyb]
        refine wpList_put13 rfl _ _ rfl w0 wr u0 R HS.out b HR.out rfl rfl ?_
        intro v5 w5 ho5 hb5
        have HS5 : Hid (PS13 w0 w5 v5 (R ++ [b])) := ⟨hb5, .inl ho5⟩
        have HW5 := hid13 ho5
        clear ho5 hb5 HS
        go_wp2
        go_roundg 2
        case measure => exact HK.out.1
        case rel => exact ⟨2, v5, R ++ [b], rfl, HK.out.2, rfl, rfl, HS5, fun _ => HW5.out, HP.out⟩
      · have hy : N / 16777216 = y := by have := HY.out; simp at this; omega
        go_wp2_with (at_builtin; apply stopHere9)
        refine (show wpList _ _ _ _ _ _ from ?_)
        try rw [hyb]
        refine wpList_put13 rfl _ _ rfl w0 wr u0 R HS.out b HR.out rfl rfl ?_
        intro v5 w5 ho5 hb5
        have HS5 : Hid (PS13 w0 w5 v5 (R ++ [b])) := ⟨hb5, .inl ho5⟩
        have HW5 := hid13 ho5
        clear ho5 hb5 HS
        go_wp2
        go_roundg 3
        case measure => exact HK.out.1
        case rel => exact ⟨3, v5, R ++ [b], rfl, HK.out.2, rfl, rfl, HS5, fun _ => HW5.out, HP.out⟩
      · omega

theorem isFam17 (W : Int) (w : World) :
    Calls Tryd.prog 21 #[.int .i64 W] w fun e w' => e = .returned (.bool (decide (W = 32 ∨ W = 128))) ∧ w' = w := by
  by_cases h : W = 32
  · subst h
    go_enter Tryd.func21, Tryd.ntmps21
    go_wp2
    go_ret
    exact ⟨rfl, rfl⟩
  · by_cases h2 : W = 128
    · subst h2
      go_enter Tryd.func21, Tryd.ntmps21
      go_wp2
      go_ret
      exact ⟨rfl, rfl⟩
    · rw [decide_eq_false (by omega)]
      have c1 : (W == 32) = false := by simpa using h
      have c2 : (W == 128) = false := by simpa using h2
      go_enter Tryd.func21, Tryd.ntmps21
      go_wp2
      go_ret
      exact ⟨by simp [*], rfl⟩
set_option maxHeartbeats 2000000 in
theorem counted17 (W D S n : Int) (hW : W ≤ 1000) (w : World) :
    Calls Tryd.prog 22 #[.agg #[.int .i64 W, .int .i64 D, .int .i64 S, .int .i64 n]] w fun e w' => e = .returned (.bool (decide (0 ≤ D ∧ D ≤ W ∧ S = max 1 (3 * D)))) ∧ Below w.heap.size w w' := by
  have HQ := hid13 (bl1 w (.cells #[.int .i64 W, .int .i64 D, .int .i64 S, .int .i64 n] 25))
  by_cases h1 : D < 0
  · rw [decide_eq_false (by omega)]
    go_enter Tryd.func22, Tryd.ntmps22
    go_wp2
    go_ret
    exact ⟨rfl, HQ.out⟩
  by_cases h2 : W < D
  · rw [decide_eq_false (by omega)]
    go_enter Tryd.func22, Tryd.ntmps22
    go_wp2
    go_ret
    exact ⟨rfl, HQ.out⟩
  by_cases h3 : D = 0
  · subst h3
    by_cases h4 : S = 1
    · subst h4
      rw [decide_eq_true (by omega)]
      go_enter Tryd.func22, Tryd.ntmps22
      go_wp2
      go_ret
      exact ⟨rfl, HQ.out⟩
    · rw [decide_eq_false (by omega)]
      have c4 : (S == 1) = false := by simpa using h4
      go_enter Tryd.func22, Tryd.ntmps22
      go_wp2
      go_ret
      exact ⟨by simp [*], HQ.out⟩
  have c3 : (D == 0) = false := by simpa using h3
  have h5 : 0 < D := by omega
  have m3 : wrap64 (D * 3) = 3 * D := by unfold wrap64; omega
  by_cases h4 : S = 3 * D
  · rw [decide_eq_true (by omega)]
    have c4 : (S == 3 * D) = true := by simpa using h4
    clear h4
    go_enter Tryd.func22, Tryd.ntmps22
    go_wp2
    go_ret
    exact ⟨by simp [*], HQ.out⟩
  · rw [decide_eq_false (by omega)]
    have c4 : (S == 3 * D) = false := by simpa using h4
    go_enter Tryd.func22, Tryd.ntmps22
    go_wp2
    go_ret
    exact ⟨by simp [*], HQ.out⟩
end Go.Proofs.YtgbhbooogofmbabDoor
namespace Go.Proofs.YtgbhbooogofmbabDoor
open Go.RowKit
set_option linter.unusedSimpArgs false
set_option linter.unusedVariables false

set_option maxRecDepth 20000 in
set_option maxHeartbeats 8000000 in
theorem rpack17 (W D S n : Int) (v : Value) (l : List Nat) (w : World) (hA : RowA w 1 v l.length (l.map cB)) (hv : RwX cB w v l) (hl : l.length ≤ 140737480000000) (hx : ∀ b ∈ l, b < 256) :
    Calls Tryd.prog 8 #[.agg #[.int .i64 W, .int .i64 D, .int .i64 S, .int .i64 n], v] w fun e w' => ∃ v', e = .returned (.tuple #[v', .int .i64 (pkE W D S n l)]) ∧ w'.ownsRow w.heap.size 5 1 v' (pkB W D S n l).length ((pkB W D S n l).map cB) ∧ Below w.heap.size w w' := by
  obtain ⟨i0, hi, hz0, hz1, hz2⟩ := info13 Tryd.infoB13
  obtain ⟨vo, vc, hvf, -⟩ := id hv
  have q1 := bl1 w (.cells #[.int .i64 W, .int .i64 D, .int .i64 S, .int .i64 n] 25)
  have hc : ∀ j : Nat, (w.alloc (.cells #[.int .i64 W, .int .i64 D, .int .i64 S, .int .i64 n] 25)).cell? ⟨w.heap.size, j, none⟩ = (#[.int .i64 W, .int .i64 D, .int .i64 S, .int .i64 n] : Array Value)[j]? := fun j => World.cell?_alloc_mark w _ _ _ j
  obtain ⟨w1, hw1⟩ : ∃ w1, w1 = w.alloc (.cells #[.int .i64 W, .int .i64 D, .int .i64 S, .int .i64 n] 25) := ⟨_, rfl⟩
  rw [← hw1] at q1 hc
  have HW1 := hid13 hw1
  have HB1 := hid13 q1
  have HA := hid13 hA
  have HV := hid13 hv
  have HL := hid13 hl
  have HX := hid13 hx
  have HC : Hid (w1.cell? ⟨w.heap.size, 0, none⟩ = some (.int .i64 W) ∧ w1.cell? ⟨w.heap.size, 1, none⟩ = some (.int .i64 D) ∧ w1.cell? ⟨w.heap.size, 2, none⟩ = some (.int .i64 S) ∧ w1.cell? ⟨w.heap.size, 3, none⟩ = some (.int .i64 n)) := ⟨hc 0, hc 1, hc 2, hc 3⟩
  have HE : Hid (pkE W D S n l = if chkH W D S ≠ 0 then chkH W D S else if ¬ (l.length % 4 = 0 ∧ ((l.length / 4 : Nat) : Int) = n) then 22 else if 1048572 < n then 18 else 0) := hid13 rfl
  have HCk : Hid (chkH W D S = if W ≠ 32 ∧ W ≠ 128 then 11 else if D < 0 ∨ W < D ∨ S ≠ max 1 (3 * D) then 28 else 0) := hid13 rfl
  have HP := hid13 (fun h => pkB_no (W := W) (D := D) (S := S) (n := n) (l := l) h)
  have HN := hid13 (fun h => pk_nat (W := W) (D := D) (S := S) (n := n) (l := l) h)
  have HP0 : Hid (pkE W D S n l = 0 → pkB W D S n l = imB W.toNat D.toNat S.toNat n.toNat l) := hid13 (fun h => by unfold pkB; rw [if_pos h])
  subst hvf
  clear q1 hc hA hv hl hx hw1
  generalize pkE W D S n l = E at *
  generalize pkB W D S n l = B at *
  generalize chkH W D S = ck at *
  have K1 := isFam17 W w1
  rw [HW1.out] at K1
  go_enter Tryd.func8, Tryd.ntmps8
  by_cases hW : W = 32 ∨ W = 128
  rotate_left 1
  · rw [decide_eq_false hW] at K1
    have HE9 : Hid (E = 11 ∧ B = []) := by
      have h1 : ck = 11 := by rw [HCk.out, if_pos (by omega)]
      have h2 : E = 11 := by rw [HE.out, h1]; rfl
      exact ⟨h2, HP.out (by rw [h2]; decide)⟩
    clear HE HP HN HP0 HCk hW HC
    go_wp2_with fail
    refine K1.mono ?_
    rintro e1 w9 ⟨rfl, rfl⟩
    rw [HW1.out] at HB1
    clear K1
    go_wp2
    refine bodyPost_ret (v := .tuple #[.slice none 0 0, .int .i64 11]) (by simp [results, Tryd.results8, go_sem]) rfl ⟨_, by rw [HE9.out.1], ?_, HB1.out⟩
    rw [HE9.out.2]; exact World.ownsRow_nil _ _ _ _
  rw [decide_eq_true hW] at K1
  have K2 := counted17 W D S n (by omega) w1
  by_cases hD : 0 ≤ D ∧ D ≤ W ∧ S = max 1 (3 * D)
  rotate_left 1
  · rw [decide_eq_false hD] at K2
    have HE9 : Hid (E = 28 ∧ B = []) := by
      have h1 : ck = 28 := by rw [HCk.out, if_neg (by omega), if_pos (by omega)]
      have h2 : E = 28 := by rw [HE.out, h1]; rfl
      exact ⟨h2, HP.out (by rw [h2]; decide)⟩
    clear HE HP HN HP0 HCk hW hD
    go_wp2_with fail
    refine K1.mono ?_
    rintro e1 w9 ⟨rfl, hw9⟩
    rw [← HW1.out] at hw9
    replace hw9 := hw9.symm
    subst hw9
    have c0 := HC.out.1
    have c1 := HC.out.2.1
    have c2 := HC.out.2.2.1
    have c3 := HC.out.2.2.2
    clear K1 HC
    go_wp2_with fail
    refine K2.mono ?_
    rintro e2 w2 ⟨rfl, hb2⟩
    have HB2 := hid13 (keepb hb2 HB1.out)
    clear K2 hb2
    go_wp2
    refine bodyPost_ret (v := .tuple #[.slice none 0 0, .int .i64 28]) (by simp [results, Tryd.results8, go_sem]) rfl ⟨_, by rw [HE9.out.1], ?_, HB2.out⟩
    rw [HE9.out.2]; exact World.ownsRow_nil _ _ _ _
  rw [decide_eq_true hD] at K2
  have h0 : ck = 0 := by rw [HCk.out, if_neg (by omega), if_neg (by omega)]
  have HE1 : Hid (E = if ¬ (l.length % 4 = 0 ∧ ((l.length / 4 : Nat) : Int) = n) then 22 else if 1048572 < n then 18 else 0) := by show _ = _; rw [HE.out, if_neg (fun q => q h0)]
  clear HE HCk hW hD h0
  go_wp2_with fail
  refine K1.mono ?_
  rintro e1 w9 ⟨rfl, hw9⟩
  rw [← HW1.out] at hw9
  replace hw9 := hw9.symm
  subst hw9
  have c0 := HC.out.1
  have c1 := HC.out.2.1
  have c2 := HC.out.2.2.1
  have c3 := HC.out.2.2.2
  clear K1
  go_wp2_with fail
  refine K2.mono ?_
  rintro e2 w2 ⟨rfl, hb2⟩
  have HB2 := hid13 hb2
  clear c0 c1 c2 c3 K2 hb2
  have k0 := keepc HB2.out HC.out.1
  have k1 := keepc HB2.out HC.out.2.1
  have k2 := keepc HB2.out HC.out.2.2.1
  have k3 := keepc HB2.out HC.out.2.2.2
  obtain ⟨M, hM⟩ : ∃ M, M = l.length := ⟨_, rfl⟩
  have HM := hid13 hM
  have w4 : wrap64 ((M : Int) / 4) = (M : Int) / 4 := by unfold wrap64; have := HL.out; omega
  rw [← hM]
  by_cases h1 : l.length % 4 = 0
  rotate_left 1
  · have HE9 : Hid (E = 22 ∧ B = []) := by
      have h2 : E = 22 := by rw [HE1.out, if_pos (fun q => h1 q.1)]
      exact ⟨h2, HP.out (by rw [h2]; decide)⟩
    have m1 : ((M : Int) % 4 != 0) = true := by simp; omega
    have HB9 := hid13 (keepb HB2.out HB1.out)
    clear HE1 HP HN HP0 h1 hM
    go_wp2
    refine bodyPost_ret (v := .tuple #[.slice none 0 0, .int .i64 22]) (by simp [results, Tryd.results8, go_sem]) rfl ⟨_, by rw [HE9.out.1], ?_, HB9.out⟩
    rw [HE9.out.2]; exact World.ownsRow_nil _ _ _ _
  have m1 : ((M : Int) % 4 != 0) = false := by simp; omega
  by_cases h2 : n = ((l.length / 4 : Nat) : Int)
  rotate_left 1
  · have HE9 : Hid (E = 22 ∧ B = []) := by
      have h3 : E = 22 := by rw [HE1.out, if_pos (fun q => h2 q.2.symm)]
      exact ⟨h3, HP.out (by rw [h3]; decide)⟩
    have m2 : (n != (M : Int) / 4) = true := by simp; omega
    have HB9 := hid13 (keepb HB2.out HB1.out)
    clear HE1 HP HN HP0 h1 h2 hM
    go_wp2
    refine bodyPost_ret (v := .tuple #[.slice none 0 0, .int .i64 22]) (by simp [results, Tryd.results8, go_sem]) rfl ⟨_, by rw [HE9.out.1], ?_, HB9.out⟩
    rw [HE9.out.2]; exact World.ownsRow_nil _ _ _ _
  have m2 : (n != (M : Int) / 4) = false := by simp; omega
  by_cases h3 : (4194288 : Int) < (M : Int)
  · have HE9 : Hid (E = 18 ∧ B = []) := by
      have h4 : E = 18 := by rw [HE1.out, if_neg (fun q => q ⟨h1, h2.symm⟩), if_pos (by omega)]
      exact ⟨h4, HP.out (by rw [h4]; decide)⟩
    have HB9 := hid13 (keepb HB2.out HB1.out)
    clear HE1 HP HN HP0 h1 h2 hM
    go_wp2
    refine bodyPost_ret (v := .tuple #[.slice none 0 0, .int .i64 18]) (by simp [results, Tryd.results8, go_sem]) rfl ⟨_, by rw [HE9.out.1], ?_, HB9.out⟩
    rw [HE9.out.2]; exact World.ownsRow_nil _ _ _ _
  have hE : E = 0 := by rw [HE1.out, if_neg (fun q => q ⟨h1, h2.symm⟩), if_neg (by omega)]
  obtain ⟨n1, n2, n3, n4, n5, n6, n7, n8⟩ := HN.out hE
  have HE9 : Hid (E = 0 ∧ B = (hdB W.toNat D.toNat S.toNat n.toNat ++ by4 (crS (hdB W.toNat D.toNat S.toNat n.toNat ++ l)).toNat) ++ l) := ⟨hE, HP0.out hE⟩
  have HNs : Hid (W = (W.toNat : Int) ∧ D = (D.toNat : Int) ∧ S = (S.toNat : Int) ∧ n = (n.toNat : Int) ∧ W.toNat < 256 ∧ D.toNat < 256 ∧ S.toNat < 65536 ∧ n.toNat < 4294967296) := ⟨n1, n2, n3, n4, n5, n6, n7, n8⟩
  have a1 : IntKind.u8.wrap W = W := by simp [IntKind.wrap, IntKind.bits, IntKind.signed]; omega
  have b1 : IntKind.u8.wrap D = D := by simp [IntKind.wrap, IntKind.bits, IntKind.signed]; omega
  have s1 : IntKind.u32.wrap S = S := by simp [IntKind.wrap, IntKind.bits, IntKind.signed]; omega
  have d1 : IntKind.u32.wrap n = n := by simp [IntKind.wrap, IntKind.bits, IntKind.signed]; omega
  have o3 := lit_own17 (w := w2) w1.heap.size #[.int .u8 84, .int .u8 80, .int .u8 75, .int .u8 49, .int .u8 W, .int .u8 D] [84, 80, 75, 49, W.toNat, D.toNat] HB2.out.size (by show _ = [_, _, _, _, cB _, cB _]; unfold cB; rw [← n1, ← n2]; rfl) (by show 6 ≤ 1000; decide) 6 rfl
  have q3 := bl1 w2 (.cells #[.int .u8 84, .int .u8 80, .int .u8 75, .int .u8 49, .int .u8 W, .int .u8 D] 5)
  have HB3 := hid13 (keepb q3 HB2.out)
  have K4 := rput17 w1 (.slice (some ⟨w2.heap.size, 0, none⟩) 6 6) [84, 80, 75, 49, W.toNat, D.toNat] S.toNat 2 2 rfl (by decide) (by decide) (w2.alloc (.cells #[.int .u8 84, .int .u8 80, .int .u8 75, .int .u8 49, .int .u8 W, .int .u8 D] 5)) ⟨HB3.out, .inl o3⟩ (by show 6 ≤ _; decide) (by omega)
  rw [← n3, lastB_two, Nat.mod_eq_of_lt n7] at K4
  have z2 := keepc HB3.out HC.out.2.2.1
  have z3 := keepc HB3.out HC.out.2.2.2
  clear HE1 HP HN HP0 h1 h2 hM hE n1 n2 n3 n4 n5 n6 n7 n8 q3 o3
  go_wp2_with fail
  refine K4.mono ?_
  rintro e4 w5 ⟨v4, rfl, hO4, hb4⟩
  have K5 := rput17 w1 v4 ([84, 80, 75, 49, W.toNat, D.toNat] ++ by2 S.toNat) n.toNat 4 4 rfl (by decide) (by decide) w5 ⟨hb4, .inl hO4⟩ (by show 8 ≤ _; decide) HNs.out.2.2.2.2.2.2.2
  rw [← HNs.out.2.2.2.1, lastB_four _ HNs.out.2.2.2.2.2.2.2] at K5
  have y3 := keepc hb4 HC.out.2.2.2
  obtain ⟨o4, p4, hv4⟩ := own_form hO4
  subst hv4
  clear K4 hO4 hb4 z2 z3 HB3 k0 k1 k2 k3 m1 m2 w4 h3
  go_wp2_with fail
  refine K5.mono ?_
  rintro e5 w6 ⟨v5, rfl, hO5, hb5⟩
  have hO5' : w6.ownsRow w1.heap.size 5 1 v5 (hdB W.toNat D.toNat S.toNat n.toNat).length ((hdB W.toNat D.toNat S.toNat n.toNat).map cB) := hO5
  have HHx := hid13 (hdB_lt HNs.out.2.2.2.2.1 HNs.out.2.2.2.2.2.1 HNs.out.2.2.2.2.2.2.1 HNs.out.2.2.2.2.2.2.2)
  have HHl : Hid ((hdB W.toNat D.toNat S.toNat n.toNat).length = 12) := hid13 rfl
  generalize hdB W.toNat D.toNat S.toNat n.toNat = H at *
  obtain ⟨o5, p5, hv5⟩ := own_form hO5'
  subst hv5
  have HO5 := hid13 hO5'
  have HB5 := hid13 hb5
  clear K5 hO5 hO5' hb5 y3 HC HB2
  go_wp2_with (at_builtin; apply stopHere9)
  refine (show wpList _ _ _ _ _ _ from ?_)
  refine wpList_append_rowA rfl _ _ 22 rfl w6.heap.size 5 i0 (.int .u8 0) 1 1 Tryd.underlying22 hi hz0 hz1 hz2 rfl (by decide) (.slice none 0 0) 0 [] rfl (World.ownsRow_nil _ _ _ _) _ H.length (H.map cB) rfl (own_rowA HO5.out) (cB_one H) (by unfold maxLen; have := HHl.out; omega) (by have := HHl.out; omega) (Nat.le_refl _) ?_
  intro ao7 c7 w7 hO7 hg7
  rw [Nat.zero_add, List.nil_append] at hO7
  rw [Nat.zero_add]
  have hB7 : Below w6.heap.size w6 w7 := (Below.refl _ _).grown hg7 (Nat.le_refl _) (fun z hz => by cases hz)
  have HO7 := hid13 hO7
  have HB7 := hid13 hB7
  have HA7 := hid13 (show RowA w7 1 (.slice vo M vc) M (l.map cB) by rw [HM.out]; exact (HA.out.below HB1.out).below (keepb hB7 HB5.out))
  clear hO7 hg7 hB7
  go_wp2_with (at_builtin; apply stopHere9)
  refine (show wpList _ _ _ _ _ _ from ?_)
  refine wpList_append_rowA rfl _ _ 22 rfl w6.heap.size 5 i0 (.int .u8 0) 1 1 Tryd.underlying22 hi hz0 hz1 hz2 rfl (by decide) _ H.length (H.map cB) rfl HO7.out _ M (l.map cB) rfl HA7.out (cB_one l) (by unfold maxLen; have := HHl.out; have := HL.out; have := HM.out; omega) (by have := HHl.out; have := HL.out; have := HM.out; omega) HB7.out.size ?_
  intro ao8 c8 w8 hO8 hg8
  have hB8 : Below w6.heap.size w6 w8 := HB7.out.grown hg8 HB7.out.size (fun z hz => (HO7.out.lt z hz).1)
  have hO8' : w8.ownsRow w6.heap.size 5 1 (.slice ao8 (H.length + M) c8) (H ++ l).length ((H ++ l).map cB) := by rw [List.length_append, List.map_append, ← HM.out]; exact hO8
  have HB8 := hid13 (keepb hB8 HB5.out)
  have HO8 := hid13 (own_rwx hO8')
  have HO58 := hid13 (own_b13 hB8 HO5.out)
  have K9 := rsum13 (.slice ao8 (H.length + M) c8) (H ++ l) w8 (own_rwx hO8') (by rw [List.length_append]; have := HHl.out; have := HL.out; omega) (fun b hb => by rcases List.mem_append.1 hb with h | h; exact HHx.out b h; exact HX.out b h)
  have K10 := rput17 w1 (.slice o5 H.length p5) H (crS (H ++ l)).toNat 4 4 rfl (by decide) (by decide) w8 ⟨HB8.out, .inl HO58.out⟩ (by have := HHl.out; omega) (BitVec.isLt _)
  rw [← uI_eq, lastB_four _ (BitVec.isLt _)] at K10
  have HE10 : Hid (E = 0 ∧ B = (H ++ by4 (crS (H ++ l)).toNat) ++ l ∧ (H ++ by4 (crS (H ++ l)).toNat).length = 16) := ⟨HE9.out.1, HE9.out.2, by rw [List.length_append, HHl.out]; rfl⟩
  generalize H ++ by4 (crS (H ++ l)).toNat = H6 at *
  generalize uI (crS (H ++ l)) = z at *
  clear hO8 hg8 hB8 hO8' HO7 HB7 HA7 HO5 HB5 HE9
  go_wp2_with fail
  refine K9.mono ?_
  rintro e9 w9 ⟨rfl, rfl⟩
  clear K9
  go_wp2_with fail
  refine K10.mono ?_
  rintro e10 w10 ⟨v10, rfl, hO10, hb10⟩
  obtain ⟨o10, p10, hv10⟩ := own_form hO10
  subst hv10
  have HO10 := hid13 hO10
  have HB10 := hid13 hb10
  have HA10 := hid13 (show RowA w10 1 (.slice vo M vc) M (l.map cB) by rw [HM.out]; exact (HA.out.below HB1.out).below hb10)
  clear K10 hO10 hb10 HB8 HO8 HO58
  go_wp2_with (at_builtin; apply stopHere9)
  refine (show wpList _ _ _ _ _ _ from ?_)
  refine wpList_append_rowA rfl _ _ 22 rfl w1.heap.size 5 i0 (.int .u8 0) 1 1 Tryd.underlying22 hi hz0 hz1 hz2 rfl (by decide) _ H6.length (H6.map cB) rfl HO10.out _ M (l.map cB) rfl HA10.out (cB_one l) (by unfold maxLen; have := HE10.out.2.2; have := HL.out; have := HM.out; omega) (by have := HE10.out.2.2; have := HL.out; have := HM.out; omega) HB10.out.size ?_
  intro ao11 c11 w11 hO11 hg11
  have hB11 : Below w1.heap.size w1 w11 := HB10.out.grown hg11 HB10.out.size (fun z hz => (HO10.out.lt z hz).1)
  have hO11' : w11.ownsRow w1.heap.size 5 1 (.slice ao11 (H6.length + M) c11) (H6 ++ l).length ((H6 ++ l).map cB) := by rw [List.length_append, List.map_append, ← HM.out]; exact hO11
  have HO11 := hid13 (own_wide13 hO11' HB1.out.size)
  have HB11 := hid13 (keepb hB11 HB1.out)
  have HE11 : Hid (E = 0 ∧ B = H6 ++ l) := ⟨HE10.out.1, HE10.out.2.1⟩
  clear hO11 hg11 hB11 hO11' HO10 HB10 HA10 HE10
  go_wp2
  refine bodyPost_ret (v := .tuple #[.slice ao11 (H6.length + M) c11, .int .i64 0]) (by simp [results, Tryd.results8, go_sem]) rfl ⟨_, by rw [HE11.out.1], ?_, HB11.out⟩
  rw [HE11.out.2]; exact HO11.out
end Go.Proofs.YtgbhbooogofmbabDoor
