/-
  Part 9 of the proof: 5 texts, one behind the other.
-/
import Derived.Test.YtgbhbooogofmbaaDoorPart6
import Derived.Test.YtgbhbooogofmbaaDoorPart8
import Derived.Test.YtgbhbooogofmbaaDoorPart3
import Derived.Test.YtgbhbooogofmbaaDoorPart4
namespace Go.Proofs.YtgbhbooogofmbaaDoor
open Go.RowKit
set_option linter.unusedSimpArgs false
set_option linter.unusedVariables false

theorem eqH_run (a b c d a' b' c' d' : Int) (w : World) :
    (Op.equalIn 10000 23 (.agg #[.int .i64 a, .int .i64 b, .int .i64 c, .int .i64 d]) (.agg #[.int .i64 a', .int .i64 b', .int .i64 c', .int .i64 d'])).run Tryd.prog w = .ok ((a == a') && ((b == b') && ((c == c') && (d == d')))) w := by
  by_cases h1 : a = a'
  · by_cases h2 : b = b'
    · by_cases h3 : c = c'
      · by_cases h4 : d = d'
        · subst h1 h2 h3 h4; go_simp
          try simp [*]
        · subst h1 h2 h3; go_simp
          try simp [*]
      · subst h1 h2; go_simp
        try simp [*]
    · subst h1; go_simp
      try simp [*]
  · go_simp
    try simp [*]
theorem kn_pk : pkE 32 0 1 1 [4, 0, 0, 9] = 0 := by decide +kernel
theorem kn_B : pkB 32 0 1 1 [4, 0, 0, 9] = imB 32 0 1 1 [4, 0, 0, 9] := by unfold pkB; rw [if_pos kn_pk]; rfl
theorem kn_op : opE (imB 32 0 1 1 [4, 0, 0, 9]) 0 = 0 := by
  unfold opE
  rw [if_neg (by rw [imB_len]; decide)]
  have := im_of (W := 32) (D := 0) (S := 1) (n := 1) (l := [4, 0, 0, 9]) kn_pk []
  rw [List.append_nil] at this
  exact this
theorem kn_opV : opV (imB 32 0 1 1 [4, 0, 0, 9]) 0 = .agg #[.int .i64 32, .int .i64 0, .int .i64 1, .int .i64 1] ∧ opC (imB 32 0 1 1 [4, 0, 0, 9]) 0 = [4, 0, 0, 9] := by
  obtain ⟨a1, a2, a3, a4, a5, a6, a7, a8⟩ := im_read (W := 32) (D := 0) (S := 1) (n := 1) (l := [4, 0, 0, 9]) (by decide) (by decide) rfl []
  rw [List.append_nil] at a2 a3 a4 a5 a6
  unfold opV opC
  rw [if_pos kn_op, if_pos kn_op, show (0 : Int).toNat = 0 from rfl, List.drop_zero, a2, a3, a4, a5, a6]
  exact ⟨rfl, rfl⟩
set_option maxRecDepth 100000 in
set_option maxHeartbeats 8000000 in
theorem known17 (w : World) (hT : Hf w) :
    Calls Tryd.prog 9 #[] w fun e w' => e = .returned (.bool true) ∧ Below w.heap.size w w' := by
  obtain ⟨i0, hi, hz0, hz1, hz2⟩ := info13 Tryd.infoB13
  have q1 := bl1 w (.cells #[.int .u8 4, .int .u8 0, .int .u8 0, .int .u8 9] 5)
  have o1 := lit_own17 (w := w) w.heap.size #[.int .u8 4, .int .u8 0, .int .u8 0, .int .u8 9] [4, 0, 0, 9] (Nat.le_refl _) rfl (by decide) 4 rfl
  have K1 := pack_any 32 0 1 1 (.slice (some ⟨w.heap.size, 0, none⟩) 4 4) [4, 0, 0, 9] (w.alloc (.cells #[.int .u8 4, .int .u8 0, .int .u8 0, .int .u8 9] 5)) (own_rowA o1) (own_rwx o1) (by decide) (by decide) (hT.below q1)
  rw [kn_pk, kn_B] at K1
  have HQ := hid13 q1
  have HT := hid13 hT
  have hBl : (imB 32 0 1 1 [4, 0, 0, 9]).length = 20 := imB_len _ _ _ _ _
  have h12 : (imB 32 0 1 1 [4, 0, 0, 9]).take 12 = [84, 80, 75, 49, 32, 0, 0, 1, 0, 0, 0, 1] := by
    have := (im_read (W := 32) (D := 0) (S := 1) (n := 1) (l := [4, 0, 0, 9]) (by decide) (by decide) rfl []).2.2.2.2.2.2.1
    rw [List.append_nil] at this
    exact this
  have hlt : ∀ b ∈ imB 32 0 1 1 [4, 0, 0, 9], b < 256 := imB_lt (by decide) (by decide) (by decide) (by decide) (by decide)
  have K2 := fun v w' (hv : RwX cB w' v (imB 32 0 1 1 [4, 0, 0, 9])) (hT : Hf w') => open_any v _ 0 w' hv (by rw [hBl]; decide) hlt hT
  rw [kn_op, kn_opV.1, kn_opV.2] at K2
  generalize imB 32 0 1 1 [4, 0, 0, 9] = B at *
  have HB : Hid (B.take 12 = [84, 80, 75, 49, 32, 0, 0, 1, 0, 0, 0, 1] ∧ B.length = 20 ∧ ∀ b ∈ B, b < 256) := ⟨h12, hBl, hlt⟩
  clear q1 o1 hT hBl h12 hlt hz0 hz1 hz2
  go_enter Tryd.func9, Tryd.ntmps9
  go_wp2_with fail
  refine K1.mono ?_
  rintro e w1 ⟨v1, rfl, hO1, hb1⟩
  rw [HB.out.2.1] at hO1
  obtain ⟨ao, c, hv⟩ := own_form hO1
  subst hv
  have hR : RwX cB w1 (.slice ao 20 c) B := own_rwx (l := B) (by rw [HB.out.2.1]; exact hO1)
  have hc20 : (20 : Int) ≤ (c : Int) := by
    obtain ⟨ao', c', e, hc, -⟩ := id hR
    injection e with e1 e2 e3
    rw [HB.out.2.1] at hc
    omega
  have hs := run_slice_to (P := Tryd.prog) (w := w1) Tryd.underlying24 hi ao 20 c 12 (by omega)
  have hR12 : RwX cB w1 (.slice ao 12 c) [84, 80, 75, 49, 32, 0, 0, 1, 0, 0, 0, 1] := by
    have h : RwX cB w1 (.slice ao 20 c) (B.take 12 ++ B.drop 12) := by rw [List.take_append_drop]; exact hR
    have := rwx_take h
    rw [HB.out.1] at this
    exact this
  have hcv := conv13 hR12 (by decide)
  rw [show bsA [84, 80, 75, 49, 32, 0, 0, 1, 0, 0, 0, 1] = ⟨#[84, 80, 75, 49, 32, 0, 0, 1, 0, 0, 0, 1]⟩ from rfl] at hcv
  have HB1 := hid13 (keepb hb1 HQ.out)
  have K3 := K2 _ w1 hR (HT.out.below HB1.out)
  clear K1 K2 hO1 hb1 hR hR12 HB HQ HT hi
  go_wp2_with fail
  refine K3.mono ?_
  rintro e w2 ⟨v2, rfl, hO2, hb2⟩
  obtain ⟨ao2, c2, hv2⟩ := own_form hO2
  subst hv2
  have q3 := bl1 w2 (.cells #[.int .i64 32, .int .i64 0, .int .i64 1, .int .i64 1] 23)
  have hcv2 : (convert 24 9 (.slice ao2 4 c2)).run Tryd.prog (w2.alloc (.cells #[.int .i64 32, .int .i64 0, .int .i64 1, .int .i64 1] 23)) = .ok (.string (bsA [4, 0, 0, 9])) (w2.alloc (.cells #[.int .i64 32, .int .i64 0, .int .i64 1, .int .i64 1] 23)) := conv13 ((own_rwx (l := [4, 0, 0, 9]) hO2).below q3) (by decide)
  rw [show bsA [4, 0, 0, 9] = ⟨#[4, 0, 0, 9]⟩ from rfl] at hcv2
  have HB2 := hid13 (keepb q3 (keepb hb2 HB1.out))
  have hq := eqH_run 32 0 1 1 32 0 1 1
  clear K3 hO2 hb2 HB1 q3 hs hcv hc20
  go_wp2
  go_ret
  exact ⟨rfl, HB2.out⟩
end Go.Proofs.YtgbhbooogofmbaaDoor
namespace Go.Proofs.YtgbhbooogofmbaaDoor
set_option linter.unusedSimpArgs false
set_option linter.unusedVariables false

def imR (W D S n s : Nat) (l : List Nat) : List Nat := (hdB W D S n ++ by4 s) ++ l
theorem imR_read {W D S n s : Nat} {l : List Nat} (hS : S < 65536) (hn : n < 4294967296) (hs : s < 4294967296) (hl : l.length = 4 * n) :
    let r := imR W D S n s l
    r.take 4 = [84, 80, 75, 49] ∧ rW r = W ∧ rD r = D ∧ rS r = S ∧ rN r = n ∧ rC r = l ∧ r.take 12 = hdB W D S n ∧ numN13 ((r.drop 12).take 4) = s := by
  intro r
  have e : r = 84 :: 80 :: 75 :: 49 :: W :: D :: (by2 S ++ (by4 n ++ (by4 s ++ l))) := by show imR _ _ _ _ _ _ = _; unfold imR hdB; simp
  have b2 : ∀ x (y : List Nat), (by2 x ++ y).take 2 = by2 x := fun x y => List.take_left (l₁ := by2 x)
  have b4 : ∀ x (y : List Nat), (by4 x ++ y).take 4 = by4 x := fun x y => List.take_left (l₁ := by4 x)
  have d2 : ∀ x (y : List Nat), (by2 x ++ y).drop 2 = y := fun x y => List.drop_left (l₁ := by2 x)
  have d4 : ∀ x (y : List Nat), (by4 x ++ y).drop 4 = y := fun x y => List.drop_left (l₁ := by4 x)
  have e6 : r.drop 6 = by2 S ++ (by4 n ++ (by4 s ++ l)) := by rw [e]; rfl
  have e8 : r.drop 8 = by4 n ++ (by4 s ++ l) := by rw [show 8 = 6 + 2 from rfl, ← List.drop_drop, e6, d2]
  have e12 : r.drop 12 = by4 s ++ l := by rw [show 12 = 8 + 4 from rfl, ← List.drop_drop, e8, d4]
  have e16 : r.drop 16 = l := by rw [show 16 = 12 + 4 from rfl, ← List.drop_drop, e12, d4]
  have hN : rN r = n := by unfold rN; rw [e8, b4, num4 n hn]
  have hC : rC r = l := by unfold rC; rw [hN, e16, ← hl]; exact List.take_length
  have hT : r.take 12 = hdB W D S n := by
    show (imR W D S n s l).take 12 = _
    unfold imR
    rw [List.append_assoc]
    exact List.take_left (l₁ := hdB W D S n)
  exact ⟨by rw [e]; rfl, by rw [e]; rfl, by rw [e]; rfl, by unfold rS; rw [e6, b2, num2 S hS], hN, hC, hT, by rw [e12, b4, num4 s hs]⟩
theorem op_zero (l : List Nat) : opE l 0 = ofE l := by
  unfold opE; rw [if_neg (by omega)]; rfl
theorem pk_facts {W D S n : Nat} {l : List Nat} (h : pkE W D S n l = 0) : S < 65536 ∧ n < 4294967296 ∧ l.length = 4 * n ∧ n ≤ 1048572 ∧ W < 256 ∧ D < 256 := by
  obtain ⟨h1, h2, h3, h4⟩ := pk_zero h
  obtain ⟨c1, c2, c3, c4⟩ := chk_zero17 h1
  omega
theorem turn_code {W D S n : Nat} {l : List Nat} (h : pkE W D S n l = 0) {j y y0 : Nat} (hj : l[j]? = some y0) (hx : ∀ b ∈ l, b < 256) (hy : y < 256) (hne : y ≠ y0) :
    ofE (imR W D S n (crS (hdB W D S n ++ l)).toNat (l.set j y)) = 23 := by
  obtain ⟨f1, f2, f3, f4, f5, f6⟩ := pk_facts h
  obtain ⟨a1, a2, a3, a4, a5, a6, a7, a8⟩ := imR_read (W := W) (D := D) (S := S) (n := n) (s := (crS (hdB W D S n ++ l)).toNat) (l := l.set j y) f1 f2 (BitVec.isLt _) (by rw [List.length_set]; exact f3)
  have hlen : (imR W D S n (crS (hdB W D S n ++ l)).toNat (l.set j y)).length = 16 + 4 * n := by
    unfold imR; rw [List.length_append, List.length_append, hdB_len, List.length_set, f3]; show 12 + 4 + _ = _; omega
  generalize imR W D S n (crS (hdB W D S n ++ l)).toNat (l.set j y) = r at *
  have hrd : rdE r = 0 := by
    unfold rdE
    rw [a2, a3, a4, a5, if_neg (by omega), if_neg (fun q => q a1), (pk_zero h).1, if_neg (fun q => q rfl), if_neg (by omega), if_neg (by omega)]
  have hok : rOk r = false := by
    unfold rOk
    rw [a8, a7, a6]
    have hap := set_apart l j y0 y hj
    have ne := crS_turn (hdB W D S n ++ l.take j) (l.drop (j + 1)) y0 y (hx y0 (List.mem_of_getElem? hj)) hy (Ne.symm hne)
    rw [List.append_assoc, List.append_assoc, ← hap.1, ← hap.2] at ne
    rw [beq_eq_false_iff_ne]
    intro e
    exact ne (BitVec.eq_of_toNat_eq e)
  unfold ofE
  rw [hrd, hok]
  rfl
theorem turn_img {W D S n : Nat} {l : List Nat} (h : pkE W D S n l = 0) (hx : ∀ b ∈ l, b < 256) {i y y0 : Nat} (hi : (imB W D S n l)[i]? = some y0) (hy : y < 256) (hne : y ≠ y0) :
    (16 ≤ i → opE ((imB W D S n l).set i y) 0 = 23) ∧ (i < 4 → opE ((imB W D S n l).set i y) 0 = 21) ∧
    (opE ((imB W D S n l).set i y) 0 = 0 → rW ((imB W D S n l).set i y) = W → rD ((imB W D S n l).set i y) = D → rS ((imB W D S n l).set i y) = S → rN ((imB W D S n l).set i y) = n → rC ((imB W D S n l).set i y) = l → False) := by
  obtain ⟨f1, f2, f3, f4, f5, f6⟩ := pk_facts h
  have hlt := (List.getElem?_eq_some_iff.1 hi).1
  have hlen : (imB W D S n l).length = 16 + 4 * n := by rw [imB_len, f3]
  refine ⟨fun h16 => ?_, fun h4 => ?_, fun h0 e1 e2 e3 e4 e5 => ?_⟩
  · rw [op_zero]
    have hh : (hdB W D S n ++ by4 (crS (hdB W D S n ++ l)).toNat).length = 16 := rfl
    have e : (imB W D S n l).set i y = imR W D S n (crS (hdB W D S n ++ l)).toNat (l.set (i - 16) y) := by
      unfold imB imR
      rw [List.set_append_right _ _ (by rw [hh]; exact h16), hh]
    have hj : l[i - 16]? = some y0 := by
      have := hi
      unfold imB at this
      rw [List.getElem?_append_right (by rw [hh]; exact h16), hh] at this
      exact this
    rw [e]
    exact turn_code h hj hx hy hne
  · rw [op_zero]
    have ht : (imB W D S n l).take 4 = [84, 80, 75, 49] := by
      have := (im_read (W := W) (D := D) (S := S) f1 f2 f3 []).1
      rw [List.append_nil] at this
      exact this
    have hn : ((imB W D S n l).set i y).take 4 ≠ [84, 80, 75, 49] := by
      intro q
      have q1 : (((imB W D S n l).set i y).take 4)[i]? = some y := by rw [List.getElem?_take, if_pos h4, List.getElem?_set_self hlt]
      have q2 : ((imB W D S n l).take 4)[i]? = some y0 := by rw [List.getElem?_take, if_pos h4]; exact hi
      rw [q] at q1
      rw [ht, q1] at q2
      exact hne (Option.some.inj q2)
    have hrd : rdE ((imB W D S n l).set i y) = 21 := by
      unfold rdE
      rw [List.length_set, if_neg (by omega), if_pos hn]
    unfold ofE
    rw [hrd]; rfl
  · rw [op_zero] at h0
    have hxc : ∀ b ∈ (imB W D S n l).set i y, b < 256 := by
      intro b hb
      rcases List.mem_or_eq_of_mem_set hb with q | q
      · exact imB_lt f5 f6 f1 f2 hx b q
      · rw [q]; exact hy
    have := (of_again h0 hxc).2
    rw [e1, e2, e3, e4, e5, List.take_of_length_le (by rw [List.length_set]; omega)] at this
    have q1 : ((imB W D S n l).set i y)[i]? = some y := List.getElem?_set_self hlt
    rw [← this, hi] at q1
    exact hne (Option.some.inj q1).symm
theorem cut_img {W D S n : Nat} {l : List Nat} (h : pkE W D S n l = 0) {k : Nat} (hk : k < (imB W D S n l).length) : opE ((imB W D S n l).take k) 0 = 22 := by
  obtain ⟨f1, f2, f3, f4, f5, f6⟩ := pk_facts h
  have hlen : (imB W D S n l).length = 16 + 4 * n := by rw [imB_len, f3]
  have hkl : ((imB W D S n l).take k).length = k := by rw [List.length_take]; omega
  rw [op_zero]
  have hrd : rdE ((imB W D S n l).take k) = 22 := by
    by_cases h16 : k < 16
    · unfold rdE; rw [hkl, if_pos h16]
    · obtain ⟨a1, a2, a3, a4, a5, -, -, -⟩ := im_read (W := W) (D := D) (S := S) f1 f2 f3 []
      rw [List.append_nil] at a1 a2 a3 a4 a5
      have g : ∀ j, j < 16 → ((imB W D S n l).take k).getD j 0 = (imB W D S n l).getD j 0 := fun j hj => by
        rw [List.getD_eq_getElem?_getD, List.getD_eq_getElem?_getD, List.getElem?_take, if_pos (by omega)]
      have t : ∀ j m, j + m ≤ 16 → (((imB W D S n l).take k).drop j).take m = ((imB W D S n l).drop j).take m := fun j m hjm => by
        rw [List.drop_take, List.take_take, Nat.min_eq_left (by omega)]
      have b1 : ((imB W D S n l).take k).take 4 = [84, 80, 75, 49] := by rw [List.take_take, Nat.min_eq_left (by omega)]; exact a1
      have b2 : rW ((imB W D S n l).take k) = W := (g 4 (by decide)).trans a2
      have b3 : rD ((imB W D S n l).take k) = D := (g 5 (by decide)).trans a3
      have b4 : rS ((imB W D S n l).take k) = S := by unfold rS; rw [t 6 2 (by decide)]; exact a4
      have b5 : rN ((imB W D S n l).take k) = n := by unfold rN; rw [t 8 4 (by decide)]; exact a5
      unfold rdE
      rw [hkl, b2, b3, b4, b5, if_neg h16, if_neg (fun q => q b1), (pk_zero h).1, if_neg (fun q => q rfl), if_neg (by omega), if_pos (by omega)]
  unfold ofE
  rw [hrd]; rfl
end Go.Proofs.YtgbhbooogofmbaaDoor
namespace Go.Proofs.YtgbhbooogofmbaaDoor
open Go.RowKit
set_option linter.unusedSimpArgs false
set_option linter.unusedVariables false

theorem within17 (a n : Int) (hn : 0 < n) (hm : n ≤ 1000000000000000000) (w : World) :
    Calls Tryd.prog 17 #[.int .i64 a, .int .i64 n] w fun e w' => e = .returned (.int .i64 (wthT a n)) ∧ w' = w := by
  have h1 := Int.tmod_lt_of_pos a hn
  have h2 := Int.lt_tmod_of_pos a hn
  have hne : ¬ n = 0 := by omega
  have hne1 : ¬ n = -1 := by omega
  obtain ⟨r, hr⟩ : ∃ r, r = a.tmod n := ⟨_, rfl⟩
  have HR := hid13 hr
  rw [← hr] at h1 h2
  have hr' := hr.symm
  clear hr
  by_cases c : r < 0
  · have w2 : IntKind.i64.wrap (r + n) = r + n := by rw [IntKind.wrap_i64]; omega
    have HE : Hid (wthT a n = r + n) := by show _ = _; unfold wthT; rw [← HR.out, if_pos c]
    go_enter Tryd.func17, Tryd.ntmps17
    go_wp2
    go_ret
    exact ⟨by rw [HE.out]; rfl, rfl⟩
  · have HE : Hid (wthT a n = r) := by show _ = _; unfold wthT; rw [← HR.out, if_neg c]
    go_enter Tryd.func17, Tryd.ntmps17
    go_wp2
    go_ret
    exact ⟨by rw [HE.out]; rfl, rfl⟩

def hW (six : Bool) : Nat := if six then 128 else 32
def hD (six : Bool) (depth : Int) : Nat := (wthT depth ((hW six : Int) + 1)).toNat
def hS (six : Bool) (depth : Int) : Nat := (max 1 (3 * (hD six depth : Int))).toNat
theorem hD_is (six : Bool) (depth : Int) : wthT depth ((hW six : Int) + 1) = (hD six depth : Int) ∧ hD six depth ≤ hW six := by
  have := wthT_in depth ((hW six : Int) + 1) (by omega)
  unfold hD
  omega
theorem hS_is (six : Bool) (depth : Int) : max 1 (3 * (hD six depth : Int)) = (hS six depth : Int) := by unfold hS; omega
theorem h_chk (six : Bool) (depth : Int) : chkH (hW six) (hD six depth) (hS six depth) = 0 := by
  have h1 := (hD_is six depth).2
  have h2 := hS_is six depth
  have h3 : hW six = 32 ∨ hW six = 128 := by cases six; exact .inl rfl; exact .inr rfl
  unfold chkH
  rw [if_neg (by omega), if_neg (by omega)]
theorem h_pk (six : Bool) (depth : Int) (l : List Nat) (h4 : l.length % 4 = 0) (hl : l.length ≤ 4194288) : pkE (hW six) (hD six depth) (hS six depth) ((l.length / 4 : Nat) : Int) l = 0 := by
  unfold pkE
  rw [h_chk, if_neg (fun q => q rfl), if_neg (fun q => q ⟨h4, rfl⟩), if_neg (by omega)]
set_option maxHeartbeats 4000000 in
theorem header17 (six : Bool) (depth words : Int) (w : World) :
    Calls Tryd.prog 16 #[.bool six, .int .i64 depth, .int .i64 words] w fun e w' => e = .returned (.agg #[.int .i64 ((hW six : Nat) : Int), .int .i64 ((hD six depth : Nat) : Int), .int .i64 ((hS six depth : Nat) : Int), .int .i64 words]) ∧ Below w.heap.size w w' := by
  have KW := fun X => within17 depth ((hW six : Int) + 1) (by omega) (by cases six <;> decide) X
  rw [(hD_is six depth).1] at KW
  have mx := max_16 1 (3 * (hD six depth : Int))
  rw [hS_is] at mx
  have hd1 : (hD six depth : Int) ≤ 128 := by have := (hD_is six depth).2; cases six; (have : hW false = 32 := rfl); omega; (have : hW true = 128 := rfl); omega
  have hd0 : 0 ≤ (hD six depth : Int) := by omega
  generalize ((hD six depth : Nat) : Int) = d at *
  generalize ((hS six depth : Nat) : Int) = s at *
  have q1 := bl1 w (.cells #[.int .i64 0, .int .i64 0, .int .i64 0, .int .i64 0] 23)
  obtain ⟨w1, hw1⟩ : ∃ w1, w1 = w.alloc (.cells #[.int .i64 0, .int .i64 0, .int .i64 0, .int .i64 0] 23) := ⟨_, rfl⟩
  have HW1 := hid13 hw1
  have HB1 : Hid (Below w.heap.size w w1) := by rw [hw1]; exact q1
  clear q1 hw1
  go_enter Tryd.func16, Tryd.ntmps16
  cases six with
  | false =>
    have KW' : ∀ X, Calls Tryd.prog 17 #[.int .i64 depth, .int .i64 33] X fun e w' => e = .returned (.int .i64 d) ∧ w' = X := KW
    have hw : ((hW false : Nat) : Int) = 32 := rfl
    rw [hw]
    clear KW hw
    go_wp2_with (go_at_call 17; refine (KW' _).mono ?_; rintro e w2 ⟨rfl, hw2⟩; replace hw2 := hw2.symm; subst hw2)
    exact bodyPost_ret (v := .agg #[.int .i64 32, .int .i64 d, .int .i64 s, .int .i64 words]) (by simp [results, Tryd.results16, go_sem]) rfl ⟨rfl, keepb (bl1 _ _) (bl1 w _)⟩
  | true =>
    have KW' : ∀ X, Calls Tryd.prog 17 #[.int .i64 depth, .int .i64 129] X fun e w' => e = .returned (.int .i64 d) ∧ w' = X := KW
    have hw : ((hW true : Nat) : Int) = 128 := rfl
    rw [hw]
    clear KW hw
    go_wp2_with (go_at_call 17; refine (KW' _).mono ?_; rintro e w2 ⟨rfl, hw2⟩; replace hw2 := hw2.symm; subst hw2)
    exact bodyPost_ret (v := .agg #[.int .i64 128, .int .i64 d, .int .i64 s, .int .i64 words]) (by simp [results, Tryd.results16, go_sem]) rfl ⟨rfl, keepb (bl1 _ _) (bl1 w _)⟩
theorem rowA_take17 {w : World} {ao : Option Addr} {n c m : Nat} {l : List Nat} (h : RowA w 1 (.slice ao n c) l.length (l.map cB)) (hn : n = l.length) (hm : m ≤ l.length) : RowA w 1 (.slice ao m c) (l.take m).length ((l.take m).map cB) := by
  obtain ⟨h1, ao', c', e, hc, h⟩ := h
  injection e with e1 e2 e3
  subst e1 e3
  have hl : (l.take m).length = m := by rw [List.length_take]; omega
  refine ⟨by simp, ao, c, by rw [hl], by rw [hl]; omega, ?_⟩
  rcases h with ⟨h2, h3, h4⟩ | ⟨a, h2, h3⟩
  · exact .inl ⟨h2, h3, by omega⟩
  · refine .inr ⟨a, h2, fun j u hj => h3 j u ?_⟩
    rw [List.getElem?_map] at hj ⊢
    rw [List.getElem?_take] at hj
    split at hj
    · exact hj
    · cases hj
end Go.Proofs.YtgbhbooogofmbaaDoor
namespace Go.Proofs.YtgbhbooogofmbaaDoor
open Go.RowKit
set_option linter.unusedSimpArgs false
set_option linter.unusedVariables false

end Go.Proofs.YtgbhbooogofmbaaDoor
namespace Go.Proofs.YtgbhbooogofmbaaDoor
open Go.RowKit
set_option linter.unusedSimpArgs false
set_option linter.unusedVariables false

set_option maxRecDepth 100000 in
set_option maxHeartbeats 16000000 in
theorem imageTurned_any (six : Bool) (depth : Int) (v : Value) (l : List Nat) (at_ bit : Int) (w : World) (hp0 : -9223372036854775808 ≤ depth) (hp1 : depth ≤ 9223372036854775807) (hA : RowA w 1 v l.length (l.map cB)) (hv : RwX cB w v l) (hl : l.length * 1 ≤ 140737488351232) (hx : ∀ b ∈ l, b < 256) (a0 : -9223372036854775808 ≤ at_) (a1 : at_ ≤ 9223372036854775807) (b0 : -9223372036854775808 ≤ bit) (b1 : bit ≤ 9223372036854775807) (hT : Hf w) :
    Calls Tryd.prog 7 #[.bool six, .int .i64 depth, v, .int .i64 at_, .int .i64 bit] w fun e w' => e = .returned (.bool true) ∧ Below w.heap.size w w' := by
  obtain ⟨i0, hi, hz0, hz1, hz2⟩ := info13 Tryd.infoB13
  obtain ⟨ao, cc, hvf, hcc, -⟩ := id hv
  have HT := hid13 hT
  have HV := hid13 hv
  have HA := hid13 hA
  have HX0 := hid13 hx
  have HC := hid13 hcc
  have K1 := known17 _ hT
  subst hvf
  clear hA hv hx hT hcc hl hp0 hp1 a0 a1 b0 b1
  go_enter Tryd.func7, Tryd.ntmps7
  go_wp2_with fail
  refine K1.mono ?_
  rintro e w1 ⟨rfl, hb1⟩
  have HB1 := hid13 hb1
  clear hb1 K1
  by_cases hl : (65536 : Int) < (l.length : Int)
  · go_wp2
    go_ret
    exact ⟨rfl, HB1.out⟩
  have HL : Hid (l.length ≤ 65536) := by show _ ≤ _; omega
  obtain ⟨m, hm⟩ : ∃ m, m = l.length / 4 * 4 := ⟨_, rfl⟩
  have HM : Hid (m = l.length / 4 * 4) := hm
  have hs := fun X => run_slice_to (P := Tryd.prog) (w := X) Tryd.underlying24 hi ao l.length cc m (by have := HC.out; omega)
  have m1 : (l.length : Int) / 4 * 4 = (m : Int) := by omega
  have m2 : (m : Int) ≤ (l.length : Int) := by omega
  have m3 : (m : Int) / 4 = ((m / 4 : Nat) : Int) := by omega
  have KH := header17 six depth ((m / 4 : Nat) : Int) w1
  have hLl : (l.take m).length = m := by rw [List.length_take]; omega
  have HpkE := h_pk six depth (l.take m) (by rw [hLl]; omega) (by rw [hLl]; omega)
  rw [hLl] at HpkE
  have HPK := hid13 HpkE
  have hB0 : pkB (hW six) (hD six depth) (hS six depth) ((m / 4 : Nat) : Int) (l.take m) = imB (hW six) (hD six depth) (hS six depth) (m / 4) (l.take m) := by
    unfold pkB; rw [if_pos HpkE, Int.toNat_natCast, Int.toNat_natCast, Int.toNat_natCast, Int.toNat_natCast]
  have HRA := hid13 (rowA_take17 (m := m) HA.out rfl (by omega))
  have HRV : Hid (RwX cB w (.slice ao m cc) (l.take m)) := by
    have h : RwX cB w (.slice ao l.length cc) (l.take m ++ l.drop m) := by rw [List.take_append_drop]; exact HV.out
    have := rwx_take h
    rw [hLl] at this
    exact this
  have HX : Hid (∀ b ∈ l.take m, b < 256) := hid13 (fun b hb => HX0.out b (List.mem_of_mem_take hb))
  have KP := fun w3 (hb : Below w.heap.size w w3) => pack_any (hW six) (hD six depth) (hS six depth) ((m / 4 : Nat) : Int) (.slice ao m cc) (l.take m) w3 (HRA.out.below hb) (HRV.out.below hb) (by rw [hLl]; omega) HX.out (HT.out.below hb)
  rw [HpkE, hB0] at KP
  have HBx := hid13 (pkB_lt (W := (hW six : Int)) (D := (hD six depth : Int)) (S := (hS six depth : Int)) (n := ((m / 4 : Nat) : Int)) HX.out)
  rw [hB0] at HBx
  have HBl : Hid ((imB (hW six) (hD six depth) (hS six depth) (m / 4) (l.take m)).length = 16 + m) := by show _ = _; rw [imB_len, hLl]
  have HTurn := hid13 (fun i y y0 => @turn_img (hW six) (hD six depth) (hS six depth) (m / 4) (l.take m) HpkE HX.out i y y0)
  have HCut := hid13 (fun k => @cut_img (hW six) (hD six depth) (hS six depth) (m / 4) (l.take m) HpkE k)
  have HXn : Hid (((hW six : Nat) : Int) = (hW six : Int)) := hid13 rfl
  generalize hBg : imB (hW six) (hD six depth) (hS six depth) (m / 4) (l.take m) = B at *
  generalize hx0 : hW six = W0 at *
  generalize hx1 : hD six depth = D0 at *
  generalize hx2 : hS six depth = S0 at *
  generalize hx3 : m / 4 = n0 at *
  generalize l.take m = L at *
  obtain ⟨x0, e0⟩ : ∃ x : Int, x = (W0 : Int) := ⟨_, rfl⟩
  obtain ⟨x1, e1⟩ : ∃ x : Int, x = (D0 : Int) := ⟨_, rfl⟩
  obtain ⟨x2, e2⟩ : ∃ x : Int, x = (S0 : Int) := ⟨_, rfl⟩
  obtain ⟨x3, e3⟩ : ∃ x : Int, x = (n0 : Int) := ⟨_, rfl⟩
  have HEs : Hid (x0 = (W0 : Int) ∧ x1 = (D0 : Int) ∧ x2 = (S0 : Int) ∧ x3 = (n0 : Int)) := ⟨e0, e1, e2, e3⟩
  rw [← e0, ← e1, ← e2, ← e3] at KP KH
  rw [← e3] at m3
  clear hBg hx0 hx1 hx2 hx3 HpkE hB0 hm hLl e0 e1 e2 e3 HRA HA HXn HPK HX0
  go_wp2_with fail
  refine KH.mono ?_
  rintro e w2 ⟨rfl, hb2⟩
  have HX3 := hid13 (bx_new (t := 23) (keepb hb2 HB1.out) #[.int .i64 x0, .int .i64 x1, .int .i64 x2, .int .i64 x3])
  have K4 := KP _ HX3.out.1
  clear KH KP hb2 HB1 hs
  go_wp2_with fail
  refine K4.mono ?_
  rintro e w4 ⟨v4, rfl, hO4, hb4⟩
  obtain ⟨g4, c4, hv4, -, -⟩ := hO4.form (by have := HBl.out; omega)
  subst hv4
  have HX4 := hid13 (HX3.out.keep hb4)
  have HG4 : Hid (g4 < w4.heap.size) := (hO4.lt g4 rfl).2
  obtain ⟨hc4r, hc4c⟩ : RwX cB w4 (.slice (some ⟨g4, 0, none⟩) B.length c4) B ∧ B.length ≤ c4 := by
    have h := own_rwx hO4
    obtain ⟨ao', c', e, hc, -⟩ := id h
    injection e with e1 e2 e3
    exact ⟨h, by omega⟩
  have HC4 := hid13 hc4c
  have HX4b : Hid (Bx w g4 (B.map cB) w4) := ⟨HX4.out.1, fun j u hj => by
    obtain ⟨-, ao', c', e, -, h⟩ := own_rowA hO4
    injection e with e1 e2 e3
    subst e1
    rcases h with ⟨h, -, -⟩ | ⟨ad, h, hc⟩
    · cases h
    · injection h with h; subst h; have := hc j u hj; rw [addA, Nat.zero_add] at this; exact this⟩
  have HO4 := hid13 hO4
  clear K4 hO4 hb4 HX3 m1 m2 m3 hc4r hc4c
  have q5 := bl1 w4 (.cells #[] 5)
  have HR5 := hid13 ((own_rowA HO4.out).below q5)
  have HO5 : Hid ((w4.alloc (.cells #[] 5)).ownsRow w4.heap.size 5 1 (.slice (some ⟨w4.heap.size, 0, none⟩) 0 0) 0 []) := World.ownsRow_made w4 #[] 0 (Nat.le_refl _) (by unfold maxLen; omega) (by simp)
  have HQ5 := hid13 q5
  clear q5
  go_wp2_with (at_builtin; apply stopHere9)
  try go_wp2_with (at_builtin; apply stopHere9)
  refine (show wpList _ _ _ _ _ _ from ?_)
  refine wpList_append_rowA rfl _ _ 24 rfl w4.heap.size 5 i0 (.int .u8 0) 1 1 Tryd.underlying24 hi hz0 hz1 hz2 rfl (by decide) _ 0 [] rfl HO5.out _ B.length (B.map cB) rfl HR5.out (cB_one B) (by have := HBl.out; have := HM.out; have := HL.out; unfold maxLen; omega) (by have := HBl.out; have := HM.out; have := HL.out; omega) HQ5.out.size ?_
  intro ao6 c6 w6 hO6 hg6
  rw [Nat.zero_add, List.nil_append] at hO6
  rw [Nat.zero_add]
  have hB6 : Below w4.heap.size w4 w6 := HQ5.out.grown hg6 HQ5.out.size (fun z hz => (HO5.out.lt z hz).1)
  have HX6 := hid13 (HX4.out.keep hB6)
  have HM6 := hid13 (HX4b.out.keep hB6)
  have HBp : Hid (0 < B.length ∧ B.length ≤ 70000) := ⟨by have := HBl.out; omega, by have := HBl.out; have := HM.out; have := HL.out; omega⟩
  obtain ⟨gc, cg, hcf, -, -⟩ := hO6.form HBp.out.1
  injection hcf with f1 f2 f3
  subst f1 f3
  have HO6 := hid13 hO6
  have HW4 : Hid (w.heap.size ≤ w4.heap.size) := HX4.out.1.size
  obtain ⟨bs, hbs⟩ : ∃ b, b = w4.heap.size := ⟨_, rfl⟩
  have HN2 : Hid (w2.heap.size < bs) := by rw [hbs]; exact cell_in (HX4.out.2 0 _ rfl)
  have HG4b : Hid (g4 < bs) := by rw [hbs]; exact HG4.out
  rw [← hbs] at HO6
  have HGc : Hid (bs ≤ gc) := (HO6.out.lt gc rfl).1
  have W1 := wthT_in at_ (B.length : Int) (by have := HBp.out; omega)
  obtain ⟨i, hi1⟩ : ∃ i : Nat, wthT at_ (B.length : Int) = (i : Int) := ⟨_, (Int.toNat_of_nonneg W1.1).symm⟩
  have W2 := wthT_in bit 8 (by omega)
  obtain ⟨t, ht1⟩ : ∃ t : Nat, wthT bit 8 = (t : Int) := ⟨_, (Int.toNat_of_nonneg W2.1).symm⟩
  rw [hi1] at W1
  rw [ht1] at W2
  have KI := fun W => within17 at_ (B.length : Int) (by have := HBp.out; omega) (by have := HBp.out; omega) W
  have KT := fun W => within17 bit 8 (by omega) (by omega) W
  rw [hi1] at KI
  rw [ht1] at KT
  have HKI := hid13 KI
  have HKT := hid13 KT
  have hik : i < B.length := by omega
  have htl : t < 8 := by omega
  have hii : (i : Int) < (B.length : Int) := by omega
  obtain ⟨y0, hy0⟩ : ∃ y, B[i]? = some y := ⟨_, List.getElem?_eq_getElem hik⟩
  obtain ⟨Z, hZ⟩ : ∃ Z : Nat, Z = 2 ^ t := ⟨_, rfl⟩
  have ht8 := turn8 y0 t (HBx.out y0 (List.mem_of_getElem? hy0)) htl
  have hsh := sh8u t htl
  rw [← hZ] at ht8 hsh
  obtain ⟨y, hy⟩ : ∃ y : Nat, y = y0 ^^^ Z := ⟨_, rfl⟩
  rw [← hy] at ht8
  have hxo := ht8.1
  have HTu := hid13 (HTurn.out i y y0 hy0 ht8.2.1 ht8.2.2)
  have HCu := hid13 (HCut.out i hik)
  have HXc : Hid (∀ b ∈ B.set i y, b < 256) := by
    intro b hb
    rcases List.mem_or_eq_of_mem_set hb with q | q
    · exact HBx.out b q
    · rw [q]; exact ht8.2.1
  have HI : Hid (B[i]? = some y0 ∧ i < B.length) := ⟨hy0, hik⟩
  clear hO6 hg6 hB6 HO5 HQ5 HR5 HX4 HO4 hi1 ht1 W1 W2 KT hik htl hy0 hZ ht8 hy HTurn HCut f2 KI
  go_wp2_with fail
  refine (HKI.out w6).mono ?_
  rintro e w7 ⟨rfl, hw7⟩
  replace hw7 := hw7.symm
  subst hw7
  go_wp2_with fail
  refine qpw_region 11 (qpOk 11 11 (by decide) (fun N => by kernel_rfl) (by kernel_rfl) (by kernel_rfl) (by kernel_rfl) (by kernel_rfl)) (C := fun X => Bx w w2.heap.size [.int .i64 x0, .int .i64 x1, .int .i64 x2, .int .i64 x3] X ∧ X.ownsRow bs 5 1 (.slice (some ⟨gc, 0, none⟩) B.length c6) B.length (B.map cB) ∧ Bx w g4 (B.map cB) X) [some 54, some 55, some 56, some 57, some 58, some 59, some 60, some 61, some 62, some 63, some 64] [.slice (some ⟨gc, 0, none⟩) B.length c6, .int .i64 (i : Int), .slice (some ⟨gc, 0, none⟩) B.length c6, .int .i64 (i : Int), .pointer (some ⟨gc, i, none⟩), .int .u8 (y0 : Int), .int .i64 bit, .int .i64 (t : Int), .int .u8 (Z : Int), .int .u8 (y : Int), .pointer (some ⟨gc, i, none⟩)] (by kernel_rfl) ⟨HX6.out.drew, own_b13 (below_drewN (Below.refl _ _) 1) HO6.out, HM6.out.drew⟩ ?walk ?fin
  case walk =>
    refine qw_run (v := .slice (some ⟨gc, 0, none⟩) B.length c6) (by rfl) ?_ ?_
    · (intro w9 hC; clear hC; go_simp; first | done | (simp; done) | (simp [*]; done) | omega | (simp; omega) | (rw [IntKind.wrap_i64]; omega) | (intro hx; omega) | rfl)
    simp only [Act.put, List.setIfInBounds_toArray, List.set_cons_zero, List.set_cons_succ]
    refine qw_run (v := .int .i64 (i : Int)) (by rfl) ?_ ?_
    · (intro w9 hC; clear hC; go_simp; first | done | (simp; done) | (simp [*]; done) | omega | (simp; omega) | (rw [IntKind.wrap_i64]; omega) | (intro hx; omega) | rfl)
    simp only [Act.put, List.setIfInBounds_toArray, List.set_cons_zero, List.set_cons_succ]
    refine qw_run (v := .slice (some ⟨gc, 0, none⟩) B.length c6) (by rfl) ?_ ?_
    · (intro w9 hC; clear hC; go_simp; first | done | (simp; done) | (simp [*]; done) | omega | (simp; omega) | (rw [IntKind.wrap_i64]; omega) | (intro hx; omega) | rfl)
    simp only [Act.put, List.setIfInBounds_toArray, List.set_cons_zero, List.set_cons_succ]
    refine qw_run (v := .int .i64 (i : Int)) (by rfl) ?_ ?_
    · (intro w9 hC; clear hC; go_simp; first | done | (simp; done) | (simp [*]; done) | omega | (simp; omega) | (rw [IntKind.wrap_i64]; omega) | (intro hx; omega) | rfl)
    simp only [Act.put, List.setIfInBounds_toArray, List.set_cons_zero, List.set_cons_succ]
    refine qw_run (v := .pointer (some ⟨gc, i, none⟩)) (by rfl) ?_ ?_
    · (intro w9 hC; clear hC; go_simp; first | done | (simp; done) | (simp [*]; done) | omega | (simp; omega) | (rw [IntKind.wrap_i64]; omega) | (intro hx; omega) | rfl)
    simp only [Act.put, List.setIfInBounds_toArray, List.set_cons_zero, List.set_cons_succ]
    refine qw_run (v := .int .u8 (y0 : Int)) (by rfl) ?_ ?_
    · (intro w9 hC; have x0 : w9.cell? ⟨gc, i, none⟩ = some (.int .u8 (y0 : Int)) := (by rw [hC.2.1.cellAt i (by have := HI.out; omega), List.getElem?_map, HI.out.1]; rfl); clear hC; go_simp; first | done | (simp; done) | (simp [*]; done) | omega | (simp; omega) | (rw [IntKind.wrap_i64]; omega) | (intro hx; omega) | rfl)
    simp only [Act.put, List.setIfInBounds_toArray, List.set_cons_zero, List.set_cons_succ]
    refine qw_run (v := .int .i64 bit) (by rfl) ?_ ?_
    · (intro w9 hC; clear hC; go_simp; first | done | (simp; done) | (simp [*]; done) | omega | (simp; omega) | (rw [IntKind.wrap_i64]; omega) | (intro hx; omega) | rfl)
    simp only [Act.put, List.setIfInBounds_toArray, List.set_cons_zero, List.set_cons_succ]
    refine qw_call (v := .int .i64 (t : Int)) (f := 17) (args := #[.int .i64 bit, .int .i64 8]) (by rfl) ?_ ?_ ?_
    · (intro w9 hC; clear hC; go_simp; first | done | (simp; done) | rfl)
    · exact fun w9 hC => (HKT.out w9).mono fun e w' ⟨he, hb⟩ => ⟨he, by rw [hb]; exact hC⟩
    simp only [Act.put, List.setIfInBounds_toArray, List.set_cons_zero, List.set_cons_succ]
    refine qw_run (v := .int .u8 (Z : Int)) (by rfl) ?_ ?_
    · (intro w9 hC; clear hC; go_simp; first | done | (simp; done) | (simp [*]; done) | omega | (simp; omega) | (rw [IntKind.wrap_i64]; omega) | (intro hx; omega) | rfl)
    simp only [Act.put, List.setIfInBounds_toArray, List.set_cons_zero, List.set_cons_succ]
    refine qw_run (v := .int .u8 (y : Int)) (by rfl) ?_ ?_
    · (intro w9 hC; clear hC; go_simp; first | done | (simp; done) | (simp [*]; done) | omega | (simp; omega) | (rw [IntKind.wrap_i64]; omega) | (intro hx; omega) | rfl)
    simp only [Act.put, List.setIfInBounds_toArray, List.set_cons_zero, List.set_cons_succ]
    refine qw_run (v := .pointer (some ⟨gc, i, none⟩)) (by rfl) ?_ ?_
    · (intro w9 hC; clear hC; go_simp; first | done | (simp; done) | (simp [*]; done) | omega | (simp; omega) | (rw [IntKind.wrap_i64]; omega) | (intro hx; omega) | rfl)
    simp only [Act.put, List.setIfInBounds_toArray, List.set_cons_zero, List.set_cons_succ]
    refine qw_nil ?_
    simp only [putAll, Act.put, List.setIfInBounds_toArray, List.set_cons_zero, List.set_cons_succ]
  case fin =>
    intro W9 hC
    simp only [putAll, Act.put, List.setIfInBounds_toArray, List.set_cons_zero, List.set_cons_succ]
    dsimp only [List.drop]
    have xc0 : W9.cell? ⟨gc, i, none⟩ = some (.int .u8 (y0 : Int)) := by
      rw [hC.2.1.cellAt i (by have := HI.out; omega), List.getElem?_map, HI.out.1]
      rfl
    have xf0 := hC.2.1.frozenAt i
    have r3 := (hC.2.1.stored i (.int .u8 (y : Int))).1
    have hne1 : w2.heap.size ≠ gc := by have := HN2.out; have := HGc.out; omega
    have hne2 : g4 ≠ gc := by have := HG4b.out; have := HGc.out; omega
    have hwg : w.heap.size ≤ gc := by have := HW4.out; have := HGc.out; omega
    have HXv := hid13 (hC.1.set1 (k := i) hwg hne1 (.int .u8 (y : Int)))
    have HBv := hid13 (hC.2.2.set1 (k := i) hwg hne2 (.int .u8 (y : Int)))
    have HOv : Hid ((W9.setCell ⟨gc, i, none⟩ (.int .u8 (y : Int))).ownsRow bs 5 1 (.slice (some ⟨gc, 0, none⟩) B.length c6) (B.set i y).length ((B.set i y).map cB)) := by
      show World.ownsRow _ _ _ _ _ _ _
      rw [List.length_set, List.map_set]; exact r3
    have K13 := open_any (.slice (some ⟨gc, 0, none⟩) B.length c6) (B.set i y) 0 (W9.setCell ⟨gc, i, none⟩ (.int .u8 (y : Int))) (own_rwx HOv.out) (by rw [List.length_set]; have := HBp.out; omega) HXc.out (HT.out.below HXv.out.1)
    have HRb : Hid (∀ X, Bx w g4 (B.map cB) X → RwX cB X (.slice (some ⟨g4, 0, none⟩) i c4) (B.take i)) := hid13 (fun X h => by
      have hb : RwX cB X (.slice (some ⟨g4, 0, none⟩) B.length c4) (B.take i ++ B.drop i) := by
        rw [List.take_append_drop]
        exact ⟨_, _, rfl, HC4.out, .inr ⟨g4, 0, rfl, fun j x hj => by rw [Nat.zero_add]; exact h.2 j (cB x) (by rw [List.getElem?_map, hj]; rfl)⟩⟩
      have h2 := rwx_take hb
      rw [List.length_take, Nat.min_eq_left (by have := HI.out; omega)] at h2
      exact h2)
    have K18 : Hid (∀ X, Bx w g4 (B.map cB) X → Calls Tryd.prog 12 #[.slice (some ⟨g4, 0, none⟩) i c4, .int .i64 0] X fun e w' => ∃ v', e = .returned (.tuple #[.agg #[.int .i64 0, .int .i64 0, .int .i64 0, .int .i64 0], v', .int .i64 22]) ∧ w'.ownsRow X.heap.size 5 1 v' 0 [] ∧ Below X.heap.size X w') := hid13 (fun X h => by
      have K := open_any (.slice (some ⟨g4, 0, none⟩) i c4) (B.take i) 0 X (HRb.out X h) (by rw [List.length_take]; have := HBp.out; omega) (fun b hb => HBx.out b (List.mem_of_mem_take hb)) (HT.out.below h.1)
      have hn := opV_no (l := B.take i) (a := 0) (by rw [HCu.out]; decide)
      rw [HCu.out, hn.1, hn.2] at K
      exact K)
    have hsb := fun X => run_slice_to (P := Tryd.prog) (w := X) Tryd.underlying24 hi (some ⟨g4, 0, none⟩) B.length c4 i (by have := HC4.out; have := HI.out; omega)
    have hib : (i : Int) ≤ (c4 : Int) := by have := HC4.out; have := HI.out; omega
    have HTu3 : Hid (opE (B.set i y) 0 = 0 → ∃ z0 z1 z2 z3 : Int, opV (B.set i y) 0 = .agg #[.int .i64 z0, .int .i64 z1, .int .i64 z2, .int .i64 z3] ∧ (((z0 == x0) && ((z1 == x1) && ((z2 == x2) && (z3 == x3)))) = true → ((bsA (opC (B.set i y) 0)).toList == (bsA L).toList) = false)) := hid13 (fun h0 => by
      have hV : opV (B.set i y) 0 = .agg #[.int .i64 ((rW (B.set i y) : Nat) : Int), .int .i64 ((rD (B.set i y) : Nat) : Int), .int .i64 ((rS (B.set i y) : Nat) : Int), .int .i64 ((rN (B.set i y) : Nat) : Int)] := by unfold opV; rw [if_pos h0]; rfl
      have hCq : opC (B.set i y) 0 = rC (B.set i y) := by unfold opC; rw [if_pos h0]; rfl
      refine ⟨_, _, _, _, hV, fun hq => ?_⟩
      simp only [Bool.and_eq_true, beq_iff_eq] at hq
      rw [HEs.out.1, HEs.out.2.1, HEs.out.2.2.1, HEs.out.2.2.2] at hq
      rw [hCq, bsA_eq (x := rC (B.set i y)) (fun b hb => HXc.out b (List.mem_of_mem_drop (List.mem_of_mem_take hb))) HX.out]
      refine decide_eq_false (fun hc => HTu.out.2.2 h0 (by omega) (by omega) (by omega) (by omega) hc))
    have HTu12 : Hid ((16 ≤ i → opE (B.set i y) 0 = 23) ∧ (i < 4 → opE (B.set i y) 0 = 21)) := ⟨HTu.out.1, HTu.out.2.1⟩
    have HCx := hid13 (fun b (hb : b ∈ opC (B.set i y) 0) => show b < 256 from (by
      unfold opC at hb
      split at hb
      · exact HXc.out b (List.mem_of_mem_drop (List.mem_of_mem_drop (List.mem_of_mem_take hb)))
      · cases hb))
    obtain ⟨z0, z1, z2, z3, hov⟩ : ∃ z0 z1 z2 z3 : Int, opV (B.set i y) 0 = .agg #[.int .i64 z0, .int .i64 z1, .int .i64 z2, .int .i64 z3] := by
      unfold opV; split
      · exact ⟨_, _, _, _, rfl⟩
      · exact ⟨_, _, _, _, rfl⟩
    have HTu4 : Hid (opE (B.set i y) 0 = 0 → ((z0 == x0) && ((z1 == x1) && ((z2 == x2) && (z3 == x3)))) = true → ((bsA (opC (B.set i y) 0)).toList == (bsA L).toList) = false) := hid13 (fun h0 hq => by
      obtain ⟨u0, u1, u2, u3, hu, hf⟩ := HTu3.out h0
      rw [hov] at hu
      injection hu with hu
      simp at hu
      obtain ⟨rfl, rfl, rfl, rfl⟩ := hu
      exact hf hq)
    rw [hov] at K13
    generalize opE (B.set i y) 0 = E' at *
    generalize opC (B.set i y) 0 = C' at *
    clear hC HTu HTu3 HCu HOv hov r3 hne1 hne2 hwg HO6 HM6 HX6 HGc HN2 HG4 HG4b HX4b HKT hsh hxo hbs HXc
    go_wp2_with fail
    refine K13.mono ?_
    rintro e w13 ⟨v13, rfl, hO13, hb13⟩
    obtain ⟨a13, c13, hv13⟩ := own_form hO13
    subst hv13
    have q14 := bl1 w13 (.cells #[.int .i64 z0, .int .i64 z1, .int .i64 z2, .int .i64 z3] 23)
    have HX14 := hid13 ((HXv.out.keep hb13).keep q14)
    have HB14 := hid13 ((HBv.out.keep hb13).keep q14)
    have s1 := conv13 ((own_rwx hO13).below q14) HCx.out
    have s2 := conv13 (HRV.out.below HX14.out.1) HX.out
    have y0' := HX14.out.2 0 _ rfl
    have y1' := HX14.out.2 1 _ rfl
    have y2' := HX14.out.2 2 _ rfl
    have y3' := HX14.out.2 3 _ rfl
    have hq := eqH_run z0 z1 z2 z3 x0 x1 x2 x3
    generalize ((z0 == x0) && ((z1 == x1) && ((z2 == x2) && (z3 == x3)))) = bq at *
    generalize bsA C' = st1 at *
    generalize bsA L = st2 at *
    clear K13 hO13 hb13 q14 HXv HBv xc0 xf0
    by_cases h16 : 16 ≤ i
    · obtain rfl := HTu12.out.1 h16
      have h16' : (16 : Int) ≤ (i : Int) := by omega
      clear HTu12 HTu4
      go_wp2_with fail
      refine (HKI.out _).mono ?_
      rintro e w15 ⟨rfl, hw15⟩
      rw [← hw15] at HB14
      clear hw15 s1 s2 y0' y1' y2' y3' hq HX14
      have K19 := K18.out _ HB14.out
      go_wp2_with fail
      refine K19.mono ?_
      rintro e w18 ⟨v18, rfl, hO18, hb18⟩
      obtain ⟨a18, c18, hv18⟩ := own_form hO18
      subst hv18
      have HB18 := hid13 (keepb (bl1 w18 (.cells #[.int .i64 0, .int .i64 0, .int .i64 0, .int .i64 0] 23)) (keepb hb18 HB14.out.1))
      clear K19 hO18 hb18
      go_wp2
      go_ret
      exact ⟨rfl, HB18.out⟩
    by_cases h4 : i < 4
    · obtain rfl := HTu12.out.2 h4
      have h16' : ¬ (16 : Int) ≤ (i : Int) := by omega
      have h4' : (i : Int) < 4 := by omega
      clear HTu12 HTu4
      go_wp2_with fail
      refine (HKI.out _).mono ?_
      rintro e w15 ⟨rfl, hw15⟩
      rw [← hw15] at HB14
      clear hw15 s1 s2 y0' y1' y2' y3' hq HX14
      have K19 := K18.out _ HB14.out
      go_wp2_with fail
      refine K19.mono ?_
      rintro e w18 ⟨v18, rfl, hO18, hb18⟩
      obtain ⟨a18, c18, hv18⟩ := own_form hO18
      subst hv18
      have HB18 := hid13 (keepb (bl1 w18 (.cells #[.int .i64 0, .int .i64 0, .int .i64 0, .int .i64 0] 23)) (keepb hb18 HB14.out.1))
      clear K19 hO18 hb18
      go_wp2
      go_ret
      exact ⟨rfl, HB18.out⟩
    have h16' : ¬ (16 : Int) ≤ (i : Int) := by omega
    have h4' : ¬ (i : Int) < 4 := by omega
    by_cases h0 : E' = 0
    · cases bq with
      | false =>
        subst h0
        clear HTu12 HTu4
        go_wp2_with fail
        refine (HKI.out _).mono ?_
        rintro e w15 ⟨rfl, hw15⟩
        rw [← hw15] at HB14
        clear hw15 s1 s2 y0' y1' y2' y3' hq HX14
        have K19 := K18.out _ HB14.out
        go_wp2_with fail
        refine K19.mono ?_
        rintro e w18 ⟨v18, rfl, hO18, hb18⟩
        obtain ⟨a18, c18, hv18⟩ := own_form hO18
        subst hv18
        have HB18 := hid13 (keepb (bl1 w18 (.cells #[.int .i64 0, .int .i64 0, .int .i64 0, .int .i64 0] 23)) (keepb hb18 HB14.out.1))
        clear K19 hO18 hb18
        go_wp2
        go_ret
        exact ⟨rfl, HB18.out⟩
      | true =>
        have hst := HTu4.out h0 rfl
        subst h0
        clear HTu12 HTu4
        go_wp2_with fail
        refine (HKI.out _).mono ?_
        rintro e w15 ⟨rfl, hw15⟩
        rw [← hw15] at HB14
        clear hw15 s1 s2 y0' y1' y2' y3' hq HX14
        have K19 := K18.out _ HB14.out
        go_wp2_with fail
        refine K19.mono ?_
        rintro e w18 ⟨v18, rfl, hO18, hb18⟩
        obtain ⟨a18, c18, hv18⟩ := own_form hO18
        subst hv18
        have HB18 := hid13 (keepb (bl1 w18 (.cells #[.int .i64 0, .int .i64 0, .int .i64 0, .int .i64 0] 23)) (keepb hb18 HB14.out.1))
        clear K19 hO18 hb18
        go_wp2
        go_ret
        exact ⟨rfl, HB18.out⟩
    · have hn : (E' == 0) = false := by simpa using h0
      clear HTu12 HTu4
      go_wp2_with fail
      refine (HKI.out _).mono ?_
      rintro e w15 ⟨rfl, hw15⟩
      rw [← hw15] at HB14
      clear hw15 s1 s2 y0' y1' y2' y3' hq HX14
      have K19 := K18.out _ HB14.out
      go_wp2_with fail
      refine K19.mono ?_
      rintro e w18 ⟨v18, rfl, hO18, hb18⟩
      obtain ⟨a18, c18, hv18⟩ := own_form hO18
      subst hv18
      have HB18 := hid13 (keepb (bl1 w18 (.cells #[.int .i64 0, .int .i64 0, .int .i64 0, .int .i64 0] 23)) (keepb hb18 HB14.out.1))
      clear K19 hO18 hb18
      go_wp2
      go_ret
      exact ⟨rfl, HB18.out⟩
end Go.Proofs.YtgbhbooogofmbaaDoor
