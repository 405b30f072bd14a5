/-
  Part 9 of the proof: 5 texts, one behind the other.
-/
import Derived.Test.YtgbhbooogofmbaaDoorPart6
import Derived.Test.YtgbhbooogofmbaaDoorPart8
import Derived.Test.YtgbhbooogofmbaaDoorPart3
import Derived.Test.YtgbhbooogofmbaaDoorPart4
import Derived.Deep.AppendLies
namespace Go.Proofs.YtgbhbooogofmbaaDoor
open Go.RowKit
set_option linter.unusedSimpArgs false
set_option linter.unusedVariables false

theorem eqH_run (a b c d a' b' c' d' : Int) (w : World) :
    (Op.equalIn 10000 23 (.agg #[.int .i64 a, .int .i64 b, .int .i64 c, .int .i64 d]) (.agg #[.int .i64 a', .int .i64 b', .int .i64 c', .int .i64 d'])).run Tryd.prog w = .ok ((a == a') && ((b == b') && ((c == c') && (d == d')))) w := by
  by_cases h1 : a = a'
  · by_cases h2 : b = b'
    · by_cases h3 : c = c'
      · by_cases h4 : d = d'
        · subst h1 h2 h3 h4; go_simp
          try simp [*]
        · subst h1 h2 h3; go_simp
          try simp [*]
      · subst h1 h2; go_simp
        try simp [*]
    · subst h1; go_simp
      try simp [*]
  · go_simp
    try simp [*]
theorem kn_pk : pkE 32 0 1 1 [4, 0, 0, 9] = 0 := by decide +kernel
theorem kn_B : pkB 32 0 1 1 [4, 0, 0, 9] = imB 32 0 1 1 [4, 0, 0, 9] := by unfold pkB; rw [if_pos kn_pk]; rfl
theorem kn_op : opE (imB 32 0 1 1 [4, 0, 0, 9]) 0 = 0 := by
  unfold opE
  rw [if_neg (by rw [imB_len]; decide)]
  have := im_of (W := 32) (D := 0) (S := 1) (n := 1) (l := [4, 0, 0, 9]) kn_pk []
  rw [List.append_nil] at this
  exact this
theorem kn_opV : opV (imB 32 0 1 1 [4, 0, 0, 9]) 0 = .agg #[.int .i64 32, .int .i64 0, .int .i64 1, .int .i64 1] ∧ opC (imB 32 0 1 1 [4, 0, 0, 9]) 0 = [4, 0, 0, 9] := by
  obtain ⟨a1, a2, a3, a4, a5, a6, a7, a8⟩ := im_read (W := 32) (D := 0) (S := 1) (n := 1) (l := [4, 0, 0, 9]) (by decide) (by decide) rfl []
  rw [List.append_nil] at a2 a3 a4 a5 a6
  unfold opV opC
  rw [if_pos kn_op, if_pos kn_op, show (0 : Int).toNat = 0 from rfl, List.drop_zero, a2, a3, a4, a5, a6]
  exact ⟨rfl, rfl⟩
set_option maxRecDepth 100000 in
set_option maxHeartbeats 8000000 in
theorem known17 (w : World) (hT : Hf w) :
    Calls Tryd.prog 9 #[] w fun e w' => e = .returned (.bool true) ∧ Below w.heap.size w w' := by
  obtain ⟨i0, hi, hz0, hz1, hz2⟩ := info13 Tryd.infoB13
  have q1 := bl1 w (.cells #[.int .u8 4, .int .u8 0, .int .u8 0, .int .u8 9] 5)
  have o1 := lit_own17 (w := w) w.heap.size #[.int .u8 4, .int .u8 0, .int .u8 0, .int .u8 9] [4, 0, 0, 9] (Nat.le_refl _) rfl (by decide) 4 rfl
  have K1 := pack_any 32 0 1 1 (.slice (some ⟨w.heap.size, 0, none⟩) 4 4) [4, 0, 0, 9] (w.alloc (.cells #[.int .u8 4, .int .u8 0, .int .u8 0, .int .u8 9] 5)) (own_rowA o1) (own_rwx o1) (by decide) (by decide) (hT.below q1)
  rw [kn_pk, kn_B] at K1
  have HQ := hid13 q1
  have HT := hid13 hT
  have hBl : (imB 32 0 1 1 [4, 0, 0, 9]).length = 20 := imB_len _ _ _ _ _
  have h12 : (imB 32 0 1 1 [4, 0, 0, 9]).take 12 = [84, 80, 75, 49, 32, 0, 0, 1, 0, 0, 0, 1] := by
    have := (im_read (W := 32) (D := 0) (S := 1) (n := 1) (l := [4, 0, 0, 9]) (by decide) (by decide) rfl []).2.2.2.2.2.2.1
    rw [List.append_nil] at this
    exact this
  have hlt : ∀ b ∈ imB 32 0 1 1 [4, 0, 0, 9], b < 256 := imB_lt (by decide) (by decide) (by decide) (by decide) (by decide)
  have K2 := fun v w' (hv : RwX cB w' v (imB 32 0 1 1 [4, 0, 0, 9])) (hT : Hf w') => open_any v _ 0 w' hv (by rw [hBl]; decide) hlt hT
  rw [kn_op, kn_opV.1, kn_opV.2] at K2
  generalize imB 32 0 1 1 [4, 0, 0, 9] = B at *
  have HB : Hid (B.take 12 = [84, 80, 75, 49, 32, 0, 0, 1, 0, 0, 0, 1] ∧ B.length = 20 ∧ ∀ b ∈ B, b < 256) := ⟨h12, hBl, hlt⟩
  clear q1 o1 hT hBl h12 hlt hz0 hz1 hz2
  go_enter Tryd.func9, Tryd.ntmps9
  go_wp2_with fail
  refine K1.mono ?_
  rintro e w1 ⟨v1, rfl, hO1, hb1⟩
  rw [HB.out.2.1] at hO1
  obtain ⟨ao, c, hv⟩ := own_form hO1
  subst hv
  have hR : RwX cB w1 (.slice ao 20 c) B := own_rwx (l := B) (by rw [HB.out.2.1]; exact hO1)
  have hc20 : (20 : Int) ≤ (c : Int) := by
    obtain ⟨ao', c', e, hc, -⟩ := id hR
    injection e with e1 e2 e3
    rw [HB.out.2.1] at hc
    omega
  have hs := run_slice_to (P := Tryd.prog) (w := w1) Tryd.underlying24 hi ao 20 c 12 (by omega)
  have hR12 : RwX cB w1 (.slice ao 12 c) [84, 80, 75, 49, 32, 0, 0, 1, 0, 0, 0, 1] := by
    have h : RwX cB w1 (.slice ao 20 c) (B.take 12 ++ B.drop 12) := by rw [List.take_append_drop]; exact hR
    have := rwx_take h
    rw [HB.out.1] at this
    exact this
  have hcv := conv13 hR12 (by decide)
  rw [show bsA [84, 80, 75, 49, 32, 0, 0, 1, 0, 0, 0, 1] = ⟨#[84, 80, 75, 49, 32, 0, 0, 1, 0, 0, 0, 1]⟩ from rfl] at hcv
  have HB1 := hid13 (keepb hb1 HQ.out)
  have K3 := K2 _ w1 hR (HT.out.below HB1.out)
  clear K1 K2 hO1 hb1 hR hR12 HB HQ HT hi
  go_wp2_with fail
  refine K3.mono ?_
  rintro e w2 ⟨v2, rfl, hO2, hb2⟩
  obtain ⟨ao2, c2, hv2⟩ := own_form hO2
  subst hv2
  have q3 := bl1 w2 (.cells #[.int .i64 32, .int .i64 0, .int .i64 1, .int .i64 1] 23)
  have hcv2 : (convert 24 9 (.slice ao2 4 c2)).run Tryd.prog (w2.alloc (.cells #[.int .i64 32, .int .i64 0, .int .i64 1, .int .i64 1] 23)) = .ok (.string (bsA [4, 0, 0, 9])) (w2.alloc (.cells #[.int .i64 32, .int .i64 0, .int .i64 1, .int .i64 1] 23)) := conv13 ((own_rwx (l := [4, 0, 0, 9]) hO2).below q3) (by decide)
  rw [show bsA [4, 0, 0, 9] = ⟨#[4, 0, 0, 9]⟩ from rfl] at hcv2
  have HB2 := hid13 (keepb q3 (keepb hb2 HB1.out))
  have hq := eqH_run 32 0 1 1 32 0 1 1
  clear K3 hO2 hb2 HB1 q3 hs hcv hc20
  go_wp2
  go_ret
  exact ⟨rfl, HB2.out⟩
end Go.Proofs.YtgbhbooogofmbaaDoor
namespace Go.Proofs.YtgbhbooogofmbaaDoor
set_option linter.unusedSimpArgs false
set_option linter.unusedVariables false

theorem pk_facts {W D S n : Nat} {l : List Nat} (h : pkE W D S n l = 0) : S < 65536 ∧ n < 4294967296 ∧ l.length = 4 * n ∧ n ≤ 1048572 ∧ W < 256 ∧ D < 256 := by
  obtain ⟨h1, h2, h3, h4⟩ := pk_zero h
  obtain ⟨c1, c2, c3, c4⟩ := chk_zero17 h1
  omega
end Go.Proofs.YtgbhbooogofmbaaDoor
namespace Go.Proofs.YtgbhbooogofmbaaDoor
open Go.RowKit
set_option linter.unusedSimpArgs false
set_option linter.unusedVariables false

theorem within17 (a n : Int) (hn : 0 < n) (hm : n ≤ 1000000000000000000) (w : World) :
    Calls Tryd.prog 17 #[.int .i64 a, .int .i64 n] w fun e w' => e = .returned (.int .i64 (wthT a n)) ∧ w' = w := by
  have h1 := Int.tmod_lt_of_pos a hn
  have h2 := Int.lt_tmod_of_pos a hn
  have hne : ¬ n = 0 := by omega
  have hne1 : ¬ n = -1 := by omega
  obtain ⟨r, hr⟩ : ∃ r, r = a.tmod n := ⟨_, rfl⟩
  have HR := hid13 hr
  rw [← hr] at h1 h2
  have hr' := hr.symm
  clear hr
  by_cases c : r < 0
  · have w2 : IntKind.i64.wrap (r + n) = r + n := by rw [IntKind.wrap_i64]; omega
    have HE : Hid (wthT a n = r + n) := by show _ = _; unfold wthT; rw [← HR.out, if_pos c]
    go_enter Tryd.func17, Tryd.ntmps17
    go_wp2
    go_ret
    exact ⟨by rw [HE.out]; rfl, rfl⟩
  · have HE : Hid (wthT a n = r) := by show _ = _; unfold wthT; rw [← HR.out, if_neg c]
    go_enter Tryd.func17, Tryd.ntmps17
    go_wp2
    go_ret
    exact ⟨by rw [HE.out]; rfl, rfl⟩

def hW (six : Bool) : Nat := if six then 128 else 32
def hD (six : Bool) (depth : Int) : Nat := (wthT depth ((hW six : Int) + 1)).toNat
def hS (six : Bool) (depth : Int) : Nat := (max 1 (3 * (hD six depth : Int))).toNat
theorem hD_is (six : Bool) (depth : Int) : wthT depth ((hW six : Int) + 1) = (hD six depth : Int) ∧ hD six depth ≤ hW six := by
  have := wthT_in depth ((hW six : Int) + 1) (by omega)
  unfold hD
  omega
theorem hS_is (six : Bool) (depth : Int) : max 1 (3 * (hD six depth : Int)) = (hS six depth : Int) := by unfold hS; omega
theorem h_chk (six : Bool) (depth : Int) : chkH (hW six) (hD six depth) (hS six depth) = 0 := by
  have h1 := (hD_is six depth).2
  have h2 := hS_is six depth
  have h3 : hW six = 32 ∨ hW six = 128 := by cases six; exact .inl rfl; exact .inr rfl
  unfold chkH
  rw [if_neg (by omega), if_neg (by omega)]
theorem h_pk (six : Bool) (depth : Int) (l : List Nat) (h4 : l.length % 4 = 0) (hl : l.length ≤ 4194288) : pkE (hW six) (hD six depth) (hS six depth) ((l.length / 4 : Nat) : Int) l = 0 := by
  unfold pkE
  rw [h_chk, if_neg (fun q => q rfl), if_neg (fun q => q ⟨h4, rfl⟩), if_neg (by omega)]
set_option maxHeartbeats 4000000 in
theorem header17 (six : Bool) (depth words : Int) (w : World) :
    Calls Tryd.prog 16 #[.bool six, .int .i64 depth, .int .i64 words] w fun e w' => e = .returned (.agg #[.int .i64 ((hW six : Nat) : Int), .int .i64 ((hD six depth : Nat) : Int), .int .i64 ((hS six depth : Nat) : Int), .int .i64 words]) ∧ Below w.heap.size w w' := by
  have KW := fun X => within17 depth ((hW six : Int) + 1) (by omega) (by cases six <;> decide) X
  rw [(hD_is six depth).1] at KW
  have mx := max_16 1 (3 * (hD six depth : Int))
  rw [hS_is] at mx
  have hd1 : (hD six depth : Int) ≤ 128 := by have := (hD_is six depth).2; cases six; (have : hW false = 32 := rfl); omega; (have : hW true = 128 := rfl); omega
  have hd0 : 0 ≤ (hD six depth : Int) := by omega
  generalize ((hD six depth : Nat) : Int) = d at *
  generalize ((hS six depth : Nat) : Int) = s at *
  have q1 := bl1 w (.cells #[.int .i64 0, .int .i64 0, .int .i64 0, .int .i64 0] 23)
  obtain ⟨w1, hw1⟩ : ∃ w1, w1 = w.alloc (.cells #[.int .i64 0, .int .i64 0, .int .i64 0, .int .i64 0] 23) := ⟨_, rfl⟩
  have HW1 := hid13 hw1
  have HB1 : Hid (Below w.heap.size w w1) := by rw [hw1]; exact q1
  clear q1 hw1
  go_enter Tryd.func16, Tryd.ntmps16
  cases six with
  | false =>
    have KW' : ∀ X, Calls Tryd.prog 17 #[.int .i64 depth, .int .i64 33] X fun e w' => e = .returned (.int .i64 d) ∧ w' = X := KW
    have hw : ((hW false : Nat) : Int) = 32 := rfl
    rw [hw]
    clear KW hw
    go_wp2_with (go_at_call 17; refine (KW' _).mono ?_; rintro e w2 ⟨rfl, hw2⟩; replace hw2 := hw2.symm; subst hw2)
    exact bodyPost_ret (v := .agg #[.int .i64 32, .int .i64 d, .int .i64 s, .int .i64 words]) (by simp [results, Tryd.results16, go_sem]) rfl ⟨rfl, keepb (bl1 _ _) (bl1 w _)⟩
  | true =>
    have KW' : ∀ X, Calls Tryd.prog 17 #[.int .i64 depth, .int .i64 129] X fun e w' => e = .returned (.int .i64 d) ∧ w' = X := KW
    have hw : ((hW true : Nat) : Int) = 128 := rfl
    rw [hw]
    clear KW hw
    go_wp2_with (go_at_call 17; refine (KW' _).mono ?_; rintro e w2 ⟨rfl, hw2⟩; replace hw2 := hw2.symm; subst hw2)
    exact bodyPost_ret (v := .agg #[.int .i64 128, .int .i64 d, .int .i64 s, .int .i64 words]) (by simp [results, Tryd.results16, go_sem]) rfl ⟨rfl, keepb (bl1 _ _) (bl1 w _)⟩
theorem rowA_take17 {w : World} {ao : Option Addr} {n c m : Nat} {l : List Nat} (h : RowA w 1 (.slice ao n c) l.length (l.map cB)) (hn : n = l.length) (hm : m ≤ l.length) : RowA w 1 (.slice ao m c) (l.take m).length ((l.take m).map cB) := by
  obtain ⟨h1, ao', c', e, hc, h⟩ := h
  injection e with e1 e2 e3
  subst e1 e3
  have hl : (l.take m).length = m := by rw [List.length_take]; omega
  refine ⟨by simp, ao, c, by rw [hl], by rw [hl]; omega, ?_⟩
  rcases h with ⟨h2, h3, h4⟩ | ⟨a, h2, h3⟩
  · exact .inl ⟨h2, h3, by omega⟩
  · refine .inr ⟨a, h2, fun j u hj => h3 j u ?_⟩
    rw [List.getElem?_map] at hj ⊢
    rw [List.getElem?_take] at hj
    split at hj
    · exact hj
    · cases hj
end Go.Proofs.YtgbhbooogofmbaaDoor
namespace Go.Proofs.YtgbhbooogofmbaaDoor
open Go.RowKit
set_option linter.unusedSimpArgs false
set_option linter.unusedVariables false

theorem rwx_mid17 {W : World} {ao : Option Addr} {n c k z : Nat} {l : List Nat} (h : RwX cB W (.slice ao n c) l) (hk : k + z ≤ l.length) : RwX cB W (.slice (if c = k then ao else ao.map (·.add (k * 1))) z (c - k)) ((l.drop k).take z) := by
  have h1 := rwx_from h (k := k) (by omega)
  have h2 : RwX cB W (.slice (if c = k then ao else ao.map (·.add (k * 1))) (l.length - k) (c - k)) ((l.drop k).take z ++ (l.drop k).drop z) := by rw [List.take_append_drop]; exact h1
  have h3 := rwx_take h2
  rw [List.length_take, List.length_drop, Nat.min_eq_left (by omega)] at h3
  exact h3
end Go.Proofs.YtgbhbooogofmbaaDoor
namespace Go.Proofs.YtgbhbooogofmbaaDoor
open Go.RowKit
set_option linter.unusedSimpArgs false
set_option linter.unusedVariables false

noncomputable def mkS (b : List Nat) (j : Nat) : Value := .int .u32 (uI (crS (b.take (256 * j))))
structure SmV (w0 : World) (SB : Nat) (vr : Value) (b : List Nat) (k : Nat) (vm : Value) (X : World) : Prop where
  lo : Below w0.heap.size w0 X
  s : w0.heap.size ≤ SB
  r : X.cell? ⟨SB, 0, none⟩ = some vr
  m : X.cell? ⟨SB, 1, none⟩ = some vm
  f : X.frozen? ⟨SB, 1, none⟩ = false
  o : X.ownsRow (SB + 1) 50 1 vm k ((List.range k).map (mkS b))
structure Fr7 (SB : Nat) (vm : Value) (X : World) (vm' : Value) (X' : World) : Prop where
  z : X.heap.size ≤ X'.heap.size
  k : ∀ z, z < X.heap.size → z ≠ SB → vm.ownBlock ≠ some z → X'.heap[z]? = X.heap[z]?
  n : ∀ z, vm'.ownBlock = some z → vm.ownBlock = some z ∨ X.heap.size ≤ z
theorem SmV.below {w0 X X' : World} {SB k : Nat} {vr vm : Value} {b : List Nat} (h : SmV w0 SB vr b k vm X) (hb : Below X.heap.size X X') : SmV w0 SB vr b k vm X' :=
  ⟨keepb hb h.lo, h.s, keepc hb h.r, keepc hb h.m, keepf hb h.m h.f, own_b13 hb h.o⟩
theorem Fr7.below {SB : Nat} {vm : Value} {X X' : World} (hb : Below X.heap.size X X') : Fr7 SB vm X vm X' := ⟨hb.size, fun z hz _ _ => hb.block z hz, fun z hz => .inl hz⟩
theorem Fr7.trans {SB : Nat} {v1 v2 v3 : Value} {X1 X2 X3 : World} (h : Fr7 SB v1 X1 v2 X2) (g : Fr7 SB v2 X2 v3 X3) : Fr7 SB v1 X1 v3 X3 :=
  ⟨Nat.le_trans h.z g.z, fun z hz h1 h2 => (g.k z (Nat.lt_of_lt_of_le hz h.z) h1 (fun e => by rcases h.n z e with q | q; exact h2 q; omega)).trans (h.k z hz h1 h2), fun z hz => by
    rcases g.n z hz with q | q
    · exact h.n z q
    · exact .inr (Nat.le_trans h.z q)⟩
set_option maxRecDepth 20000 in
set_option maxHeartbeats 8000000 in
theorem after_any17 (w0 : World) (SB : Nat) (ao : Option Addr) (cc : Nat) (b : List Nat) (k : Nat) (vm : Value) (X : World) (hS : SmV w0 SB (.slice ao b.length cc) b k vm X) (hT : Hf w0) (hv : RwX cB w0 (.slice ao b.length cc) b) (hl : b.length ≤ 140737480000000) (hx : ∀ y ∈ b, y < 256) (n p : Nat) (hn : n < k) (hp : 256 * n ≤ p) (hp2 : p ≤ b.length) :
    Calls Tryd.prog 49 #[.pointer (some ⟨SB, 0, none⟩), .int .i64 (n : Int), .int .i64 (p : Int)] X fun e X' => e = .returned (.int .u32 (uI (crS (b.take p)))) ∧ Below X.heap.size X X' := by
  obtain ⟨i0, hi, hz0, hz1, hz2⟩ := info13 Tryd.infoB13
  obtain ⟨ao', cc', e, hcc, -⟩ := id hv
  injection e with e1 e2 e3
  obtain ⟨gm, mc, hvm, -, -⟩ := hS.o.form (by omega)
  subst hvm
  have HSm := hid13 (fun Y => slice_mid17 (P := Tryd.prog) (w := Y) Tryd.underlying24 hi hz1 ao b.length cc (256 * n) p hp (by omega))
  have HRm : Hid (∀ Y, Below X.heap.size X Y → RwX cB Y (.slice (if cc = 256 * n then ao else ao.map (·.add (256 * n * 1))) (p - 256 * n) (cc - 256 * n)) ((b.drop (256 * n)).take (p - 256 * n))) := hid13 (fun Y hY => rwx_mid17 ((hv.below hS.lo).below hY) (by omega))
  have hml : ((b.drop (256 * n)).take (p - 256 * n)).length = p - 256 * n := by rw [List.length_take, List.length_drop]; omega
  have hmx : ∀ y ∈ (b.drop (256 * n)).take (p - 256 * n), y < 256 := fun y hy => hx y (List.mem_of_mem_drop (List.mem_of_mem_take hy))
  have HU : Hid (∀ (Y : World) (N : Nat), Below X.heap.size X Y → Y.cell? ⟨N, 0, none⟩ = some (.slice (if cc = 256 * n then ao else ao.map (·.add (256 * n * 1))) (p - 256 * n) (cc - 256 * n)) → Calls Tryd.prog 24 #[.slice (some ⟨N, 0, none⟩) 1 1] Y fun e w' => e = .returned (.int .u32 (uI (crS ((b.drop (256 * n)).take (p - 256 * n))))) ∧ w' = Y) := hid13 (fun Y N hB hc => sum_one hc (HRm.out Y hB) (by rw [hml]; omega) hmx ((hT.below hS.lo).below hB))
  have HJ : Hid (∀ Y, Calls Tryd.prog 43 #[.int .u32 (uI (crS (b.take (256 * n)))), .int .u32 (uI (crS ((b.drop (256 * n)).take (p - 256 * n)))), .int .i64 ((p - 256 * n : Nat) : Int)] Y fun e w' => e = .returned (.int .u32 (uI (crS (b.take p)))) ∧ w' = Y) := hid13 (fun Y => by
    have h := joined_any (crS (b.take (256 * n))) (crS ((b.drop (256 * n)).take (p - 256 * n))) ((p - 256 * n : Nat) : Int) (by omega) (by omega) Y
    have hj := crS_join (b.take (256 * n)) ((b.drop (256 * n)).take (p - 256 * n))
    rw [hml, ← List.take_add, show 256 * n + (p - 256 * n) = p by omega] at hj
    rw [Int.toNat_natCast, ← hj] at h
    exact h)
  have hcell : Hid (∀ Y, SmV w0 SB (.slice ao b.length cc) b k (.slice (some ⟨gm, 0, none⟩) k mc) Y → Y.cell? ⟨gm, n, none⟩ = some (.int .u32 (uI (crS (b.take (256 * n)))))) := hid13 (fun Y h => by
    rw [h.o.cellAt n (by omega), List.getElem?_map, List.getElem?_range hn]; rfl)
  have h256 : (n : Int) * 256 = ((256 * n : Nat) : Int) := by omega
  have hnk : (n : Int) < (k : Int) := by omega
  have w256 : wrap64 (((256 * n : Nat) : Int)) = ((256 * n : Nat) : Int) := by unfold wrap64; omega
  obtain ⟨q, hq⟩ : ∃ q, q = 256 * n := ⟨_, rfl⟩
  rw [← hq] at HSm HRm HU HJ h256 w256
  have hqp : (q : Int) ≤ (p : Int) := by omega
  have hpc : (p : Int) ≤ (cc : Int) := by omega
  generalize (if cc = q then ao else ao.map (·.add (q * 1))) = bo at *
  generalize cc - q = bc at *
  obtain ⟨bn, hbn⟩ : ∃ bn, bn = p - q := ⟨_, rfl⟩
  rw [← hbn] at HSm HRm HU HJ
  rw [← hq] at hcell
  generalize uI (crS ((b.drop q).take bn)) = sb at *
  generalize uI (crS (b.take q)) = mk at *
  generalize uI (crS (b.take p)) = res at *
  have HS := hid13 hS
  have y0 := hS.r
  have hsl := HSm.out X
  clear hq hbn hml hmx hn hp hp2 hl hx e2 e1 e3 hcc hv hT hS hi hz0 hz1 hz2 HRm
  go_enter Tryd.func49, Tryd.ntmps49
  go_wp2_with fail
  refine gh_region (γ := Nat) (qpOk 14 14 (by decide) (fun N => by kernel_rfl) (by kernel_rfl) (by kernel_rfl) (by kernel_rfl) (by kernel_rfl)) (by kernel_rfl) (by kernel_rfl) [some 16, some 17, some 18, some 19, some 20, some 21, some 22, some 23, some 24, some 25, some 26, some 27, some 28, some 6] (fun g => [.pointer (some ⟨SB, 0, none⟩), .pointer (some ⟨SB, 0, none⟩), .pointer (some ⟨SB, 1, none⟩), .slice (some ⟨gm, 0, none⟩) k mc, .int .i64 (n : Int), .pointer (some ⟨gm, n, none⟩), .int .u32 mk, .slice bo bn bc, .slice (some ⟨g, 0, none⟩) 1 1, .int .u32 sb, .slice bo bn bc, .int .i64 (bn : Int), .int .u32 res, .int .u32 res]) (by kernel_rfl) (by simp) (fun lp g X' => SmV w0 SB (.slice ao b.length cc) b k (.slice (some ⟨gm, 0, none⟩) k mc) X' ∧ Below X.heap.size X X' ∧ (lp.getD 8 false = true → X'.cell? ⟨g, 0, none⟩ = some (.slice bo bn bc))) 0 ⟨HS.out.below (below_drewN (Below.refl _ _) 1), below_drewN (Below.refl _ _) 1, fun h => (by simp at h)⟩ ?step0 ?fin0
  case step0 =>
    intro q o lp g w' a' ho hsz hun hdep hR hS K Q' hK
    have hfl : ∀ j, j ≠ q → (lp.setIfInBounds q true).getD j false = lp.getD j false := fun j hj => by rw [Array.getD_eq_getD_getElem?, Array.getD_eq_getD_getElem?, Array.getElem?_setIfInBounds_ne (by omega)]
    have hq : q < 14 := (List.getElem?_eq_some_iff.mp ho).1
    match q, ho, hun, hdep, hK, hfl, hq with
    | 0, ho, hun, hdep, hK, hfl, _ =>
      obtain rfl := Option.some.inj ho
      have o0 : a'.tmps[0]? = some (.pointer (some ⟨SB, 0, none⟩)) := (hS.old14 0 (by simp)).trans rfl
      have hK' := hK g w' (fun _ _ _ _ _ _ => rfl) (by rw [hfl 8 (by decide)]; exact hR) (.pointer (some ⟨SB, 0, none⟩)) (by simp only [valO, Option.bind_some]; (try simp only [putAll, Act.put, List.setIfInBounds_toArray, List.set_cons_zero, List.set_cons_succ]); (try rfl))
      clear hS hdep hR
      refine gh_quiet14 (v := .pointer (some ⟨SB, 0, none⟩)) ?_ ?_
      · (simp only [execOp, Act.eval, o0]; go_simp; first | done | (simp; done) | (simp [*]; done) | omega | (rw [IntKind.wrap_i64]; omega))
      · exact hK'
    | 1, ho, hun, hdep, hK, hfl, _ =>
      obtain rfl := Option.some.inj ho
      have d0 : lp.getD 0 false = true := hdep { on := 0, ground := .data } (by simp) rfl
      have e16 : a'.tmps[16]? = some (.pointer (some ⟨SB, 0, none⟩)) := (hS.don 0 _ 16 rfl d0 rfl).trans (by simp only [putAll, Act.put, List.setIfInBounds_toArray, List.set_cons_zero, List.set_cons_succ]; rfl)
      have hK' := hK g w' (fun _ _ _ _ _ _ => rfl) (by rw [hfl 8 (by decide)]; exact hR) (.pointer (some ⟨SB, 0, none⟩)) (by simp only [valO, Option.bind_some]; (try simp only [putAll, Act.put, List.setIfInBounds_toArray, List.set_cons_zero, List.set_cons_succ]); (try rfl))
      clear hS hdep hR
      refine gh_quiet14 (v := .pointer (some ⟨SB, 0, none⟩)) ?_ ?_
      · (simp only [execOp, Act.eval, e16]; go_simp; first | done | (simp; done) | (simp [*]; done) | omega | (rw [IntKind.wrap_i64]; omega))
      · exact hK'
    | 2, ho, hun, hdep, hK, hfl, _ =>
      obtain rfl := Option.some.inj ho
      have d1 : lp.getD 1 false = true := hdep { on := 1, ground := .data } (by simp) rfl
      have e17 : a'.tmps[17]? = some (.pointer (some ⟨SB, 0, none⟩)) := (hS.don 1 _ 17 rfl d1 rfl).trans (by simp only [putAll, Act.put, List.setIfInBounds_toArray, List.set_cons_zero, List.set_cons_succ]; rfl)
      have hK' := hK g w' (fun _ _ _ _ _ _ => rfl) (by rw [hfl 8 (by decide)]; exact hR) (.pointer (some ⟨SB, 1, none⟩)) (by simp only [valO, Option.bind_some]; (try simp only [putAll, Act.put, List.setIfInBounds_toArray, List.set_cons_zero, List.set_cons_succ]); (try rfl))
      clear hS hdep hR
      refine gh_quiet14 (v := .pointer (some ⟨SB, 1, none⟩)) ?_ ?_
      · (simp only [execOp, Act.eval, e17]; go_simp; first | done | (simp; done) | (simp [*]; done) | omega | (rw [IntKind.wrap_i64]; omega))
      · exact hK'
    | 3, ho, hun, hdep, hK, hfl, _ =>
      obtain rfl := Option.some.inj ho
      have d2 : lp.getD 2 false = true := hdep { on := 2, ground := .data } (by simp) rfl
      have e18 : a'.tmps[18]? = some (.pointer (some ⟨SB, 1, none⟩)) := (hS.don 2 _ 18 rfl d2 rfl).trans (by simp only [putAll, Act.put, List.setIfInBounds_toArray, List.set_cons_zero, List.set_cons_succ]; rfl)
      have k1 := hR.1.m
      have hK' := hK g w' (fun _ _ _ _ _ _ => rfl) (by rw [hfl 8 (by decide)]; exact hR) (.slice (some ⟨gm, 0, none⟩) k mc) (by simp only [valO, Option.bind_some]; (try simp only [putAll, Act.put, List.setIfInBounds_toArray, List.set_cons_zero, List.set_cons_succ]); (try rfl))
      clear hS hdep hR
      refine gh_quiet14 (v := .slice (some ⟨gm, 0, none⟩) k mc) ?_ ?_
      · (simp only [execOp, Act.eval, e18]; go_simp; first | done | (simp; done) | (simp [*]; done) | omega | (rw [IntKind.wrap_i64]; omega))
      · exact hK'
    | 4, ho, hun, hdep, hK, hfl, _ =>
      obtain rfl := Option.some.inj ho
      have o1 : a'.tmps[1]? = some (.int .i64 (n : Int)) := (hS.old14 1 (by simp)).trans rfl
      have hK' := hK g w' (fun _ _ _ _ _ _ => rfl) (by rw [hfl 8 (by decide)]; exact hR) (.int .i64 (n : Int)) (by simp only [valO, Option.bind_some]; (try simp only [putAll, Act.put, List.setIfInBounds_toArray, List.set_cons_zero, List.set_cons_succ]); (try rfl))
      clear hS hdep hR
      refine gh_quiet14 (v := .int .i64 (n : Int)) ?_ ?_
      · (simp only [execOp, Act.eval, o1]; go_simp; first | done | (simp; done) | (simp [*]; done) | omega | (rw [IntKind.wrap_i64]; omega))
      · exact hK'
    | 5, ho, hun, hdep, hK, hfl, _ =>
      obtain rfl := Option.some.inj ho
      have d3 : lp.getD 3 false = true := hdep { on := 3, ground := .data } (by simp) rfl
      have e19 : a'.tmps[19]? = some (.slice (some ⟨gm, 0, none⟩) k mc) := (hS.don 3 _ 19 rfl d3 rfl).trans (by simp only [putAll, Act.put, List.setIfInBounds_toArray, List.set_cons_zero, List.set_cons_succ]; rfl)
      have d4 : lp.getD 4 false = true := hdep { on := 4, ground := .data } (by simp) rfl
      have e20 : a'.tmps[20]? = some (.int .i64 (n : Int)) := (hS.don 4 _ 20 rfl d4 rfl).trans (by simp only [putAll, Act.put, List.setIfInBounds_toArray, List.set_cons_zero, List.set_cons_succ]; rfl)
      have hK' := hK g w' (fun _ _ _ _ _ _ => rfl) (by rw [hfl 8 (by decide)]; exact hR) (.pointer (some ⟨gm, n, none⟩)) (by simp only [valO, Option.bind_some]; (try simp only [putAll, Act.put, List.setIfInBounds_toArray, List.set_cons_zero, List.set_cons_succ]); (try rfl))
      clear hS hdep hR
      refine gh_quiet14 (v := .pointer (some ⟨gm, n, none⟩)) ?_ ?_
      · (simp only [execOp, Act.eval, e19, e20]; go_simp; first | done | (simp; done) | (simp [*]; done) | omega | (rw [IntKind.wrap_i64]; omega))
      · exact hK'
    | 6, ho, hun, hdep, hK, hfl, _ =>
      obtain rfl := Option.some.inj ho
      have d5 : lp.getD 5 false = true := hdep { on := 5, ground := .data } (by simp) rfl
      have e21 : a'.tmps[21]? = some (.pointer (some ⟨gm, n, none⟩)) := (hS.don 5 _ 21 rfl d5 rfl).trans (by simp only [putAll, Act.put, List.setIfInBounds_toArray, List.set_cons_zero, List.set_cons_succ]; rfl)
      have k2 := hcell.out w' hR.1
      have hK' := hK g w' (fun _ _ _ _ _ _ => rfl) (by rw [hfl 8 (by decide)]; exact hR) (.int .u32 mk) (by simp only [valO, Option.bind_some]; (try simp only [putAll, Act.put, List.setIfInBounds_toArray, List.set_cons_zero, List.set_cons_succ]); (try rfl))
      clear hS hdep hR
      refine gh_quiet14 (v := .int .u32 mk) ?_ ?_
      · (simp only [execOp, Act.eval, e21]; go_simp; first | done | (simp; done) | (simp [*]; done) | omega | (rw [IntKind.wrap_i64]; omega))
      · exact hK'
    | 7, ho, hun, hdep, hK, hfl, _ =>
      obtain rfl := Option.some.inj ho
      have o7 : a'.tmps[7]? = some (.slice bo bn bc) := (hS.old14 7 (by simp)).trans rfl
      have hK' := hK g w' (fun _ _ _ _ _ _ => rfl) (by rw [hfl 8 (by decide)]; exact hR) (.slice bo bn bc) (by simp only [valO, Option.bind_some]; (try simp only [putAll, Act.put, List.setIfInBounds_toArray, List.set_cons_zero, List.set_cons_succ]); (try rfl))
      clear hS hdep hR
      refine gh_quiet14 (v := .slice bo bn bc) ?_ ?_
      · (simp only [execOp, Act.eval, o7]; go_simp; first | done | (simp; done) | (simp [*]; done) | omega | (rw [IntKind.wrap_i64]; omega))
      · exact hK'
    | 8, ho, hun, hdep, hK, hfl, _ =>
      obtain rfl := Option.some.inj ho
      have d7 : lp.getD 7 false = true := hdep { on := 7, ground := .data } (by simp) rfl
      have e23 : a'.tmps[23]? = some (.slice bo bn bc) := (hS.don 7 _ 23 rfl d7 rfl).trans (by simp only [putAll, Act.put, List.setIfInBounds_toArray, List.set_cons_zero, List.set_cons_succ]; rfl)
      have q := bl1 w' (.cells #[.slice bo bn bc] 24)
      have hK' := hK w'.heap.size (w'.alloc (.cells #[.slice bo bn bc] 24)) (fun k' ok s hk hl hd => gh_same14 (d := 24) (s := s) (by simp only [putAll, Act.put, List.setIfInBounds_toArray, List.set_cons_zero, List.set_cons_succ]; rfl) (by rintro rfl; have := dstG_of (by kernel_rfl) k' 8 ok _ 24 hk rfl hd rfl; subst this; rw [hun] at hl; cases hl)) (by rw [getD_set_same (by rw [hsz]; decide)]; exact ⟨hR.1.below q, keepb q hR.2.1, fun _ => (by simp [go_sem])⟩) (.slice (some ⟨w'.heap.size, 0, none⟩) 1 1) (by simp only [valO, Option.bind_some]; simp only [putAll, Act.put, List.setIfInBounds_toArray, List.set_cons_zero, List.set_cons_succ]; rfl)
      clear hS hdep hR hK
      unfold Oper.wp
      simp only [execOp, Act.eval, Array.getD_eq_getD_getElem?]
      simp [go_sem, e23, Oper.upon]
      exact hK'
    | 9, ho, hun, hdep, hK, hfl, _ =>
      obtain rfl := Option.some.inj ho
      have d8 : lp.getD 8 false = true := hdep { on := 8, ground := .data } (by simp) rfl
      have e24 : a'.tmps[24]? = some (.slice (some ⟨g, 0, none⟩) 1 1) := (hS.don 8 _ 24 rfl d8 rfl).trans (by simp only [putAll, Act.put, List.setIfInBounds_toArray, List.set_cons_zero, List.set_cons_succ]; rfl)
      have KC := HU.out w' g hR.2.1 (hR.2.2 d8)
      clear hdep
      unfold Oper.wp
      simp only [execOp, Act.eval, Array.getD_eq_getD_getElem?]
      simp [go_sem, e24, Oper.upon]
      refine KC.mono ?_
      rintro e W2 ⟨rfl, hw2⟩
      replace hw2 := hw2.symm
      subst hw2
      exact hK g w' (fun _ _ _ _ _ _ => rfl) (by rw [hfl 8 (by decide)]; exact hR) _ (by simp only [valO, Option.bind_some]; simp only [putAll, Act.put, List.setIfInBounds_toArray, List.set_cons_zero, List.set_cons_succ]; rfl)
    | 10, ho, hun, hdep, hK, hfl, _ =>
      obtain rfl := Option.some.inj ho
      have o7 : a'.tmps[7]? = some (.slice bo bn bc) := (hS.old14 7 (by simp)).trans rfl
      have hK' := hK g w' (fun _ _ _ _ _ _ => rfl) (by rw [hfl 8 (by decide)]; exact hR) (.slice bo bn bc) (by simp only [valO, Option.bind_some]; (try simp only [putAll, Act.put, List.setIfInBounds_toArray, List.set_cons_zero, List.set_cons_succ]); (try rfl))
      clear hS hdep hR
      refine gh_quiet14 (v := .slice bo bn bc) ?_ ?_
      · (simp only [execOp, Act.eval, o7]; go_simp; first | done | (simp; done) | (simp [*]; done) | omega | (rw [IntKind.wrap_i64]; omega))
      · exact hK'
    | 11, ho, hun, hdep, hK, hfl, _ =>
      obtain rfl := Option.some.inj ho
      have d10 : lp.getD 10 false = true := hdep { on := 10, ground := .data } (by simp) rfl
      have e26 : a'.tmps[26]? = some (.slice bo bn bc) := (hS.don 10 _ 26 rfl d10 rfl).trans (by simp only [putAll, Act.put, List.setIfInBounds_toArray, List.set_cons_zero, List.set_cons_succ]; rfl)
      have hK' := hK g w' (fun _ _ _ _ _ _ => rfl) (by rw [hfl 8 (by decide)]; exact hR) (.int .i64 (bn : Int)) (by simp only [valO, Option.bind_some]; (try simp only [putAll, Act.put, List.setIfInBounds_toArray, List.set_cons_zero, List.set_cons_succ]); (try rfl))
      clear hS hdep hR
      refine gh_quiet14 (v := .int .i64 (bn : Int)) ?_ ?_
      · (simp only [execOp, Act.eval, e26]; go_simp; first | done | (simp; done) | (simp [*]; done) | omega | (rw [IntKind.wrap_i64]; omega))
      · exact hK'
    | 12, ho, hun, hdep, hK, hfl, _ =>
      obtain rfl := Option.some.inj ho
      have d6 : lp.getD 6 false = true := hdep { on := 6, ground := .data } (by simp) rfl
      have e22 : a'.tmps[22]? = some (.int .u32 mk) := (hS.don 6 _ 22 rfl d6 rfl).trans (by simp only [putAll, Act.put, List.setIfInBounds_toArray, List.set_cons_zero, List.set_cons_succ]; rfl)
      have d9 : lp.getD 9 false = true := hdep { on := 9, ground := .data } (by simp) rfl
      have e25 : a'.tmps[25]? = some (.int .u32 sb) := (hS.don 9 _ 25 rfl d9 rfl).trans (by simp only [putAll, Act.put, List.setIfInBounds_toArray, List.set_cons_zero, List.set_cons_succ]; rfl)
      have d11 : lp.getD 11 false = true := hdep { on := 11, ground := .data } (by simp) rfl
      have e27 : a'.tmps[27]? = some (.int .i64 (bn : Int)) := (hS.don 11 _ 27 rfl d11 rfl).trans (by simp only [putAll, Act.put, List.setIfInBounds_toArray, List.set_cons_zero, List.set_cons_succ]; rfl)
      have KC := HJ.out w'
      clear hdep
      unfold Oper.wp
      simp only [execOp, Act.eval, Array.getD_eq_getD_getElem?]
      simp [go_sem, e22, e25, e27, Oper.upon]
      refine KC.mono ?_
      rintro e W2 ⟨rfl, hw2⟩
      replace hw2 := hw2.symm
      subst hw2
      exact hK g w' (fun _ _ _ _ _ _ => rfl) (by rw [hfl 8 (by decide)]; exact hR) _ (by simp only [valO, Option.bind_some]; simp only [putAll, Act.put, List.setIfInBounds_toArray, List.set_cons_zero, List.set_cons_succ]; rfl)
    | 13, ho, hun, hdep, hK, hfl, _ =>
      obtain rfl := Option.some.inj ho
      have d12 : lp.getD 12 false = true := hdep { on := 12, ground := .data } (by simp) rfl
      have e28 : a'.tmps[28]? = some (.int .u32 res) := (hS.don 12 _ 28 rfl d12 rfl).trans (by simp only [putAll, Act.put, List.setIfInBounds_toArray, List.set_cons_zero, List.set_cons_succ]; rfl)
      have hK' := hK g w' (fun _ _ _ _ _ _ => rfl) (by rw [hfl 8 (by decide)]; exact hR) (.int .u32 res) (by simp only [valO, Option.bind_some]; (try simp only [putAll, Act.put, List.setIfInBounds_toArray, List.set_cons_zero, List.set_cons_succ]); (try rfl))
      clear hS hdep hR
      refine gh_quiet14 (v := .int .u32 res) ?_ ?_
      · (simp only [execOp, Act.eval, e28]; go_simp; first | done | (simp; done) | (simp [*]; done) | omega | (rw [IntKind.wrap_i64]; omega))
      · exact hK'
    | n + 14, ho, hun, hdep, hK, hfl, hq => exact absurd hq (by omega)
  case fin0 =>
    intro g V8 hR
    have HB8 := hid13 hR.2.1
    simp only [putAll, Act.put, List.setIfInBounds_toArray, List.set_cons_zero, List.set_cons_succ]
    clear hR HS HU HJ hcell
    go_wp2
    exact bodyPost_ret (v := .int .u32 res) (by simp [results, Tryd.results49, go_sem]) rfl ⟨rfl, HB8.out⟩
end Go.Proofs.YtgbhbooogofmbaaDoor
