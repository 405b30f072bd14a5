/-
  Part 11 of the proof: 3 texts, one behind the other.
-/
import Derived.Test.YtnaihocdemcejaaPart9
import Derived.Test.YtnaihocdemcejaaPart10
/-
  What the document's Encode of chapter 14 does.
-/
namespace Go.Proofs.Ytnaihocdemcejaa
open Go.RowKit
set_option linter.unusedSimpArgs false
set_option linter.unusedVariables false

set_option maxRecDepth 100000 in
set_option maxHeartbeats 8000000 in
theorem rput14 (w0 : World) (ao : Option Addr) (cc : Nat) (l : List Nat) (x : Nat) (K : Int) (k : Nat) (hK : K = (k : Int)) (hk0 : 0 < k) (hk : k ≤ 4) (w : World) (hS0 : PS13 w0 w (.slice ao l.length cc) l) (hl : l.length ≤ 140737488355000) (hx : x < 4294967296) :
    Calls Try.prog 26 #[.slice ao l.length cc, .int .u32 (x : Int), .int .i64 K] w fun e w' => ∃ v', e = .returned v' ∧ w'.ownsRow w0.heap.size 5 1 v' (l ++ lastB x k).length ((l ++ lastB x k).map cB) ∧ Below w0.heap.size w0 w' := by
  subst hK
  have HS0 := hid13 hS0
  obtain ⟨N, hN⟩ : ∃ N : Int, N = (x : Int) := ⟨_, rfl⟩
  have HN := hid13 hN
  have hN0 : 0 ≤ N := by omega
  have hN1 : N < 4294967296 := by omega
  have hq : N / 16777216 < 256 := by omega
  have hq0 : 0 ≤ N / 16777216 := by omega
  rw [← hN]
  have hki : (k : Int) ≤ 4 := by omega
  have HK0 : Hid (0 < k ∧ k ≤ 4 ∧ l.length ≤ 140737488355000) := ⟨hk0, hk, hl⟩
  clear hN hS0 hx hk0 hk hl
  go_enter Try.func26, Try.ntmps26
  go_wp2_with fail
  go_loopg [0, 7] k (fun g vb i wr => ∃ (c : Nat) (v : Value) (R : List Nat), c = g ∧ c ≤ k ∧ vb = v ∧ i = .int .i64 ((c : Int) - 1) ∧ Hid (PS13 w0 wr v R) ∧ (c < k → wr.ownsRow w0.heap.size 5 1 v R.length (R.map cB)) ∧ Hid (R ++ lastB x c = l ++ lastB x k))
  case atStart => exact ⟨k, _, l, rfl, Nat.le_refl _, rfl, rfl, HS0, fun h => by omega, rfl⟩
  case round =>
    clear HS0
    obtain ⟨c, vb, R, rfl, hck, hvb, rfl, HS, HO, HR0⟩ := hrel
    subst hvb
    cases c with
    | zero =>
      have HO2 := hid13 (HO HK0.out.1)
      have e : R = l ++ lastB x k := by have := HR0.out; simp only [lastB, List.append_nil] at this; exact this
      subst e
      clear HO
      go_wp2_with fail
      exact bodyPost_ret (v := u0) (by simp [results, Try.results26, go_sem]) rfl ⟨_, rfl, HO2.out, HS.out.1⟩
    | succ c =>
      have HR : Hid (R.length ≤ 140737488355200) := by
        have h1 := congrArg List.length HR0.out
        have h2 : ∀ c, (lastB x c).length = c := by intro c; induction c with | zero => rfl | succ c ih => simp [lastB, ih]
        rw [List.length_append, List.length_append, h2, h2] at h1
        have := HK0.out
        show _ ≤ _
        omega
      obtain ⟨b, hb⟩ : ∃ b, b = x / 256 ^ c % 256 := ⟨_, rfl⟩
      have HP : Hid ((R ++ [b]) ++ lastB x c = l ++ lastB x k) := by
        have := HR0.out
        simp only [lastB] at this
        rw [List.append_assoc, hb]; exact this
      obtain ⟨y, hyb⟩ : ∃ y : Int, y = (b : Int) := ⟨_, rfl⟩
      have HY : Hid (N = (x : Int) ∧ x < 4294967296 ∧ y = ((x / 256 ^ c % 256 : Nat) : Int)) := ⟨HN.out, by have := HN.out; omega, by rw [hyb, hb]⟩
      have HK : Hid (c < c + 1 ∧ c ≤ k) := ⟨by omega, by omega⟩
      have hc4 : c < 4 := by have := HK0.out; omega
      have hp1 : ((c + 1 : Nat) : Int) - 1 = (c : Int) := by omega
      rw [hp1]
      clear HO HR0 hb hp1 hck
      rcases c with _ | _ | _ | _ | c
      · have hy : N % 256 = y := by have := HY.out; simp at this; omega
        go_wp2_with (at_builtin; apply stopHere9)
        refine (show wpList _ _ _ _ _ _ from ?_)
        try rw [hyb]
        refine wpList_put13 rfl _ _ rfl w0 wr u0 R HS.out b HR.out rfl rfl ?_
        intro v5 w5 ho5 hb5
        have HS5 : Hid (PS13 w0 w5 v5 (R ++ [b])) := ⟨hb5, .inl ho5⟩
        have HW5 := hid13 ho5
        clear ho5 hb5 HS
        go_wp2
        go_roundg 0
        case measure => exact HK.out.1
        case rel => exact ⟨0, v5, R ++ [b], rfl, HK.out.2, rfl, rfl, HS5, fun _ => HW5.out, HP.out⟩
      · have hy : N / 256 % 256 = y := by have := HY.out; simp at this; omega
        go_wp2_with (at_builtin; apply stopHere9)
        refine (show wpList _ _ _ _ _ _ from ?_)
        try rw [hyb]
        refine wpList_put13 rfl _ _ rfl w0 wr u0 R HS.out b HR.out rfl rfl ?_
        intro v5 w5 ho5 hb5
        have HS5 : Hid (PS13 w0 w5 v5 (R ++ [b])) := ⟨hb5, .inl ho5⟩
        have HW5 := hid13 ho5
        clear ho5 hb5 HS
        go_wp2
        go_roundg 1
        case measure => exact HK.out.1
        case rel => exact ⟨1, v5, R ++ [b], rfl, HK.out.2, rfl, rfl, HS5, fun _ => HW5.out, HP.out⟩
      · have hy : N / 65536 % 256 = y := by have := HY.out; simp at this; omega
        go_wp2_with (at_builtin; apply stopHere9)
        refine (show wpList _ _ _ _ _ _ from ?_)
        try rw [hyb]
        refine wpList_put13 rfl _ _ rfl w0 wr u0 R HS.out b HR.out rfl rfl ?_
        intro v5 w5 ho5 hb5
        have HS5 : Hid (PS13 w0 w5 v5 (R ++ [b])) := ⟨hb5, .inl ho5⟩
        have HW5 := hid13 ho5
        clear ho5 hb5 HS
        go_wp2
        go_roundg 2
        case measure => exact HK.out.1
        case rel => exact ⟨2, v5, R ++ [b], rfl, HK.out.2, rfl, rfl, HS5, fun _ => HW5.out, HP.out⟩
      · have hy : N / 16777216 = y := by have := HY.out; simp at this; omega
        go_wp2_with (at_builtin; apply stopHere9)
        refine (show wpList _ _ _ _ _ _ from ?_)
        try rw [hyb]
        refine wpList_put13 rfl _ _ rfl w0 wr u0 R HS.out b HR.out rfl rfl ?_
        intro v5 w5 ho5 hb5
        have HS5 : Hid (PS13 w0 w5 v5 (R ++ [b])) := ⟨hb5, .inl ho5⟩
        have HW5 := hid13 ho5
        clear ho5 hb5 HS
        go_wp2
        go_roundg 3
        case measure => exact HK.out.1
        case rel => exact ⟨3, v5, R ++ [b], rfl, HK.out.2, rfl, rfl, HS5, fun _ => HW5.out, HP.out⟩
      · omega
set_option maxRecDepth 100000 in
theorem rencode14_no (op n : Int) (v : Value) (m : List (BitVec 32)) (w : World) (hv : RwX cU w v m) (h0 : chkE op n m ≠ 0) :
    Calls Try.prog 13 #[.agg #[.int .i64 op, .int .i64 n, v]] w fun e w' => e = .returned (.tuple #[.slice none 0 0, .int .i64 (chkE op n m)]) ∧ Below w.heap.size w w' := by
  obtain ⟨ao, c, hvf, -⟩ := id hv
  have q1 := bl1 w (.cells #[.int .i64 op, .int .i64 n, v] 24)
  have K1 := rcheck14 op n v m _ (hv.below q1)
  have HB := hid13 q1
  subst hvf
  have hne : (chkE op n m != 0) = true := by simpa using h0
  clear q1 hv h0
  generalize chkE op n m = z at *
  go_enter Try.func13, Try.ntmps13
  go_wp2_with fail
  refine K1.mono ?_
  rintro e w2 ⟨rfl, hb2⟩
  have HB2 := hid13 (keepb hb2 HB.out)
  clear K1 hb2 HB
  go_wp2
  exact bodyPost_ret (v := .tuple #[.slice none 0 0, .int .i64 z]) (by simp [results, Try.results13, go_sem]) rfl ⟨rfl, HB2.out⟩
set_option maxRecDepth 100000 in
set_option maxHeartbeats 8000000 in
theorem rencode14 (O k : Nat) (v : Value) (m : List (BitVec 32)) (w : World) (hv : RwX cU w v m) (h0 : chkE (O : Int) (k : Int) m = 0) :
    Calls Try.prog 13 #[.agg #[.int .i64 (O : Int), .int .i64 (k : Int), v]] w fun e w' => ∃ v', e = .returned (.tuple #[v', .int .i64 0]) ∧ w'.ownsRow w.heap.size 5 1 v' (wdB O k m).length ((wdB O k m).map cB) ∧ Below w.heap.size w w' := by
  obtain ⟨ao, c, hvf, -⟩ := id hv
  have q1 := bl1 w (.cells #[.int .i64 (O : Int), .int .i64 (k : Int), v] 24)
  have HA1 := hid13 (ati_new w (O : Int) (k : Int) v 24)
  have K1 := rcheck14 (O : Int) (k : Int) v m _ (hv.below q1)
  have HB := hid13 q1
  have HV := hid13 hv
  obtain ⟨hO, hk, hml⟩ := chk_zero h0
  rw [h0] at K1
  subst hvf
  have hor : bits .or .u32 ((O : Int) * 16777216) (k : Int) = ((O * 16777216 + k : Nat) : Int) := orN32 (O * 16777216) k 24 (by omega) (by omega) (by omega) _ _ (by omega) rfl
  have hw1 : IntKind.u32.wrap (O : Int) = (O : Int) := wrap32n O (by omega)
  have hw2 : IntKind.u32.wrap (k : Int) = (k : Int) := wrap32n k (by omega)
  have hw3 : IntKind.u32.wrap ((O : Int) * 16777216) = (O : Int) * 16777216 := by have := wrap32n (O * 16777216) (by omega); simpa using this
  obtain ⟨F, hF⟩ : ∃ F : Nat, F = O * 16777216 + k := ⟨_, rfl⟩
  rw [← hF] at hor
  have hF4 : F < 4294967296 := by omega
  have HF : Hid (F = (fstW O k).toNat ∧ m.length ≤ 524288 ∧ F < 4294967296) := ⟨by unfold fstW; rw [BitVec.toNat_ofNat, hF]; omega, hml, hF4⟩
  clear q1 hv h0 hO hk hml hF hF4
  go_enter Try.func13, Try.ntmps13
  go_wp2_with fail
  refine K1.mono ?_
  rintro e w2 ⟨rfl, hb2⟩
  have HB2 := hid13 (keepb hb2 HB.out)
  have HA2 := hid13 (HA1.out.below hb2)
  obtain ⟨b0, b1, b2⟩ := HA2.out
  have K3 := rput14 w2 none 0 [] F 4 4 rfl (by decide) (by decide) w2 ⟨Below.refl _ _, .inl (World.ownsRow_nil _ _ _ _)⟩ (by simp) HF.out.2.2
  rw [List.nil_append, lastB_four F HF.out.2.2, HF.out.1] at K3
  clear K1 hb2 HB HA1
  rw [show (((fstW O k).toNat : Nat) : Int) = (F : Int) by rw [← HF.out.1]] at K3
  go_wp2_with fail
  refine K3.mono ?_
  rintro e w3 ⟨v3, rfl, hO3, hb3⟩
  have HS0 : Hid (Below w2.heap.size w2 w3 ∧ w3.ownsRow w2.heap.size 5 1 v3 ((fstW O k :: m.take 0).flatMap fun x => by4 x.toNat).length (((fstW O k :: m.take 0).flatMap fun x => by4 x.toNat).map cB)) := by
    refine ⟨hb3, ?_⟩
    have e : ((fstW O k :: m.take 0).flatMap fun x => by4 x.toNat) = by4 (fstW O k).toNat := by simp
    rw [e]; exact hO3
  clear K3 hO3 hb3 b0 b1 b2 hor hw1 hw2 hw3
  go_wp2
  go_loopg [5, 6] m.length (fun g vb i wr => ∃ (j : Nat), j + g = m.length ∧ i = .int .i64 (j : Int) ∧ Hid (Below w2.heap.size w2 wr ∧ wr.ownsRow w2.heap.size 5 1 vb ((fstW O k :: m.take j).flatMap fun x => by4 x.toNat).length (((fstW O k :: m.take j).flatMap fun x => by4 x.toNat).map cB)))
  case atStart => exact ⟨0, by omega, rfl, HS0⟩
  case round =>
    clear HS0
    obtain ⟨j, hj, rfl, HS⟩ := hrel
    obtain ⟨b0, b1, b2⟩ := HA2.out.below HS.out.1
    by_cases hlt : j < m.length
    · have hli : (j : Int) < (m.length : Int) := by omega
      obtain ⟨x, hx⟩ : ∃ x, m[j]? = some x := ⟨m[j], by simp [hlt]⟩
      obtain ⟨b, off, hao, hcell⟩ : ∃ b off, ao = some ⟨b, off, none⟩ ∧ ∀ j x, m[j]? = some x → wr.cell? ⟨b, off + j, none⟩ = some (cU x) := by
        obtain ⟨ao', c', e, hc, hr⟩ := (HV.out.below HB2.out).below HS.out.1
        injection e with e1 e2 e3
        subst e1
        rcases hr with h | h
        · rw [h] at hlt; simp at hlt
        · exact h
      subst hao
      have hrd : wr.cell? ⟨b, off + j, none⟩ = some (.int .u32 (uI x)) := hcell j x hx
      obtain ⟨R, hR⟩ : ∃ R, R = ((fstW O k :: m.take j).flatMap fun x => by4 x.toNat) := ⟨_, rfl⟩
      have hRl : R.length ≤ 4000000 := by rw [hR, fm_len]; simp; have := HF.out; omega
      have htk : ((fstW O k :: m.take (j + 1)).flatMap fun x => by4 x.toNat) = R ++ by4 x.toNat := by
        rw [hR, List.take_add_one, hx, ← List.cons_append, List.flatMap_append]
        simp
      have HO := HS.out.2
      rw [← hR] at HO
      obtain ⟨xo, xc, hv⟩ := own_form HO
      have K4 := rput14 w2 xo xc R x.toNat 4 4 rfl (by decide) (by decide) wr ⟨HS.out.1, .inl (by rw [← hv]; exact HO)⟩ (by omega) x.isLt
      rw [lastB_four _ x.isLt, ← htk, ← uI_eq] at K4
      have mj : IntKind.i64.wrap ((j : Int) + 1) = (j : Int) + 1 := by rw [IntKind.wrap_i64]; have := HF.out; omega
      have HK : Hid (j + gk = m.length ∧ j < m.length) := ⟨hj, hlt⟩
      subst hv
      clear hx hcell htk hR HO hlt hj HS
      go_wp2_with fail
      refine K4.mono ?_
      rintro e w4 ⟨v4, rfl, hO4, hb4⟩
      have HS4 := hid13 (And.intro hb4 hO4)
      clear K4 hO4 hb4 b0 b1 b2 hrd
      go_wp2
      go_roundg (gk - 1)
      case measure => have := HK.out; omega
      case rel => exact ⟨j + 1, by have := HK.out; omega, rfl, HS4⟩
    · have hli : ¬ (j : Int) < (m.length : Int) := by omega
      have HE : Hid (wr.ownsRow w2.heap.size 5 1 u5 (wdB O k m).length ((wdB O k m).map cB)) := by
        have := HS.out.2
        rw [List.take_of_length_le (by omega)] at this
        exact this
      have HBw := hid13 (HB2.out.trans (HS.out.1.mono HB2.out.size))
      have hsz : w.heap.size ≤ w2.heap.size := HB2.out.size
      clear HS
      go_wp2
      exact bodyPost_ret (v := .tuple #[u5, .int .i64 0]) (by simp [results, Try.results13, go_sem]) rfl ⟨_, rfl, own_wide13 HE.out hsz, HBw.out⟩
end Go.Proofs.Ytnaihocdemcejaa
/-
  What the document's Decode of chapter 14 does.
-/
namespace Go.Proofs.Ytnaihocdemcejaa
open Go.RowKit
set_option linter.unusedSimpArgs false
set_option linter.unusedVariables false

theorem and24 (x : BitVec 32) : bits .and .u32 (uI x) 16777215 = uI x % 16777216 := by
  have e : (16777215 : Int) = uI 16777215#32 := lit32 16777215 (by decide)
  have h : bits .and .u32 (uI x) (uI 16777215#32) = uI x % 16777216 := by
    rw [and32, uI_eq, uI_eq, BitVec.toNat_and]
    have : (16777215#32).toNat = 2 ^ 24 - 1 := by decide
    rw [this, Nat.and_two_pow_sub_one_eq_mod]
    have : (2 : Nat) ^ 24 = 16777216 := by decide
    omega
  rw [← e] at h
  exact h
theorem dc_err {l : List Nat} {a z : Int} (h : dcE l a = z) (hz : z ≠ 0) : dcI l a = ⟨0, 0, []⟩ ∧ dcZ l a = 0 ∧ dcE l a = z := by
  have hne : ¬ dcE l a = 0 := by rw [h]; exact hz
  exact ⟨by unfold dcI; rw [if_neg hne], by unfold dcZ; rw [if_neg hne], h⟩
theorem dc_ok {l : List Nat} {k : Nat} {m : List (BitVec 32)} (hk : k < l.length / 4) (h : rdP l k = (m, 0)) : dcI l (k : Int) = ⟨insO l k, insN l k, m⟩ ∧ dcZ l (k : Int) = 1 + (m.length : Int) ∧ dcE l (k : Int) = 0 := by
  have hs : stB l.length (k : Int) 1 = true := by unfold stB; simp; omega
  have hE : dcE l (k : Int) = 0 := by unfold dcE; rw [if_pos hs, Int.toNat_natCast, h]
  have hI : dcI l (k : Int) = ⟨insO l k, insN l k, m⟩ := by unfold dcI; rw [if_pos hE, Int.toNat_natCast, h]
  exact ⟨hI, by unfold dcZ; rw [if_pos hE, hI], hE⟩
theorem dc_bad {l : List Nat} {k : Nat} {m : List (BitVec 32)} {z : Int} (hk : k < l.length / 4) (h : rdP l k = (m, z)) (hz : z ≠ 0) : dcI l (k : Int) = ⟨0, 0, []⟩ ∧ dcZ l (k : Int) = 0 ∧ dcE l (k : Int) = z := by
  have hs : stB l.length (k : Int) 1 = true := by unfold stB; simp; omega
  exact dc_err (by unfold dcE; rw [if_pos hs, Int.toNat_natCast, h]) hz
set_option maxRecDepth 100000 in
set_option maxHeartbeats 8000000 in
theorem rdecode_out (v : Value) (l : List Nat) (a : Int) (w : World) (hv : RwX cB w v l) (hl : l.length ≤ 100000) (hx : ∀ b ∈ l, b < 256) (ha : stB l.length a 1 = false) :
    Calls Try.prog 18 #[v, .int .i64 a] w fun e w' => ∃ v', e = .returned (.tuple #[insV (dcI l a) v', .int .i64 (dcZ l a), .int .i64 (dcE l a)]) ∧ w'.ownsRow w.heap.size 56 1 v' (dcI l a).m.length ((dcI l a).m.map cU) ∧ Below w.heap.size w w' := by
  have hE : dcE l a = 30 := by unfold dcE; rw [if_neg (by rw [ha]; decide)]
  have HE := hid13 (dc_err hE (by decide))
  have hs : ¬ (0 ≤ a ∧ 4 * a + 4 ≤ (l.length : Int)) := by
    unfold stB at ha
    intro q
    have : (decide (0 ≤ a) && decide (a ≤ (l.length : Int) / 4 - 1)) = true := by simp; omega
    rw [this] at ha; cases ha
  have fin : ∀ (W : World) (hb : Below w.heap.size w W), ∃ v', (Ending.returned (.tuple #[.agg #[.int .i64 0, .int .i64 0, .slice none 0 0], .int .i64 0, .int .i64 30])) = .returned (.tuple #[insV (dcI l a) v', .int .i64 (dcZ l a), .int .i64 (dcE l a)]) ∧ W.ownsRow w.heap.size 56 1 v' (dcI l a).m.length ((dcI l a).m.map cU) ∧ Below w.heap.size w W := by
    intro W hb
    refine ⟨.slice none 0 0, ?_, ?_, hb⟩
    · rw [HE.out.1, HE.out.2.1, HE.out.2.2]; rfl
    · rw [HE.out.1]; exact World.ownsRow_nil _ _ _ _
  have HFin := hid13 fin
  obtain ⟨ao, cc, hvf, -⟩ := id hv
  by_cases d0 : a < 0
  · subst hvf
    clear hs ha hE fin hv
    go_enter Try.func18, Try.ntmps18
    go_wp2
    exact bodyPost_ret (v := .tuple #[.agg #[.int .i64 0, .int .i64 0, .slice none 0 0], .int .i64 0, .int .i64 30]) (by simp [results, Try.results18, go_sem]) rfl (HFin.out _ (bl1 _ _))
  by_cases d1 : (l.length : Int) ≤ a
  · subst hvf
    clear hs ha hE fin hv
    go_enter Try.func18, Try.ntmps18
    go_wp2
    exact bodyPost_ret (v := .tuple #[.agg #[.int .i64 0, .int .i64 0, .slice none 0 0], .int .i64 0, .int .i64 30]) (by simp [results, Try.results18, go_sem]) rfl (HFin.out _ (bl1 _ _))
  have q1 := bl1 w (.cells #[.int .i64 0, .int .i64 0, .slice none 0 0] 24)
  have K1 := rget13 v l (4 * a) 4 4 rfl (by decide) (by decide) _ (hv.below q1) (by omega) hx (by omega) (by omega)
  have hno : ¬ (0 ≤ 4 * a ∧ 4 * a ≤ (l.length : Int) - ((4 : Nat) : Int)) := by rintro ⟨q1, q2⟩; exact hs ⟨by omega, by omega⟩
  rw [decide_eq_false hno, show gtN l (4 * a) 4 = 0 by unfold gtN; rw [if_neg hno]] at K1
  have mw : IntKind.i64.wrap (4 * a) = 4 * a := by rw [IntKind.wrap_i64]; omega
  subst hvf
  clear hs ha hE fin hv hno q1
  go_enter Try.func18, Try.ntmps18
  go_wp2_with fail
  refine K1.mono ?_
  rintro e w2 ⟨rfl, hw2⟩
  replace hw2 := hw2.symm
  subst hw2
  go_wp2
  exact bodyPost_ret (v := .tuple #[.agg #[.int .i64 0, .int .i64 0, .slice none 0 0], .int .i64 0, .int .i64 30]) (by simp [results, Try.results18, go_sem]) rfl (HFin.out _ (bl1 _ _))
/-- The document's variables while it reads a map. -/
structure DcW (w W : World) (B : Nat) (o n : Int) (vb : Value) (R : List (BitVec 32)) : Prop where
  b : Below w.heap.size w W
  r : AtIF W w.heap.size 0 0 (.slice none 0 0)
  i : AtIF W B o n vb
  o : W.ownsRow (B + 1) 56 1 vb R.length (R.map cU)
  s : B + 1 ≤ W.heap.size
section
variable {w W W' : World} {B : Nat} {o n : Int} {vb v' : Value} {R R' : List (BitVec 32)}
theorem DcW.below (h : DcW w W B o n vb R) (hb : Below W.heap.size W W') : DcW w W' B o n vb R := ⟨keepb hb h.b, h.r.below hb, h.i.below hb, own_b13 hb h.o, Nat.le_trans h.s hb.size⟩
theorem AtIF.grown {C : Nat} {row : Option Nat} (h : AtIF W C o n vb) (hg : W.grownBy W' row) (hne : some C ≠ row) : AtIF W' C o n vb := by
  have e : W'.heap[C]? = W.heap[C]? := hg.block C (cell_in h.1.1) hne
  have f : ∀ j, W'.frozen? ⟨C, j, none⟩ = W.frozen? ⟨C, j, none⟩ := fun j => World.frozen?_of_block (a := ⟨C, j, none⟩) e
  exact ⟨⟨hg.cell h.1.1 hne, hg.cell h.1.2.1 hne, hg.cell h.1.2.2 hne⟩, (f 0).trans h.2.1, (f 1).trans h.2.2.1, (f 2).trans h.2.2.2⟩
/-- An append, and the store of what it told. -/
theorem DcW.app (h : DcW w W B o n vb R) (hB : w.heap.size < B) (ho : W'.ownsRow (B + 1) 56 1 v' R'.length (R'.map cU)) (hg : W.grownBy W' vb.ownBlock) : AtIF W' B o n vb ∧ DcW w (W'.setCell ⟨B, 2, none⟩ v') B o n v' R' := by
  have hne : ∀ C, C ≤ B → some C ≠ vb.ownBlock := fun C hC e => by have := (h.o.lt C e.symm).1; omega
  have hi := h.i.grown hg (hne B (Nat.le_refl _))
  have hr := h.r.grown hg (hne w.heap.size (by omega))
  have hb : Below w.heap.size w W' := h.b.grown hg (by have := h.s; omega) (fun k e => by have := (h.o.lt k e).1; omega)
  refine ⟨hi, ?_⟩
  obtain ⟨⟨i0, i1, i2⟩, f0, f1, f2⟩ := hi
  obtain ⟨⟨r0, r1, r2⟩, g0, g1, g2⟩ := hr
  have hBw : ¬ w.heap.size = B := by omega
  have hBw' : ¬ B = w.heap.size := by omega
  refine ⟨hb.setCell (p := ⟨B, 2, none⟩) (by show w.heap.size ≤ B; omega) _, ⟨⟨?_, ?_, ?_⟩, ?_, ?_, ?_⟩, ⟨⟨?_, ?_, ?_⟩, ?_, ?_, ?_⟩, ownsRow_setCell_below ho (Nat.lt_succ_self _) _, ?_⟩
  all_goals first | (simp [go_sem, *]; done) | skip
  · simp [World.setCell]; exact Nat.le_trans h.s hg.size
end
end Go.Proofs.Ytnaihocdemcejaa
/-
  What the document's Decode does at an index instruction.
-/
namespace Go.Proofs.Ytnaihocdemcejaa
open Go.RowKit
set_option linter.unusedSimpArgs false
set_option linter.unusedVariables false

theorem stopAnd14 {P : Program} {w : World} {ops : Array Oper} {rest : List Oper} {a : Act} {Q : Exit → Act → World → Prop} {d : Option Tmp} {t t2 ty : TypeId} {x y : Operand} {p : String} {af : Array Edge} {g : Option (Nat × Bool)} (h : Hid (wpList P ops Q ({ dst := d, op := .binOp .and t x y t2, type := ty, pos := p, after := af, guard := g } :: rest) a w)) : wpList P ops Q ({ dst := d, op := .binOp .and t x y t2, type := ty, pos := p, after := af, guard := g } :: rest) a w := h.out
theorem sd14a {k c L J : Nat} (h : k + 1 + c ≤ L / 4) (hL : L ≤ 100000) (hJ : J ≤ c) (h1 : 1 ≤ J) : k + J < L / 4 ∧ (0 ≤ ((4 * (k + J) : Nat) : Int) ∧ ((4 * (k + J) : Nat) : Int) ≤ (L : Int) - ((4 : Nat) : Int)) := by omega
theorem sd14b {k c L J : Nat} (h : k + 1 + c ≤ L / 4) (hL : L ≤ 100000) (hJ : J ≤ c) : IntKind.i64.wrap ((k : Int) + (J : Int)) = ((k + J : Nat) : Int) ∧ IntKind.i64.wrap (4 * ((k + J : Nat) : Int)) = ((4 * (k + J) : Nat) : Int) ∧ IntKind.i64.wrap ((J : Int) + 1) = ((J + 1 : Nat) : Int) := by
  refine ⟨?_, ?_, ?_⟩ <;> (rw [IntKind.wrap_i64]; omega)
theorem sd14 {k c L : Nat} (h : k + 1 + c ≤ L / 4) : (c : Int) ≤ (L : Int) / 4 - (k : Int) - 1 := by omega
theorem sd14n {k c L : Nat} (h : ¬ k + 1 + c ≤ L / 4) : (L : Int) / 4 - (k : Int) - 1 < (c : Int) := by omega
theorem wr14 (x : Int) (h0 : -1000000000 ≤ x) (h1 : x ≤ 1000000000) : wrap64 x = x := by unfold wrap64; omega
theorem ex14b {P : Program} {w : World} {s : Sem Value} {v : Value} (h : s.run P w = .ok v w) : (do pure (Next.value (← s)) : Sem Next).run P w = .ok (.value v) w := by
  simp only [Sem.run_bind, h, Sem.run_pure, Result.andThen_ok]
theorem sw_run14 {P : Program} {ops : Array Oper} {Q : Exit → Act → World → Prop} {a : Act} {o : Oper} {rest : List Oper} {w : World} {v : Value}
    (hg : o.guard = none) (h : (execOp a.eval o).run P w = .ok (.value v) w) (k : wpList P ops Q rest (a.put o.dst v) w) : wpList P ops Q (o :: rest) a w := by
  refine wpList_plain hg fun K hK => ?_
  unfold Oper.wp Oper.upon
  rw [h]
  exact hK _ _ k
theorem rd_fin (l : List Nat) (k : Nat) (w : World) (hk : k < l.length / 4) (z : Int) (m : List (BitVec 32)) (hz : z ≠ 0) (hr : rdP l k = (m, z)) (W : World) (hb : Below w.heap.size w W) : ∃ v', (Ending.returned (.tuple #[.agg #[.int .i64 0, .int .i64 0, .slice none 0 0], .int .i64 0, .int .i64 z])) = .returned (.tuple #[insV (dcI l (k : Int)) v', .int .i64 (dcZ l (k : Int)), .int .i64 (dcE l (k : Int))]) ∧ W.ownsRow w.heap.size 56 1 v' (dcI l (k : Int)).m.length ((dcI l (k : Int)).m.map cU) ∧ Below w.heap.size w W := by
  obtain ⟨g1, g2, g3⟩ := dc_bad hk hr hz
  refine ⟨.slice none 0 0, ?_, ?_, hb⟩
  · rw [g1, g2, g3]; rfl
  · rw [g1]; exact World.ownsRow_nil _ _ _ _
theorem dcw_new (w : World) (o n : Int) : DcW w ((w.alloc (.cells #[.int .i64 0, .int .i64 0, .slice none 0 0] 24)).alloc (.cells #[.int .i64 o, .int .i64 n, .slice none 0 0] 24)) (w.heap.size + 1) o n (.slice none 0 0) [] := by
  have q1 := bl1 w (.cells #[.int .i64 0, .int .i64 0, .slice none 0 0] 24)
  have q2 := bl1 (w.alloc (.cells #[.int .i64 0, .int .i64 0, .slice none 0 0] 24)) (.cells #[.int .i64 o, .int .i64 n, .slice none 0 0] 24)
  have a1 := (atif_new w 0 0 (.slice none 0 0) 24).below q2
  have a2 := atif_new (w.alloc (.cells #[.int .i64 0, .int .i64 0, .slice none 0 0] 24)) o n (.slice none 0 0) 24
  have hsz : (w.alloc (.cells #[.int .i64 0, .int .i64 0, .slice none 0 0] 24)).heap.size = w.heap.size + 1 := by simp
  rw [hsz] at a2
  exact ⟨keepb q2 q1, a1, a2, World.ownsRow_nil _ _ _ _, by simp⟩
set_option maxRecDepth 100000 in
set_option maxHeartbeats 16000000 in
theorem rdecode_map (v : Value) (l : List Nat) (k N : Nat) (w : World) (hv : RwX cB w v l) (hl : l.length ≤ 100000) (hx : ∀ b ∈ l, b < 256) (hk : k < l.length / 4) (hO : insO l k = 2) (hN : insN l k = (N : Int)) (hN1 : 1 ≤ N) (hN24 : N ≤ 24) :
    Calls Try.prog 18 #[v, .int .i64 (k : Int)] w fun e w' => ∃ v', e = .returned (.tuple #[insV (dcI l (k : Int)) v', .int .i64 (dcZ l (k : Int)), .int .i64 (dcE l (k : Int))]) ∧ w'.ownsRow w.heap.size 56 1 v' (dcI l (k : Int)).m.length ((dcI l (k : Int)).m.map cU) ∧ Below w.heap.size w w' := by
  obtain ⟨ao, cc, hvf, -⟩ := id hv
  have q1 := bl1 w (.cells #[.int .i64 0, .int .i64 0, .slice none 0 0] 24)
  have K1 := rget13 v l (4 * (k : Int)) 4 4 rfl (by decide) (by decide) _ (hv.below q1) (by omega) hx (by omega) (by omega)
  have hyes : 0 ≤ 4 * (k : Int) ∧ 4 * (k : Int) ≤ (l.length : Int) - ((4 : Nat) : Int) := ⟨by omega, by omega⟩
  have e1 : ((gtN l (4 * (k : Int)) 4 : Nat) : Int) = uI (wdV l k) := by
    rw [wd_uI l k hx]
    unfold gtN
    rw [if_pos hyes, show (4 * (k : Int)).toNat = 4 * k by omega]
  rw [decide_eq_true hyes, e1] at K1
  obtain ⟨A4, hA4⟩ : ∃ A4 : Nat, 4 * (k : Int) = (A4 : Int) := ⟨4 * k, by omega⟩
  have mw : IntKind.i64.wrap (4 * (k : Int)) = (A4 : Int) := by rw [IntKind.wrap_i64]; omega
  rw [hA4] at K1
  have HV := hid13 hv
  have HX := hid13 hx
  have han := and24 (wdV l k)
  obtain ⟨X, hX⟩ : ∃ X, X = uI (wdV l k) := ⟨_, rfl⟩
  obtain ⟨c, hc⟩ : ∃ c, c = mwN N := ⟨_, rfl⟩
  have hR : rdP l k = if k + 1 + c ≤ l.length / 4 then (if isMapB (mpL l (k + 1) c) N = true then (mpL l (k + 1) c, (0 : Int)) else ([], 25)) else ([], 30) := by
    unfold rdP
    rw [hO, hN, if_pos (by decide), if_pos (by show (N : Int) ≤ 255; omega), if_pos (by unfold tkB kLo kHi; simp; omega), if_pos rfl, Int.toNat_natCast]
    unfold rmP
    rw [← hc]
  have hQ : Hid (insO l k = 2 ∧ insN l k = (N : Int)) := ⟨hO, hN⟩
  have x1 : X / 16777216 = 2 := by rw [hX, ← hO]; rfl
  have x2 : bits .and .u32 X 16777215 = (N : Int) := by rw [hX, han, ← hN]; rfl
  have hNw : IntKind.i64.wrap (N : Int) = (N : Int) := by rw [IntKind.wrap_i64]; omega
  rw [← hX] at K1
  have d0 : ¬ (k : Int) < 0 := by omega
  have d1 : ¬ (l.length : Int) ≤ (k : Int) := by omega
  have HAnd : Hid (∀ W : World, (binOp .and 56 (.int .u32 X) (.int .u32 16777215)).run Try.prog W = .ok (.int .u32 (N : Int)) W) := by
    intro W
    rw [binOp_and]
    show Result.ok (Value.int .u32 (bits .and .u32 X 16777215)) W = _
    rw [x2]
  have K5 := fun w => rmapWords_any N hN24 w
  have hch := mwN_hi N hN24
  have hcl := mwN_lo N
  rw [← hc] at K5 hch hcl
  obtain ⟨D, hD⟩ : ∃ D : Int, D = (l.length : Int) / 4 - (k : Int) - 1 := ⟨_, rfl⟩
  have mD : wrap64 (wrap64 (wrap64 ((l.length : Int) / 4) - (k : Int)) - 1) = D := by
    rw [wr14 ((l.length : Int) / 4) (by omega) (by omega), wr14 ((l.length : Int) / 4 - (k : Int)) (by omega) (by omega), wr14 _ (by omega) (by omega), hD]
  have t0 : (N : Int) ≤ 255 := by omega
  have t1 : 1 ≤ (N : Int) := by omega
  have t2 : (N : Int) ≤ 24 := by omega
  subst hvf
  by_cases s1 : k + 1 + c ≤ l.length / 4
  · rw [if_pos s1] at hR
    have HR2 := hid13 hR
    have s2 : (c : Int) ≤ D := by rw [hD]; exact sd14 s1
    have HC : Hid (c ≤ 524288 ∧ 1 ≤ c ∧ N ≤ 24 ∧ k + 1 + c ≤ l.length / 4 ∧ l.length ≤ 100000) := ⟨hch, hcl, hN24, s1, hl⟩
    clear hyes e1 hv hx hX han q1 hO hN hl hk hA4 x2 hch hcl hN24 s1 hc hN1 hR hD
    go_enter Try.func18, Try.ntmps18
    go_wp2_with (first | (go_at_call 29; refine K1.mono ?_; rintro e w2 ⟨rfl, hw2⟩; replace hw2 := hw2.symm; subst hw2) | (with_reducible apply stopAnd14))
    refine (show wpList _ _ _ _ _ _ from ?_)
    refine sw_run14 (v := .int .u32 (N : Int)) rfl (ex14b (HAnd.out _)) ?_
    simp only [Act.put, List.setIfInBounds_toArray, List.set_cons_zero, List.set_cons_succ]
    clear HAnd K1
    go_wp2_with (first | (go_at_call 30; refine (K5 _).mono ?_; rintro e w3 ⟨rfl, hw3⟩; replace hw3 := hw3.symm; subst hw3) | fail)
    have HD0 := hid13 (dcw_new w 2 (N : Int))
    obtain ⟨i0, hi, hz0, hz1, hz2⟩ := info13 Try.infoU13
    clear d0 d1 mw mD s2 t0 t1 t2 x1 K5
    go_loopg [11, 12, 13] c (fun g k11 x12 x13 wr => ∃ (J : Nat) (vb : Value) (R : List (BitVec 32)), Hid (J + g = c + 1 ∧ 1 ≤ J) ∧ k11 = .int .i64 (J : Int) ∧ Hid (DcW w wr (w.heap.size + 1) 2 (N : Int) vb R) ∧ Hid (R = mpL l (k + 1) (J - 1)))
    case atStart => exact ⟨1, _, [], ⟨by omega, Nat.le_refl _⟩, rfl, HD0, rfl⟩
    case round =>
      clear HD0
      obtain ⟨J, vb, R, HJ, rfl, HW, HR⟩ := hrel
      obtain ⟨⟨j0, j1, j2⟩, f0, f1, f2⟩ := HW.out.i
      by_cases hlt : J ≤ c
      · have hli : (J : Int) ≤ (c : Int) := by omega
        obtain ⟨r1, r2⟩ := sd14a HC.out.2.2.2.1 HC.out.2.2.2.2 hlt HJ.out.2
        obtain ⟨m1, m2, m3⟩ := sd14b HC.out.2.2.2.1 HC.out.2.2.2.2 hlt
        have K6 := rget13 (.slice ao l.length cc) l ((4 * (k + J) : Nat) : Int) 4 4 rfl (by decide) (by decide) wr (HV.out.below HW.out.b) (by have := HC.out.2.2.2.2; omega) HX.out (by omega) (by have := HC.out.2.2.2.2; omega)
        have e6 : ((gtN l ((4 * (k + J) : Nat) : Int) 4 : Nat) : Int) = uI (wdV l (k + J)) := by
          rw [wd_uI l (k + J) HX.out]
          unfold gtN
          rw [if_pos r2, Int.toNat_natCast]
        rw [decide_eq_true r2, e6] at K6
        have HR2' : Hid (R ++ [wdV l (k + J)] = mpL l (k + 1) (J + 1 - 1)) := by
          show _ = _
          have h1 := HJ.out.2
          rw [HR.out, show J + 1 - 1 = (J - 1) + 1 by omega, mpL_succ, show k + 1 + (J - 1) = k + J by omega]
        have HRl : Hid (R.length ≤ 524288) := by show _ ≤ _; rw [HR.out, mpL_len]; have := HC.out.1; omega
        have HJ2 : Hid (J + gk = c + 1 ∧ 1 ≤ J ∧ J ≤ c) := ⟨HJ.out.1, HJ.out.2, hlt⟩
        obtain ⟨P1, hP1⟩ : ∃ P1 : Nat, P1 = k + J := ⟨_, rfl⟩
        obtain ⟨P4, hP4⟩ : ∃ P4 : Nat, P4 = 4 * (k + J) := ⟨_, rfl⟩
        obtain ⟨J1, hJ1⟩ : ∃ J1 : Nat, J1 = J + 1 := ⟨_, rfl⟩
        obtain ⟨x, hx⟩ : ∃ x, x = wdV l (k + J) := ⟨_, rfl⟩
        rw [← hx] at K6 HR2'
        rw [← hP4] at m2 K6
        rw [← hP1] at m1 m2
        rw [← hJ1] at m3 HR2'
        have HJ1 := hid13 hJ1
        obtain ⟨vbo, vbc, hvb⟩ := own_form HW.out.o
        have q7 := bl1 wr (.cells #[.int .u32 (uI x)] 56)
        have HW7 := hid13 (HW.out.below q7)
        have h63 : R.length + 1 ≤ maxLen := by have := HRl.out; unfold maxLen; omega
        have h47 : (R.length + 1) * 4 ≤ 140737488355328 := by have := HRl.out; omega
        subst hvb
        clear r1 r2 e6 hP1 hP4 hJ1 hx hlt HJ HR q7
        go_wp2_with (first | (go_at_call 29; refine K6.mono ?_; rintro e w2 ⟨rfl, hw2⟩; replace hw2 := hw2.symm; subst hw2) | (at_builtin; apply stopHere9))
        refine (show wpList _ _ _ _ _ _ from ?_)
        refine wpList_append_lies _ rfl _ _ 22 rfl (w.heap.size + 1 + 1) 56 i0 (.int .u32 0) 1 4 Try.underlying22 hi hz0 hz1 hz2 rfl (by decide) _ R.length (R.map cU) rfl HW7.out.o ⟨wr.heap.size, 0, none⟩ 1 1 [.int .u32 (uI x)] rfl rfl (news13 (by simp [go_sem])) (by intro u hu; simp at hu; subst hu; rfl) (by decide) h63 h47 HW7.out.s _ rfl ?_
        intro g4 cap4 w4 hown4 hgrow hat hlt4
        obtain ⟨hi4, hd4⟩ := HW7.out.app (Nat.lt_succ_self _) (R' := R ++ [x]) (v' := .slice (some ⟨g4, 0, none⟩) (R.length + 1) cap4) (by rw [List.length_append, List.map_append]; exact hown4) hgrow
        have HD4 := hid13 hd4
        obtain ⟨⟨y0, y1, y2⟩, z0, z1, z2⟩ := hi4
        clear hown4 hgrow hat hlt4 h63 h47 HW7 HW hd4 j0 j1 j2 f0 f1 f2 K6
        go_wp2
        go_roundg (gk - 1)
        case measure => have := HJ2.out; omega
        case rel => exact ⟨J1, _, R ++ [x], by have := HJ1.out; have := HJ2.out; exact ⟨by omega, by omega⟩, rfl, HD4, HR2'⟩
      · have hli : ¬ (J : Int) ≤ (c : Int) := by omega
        have hRc : R = mpL l (k + 1) c := by rw [HR.out, show J - 1 = c by have := HJ.out; omega]
        have hRl : R.length = c := by rw [hRc, mpL_len]
        have K8 := risMap_any vb R N wr (own_rwx HW.out.o) HC.out.2.2.1
        have HR3 : Hid (rdP l k = if isMapB R N = true then (R, (0 : Int)) else ([], 25)) := by show _ = _; rw [HR2.out, hRc]
        have HRl := hid13 hRl
        have mc : IntKind.i64.wrap (1 + (c : Int)) = 1 + (c : Int) := by rw [IntKind.wrap_i64]; have := HC.out.1; omega
        obtain ⟨vbo, vbc, hvb⟩ := own_form HW.out.o
        have HKk : Hid (k < l.length / 4) := by show _ < _; have := HC.out; omega
        subst hvb
        clear hRc hRl HR2 HR hlt HJ
        go_wp2_with fail
        refine K8.mono ?_
        rintro e w5 ⟨rfl, hb5⟩
        have HW5 := hid13 (HW.out.below hb5)
        clear K8 hb5 HW j0 j1 j2 f0 f1 f2
        obtain ⟨⟨j0, j1, j2⟩, f0, f1, f2⟩ := HW5.out.i
        obtain ⟨⟨y0, y1, y2⟩, z0, z1, z2⟩ := HW5.out.r
        generalize isMapB R N = z at *
        cases z with
        | true =>
          have HR4 : Hid (rdP l k = (R, 0)) := HR3
          clear HR3
          go_wp2
          obtain ⟨g1, g2, g3⟩ := dc_ok HKk.out HR4.out
          have hcR : 1 + (R.length : Int) = 1 + (c : Int) := by rw [HRl.out]
          refine bodyPost_ret (v := .tuple #[.agg #[.int .i64 2, .int .i64 (N : Int), .slice vbo R.length vbc], .int .i64 (1 + (c : Int)), .int .i64 0]) (by simp [results, Try.results18, go_sem, *]) rfl ⟨.slice vbo R.length vbc, by rw [g1, g2, hcR, g3, hQ.out.1, hQ.out.2]; rfl, ?_, bset3i HW5.out.b (Nat.le_refl _) _ _ _⟩
          rw [g1]
          have h1 : w.heap.size < w.heap.size + 1 + 1 := by omega
          exact own_wide13 (ownsRow_setCell_below (ownsRow_setCell_below (ownsRow_setCell_below HW5.out.o h1 _) h1 _) h1 _) (Nat.le_of_lt h1)
        | false =>
          have HR4 : Hid (rdP l k = ([], 25)) := HR3
          clear HR3
          go_wp2
          exact bodyPost_ret (v := .tuple #[.agg #[.int .i64 0, .int .i64 0, .slice none 0 0], .int .i64 0, .int .i64 25]) (by simp [results, Try.results18, go_sem, *]) rfl (rd_fin l k w HKk.out 25 [] (by decide) HR4.out _ (bset3i HW5.out.b (Nat.le_refl _) _ _ _))
  · rw [if_neg s1] at hR
    have HR2 : Hid (rdP l k = ([], 30)) := hR
    have s2 : D < (c : Int) := by rw [hD]; exact sd14n s1
    have HK := hid13 hk
    clear hyes e1 hv hx hX han q1 hO hN hl hk hA4 x2 hch hcl hN24 s1 hc hN1 hR hD
    go_enter Try.func18, Try.ntmps18
    go_wp2_with (first | (go_at_call 29; refine K1.mono ?_; rintro e w2 ⟨rfl, hw2⟩; replace hw2 := hw2.symm; subst hw2) | (with_reducible apply stopAnd14))
    refine (show wpList _ _ _ _ _ _ from ?_)
    refine sw_run14 (v := .int .u32 (N : Int)) rfl (ex14b (HAnd.out _)) ?_
    simp only [Act.put, List.setIfInBounds_toArray, List.set_cons_zero, List.set_cons_succ]
    clear HAnd K1
    go_wp2_with (first | (go_at_call 30; refine (K5 _).mono ?_; rintro e w3 ⟨rfl, hw3⟩; replace hw3 := hw3.symm; subst hw3) | fail)
    exact bodyPost_ret (v := .tuple #[.agg #[.int .i64 0, .int .i64 0, .slice none 0 0], .int .i64 0, .int .i64 30]) (by simp [results, Try.results18, go_sem]) rfl (rd_fin l k w HK.out 30 [] (by decide) HR2.out _ (keepb (bl1 _ _) (bl1 _ _)))
end Go.Proofs.Ytnaihocdemcejaa
