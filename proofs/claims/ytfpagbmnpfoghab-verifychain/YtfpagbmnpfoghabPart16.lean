/-
  Part 16 of the proof: 1 texts, one behind the other.
-/
import Derived.Test.YtfpagbmnpfoghabPart5
import Derived.Test.YtfpagbmnpfoghabPart15
import Derived.Test.YtfpagbmnpfoghabPart10
import Derived.Test.YtfpagbmnpfoghabPart1
namespace Go.Proofs.Ytfpagbmnpfoghab
open Go.RowKit
set_option linter.unusedSimpArgs false
set_option linter.unusedVariables false

theorem lit_own18 {w : World} (base : Nat) (arr : Array Value) (l : List Nat) (hb : base ≤ w.heap.size) (he : arr.toList = l.map cB) (hl : l.length ≤ 1000) (n : Nat) (hn : n = l.length) :
    (w.alloc (.cells arr 5)).ownsRow base 5 1 (.slice (some ⟨w.heap.size, 0, none⟩) n n) l.length (l.map cB) := by
  subst hn
  have hs : arr.size = l.length := by rw [← Array.length_toList, he, List.length_map]
  have := World.ownsRow_lit (base := base) (e := 5) (size := 1) w arr l.length hb (by unfold maxLen; omega) (by rw [hs]; omega)
  rw [he] at this
  exact this
theorem tmod_ways18 (a n : Int) (h : 0 < n) : (a.tmod n < 0 ∧ a.tmod n + n = a % n) ∨ (0 ≤ a.tmod n ∧ a.tmod n = a % n) := by
  by_cases h0 : 0 ≤ a
  · right
    have : a.tmod n = a % n := Int.tmod_eq_emod_of_nonneg h0
    exact ⟨by rw [this]; exact Int.emod_nonneg _ (by omega), this⟩
  · have e := Int.tmod_eq_emod (a := a) (b := n)
    have b1 := Int.emod_nonneg a (b := n) (by omega)
    have b2 := Int.emod_lt_of_pos a h
    split at e
    · right; omega
    · left
      have : (n.natAbs : Int) = n := by omega
      omega
set_option maxHeartbeats 1000000 in
theorem within18 (a n : Int) (w : World) (h0 : 0 < n) (h1 : n ≤ 9223372036854775807) :
    Calls Try.prog 12 #[.int .i64 a, .int .i64 n] w fun e w' => e = .returned (.int .i64 (a % n)) ∧ w' = w := by
  have b1 := Int.emod_nonneg a (b := n) (by omega)
  have b2 := Int.emod_lt_of_pos a h0
  have hn0 : ¬ n = 0 := by omega
  have hnb : (n == 0) = false := by simp; omega
  rcases tmod_ways18 a n h0 with ⟨c, e⟩ | ⟨c, e⟩
  · have hw : IntKind.i64.wrap (a.tmod n) = a.tmod n := by rw [IntKind.wrap_i64]; omega
    have hw2 : IntKind.i64.wrap (a.tmod n + n) = a.tmod n + n := by rw [IntKind.wrap_i64]; omega
    rw [← e]
    clear e b1 b2
    go_enter Try.func12, Try.ntmps12
    go_wp2
    go_ret
    exact ⟨rfl, rfl⟩
  · have hw : IntKind.i64.wrap (a.tmod n) = a.tmod n := by rw [IntKind.wrap_i64]; omega
    rw [← e]
    clear e b1 b2
    go_enter Try.func12, Try.ntmps12
    go_wp2
    go_ret
    exact ⟨rfl, rfl⟩
theorem hdC : ∀ b : Fin 9, 1 ≤ b.val → [1, 0, 0, b.val, 2, 0, 0, b.val, 192, 0, 0, 0] ++ List.replicate (4 * (mwN b.val - 1)) 0 = wdB 1 b.val [] ++ wdB 2 b.val (mpC b.val) := by decide +kernel
theorem e1C : [3, 0, 0, 2, 4, 0, 0, 7] = wdB 3 2 [] ++ wdB 4 7 [] := by decide +kernel
theorem e2C : [4, 0, 0, 9, 4, 0, 0, 7] = wdB 4 9 [] ++ wdB 4 7 [] := by decide +kernel
theorem blLt : ∀ b : Fin 9, ∀ z : Bool, ∀ x ∈ blC b.val z, x < 256 := by decide +kernel
theorem chR_lt (b : Nat) (hb : b ≤ 8) : ∀ r, ∀ x ∈ chR b r, x < 256
  | 0, x, h => by simp [chR] at h
  | r + 1, x, h => by
    rcases List.mem_append.1 (show x ∈ blC b (r == 0) ++ chR b r from h) with h | h
    · exact blLt ⟨b, by omega⟩ _ x h
    · exact chR_lt b hb r x h
theorem chR_eq (b : Nat) : ∀ r, chR b (r + 1) = (List.replicate r (blC b false)).flatten ++ blC b true
  | 0 => by show blC b true ++ [] = _; simp
  | r + 1 => by
    show blC b false ++ chR b (r + 1) = _
    rw [chR_eq b r, List.replicate_succ, List.flatten_cons, List.append_assoc]
def ChS (b r i : Nat) (L : List Nat) : Prop := (i < r ∧ L = (List.replicate i (blC b false)).flatten) ∨ (i = r ∧ L = chR b r)
theorem flC_len (b : Nat) : ∀ i, (List.replicate i (blC b false)).flatten.length = 4 * (szC b * i)
  | 0 => rfl
  | i + 1 => by rw [List.replicate_succ, List.flatten_cons, List.length_append, blC_len, flC_len b i, Nat.mul_succ]; omega
theorem ChS.len {b r i : Nat} {L : List Nat} (h : ChS b r i L) : L.length = 4 * (szC b * i) := by
  rcases h with ⟨-, rfl⟩ | ⟨rfl, rfl⟩
  · exact flC_len b i
  · exact chR_len b i
theorem ChS.mid {b r i : Nat} {L : List Nat} (h : ChS b r i L) (hi : i + 1 < r) (hb : 1 ≤ b) (hb2 : b ≤ 8) : ChS b r (i + 1) (L ++ [1, 0, 0, b, 2, 0, 0, b, 192, 0, 0, 0] ++ List.replicate (4 * (mwN b - 1)) 0 ++ [3, 0, 0, 2, 4, 0, 0, 7]) := by
  rcases h with ⟨-, rfl⟩ | ⟨rfl, -⟩
  · refine .inl ⟨hi, ?_⟩
    rw [List.append_assoc (List.replicate i (blC b false)).flatten, hdC ⟨b, by omega⟩ hb, e1C, List.replicate_succ', List.flatten_append]
    unfold blC
    simp [List.append_assoc]
  · omega
theorem ChS.last {b r i : Nat} {L : List Nat} (h : ChS b r i L) (hi : i + 1 = r) (hb : 1 ≤ b) (hb2 : b ≤ 8) : ChS b r (i + 1) (L ++ [1, 0, 0, b, 2, 0, 0, b, 192, 0, 0, 0] ++ List.replicate (4 * (mwN b - 1)) 0 ++ [4, 0, 0, 9, 4, 0, 0, 7]) := by
  rcases h with ⟨-, rfl⟩ | ⟨rfl, -⟩
  · refine .inr ⟨hi, ?_⟩
    subst hi
    rw [chR_eq, List.append_assoc (List.replicate i (blC b false)).flatten, hdC ⟨b, by omega⟩ hb, e2C]
    unfold blC
    simp [List.append_assoc]
  · omega
theorem wqL (Q : Nat) (h : Q ≤ 8) : wrap64 (Q : Int) = (Q : Int) := by unfold wrap64; omega
theorem h3L (Q M Z : Nat) (hm : M = max 1 Q) (hz : Z = M + 2) (q : (Q : Int) ≤ 1) : wrap64 3 = (Z : Int) := by
  have h1 : M = 1 := by rw [hm]; exact Nat.max_eq_left (by omega)
  subst hz
  rw [h1]
  unfold wrap64
  omega
theorem h4L (Q M Z : Nat) (hm : M = max 1 Q) (hz : Z = M + 2) (h8 : Q ≤ 8) (q : (1 : Int) < (Q : Int)) : wrap64 (2 + (Q : Int)) = (Z : Int) := by
  have h1 : M = Q := by rw [hm]; exact Nat.max_eq_right (by omega)
  subst hz
  rw [h1]
  unfold wrap64
  omega
set_option maxRecDepth 20000 in
set_option maxHeartbeats 16000000 in
theorem verifyChain_any (six : Bool) (n0 b0 : Int) (w : World) (hn0 : -9223372036854775808 ≤ n0) (hn1 : n0 ≤ 9223372036854775807) (hb0 : -9223372036854775808 ≤ b0) (hb1 : b0 ≤ 9223372036854775807) :
    Calls Try.prog 4 #[.bool six, .int .i64 n0, .int .i64 b0] w fun e w' => e = .returned (.bool true) ∧ Below w.heap.size w w' := by
  obtain ⟨i0, ji, jz0, jz1, jz2⟩ := info13 Try.infoB13
  have K0 := known18 w
  obtain ⟨r, hr⟩ : ∃ r : Nat, (r : Int) = 1 + n0 % 140 := ⟨(1 + n0 % 140).toNat, by omega⟩
  obtain ⟨b, hb⟩ : ∃ b : Nat, (b : Int) = 1 + b0 % 8 := ⟨(1 + b0 % 8).toNat, by omega⟩
  have hr1 : 1 ≤ r ∧ r ≤ 140 := by omega
  have hb2 : 1 ≤ b ∧ b ≤ 8 := by omega
  have wr1 : IntKind.i64.wrap (1 + n0 % 140) = (r : Int) := by rw [IntKind.wrap_i64]; omega
  have wb1 : IntKind.i64.wrap (1 + b0 % 8) = (b : Int) := by rw [IntKind.wrap_i64]; omega
  have HR := hid13 (And.intro hr1 hb2)
  have K1 := fun W => within18 n0 140 W (by decide) (by decide)
  have K2 := fun W => within18 b0 8 W (by decide) (by decide)
  obtain ⟨P, hP⟩ : ∃ P : Nat, P = 2 ^ b := ⟨_, rfl⟩
  have sh := sh64 b (by omega)
  rw [← hP] at sh
  obtain ⟨Q, hQ⟩ : ∃ Q : Nat, Q = P / 32 := ⟨_, rfl⟩
  have q32 : (P : Int) / 32 = (Q : Int) := by omega
  obtain ⟨M, hM⟩ : ∃ M : Nat, M = mwN b := ⟨_, rfl⟩
  have hM1 : 1 ≤ M := by rw [hM]; exact mwN_lo b
  have hM2 : M ≤ 8 := by
    have : ∀ b : Fin 9, mwN b.val ≤ 8 := by decide +kernel
    rw [hM]; exact this ⟨b, by omega⟩
  have hmq : M = max 1 Q := by
    have h1 := mwN_max b (by omega)
    rw [← hP, ← hQ, ← hM] at h1
    exact h1
  have hQ8 : Q ≤ 8 := by
    have h1 : Q ≤ max 1 Q := Nat.le_max_right 1 Q
    rw [← hmq] at h1
    exact Nat.le_trans h1 hM2
  have wq := wqL Q hQ8
  obtain ⟨Z, hZ⟩ : ∃ Z : Nat, Z = M + 2 := ⟨_, rfl⟩
  have h3z : (Q : Int) ≤ 1 → wrap64 3 = (Z : Int) := h3L Q M Z hmq hZ
  have h4z : (1 : Int) < (Q : Int) → wrap64 (2 + (Q : Int)) = (Z : Int) := h4L Q M Z hmq hZ hQ8
  have wz : IntKind.i64.wrap (2 + (M : Int)) = (Z : Int) := by rw [IntKind.wrap_i64]; omega
  have wz2 : IntKind.i64.wrap ((Z : Int) - 2) = (M : Int) := by rw [IntKind.wrap_i64]; omega
  have wz3 : IntKind.i64.wrap ((Z : Int) + 2) = ((Z + 2 : Nat) : Int) := by rw [IntKind.wrap_i64]; omega
  have hcv : IntKind.u8.wrap (b : Int) = (b : Int) := by simp [IntKind.wrap, IntKind.bits, IntKind.signed]; omega
  have HZ : Hid (Z = M + 2 ∧ M = mwN b ∧ 1 ≤ M ∧ M ≤ 8 ∧ szC b = Z + 2) := ⟨hZ, hM, hM1, hM2, by unfold szC; omega⟩
  clear hn0 hn1 hb0 hb1 hr hb hr1 hb2 hP hQ hM hM1 hM2 hZ hmq wz hQ8
  cases six with
  | false =>
    go_enter Try.func4, Try.ntmps4
    go_wp2_with fail
    refine K0.mono ?_
    rintro e W0 ⟨rfl, hb0⟩
    have HB0 := hid13 hb0
    clear K0 hb0
    go_wp2_with fail
    obtain ⟨F, hFd, hF⟩ : ∃ F : Nat, (F : Int) = 32 ∧ (F = 32 ∨ F = 128) := ⟨32, rfl, .inl rfl⟩
    rw [← hFd]
    clear hFd
    have HF := hid13 hF
    clear hF
    refine (K1 _).mono ?_
    rintro e W1 ⟨rfl, hw1⟩
    replace hw1 := hw1.symm
    subst hw1
    clear K1
    go_wp2_with fail
    refine (K2 _).mono ?_
    rintro e W2 ⟨rfl, hw2⟩
    replace hw2 := hw2.symm
    subst hw2
    clear K2
    have HB00 := HB0
    by_cases hQ1 : (Q : Int) ≤ 1
    · have h3 : wrap64 3 = (Z : Int) := h3z hQ1
      clear h4z h3z
      go_wp2_with fail
      rw [show Value.int .i64 3 = Value.int .i64 (Z : Int) from congrArg (Value.int .i64) (show (3 : Int) = (Z : Int) by have h9 := h3; unfold wrap64 at h9; omega)]
      clear wr1 wb1 hQ1 h3
      have HC0 : Hid (ChS b r 0 []) := by
        have := HR.out.1
        exact .inl ⟨by omega, rfl⟩
      have HO0 : Hid (W0.ownsRow w.heap.size 5 1 (.slice none 0 0) ([] : List Nat).length (([] : List Nat).map cB)) := World.ownsRow_nil _ _ _ _
      go_loopw [8, 9, 11] (fun wv bv iv wr => ∃ (i : Nat) (wz : Int) (L : List Nat), i ≤ r ∧ iv = .int .i64 i ∧ wv = .int .i64 wz ∧ Hid (ChS b r i L) ∧ Hid (wr.ownsRow w.heap.size 5 1 bv L.length (L.map cB)) ∧ Hid (Below w.heap.size w wr)) (fun wv bv iv _ => r - (intOf iv).toNat)
      case atStart => exact ⟨0, 0, [], Nat.zero_le _, rfl, rfl, HC0, HO0, HB0⟩
      case round =>
        clear HC0 HO0 HB0 HB00 sh q32 wq
        obtain ⟨i, wz9, L, hi, rfl, rfl, HC, HO, HB⟩ := hrel
        by_cases hlt : (i : Int) < (r : Int)
        · have hi1 : IntKind.i64.wrap ((i : Int) + 1) = ((i + 1 : Nat) : Int) := by rw [IntKind.wrap_i64]; have := HR.out; omega
          have HLn : Hid (L.length ≤ 20000) := by
            have h1 := HC.out.len
            have h2 := HZ.out
            have h3 := HR.out
            have h4 : szC b * i ≤ 12 * 140 := Nat.mul_le_mul (by omega) (by omega)
            show L.length ≤ 20000
            omega
          obtain ⟨wo, hwo⟩ : ∃ wo : World, wo = wr := ⟨_, rfl⟩
          rw [← hwo] at HO HB ⊢
          clear hwo
          obtain ⟨ao, cp, hbv⟩ := own_form HO.out
          subst hbv
          have q1 := bl1 wo (.cells #[.int .u8 1, .int .u8 0, .int .u8 0, .int .u8 (b : Int), .int .u8 2, .int .u8 0, .int .u8 0, .int .u8 (b : Int), .int .u8 192, .int .u8 0, .int .u8 0, .int .u8 0] 5)
          have s1 := lit_own18 (w := wo) w.heap.size #[.int .u8 1, .int .u8 0, .int .u8 0, .int .u8 (b : Int), .int .u8 2, .int .u8 0, .int .u8 0, .int .u8 (b : Int), .int .u8 192, .int .u8 0, .int .u8 0, .int .u8 0] [1, 0, 0, b, 2, 0, 0, b, 192, 0, 0, 0] HB.out.size rfl (by simp) 12 rfl
          have HO1 := hid13 (own_b13 q1 HO.out)
          have HS1 := hid13 (own_rowA s1)
          have HB1 := hid13 (keepb q1 HB.out)
          clear q1 s1
          go_wp2_with (at_builtin; apply stopHere9)
          refine (show wpList _ _ _ _ _ _ from ?_)
          refine wpList_append_rowA rfl _ _ 25 rfl w.heap.size 5 i0 (.int .u8 0) 1 1 Try.underlying25 ji jz0 jz1 jz2 rfl (by decide) _ (L).length ((L).map cB) rfl HO1.out _ 12 ([1, 0, 0, b, 2, 0, 0, b, 192, 0, 0, 0].map cB) rfl HS1.out (cB_one _) (by have := HLn.out; unfold maxLen; omega) (by have := HLn.out; omega) HB1.out.size ?_
          intro ao1 cp1 W1 hO1 hg1
          have HBn1 : Hid (Below w.heap.size w W1) := HB1.out.grown hg1 HB1.out.size (fun z hz => (HO1.out.lt z hz).1)
          have HO2 : Hid (W1.ownsRow w.heap.size 5 1 (.slice ao1 (L.length + 12) cp1) (L ++ [1, 0, 0, b, 2, 0, 0, b, 192, 0, 0, 0] ++ List.replicate (4 * (1 - 1)) 0).length ((L ++ [1, 0, 0, b, 2, 0, 0, b, 192, 0, 0, 0] ++ List.replicate (4 * (1 - 1)) 0).map cB)) := by
            refine hid13 ?_
            have h1 := hO1
            rw [← List.map_append] at h1
            simpa using h1
          clear hO1 hg1 HO1 HS1 HB1 HO HB hcv
          go_wp2_with fail
          go_loopw [9, 12] (fun bv kv wr => ∃ (k : Nat), 1 ≤ k ∧ k ≤ M ∧ kv = .int .i64 k ∧ Hid (wr.ownsRow w.heap.size 5 1 bv (L ++ [1, 0, 0, b, 2, 0, 0, b, 192, 0, 0, 0] ++ List.replicate (4 * (k - 1)) 0).length ((L ++ [1, 0, 0, b, 2, 0, 0, b, 192, 0, 0, 0] ++ List.replicate (4 * (k - 1)) 0).map cB)) ∧ Hid (Below w.heap.size w wr)) (fun bv kv _ => M - (intOf kv).toNat)
          case atStart => exact ⟨1, Nat.le_refl _, HZ.out.2.2.1, rfl, HO2, HBn1⟩
          case round =>
            clear HO2 HBn1
            obtain ⟨k, hk1, hk2, rfl, HO, HB⟩ := hrel
            obtain ⟨X, hX⟩ : ∃ X, X = L ++ [1, 0, 0, b, 2, 0, 0, b, 192, 0, 0, 0] ++ List.replicate (4 * (k - 1)) 0 := ⟨_, rfl⟩
            rw [← hX] at HO
            have HXl : Hid (X.length ≤ 20100) := by
              have h1 := HLn.out
              have h2 := HZ.out
              rw [hX]
              show _ ≤ _
              simp only [List.length_append, List.length_replicate, List.length_cons, List.length_nil]
              omega
            have HX := hid13 hX
            clear hX
            obtain ⟨ao, cp, hbv⟩ := own_form HO.out
            subst hbv
            by_cases hkl : (k : Int) < (M : Int)
            · have hk3 : IntKind.i64.wrap ((k : Int) + 1) = ((k + 1 : Nat) : Int) := by rw [IntKind.wrap_i64]; have := HZ.out; omega
              have HLk : Hid (k ≤ 8) := hid13 (by have := HZ.out; omega)
              have q2 := bl1 wr (.cells #[.int .u8 0, .int .u8 0, .int .u8 0, .int .u8 0] 5)
              have s2 := lit_own18 (w := wr) w.heap.size #[.int .u8 0, .int .u8 0, .int .u8 0, .int .u8 0] [0, 0, 0, 0] HB.out.size rfl (by simp) 4 rfl
              have HO2 := hid13 (own_b13 q2 HO.out)
              have HS2 := hid13 (own_rowA s2)
              have HB2 := hid13 (keepb q2 HB.out)
              clear q2 s2
              go_wp2_with (at_builtin; apply stopHere9)
              refine (show wpList _ _ _ _ _ _ from ?_)
              refine wpList_append_rowA rfl _ _ 25 rfl w.heap.size 5 i0 (.int .u8 0) 1 1 Try.underlying25 ji jz0 jz1 jz2 rfl (by decide) _ (X).length ((X).map cB) rfl HO2.out _ 4 ([0, 0, 0, 0].map cB) rfl HS2.out (cB_one _) (by have := HXl.out; unfold maxLen; omega) (by have := HXl.out; omega) HB2.out.size ?_
              intro ao2 cp2 W2 hO2 hg2
              have HBn2 : Hid (Below w.heap.size w W2) := HB2.out.grown hg2 HB2.out.size (fun z hz => (HO2.out.lt z hz).1)
              have HO3 : Hid (W2.ownsRow w.heap.size 5 1 (.slice ao2 (X.length + 4) cp2) (L ++ [1, 0, 0, b, 2, 0, 0, b, 192, 0, 0, 0] ++ List.replicate (4 * (k + 1 - 1)) 0).length ((L ++ [1, 0, 0, b, 2, 0, 0, b, 192, 0, 0, 0] ++ List.replicate (4 * (k + 1 - 1)) 0).map cB)) := by
                have h1 := hO2
                rw [← List.map_append] at h1
                have e : L ++ [1, 0, 0, b, 2, 0, 0, b, 192, 0, 0, 0] ++ List.replicate (4 * (k + 1 - 1)) 0 = X ++ [0, 0, 0, 0] := by
                  rw [HX.out, show 4 * (k + 1 - 1) = 4 * (k - 1) + 4 by omega, ← List.replicate_append_replicate, ← List.append_assoc]; rfl
                rw [e, List.length_append]
                exact h1
              clear hO2 hg2 HO2 HS2 HB2 HO HB
              go_wp2
              go_roundw
              case rel => exact ⟨k + 1, by omega, by omega, by push_cast; rfl, HO3, HBn2⟩
              case measure => simp only [intOf]; omega
            · obtain rfl : k = M := by omega
              have HLk : Hid (k ≤ 8) := hid13 (by have := HZ.out; omega)
              by_cases hil : (i : Int) + 1 < (r : Int)
              · have HC2 := hid13 (HC.out.mid (by omega) HR.out.2.1 HR.out.2.2)
                have q3 := bl1 wr (.cells #[.int .u8 3, .int .u8 0, .int .u8 0, .int .u8 2, .int .u8 4, .int .u8 0, .int .u8 0, .int .u8 7] 5)
                have s3 := lit_own18 (w := wr) w.heap.size #[.int .u8 3, .int .u8 0, .int .u8 0, .int .u8 2, .int .u8 4, .int .u8 0, .int .u8 0, .int .u8 7] [3, 0, 0, 2, 4, 0, 0, 7] HB.out.size rfl (by simp) 8 rfl
                have HO3 := hid13 (own_b13 q3 HO.out)
                have HS3 := hid13 (own_rowA s3)
                have HB3 := hid13 (keepb q3 HB.out)
                clear q3 s3
                go_wp2_with (at_builtin; apply stopHere9)
                refine (show wpList _ _ _ _ _ _ from ?_)
                refine wpList_append_rowA rfl _ _ 25 rfl w.heap.size 5 i0 (.int .u8 0) 1 1 Try.underlying25 ji jz0 jz1 jz2 rfl (by decide) _ (X).length ((X).map cB) rfl HO3.out _ 8 ([3, 0, 0, 2, 4, 0, 0, 7].map cB) rfl HS3.out (cB_one _) (by have := HXl.out; unfold maxLen; omega) (by have := HXl.out; omega) HB3.out.size ?_
                intro ao3 cp3 W3 hO3 hg3
                have HBn3 : Hid (Below w.heap.size w W3) := HB3.out.grown hg3 HB3.out.size (fun z hz => (HO3.out.lt z hz).1)
                have HO9 : Hid (W3.ownsRow w.heap.size 5 1 (.slice ao3 (X.length + 8) cp3) (L ++ [1, 0, 0, b, 2, 0, 0, b, 192, 0, 0, 0] ++ List.replicate (4 * (mwN b - 1)) 0 ++ [3, 0, 0, 2, 4, 0, 0, 7]).length ((L ++ [1, 0, 0, b, 2, 0, 0, b, 192, 0, 0, 0] ++ List.replicate (4 * (mwN b - 1)) 0 ++ [3, 0, 0, 2, 4, 0, 0, 7]).map cB)) := by
                  have h1 := hO3
                  rw [← List.map_append] at h1
                  have e : L ++ [1, 0, 0, b, 2, 0, 0, b, 192, 0, 0, 0] ++ List.replicate (4 * (mwN b - 1)) 0 ++ [3, 0, 0, 2, 4, 0, 0, 7] = X ++ [3, 0, 0, 2, 4, 0, 0, 7] := by rw [HX.out, HZ.out.2.1]
                  rw [e, List.length_append]
                  exact h1
                clear hO3 hg3 HO3 HS3 HB3 HO HB HC
                go_wp2
                go_roundw
                case rel => exact ⟨i + 1, _, _, by omega, by push_cast; rfl, rfl, HC2, HO9, HBn3⟩
                case measure => simp only [intOf]; omega
              · have HC2 := hid13 (HC.out.last (by omega) HR.out.2.1 HR.out.2.2)
                have q4 := bl1 wr (.cells #[.int .u8 4, .int .u8 0, .int .u8 0, .int .u8 9, .int .u8 4, .int .u8 0, .int .u8 0, .int .u8 7] 5)
                have s4 := lit_own18 (w := wr) w.heap.size #[.int .u8 4, .int .u8 0, .int .u8 0, .int .u8 9, .int .u8 4, .int .u8 0, .int .u8 0, .int .u8 7] [4, 0, 0, 9, 4, 0, 0, 7] HB.out.size rfl (by simp) 8 rfl
                have HO4 := hid13 (own_b13 q4 HO.out)
                have HS4 := hid13 (own_rowA s4)
                have HB4 := hid13 (keepb q4 HB.out)
                clear q4 s4
                go_wp2_with (at_builtin; apply stopHere9)
                refine (show wpList _ _ _ _ _ _ from ?_)
                refine wpList_append_rowA rfl _ _ 25 rfl w.heap.size 5 i0 (.int .u8 0) 1 1 Try.underlying25 ji jz0 jz1 jz2 rfl (by decide) _ (X).length ((X).map cB) rfl HO4.out _ 8 ([4, 0, 0, 9, 4, 0, 0, 7].map cB) rfl HS4.out (cB_one _) (by have := HXl.out; unfold maxLen; omega) (by have := HXl.out; omega) HB4.out.size ?_
                intro ao4 cp4 W4 hO4 hg4
                have HBn4 : Hid (Below w.heap.size w W4) := HB4.out.grown hg4 HB4.out.size (fun z hz => (HO4.out.lt z hz).1)
                have HO9 : Hid (W4.ownsRow w.heap.size 5 1 (.slice ao4 (X.length + 8) cp4) (L ++ [1, 0, 0, b, 2, 0, 0, b, 192, 0, 0, 0] ++ List.replicate (4 * (mwN b - 1)) 0 ++ [4, 0, 0, 9, 4, 0, 0, 7]).length ((L ++ [1, 0, 0, b, 2, 0, 0, b, 192, 0, 0, 0] ++ List.replicate (4 * (mwN b - 1)) 0 ++ [4, 0, 0, 9, 4, 0, 0, 7]).map cB)) := by
                  have h1 := hO4
                  rw [← List.map_append] at h1
                  have e : L ++ [1, 0, 0, b, 2, 0, 0, b, 192, 0, 0, 0] ++ List.replicate (4 * (mwN b - 1)) 0 ++ [4, 0, 0, 9, 4, 0, 0, 7] = X ++ [4, 0, 0, 9, 4, 0, 0, 7] := by rw [HX.out, HZ.out.2.1]
                  rw [e, List.length_append]
                  exact h1
                clear hO4 hg4 HO4 HS4 HB4 HO HB HC
                go_wp2
                go_roundw
                case rel => exact ⟨i + 1, _, _, by omega, by push_cast; rfl, rfl, HC2, HO9, HBn4⟩
                case measure => simp only [intOf]; omega
        · have hir : i = r := by omega
          have HLe : Hid (L = chR b r) := by
            rcases HC.out with ⟨h1, -⟩ | ⟨-, h2⟩
            · omega
            · exact h2
          have KV := vcode18 wr (F : Int) _ L (own_rwx HO.out) (by
            have h1 := HC.out.len
            have h2 := HZ.out
            have h3 := HR.out
            have h4 : szC b * i ≤ 12 * 140 := Nat.mul_le_mul (by omega) (by omega)
            omega) (by rw [HLe.out]; exact chR_lt b HR.out.2.2 r)
          have hv := vf_chain F b r HF.out HR.out.2.1 HR.out.2.2 HR.out.1.1
          rw [← HLe.out] at hv
          have wm : IntKind.i64.wrap ((r : Int) * (b : Int)) = ((r * b : Nat) : Int) := by
            have h1 : r * b ≤ 140 * 8 := Nat.mul_le_mul HR.out.1.2 HR.out.2.2
            rw [IntKind.wrap_i64]; push_cast at *; omega
          by_cases hc : r * b ≤ F
          · rw [if_pos hc] at hv
            rw [hv] at KV
            dsimp only at KV
            have hc2 : ((r * b : Nat) : Int) ≤ (F : Int) := by omega
            generalize ((r * b : Nat) : Int) = rb at wm hc2
            clear hv hc
            go_wp2_with fail
            refine KV.mono ?_
            rintro e W5 ⟨rfl, hb5⟩
            have HB5 : Hid (Below w.heap.size w W5) := HB.out.trans (hb5.mono HB.out.size)
            clear KV hb5 HB
            go_wp2
            go_ret
            exact ⟨rfl, HB5.out⟩
          · rw [if_neg hc] at hv
            rw [hv] at KV
            dsimp only at KV
            have hc2 : ¬ ((r * b : Nat) : Int) ≤ (F : Int) := by omega
            have hc3 : (F : Int) < ((r * b : Nat) : Int) := by omega
            generalize ((r * b : Nat) : Int) = rb at wm hc2 hc3
            obtain ⟨K, hK⟩ : ∃ K : Nat, K = F / b := ⟨_, rfl⟩
            have hd1 : (F : Int) / (b : Int) = (K : Int) := by rw [hK]; exact (Int.natCast_ediv F b).symm
            have hd2 : (F : Int).tdiv (b : Int) = (K : Int) := by rw [Int.tdiv_eq_ediv_of_nonneg (by omega)]; exact hd1
            have hKF : K ≤ 128 := by rw [hK]; have := Nat.div_le_self F b; have := HF.out; omega
            have hb0 : ¬ (b : Int) = 0 := by have := HR.out; omega
            have hbz : ((b : Int) == 0) = false := by simpa using hb0
            have hbz2 : ¬ b = 0 := by omega
            have wk : IntKind.i64.wrap (K : Int) = (K : Int) := by rw [IntKind.wrap_i64]; omega
            obtain ⟨T9, hT⟩ : ∃ T9 : Nat, T9 = K * (Z + 2) := ⟨_, rfl⟩
            have wt : IntKind.i64.wrap ((K : Int) * ((Z + 2 : Nat) : Int)) = (T9 : Int) := by
              have h1 : K * (Z + 2) ≤ 128 * 12 := Nat.mul_le_mul hKF (by have := HZ.out; omega)
              rw [← Int.natCast_mul, ← hT, IntKind.wrap_i64]; omega
            rw [← hK, HZ.out.2.2.2.2, ← hT] at KV
            generalize ((Z + 2 : Nat) : Int) = Z2 at wz3 wt
            clear hv hc hK hT hKF
            go_wp2_with fail
            refine KV.mono ?_
            rintro e W5 ⟨rfl, hb5⟩
            have HB5 : Hid (Below w.heap.size w W5) := HB.out.trans (hb5.mono HB.out.size)
            clear KV hb5 HB
            go_wp2
            go_ret
            exact ⟨rfl, HB5.out⟩
    · have hQ2 : (1 : Int) < (Q : Int) := by omega
      have h4 : wrap64 (2 + (Q : Int)) = (Z : Int) := h4z hQ2
      clear h4z h3z hQ1
      go_wp2_with fail
      rw [h4]
      clear wr1 wb1 hQ2 h4
      have HC0 : Hid (ChS b r 0 []) := by
        have := HR.out.1
        exact .inl ⟨by omega, rfl⟩
      have HO0 : Hid (W0.ownsRow w.heap.size 5 1 (.slice none 0 0) ([] : List Nat).length (([] : List Nat).map cB)) := World.ownsRow_nil _ _ _ _
      go_loopw [8, 9, 11] (fun wv bv iv wr => ∃ (i : Nat) (wz : Int) (L : List Nat), i ≤ r ∧ iv = .int .i64 i ∧ wv = .int .i64 wz ∧ Hid (ChS b r i L) ∧ Hid (wr.ownsRow w.heap.size 5 1 bv L.length (L.map cB)) ∧ Hid (Below w.heap.size w wr)) (fun wv bv iv _ => r - (intOf iv).toNat)
      case atStart => exact ⟨0, 0, [], Nat.zero_le _, rfl, rfl, HC0, HO0, HB0⟩
      case round =>
        clear HC0 HO0 HB0 HB00 sh q32 wq
        obtain ⟨i, wz9, L, hi, rfl, rfl, HC, HO, HB⟩ := hrel
        by_cases hlt : (i : Int) < (r : Int)
        · have hi1 : IntKind.i64.wrap ((i : Int) + 1) = ((i + 1 : Nat) : Int) := by rw [IntKind.wrap_i64]; have := HR.out; omega
          have HLn : Hid (L.length ≤ 20000) := by
            have h1 := HC.out.len
            have h2 := HZ.out
            have h3 := HR.out
            have h4 : szC b * i ≤ 12 * 140 := Nat.mul_le_mul (by omega) (by omega)
            show L.length ≤ 20000
            omega
          obtain ⟨wo, hwo⟩ : ∃ wo : World, wo = wr := ⟨_, rfl⟩
          rw [← hwo] at HO HB ⊢
          clear hwo
          obtain ⟨ao, cp, hbv⟩ := own_form HO.out
          subst hbv
          have q1 := bl1 wo (.cells #[.int .u8 1, .int .u8 0, .int .u8 0, .int .u8 (b : Int), .int .u8 2, .int .u8 0, .int .u8 0, .int .u8 (b : Int), .int .u8 192, .int .u8 0, .int .u8 0, .int .u8 0] 5)
          have s1 := lit_own18 (w := wo) w.heap.size #[.int .u8 1, .int .u8 0, .int .u8 0, .int .u8 (b : Int), .int .u8 2, .int .u8 0, .int .u8 0, .int .u8 (b : Int), .int .u8 192, .int .u8 0, .int .u8 0, .int .u8 0] [1, 0, 0, b, 2, 0, 0, b, 192, 0, 0, 0] HB.out.size rfl (by simp) 12 rfl
          have HO1 := hid13 (own_b13 q1 HO.out)
          have HS1 := hid13 (own_rowA s1)
          have HB1 := hid13 (keepb q1 HB.out)
          clear q1 s1
          go_wp2_with (at_builtin; apply stopHere9)
          refine (show wpList _ _ _ _ _ _ from ?_)
          refine wpList_append_rowA rfl _ _ 25 rfl w.heap.size 5 i0 (.int .u8 0) 1 1 Try.underlying25 ji jz0 jz1 jz2 rfl (by decide) _ (L).length ((L).map cB) rfl HO1.out _ 12 ([1, 0, 0, b, 2, 0, 0, b, 192, 0, 0, 0].map cB) rfl HS1.out (cB_one _) (by have := HLn.out; unfold maxLen; omega) (by have := HLn.out; omega) HB1.out.size ?_
          intro ao1 cp1 W1 hO1 hg1
          have HBn1 : Hid (Below w.heap.size w W1) := HB1.out.grown hg1 HB1.out.size (fun z hz => (HO1.out.lt z hz).1)
          have HO2 : Hid (W1.ownsRow w.heap.size 5 1 (.slice ao1 (L.length + 12) cp1) (L ++ [1, 0, 0, b, 2, 0, 0, b, 192, 0, 0, 0] ++ List.replicate (4 * (1 - 1)) 0).length ((L ++ [1, 0, 0, b, 2, 0, 0, b, 192, 0, 0, 0] ++ List.replicate (4 * (1 - 1)) 0).map cB)) := by
            refine hid13 ?_
            have h1 := hO1
            rw [← List.map_append] at h1
            simpa using h1
          clear hO1 hg1 HO1 HS1 HB1 HO HB hcv
          go_wp2_with fail
          go_loopw [9, 12] (fun bv kv wr => ∃ (k : Nat), 1 ≤ k ∧ k ≤ M ∧ kv = .int .i64 k ∧ Hid (wr.ownsRow w.heap.size 5 1 bv (L ++ [1, 0, 0, b, 2, 0, 0, b, 192, 0, 0, 0] ++ List.replicate (4 * (k - 1)) 0).length ((L ++ [1, 0, 0, b, 2, 0, 0, b, 192, 0, 0, 0] ++ List.replicate (4 * (k - 1)) 0).map cB)) ∧ Hid (Below w.heap.size w wr)) (fun bv kv _ => M - (intOf kv).toNat)
          case atStart => exact ⟨1, Nat.le_refl _, HZ.out.2.2.1, rfl, HO2, HBn1⟩
          case round =>
            clear HO2 HBn1
            obtain ⟨k, hk1, hk2, rfl, HO, HB⟩ := hrel
            obtain ⟨X, hX⟩ : ∃ X, X = L ++ [1, 0, 0, b, 2, 0, 0, b, 192, 0, 0, 0] ++ List.replicate (4 * (k - 1)) 0 := ⟨_, rfl⟩
            rw [← hX] at HO
            have HXl : Hid (X.length ≤ 20100) := by
              have h1 := HLn.out
              have h2 := HZ.out
              rw [hX]
              show _ ≤ _
              simp only [List.length_append, List.length_replicate, List.length_cons, List.length_nil]
              omega
            have HX := hid13 hX
            clear hX
            obtain ⟨ao, cp, hbv⟩ := own_form HO.out
            subst hbv
            by_cases hkl : (k : Int) < (M : Int)
            · have hk3 : IntKind.i64.wrap ((k : Int) + 1) = ((k + 1 : Nat) : Int) := by rw [IntKind.wrap_i64]; have := HZ.out; omega
              have HLk : Hid (k ≤ 8) := hid13 (by have := HZ.out; omega)
              have q2 := bl1 wr (.cells #[.int .u8 0, .int .u8 0, .int .u8 0, .int .u8 0] 5)
              have s2 := lit_own18 (w := wr) w.heap.size #[.int .u8 0, .int .u8 0, .int .u8 0, .int .u8 0] [0, 0, 0, 0] HB.out.size rfl (by simp) 4 rfl
              have HO2 := hid13 (own_b13 q2 HO.out)
              have HS2 := hid13 (own_rowA s2)
              have HB2 := hid13 (keepb q2 HB.out)
              clear q2 s2
              go_wp2_with (at_builtin; apply stopHere9)
              refine (show wpList _ _ _ _ _ _ from ?_)
              refine wpList_append_rowA rfl _ _ 25 rfl w.heap.size 5 i0 (.int .u8 0) 1 1 Try.underlying25 ji jz0 jz1 jz2 rfl (by decide) _ (X).length ((X).map cB) rfl HO2.out _ 4 ([0, 0, 0, 0].map cB) rfl HS2.out (cB_one _) (by have := HXl.out; unfold maxLen; omega) (by have := HXl.out; omega) HB2.out.size ?_
              intro ao2 cp2 W2 hO2 hg2
              have HBn2 : Hid (Below w.heap.size w W2) := HB2.out.grown hg2 HB2.out.size (fun z hz => (HO2.out.lt z hz).1)
              have HO3 : Hid (W2.ownsRow w.heap.size 5 1 (.slice ao2 (X.length + 4) cp2) (L ++ [1, 0, 0, b, 2, 0, 0, b, 192, 0, 0, 0] ++ List.replicate (4 * (k + 1 - 1)) 0).length ((L ++ [1, 0, 0, b, 2, 0, 0, b, 192, 0, 0, 0] ++ List.replicate (4 * (k + 1 - 1)) 0).map cB)) := by
                have h1 := hO2
                rw [← List.map_append] at h1
                have e : L ++ [1, 0, 0, b, 2, 0, 0, b, 192, 0, 0, 0] ++ List.replicate (4 * (k + 1 - 1)) 0 = X ++ [0, 0, 0, 0] := by
                  rw [HX.out, show 4 * (k + 1 - 1) = 4 * (k - 1) + 4 by omega, ← List.replicate_append_replicate, ← List.append_assoc]; rfl
                rw [e, List.length_append]
                exact h1
              clear hO2 hg2 HO2 HS2 HB2 HO HB
              go_wp2
              go_roundw
              case rel => exact ⟨k + 1, by omega, by omega, by push_cast; rfl, HO3, HBn2⟩
              case measure => simp only [intOf]; omega
            · obtain rfl : k = M := by omega
              have HLk : Hid (k ≤ 8) := hid13 (by have := HZ.out; omega)
              by_cases hil : (i : Int) + 1 < (r : Int)
              · have HC2 := hid13 (HC.out.mid (by omega) HR.out.2.1 HR.out.2.2)
                have q3 := bl1 wr (.cells #[.int .u8 3, .int .u8 0, .int .u8 0, .int .u8 2, .int .u8 4, .int .u8 0, .int .u8 0, .int .u8 7] 5)
                have s3 := lit_own18 (w := wr) w.heap.size #[.int .u8 3, .int .u8 0, .int .u8 0, .int .u8 2, .int .u8 4, .int .u8 0, .int .u8 0, .int .u8 7] [3, 0, 0, 2, 4, 0, 0, 7] HB.out.size rfl (by simp) 8 rfl
                have HO3 := hid13 (own_b13 q3 HO.out)
                have HS3 := hid13 (own_rowA s3)
                have HB3 := hid13 (keepb q3 HB.out)
                clear q3 s3
                go_wp2_with (at_builtin; apply stopHere9)
                refine (show wpList _ _ _ _ _ _ from ?_)
                refine wpList_append_rowA rfl _ _ 25 rfl w.heap.size 5 i0 (.int .u8 0) 1 1 Try.underlying25 ji jz0 jz1 jz2 rfl (by decide) _ (X).length ((X).map cB) rfl HO3.out _ 8 ([3, 0, 0, 2, 4, 0, 0, 7].map cB) rfl HS3.out (cB_one _) (by have := HXl.out; unfold maxLen; omega) (by have := HXl.out; omega) HB3.out.size ?_
                intro ao3 cp3 W3 hO3 hg3
                have HBn3 : Hid (Below w.heap.size w W3) := HB3.out.grown hg3 HB3.out.size (fun z hz => (HO3.out.lt z hz).1)
                have HO9 : Hid (W3.ownsRow w.heap.size 5 1 (.slice ao3 (X.length + 8) cp3) (L ++ [1, 0, 0, b, 2, 0, 0, b, 192, 0, 0, 0] ++ List.replicate (4 * (mwN b - 1)) 0 ++ [3, 0, 0, 2, 4, 0, 0, 7]).length ((L ++ [1, 0, 0, b, 2, 0, 0, b, 192, 0, 0, 0] ++ List.replicate (4 * (mwN b - 1)) 0 ++ [3, 0, 0, 2, 4, 0, 0, 7]).map cB)) := by
                  have h1 := hO3
                  rw [← List.map_append] at h1
                  have e : L ++ [1, 0, 0, b, 2, 0, 0, b, 192, 0, 0, 0] ++ List.replicate (4 * (mwN b - 1)) 0 ++ [3, 0, 0, 2, 4, 0, 0, 7] = X ++ [3, 0, 0, 2, 4, 0, 0, 7] := by rw [HX.out, HZ.out.2.1]
                  rw [e, List.length_append]
                  exact h1
                clear hO3 hg3 HO3 HS3 HB3 HO HB HC
                go_wp2
                go_roundw
                case rel => exact ⟨i + 1, _, _, by omega, by push_cast; rfl, rfl, HC2, HO9, HBn3⟩
                case measure => simp only [intOf]; omega
              · have HC2 := hid13 (HC.out.last (by omega) HR.out.2.1 HR.out.2.2)
                have q4 := bl1 wr (.cells #[.int .u8 4, .int .u8 0, .int .u8 0, .int .u8 9, .int .u8 4, .int .u8 0, .int .u8 0, .int .u8 7] 5)
                have s4 := lit_own18 (w := wr) w.heap.size #[.int .u8 4, .int .u8 0, .int .u8 0, .int .u8 9, .int .u8 4, .int .u8 0, .int .u8 0, .int .u8 7] [4, 0, 0, 9, 4, 0, 0, 7] HB.out.size rfl (by simp) 8 rfl
                have HO4 := hid13 (own_b13 q4 HO.out)
                have HS4 := hid13 (own_rowA s4)
                have HB4 := hid13 (keepb q4 HB.out)
                clear q4 s4
                go_wp2_with (at_builtin; apply stopHere9)
                refine (show wpList _ _ _ _ _ _ from ?_)
                refine wpList_append_rowA rfl _ _ 25 rfl w.heap.size 5 i0 (.int .u8 0) 1 1 Try.underlying25 ji jz0 jz1 jz2 rfl (by decide) _ (X).length ((X).map cB) rfl HO4.out _ 8 ([4, 0, 0, 9, 4, 0, 0, 7].map cB) rfl HS4.out (cB_one _) (by have := HXl.out; unfold maxLen; omega) (by have := HXl.out; omega) HB4.out.size ?_
                intro ao4 cp4 W4 hO4 hg4
                have HBn4 : Hid (Below w.heap.size w W4) := HB4.out.grown hg4 HB4.out.size (fun z hz => (HO4.out.lt z hz).1)
                have HO9 : Hid (W4.ownsRow w.heap.size 5 1 (.slice ao4 (X.length + 8) cp4) (L ++ [1, 0, 0, b, 2, 0, 0, b, 192, 0, 0, 0] ++ List.replicate (4 * (mwN b - 1)) 0 ++ [4, 0, 0, 9, 4, 0, 0, 7]).length ((L ++ [1, 0, 0, b, 2, 0, 0, b, 192, 0, 0, 0] ++ List.replicate (4 * (mwN b - 1)) 0 ++ [4, 0, 0, 9, 4, 0, 0, 7]).map cB)) := by
                  have h1 := hO4
                  rw [← List.map_append] at h1
                  have e : L ++ [1, 0, 0, b, 2, 0, 0, b, 192, 0, 0, 0] ++ List.replicate (4 * (mwN b - 1)) 0 ++ [4, 0, 0, 9, 4, 0, 0, 7] = X ++ [4, 0, 0, 9, 4, 0, 0, 7] := by rw [HX.out, HZ.out.2.1]
                  rw [e, List.length_append]
                  exact h1
                clear hO4 hg4 HO4 HS4 HB4 HO HB HC
                go_wp2
                go_roundw
                case rel => exact ⟨i + 1, _, _, by omega, by push_cast; rfl, rfl, HC2, HO9, HBn4⟩
                case measure => simp only [intOf]; omega
        · have hir : i = r := by omega
          have HLe : Hid (L = chR b r) := by
            rcases HC.out with ⟨h1, -⟩ | ⟨-, h2⟩
            · omega
            · exact h2
          have KV := vcode18 wr (F : Int) _ L (own_rwx HO.out) (by
            have h1 := HC.out.len
            have h2 := HZ.out
            have h3 := HR.out
            have h4 : szC b * i ≤ 12 * 140 := Nat.mul_le_mul (by omega) (by omega)
            omega) (by rw [HLe.out]; exact chR_lt b HR.out.2.2 r)
          have hv := vf_chain F b r HF.out HR.out.2.1 HR.out.2.2 HR.out.1.1
          rw [← HLe.out] at hv
          have wm : IntKind.i64.wrap ((r : Int) * (b : Int)) = ((r * b : Nat) : Int) := by
            have h1 : r * b ≤ 140 * 8 := Nat.mul_le_mul HR.out.1.2 HR.out.2.2
            rw [IntKind.wrap_i64]; push_cast at *; omega
          by_cases hc : r * b ≤ F
          · rw [if_pos hc] at hv
            rw [hv] at KV
            dsimp only at KV
            have hc2 : ((r * b : Nat) : Int) ≤ (F : Int) := by omega
            generalize ((r * b : Nat) : Int) = rb at wm hc2
            clear hv hc
            go_wp2_with fail
            refine KV.mono ?_
            rintro e W5 ⟨rfl, hb5⟩
            have HB5 : Hid (Below w.heap.size w W5) := HB.out.trans (hb5.mono HB.out.size)
            clear KV hb5 HB
            go_wp2
            go_ret
            exact ⟨rfl, HB5.out⟩
          · rw [if_neg hc] at hv
            rw [hv] at KV
            dsimp only at KV
            have hc2 : ¬ ((r * b : Nat) : Int) ≤ (F : Int) := by omega
            have hc3 : (F : Int) < ((r * b : Nat) : Int) := by omega
            generalize ((r * b : Nat) : Int) = rb at wm hc2 hc3
            obtain ⟨K, hK⟩ : ∃ K : Nat, K = F / b := ⟨_, rfl⟩
            have hd1 : (F : Int) / (b : Int) = (K : Int) := by rw [hK]; exact (Int.natCast_ediv F b).symm
            have hd2 : (F : Int).tdiv (b : Int) = (K : Int) := by rw [Int.tdiv_eq_ediv_of_nonneg (by omega)]; exact hd1
            have hKF : K ≤ 128 := by rw [hK]; have := Nat.div_le_self F b; have := HF.out; omega
            have hb0 : ¬ (b : Int) = 0 := by have := HR.out; omega
            have hbz : ((b : Int) == 0) = false := by simpa using hb0
            have hbz2 : ¬ b = 0 := by omega
            have wk : IntKind.i64.wrap (K : Int) = (K : Int) := by rw [IntKind.wrap_i64]; omega
            obtain ⟨T9, hT⟩ : ∃ T9 : Nat, T9 = K * (Z + 2) := ⟨_, rfl⟩
            have wt : IntKind.i64.wrap ((K : Int) * ((Z + 2 : Nat) : Int)) = (T9 : Int) := by
              have h1 : K * (Z + 2) ≤ 128 * 12 := Nat.mul_le_mul hKF (by have := HZ.out; omega)
              rw [← Int.natCast_mul, ← hT, IntKind.wrap_i64]; omega
            rw [← hK, HZ.out.2.2.2.2, ← hT] at KV
            generalize ((Z + 2 : Nat) : Int) = Z2 at wz3 wt
            clear hv hc hK hT hKF
            go_wp2_with fail
            refine KV.mono ?_
            rintro e W5 ⟨rfl, hb5⟩
            have HB5 : Hid (Below w.heap.size w W5) := HB.out.trans (hb5.mono HB.out.size)
            clear KV hb5 HB
            go_wp2
            go_ret
            exact ⟨rfl, HB5.out⟩
  | true =>
    go_enter Try.func4, Try.ntmps4
    go_wp2_with fail
    refine K0.mono ?_
    rintro e W0 ⟨rfl, hb0⟩
    have HB0 := hid13 hb0
    clear K0 hb0
    go_wp2_with fail
    obtain ⟨F, hFd, hF⟩ : ∃ F : Nat, (F : Int) = 128 ∧ (F = 32 ∨ F = 128) := ⟨128, rfl, .inr rfl⟩
    rw [← hFd]
    clear hFd
    have HF := hid13 hF
    clear hF
    refine (K1 _).mono ?_
    rintro e W1 ⟨rfl, hw1⟩
    replace hw1 := hw1.symm
    subst hw1
    clear K1
    go_wp2_with fail
    refine (K2 _).mono ?_
    rintro e W2 ⟨rfl, hw2⟩
    replace hw2 := hw2.symm
    subst hw2
    clear K2
    have HB00 := HB0
    by_cases hQ1 : (Q : Int) ≤ 1
    · have h3 : wrap64 3 = (Z : Int) := h3z hQ1
      clear h4z h3z
      go_wp2_with fail
      rw [show Value.int .i64 3 = Value.int .i64 (Z : Int) from congrArg (Value.int .i64) (show (3 : Int) = (Z : Int) by have h9 := h3; unfold wrap64 at h9; omega)]
      clear wr1 wb1 hQ1 h3
      have HC0 : Hid (ChS b r 0 []) := by
        have := HR.out.1
        exact .inl ⟨by omega, rfl⟩
      have HO0 : Hid (W0.ownsRow w.heap.size 5 1 (.slice none 0 0) ([] : List Nat).length (([] : List Nat).map cB)) := World.ownsRow_nil _ _ _ _
      go_loopw [8, 9, 11] (fun wv bv iv wr => ∃ (i : Nat) (wz : Int) (L : List Nat), i ≤ r ∧ iv = .int .i64 i ∧ wv = .int .i64 wz ∧ Hid (ChS b r i L) ∧ Hid (wr.ownsRow w.heap.size 5 1 bv L.length (L.map cB)) ∧ Hid (Below w.heap.size w wr)) (fun wv bv iv _ => r - (intOf iv).toNat)
      case atStart => exact ⟨0, 0, [], Nat.zero_le _, rfl, rfl, HC0, HO0, HB0⟩
      case round =>
        clear HC0 HO0 HB0 HB00 sh q32 wq
        obtain ⟨i, wz9, L, hi, rfl, rfl, HC, HO, HB⟩ := hrel
        by_cases hlt : (i : Int) < (r : Int)
        · have hi1 : IntKind.i64.wrap ((i : Int) + 1) = ((i + 1 : Nat) : Int) := by rw [IntKind.wrap_i64]; have := HR.out; omega
          have HLn : Hid (L.length ≤ 20000) := by
            have h1 := HC.out.len
            have h2 := HZ.out
            have h3 := HR.out
            have h4 : szC b * i ≤ 12 * 140 := Nat.mul_le_mul (by omega) (by omega)
            show L.length ≤ 20000
            omega
          obtain ⟨wo, hwo⟩ : ∃ wo : World, wo = wr := ⟨_, rfl⟩
          rw [← hwo] at HO HB ⊢
          clear hwo
          obtain ⟨ao, cp, hbv⟩ := own_form HO.out
          subst hbv
          have q1 := bl1 wo (.cells #[.int .u8 1, .int .u8 0, .int .u8 0, .int .u8 (b : Int), .int .u8 2, .int .u8 0, .int .u8 0, .int .u8 (b : Int), .int .u8 192, .int .u8 0, .int .u8 0, .int .u8 0] 5)
          have s1 := lit_own18 (w := wo) w.heap.size #[.int .u8 1, .int .u8 0, .int .u8 0, .int .u8 (b : Int), .int .u8 2, .int .u8 0, .int .u8 0, .int .u8 (b : Int), .int .u8 192, .int .u8 0, .int .u8 0, .int .u8 0] [1, 0, 0, b, 2, 0, 0, b, 192, 0, 0, 0] HB.out.size rfl (by simp) 12 rfl
          have HO1 := hid13 (own_b13 q1 HO.out)
          have HS1 := hid13 (own_rowA s1)
          have HB1 := hid13 (keepb q1 HB.out)
          clear q1 s1
          go_wp2_with (at_builtin; apply stopHere9)
          refine (show wpList _ _ _ _ _ _ from ?_)
          refine wpList_append_rowA rfl _ _ 25 rfl w.heap.size 5 i0 (.int .u8 0) 1 1 Try.underlying25 ji jz0 jz1 jz2 rfl (by decide) _ (L).length ((L).map cB) rfl HO1.out _ 12 ([1, 0, 0, b, 2, 0, 0, b, 192, 0, 0, 0].map cB) rfl HS1.out (cB_one _) (by have := HLn.out; unfold maxLen; omega) (by have := HLn.out; omega) HB1.out.size ?_
          intro ao1 cp1 W1 hO1 hg1
          have HBn1 : Hid (Below w.heap.size w W1) := HB1.out.grown hg1 HB1.out.size (fun z hz => (HO1.out.lt z hz).1)
          have HO2 : Hid (W1.ownsRow w.heap.size 5 1 (.slice ao1 (L.length + 12) cp1) (L ++ [1, 0, 0, b, 2, 0, 0, b, 192, 0, 0, 0] ++ List.replicate (4 * (1 - 1)) 0).length ((L ++ [1, 0, 0, b, 2, 0, 0, b, 192, 0, 0, 0] ++ List.replicate (4 * (1 - 1)) 0).map cB)) := by
            refine hid13 ?_
            have h1 := hO1
            rw [← List.map_append] at h1
            simpa using h1
          clear hO1 hg1 HO1 HS1 HB1 HO HB hcv
          go_wp2_with fail
          go_loopw [9, 12] (fun bv kv wr => ∃ (k : Nat), 1 ≤ k ∧ k ≤ M ∧ kv = .int .i64 k ∧ Hid (wr.ownsRow w.heap.size 5 1 bv (L ++ [1, 0, 0, b, 2, 0, 0, b, 192, 0, 0, 0] ++ List.replicate (4 * (k - 1)) 0).length ((L ++ [1, 0, 0, b, 2, 0, 0, b, 192, 0, 0, 0] ++ List.replicate (4 * (k - 1)) 0).map cB)) ∧ Hid (Below w.heap.size w wr)) (fun bv kv _ => M - (intOf kv).toNat)
          case atStart => exact ⟨1, Nat.le_refl _, HZ.out.2.2.1, rfl, HO2, HBn1⟩
          case round =>
            clear HO2 HBn1
            obtain ⟨k, hk1, hk2, rfl, HO, HB⟩ := hrel
            obtain ⟨X, hX⟩ : ∃ X, X = L ++ [1, 0, 0, b, 2, 0, 0, b, 192, 0, 0, 0] ++ List.replicate (4 * (k - 1)) 0 := ⟨_, rfl⟩
            rw [← hX] at HO
            have HXl : Hid (X.length ≤ 20100) := by
              have h1 := HLn.out
              have h2 := HZ.out
              rw [hX]
              show _ ≤ _
              simp only [List.length_append, List.length_replicate, List.length_cons, List.length_nil]
              omega
            have HX := hid13 hX
            clear hX
            obtain ⟨ao, cp, hbv⟩ := own_form HO.out
            subst hbv
            by_cases hkl : (k : Int) < (M : Int)
            · have hk3 : IntKind.i64.wrap ((k : Int) + 1) = ((k + 1 : Nat) : Int) := by rw [IntKind.wrap_i64]; have := HZ.out; omega
              have HLk : Hid (k ≤ 8) := hid13 (by have := HZ.out; omega)
              have q2 := bl1 wr (.cells #[.int .u8 0, .int .u8 0, .int .u8 0, .int .u8 0] 5)
              have s2 := lit_own18 (w := wr) w.heap.size #[.int .u8 0, .int .u8 0, .int .u8 0, .int .u8 0] [0, 0, 0, 0] HB.out.size rfl (by simp) 4 rfl
              have HO2 := hid13 (own_b13 q2 HO.out)
              have HS2 := hid13 (own_rowA s2)
              have HB2 := hid13 (keepb q2 HB.out)
              clear q2 s2
              go_wp2_with (at_builtin; apply stopHere9)
              refine (show wpList _ _ _ _ _ _ from ?_)
              refine wpList_append_rowA rfl _ _ 25 rfl w.heap.size 5 i0 (.int .u8 0) 1 1 Try.underlying25 ji jz0 jz1 jz2 rfl (by decide) _ (X).length ((X).map cB) rfl HO2.out _ 4 ([0, 0, 0, 0].map cB) rfl HS2.out (cB_one _) (by have := HXl.out; unfold maxLen; omega) (by have := HXl.out; omega) HB2.out.size ?_
              intro ao2 cp2 W2 hO2 hg2
              have HBn2 : Hid (Below w.heap.size w W2) := HB2.out.grown hg2 HB2.out.size (fun z hz => (HO2.out.lt z hz).1)
              have HO3 : Hid (W2.ownsRow w.heap.size 5 1 (.slice ao2 (X.length + 4) cp2) (L ++ [1, 0, 0, b, 2, 0, 0, b, 192, 0, 0, 0] ++ List.replicate (4 * (k + 1 - 1)) 0).length ((L ++ [1, 0, 0, b, 2, 0, 0, b, 192, 0, 0, 0] ++ List.replicate (4 * (k + 1 - 1)) 0).map cB)) := by
                have h1 := hO2
                rw [← List.map_append] at h1
                have e : L ++ [1, 0, 0, b, 2, 0, 0, b, 192, 0, 0, 0] ++ List.replicate (4 * (k + 1 - 1)) 0 = X ++ [0, 0, 0, 0] := by
                  rw [HX.out, show 4 * (k + 1 - 1) = 4 * (k - 1) + 4 by omega, ← List.replicate_append_replicate, ← List.append_assoc]; rfl
                rw [e, List.length_append]
                exact h1
              clear hO2 hg2 HO2 HS2 HB2 HO HB
              go_wp2
              go_roundw
              case rel => exact ⟨k + 1, by omega, by omega, by push_cast; rfl, HO3, HBn2⟩
              case measure => simp only [intOf]; omega
            · obtain rfl : k = M := by omega
              have HLk : Hid (k ≤ 8) := hid13 (by have := HZ.out; omega)
              by_cases hil : (i : Int) + 1 < (r : Int)
              · have HC2 := hid13 (HC.out.mid (by omega) HR.out.2.1 HR.out.2.2)
                have q3 := bl1 wr (.cells #[.int .u8 3, .int .u8 0, .int .u8 0, .int .u8 2, .int .u8 4, .int .u8 0, .int .u8 0, .int .u8 7] 5)
                have s3 := lit_own18 (w := wr) w.heap.size #[.int .u8 3, .int .u8 0, .int .u8 0, .int .u8 2, .int .u8 4, .int .u8 0, .int .u8 0, .int .u8 7] [3, 0, 0, 2, 4, 0, 0, 7] HB.out.size rfl (by simp) 8 rfl
                have HO3 := hid13 (own_b13 q3 HO.out)
                have HS3 := hid13 (own_rowA s3)
                have HB3 := hid13 (keepb q3 HB.out)
                clear q3 s3
                go_wp2_with (at_builtin; apply stopHere9)
                refine (show wpList _ _ _ _ _ _ from ?_)
                refine wpList_append_rowA rfl _ _ 25 rfl w.heap.size 5 i0 (.int .u8 0) 1 1 Try.underlying25 ji jz0 jz1 jz2 rfl (by decide) _ (X).length ((X).map cB) rfl HO3.out _ 8 ([3, 0, 0, 2, 4, 0, 0, 7].map cB) rfl HS3.out (cB_one _) (by have := HXl.out; unfold maxLen; omega) (by have := HXl.out; omega) HB3.out.size ?_
                intro ao3 cp3 W3 hO3 hg3
                have HBn3 : Hid (Below w.heap.size w W3) := HB3.out.grown hg3 HB3.out.size (fun z hz => (HO3.out.lt z hz).1)
                have HO9 : Hid (W3.ownsRow w.heap.size 5 1 (.slice ao3 (X.length + 8) cp3) (L ++ [1, 0, 0, b, 2, 0, 0, b, 192, 0, 0, 0] ++ List.replicate (4 * (mwN b - 1)) 0 ++ [3, 0, 0, 2, 4, 0, 0, 7]).length ((L ++ [1, 0, 0, b, 2, 0, 0, b, 192, 0, 0, 0] ++ List.replicate (4 * (mwN b - 1)) 0 ++ [3, 0, 0, 2, 4, 0, 0, 7]).map cB)) := by
                  have h1 := hO3
                  rw [← List.map_append] at h1
                  have e : L ++ [1, 0, 0, b, 2, 0, 0, b, 192, 0, 0, 0] ++ List.replicate (4 * (mwN b - 1)) 0 ++ [3, 0, 0, 2, 4, 0, 0, 7] = X ++ [3, 0, 0, 2, 4, 0, 0, 7] := by rw [HX.out, HZ.out.2.1]
                  rw [e, List.length_append]
                  exact h1
                clear hO3 hg3 HO3 HS3 HB3 HO HB HC
                go_wp2
                go_roundw
                case rel => exact ⟨i + 1, _, _, by omega, by push_cast; rfl, rfl, HC2, HO9, HBn3⟩
                case measure => simp only [intOf]; omega
              · have HC2 := hid13 (HC.out.last (by omega) HR.out.2.1 HR.out.2.2)
                have q4 := bl1 wr (.cells #[.int .u8 4, .int .u8 0, .int .u8 0, .int .u8 9, .int .u8 4, .int .u8 0, .int .u8 0, .int .u8 7] 5)
                have s4 := lit_own18 (w := wr) w.heap.size #[.int .u8 4, .int .u8 0, .int .u8 0, .int .u8 9, .int .u8 4, .int .u8 0, .int .u8 0, .int .u8 7] [4, 0, 0, 9, 4, 0, 0, 7] HB.out.size rfl (by simp) 8 rfl
                have HO4 := hid13 (own_b13 q4 HO.out)
                have HS4 := hid13 (own_rowA s4)
                have HB4 := hid13 (keepb q4 HB.out)
                clear q4 s4
                go_wp2_with (at_builtin; apply stopHere9)
                refine (show wpList _ _ _ _ _ _ from ?_)
                refine wpList_append_rowA rfl _ _ 25 rfl w.heap.size 5 i0 (.int .u8 0) 1 1 Try.underlying25 ji jz0 jz1 jz2 rfl (by decide) _ (X).length ((X).map cB) rfl HO4.out _ 8 ([4, 0, 0, 9, 4, 0, 0, 7].map cB) rfl HS4.out (cB_one _) (by have := HXl.out; unfold maxLen; omega) (by have := HXl.out; omega) HB4.out.size ?_
                intro ao4 cp4 W4 hO4 hg4
                have HBn4 : Hid (Below w.heap.size w W4) := HB4.out.grown hg4 HB4.out.size (fun z hz => (HO4.out.lt z hz).1)
                have HO9 : Hid (W4.ownsRow w.heap.size 5 1 (.slice ao4 (X.length + 8) cp4) (L ++ [1, 0, 0, b, 2, 0, 0, b, 192, 0, 0, 0] ++ List.replicate (4 * (mwN b - 1)) 0 ++ [4, 0, 0, 9, 4, 0, 0, 7]).length ((L ++ [1, 0, 0, b, 2, 0, 0, b, 192, 0, 0, 0] ++ List.replicate (4 * (mwN b - 1)) 0 ++ [4, 0, 0, 9, 4, 0, 0, 7]).map cB)) := by
                  have h1 := hO4
                  rw [← List.map_append] at h1
                  have e : L ++ [1, 0, 0, b, 2, 0, 0, b, 192, 0, 0, 0] ++ List.replicate (4 * (mwN b - 1)) 0 ++ [4, 0, 0, 9, 4, 0, 0, 7] = X ++ [4, 0, 0, 9, 4, 0, 0, 7] := by rw [HX.out, HZ.out.2.1]
                  rw [e, List.length_append]
                  exact h1
                clear hO4 hg4 HO4 HS4 HB4 HO HB HC
                go_wp2
                go_roundw
                case rel => exact ⟨i + 1, _, _, by omega, by push_cast; rfl, rfl, HC2, HO9, HBn4⟩
                case measure => simp only [intOf]; omega
        · have hir : i = r := by omega
          have HLe : Hid (L = chR b r) := by
            rcases HC.out with ⟨h1, -⟩ | ⟨-, h2⟩
            · omega
            · exact h2
          have KV := vcode18 wr (F : Int) _ L (own_rwx HO.out) (by
            have h1 := HC.out.len
            have h2 := HZ.out
            have h3 := HR.out
            have h4 : szC b * i ≤ 12 * 140 := Nat.mul_le_mul (by omega) (by omega)
            omega) (by rw [HLe.out]; exact chR_lt b HR.out.2.2 r)
          have hv := vf_chain F b r HF.out HR.out.2.1 HR.out.2.2 HR.out.1.1
          rw [← HLe.out] at hv
          have wm : IntKind.i64.wrap ((r : Int) * (b : Int)) = ((r * b : Nat) : Int) := by
            have h1 : r * b ≤ 140 * 8 := Nat.mul_le_mul HR.out.1.2 HR.out.2.2
            rw [IntKind.wrap_i64]; push_cast at *; omega
          by_cases hc : r * b ≤ F
          · rw [if_pos hc] at hv
            rw [hv] at KV
            dsimp only at KV
            have hc2 : ((r * b : Nat) : Int) ≤ (F : Int) := by omega
            generalize ((r * b : Nat) : Int) = rb at wm hc2
            clear hv hc
            go_wp2_with fail
            refine KV.mono ?_
            rintro e W5 ⟨rfl, hb5⟩
            have HB5 : Hid (Below w.heap.size w W5) := HB.out.trans (hb5.mono HB.out.size)
            clear KV hb5 HB
            go_wp2
            go_ret
            exact ⟨rfl, HB5.out⟩
          · rw [if_neg hc] at hv
            rw [hv] at KV
            dsimp only at KV
            have hc2 : ¬ ((r * b : Nat) : Int) ≤ (F : Int) := by omega
            have hc3 : (F : Int) < ((r * b : Nat) : Int) := by omega
            generalize ((r * b : Nat) : Int) = rb at wm hc2 hc3
            obtain ⟨K, hK⟩ : ∃ K : Nat, K = F / b := ⟨_, rfl⟩
            have hd1 : (F : Int) / (b : Int) = (K : Int) := by rw [hK]; exact (Int.natCast_ediv F b).symm
            have hd2 : (F : Int).tdiv (b : Int) = (K : Int) := by rw [Int.tdiv_eq_ediv_of_nonneg (by omega)]; exact hd1
            have hKF : K ≤ 128 := by rw [hK]; have := Nat.div_le_self F b; have := HF.out; omega
            have hb0 : ¬ (b : Int) = 0 := by have := HR.out; omega
            have hbz : ((b : Int) == 0) = false := by simpa using hb0
            have hbz2 : ¬ b = 0 := by omega
            have wk : IntKind.i64.wrap (K : Int) = (K : Int) := by rw [IntKind.wrap_i64]; omega
            obtain ⟨T9, hT⟩ : ∃ T9 : Nat, T9 = K * (Z + 2) := ⟨_, rfl⟩
            have wt : IntKind.i64.wrap ((K : Int) * ((Z + 2 : Nat) : Int)) = (T9 : Int) := by
              have h1 : K * (Z + 2) ≤ 128 * 12 := Nat.mul_le_mul hKF (by have := HZ.out; omega)
              rw [← Int.natCast_mul, ← hT, IntKind.wrap_i64]; omega
            rw [← hK, HZ.out.2.2.2.2, ← hT] at KV
            generalize ((Z + 2 : Nat) : Int) = Z2 at wz3 wt
            clear hv hc hK hT hKF
            go_wp2_with fail
            refine KV.mono ?_
            rintro e W5 ⟨rfl, hb5⟩
            have HB5 : Hid (Below w.heap.size w W5) := HB.out.trans (hb5.mono HB.out.size)
            clear KV hb5 HB
            go_wp2
            go_ret
            exact ⟨rfl, HB5.out⟩
    · have hQ2 : (1 : Int) < (Q : Int) := by omega
      have h4 : wrap64 (2 + (Q : Int)) = (Z : Int) := h4z hQ2
      clear h4z h3z hQ1
      go_wp2_with fail
      rw [h4]
      clear wr1 wb1 hQ2 h4
      have HC0 : Hid (ChS b r 0 []) := by
        have := HR.out.1
        exact .inl ⟨by omega, rfl⟩
      have HO0 : Hid (W0.ownsRow w.heap.size 5 1 (.slice none 0 0) ([] : List Nat).length (([] : List Nat).map cB)) := World.ownsRow_nil _ _ _ _
      go_loopw [8, 9, 11] (fun wv bv iv wr => ∃ (i : Nat) (wz : Int) (L : List Nat), i ≤ r ∧ iv = .int .i64 i ∧ wv = .int .i64 wz ∧ Hid (ChS b r i L) ∧ Hid (wr.ownsRow w.heap.size 5 1 bv L.length (L.map cB)) ∧ Hid (Below w.heap.size w wr)) (fun wv bv iv _ => r - (intOf iv).toNat)
      case atStart => exact ⟨0, 0, [], Nat.zero_le _, rfl, rfl, HC0, HO0, HB0⟩
      case round =>
        clear HC0 HO0 HB0 HB00 sh q32 wq
        obtain ⟨i, wz9, L, hi, rfl, rfl, HC, HO, HB⟩ := hrel
        by_cases hlt : (i : Int) < (r : Int)
        · have hi1 : IntKind.i64.wrap ((i : Int) + 1) = ((i + 1 : Nat) : Int) := by rw [IntKind.wrap_i64]; have := HR.out; omega
          have HLn : Hid (L.length ≤ 20000) := by
            have h1 := HC.out.len
            have h2 := HZ.out
            have h3 := HR.out
            have h4 : szC b * i ≤ 12 * 140 := Nat.mul_le_mul (by omega) (by omega)
            show L.length ≤ 20000
            omega
          obtain ⟨wo, hwo⟩ : ∃ wo : World, wo = wr := ⟨_, rfl⟩
          rw [← hwo] at HO HB ⊢
          clear hwo
          obtain ⟨ao, cp, hbv⟩ := own_form HO.out
          subst hbv
          have q1 := bl1 wo (.cells #[.int .u8 1, .int .u8 0, .int .u8 0, .int .u8 (b : Int), .int .u8 2, .int .u8 0, .int .u8 0, .int .u8 (b : Int), .int .u8 192, .int .u8 0, .int .u8 0, .int .u8 0] 5)
          have s1 := lit_own18 (w := wo) w.heap.size #[.int .u8 1, .int .u8 0, .int .u8 0, .int .u8 (b : Int), .int .u8 2, .int .u8 0, .int .u8 0, .int .u8 (b : Int), .int .u8 192, .int .u8 0, .int .u8 0, .int .u8 0] [1, 0, 0, b, 2, 0, 0, b, 192, 0, 0, 0] HB.out.size rfl (by simp) 12 rfl
          have HO1 := hid13 (own_b13 q1 HO.out)
          have HS1 := hid13 (own_rowA s1)
          have HB1 := hid13 (keepb q1 HB.out)
          clear q1 s1
          go_wp2_with (at_builtin; apply stopHere9)
          refine (show wpList _ _ _ _ _ _ from ?_)
          refine wpList_append_rowA rfl _ _ 25 rfl w.heap.size 5 i0 (.int .u8 0) 1 1 Try.underlying25 ji jz0 jz1 jz2 rfl (by decide) _ (L).length ((L).map cB) rfl HO1.out _ 12 ([1, 0, 0, b, 2, 0, 0, b, 192, 0, 0, 0].map cB) rfl HS1.out (cB_one _) (by have := HLn.out; unfold maxLen; omega) (by have := HLn.out; omega) HB1.out.size ?_
          intro ao1 cp1 W1 hO1 hg1
          have HBn1 : Hid (Below w.heap.size w W1) := HB1.out.grown hg1 HB1.out.size (fun z hz => (HO1.out.lt z hz).1)
          have HO2 : Hid (W1.ownsRow w.heap.size 5 1 (.slice ao1 (L.length + 12) cp1) (L ++ [1, 0, 0, b, 2, 0, 0, b, 192, 0, 0, 0] ++ List.replicate (4 * (1 - 1)) 0).length ((L ++ [1, 0, 0, b, 2, 0, 0, b, 192, 0, 0, 0] ++ List.replicate (4 * (1 - 1)) 0).map cB)) := by
            refine hid13 ?_
            have h1 := hO1
            rw [← List.map_append] at h1
            simpa using h1
          clear hO1 hg1 HO1 HS1 HB1 HO HB hcv
          go_wp2_with fail
          go_loopw [9, 12] (fun bv kv wr => ∃ (k : Nat), 1 ≤ k ∧ k ≤ M ∧ kv = .int .i64 k ∧ Hid (wr.ownsRow w.heap.size 5 1 bv (L ++ [1, 0, 0, b, 2, 0, 0, b, 192, 0, 0, 0] ++ List.replicate (4 * (k - 1)) 0).length ((L ++ [1, 0, 0, b, 2, 0, 0, b, 192, 0, 0, 0] ++ List.replicate (4 * (k - 1)) 0).map cB)) ∧ Hid (Below w.heap.size w wr)) (fun bv kv _ => M - (intOf kv).toNat)
          case atStart => exact ⟨1, Nat.le_refl _, HZ.out.2.2.1, rfl, HO2, HBn1⟩
          case round =>
            clear HO2 HBn1
            obtain ⟨k, hk1, hk2, rfl, HO, HB⟩ := hrel
            obtain ⟨X, hX⟩ : ∃ X, X = L ++ [1, 0, 0, b, 2, 0, 0, b, 192, 0, 0, 0] ++ List.replicate (4 * (k - 1)) 0 := ⟨_, rfl⟩
            rw [← hX] at HO
            have HXl : Hid (X.length ≤ 20100) := by
              have h1 := HLn.out
              have h2 := HZ.out
              rw [hX]
              show _ ≤ _
              simp only [List.length_append, List.length_replicate, List.length_cons, List.length_nil]
              omega
            have HX := hid13 hX
            clear hX
            obtain ⟨ao, cp, hbv⟩ := own_form HO.out
            subst hbv
            by_cases hkl : (k : Int) < (M : Int)
            · have hk3 : IntKind.i64.wrap ((k : Int) + 1) = ((k + 1 : Nat) : Int) := by rw [IntKind.wrap_i64]; have := HZ.out; omega
              have HLk : Hid (k ≤ 8) := hid13 (by have := HZ.out; omega)
              have q2 := bl1 wr (.cells #[.int .u8 0, .int .u8 0, .int .u8 0, .int .u8 0] 5)
              have s2 := lit_own18 (w := wr) w.heap.size #[.int .u8 0, .int .u8 0, .int .u8 0, .int .u8 0] [0, 0, 0, 0] HB.out.size rfl (by simp) 4 rfl
              have HO2 := hid13 (own_b13 q2 HO.out)
              have HS2 := hid13 (own_rowA s2)
              have HB2 := hid13 (keepb q2 HB.out)
              clear q2 s2
              go_wp2_with (at_builtin; apply stopHere9)
              refine (show wpList _ _ _ _ _ _ from ?_)
              refine wpList_append_rowA rfl _ _ 25 rfl w.heap.size 5 i0 (.int .u8 0) 1 1 Try.underlying25 ji jz0 jz1 jz2 rfl (by decide) _ (X).length ((X).map cB) rfl HO2.out _ 4 ([0, 0, 0, 0].map cB) rfl HS2.out (cB_one _) (by have := HXl.out; unfold maxLen; omega) (by have := HXl.out; omega) HB2.out.size ?_
              intro ao2 cp2 W2 hO2 hg2
              have HBn2 : Hid (Below w.heap.size w W2) := HB2.out.grown hg2 HB2.out.size (fun z hz => (HO2.out.lt z hz).1)
              have HO3 : Hid (W2.ownsRow w.heap.size 5 1 (.slice ao2 (X.length + 4) cp2) (L ++ [1, 0, 0, b, 2, 0, 0, b, 192, 0, 0, 0] ++ List.replicate (4 * (k + 1 - 1)) 0).length ((L ++ [1, 0, 0, b, 2, 0, 0, b, 192, 0, 0, 0] ++ List.replicate (4 * (k + 1 - 1)) 0).map cB)) := by
                have h1 := hO2
                rw [← List.map_append] at h1
                have e : L ++ [1, 0, 0, b, 2, 0, 0, b, 192, 0, 0, 0] ++ List.replicate (4 * (k + 1 - 1)) 0 = X ++ [0, 0, 0, 0] := by
                  rw [HX.out, show 4 * (k + 1 - 1) = 4 * (k - 1) + 4 by omega, ← List.replicate_append_replicate, ← List.append_assoc]; rfl
                rw [e, List.length_append]
                exact h1
              clear hO2 hg2 HO2 HS2 HB2 HO HB
              go_wp2
              go_roundw
              case rel => exact ⟨k + 1, by omega, by omega, by push_cast; rfl, HO3, HBn2⟩
              case measure => simp only [intOf]; omega
            · obtain rfl : k = M := by omega
              have HLk : Hid (k ≤ 8) := hid13 (by have := HZ.out; omega)
              by_cases hil : (i : Int) + 1 < (r : Int)
              · have HC2 := hid13 (HC.out.mid (by omega) HR.out.2.1 HR.out.2.2)
                have q3 := bl1 wr (.cells #[.int .u8 3, .int .u8 0, .int .u8 0, .int .u8 2, .int .u8 4, .int .u8 0, .int .u8 0, .int .u8 7] 5)
                have s3 := lit_own18 (w := wr) w.heap.size #[.int .u8 3, .int .u8 0, .int .u8 0, .int .u8 2, .int .u8 4, .int .u8 0, .int .u8 0, .int .u8 7] [3, 0, 0, 2, 4, 0, 0, 7] HB.out.size rfl (by simp) 8 rfl
                have HO3 := hid13 (own_b13 q3 HO.out)
                have HS3 := hid13 (own_rowA s3)
                have HB3 := hid13 (keepb q3 HB.out)
                clear q3 s3
                go_wp2_with (at_builtin; apply stopHere9)
                refine (show wpList _ _ _ _ _ _ from ?_)
                refine wpList_append_rowA rfl _ _ 25 rfl w.heap.size 5 i0 (.int .u8 0) 1 1 Try.underlying25 ji jz0 jz1 jz2 rfl (by decide) _ (X).length ((X).map cB) rfl HO3.out _ 8 ([3, 0, 0, 2, 4, 0, 0, 7].map cB) rfl HS3.out (cB_one _) (by have := HXl.out; unfold maxLen; omega) (by have := HXl.out; omega) HB3.out.size ?_
                intro ao3 cp3 W3 hO3 hg3
                have HBn3 : Hid (Below w.heap.size w W3) := HB3.out.grown hg3 HB3.out.size (fun z hz => (HO3.out.lt z hz).1)
                have HO9 : Hid (W3.ownsRow w.heap.size 5 1 (.slice ao3 (X.length + 8) cp3) (L ++ [1, 0, 0, b, 2, 0, 0, b, 192, 0, 0, 0] ++ List.replicate (4 * (mwN b - 1)) 0 ++ [3, 0, 0, 2, 4, 0, 0, 7]).length ((L ++ [1, 0, 0, b, 2, 0, 0, b, 192, 0, 0, 0] ++ List.replicate (4 * (mwN b - 1)) 0 ++ [3, 0, 0, 2, 4, 0, 0, 7]).map cB)) := by
                  have h1 := hO3
                  rw [← List.map_append] at h1
                  have e : L ++ [1, 0, 0, b, 2, 0, 0, b, 192, 0, 0, 0] ++ List.replicate (4 * (mwN b - 1)) 0 ++ [3, 0, 0, 2, 4, 0, 0, 7] = X ++ [3, 0, 0, 2, 4, 0, 0, 7] := by rw [HX.out, HZ.out.2.1]
                  rw [e, List.length_append]
                  exact h1
                clear hO3 hg3 HO3 HS3 HB3 HO HB HC
                go_wp2
                go_roundw
                case rel => exact ⟨i + 1, _, _, by omega, by push_cast; rfl, rfl, HC2, HO9, HBn3⟩
                case measure => simp only [intOf]; omega
              · have HC2 := hid13 (HC.out.last (by omega) HR.out.2.1 HR.out.2.2)
                have q4 := bl1 wr (.cells #[.int .u8 4, .int .u8 0, .int .u8 0, .int .u8 9, .int .u8 4, .int .u8 0, .int .u8 0, .int .u8 7] 5)
                have s4 := lit_own18 (w := wr) w.heap.size #[.int .u8 4, .int .u8 0, .int .u8 0, .int .u8 9, .int .u8 4, .int .u8 0, .int .u8 0, .int .u8 7] [4, 0, 0, 9, 4, 0, 0, 7] HB.out.size rfl (by simp) 8 rfl
                have HO4 := hid13 (own_b13 q4 HO.out)
                have HS4 := hid13 (own_rowA s4)
                have HB4 := hid13 (keepb q4 HB.out)
                clear q4 s4
                go_wp2_with (at_builtin; apply stopHere9)
                refine (show wpList _ _ _ _ _ _ from ?_)
                refine wpList_append_rowA rfl _ _ 25 rfl w.heap.size 5 i0 (.int .u8 0) 1 1 Try.underlying25 ji jz0 jz1 jz2 rfl (by decide) _ (X).length ((X).map cB) rfl HO4.out _ 8 ([4, 0, 0, 9, 4, 0, 0, 7].map cB) rfl HS4.out (cB_one _) (by have := HXl.out; unfold maxLen; omega) (by have := HXl.out; omega) HB4.out.size ?_
                intro ao4 cp4 W4 hO4 hg4
                have HBn4 : Hid (Below w.heap.size w W4) := HB4.out.grown hg4 HB4.out.size (fun z hz => (HO4.out.lt z hz).1)
                have HO9 : Hid (W4.ownsRow w.heap.size 5 1 (.slice ao4 (X.length + 8) cp4) (L ++ [1, 0, 0, b, 2, 0, 0, b, 192, 0, 0, 0] ++ List.replicate (4 * (mwN b - 1)) 0 ++ [4, 0, 0, 9, 4, 0, 0, 7]).length ((L ++ [1, 0, 0, b, 2, 0, 0, b, 192, 0, 0, 0] ++ List.replicate (4 * (mwN b - 1)) 0 ++ [4, 0, 0, 9, 4, 0, 0, 7]).map cB)) := by
                  have h1 := hO4
                  rw [← List.map_append] at h1
                  have e : L ++ [1, 0, 0, b, 2, 0, 0, b, 192, 0, 0, 0] ++ List.replicate (4 * (mwN b - 1)) 0 ++ [4, 0, 0, 9, 4, 0, 0, 7] = X ++ [4, 0, 0, 9, 4, 0, 0, 7] := by rw [HX.out, HZ.out.2.1]
                  rw [e, List.length_append]
                  exact h1
                clear hO4 hg4 HO4 HS4 HB4 HO HB HC
                go_wp2
                go_roundw
                case rel => exact ⟨i + 1, _, _, by omega, by push_cast; rfl, rfl, HC2, HO9, HBn4⟩
                case measure => simp only [intOf]; omega
        · have hir : i = r := by omega
          have HLe : Hid (L = chR b r) := by
            rcases HC.out with ⟨h1, -⟩ | ⟨-, h2⟩
            · omega
            · exact h2
          have KV := vcode18 wr (F : Int) _ L (own_rwx HO.out) (by
            have h1 := HC.out.len
            have h2 := HZ.out
            have h3 := HR.out
            have h4 : szC b * i ≤ 12 * 140 := Nat.mul_le_mul (by omega) (by omega)
            omega) (by rw [HLe.out]; exact chR_lt b HR.out.2.2 r)
          have hv := vf_chain F b r HF.out HR.out.2.1 HR.out.2.2 HR.out.1.1
          rw [← HLe.out] at hv
          have wm : IntKind.i64.wrap ((r : Int) * (b : Int)) = ((r * b : Nat) : Int) := by
            have h1 : r * b ≤ 140 * 8 := Nat.mul_le_mul HR.out.1.2 HR.out.2.2
            rw [IntKind.wrap_i64]; push_cast at *; omega
          by_cases hc : r * b ≤ F
          · rw [if_pos hc] at hv
            rw [hv] at KV
            dsimp only at KV
            have hc2 : ((r * b : Nat) : Int) ≤ (F : Int) := by omega
            generalize ((r * b : Nat) : Int) = rb at wm hc2
            clear hv hc
            go_wp2_with fail
            refine KV.mono ?_
            rintro e W5 ⟨rfl, hb5⟩
            have HB5 : Hid (Below w.heap.size w W5) := HB.out.trans (hb5.mono HB.out.size)
            clear KV hb5 HB
            go_wp2
            go_ret
            exact ⟨rfl, HB5.out⟩
          · rw [if_neg hc] at hv
            rw [hv] at KV
            dsimp only at KV
            have hc2 : ¬ ((r * b : Nat) : Int) ≤ (F : Int) := by omega
            have hc3 : (F : Int) < ((r * b : Nat) : Int) := by omega
            generalize ((r * b : Nat) : Int) = rb at wm hc2 hc3
            obtain ⟨K, hK⟩ : ∃ K : Nat, K = F / b := ⟨_, rfl⟩
            have hd1 : (F : Int) / (b : Int) = (K : Int) := by rw [hK]; exact (Int.natCast_ediv F b).symm
            have hd2 : (F : Int).tdiv (b : Int) = (K : Int) := by rw [Int.tdiv_eq_ediv_of_nonneg (by omega)]; exact hd1
            have hKF : K ≤ 128 := by rw [hK]; have := Nat.div_le_self F b; have := HF.out; omega
            have hb0 : ¬ (b : Int) = 0 := by have := HR.out; omega
            have hbz : ((b : Int) == 0) = false := by simpa using hb0
            have hbz2 : ¬ b = 0 := by omega
            have wk : IntKind.i64.wrap (K : Int) = (K : Int) := by rw [IntKind.wrap_i64]; omega
            obtain ⟨T9, hT⟩ : ∃ T9 : Nat, T9 = K * (Z + 2) := ⟨_, rfl⟩
            have wt : IntKind.i64.wrap ((K : Int) * ((Z + 2 : Nat) : Int)) = (T9 : Int) := by
              have h1 : K * (Z + 2) ≤ 128 * 12 := Nat.mul_le_mul hKF (by have := HZ.out; omega)
              rw [← Int.natCast_mul, ← hT, IntKind.wrap_i64]; omega
            rw [← hK, HZ.out.2.2.2.2, ← hT] at KV
            generalize ((Z + 2 : Nat) : Int) = Z2 at wz3 wt
            clear hv hc hK hT hKF
            go_wp2_with fail
            refine KV.mono ?_
            rintro e W5 ⟨rfl, hb5⟩
            have HB5 : Hid (Below w.heap.size w W5) := HB.out.trans (hb5.mono HB.out.size)
            clear KV hb5 HB
            go_wp2
            go_ret
            exact ⟨rfl, HB5.out⟩
end Go.Proofs.Ytfpagbmnpfoghab
