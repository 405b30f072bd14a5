/-
  Part 10 of the proof: 3 texts, one behind the other.
-/
import Derived.Test.YtnaihocdemcejaaPart9
/-
  Plain: what Encode lays Decode reads, and back.
-/
namespace Go.Proofs.Ytnaihocdemcejaa
set_option linter.unusedSimpArgs false
set_option linter.unusedVariables false

theorem numN_by4 (x : BitVec 32) : numN (by4 x.toNat) = x.toNat := num4 _ x.isLt
theorem wdV_zero (x : BitVec 32) (z : List Nat) : wdV (by4 x.toNat ++ z) 0 = x := by
  unfold wdV
  have e : (((by4 x.toNat ++ z).drop (4 * 0)).take 4) = by4 x.toNat := by
    rw [Nat.mul_zero, List.drop_zero]
    exact List.take_left' rfl
  rw [e, numN_by4]
  simp
theorem wdV_app (l X : List Nat) (a j : Nat) (h : l.length = 4 * a) : wdV (l ++ X) (a + j) = wdV X j := by
  unfold wdV
  rw [Nat.mul_add, ← h, ← List.drop_drop, List.drop_left]
theorem wdV_succ (x : BitVec 32) (z : List Nat) (j : Nat) : wdV (by4 x.toNat ++ z) (j + 1) = wdV z j := by
  rw [Nat.add_comm j 1]
  exact wdV_app (by4 x.toNat) z 1 j rfl
theorem wdV_fm : ∀ (ws : List (BitVec 32)) (z : List Nat) (j : Nat) (x : BitVec 32), ws[j]? = some x → wdV ((ws.flatMap fun x => by4 x.toNat) ++ z) j = x
  | [], z, j, x, h => by simp at h
  | y :: ws, z, 0, x, h => by
    simp at h
    subst h
    rw [List.flatMap_cons, List.append_assoc]
    exact wdV_zero y _
  | y :: ws, z, j + 1, x, h => by
    rw [List.flatMap_cons, List.append_assoc, wdV_succ]
    exact wdV_fm ws z j x (by simpa using h)
theorem kHi_Rm (o : Int) : kHi o ≤ kRm o := by
  unfold kHi kRm
  split
  · omega
  · split <;> omega
/-- What is laid is read. -/
theorem dec_enc (l z : List Nat) (a : Nat) (o n : Int) (m : List (BitVec 32)) (hl : l.length = 4 * a) (h : chkE o n m = 0) :
    dcE (l ++ wdB o.toNat n.toNat m ++ z) (a : Int) = 0 ∧ dcI (l ++ wdB o.toNat n.toNat m ++ z) (a : Int) = ⟨o, n, m⟩ ∧ dcZ (l ++ wdB o.toNat n.toNat m ++ z) (a : Int) = 1 + (m.length : Int) := by
  obtain ⟨ho, hn, hm⟩ := chk_zero h
  obtain ⟨O, rfl⟩ : ∃ O : Nat, o = (O : Int) := ⟨o.toNat, by omega⟩
  obtain ⟨N, rfl⟩ : ∃ N : Nat, n = (N : Int) := ⟨n.toNat, by omega⟩
  rw [Int.toNat_natCast, Int.toNat_natCast]
  obtain ⟨L, hL⟩ : ∃ L, L = l ++ wdB O N m ++ z := ⟨_, rfl⟩
  rw [← hL]
  have hlen : L.length = 4 * a + 4 * (1 + m.length) + z.length := by rw [hL, List.length_append, List.length_append, hl, wdB_len]
  have hw : ∀ j x, (fstW O N :: m)[j]? = some x → wdV L (a + j) = x := by
    intro j x hj
    rw [hL, List.append_assoc, wdV_app l _ a j hl]
    exact wdV_fm _ z j x hj
  have h0 : wdV L a = fstW O N := hw 0 _ rfl
  have hu : uI (wdV L a) = ((O * 16777216 + N : Nat) : Int) := by rw [h0]; exact fst_uI O N (by omega) (by omega)
  have hO : insO L a = (O : Int) := by unfold insO; rw [hu]; omega
  have hN : insN L a = (N : Int) := by unfold insN; rw [hu]; omega
  have hs : stB L.length (a : Int) 1 = true := by unfold stB; simp; omega
  have hop : isOp (O : Int) = true := by unfold isOp; simp; omega
  have htk : tkB (O : Int) (N : Int) = true := by
    unfold tkB
    unfold chkE at h
    rw [if_pos hop] at h
    by_cases c : (decide (kLo (O : Int) ≤ (N : Int)) && decide ((N : Int) ≤ kHi (O : Int))) = true
    · exact c
    · rw [if_neg c] at h; omega
  have hrm : (N : Int) ≤ kRm (O : Int) := by
    unfold tkB at htk
    simp only [Bool.and_eq_true, decide_eq_true_eq] at htk
    exact Int.le_trans htk.2 (kHi_Rm _)
  have hr : rdP L a = (m, 0) := by
    unfold rdP
    rw [hO, hN, if_pos hop, if_pos hrm, if_pos htk, Int.toNat_natCast]
    unfold chkE at h
    have htk' := htk
    unfold tkB at htk'
    rw [if_pos hop, if_pos htk'] at h
    by_cases c : (O : Int) = 2
    · rw [if_pos c] at h ⊢
      rw [Int.toNat_natCast] at h
      have hmp : isMapB m N = true := by
        by_cases c2 : isMapB m N = true
        · exact c2
        · rw [if_neg c2] at h; omega
      have hml : m.length = mwN N := by
        unfold isMapB at hmp
        simp only [Bool.and_eq_true, decide_eq_true_eq] at hmp
        exact hmp.1
      have hmL : mpL L (a + 1) (mwN N) = m := by
        apply List.ext_getElem?
        intro j
        by_cases hj : j < m.length
        · unfold mpL
          rw [List.getElem?_map, List.getElem?_range (by omega), List.getElem?_eq_getElem hj]
          simp only [Option.map_some, Option.some.injEq]
          rw [Nat.add_assoc, Nat.add_comm 1 j]
          exact hw (j + 1) _ (by simp [hj])
        · rw [List.getElem?_eq_none (by rw [mpL_len]; omega), List.getElem?_eq_none (by omega)]
      unfold rmP
      rw [if_pos (by omega), hmL, if_pos hmp]
    · rw [if_neg c] at h ⊢
      by_cases c2 : m = []
      · rw [c2]
      · rw [if_neg c2] at h; omega
  have hE : dcE L (a : Int) = 0 := by unfold dcE; rw [if_pos hs, Int.toNat_natCast, hr]
  have hI : dcI L (a : Int) = ⟨(O : Int), (N : Int), m⟩ := by unfold dcI; rw [if_pos hE, Int.toNat_natCast, hO, hN, hr]
  exact ⟨hE, hI, by unfold dcZ; rw [if_pos hE, hI]⟩
theorem by4_num (a b c d : Nat) (ha : a < 256) (hb : b < 256) (hc : c < 256) (hd : d < 256) : by4 (numN [a, b, c, d]) = [a, b, c, d] := by
  have e : numN [a, b, c, d] = ((((0 * 256 + a) * 256 + b) * 256 + c) * 256 + d) := rfl
  rw [e]
  unfold by4
  congr 1
  · omega
  · congr 1
    · omega
    · congr 1
      · omega
      · congr 1; omega
theorem list4 (l : List Nat) (h : l.length = 4) : ∃ a b c d, l = [a, b, c, d] := by
  match l, h with
  | [a, b, c, d], _ => exact ⟨a, b, c, d, rfl⟩
theorem by4_wd (l : List Nat) (k : Nat) (hx : ∀ b ∈ l, b < 256) (hk : k < l.length / 4) : by4 (wdV l k).toNat = (l.drop (4 * k)).take 4 := by
  have h1 : (wdV l k).toNat = numN ((l.drop (4 * k)).take 4) := by
    unfold wdV
    rw [BitVec.toNat_ofNat]
    exact Nat.mod_eq_of_lt (wd_lt l k hx)
  rw [h1]
  obtain ⟨a, b, c, d, e⟩ := list4 ((l.drop (4 * k)).take 4) (by rw [List.length_take, List.length_drop]; omega)
  have hb : ∀ y ∈ (l.drop (4 * k)).take 4, y < 256 := fun y hy => hx y (List.mem_of_mem_drop (List.mem_of_mem_take hy))
  rw [e] at hb ⊢
  exact by4_num a b c d (hb a (by simp)) (hb b (by simp)) (hb c (by simp)) (hb d (by simp))
theorem fm_mp (l : List Nat) (hx : ∀ b ∈ l, b < 256) : ∀ (c k : Nat), k + c ≤ l.length / 4 → ((mpL l k c).flatMap fun x => by4 x.toNat) = (l.drop (4 * k)).take (4 * c)
  | 0, k, h => by simp [mpL]
  | c + 1, k, h => by
    rw [mpL_succ, List.flatMap_append, fm_mp l hx c k (by omega)]
    show _ ++ (by4 (wdV l (k + c)).toNat ++ []) = _
    rw [List.append_nil, by4_wd l (k + c) hx (by omega), Nat.mul_succ, List.take_add, List.drop_drop, Nat.mul_add]
theorem mpL_cons (l : List Nat) (k c : Nat) : wdV l k :: mpL l (k + 1) c = mpL l k (c + 1) := by
  unfold mpL
  rw [List.range_succ_eq_map]
  simp only [List.map_cons, List.map_map, Nat.add_zero, List.cons.injEq, true_and]
  apply List.map_congr_left
  intro j _
  simp only [Function.comp]
  congr 1
  omega
theorem dcE_stand {l : List Nat} {a : Int} (h : dcE l a = 0) : 0 ≤ a ∧ a.toNat < l.length / 4 ∧ (rdP l a.toNat).2 = 0 := by
  unfold dcE at h
  by_cases c : stB l.length a 1 = true
  · rw [if_pos c] at h
    unfold stB at c
    simp at c
    exact ⟨c.1, by omega, h⟩
  · rw [if_neg c] at h; omega
/-- What is read is laid. -/
theorem enc_dec (l : List Nat) (a : Int) (hx : ∀ b ∈ l, b < 256) (h : dcE l a = 0) :
    chkE (dcI l a).op (dcI l a).n (dcI l a).m = 0 ∧ wdB (dcI l a).op.toNat (dcI l a).n.toNat (dcI l a).m = (l.drop (4 * a.toNat)).take (4 * (1 + (dcI l a).m.length)) ∧ a.toNat + 1 + (dcI l a).m.length ≤ l.length / 4 := by
  obtain ⟨ha, hk, hr⟩ := dcE_stand h
  have hI : dcI l a = ⟨insO l a.toNat, insN l a.toNat, (rdP l a.toNat).1⟩ := by unfold dcI; rw [if_pos h]
  rw [hI]
  simp only
  obtain ⟨k, hkd⟩ : ∃ k, k = a.toNat := ⟨_, rfl⟩
  rw [← hkd] at hk hr ⊢
  have hX0 := uI_lo (wdV l k)
  have hX1 := uI_up (wdV l k)
  obtain ⟨O, hO⟩ : ∃ O : Nat, (O : Int) = insO l k := ⟨(insO l k).toNat, by unfold insO; omega⟩
  obtain ⟨N, hN⟩ : ∃ N : Nat, (N : Int) = insN l k := ⟨(insN l k).toNat, by unfold insN; omega⟩
  have hf : fstW O N = wdV l k := by
    apply uI_inj
    have e : ((O * 16777216 + N : Nat) : Int) = uI (wdV l k) := by
      have h1 : (O : Int) = uI (wdV l k) / 16777216 := hO
      have h2 : (N : Int) = uI (wdV l k) % 16777216 := hN
      omega
    rw [← e]
    exact uI_of _ (by omega)
  have key : ∀ m, m = (rdP l k).1 → chkE (O : Int) (N : Int) m = 0 ∧ m = mpL l (k + 1) m.length ∧ k + 1 + m.length ≤ l.length / 4 := by
    intro m hm
    unfold rdP at hr hm
    rw [← hO, ← hN] at hr hm
    by_cases c1 : isOp (O : Int) = true
    · rw [if_pos c1] at hr hm
      by_cases c2 : (N : Int) ≤ kRm (O : Int)
      · rw [if_pos c2] at hr hm
        by_cases c3 : tkB (O : Int) (N : Int) = true
        · rw [if_pos c3] at hr hm
          have c3' := c3
          unfold tkB at c3'
          unfold chkE
          rw [if_pos c1, if_pos c3']
          by_cases c4 : (O : Int) = 2
          · rw [if_pos c4] at hr hm ⊢
            unfold rmP at hr hm
            rw [Int.toNat_natCast] at hr hm ⊢
            by_cases c5 : k + 1 + mwN N ≤ l.length / 4
            · rw [if_pos c5] at hr hm
              by_cases c6 : isMapB (mpL l (k + 1) (mwN N)) N = true
              · rw [if_pos c6] at hr hm
                simp only at hm
                have hml : m.length = mwN N := by rw [hm, mpL_len]
                refine ⟨by rw [hm, if_pos c6], by rw [hml]; exact hm, by omega⟩
              · rw [if_neg c6] at hr; simp at hr
            · rw [if_neg c5] at hr; simp at hr
          · rw [if_neg c4] at hr hm ⊢
            simp only at hm
            subst hm
            exact ⟨by rw [if_pos rfl], by simp [mpL], by simp; omega⟩
        · rw [if_neg c3] at hr; simp at hr
      · rw [if_neg c2] at hr; simp at hr
    · rw [if_neg c1] at hr; simp at hr
  obtain ⟨k1, k2, k3⟩ := key _ rfl
  rw [← hO, ← hN, Int.toNat_natCast, Int.toNat_natCast]
  refine ⟨k1, ?_, k3⟩
  unfold wdB
  obtain ⟨c, hc⟩ : ∃ c, c = (rdP l k).1.length := ⟨_, rfl⟩
  rw [← hc] at k2 k3 ⊢
  rw [k2, hf, mpL_cons, fm_mp l hx (c + 1) k (by omega), Nat.add_comm c 1]
/-- One byte short there is no map, or no word. -/
theorem dec_cut (o n : Int) (m : List (BitVec 32)) (h : chkE o n m = 0) : dcE ((wdB o.toNat n.toNat m).take (4 * (1 + m.length) - 1)) 0 = 30 := by
  obtain ⟨ho, hn, hm⟩ := chk_zero h
  obtain ⟨L, hL⟩ : ∃ L, L = (wdB o.toNat n.toNat m).take (4 * (1 + m.length) - 1) := ⟨_, rfl⟩
  have hlen : L.length = 4 * (1 + m.length) - 1 := by rw [hL, List.length_take, wdB_len]; omega
  rw [← hL]
  by_cases hm0 : m = []
  · have : stB L.length 0 1 = false := by
      unfold stB
      rw [hm0] at hlen
      simp at hlen ⊢
      omega
    unfold dcE
    rw [if_neg (by rw [this]; decide)]
  · have hmp : 0 < m.length := List.length_pos_iff.2 hm0
    have hall : o = 2 ∧ isMapB m n.toNat = true ∧ tkB o n = true ∧ isOp o = true := by
      unfold chkE at h
      by_cases c1 : isOp o = true
      · rw [if_pos c1] at h
        by_cases c2 : (decide (kLo o ≤ n) && decide (n ≤ kHi o)) = true
        · rw [if_pos c2] at h
          by_cases c3 : o = 2
          · rw [if_pos c3] at h
            by_cases c4 : isMapB m n.toNat = true
            · exact ⟨c3, c4, c2, c1⟩
            · rw [if_neg c4] at h; omega
          · rw [if_neg c3, if_neg hm0] at h; omega
        · rw [if_neg c2] at h; omega
      · rw [if_neg c1] at h; omega
    have hop := hall.1
    have hmap := hall.2
    obtain ⟨O, rfl⟩ : ∃ O : Nat, o = (O : Int) := ⟨o.toNat, by omega⟩
    obtain ⟨N, rfl⟩ : ∃ N : Nat, n = (N : Int) := ⟨n.toNat, by omega⟩
    rw [Int.toNat_natCast, Int.toNat_natCast] at hL
    rw [Int.toNat_natCast] at hmap
    have h0 : wdV L 0 = fstW O N := by
      have e : L = by4 (fstW O N).toNat ++ ((m.flatMap fun x => by4 x.toNat).take (4 * m.length - 1)) := by
        rw [hL]
        unfold wdB
        rw [List.flatMap_cons, List.take_append]
        congr 1
        · exact List.take_of_length_le (by show 4 ≤ _; omega)
        · congr 1; show _ - 4 = _; omega
      rw [e]
      exact wdV_zero _ _
    have hu : uI (wdV L 0) = ((O * 16777216 + N : Nat) : Int) := by rw [h0]; exact fst_uI O N (by omega) (by omega)
    have hO : insO L 0 = (O : Int) := by unfold insO; rw [hu]; omega
    have hN : insN L 0 = (N : Int) := by unfold insN; rw [hu]; omega
    have hs : stB L.length 0 1 = true := by unfold stB; simp; omega
    have hml : m.length = mwN N := by
      have := hmap.1
      unfold isMapB at this
      simp only [Bool.and_eq_true, decide_eq_true_eq] at this
      exact this.1
    have hrm : (N : Int) ≤ kRm (O : Int) := by
      have := hmap.2.1
      unfold tkB at this
      simp only [Bool.and_eq_true, decide_eq_true_eq] at this
      exact Int.le_trans this.2 (kHi_Rm _)
    unfold dcE
    rw [if_pos hs]
    show (rdP L 0).2 = 30
    unfold rdP
    rw [hO, hN, if_pos hmap.2.2, if_pos hrm, if_pos hmap.2.1, if_pos hop, Int.toNat_natCast]
    unfold rmP
    rw [if_neg (by omega)]
end Go.Proofs.Ytnaihocdemcejaa
/-
  The law's known.
-/
namespace Go.Proofs.Ytnaihocdemcejaa
open Go.RowKit
set_option linter.unusedSimpArgs false
set_option linter.unusedVariables false

theorem kn_chk : chkE 4 258 [] = 0 := by decide +kernel
theorem kn_en : enL [] 4 258 [] = [4, 0, 1, 2] := by decide +kernel
theorem kn_dc : dcE [4, 0, 1, 2] 0 = 0 ∧ dcI [4, 0, 1, 2] 0 = ⟨4, 258, []⟩ ∧ dcZ [4, 0, 1, 2] 0 = 1 := by
  have h := dec_enc [] [] 0 4 258 [] rfl kn_chk
  have e : ([] ++ wdB (4 : Int).toNat (258 : Int).toNat [] ++ []) = [4, 0, 1, 2] := by decide +kernel
  rw [e] at h
  exact h
theorem rowA_nil (w : World) (s : Nat) : RowA w s (.slice none 0 0) 0 [] := ⟨by simp, none, 0, rfl, Nat.le_refl _, .inl ⟨rfl, rfl, rfl⟩⟩
theorem rwx_nil {α : Type} {f : α → Value} (w : World) : RwX f w (.slice none 0 0) [] := ⟨none, 0, rfl, Nat.le_refl _, .inl rfl⟩
set_option maxRecDepth 100000 in
set_option maxHeartbeats 8000000 in
theorem known14 (w : World) :
    Calls Try.prog 9 #[] w fun e w' => e = .returned (.bool true) ∧ Below w.heap.size w w' := by
  have K1 := encode_any (.slice none 0 0) [] 4 258 (.slice none 0 0) [] w (rowA_nil w 1) (rwx_nil w) (by simp) (by simp)
  rw [kn_chk, kn_en] at K1
  go_enter Try.func9, Try.ntmps9
  go_wp2_with fail
  refine K1.mono ?_
  rintro e w1 ⟨v1, rfl, hO1, hb1⟩
  obtain ⟨ao, c, hv⟩ := own_form hO1
  subst hv
  have hR1 : RwX cB w1 (.slice ao 4 c) [4, 0, 1, 2] := own_rwx (l := [4, 0, 1, 2]) hO1
  have hby : ∀ b ∈ [4, 0, 1, 2], b < 256 := by decide
  have K2 := decode_any (.slice ao 4 c) [4, 0, 1, 2] 0 w1 hR1 (by simp) hby
  rw [kn_dc.1, kn_dc.2.1, kn_dc.2.2] at K2
  have HB1 := hid13 hb1
  have HR1 := hid13 hR1
  have HBy := hid13 hby
  clear K1 hO1 hb1 hR1 hby
  go_wp2_with fail
  refine K2.mono ?_
  rintro e w2 ⟨v2, rfl, hO2, hb2⟩
  obtain ⟨ao2, c2, hv2⟩ := own_form hO2
  subst hv2
  unfold insV
  have HB2 := hid13 (keepb hb2 HB1.out)
  have q3 := bl1 w2 (.cells #[.int .i64 4, .int .i64 258, .slice ao2 0 c2] 24)
  have hcv := conv13 ((HR1.out.below hb2).below q3) HBy.out
  have HB3 := hid13 (keepb q3 HB2.out)
  have hs : bsA [4, 0, 1, 2] = ⟨#[4, 0, 1, 2]⟩ := rfl
  rw [hs] at hcv
  clear K2 hO2 hb2 HB1 HR1 q3 HB2
  go_wp2
  go_ret
  exact ⟨rfl, HB3.out⟩
end Go.Proofs.Ytnaihocdemcejaa
/-
  The law CodeTurned.
-/
namespace Go.Proofs.Ytnaihocdemcejaa
open Go.RowKit
set_option linter.unusedSimpArgs false
set_option linter.unusedVariables false

theorem fm_lt : ∀ (m : List (BitVec 32)), ∀ b ∈ (m.flatMap fun x => by4 x.toNat), b < 256
  | [], b, h => by simp at h
  | x :: m, b, h => by
    rw [List.flatMap_cons, List.mem_append] at h
    rcases h with h | h
    · exact by4_lt _ x.isLt b h
    · exact fm_lt m b h
theorem wdB_lt (o k : Nat) (m : List (BitVec 32)) : ∀ b ∈ wdB o k m, b < 256 := fm_lt _
/-- One byte turned: none, or another one. -/
theorem turned_ne (o n : Int) (m : List (BitVec 32)) (K x b : Nat) (hK : (wdB o.toNat n.toNat m)[K]? = some x) (hb : b < 256) (hne : b ≠ x) (h : dcE ((wdB o.toNat n.toNat m).set K b) 0 = 0) : dcI ((wdB o.toNat n.toNat m).set K b) 0 ≠ ⟨o, n, m⟩ := by
  intro he
  obtain ⟨Y, hY⟩ : ∃ Y, Y = wdB o.toNat n.toNat m := ⟨_, rfl⟩
  rw [← hY] at hK h he
  have hx : ∀ c ∈ Y.set K b, c < 256 := by
    intro c hc
    rcases List.mem_or_eq_of_mem_set hc with q | q
    · rw [hY] at q; exact wdB_lt _ _ _ c q
    · rw [q]; exact hb
  obtain ⟨-, h2, -⟩ := enc_dec _ 0 hx h
  rw [he] at h2
  simp only at h2
  rw [← hY, show (0 : Int).toNat = 0 from rfl, Nat.mul_zero, List.drop_zero, List.take_of_length_le (by rw [List.length_set, hY, wdB_len]; exact Nat.le_refl _)] at h2
  have h3 : (Y.set K b)[K]? = some x := by rw [← h2]; exact hK
  rw [List.getElem?_set_self (List.getElem?_eq_some_iff.1 hK).1] at h3
  injection h3 with h3
  exact hne h3
theorem rwx_cut {α : Type} {f : α → Value} {W : World} {ao : Option Addr} {n c : Nat} {l : List α} (h : RwX f W (.slice ao n c) l) (k : Nat) (hk : k ≤ l.length) : RwX f W (.slice ao k c) (l.take k) := by
  have := rwx_take (l := l.take k) (m := l.drop k) (n := n) (by rw [List.take_append_drop]; exact h)
  rw [List.length_take, Nat.min_eq_left hk] at this
  exact this
set_option maxRecDepth 100000 in
set_option maxHeartbeats 16000000 in
theorem codeTurned_any (o n : Int) (vm : Value) (m : List (BitVec 32)) (a : Int) (y : Nat) (w : World) (hm : RwX cU w vm m) (ha0 : -9223372036854775808 ≤ a) (ha1 : a ≤ 9223372036854775807) (hy : y < 256) :
    Calls Try.prog 8 #[.agg #[.int .i64 o, .int .i64 n, vm], .int .i64 a, .int .u8 (y : Int)] w fun e w' => e = .returned (.bool true) ∧ Below w.heap.size w w' := by
  obtain ⟨i0, hi, hz0, hz1, hz2⟩ := info13 Try.infoB13
  obtain ⟨ao, c, hvm, -⟩ := id hm
  have q1 := bl1 w (.cells #[.int .i64 o, .int .i64 n, vm] 24)
  have HA1 := hid13 (ati_new w o n vm 24)
  have HB1 := hid13 q1
  have HM := hid13 hm
  subst hvm
  clear q1 hm ha0 ha1
  go_enter Try.func8, Try.ntmps8
  go_wp2_with fail
  refine (known14 _).mono ?_
  rintro e w2 ⟨rfl, hb2⟩
  have HB2 := hid13 (keepb hb2 HB1.out)
  have HA2 := hid13 (HA1.out.below hb2)
  obtain ⟨b0, b1, b2⟩ := HA2.out
  clear HA1 HB1 hb2
  by_cases h1 : (4096 : Int) < (m.length : Int)
  · go_wp2
    go_ret
    exact ⟨rfl, HB2.out⟩
  by_cases h2 : y = 0
  · subst h2
    go_wp2
    go_ret
    exact ⟨rfl, HB2.out⟩
  have h2' : ((y : Int) == 0) = false := by simp; omega
  have K3 := encode_any (.slice none 0 0) [] o n (.slice ao m.length c) m w2 (rowA_nil w2 1) (HM.out.below HB2.out) (by simp) (by omega)
  go_wp2_with fail
  refine K3.mono ?_
  rintro e w3 ⟨v3, rfl, hO3, hb3⟩
  have HB3 := hid13 (keepb hb3 HB2.out)
  have HA3 := hid13 (HA2.out.below hb3)
  clear b0 b1 b2 K3 hb3 HA2
  by_cases h0 : chkE o n m = 0
  · have e3 : enL [] o n m = wdB o.toNat n.toNat m := by unfold enL; rw [if_pos h0]; rfl
    rw [e3] at hO3
    rw [h0]
    obtain ⟨Y, hY⟩ : ∃ Y, Y = wdB o.toNat n.toNat m := ⟨_, rfl⟩
    have hYl : Y.length = 4 * (1 + m.length) := by rw [hY, wdB_len]
    have hml : m.length ≤ 4096 := by omega
    have hYx : ∀ b ∈ Y, b < 256 := by rw [hY]; exact wdB_lt _ _ _
    rw [← hY] at hO3
    have hO3' := hO3
    obtain ⟨g3, c3, hv3, -, -⟩ := hO3'.form (by omega)
    subst hv3
    obtain ⟨L, hLd⟩ : ∃ L, L = Y.length := ⟨_, rfl⟩
    rw [← hLd] at hO3 ⊢
    have hLi : (L : Int) ≤ 100000 := by omega
    have hL4 : 4 ≤ L := by omega
    have HY : Hid (Y = wdB o.toNat n.toNat m ∧ L = Y.length ∧ L = 4 * (1 + m.length) ∧ m.length ≤ 4096 ∧ chkE o n m = 0) := ⟨hY, hLd, by omega, hml, h0⟩
    have HYx := hid13 hYx
    have hq4 := bl1 w3 (.cells #[] 5)
    have hR3 : RowA w3 1 (.slice (some ⟨g3, 0, none⟩) L c3) L (Y.map cB) := own_rowA hO3
    have HR4 := hid13 (hR3.below hq4)
    have HO4 : Hid ((w3.alloc (.cells #[] 5)).ownsRow w3.heap.size 5 1 (.slice (some ⟨w3.heap.size, 0, none⟩) 0 0) 0 []) := World.ownsRow_made w3 #[] 0 (Nat.le_refl _) (by unfold maxLen; omega) (by simp)
    have HO3 := hid13 hO3
    clear hO3 hO3' hR3 hY hYx hYl h0 e3 hml hLd h1
    go_wp2_with (at_builtin; apply stopHere9)
    refine (show wpList _ _ _ _ _ _ from ?_)
    refine wpList_append_rowA rfl _ _ 25 rfl w3.heap.size 5 i0 (.int .u8 0) 1 1 Try.underlying25 hi hz0 hz1 hz2 rfl (by decide) _ 0 [] rfl HO4.out _ L (Y.map cB) rfl HR4.out (cB_one Y) (by unfold maxLen; omega) (by omega) hq4.size ?_
    intro ao5 c5 w5 hO5 hg5
    rw [Nat.zero_add, List.nil_append] at hO5
    rw [Nat.zero_add]
    have hB5 : Below w3.heap.size w3 w5 := hq4.grown hg5 hq4.size (fun z hz => (HO4.out.lt z hz).1)
    obtain ⟨g5, c5', hv5, hg5a, hg5b⟩ := hO5.form (by omega)
    injection hv5 with e1 e2 e3
    subst e1 e3
    have HO5 := hid13 hO5
    have HB5 := hid13 hB5
    have hW := wth_in a (L : Int) (by omega)
    obtain ⟨k, hk⟩ : ∃ k : Nat, wth a (L : Int) = (k : Int) := ⟨(wth a (L : Int)).toNat, by omega⟩
    have K6 := within14 a (L : Int) (by omega) (by omega) w5
    rw [hk] at K6 hW
    have hkL : k < L := by omega
    have hkL' : (k : Int) < (L : Int) := by omega
    obtain ⟨x, hx⟩ : ∃ x, Y[k]? = some x := ⟨Y[k]'(by have := HY.out.2.1; omega), by simp [show k < Y.length by have := HY.out.2.1; omega]⟩
    have hx8 : x < 256 := HYx.out x (List.mem_of_getElem? hx)
    obtain ⟨b, hbd⟩ : ∃ b, b = (x + y) % 256 := ⟨_, rfl⟩
    have hw8 : IntKind.u8.wrap ((x : Int) + (y : Int)) = (b : Int) := by simp [IntKind.wrap, IntKind.bits, IntKind.signed]; omega
    have hbx : b ≠ x := by omega
    have hb8 : b < 256 := by omega
    have c6 : w5.cell? ⟨g5, k, none⟩ = some (.int .u8 (x : Int)) := by
      rw [hO5.cellAt k (by omega), List.getElem?_map, hx]; rfl
    have f6 := hO5.frozenAt k
    have HX : Hid (Y[k]? = some x ∧ b < 256 ∧ b ≠ x) := ⟨hx, hb8, hbx⟩
    have hst := (hO5.stored k (.int .u8 (b : Int))).1
    have e7 : (Y.map cB).set k (.int .u8 (b : Int)) = (Y.set k b).map cB := by rw [List.map_set]; rfl
    rw [e7] at hst
    have HO7 := hid13 hst
    have HB7 : Hid (Below w3.heap.size w3 (w5.setCell ⟨g5, k, none⟩ (.int .u8 (b : Int)))) := hB5.setCell (p := ⟨g5, k, none⟩) hg5a _
    clear hO5 hg5 hB5 HR4 HO4 hq4 hW hk hx hbd hbx hst e7 hg5a hg5b HO5 HB5
    go_wp2_with (go_at_call 20; refine K6.mono ?_; rintro e w6 ⟨rfl, hw6⟩; replace hw6 := hw6.symm; subst hw6)
    obtain ⟨w7, hw7⟩ : ∃ w7, w7 = w5.setCell ⟨g5, k, none⟩ (.int .u8 (b : Int)) := ⟨_, rfl⟩
    rw [← hw7] at HO7 HB7 ⊢
    have hl7 : (Y.set k b).length = L := by rw [List.length_set]; exact HY.out.2.1.symm
    have hR7 : RwX cB w7 (.slice (some ⟨g5, 0, none⟩) L c5) (Y.set k b) := by
      have := own_rwx (l := Y.set k b) (f := cB) (w := w7) (v := .slice (some ⟨g5, 0, none⟩) L c5) (by rw [hl7]; exact HO7.out)
      exact this
    have hx7 : ∀ z ∈ Y.set k b, z < 256 := by
      intro z hz
      rcases List.mem_or_eq_of_mem_set hz with q | q
      · exact HYx.out z q
      · rw [q]; exact hb8
    have K7 := decode_any _ (Y.set k b) 0 w7 hR7 (by omega) hx7
    have HB7w := hid13 (keepb HB7.out HB3.out)
    have HA7 := hid13 (HA3.out.below HB7.out)
    have HO37 := hid13 (own_b13 HB7.out HO3.out)
    clear HO7 hR7 hx7 hl7 hw7 c6 f6 hw8 hb8 hx8 K6 HO3 HA3 HB3
    refine K7.mono ?_
    rintro e w8 ⟨v8, rfl, hO8, hb8⟩
    have HB8 := hid13 (keepb hb8 HB7w.out)
    have HA8 := hid13 (HA7.out.below hb8)
    have HO38 := hid13 (own_b13 hb8 HO37.out)
    have HO8 := hid13 hO8
    have HTn := hid13 (fun h => turned_ne o n m k x b (by rw [← HY.out.1]; exact HX.out.1) HX.out.2.1 HX.out.2.2 (by rw [← HY.out.1]; exact h))
    rw [← HY.out.1] at HTn
    obtain ⟨I, hI⟩ : ∃ I, I = dcI (Y.set k b) 0 := ⟨_, rfl⟩
    obtain ⟨E, hE⟩ : ∃ E, E = dcE (Y.set k b) 0 := ⟨_, rfl⟩
    obtain ⟨Z, hZ⟩ : ∃ Z, Z = dcZ (Y.set k b) 0 := ⟨_, rfl⟩
    rw [← hI] at HO8 HTn ⊢
    rw [← hE] at HTn ⊢
    rw [← hZ]
    have hIm : Hid (I.m.length ≤ 524288) := by
      show _ ≤ _
      rw [hI]
      unfold dcI
      split
      · exact rdP_len _ _
      · simp
    obtain ⟨ao8, c8, hv8⟩ := own_form HO8.out
    subst hv8
    unfold insV
    have q9 := bl1 w8 (.cells #[.int .i64 I.op, .int .i64 I.n, .slice ao8 I.m.length c8] 24)
    have HI9 := hid13 (ati_new w8 I.op I.n (.slice ao8 I.m.length c8) 24)
    have HB9 := hid13 (keepb q9 HB8.out)
    have HA9 := hid13 (HA8.out.below q9)
    have HO39 := hid13 (own_b13 q9 HO38.out)
    have HO9 := hid13 (own_rwx (own_b13 q9 HO8.out))
    obtain ⟨w9, hw9⟩ : ∃ w9, w9 = w8.alloc (.cells #[.int .i64 I.op, .int .i64 I.n, .slice ao8 I.m.length c8] 24) := ⟨_, rfl⟩
    rw [← hw9] at HI9 HB9 HA9 HO39 HO9
    obtain ⟨L1, hL1⟩ : ∃ L1 : Nat, (L : Int) - 1 = (L1 : Int) := ⟨L - 1, by omega⟩
    have wL1 : IntKind.i64.wrap ((L : Int) - 1) = (L1 : Int) := by rw [IntKind.wrap_i64]; omega
    have hc3 : (L1 : Int) ≤ (c3 : Int) := by
      obtain ⟨-, ao', c', e, hc, -⟩ := own_row HO39.out
      injection e with e1 e2 e3
      subst e3
      omega
    have hR10 : RwX cB w9 (.slice (some ⟨g3, 0, none⟩) L1 c3) (Y.take L1) := by
      have h2 : w9.ownsRow w2.heap.size 5 1 (.slice (some ⟨g3, 0, none⟩) L c3) Y.length (Y.map cB) := by rw [← HY.out.2.1]; exact HO39.out
      exact rwx_cut (own_rwx h2) L1 (by have := HY.out.2.1; omega)
    have hT10 : (Y.take L1).length = L1 := by rw [List.length_take]; have := HY.out.2.1; omega
    have K10 := decode_any _ (Y.take L1) 0 w9 hR10 (by omega) (fun z hz => HYx.out z (List.mem_of_mem_take hz))
    have hcut : dcE (Y.take L1) 0 = 30 := by
      have := dec_cut o n m HY.out.2.2.2.2
      rw [← HY.out.1, show 4 * (1 + m.length) - 1 = L1 by have := HY.out.2.2.1; omega] at this
      exact this
    have hcI : dcI (Y.take L1) 0 = ⟨0, 0, []⟩ := by unfold dcI; rw [if_neg (by rw [hcut]; decide)]
    have hcZ : dcZ (Y.take L1) 0 = 0 := by unfold dcZ; rw [if_neg (by rw [hcut]; decide)]
    rw [hcut, hcI, hcZ] at K10
    clear q9 hR10 hT10 hcut hcI hcZ HO8 HO38 HA8 HB8 hO8 hb8 K7 HO37 HA7 HB7w HB7 hI hE hZ HYx HX
    go_wp2_with fail
    rw [← hw9]
    refine K10.mono ?_
    rintro e w11 ⟨v11, rfl, hO11, hb11⟩
    obtain ⟨ao11, c11, hv11⟩ := own_form hO11
    subst hv11
    unfold insV
    have q12 := bl1 w11 (.cells #[.int .i64 0, .int .i64 0, .slice ao11 0 c11] 24)
    have HB12 := hid13 (keepb q12 (keepb hb11 HB9.out))
    have HA12 := hid13 ((HA9.out.below hb11).below q12)
    have HI12 := hid13 ((HI9.out.below hb11).below q12)
    have HO12 := hid13 ((HO9.out.below hb11).below q12)
    have HM12 := hid13 (HM.out.below HB12.out)
    obtain ⟨a0, a1, a2⟩ := HA12.out
    obtain ⟨i0', i1', i2'⟩ := HI12.out
    have KS := same_any I ⟨o, n, m⟩ (.slice ao8 I.m.length c8) (.slice ao m.length c) _ HO12.out HM12.out (by have := hIm.out; omega)
    unfold insV at KS
    clear q12 hb11 hO11 K10 HO39 HA9 HI9 HO9 HB9 hw9 HA12 HI12 HO12 HM12 hIm
    by_cases hE : E = 0
    · have hsb : sameB I ⟨o, n, m⟩ = false := by
        cases hh : sameB I ⟨o, n, m⟩ with
        | false => rfl
        | true => exact absurd ((sameB_iff _ _).1 hh) (HTn.out hE)
      rw [hsb] at KS
      subst hE
      clear HTn hsb
      go_wp2_with fail
      refine KS.mono ?_
      rintro e w13 ⟨rfl, hb13⟩
      have HB13 := hid13 (keepb hb13 HB12.out)
      clear hb13 KS a0 a1 a2 i0' i1' i2'
      go_wp2
      go_ret
      exact ⟨rfl, HB13.out⟩
    · have hE' : (E != 0) = true := by simpa using hE
      clear HTn KS hE
      go_wp2
      go_ret
      exact ⟨rfl, HB12.out⟩
  · go_wp2
    go_ret
    exact ⟨rfl, HB3.out⟩
end Go.Proofs.Ytnaihocdemcejaa
