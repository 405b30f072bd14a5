/-
  Part 9 of the proof: 4 texts, one behind the other.
-/
import Derived.Test.YtnaihocdemcejabPart8
import Derived.Test.YtnaihocdemcejabPart2
import Derived.Deep.Slices
import Derived.Carry
import Derived.SizedLaws
import Derived.ProofKit
import Derived.Lib.SmallJoins
/-
  Plain: what Encode lays Decode reads, and back.
-/
namespace Go.Proofs.Ytnaihocdemcejab
set_option linter.unusedSimpArgs false
set_option linter.unusedVariables false

theorem numN_by4 (x : BitVec 32) : numN (by4 x.toNat) = x.toNat := num4 _ x.isLt
theorem wdV_zero (x : BitVec 32) (z : List Nat) : wdV (by4 x.toNat ++ z) 0 = x := by
  unfold wdV
  have e : (((by4 x.toNat ++ z).drop (4 * 0)).take 4) = by4 x.toNat := by
    rw [Nat.mul_zero, List.drop_zero]
    exact List.take_left' rfl
  rw [e, numN_by4]
  simp
theorem wdV_app (l X : List Nat) (a j : Nat) (h : l.length = 4 * a) : wdV (l ++ X) (a + j) = wdV X j := by
  unfold wdV
  rw [Nat.mul_add, ← h, ← List.drop_drop, List.drop_left]
theorem wdV_succ (x : BitVec 32) (z : List Nat) (j : Nat) : wdV (by4 x.toNat ++ z) (j + 1) = wdV z j := by
  rw [Nat.add_comm j 1]
  exact wdV_app (by4 x.toNat) z 1 j rfl
theorem wdV_fm : ∀ (ws : List (BitVec 32)) (z : List Nat) (j : Nat) (x : BitVec 32), ws[j]? = some x → wdV ((ws.flatMap fun x => by4 x.toNat) ++ z) j = x
  | [], z, j, x, h => by simp at h
  | y :: ws, z, 0, x, h => by
    simp at h
    subst h
    rw [List.flatMap_cons, List.append_assoc]
    exact wdV_zero y _
  | y :: ws, z, j + 1, x, h => by
    rw [List.flatMap_cons, List.append_assoc, wdV_succ]
    exact wdV_fm ws z j x (by simpa using h)
theorem kHi_Rm (o : Int) : kHi o ≤ kRm o := by
  unfold kHi kRm
  split
  · omega
  · split <;> omega
/-- What is laid is read. -/
theorem dec_enc (l z : List Nat) (a : Nat) (o n : Int) (m : List (BitVec 32)) (hl : l.length = 4 * a) (h : chkE o n m = 0) :
    dcE (l ++ wdB o.toNat n.toNat m ++ z) (a : Int) = 0 ∧ dcI (l ++ wdB o.toNat n.toNat m ++ z) (a : Int) = ⟨o, n, m⟩ ∧ dcZ (l ++ wdB o.toNat n.toNat m ++ z) (a : Int) = 1 + (m.length : Int) := by
  obtain ⟨ho, hn, hm⟩ := chk_zero h
  obtain ⟨O, rfl⟩ : ∃ O : Nat, o = (O : Int) := ⟨o.toNat, by omega⟩
  obtain ⟨N, rfl⟩ : ∃ N : Nat, n = (N : Int) := ⟨n.toNat, by omega⟩
  rw [Int.toNat_natCast, Int.toNat_natCast]
  obtain ⟨L, hL⟩ : ∃ L, L = l ++ wdB O N m ++ z := ⟨_, rfl⟩
  rw [← hL]
  have hlen : L.length = 4 * a + 4 * (1 + m.length) + z.length := by rw [hL, List.length_append, List.length_append, hl, wdB_len]
  have hw : ∀ j x, (fstW O N :: m)[j]? = some x → wdV L (a + j) = x := by
    intro j x hj
    rw [hL, List.append_assoc, wdV_app l _ a j hl]
    exact wdV_fm _ z j x hj
  have h0 : wdV L a = fstW O N := hw 0 _ rfl
  have hu : uI (wdV L a) = ((O * 16777216 + N : Nat) : Int) := by rw [h0]; exact fst_uI O N (by omega) (by omega)
  have hO : insO L a = (O : Int) := by unfold insO; rw [hu]; omega
  have hN : insN L a = (N : Int) := by unfold insN; rw [hu]; omega
  have hs : stB L.length (a : Int) 1 = true := by unfold stB; simp; omega
  have hop : isOp (O : Int) = true := by unfold isOp; simp; omega
  have htk : tkB (O : Int) (N : Int) = true := by
    unfold tkB
    unfold chkE at h
    rw [if_pos hop] at h
    by_cases c : (decide (kLo (O : Int) ≤ (N : Int)) && decide ((N : Int) ≤ kHi (O : Int))) = true
    · exact c
    · rw [if_neg c] at h; omega
  have hrm : (N : Int) ≤ kRm (O : Int) := by
    unfold tkB at htk
    simp only [Bool.and_eq_true, decide_eq_true_eq] at htk
    exact Int.le_trans htk.2 (kHi_Rm _)
  have hr : rdP L a = (m, 0) := by
    unfold rdP
    rw [hO, hN, if_pos hop, if_pos hrm, if_pos htk, Int.toNat_natCast]
    unfold chkE at h
    have htk' := htk
    unfold tkB at htk'
    rw [if_pos hop, if_pos htk'] at h
    by_cases c : (O : Int) = 2
    · rw [if_pos c] at h ⊢
      rw [Int.toNat_natCast] at h
      have hmp : isMapB m N = true := by
        by_cases c2 : isMapB m N = true
        · exact c2
        · rw [if_neg c2] at h; omega
      have hml : m.length = mwN N := by
        unfold isMapB at hmp
        simp only [Bool.and_eq_true, decide_eq_true_eq] at hmp
        exact hmp.1
      have hmL : mpL L (a + 1) (mwN N) = m := by
        apply List.ext_getElem?
        intro j
        by_cases hj : j < m.length
        · unfold mpL
          rw [List.getElem?_map, List.getElem?_range (by omega), List.getElem?_eq_getElem hj]
          simp only [Option.map_some, Option.some.injEq]
          rw [Nat.add_assoc, Nat.add_comm 1 j]
          exact hw (j + 1) _ (by simp [hj])
        · rw [List.getElem?_eq_none (by rw [mpL_len]; omega), List.getElem?_eq_none (by omega)]
      unfold rmP
      rw [if_pos (by omega), hmL, if_pos hmp]
    · rw [if_neg c] at h ⊢
      by_cases c2 : m = []
      · rw [c2]
      · rw [if_neg c2] at h; omega
  have hE : dcE L (a : Int) = 0 := by unfold dcE; rw [if_pos hs, Int.toNat_natCast, hr]
  have hI : dcI L (a : Int) = ⟨(O : Int), (N : Int), m⟩ := by unfold dcI; rw [if_pos hE, Int.toNat_natCast, hO, hN, hr]
  exact ⟨hE, hI, by unfold dcZ; rw [if_pos hE, hI]⟩
theorem by4_num (a b c d : Nat) (ha : a < 256) (hb : b < 256) (hc : c < 256) (hd : d < 256) : by4 (numN [a, b, c, d]) = [a, b, c, d] := by
  have e : numN [a, b, c, d] = ((((0 * 256 + a) * 256 + b) * 256 + c) * 256 + d) := rfl
  rw [e]
  unfold by4
  congr 1
  · omega
  · congr 1
    · omega
    · congr 1
      · omega
      · congr 1; omega
theorem list4 (l : List Nat) (h : l.length = 4) : ∃ a b c d, l = [a, b, c, d] := by
  match l, h with
  | [a, b, c, d], _ => exact ⟨a, b, c, d, rfl⟩
theorem by4_wd (l : List Nat) (k : Nat) (hx : ∀ b ∈ l, b < 256) (hk : k < l.length / 4) : by4 (wdV l k).toNat = (l.drop (4 * k)).take 4 := by
  have h1 : (wdV l k).toNat = numN ((l.drop (4 * k)).take 4) := by
    unfold wdV
    rw [BitVec.toNat_ofNat]
    exact Nat.mod_eq_of_lt (wd_lt l k hx)
  rw [h1]
  obtain ⟨a, b, c, d, e⟩ := list4 ((l.drop (4 * k)).take 4) (by rw [List.length_take, List.length_drop]; omega)
  have hb : ∀ y ∈ (l.drop (4 * k)).take 4, y < 256 := fun y hy => hx y (List.mem_of_mem_drop (List.mem_of_mem_take hy))
  rw [e] at hb ⊢
  exact by4_num a b c d (hb a (by simp)) (hb b (by simp)) (hb c (by simp)) (hb d (by simp))
theorem fm_mp (l : List Nat) (hx : ∀ b ∈ l, b < 256) : ∀ (c k : Nat), k + c ≤ l.length / 4 → ((mpL l k c).flatMap fun x => by4 x.toNat) = (l.drop (4 * k)).take (4 * c)
  | 0, k, h => by simp [mpL]
  | c + 1, k, h => by
    rw [mpL_succ, List.flatMap_append, fm_mp l hx c k (by omega)]
    show _ ++ (by4 (wdV l (k + c)).toNat ++ []) = _
    rw [List.append_nil, by4_wd l (k + c) hx (by omega), Nat.mul_succ, List.take_add, List.drop_drop, Nat.mul_add]
theorem mpL_cons (l : List Nat) (k c : Nat) : wdV l k :: mpL l (k + 1) c = mpL l k (c + 1) := by
  unfold mpL
  rw [List.range_succ_eq_map]
  simp only [List.map_cons, List.map_map, Nat.add_zero, List.cons.injEq, true_and]
  apply List.map_congr_left
  intro j _
  simp only [Function.comp]
  congr 1
  omega
theorem dcE_stand {l : List Nat} {a : Int} (h : dcE l a = 0) : 0 ≤ a ∧ a.toNat < l.length / 4 ∧ (rdP l a.toNat).2 = 0 := by
  unfold dcE at h
  by_cases c : stB l.length a 1 = true
  · rw [if_pos c] at h
    unfold stB at c
    simp at c
    exact ⟨c.1, by omega, h⟩
  · rw [if_neg c] at h; omega
/-- What is read is laid. -/
theorem enc_dec (l : List Nat) (a : Int) (hx : ∀ b ∈ l, b < 256) (h : dcE l a = 0) :
    chkE (dcI l a).op (dcI l a).n (dcI l a).m = 0 ∧ wdB (dcI l a).op.toNat (dcI l a).n.toNat (dcI l a).m = (l.drop (4 * a.toNat)).take (4 * (1 + (dcI l a).m.length)) ∧ a.toNat + 1 + (dcI l a).m.length ≤ l.length / 4 := by
  obtain ⟨ha, hk, hr⟩ := dcE_stand h
  have hI : dcI l a = ⟨insO l a.toNat, insN l a.toNat, (rdP l a.toNat).1⟩ := by unfold dcI; rw [if_pos h]
  rw [hI]
  simp only
  obtain ⟨k, hkd⟩ : ∃ k, k = a.toNat := ⟨_, rfl⟩
  rw [← hkd] at hk hr ⊢
  have hX0 := uI_lo (wdV l k)
  have hX1 := uI_up (wdV l k)
  obtain ⟨O, hO⟩ : ∃ O : Nat, (O : Int) = insO l k := ⟨(insO l k).toNat, by unfold insO; omega⟩
  obtain ⟨N, hN⟩ : ∃ N : Nat, (N : Int) = insN l k := ⟨(insN l k).toNat, by unfold insN; omega⟩
  have hf : fstW O N = wdV l k := by
    apply uI_inj
    have e : ((O * 16777216 + N : Nat) : Int) = uI (wdV l k) := by
      have h1 : (O : Int) = uI (wdV l k) / 16777216 := hO
      have h2 : (N : Int) = uI (wdV l k) % 16777216 := hN
      omega
    rw [← e]
    exact uI_of _ (by omega)
  have key : ∀ m, m = (rdP l k).1 → chkE (O : Int) (N : Int) m = 0 ∧ m = mpL l (k + 1) m.length ∧ k + 1 + m.length ≤ l.length / 4 := by
    intro m hm
    unfold rdP at hr hm
    rw [← hO, ← hN] at hr hm
    by_cases c1 : isOp (O : Int) = true
    · rw [if_pos c1] at hr hm
      by_cases c2 : (N : Int) ≤ kRm (O : Int)
      · rw [if_pos c2] at hr hm
        by_cases c3 : tkB (O : Int) (N : Int) = true
        · rw [if_pos c3] at hr hm
          have c3' := c3
          unfold tkB at c3'
          unfold chkE
          rw [if_pos c1, if_pos c3']
          by_cases c4 : (O : Int) = 2
          · rw [if_pos c4] at hr hm ⊢
            unfold rmP at hr hm
            rw [Int.toNat_natCast] at hr hm ⊢
            by_cases c5 : k + 1 + mwN N ≤ l.length / 4
            · rw [if_pos c5] at hr hm
              by_cases c6 : isMapB (mpL l (k + 1) (mwN N)) N = true
              · rw [if_pos c6] at hr hm
                simp only at hm
                have hml : m.length = mwN N := by rw [hm, mpL_len]
                refine ⟨by rw [hm, if_pos c6], by rw [hml]; exact hm, by omega⟩
              · rw [if_neg c6] at hr; simp at hr
            · rw [if_neg c5] at hr; simp at hr
          · rw [if_neg c4] at hr hm ⊢
            simp only at hm
            subst hm
            exact ⟨by rw [if_pos rfl], by simp [mpL], by simp; omega⟩
        · rw [if_neg c3] at hr; simp at hr
      · rw [if_neg c2] at hr; simp at hr
    · rw [if_neg c1] at hr; simp at hr
  obtain ⟨k1, k2, k3⟩ := key _ rfl
  rw [← hO, ← hN, Int.toNat_natCast, Int.toNat_natCast]
  refine ⟨k1, ?_, k3⟩
  unfold wdB
  obtain ⟨c, hc⟩ : ∃ c, c = (rdP l k).1.length := ⟨_, rfl⟩
  rw [← hc] at k2 k3 ⊢
  rw [k2, hf, mpL_cons, fm_mp l hx (c + 1) k (by omega), Nat.add_comm c 1]
/-- One byte short there is no map, or no word. -/
theorem dec_cut (o n : Int) (m : List (BitVec 32)) (h : chkE o n m = 0) : dcE ((wdB o.toNat n.toNat m).take (4 * (1 + m.length) - 1)) 0 = 30 := by
  obtain ⟨ho, hn, hm⟩ := chk_zero h
  obtain ⟨L, hL⟩ : ∃ L, L = (wdB o.toNat n.toNat m).take (4 * (1 + m.length) - 1) := ⟨_, rfl⟩
  have hlen : L.length = 4 * (1 + m.length) - 1 := by rw [hL, List.length_take, wdB_len]; omega
  rw [← hL]
  by_cases hm0 : m = []
  · have : stB L.length 0 1 = false := by
      unfold stB
      rw [hm0] at hlen
      simp at hlen ⊢
      omega
    unfold dcE
    rw [if_neg (by rw [this]; decide)]
  · have hmp : 0 < m.length := List.length_pos_iff.2 hm0
    have hall : o = 2 ∧ isMapB m n.toNat = true ∧ tkB o n = true ∧ isOp o = true := by
      unfold chkE at h
      by_cases c1 : isOp o = true
      · rw [if_pos c1] at h
        by_cases c2 : (decide (kLo o ≤ n) && decide (n ≤ kHi o)) = true
        · rw [if_pos c2] at h
          by_cases c3 : o = 2
          · rw [if_pos c3] at h
            by_cases c4 : isMapB m n.toNat = true
            · exact ⟨c3, c4, c2, c1⟩
            · rw [if_neg c4] at h; omega
          · rw [if_neg c3, if_neg hm0] at h; omega
        · rw [if_neg c2] at h; omega
      · rw [if_neg c1] at h; omega
    have hop := hall.1
    have hmap := hall.2
    obtain ⟨O, rfl⟩ : ∃ O : Nat, o = (O : Int) := ⟨o.toNat, by omega⟩
    obtain ⟨N, rfl⟩ : ∃ N : Nat, n = (N : Int) := ⟨n.toNat, by omega⟩
    rw [Int.toNat_natCast, Int.toNat_natCast] at hL
    rw [Int.toNat_natCast] at hmap
    have h0 : wdV L 0 = fstW O N := by
      have e : L = by4 (fstW O N).toNat ++ ((m.flatMap fun x => by4 x.toNat).take (4 * m.length - 1)) := by
        rw [hL]
        unfold wdB
        rw [List.flatMap_cons, List.take_append]
        congr 1
        · exact List.take_of_length_le (by show 4 ≤ _; omega)
        · congr 1; show _ - 4 = _; omega
      rw [e]
      exact wdV_zero _ _
    have hu : uI (wdV L 0) = ((O * 16777216 + N : Nat) : Int) := by rw [h0]; exact fst_uI O N (by omega) (by omega)
    have hO : insO L 0 = (O : Int) := by unfold insO; rw [hu]; omega
    have hN : insN L 0 = (N : Int) := by unfold insN; rw [hu]; omega
    have hs : stB L.length 0 1 = true := by unfold stB; simp; omega
    have hml : m.length = mwN N := by
      have := hmap.1
      unfold isMapB at this
      simp only [Bool.and_eq_true, decide_eq_true_eq] at this
      exact this.1
    have hrm : (N : Int) ≤ kRm (O : Int) := by
      have := hmap.2.1
      unfold tkB at this
      simp only [Bool.and_eq_true, decide_eq_true_eq] at this
      exact Int.le_trans this.2 (kHi_Rm _)
    unfold dcE
    rw [if_pos hs]
    show (rdP L 0).2 = 30
    unfold rdP
    rw [hO, hN, if_pos hmap.2.2, if_pos hrm, if_pos hmap.2.1, if_pos hop, Int.toNat_natCast]
    unfold rmP
    rw [if_neg (by omega)]
end Go.Proofs.Ytnaihocdemcejab
/-
  The law's known.
-/
namespace Go.Proofs.Ytnaihocdemcejab
open Go.RowKit
set_option linter.unusedSimpArgs false
set_option linter.unusedVariables false

theorem kn_chk : chkE 4 258 [] = 0 := by decide +kernel
theorem kn_en : enL [] 4 258 [] = [4, 0, 1, 2] := by decide +kernel
theorem kn_dc : dcE [4, 0, 1, 2] 0 = 0 ∧ dcI [4, 0, 1, 2] 0 = ⟨4, 258, []⟩ ∧ dcZ [4, 0, 1, 2] 0 = 1 := by
  have h := dec_enc [] [] 0 4 258 [] rfl kn_chk
  have e : ([] ++ wdB (4 : Int).toNat (258 : Int).toNat [] ++ []) = [4, 0, 1, 2] := by decide +kernel
  rw [e] at h
  exact h
theorem rowA_nil (w : World) (s : Nat) : RowA w s (.slice none 0 0) 0 [] := ⟨by simp, none, 0, rfl, Nat.le_refl _, .inl ⟨rfl, rfl, rfl⟩⟩
theorem rwx_nil {α : Type} {f : α → Value} (w : World) : RwX f w (.slice none 0 0) [] := ⟨none, 0, rfl, Nat.le_refl _, .inl rfl⟩
set_option maxRecDepth 100000 in
set_option maxHeartbeats 8000000 in
theorem known14 (w : World) :
    Calls Try.prog 4 #[] w fun e w' => e = .returned (.bool true) ∧ Below w.heap.size w w' := by
  have K1 := encode_any (.slice none 0 0) [] 4 258 (.slice none 0 0) [] w (rowA_nil w 1) (rwx_nil w) (by simp) (by simp)
  rw [kn_chk, kn_en] at K1
  go_enter Try.func4, Try.ntmps4
  go_wp2_with fail
  refine K1.mono ?_
  rintro e w1 ⟨v1, rfl, hO1, hb1⟩
  obtain ⟨ao, c, hv⟩ := own_form hO1
  subst hv
  have hR1 : RwX cB w1 (.slice ao 4 c) [4, 0, 1, 2] := own_rwx (l := [4, 0, 1, 2]) hO1
  have hby : ∀ b ∈ [4, 0, 1, 2], b < 256 := by decide
  have K2 := decode_any (.slice ao 4 c) [4, 0, 1, 2] 0 w1 hR1 (by simp) hby
  rw [kn_dc.1, kn_dc.2.1, kn_dc.2.2] at K2
  have HB1 := hid13 hb1
  have HR1 := hid13 hR1
  have HBy := hid13 hby
  clear K1 hO1 hb1 hR1 hby
  go_wp2_with fail
  refine K2.mono ?_
  rintro e w2 ⟨v2, rfl, hO2, hb2⟩
  obtain ⟨ao2, c2, hv2⟩ := own_form hO2
  subst hv2
  unfold insV
  have HB2 := hid13 (keepb hb2 HB1.out)
  have q3 := bl1 w2 (.cells #[.int .i64 4, .int .i64 258, .slice ao2 0 c2] 27)
  have hcv := conv13 ((HR1.out.below hb2).below q3) HBy.out
  have HB3 := hid13 (keepb q3 HB2.out)
  have hs : bsA [4, 0, 1, 2] = ⟨#[4, 0, 1, 2]⟩ := rfl
  rw [hs] at hcv
  clear K2 hO2 hb2 HB1 HR1 q3 HB2
  go_wp2
  go_ret
  exact ⟨rfl, HB3.out⟩
end Go.Proofs.Ytnaihocdemcejab
/-
  The law CodeOwn.
-/
namespace Go.Proofs.Ytnaihocdemcejab
open Go.RowKit
set_option linter.unusedSimpArgs false
set_option linter.unusedVariables false

theorem cU_one14o (l : List (BitVec 32)) : ∀ y ∈ l.map cU, y.oneCell' = true := by
  intro y hy
  obtain ⟨x, -, rfl⟩ := List.mem_map.1 hy
  rfl
theorem dcI_len14o (l : List Nat) (a : Int) : (dcI l a).m.length ≤ 524288 := by
  unfold dcI
  split
  · exact rdP_len _ _
  · simp
/-- One row is written over and grown, its variable too; all else stays. -/
structure CoW (w V0 W : World) (A B : Nat) (o n : Int) (vb : Value) (R : List (BitVec 32)) : Prop where
  b : Below w.heap.size w W
  k : ∀ z ob, V0.heap[z]? = some ob → (z < A ∨ B < z) → W.heap[z]? = some ob
  s : V0.heap.size ≤ W.heap.size
  i : AtIF W B o n vb
  o : W.ownsRow A 31 1 vb R.length (R.map cU)
  nn : ∀ z, vb.ownBlock = some z → (A ≤ z ∧ z < B) ∨ V0.heap.size ≤ z
section
variable {w V0 W W' : World} {A B : Nat} {o n : Int} {vb v' : Value} {R R' : List (BitVec 32)}
theorem CoW.below (h : CoW w V0 W A B o n vb R) (hb : Below W.heap.size W W') : CoW w V0 W' A B o n vb R :=
  ⟨keepb hb h.b, fun z ob h1 h2 => (hb.block z (Array.getElem?_eq_some_iff.1 (h.k z ob h1 h2)).1).trans (h.k z ob h1 h2), Nat.le_trans h.s hb.size, h.i.below hb, own_b13 hb h.o, h.nn⟩
theorem CoW.store {g cap j : Nat} (h : CoW w V0 W A B o n (.slice (some ⟨g, 0, none⟩) R.length cap) R) (hA : w.heap.size ≤ A) (hB : B < V0.heap.size) (x : BitVec 32) : CoW w V0 (W.setCell ⟨g, j, none⟩ (cU x)) A B o n (.slice (some ⟨g, 0, none⟩) (R.set j x).length cap) (R.set j x) := by
  have hg := (h.o.lt g rfl).1
  have hn := h.nn g rfl
  have hgB : ¬ B = g := by omega
  obtain ⟨⟨i0, i1, i2⟩, f0, f1, f2⟩ := h.i
  have hB2 : (W.setCell ⟨g, j, none⟩ (cU x)).heap[B]? = W.heap[B]? := Below.heap_setCell W ⟨g, j, none⟩ (cU x) B hgB
  have hc : ∀ t, (W.setCell ⟨g, j, none⟩ (cU x)).cell? ⟨B, t, none⟩ = W.cell? ⟨B, t, none⟩ := fun t => World.cell?_of_block (a := ⟨B, t, none⟩) hB2
  have hf : ∀ t, (W.setCell ⟨g, j, none⟩ (cU x)).frozen? ⟨B, t, none⟩ = W.frozen? ⟨B, t, none⟩ := fun t => World.frozen?_of_block (a := ⟨B, t, none⟩) hB2
  rw [List.length_set]
  refine ⟨h.b.setCell (p := ⟨g, j, none⟩) (by show w.heap.size ≤ g; omega) _, fun z ob h1 h2 => ?_, by simp [World.setCell]; exact h.s, ⟨⟨(hc 0).trans i0, (hc 1).trans i1, (hc 2).trans i2⟩, (hf 0).trans f0, (hf 1).trans f1, (hf 2).trans f2⟩, ?_, h.nn⟩
  · have hz : z < V0.heap.size := (Array.getElem?_eq_some_iff.1 h1).1
    exact (Below.heap_setCell W ⟨g, j, none⟩ (cU x) z (by show ¬ z = g; omega)).trans (h.k z ob h1 h2)
  · have := (h.o.stored j (cU x)).1
    rw [List.length_set, List.map_set]
    exact this
theorem CoW.app (h : CoW w V0 W A B o n vb R) (hA : w.heap.size ≤ A) (hAB : A ≤ B) (hB : B < V0.heap.size) (ho : W'.ownsRow A 31 1 v' R'.length (R'.map cU)) (hg : W.grownBy W' vb.ownBlock) (hat : ∀ z, v'.ownBlock = some z → vb.ownBlock = some z ∨ z = W.heap.size) : AtIF W' B o n vb ∧ CoW w V0 (W'.setCell ⟨B, 2, none⟩ v') A B o n v' R' := by
  have hne : some B ≠ vb.ownBlock := fun e => by have := h.nn B e.symm; omega
  have eB : W'.heap[B]? = W.heap[B]? := hg.block B (cell_in h.i.1.1) hne
  have hc : ∀ t, W'.cell? ⟨B, t, none⟩ = W.cell? ⟨B, t, none⟩ := fun t => World.cell?_of_block (a := ⟨B, t, none⟩) eB
  have hf : ∀ t, W'.frozen? ⟨B, t, none⟩ = W.frozen? ⟨B, t, none⟩ := fun t => World.frozen?_of_block (a := ⟨B, t, none⟩) eB
  obtain ⟨⟨i0, i1, i2⟩, f0, f1, f2⟩ := h.i
  have i0' := (hc 0).trans i0
  have i1' := (hc 1).trans i1
  have i2' := (hc 2).trans i2
  have f0' := (hf 0).trans f0
  have f1' := (hf 1).trans f1
  have f2' := (hf 2).trans f2
  have hnn : ∀ z, v'.ownBlock = some z → (A ≤ z ∧ z < B) ∨ V0.heap.size ≤ z := fun z hz => by
    rcases hat z hz with q | q
    · exact h.nn z q
    · exact .inr (by rw [q]; exact h.s)
  refine ⟨⟨⟨i0', i1', i2'⟩, f0', f1', f2'⟩, ⟨(h.b.grown hg (Nat.le_trans (Nat.le_trans hA (Nat.le_trans hAB (Nat.le_of_lt hB))) h.s) (fun z e => Nat.le_trans hA (h.o.lt z e).1)).setCell (p := ⟨B, 2, none⟩) (Nat.le_trans hA hAB) _, fun z ob h1 h2 => ?_, by simp [World.setCell]; exact Nat.le_trans h.s hg.size, ⟨⟨?_, ?_, ?_⟩, ?_, ?_, ?_⟩, ?_, hnn⟩⟩
  · have hz : z < V0.heap.size := (Array.getElem?_eq_some_iff.1 h1).1
    have hw := h.k z ob h1 h2
    refine (Below.heap_setCell W' ⟨B, 2, none⟩ v' z (by show ¬ z = B; omega)).trans ((hg.block z (Array.getElem?_eq_some_iff.1 hw).1 (fun e => ?_)).trans hw)
    have := h.nn z e.symm
    omega
  all_goals first | (simp [go_sem, *]; done) | skip
  refine ⟨ho.1, ?_⟩
  rcases ho.2 with h1 | ⟨g, cap, cur, e, h1, h2, h3⟩
  · exact .inl h1
  · refine .inr ⟨g, cap, cur, e, h1, ?_, h3⟩
    have hgB : ¬ g = B := by have := hnn g (by rw [e]; rfl); omega
    exact (Below.heap_setCell W' ⟨B, 2, none⟩ v' g hgB).trans h2
theorem CoW.cell (h : CoW w V0 W A B o n vb R) {z j : Nat} {u : Value} (hz : z < A ∨ B < z) (hc : V0.cell? ⟨z, j, none⟩ = some u) : W.cell? ⟨z, j, none⟩ = some u := by
  have hb := cell_in hc
  have e : W.heap[z]? = V0.heap[z]? := by rw [h.k z _ (Array.getElem?_eq_getElem hb) hz, Array.getElem?_eq_getElem hb]
  exact (World.cell?_of_block (a := ⟨z, j, none⟩) e).trans hc
theorem CoW.row (h : CoW w V0 W A B o n vb R) {α : Type} {f : α → Value} {v : Value} {l : List α} (hr : RwX f V0 v l) (hz : ∀ b off nn cc, v = .slice (some ⟨b, off, none⟩) nn cc → l ≠ [] → b < A ∨ B < b) : RwX f W v l := by
  obtain ⟨ao, c, e, hc, hr⟩ := hr
  refine ⟨ao, c, e, hc, ?_⟩
  rcases hr with hr | ⟨b, off, e2, hr⟩
  · exact .inl hr
  · refine .inr ⟨b, off, e2, fun j x hj => h.cell (hz b off _ _ (by rw [e, e2]) (by rintro rfl; cases hj)) (hr j x hj)⟩
end
theorem rwx_lt {α : Type} {f : α → Value} {W : World} {v : Value} {l : List α} (h : RwX f W v l) {b off nn cc : Nat} (e : v = .slice (some ⟨b, off, none⟩) nn cc) (hl : l ≠ []) : b < W.heap.size := by
  obtain ⟨ao, c, e1, hc, hr⟩ := h
  rw [e] at e1
  injection e1 with e1 e2 e3
  rcases hr with hr | ⟨b', off', e4, hr⟩
  · exact absurd hr hl
  · rw [e4] at e1
    injection e1 with e1
    injection e1 with e1 e5
    subst e1
    obtain ⟨x, t, hx⟩ := List.exists_cons_of_ne_nil hl
    exact cell_in (hr 0 x (by rw [hx]; rfl))
set_option maxRecDepth 100000 in
set_option maxHeartbeats 16000000 in
theorem codeOwn_any (v : Value) (l : List Nat) (a : Int) (w : World) (hA : RowA w 1 v l.length (l.map cB)) (hv : RwX cB w v l) (hx : ∀ b ∈ l, b < 256) (ha0 : -9223372036854775808 ≤ a) (ha1 : a ≤ 9223372036854775807) :
    Calls Try.prog 3 #[v, .int .i64 a] w fun e w' => e = .returned (.bool true) ∧ Below w.heap.size w w' := by
  obtain ⟨i0, hi, hz0, hz1, hz2⟩ := info13 Try.infoB13
  obtain ⟨j0, ji, jz0, jz1, jz2⟩ := info13 Try.infoU13
  obtain ⟨ao, cc, hvf, -⟩ := id hv
  have HV := hid13 hv
  have HRA := hid13 hA
  have HX := hid13 hx
  subst hvf
  clear hv hx hA ha0 ha1
  go_enter Try.func3, Try.ntmps3
  go_wp2_with fail
  refine (known14 _).mono ?_
  rintro e w2 ⟨rfl, hb2⟩
  have HB2 := hid13 hb2
  clear hb2
  by_cases h1 : (16384 : Int) < (l.length : Int)
  · go_wp2
    go_ret
    exact ⟨rfl, HB2.out⟩
  have hl : l.length ≤ 16384 := by omega
  have HL := hid13 hl
  have q3 := bl1 w2 (.cells #[] 5)
  have HR3 := hid13 ((HRA.out.below HB2.out).below q3)
  have HO3 : Hid ((w2.alloc (.cells #[] 5)).ownsRow w2.heap.size 5 1 (.slice (some ⟨w2.heap.size, 0, none⟩) 0 0) 0 []) := World.ownsRow_made w2 #[] 0 (Nat.le_refl _) (by unfold maxLen; omega) (by simp)
  clear hl
  go_wp2_with (at_builtin; apply stopHere9)
  refine (show wpList _ _ _ _ _ _ from ?_)
  refine wpList_append_rowA rfl _ _ 22 rfl w2.heap.size 5 i0 (.int .u8 0) 1 1 Try.underlying22 hi hz0 hz1 hz2 rfl (by decide) _ 0 [] rfl HO3.out _ l.length (l.map cB) rfl HR3.out (cB_one l) (by have := HL.out; unfold maxLen; omega) (by have := HL.out; omega) q3.size ?_
  intro ao4 c4 w4 hO4 hg4
  rw [Nat.zero_add, List.nil_append] at hO4
  rw [Nat.zero_add]
  have hB4 : Below w2.heap.size w2 w4 := q3.grown hg4 q3.size (fun z hz => (HO3.out.lt z hz).1)
  have HB4 := hid13 (keepb hB4 HB2.out)
  have HR4 := hid13 (own_rwx hO4)
  have mw : IntKind.i64.wrap ((l.length : Int) / 4 + 1) = (l.length : Int) / 4 + 1 := by rw [IntKind.wrap_i64]; omega
  obtain ⟨D, hD⟩ : ∃ D : Int, D = (l.length : Int) / 4 + 1 := ⟨_, rfl⟩
  have hW := wth_in a D (by omega)
  have K3 := fun w => within14 a D (by omega) (by omega) w
  obtain ⟨k, hk⟩ : ∃ k : Nat, wth a D = (k : Int) := ⟨(wth a D).toNat, by omega⟩
  rw [hk] at K3 hW
  rw [hD] at K3
  have KD := fun W (h : RwX cB W (.slice ao4 l.length c4) l) => decode_any _ l (k : Int) W h (by have := HL.out; omega) HX.out
  have HIl := hid13 (dcI_len14o l (k : Int))
  obtain ⟨I, hI⟩ : ∃ I, I = dcI l (k : Int) := ⟨_, rfl⟩
  obtain ⟨E, hE⟩ : ∃ E, E = dcE l (k : Int) := ⟨_, rfl⟩
  obtain ⟨Z, hZ⟩ : ∃ Z, Z = dcZ l (k : Int) := ⟨_, rfl⟩
  rw [← hI, ← hE, ← hZ] at KD
  rw [← hI] at HIl
  unfold insV at KD
  have K5 := KD w4 HR4.out
  clear hO4 hg4 hB4 q3 HR3 HO3 HB2 hI hE hZ hD hk hW
  go_wp2_with (go_at_call 5; refine (K3 _).mono ?_; rintro e w3 ⟨rfl, hw3⟩; replace hw3 := hw3.symm; subst hw3)
  refine K5.mono ?_
  rintro e w5 ⟨v5, rfl, hO5, hb5⟩
  obtain ⟨ao5, c5, hv5⟩ := own_form hO5
  subst hv5
  have q6 := bl1 w5 (.cells #[.int .i64 I.op, .int .i64 I.n, .slice ao5 I.m.length c5] 27)
  have HX6 := hid13 (atif_new w5 I.op I.n (.slice ao5 I.m.length c5) 27)
  have HO6 := hid13 (own_b13 q6 hO5)
  have HN5 : Hid (∀ z, (Value.slice ao5 I.m.length c5).ownBlock = some z → w4.heap.size ≤ z ∧ z < w5.heap.size) := fun z hz => hO5.lt z hz
  have HS5 : Hid (w4.heap.size ≤ w5.heap.size) := hb5.size
  obtain ⟨w6, hw6⟩ : ∃ w6, w6 = w5.alloc (.cells #[.int .i64 I.op, .int .i64 I.n, .slice ao5 I.m.length c5] 27) := ⟨_, rfl⟩
  have hs6 : w6.heap.size = w5.heap.size + 1 := by rw [hw6]; simp
  rw [← hw6] at q6 HX6 HO6
  have HB6 := hid13 (keepb q6 hb5)
  have K7 := KD w6 (HR4.out.below HB6.out)
  clear K3 K5 hO5 hb5 q6 mw
  go_wp2_with fail
  rw [← hw6]
  refine K7.mono ?_
  rintro e w7 ⟨v7, rfl, hO7, hb7⟩
  obtain ⟨ao7, c7, hv7⟩ := own_form hO7
  subst hv7
  have q8 := bl1 w7 (.cells #[.int .i64 I.op, .int .i64 I.n, .slice ao7 I.m.length c7] 27)
  have HY8 := hid13 (ati_new w7 I.op I.n (.slice ao7 I.m.length c7) 27)
  have HP8 := hid13 (own_b13 q8 hO7)
  have HX8 := hid13 ((HX6.out.below hb7).below q8)
  have HO8 := hid13 (own_b13 q8 (own_b13 hb7 HO6.out))
  have HS7 : Hid (w6.heap.size ≤ w7.heap.size) := hb7.size
  obtain ⟨w8, hw8⟩ : ∃ w8, w8 = w7.alloc (.cells #[.int .i64 I.op, .int .i64 I.n, .slice ao7 I.m.length c7] 27) := ⟨_, rfl⟩
  have hs8 : w8.heap.size = w7.heap.size + 1 := by rw [hw8]; simp
  rw [← hw8] at q8 HY8 HP8 HX8 HO8
  have HB8 := hid13 (keepb q8 (keepb hb7 HB6.out))
  have q9 := bl1 w8 (.cells #[] 31)
  have HQ9 : Hid ((w8.alloc (.cells #[] 31)).ownsRow w8.heap.size 31 1 (.slice (some ⟨w7.heap.size + 1, 0, none⟩) 0 0) 0 []) := by
    rw [← hs8]
    exact World.ownsRow_made w8 #[] 0 (Nat.le_refl _) (by unfold maxLen; omega) (by simp)
  have HR9 := hid13 ((own_rowA HP8.out).below q9)
  obtain ⟨y0, y1, y2⟩ := HY8.out.below q9
  clear K7 hO7 hb7 HX6 HO6 hw6 q8 h1
  go_wp2_with (at_builtin; apply stopHere9)
  refine (show wpList _ _ _ _ _ _ from ?_)
  rw [← hw8]
  refine wpList_append_rowA rfl _ _ 25 rfl w8.heap.size 31 j0 (.int .u32 0) 1 4 Try.underlying25 ji jz0 jz1 jz2 rfl (by decide) _ 0 [] rfl HQ9.out _ I.m.length (I.m.map cU) rfl HR9.out (cU_one14o I.m) (by have := HIl.out; unfold maxLen; omega) (by have := HIl.out; omega) q9.size ?_
  intro ao10 c10 w10 hO10 hg10
  rw [Nat.zero_add, List.nil_append] at hO10
  rw [Nat.zero_add]
  have hB10 : Below w8.heap.size w8 w10 := q9.grown hg10 q9.size (fun z hz => (HQ9.out.lt z hz).1)
  have HC0 : Hid (CoW w w10 w10 w4.heap.size w5.heap.size I.op I.n (.slice ao5 I.m.length c5) I.m) := by
    refine ⟨keepb hB10 (keepb HB8.out HB4.out), fun z ob h1 _ => h1, Nat.le_refl _, HX8.out.below hB10, own_b13 hB10 HO8.out, fun z hz => ?_⟩
    exact .inl (HN5.out z hz)
  have HYr := hid13 ((own_rwx HP8.out).below hB10)
  have HYl : Hid (∀ b off nn cc, Value.slice ao7 I.m.length c7 = .slice (some ⟨b, off, none⟩) nn cc → I.m ≠ [] → w5.heap.size < b) := by
    intro b off nn cc e _
    have := (HP8.out.lt b (by rw [e]; rfl)).1
    omega
  have HWr := hid13 (own_rwx hO10)
  have HWl : Hid (∀ b off nn cc, Value.slice ao10 I.m.length c10 = .slice (some ⟨b, off, none⟩) nn cc → I.m ≠ [] → w5.heap.size < b) := by
    intro b off nn cc e _
    have := (hO10.lt b (by rw [e]; rfl)).1
    have := HS7.out
    omega
  have HMr := hid13 (HR4.out.below (keepb hB10 HB8.out))
  have HMl : Hid (∀ b off nn cc, Value.slice ao4 l.length c4 = .slice (some ⟨b, off, none⟩) nn cc → l ≠ [] → b < w4.heap.size) := fun b off nn cc e hne => rwx_lt HR4.out e hne
  have HYv := hid13 (HY8.out.below hB10)
  have HSz : Hid (w4.heap.size ≤ w5.heap.size ∧ w5.heap.size < w7.heap.size ∧ w5.heap.size < w10.heap.size ∧ w.heap.size ≤ w4.heap.size) := ⟨HS5.out, by have := HS7.out; omega, by have := HS7.out; have := hB10.size; omega, HB4.out.size⟩
  clear hO10 hg10 hB10 q9 HQ9 HR9 y0 y1 y2 HX8 HO8 HP8 HY8 HB8 HB6 hs6 hs8 HS5 HS7 HN5 hw8
  go_wp2_with fail
  obtain ⟨A, hAd⟩ : ∃ A, A = w4.heap.size := ⟨_, rfl⟩
  obtain ⟨B, hBd⟩ : ∃ B, B = w5.heap.size := ⟨_, rfl⟩
  rw [← hAd, ← hBd] at HC0 HSz
  rw [← hBd] at HYl HWl ⊢
  rw [← hAd] at HMl
  clear hAd hBd
  have c5e : cU 5#32 = .int .u32 5 := by unfold cU; rw [uI_of 5 (by decide)]; rfl
  have c6e : cU 6#32 = .int .u32 6 := by unfold cU; rw [uI_of 6 (by decide)]; rfl
  have HC5 := hid13 c5e
  have HC6 := hid13 c6e
  clear c5e c6e
  go_loopg [13] I.m.length (fun g i wr => ∃ (j : Nat) (R : List (BitVec 32)), j + g = I.m.length ∧ i = .int .i64 (j : Int) ∧ Hid (CoW w w10 wr A B I.op I.n (.slice ao5 R.length c5) R) ∧ Hid (R.length = I.m.length))
  case atStart => exact ⟨0, I.m, by omega, rfl, HC0, rfl⟩
  case round =>
    clear HC0
    obtain ⟨j, R, hj, rfl, HW, HRl⟩ := hrel
    obtain ⟨⟨x0, x1, x2⟩, -⟩ := HW.out.i
    rw [HRl.out] at x2
    by_cases hlt : j < I.m.length
    · have hli : (j : Int) < (I.m.length : Int) := by omega
      obtain ⟨g, cg, hv, -, -⟩ := HW.out.o.form (by rw [HRl.out]; omega)
      injection hv with e1 e2 e3
      subst e1
      have hcell : ∃ u, wr.cell? ⟨g, j, none⟩ = some u := by
        rw [HW.out.o.cellAt j (by rw [HRl.out]; omega)]
        exact ⟨_, List.getElem?_eq_getElem (by have := HW.out.o.1; have := HRl.out; omega)⟩
      obtain ⟨u, hu⟩ := hcell
      have hf := HW.out.o.frozenAt j
      have hst := HW.out.store (j := j) HSz.out.2.2.2 HSz.out.2.2.1 5#32
      rw [HC5.out] at hst
      have HST := hid13 hst
      have HRl2 : Hid ((R.set j 5#32).length = I.m.length) := by show _ = _; rw [List.length_set]; exact HRl.out
      have mj : IntKind.i64.wrap ((j : Int) + 1) = (j : Int) + 1 := by rw [IntKind.wrap_i64]; have := HIl.out; omega
      have HJ : Hid (j + gk = I.m.length ∧ j < I.m.length) := ⟨hj, hlt⟩
      clear hst hj hlt e2 e3
      go_wp2
      go_roundg (gk - 1)
      case measure => have := HJ.out; omega
      case rel => exact ⟨j + 1, R.set j 5#32, by have := HJ.out; omega, rfl, HST, HRl2⟩
    · have hli : ¬ (j : Int) < (I.m.length : Int) := by omega
      have HW2 : Hid (CoW w w10 wr A B I.op I.n (.slice ao5 I.m.length c5) R) := by have := HW.out; rw [HRl.out] at this; exact this
      clear HW hj hlt
      go_wp2_with fail
      go_loopg [14] 30 (fun g i wr2 => ∃ (j : Nat) (vb : Value) (R : List (BitVec 32)), j + g = 30 ∧ i = .int .i64 (j : Int) ∧ Hid (CoW w w10 wr2 A B I.op I.n vb R) ∧ Hid (R.length ≤ 524288 + j))
      case atStart => exact ⟨0, _, R, by omega, rfl, HW2, by show _ ≤ _; rw [HRl.out]; have := HIl.out; omega⟩
      case round =>
        clear HW2 x0 x1 x2
        obtain ⟨t, vb, R2, ht, rfl, HW3, HR2l⟩ := hrel
        by_cases hlt : t < 30
        · have hli : (t : Int) < 30 := by omega
          have q11 := bl1 wr (.cells #[.int .u32 6] 31)
          have HW4 := hid13 (HW3.out.below q11)
          obtain ⟨⟨x0, x1, x2⟩, -⟩ := HW4.out.i
          obtain ⟨vo, vc, hvv⟩ := own_form HW3.out.o
          have h63 : R2.length + 1 ≤ maxLen := by have := HR2l.out; unfold maxLen; omega
          have h47 : (R2.length + 1) * 4 ≤ 140737488355328 := by have := HR2l.out; omega
          have hAs : A ≤ (wr.alloc (.cells #[.int .u32 6] 31)).heap.size := by have := HSz.out; have := HW4.out.s; omega
          have mj : IntKind.i64.wrap ((t : Int) + 1) = (t : Int) + 1 := by rw [IntKind.wrap_i64]; omega
          have HJ : Hid (t + gk = 30 ∧ t < 30) := ⟨ht, hlt⟩
          obtain ⟨⟨p0, p1, p2⟩, -⟩ := HW3.out.i
          subst hvv
          clear ht hlt q11 x0 x1 x2
          go_wp2_with (at_builtin; apply stopHere9)
          refine (show wpList _ _ _ _ _ _ from ?_)
          refine wpList_append_lies _ rfl _ _ 25 rfl A 31 j0 (.int .u32 0) 1 4 Try.underlying25 ji jz0 jz1 jz2 rfl (by decide) _ R2.length (R2.map cU) rfl HW4.out.o ⟨wr.heap.size, 0, none⟩ 1 1 [.int .u32 6] rfl rfl (news13 (by simp [go_sem])) (by intro u hu; simp at hu; subst hu; rfl) (by decide) h63 h47 hAs _ rfl ?_
          intro g4 cap4 w14 hown4 hgrow hat hlt4
          obtain ⟨hi4, hd4⟩ := HW4.out.app HSz.out.2.2.2 HSz.out.1 HSz.out.2.2.1 (R' := R2 ++ [6#32]) (v' := .slice (some ⟨g4, 0, none⟩) (R2.length + 1) cap4) (by rw [List.length_append, List.map_append]; show World.ownsRow _ _ _ _ _ (R2.length + 1) (R2.map cU ++ [cU 6#32]); rw [HC6.out]; exact hown4) hgrow (fun z hz => by simp only [Value.ownBlock, Option.some.injEq] at hz; subst hz; exact hat)
          have HD4 := hid13 hd4
          obtain ⟨⟨y0, y1, y2⟩, z0, z1, z2⟩ := hi4
          clear hown4 hgrow hat hlt4 h63 h47 hAs HW4 HW3 hd4 p0 p1 p2
          go_wp2
          go_roundg (gk - 1)
          case measure => have := HJ.out; omega
          case rel => exact ⟨t + 1, _, R2 ++ [6#32], by have := HJ.out; omega, rfl, HD4, by show _ ≤ _; rw [List.length_append]; have := HR2l.out; show R2.length + 1 ≤ _; omega⟩
        · have hli : ¬ (t : Int) < 30 := by omega
          have HYr2 := hid13 (HW3.out.row HYr.out (fun b off nn cc e hne => .inr (HYl.out b off nn cc e hne)))
          have HWr2 := hid13 (HW3.out.row HWr.out (fun b off nn cc e hne => .inr (HWl.out b off nn cc e hne)))
          have HMr2 := hid13 (HW3.out.row HMr.out (fun b off nn cc e hne => .inl (HMl.out b off nn cc e hne)))
          have hBz : B < w7.heap.size := HSz.out.2.1
          have HYv2 : Hid (AtI wr w7.heap.size I.op I.n (.slice ao7 I.m.length c7)) := ⟨HW3.out.cell (.inr hBz) HYv.out.1, HW3.out.cell (.inr hBz) HYv.out.2.1, HW3.out.cell (.inr hBz) HYv.out.2.2⟩
          have HB11 := hid13 HW3.out.b
          have KS := same_any I I (.slice ao7 I.m.length c7) (.slice ao10 I.m.length c10) wr HYr2.out HWr2.out (by have := HIl.out; omega)
          rw [(sameB_iff _ _).2 rfl] at KS
          unfold insV at KS
          obtain ⟨y0, y1, y2⟩ := HYv2.out
          clear HW3 ht hlt hBz
          go_wp2_with fail
          refine KS.mono ?_
          rintro e w15 ⟨rfl, hb15⟩
          have HB15 := hid13 (keepb hb15 HB11.out)
          have cv1 := conv13 (HMr2.out.below hb15) HX.out
          have cv2 := conv13 (HV.out.below HB15.out) HX.out
          have K16 := KD w15 (HMr2.out.below hb15)
          have HYr3 := hid13 (HYr2.out.below hb15)
          have HYv3 := hid13 (HYv2.out.below hb15)
          clear KS hb15 y0 y1 y2 HB11 HYr2 HWr2 HMr2 HYv2
          go_wp2_with fail
          refine K16.mono ?_
          rintro e w16 ⟨v16, rfl, hO16, hb16⟩
          obtain ⟨ao16, c16, hv16⟩ := own_form hO16
          subst hv16
          have q17 := bl1 w16 (.cells #[.int .i64 I.op, .int .i64 I.n, .slice ao16 I.m.length c16] 27)
          have HB17 := hid13 (keepb q17 (keepb hb16 HB15.out))
          have a17 := ati_new w16 I.op I.n (.slice ao16 I.m.length c16) 27
          obtain ⟨y0, y1, y2⟩ := (HYv3.out.below hb16).below q17
          have KS := same_any I I (.slice ao16 I.m.length c16) (.slice ao7 I.m.length c7) _ ((own_rwx hO16).below q17) ((HYr3.out.below hb16).below q17) (by have := HIl.out; omega)
          rw [(sameB_iff _ _).2 rfl] at KS
          unfold insV at KS
          clear K16 hO16 hb16 q17 a17 HB15 HYr3 HYv3 cv1 cv2
          go_wp2_with fail
          refine KS.mono ?_
          rintro e w18 ⟨rfl, hb18⟩
          have HB18 := hid13 (keepb hb18 HB17.out)
          clear KS hb18 y0 y1 y2
          go_wp2
          go_ret
          exact ⟨rfl, HB18.out⟩
end Go.Proofs.Ytnaihocdemcejab
/-
  How rows of numbers that are handed in read as data.
-/
namespace Go.Proofs.Ytnaihocdemcejab
open Go.ChangeShapes Go.WideShapes Go.ChangeAt Go.RowKit Go.Joins
set_option linter.unusedSimpArgs false
set_option linter.unusedVariables false

theorem Try.laidOut : laidOutB Try.prog = true := by kernel_rfl
theorem reach13 : reachBytes ≤ 140737488351232 := by decide
section
variable {H : Type} {enc : TypeId × Value → H} {w : World} {spare : Nat → Bool} {held : Bool}
theorem RwX.map13 {α β : Type} {f : α → Value} {g : β → Value} (h : α → β) {v : Value} {l : List α} (hr : RwX f w v l) (he : ∀ x ∈ l, f x = g (h x)) : RwX g w v (l.map h) := by
  obtain ⟨ao, c, e, hc, hr⟩ := hr
  refine ⟨ao, c, by rw [List.length_map]; exact e, by rw [List.length_map]; exact hc, ?_⟩
  rcases hr with hr | ⟨b, off, e, hr⟩
  · exact .inl (by rw [hr]; rfl)
  · refine .inr ⟨b, off, e, fun j x hj => ?_⟩
    rw [List.getElem?_map] at hj
    cases hx : l[j]? with
    | none => rw [hx] at hj; cases hj
    | some y =>
      rw [hx] at hj
      simp only [Option.map_some, Option.some.injEq] at hj
      rw [hr j y hx, he y (List.mem_of_getElem? hx), hj]
set_option maxRecDepth 100000 in
theorem open_ints13 {t e : TypeId} {k : IntKind} (ht : Try.prog.underlying t = some (.slice e)) (he : Try.prog.underlying e = some (.int k)) (hce : Try.prog.cellsOf e = 1) {r : Reach} {b0 : Nat} {v : Value} {d : DataW H} {p : List MemPlace} (hv : Value.okWide Try.prog w r b0 t v) (h : DataW.Trod enc Try.prog w 0 (fun _ => true) held t v d p) :
    ∃ l : List Int, RowA w 1 v l.length (l.map fun a => .int k a) ∧ RwX (fun a => Value.int k a) w v l ∧ (∀ a ∈ l, (Lit.int k a).wf = true) ∧ (l = [] ∨ ∃ el sp, d = .slice el sp ∧ el.length = l.length) := by
  obtain ⟨a0, len, cap, rfl⟩ := okWide_slice ht hv
  obtain ⟨fuel, hf⟩ := h
  rcases Deep.open_slice ht hf with ⟨hcs, hx⟩ | ⟨a, len', cap', m, n, D, Pl, hcs, _, hl, hm, hmm, hx, hel⟩
  · simp [Value.cells] at hcs
    obtain ⟨rfl, rfl, rfl⟩ := hcs
    exact ⟨[], ⟨rfl, none, 0, rfl, Nat.le_refl _, .inl ⟨rfl, rfl, rfl⟩⟩, ⟨none, 0, rfl, Nat.le_refl _, .inl rfl⟩, (fun _ h => by cases h), .inl rfl⟩
  · simp [Value.cells] at hcs
    obtain ⟨rfl, rfl, rfl⟩ := hcs
    simp at hmm
    subst hmm
    rw [hce] at hel
    obtain ⟨f, hf⟩ := Deep.choose_lt (α := Int) (n := len) (p := fun i x => w.cell? (a.add i) = some (.int k x) ∧ (Lit.int k x).wf = true) (fun i hi => by
      obtain ⟨cs', h1, h2⟩ := hel i (by omega)
      obtain ⟨_, hlen, hc⟩ := World.cells?_some h1
      match cs', hlen with
      | [c0], _ =>
        obtain ⟨x, ex, -, wx⟩ := DataW.trod_int he h2
        simp at ex
        subst ex
        refine ⟨x, ?_, wx⟩
        have := hc 0 (by omega)
        simpa [Addr.add] using this)
    have hlen : ((List.range len).map f).length = len := by simp
    have hcells : ∀ j x, ((List.range len).map f)[j]? = some x → w.cell? (a.add j) = some (.int k x) := by
      intro j x hj
      have hlt : j < len := by have := (List.getElem?_eq_some_iff.1 hj).1; simpa using this
      rw [List.getElem?_map, List.getElem?_range hlt] at hj
      simp only [Option.map_some, Option.some.injEq] at hj
      rw [← hj]; exact (hf j hlt).1
    refine ⟨(List.range len).map f, ⟨by simp, some a, m, by rw [hlen], by rw [hlen]; exact hl, .inr ⟨a, rfl, fun j u hj => ?_⟩⟩, ⟨some a, m, by rw [hlen], by rw [hlen]; exact hl, ?_⟩, ?_, ?_⟩
    · rw [List.getElem?_map] at hj
      cases hx : ((List.range len).map f)[j]? with
      | none => rw [hx] at hj; cases hj
      | some y =>
        rw [hx] at hj
        simp only [Option.map_some, Option.some.injEq] at hj
        rw [← hj]; exact hcells j y hx
    · by_cases hz : len = 0
      · subst hz
        exact .inl (by simp)
      · have h00 := (hf 0 (by omega)).1
        have ea : a = ⟨a.block, a.off, none⟩ := by
          have : a.add 0 = a := by simp [Addr.add]
          rw [this] at h00
          exact spot9 h00
        refine .inr ⟨a.block, a.off, by rw [← ea], fun j u hj => ?_⟩
        have := hcells j u hj
        rw [ea, addA] at this
        exact this
    · intro x hx
      simp only [List.mem_map, List.mem_range] at hx
      obtain ⟨i, hi, rfl⟩ := hx
      exact (hf i hi).2
    · simp only [Prod.mk.injEq] at hx
      exact .inr ⟨_, _, hx.1, by simp⟩
end
end Go.Proofs.Ytnaihocdemcejab
