/-
  Part 15 of the proof: 3 texts, one behind the other.
-/
import Derived.Test.YtologchdnjnadaaDoorPart9
import Derived.Test.YtologchdnjnadaaDoorPart14
import Derived.Test.YtologchdnjnadaaDoorPart11
import Derived.Test.YtologchdnjnadaaDoorPart12
import Derived.Test.YtologchdnjnadaaDoorPart13
/-
  Plain: what Encode lays Decode reads, and back.
-/
namespace Go.Proofs.YtologchdnjnadaaDoor
set_option linter.unusedSimpArgs false
set_option linter.unusedVariables false

theorem numN_by4 (x : BitVec 32) : numN (by4 x.toNat) = x.toNat := num4 _ x.isLt
theorem wdV_zero (x : BitVec 32) (z : List Nat) : wdV (by4 x.toNat ++ z) 0 = x := by
  unfold wdV
  have e : (((by4 x.toNat ++ z).drop (4 * 0)).take 4) = by4 x.toNat := by
    rw [Nat.mul_zero, List.drop_zero]
    exact List.take_left' rfl
  rw [e, numN_by4]
  simp
theorem wdV_app (l X : List Nat) (a j : Nat) (h : l.length = 4 * a) : wdV (l ++ X) (a + j) = wdV X j := by
  unfold wdV
  rw [Nat.mul_add, ← h, ← List.drop_drop, List.drop_left]
theorem wdV_succ (x : BitVec 32) (z : List Nat) (j : Nat) : wdV (by4 x.toNat ++ z) (j + 1) = wdV z j := by
  rw [Nat.add_comm j 1]
  exact wdV_app (by4 x.toNat) z 1 j rfl
theorem wdV_fm : ∀ (ws : List (BitVec 32)) (z : List Nat) (j : Nat) (x : BitVec 32), ws[j]? = some x → wdV ((ws.flatMap fun x => by4 x.toNat) ++ z) j = x
  | [], z, j, x, h => by simp at h
  | y :: ws, z, 0, x, h => by
    simp at h
    subst h
    rw [List.flatMap_cons, List.append_assoc]
    exact wdV_zero y _
  | y :: ws, z, j + 1, x, h => by
    rw [List.flatMap_cons, List.append_assoc, wdV_succ]
    exact wdV_fm ws z j x (by simpa using h)
theorem kHi_Rm (o : Int) : kHi o ≤ kRm o := by
  unfold kHi kRm
  split
  · omega
  · split <;> omega
/-- What is laid is read. -/
theorem dec_enc (l z : List Nat) (a : Nat) (o n : Int) (m : List (BitVec 32)) (hl : l.length = 4 * a) (h : chkE o n m = 0) :
    dcE (l ++ wdB o.toNat n.toNat m ++ z) (a : Int) = 0 ∧ dcI (l ++ wdB o.toNat n.toNat m ++ z) (a : Int) = ⟨o, n, m⟩ ∧ dcZ (l ++ wdB o.toNat n.toNat m ++ z) (a : Int) = 1 + (m.length : Int) := by
  obtain ⟨ho, hn, hm⟩ := chk_zero h
  obtain ⟨O, rfl⟩ : ∃ O : Nat, o = (O : Int) := ⟨o.toNat, by omega⟩
  obtain ⟨N, rfl⟩ : ∃ N : Nat, n = (N : Int) := ⟨n.toNat, by omega⟩
  rw [Int.toNat_natCast, Int.toNat_natCast]
  obtain ⟨L, hL⟩ : ∃ L, L = l ++ wdB O N m ++ z := ⟨_, rfl⟩
  rw [← hL]
  have hlen : L.length = 4 * a + 4 * (1 + m.length) + z.length := by rw [hL, List.length_append, List.length_append, hl, wdB_len]
  have hw : ∀ j x, (fstW O N :: m)[j]? = some x → wdV L (a + j) = x := by
    intro j x hj
    rw [hL, List.append_assoc, wdV_app l _ a j hl]
    exact wdV_fm _ z j x hj
  have h0 : wdV L a = fstW O N := hw 0 _ rfl
  have hu : uI (wdV L a) = ((O * 16777216 + N : Nat) : Int) := by rw [h0]; exact fst_uI O N (by omega) (by omega)
  have hO : insO L a = (O : Int) := by unfold insO; rw [hu]; omega
  have hN : insN L a = (N : Int) := by unfold insN; rw [hu]; omega
  have hs : stB L.length (a : Int) 1 = true := by unfold stB; simp; omega
  have hop : isOp (O : Int) = true := by unfold isOp; simp; omega
  have htk : tkB (O : Int) (N : Int) = true := by
    unfold tkB
    unfold chkE at h
    rw [if_pos hop] at h
    by_cases c : (decide (kLo (O : Int) ≤ (N : Int)) && decide ((N : Int) ≤ kHi (O : Int))) = true
    · exact c
    · rw [if_neg c] at h; omega
  have hrm : (N : Int) ≤ kRm (O : Int) := by
    unfold tkB at htk
    simp only [Bool.and_eq_true, decide_eq_true_eq] at htk
    exact Int.le_trans htk.2 (kHi_Rm _)
  have hr : rdP L a = (m, 0) := by
    unfold rdP
    rw [hO, hN, if_pos hop, if_pos hrm, if_pos htk, Int.toNat_natCast]
    unfold chkE at h
    have htk' := htk
    unfold tkB at htk'
    rw [if_pos hop, if_pos htk'] at h
    by_cases c : (O : Int) = 2
    · rw [if_pos c] at h ⊢
      rw [Int.toNat_natCast] at h
      have hmp : isMapB m N = true := by
        by_cases c2 : isMapB m N = true
        · exact c2
        · rw [if_neg c2] at h; omega
      have hml : m.length = mwN N := by
        unfold isMapB at hmp
        simp only [Bool.and_eq_true, decide_eq_true_eq] at hmp
        exact hmp.1
      have hmL : mpL L (a + 1) (mwN N) = m := by
        apply List.ext_getElem?
        intro j
        by_cases hj : j < m.length
        · unfold mpL
          rw [List.getElem?_map, List.getElem?_range (by omega), List.getElem?_eq_getElem hj]
          simp only [Option.map_some, Option.some.injEq]
          rw [Nat.add_assoc, Nat.add_comm 1 j]
          exact hw (j + 1) _ (by simp [hj])
        · rw [List.getElem?_eq_none (by rw [mpL_len]; omega), List.getElem?_eq_none (by omega)]
      unfold rmP
      rw [if_pos (by omega), hmL, if_pos hmp]
    · rw [if_neg c] at h ⊢
      by_cases c2 : m = []
      · rw [c2]
      · rw [if_neg c2] at h; omega
  have hE : dcE L (a : Int) = 0 := by unfold dcE; rw [if_pos hs, Int.toNat_natCast, hr]
  have hI : dcI L (a : Int) = ⟨(O : Int), (N : Int), m⟩ := by unfold dcI; rw [if_pos hE, Int.toNat_natCast, hO, hN, hr]
  exact ⟨hE, hI, by unfold dcZ; rw [if_pos hE, hI]⟩
theorem by4_num (a b c d : Nat) (ha : a < 256) (hb : b < 256) (hc : c < 256) (hd : d < 256) : by4 (numN [a, b, c, d]) = [a, b, c, d] := by
  have e : numN [a, b, c, d] = ((((0 * 256 + a) * 256 + b) * 256 + c) * 256 + d) := rfl
  rw [e]
  unfold by4
  congr 1
  · omega
  · congr 1
    · omega
    · congr 1
      · omega
      · congr 1; omega
theorem list4 (l : List Nat) (h : l.length = 4) : ∃ a b c d, l = [a, b, c, d] := by
  match l, h with
  | [a, b, c, d], _ => exact ⟨a, b, c, d, rfl⟩
theorem by4_wd (l : List Nat) (k : Nat) (hx : ∀ b ∈ l, b < 256) (hk : k < l.length / 4) : by4 (wdV l k).toNat = (l.drop (4 * k)).take 4 := by
  have h1 : (wdV l k).toNat = numN ((l.drop (4 * k)).take 4) := by
    unfold wdV
    rw [BitVec.toNat_ofNat]
    exact Nat.mod_eq_of_lt (wd_lt l k hx)
  rw [h1]
  obtain ⟨a, b, c, d, e⟩ := list4 ((l.drop (4 * k)).take 4) (by rw [List.length_take, List.length_drop]; omega)
  have hb : ∀ y ∈ (l.drop (4 * k)).take 4, y < 256 := fun y hy => hx y (List.mem_of_mem_drop (List.mem_of_mem_take hy))
  rw [e] at hb ⊢
  exact by4_num a b c d (hb a (by simp)) (hb b (by simp)) (hb c (by simp)) (hb d (by simp))
theorem fm_mp (l : List Nat) (hx : ∀ b ∈ l, b < 256) : ∀ (c k : Nat), k + c ≤ l.length / 4 → ((mpL l k c).flatMap fun x => by4 x.toNat) = (l.drop (4 * k)).take (4 * c)
  | 0, k, h => by simp [mpL]
  | c + 1, k, h => by
    rw [mpL_succ, List.flatMap_append, fm_mp l hx c k (by omega)]
    show _ ++ (by4 (wdV l (k + c)).toNat ++ []) = _
    rw [List.append_nil, by4_wd l (k + c) hx (by omega), Nat.mul_succ, List.take_add, List.drop_drop, Nat.mul_add]
theorem mpL_cons (l : List Nat) (k c : Nat) : wdV l k :: mpL l (k + 1) c = mpL l k (c + 1) := by
  unfold mpL
  rw [List.range_succ_eq_map]
  simp only [List.map_cons, List.map_map, Nat.add_zero, List.cons.injEq, true_and]
  apply List.map_congr_left
  intro j _
  simp only [Function.comp]
  congr 1
  omega
theorem dcE_stand {l : List Nat} {a : Int} (h : dcE l a = 0) : 0 ≤ a ∧ a.toNat < l.length / 4 ∧ (rdP l a.toNat).2 = 0 := by
  unfold dcE at h
  by_cases c : stB l.length a 1 = true
  · rw [if_pos c] at h
    unfold stB at c
    simp at c
    exact ⟨c.1, by omega, h⟩
  · rw [if_neg c] at h; omega
/-- What is read is laid. -/
theorem enc_dec (l : List Nat) (a : Int) (hx : ∀ b ∈ l, b < 256) (h : dcE l a = 0) :
    chkE (dcI l a).op (dcI l a).n (dcI l a).m = 0 ∧ wdB (dcI l a).op.toNat (dcI l a).n.toNat (dcI l a).m = (l.drop (4 * a.toNat)).take (4 * (1 + (dcI l a).m.length)) ∧ a.toNat + 1 + (dcI l a).m.length ≤ l.length / 4 := by
  obtain ⟨ha, hk, hr⟩ := dcE_stand h
  have hI : dcI l a = ⟨insO l a.toNat, insN l a.toNat, (rdP l a.toNat).1⟩ := by unfold dcI; rw [if_pos h]
  rw [hI]
  simp only
  obtain ⟨k, hkd⟩ : ∃ k, k = a.toNat := ⟨_, rfl⟩
  rw [← hkd] at hk hr ⊢
  have hX0 := uI_lo (wdV l k)
  have hX1 := uI_up (wdV l k)
  obtain ⟨O, hO⟩ : ∃ O : Nat, (O : Int) = insO l k := ⟨(insO l k).toNat, by unfold insO; omega⟩
  obtain ⟨N, hN⟩ : ∃ N : Nat, (N : Int) = insN l k := ⟨(insN l k).toNat, by unfold insN; omega⟩
  have hf : fstW O N = wdV l k := by
    apply uI_inj
    have e : ((O * 16777216 + N : Nat) : Int) = uI (wdV l k) := by
      have h1 : (O : Int) = uI (wdV l k) / 16777216 := hO
      have h2 : (N : Int) = uI (wdV l k) % 16777216 := hN
      omega
    rw [← e]
    exact uI_of _ (by omega)
  have key : ∀ m, m = (rdP l k).1 → chkE (O : Int) (N : Int) m = 0 ∧ m = mpL l (k + 1) m.length ∧ k + 1 + m.length ≤ l.length / 4 := by
    intro m hm
    unfold rdP at hr hm
    rw [← hO, ← hN] at hr hm
    by_cases c1 : isOp (O : Int) = true
    · rw [if_pos c1] at hr hm
      by_cases c2 : (N : Int) ≤ kRm (O : Int)
      · rw [if_pos c2] at hr hm
        by_cases c3 : tkB (O : Int) (N : Int) = true
        · rw [if_pos c3] at hr hm
          have c3' := c3
          unfold tkB at c3'
          unfold chkE
          rw [if_pos c1, if_pos c3']
          by_cases c4 : (O : Int) = 2
          · rw [if_pos c4] at hr hm ⊢
            unfold rmP at hr hm
            rw [Int.toNat_natCast] at hr hm ⊢
            by_cases c5 : k + 1 + mwN N ≤ l.length / 4
            · rw [if_pos c5] at hr hm
              by_cases c6 : isMapB (mpL l (k + 1) (mwN N)) N = true
              · rw [if_pos c6] at hr hm
                simp only at hm
                have hml : m.length = mwN N := by rw [hm, mpL_len]
                refine ⟨by rw [hm, if_pos c6], by rw [hml]; exact hm, by omega⟩
              · rw [if_neg c6] at hr; simp at hr
            · rw [if_neg c5] at hr; simp at hr
          · rw [if_neg c4] at hr hm ⊢
            simp only at hm
            subst hm
            exact ⟨by rw [if_pos rfl], by simp [mpL], by simp; omega⟩
        · rw [if_neg c3] at hr; simp at hr
      · rw [if_neg c2] at hr; simp at hr
    · rw [if_neg c1] at hr; simp at hr
  obtain ⟨k1, k2, k3⟩ := key _ rfl
  rw [← hO, ← hN, Int.toNat_natCast, Int.toNat_natCast]
  refine ⟨k1, ?_, k3⟩
  unfold wdB
  obtain ⟨c, hc⟩ : ∃ c, c = (rdP l k).1.length := ⟨_, rfl⟩
  rw [← hc] at k2 k3 ⊢
  rw [k2, hf, mpL_cons, fm_mp l hx (c + 1) k (by omega), Nat.add_comm c 1]
/-- One byte short there is no map, or no word. -/
theorem dec_cut (o n : Int) (m : List (BitVec 32)) (h : chkE o n m = 0) : dcE ((wdB o.toNat n.toNat m).take (4 * (1 + m.length) - 1)) 0 = 30 := by
  obtain ⟨ho, hn, hm⟩ := chk_zero h
  obtain ⟨L, hL⟩ : ∃ L, L = (wdB o.toNat n.toNat m).take (4 * (1 + m.length) - 1) := ⟨_, rfl⟩
  have hlen : L.length = 4 * (1 + m.length) - 1 := by rw [hL, List.length_take, wdB_len]; omega
  rw [← hL]
  by_cases hm0 : m = []
  · have : stB L.length 0 1 = false := by
      unfold stB
      rw [hm0] at hlen
      simp at hlen ⊢
      omega
    unfold dcE
    rw [if_neg (by rw [this]; decide)]
  · have hmp : 0 < m.length := List.length_pos_iff.2 hm0
    have hall : o = 2 ∧ isMapB m n.toNat = true ∧ tkB o n = true ∧ isOp o = true := by
      unfold chkE at h
      by_cases c1 : isOp o = true
      · rw [if_pos c1] at h
        by_cases c2 : (decide (kLo o ≤ n) && decide (n ≤ kHi o)) = true
        · rw [if_pos c2] at h
          by_cases c3 : o = 2
          · rw [if_pos c3] at h
            by_cases c4 : isMapB m n.toNat = true
            · exact ⟨c3, c4, c2, c1⟩
            · rw [if_neg c4] at h; omega
          · rw [if_neg c3, if_neg hm0] at h; omega
        · rw [if_neg c2] at h; omega
      · rw [if_neg c1] at h; omega
    have hop := hall.1
    have hmap := hall.2
    obtain ⟨O, rfl⟩ : ∃ O : Nat, o = (O : Int) := ⟨o.toNat, by omega⟩
    obtain ⟨N, rfl⟩ : ∃ N : Nat, n = (N : Int) := ⟨n.toNat, by omega⟩
    rw [Int.toNat_natCast, Int.toNat_natCast] at hL
    rw [Int.toNat_natCast] at hmap
    have h0 : wdV L 0 = fstW O N := by
      have e : L = by4 (fstW O N).toNat ++ ((m.flatMap fun x => by4 x.toNat).take (4 * m.length - 1)) := by
        rw [hL]
        unfold wdB
        rw [List.flatMap_cons, List.take_append]
        congr 1
        · exact List.take_of_length_le (by show 4 ≤ _; omega)
        · congr 1; show _ - 4 = _; omega
      rw [e]
      exact wdV_zero _ _
    have hu : uI (wdV L 0) = ((O * 16777216 + N : Nat) : Int) := by rw [h0]; exact fst_uI O N (by omega) (by omega)
    have hO : insO L 0 = (O : Int) := by unfold insO; rw [hu]; omega
    have hN : insN L 0 = (N : Int) := by unfold insN; rw [hu]; omega
    have hs : stB L.length 0 1 = true := by unfold stB; simp; omega
    have hml : m.length = mwN N := by
      have := hmap.1
      unfold isMapB at this
      simp only [Bool.and_eq_true, decide_eq_true_eq] at this
      exact this.1
    have hrm : (N : Int) ≤ kRm (O : Int) := by
      have := hmap.2.1
      unfold tkB at this
      simp only [Bool.and_eq_true, decide_eq_true_eq] at this
      exact Int.le_trans this.2 (kHi_Rm _)
    unfold dcE
    rw [if_pos hs]
    show (rdP L 0).2 = 30
    unfold rdP
    rw [hO, hN, if_pos hmap.2.2, if_pos hrm, if_pos hmap.2.1, if_pos hop, Int.toNat_natCast]
    unfold rmP
    rw [if_neg (by omega)]
end Go.Proofs.YtologchdnjnadaaDoor
/-
  What the document's Encode of chapter 14 does.
-/
namespace Go.Proofs.YtologchdnjnadaaDoor
open Go.RowKit
set_option linter.unusedSimpArgs false
set_option linter.unusedVariables false

set_option maxRecDepth 100000 in
set_option maxHeartbeats 8000000 in
theorem rput14 (w0 : World) (ao : Option Addr) (cc : Nat) (l : List Nat) (x : Nat) (K : Int) (k : Nat) (hK : K = (k : Int)) (hk0 : 0 < k) (hk : k ≤ 4) (w : World) (hS0 : PS13 w0 w (.slice ao l.length cc) l) (hl : l.length ≤ 140737488355000) (hx : x < 4294967296) :
    Calls Tryd.prog 39 #[.slice ao l.length cc, .int .u32 (x : Int), .int .i64 K] w fun e w' => ∃ v', e = .returned v' ∧ w'.ownsRow w0.heap.size 5 1 v' (l ++ lastB x k).length ((l ++ lastB x k).map cB) ∧ Below w0.heap.size w0 w' := by
  subst hK
  have HS0 := hid13 hS0
  obtain ⟨N, hN⟩ : ∃ N : Int, N = (x : Int) := ⟨_, rfl⟩
  have HN := hid13 hN
  have hN0 : 0 ≤ N := by omega
  have hN1 : N < 4294967296 := by omega
  have hq : N / 16777216 < 256 := by omega
  have hq0 : 0 ≤ N / 16777216 := by omega
  rw [← hN]
  have hki : (k : Int) ≤ 4 := by omega
  have HK0 : Hid (0 < k ∧ k ≤ 4 ∧ l.length ≤ 140737488355000) := ⟨hk0, hk, hl⟩
  clear hN hS0 hx hk0 hk hl
  go_enter Tryd.func39, Tryd.ntmps39
  go_wp2_with fail
  go_loopg [0, 7] k (fun g vb i wr => ∃ (c : Nat) (v : Value) (R : List Nat), c = g ∧ c ≤ k ∧ vb = v ∧ i = .int .i64 ((c : Int) - 1) ∧ Hid (PS13 w0 wr v R) ∧ (c < k → wr.ownsRow w0.heap.size 5 1 v R.length (R.map cB)) ∧ Hid (R ++ lastB x c = l ++ lastB x k))
  case atStart => exact ⟨k, _, l, rfl, Nat.le_refl _, rfl, rfl, HS0, fun h => by omega, rfl⟩
  case round =>
    clear HS0
    obtain ⟨c, vb, R, rfl, hck, hvb, rfl, HS, HO, HR0⟩ := hrel
    subst hvb
    cases c with
    | zero =>
      have HO2 := hid13 (HO HK0.out.1)
      have e : R = l ++ lastB x k := by have := HR0.out; simp only [lastB, List.append_nil] at this; exact this
      subst e
      clear HO
      go_wp2_with fail
      exact bodyPost_ret (v := u0) (by simp [results, Tryd.results39, go_sem]) rfl ⟨_, rfl, HO2.out, HS.out.1⟩
    | succ c =>
      have HR : Hid (R.length ≤ 140737488355200) := by
        have h1 := congrArg List.length HR0.out
        have h2 : ∀ c, (lastB x c).length = c := by intro c; induction c with | zero => rfl | succ c ih => simp [lastB, ih]
        rw [List.length_append, List.length_append, h2, h2] at h1
        have := HK0.out
        show _ ≤ _
        omega
      obtain ⟨b, hb⟩ : ∃ b, b = x / 256 ^ c % 256 := ⟨_, rfl⟩
      have HP : Hid ((R ++ [b]) ++ lastB x c = l ++ lastB x k) := by
        have := HR0.out
        simp only [lastB] at this
        rw [List.append_assoc, hb]; exact this
      obtain ⟨y, hyb⟩ : ∃ y : Int, y = (b : Int) := ⟨_, rfl⟩
      have HY : Hid (N = (x : Int) ∧ x < 4294967296 ∧ y = ((x / 256 ^ c % 256 : Nat) : Int)) := ⟨HN.out, by have := HN.out; omega, by rw [hyb, hb]⟩
      have HK : Hid (c < c + 1 ∧ c ≤ k) := ⟨by omega, by omega⟩
      have hc4 : c < 4 := by have := HK0.out; omega
      have hp1 : ((c + 1 : Nat) : Int) - 1 = (c : Int) := by omega
      rw [hp1]
      clear HO HR0 hb hp1 hck
      rcases c with _ | _ | _ | _ | c
      · have hy : N % 256 = y := by have := HY.out; simp at this; omega
        go_wp2_with (at_builtin; apply stopHere9)
        refine (show wpList _ _ _ _ _ _ from ?_)
        try rw [hyb]
        refine wpList_put13 rfl _ _ rfl w0 wr u0 R HS.out b HR.out rfl rfl ?_
        intro v5 w5 ho5 hb5
        have HS5 : Hid (PS13 w0 w5 v5 (R ++ [b])) := ⟨hb5, .inl ho5⟩
        have HW5 := hid13 ho5
        clear ho5 hb5 HS
        go_wp2
        go_roundg 0
        case measure => exact HK.out.1
        case rel => exact ⟨0, v5, R ++ [b], rfl, HK.out.2, rfl, rfl, HS5, fun _ => HW5.out, HP.out⟩
      · have hy : N / 256 % 256 = y := by have := HY.out; simp at this; omega
        go_wp2_with (at_builtin; apply stopHere9)
        refine (show wpList _ _ _ _ _ _ from ?_)
        try rw [hyb]
        refine wpList_put13 rfl _ _ rfl w0 wr u0 R HS.out b HR.out rfl rfl ?_
        intro v5 w5 ho5 hb5
        have HS5 : Hid (PS13 w0 w5 v5 (R ++ [b])) := ⟨hb5, .inl ho5⟩
        have HW5 := hid13 ho5
        clear ho5 hb5 HS
        go_wp2
        go_roundg 1
        case measure => exact HK.out.1
        case rel => exact ⟨1, v5, R ++ [b], rfl, HK.out.2, rfl, rfl, HS5, fun _ => HW5.out, HP.out⟩
      · have hy : N / 65536 % 256 = y := by have := HY.out; simp at this; omega
        go_wp2_with (at_builtin; apply stopHere9)
        refine (show wpList _ _ _ _ _ _ from ?_)
        try rw [hyb]
        refine wpList_put13 rfl _ _ rfl w0 wr u0 R HS.out b HR.out rfl rfl ?_
        intro v5 w5 ho5 hb5
        have HS5 : Hid (PS13 w0 w5 v5 (R ++ [b])) := ⟨hb5, .inl ho5⟩
        have HW5 := hid13 ho5
        clear ho5 hb5 HS
        go_wp2
        go_roundg 2
        case measure => exact HK.out.1
        case rel => exact ⟨2, v5, R ++ [b], rfl, HK.out.2, rfl, rfl, HS5, fun _ => HW5.out, HP.out⟩
      · have hy : N / 16777216 = y := by have := HY.out; simp at this; omega
        go_wp2_with (at_builtin; apply stopHere9)
        refine (show wpList _ _ _ _ _ _ from ?_)
        try rw [hyb]
        refine wpList_put13 rfl _ _ rfl w0 wr u0 R HS.out b HR.out rfl rfl ?_
        intro v5 w5 ho5 hb5
        have HS5 : Hid (PS13 w0 w5 v5 (R ++ [b])) := ⟨hb5, .inl ho5⟩
        have HW5 := hid13 ho5
        clear ho5 hb5 HS
        go_wp2
        go_roundg 3
        case measure => exact HK.out.1
        case rel => exact ⟨3, v5, R ++ [b], rfl, HK.out.2, rfl, rfl, HS5, fun _ => HW5.out, HP.out⟩
      · omega
set_option maxRecDepth 100000 in
theorem rencode14_no (op n : Int) (v : Value) (m : List (BitVec 32)) (w : World) (hv : RwX cU w v m) (h0 : chkE op n m ≠ 0) :
    Calls Tryd.prog 41 #[.agg #[.int .i64 op, .int .i64 n, v]] w fun e w' => e = .returned (.tuple #[.slice none 0 0, .int .i64 (chkE op n m)]) ∧ Below w.heap.size w w' := by
  obtain ⟨ao, c, hvf, -⟩ := id hv
  have q1 := bl1 w (.cells #[.int .i64 op, .int .i64 n, v] 45)
  have K1 := rcheck14 op n v m _ (hv.below q1)
  have HB := hid13 q1
  subst hvf
  have hne : (chkE op n m != 0) = true := by simpa using h0
  clear q1 hv h0
  generalize chkE op n m = z at *
  go_enter Tryd.func41, Tryd.ntmps41
  go_wp2_with fail
  refine K1.mono ?_
  rintro e w2 ⟨rfl, hb2⟩
  have HB2 := hid13 (keepb hb2 HB.out)
  clear K1 hb2 HB
  go_wp2
  exact bodyPost_ret (v := .tuple #[.slice none 0 0, .int .i64 z]) (by simp [results, Tryd.results41, go_sem]) rfl ⟨rfl, HB2.out⟩
set_option maxRecDepth 100000 in
set_option maxHeartbeats 8000000 in
theorem rencode14 (O k : Nat) (v : Value) (m : List (BitVec 32)) (w : World) (hv : RwX cU w v m) (h0 : chkE (O : Int) (k : Int) m = 0) :
    Calls Tryd.prog 41 #[.agg #[.int .i64 (O : Int), .int .i64 (k : Int), v]] w fun e w' => ∃ v', e = .returned (.tuple #[v', .int .i64 0]) ∧ w'.ownsRow w.heap.size 5 1 v' (wdB O k m).length ((wdB O k m).map cB) ∧ Below w.heap.size w w' := by
  obtain ⟨ao, c, hvf, -⟩ := id hv
  have q1 := bl1 w (.cells #[.int .i64 (O : Int), .int .i64 (k : Int), v] 45)
  have HA1 := hid13 (ati_new w (O : Int) (k : Int) v 45)
  have K1 := rcheck14 (O : Int) (k : Int) v m _ (hv.below q1)
  have HB := hid13 q1
  have HV := hid13 hv
  obtain ⟨hO, hk, hml⟩ := chk_zero h0
  rw [h0] at K1
  subst hvf
  have hor : bits .or .u32 ((O : Int) * 16777216) (k : Int) = ((O * 16777216 + k : Nat) : Int) := orN32 (O * 16777216) k 24 (by omega) (by omega) (by omega) _ _ (by omega) rfl
  have hw1 : IntKind.u32.wrap (O : Int) = (O : Int) := wrap32n O (by omega)
  have hw2 : IntKind.u32.wrap (k : Int) = (k : Int) := wrap32n k (by omega)
  have hw3 : IntKind.u32.wrap ((O : Int) * 16777216) = (O : Int) * 16777216 := by have := wrap32n (O * 16777216) (by omega); simpa using this
  obtain ⟨F, hF⟩ : ∃ F : Nat, F = O * 16777216 + k := ⟨_, rfl⟩
  rw [← hF] at hor
  have hF4 : F < 4294967296 := by omega
  have HF : Hid (F = (fstW O k).toNat ∧ m.length ≤ 524288 ∧ F < 4294967296) := ⟨by unfold fstW; rw [BitVec.toNat_ofNat, hF]; omega, hml, hF4⟩
  clear q1 hv h0 hO hk hml hF hF4
  go_enter Tryd.func41, Tryd.ntmps41
  go_wp2_with fail
  refine K1.mono ?_
  rintro e w2 ⟨rfl, hb2⟩
  have HB2 := hid13 (keepb hb2 HB.out)
  have HA2 := hid13 (HA1.out.below hb2)
  obtain ⟨b0, b1, b2⟩ := HA2.out
  have K3 := rput14 w2 none 0 [] F 4 4 rfl (by decide) (by decide) w2 ⟨Below.refl _ _, .inl (World.ownsRow_nil _ _ _ _)⟩ (by simp) HF.out.2.2
  rw [List.nil_append, lastB_four F HF.out.2.2, HF.out.1] at K3
  clear K1 hb2 HB HA1
  rw [show (((fstW O k).toNat : Nat) : Int) = (F : Int) by rw [← HF.out.1]] at K3
  go_wp2_with fail
  refine K3.mono ?_
  rintro e w3 ⟨v3, rfl, hO3, hb3⟩
  have HS0 : Hid (Below w2.heap.size w2 w3 ∧ w3.ownsRow w2.heap.size 5 1 v3 ((fstW O k :: m.take 0).flatMap fun x => by4 x.toNat).length (((fstW O k :: m.take 0).flatMap fun x => by4 x.toNat).map cB)) := by
    refine ⟨hb3, ?_⟩
    have e : ((fstW O k :: m.take 0).flatMap fun x => by4 x.toNat) = by4 (fstW O k).toNat := by simp
    rw [e]; exact hO3
  clear K3 hO3 hb3 b0 b1 b2 hor hw1 hw2 hw3
  go_wp2
  go_loopg [5, 6] m.length (fun g vb i wr => ∃ (j : Nat), j + g = m.length ∧ i = .int .i64 (j : Int) ∧ Hid (Below w2.heap.size w2 wr ∧ wr.ownsRow w2.heap.size 5 1 vb ((fstW O k :: m.take j).flatMap fun x => by4 x.toNat).length (((fstW O k :: m.take j).flatMap fun x => by4 x.toNat).map cB)))
  case atStart => exact ⟨0, by omega, rfl, HS0⟩
  case round =>
    clear HS0
    obtain ⟨j, hj, rfl, HS⟩ := hrel
    obtain ⟨b0, b1, b2⟩ := HA2.out.below HS.out.1
    by_cases hlt : j < m.length
    · have hli : (j : Int) < (m.length : Int) := by omega
      obtain ⟨x, hx⟩ : ∃ x, m[j]? = some x := ⟨m[j], by simp [hlt]⟩
      obtain ⟨b, off, hao, hcell⟩ : ∃ b off, ao = some ⟨b, off, none⟩ ∧ ∀ j x, m[j]? = some x → wr.cell? ⟨b, off + j, none⟩ = some (cU x) := by
        obtain ⟨ao', c', e, hc, hr⟩ := (HV.out.below HB2.out).below HS.out.1
        injection e with e1 e2 e3
        subst e1
        rcases hr with h | h
        · rw [h] at hlt; simp at hlt
        · exact h
      subst hao
      have hrd : wr.cell? ⟨b, off + j, none⟩ = some (.int .u32 (uI x)) := hcell j x hx
      obtain ⟨R, hR⟩ : ∃ R, R = ((fstW O k :: m.take j).flatMap fun x => by4 x.toNat) := ⟨_, rfl⟩
      have hRl : R.length ≤ 4000000 := by rw [hR, fm_len]; simp; have := HF.out; omega
      have htk : ((fstW O k :: m.take (j + 1)).flatMap fun x => by4 x.toNat) = R ++ by4 x.toNat := by
        rw [hR, List.take_add_one, hx, ← List.cons_append, List.flatMap_append]
        simp
      have HO := HS.out.2
      rw [← hR] at HO
      obtain ⟨xo, xc, hv⟩ := own_form HO
      have K4 := rput14 w2 xo xc R x.toNat 4 4 rfl (by decide) (by decide) wr ⟨HS.out.1, .inl (by rw [← hv]; exact HO)⟩ (by omega) x.isLt
      rw [lastB_four _ x.isLt, ← htk, ← uI_eq] at K4
      have mj : IntKind.i64.wrap ((j : Int) + 1) = (j : Int) + 1 := by rw [IntKind.wrap_i64]; have := HF.out; omega
      have HK : Hid (j + gk = m.length ∧ j < m.length) := ⟨hj, hlt⟩
      subst hv
      clear hx hcell htk hR HO hlt hj HS
      go_wp2_with fail
      refine K4.mono ?_
      rintro e w4 ⟨v4, rfl, hO4, hb4⟩
      have HS4 := hid13 (And.intro hb4 hO4)
      clear K4 hO4 hb4 b0 b1 b2 hrd
      go_wp2
      go_roundg (gk - 1)
      case measure => have := HK.out; omega
      case rel => exact ⟨j + 1, by have := HK.out; omega, rfl, HS4⟩
    · have hli : ¬ (j : Int) < (m.length : Int) := by omega
      have HE : Hid (wr.ownsRow w2.heap.size 5 1 u5 (wdB O k m).length ((wdB O k m).map cB)) := by
        have := HS.out.2
        rw [List.take_of_length_le (by omega)] at this
        exact this
      have HBw := hid13 (HB2.out.trans (HS.out.1.mono HB2.out.size))
      have hsz : w.heap.size ≤ w2.heap.size := HB2.out.size
      clear HS
      go_wp2
      exact bodyPost_ret (v := .tuple #[u5, .int .i64 0]) (by simp [results, Tryd.results41, go_sem]) rfl ⟨_, rfl, own_wide13 HE.out hsz, HBw.out⟩
end Go.Proofs.YtologchdnjnadaaDoor
/-
  The document's line.
-/
namespace Go.Proofs.YtologchdnjnadaaDoor
open Go.RowKit
set_option linter.unusedSimpArgs false
set_option linter.unusedVariables false

theorem hxP_bd15 : ∀ (f v : Nat) (L : List UInt8) (r : Nat), hxP f v L = some r → r < (v + 1) * 16 ^ f
  | 0, v, _, r, h => by injection h with h; subst h; simp
  | f + 1, v, [], r, h => by cases h
  | f + 1, v, c :: L, r, h => by
    have h' : (match hxV c with | some d => hxP f (v * 16 + d) L | none => none) = some r := h
    cases hc : hxV c with
    | none => rw [hc] at h'; cases h'
    | some d =>
      rw [hc] at h'
      have h1 := hxP_bd15 f _ L r h'
      have h2 := hx_lt hc
      have h3 : (v * 16 + d + 1) * 16 ^ f ≤ (v * 16 + 16) * 16 ^ f := Nat.mul_le_mul_right _ (by omega)
      rw [Nat.pow_succ, show (v + 1) * (16 ^ f * 16) = (v * 16 + 16) * 16 ^ f by rw [Nat.mul_comm (16 ^ f) 16, ← Nat.mul_assoc]; congr 1; omega]
      omega
theorem rd_in (s : ByteArray) : s = ⟨(fr s 0).toArray⟩ := by
  apply ByteArray.ext
  apply Array.toList_inj.1
  simp [fr]
theorem ba_eq {s t : ByteArray} : s = t ↔ fr s 0 = fr t 0 := ⟨fun h => by rw [h], fun h => by rw [rd_in s, rd_in t, h]⟩
theorem fr_nmS (j : Nat) : fr (nmS j) 0 = nmL j := by unfold fr nmS; simp
/-- The last operation below j that a piece names. -/
def opU (p : ByteArray) : Nat → Nat
  | 0 => 0
  | j + 1 => if j ≠ 0 ∧ p = nmS j then j else opU p j
theorem opU_D (p : ByteArray) : opU p 5 = opD (fr p 0) := by
  have h : ∀ j, (p = nmS j) = (fr p 0 = nmL j) := fun j => by rw [ba_eq, fr_nmS]
  show (if 4 ≠ 0 ∧ p = nmS 4 then 4 else if 3 ≠ 0 ∧ p = nmS 3 then 3 else if 2 ≠ 0 ∧ p = nmS 2 then 2 else if 1 ≠ 0 ∧ p = nmS 1 then 1 else if 0 ≠ 0 ∧ p = nmS 0 then 0 else 0) = _
  unfold opD
  simp only [h]
  simp
/-- The memory of the document's line: the pieces, the instruction with its map. -/
structure LdM (w : World) (I : Nat) (o n : Int) (v : Value) (P : List ByteArray) (vm : Value) (M : List (BitVec 32)) (W : World) : Prop where
  p : W.ownsRow w.heap.size 9 1 v P.length (P.map cS)
  i : W.heap[I]? = some (.cells #[.int .i64 o, .int .i64 n, vm] 45)
  m : W.ownsRow w.heap.size 48 1 vm M.length (M.map cU)
  b : Below w.heap.size w W
  I0 : w.heap.size ≤ I
section
variable {w W W' : World} {I : Nat} {o n : Int} {v vm : Value} {P : List ByteArray} {M : List (BitVec 32)}
theorem LdM.below (h : LdM w I o n v P vm M W) (hb : Below W.heap.size W W') : LdM w I o n v P vm M W' :=
  ⟨own_b13 hb h.p, by rw [hb.block _ (lt_b15 h.i)]; exact h.i, own_b13 hb h.m, keepb hb h.b, h.I0⟩
theorem LdM.x1 (h : LdM w I o n v P vm M W) : v.ownBlock ≠ some I := Lib.ownBlock_ne h.p h.i (by decide)
theorem LdM.x2 (h : LdM w I o n v P vm M W) : vm.ownBlock ≠ some I := Lib.ownBlock_ne h.m h.i (by decide)
theorem LdM.setO (h : LdM w I o n v P vm M W) (o' : Int) : LdM w I o' n v P vm M (W.setCell ⟨I, 0, none⟩ (.int .i64 o')) :=
  ⟨own_set15 h.p h.x1, by simpa using set_b15 (o := 0) h.i (.int .i64 o'), own_set15 h.m h.x2, h.b.setCell (p := ⟨I, 0, none⟩) h.I0 _, h.I0⟩
theorem LdM.setN (h : LdM w I o n v P vm M W) (n' : Int) : LdM w I o n' v P vm M (W.setCell ⟨I, 1, none⟩ (.int .i64 n')) :=
  ⟨own_set15 h.p h.x1, by simpa using set_b15 (o := 1) h.i (.int .i64 n'), own_set15 h.m h.x2, h.b.setCell (p := ⟨I, 1, none⟩) h.I0 _, h.I0⟩
theorem LdM.c (h : LdM w I o n v P vm M W) : W.cell? ⟨I, 0, none⟩ = some (.int .i64 o) ∧ W.cell? ⟨I, 1, none⟩ = some (.int .i64 n) ∧ W.cell? ⟨I, 2, none⟩ = some vm := ⟨at_b15 h.i 0 _ rfl, at_b15 h.i 1 _ rfl, at_b15 h.i 2 _ rfl⟩
theorem LdM.free (h : LdM w I o n v P vm M W) (j : Nat) : W.frozen? ⟨I, j, none⟩ = false := fr_b15 h.i
theorem LdM.app {v' : Value} {x : BitVec 32} (h : LdM w I o n v P vm M W) (hg : W.grownBy W' vm.ownBlock) (ho : W'.ownsRow w.heap.size 48 1 v' (M ++ [x]).length ((M ++ [x]).map cU)) : LdM w I o n v P v' (M ++ [x]) (W'.setCell ⟨I, 2, none⟩ v') ∧ W'.heap[I]? = some (.cells #[.int .i64 o, .int .i64 n, vm] 45) := by
  have hi : W'.heap[I]? = some (.cells #[.int .i64 o, .int .i64 n, vm] 45) := by rw [hg.block _ (lt_b15 h.i) (fun e => h.x2 e.symm)]; exact h.i
  have hp : W'.ownsRow w.heap.size 9 1 v P.length (P.map cS) := h.p.kept hg (by
    cases hq : v.ownBlock with
    | none => exact .inl rfl
    | some g =>
      right
      obtain ⟨c, fz, hc⟩ := own_isrow h.p hq
      exact fun e => (Lib.ownBlock_ne h.m hc (by decide)) e.symm)
  have hx : v'.ownBlock ≠ some I := Lib.ownBlock_ne ho hi (by decide)
  have hx1 : v.ownBlock ≠ some I := h.x1
  exact ⟨⟨own_set15 hp hx1, by simpa using set_b15 (o := 2) hi v', own_set15 ho hx, (h.b.grown hg h.b.size (fun z e => (h.m.lt z e).1)).setCell (p := ⟨I, 2, none⟩) h.I0 _, h.I0⟩, hi⟩
end
/-- Piece by piece: what is told of the words from the k-th piece on. -/
def wdK (o n : Int) (M : List (BitVec 32)) (R : List ByteArray) : Int × List Nat :=
  match wordsD (R.map fun x => fr x 0) with | none => (5, []) | some ms => (chkE o n (M ++ ms), enL [] o n (M ++ ms))
theorem wdK_go {o n : Int} {M : List (BitVec 32)} {x : ByteArray} {R : List ByteArray} {v : Nat} (h : wordD (fr x 0) = some v) : wdK o n M (x :: R) = wdK o n (M ++ [BitVec.ofNat 32 v]) R := by
  unfold wdK
  have e : wordsD ((x :: R).map fun x => fr x 0) = (match wordD (fr x 0) with | some v => (wordsD (R.map fun x => fr x 0)).map (BitVec.ofNat 32 v :: ·) | none => none) := rfl
  rw [e, h]
  cases wordsD (R.map fun x => fr x 0) with
  | none => rfl
  | some ms => simp
theorem wdK_no {o n : Int} {M : List (BitVec 32)} {x : ByteArray} {R : List ByteArray} (h : wordD (fr x 0) = none) : wdK o n M (x :: R) = (5, []) := by
  unfold wdK
  have e : wordsD ((x :: R).map fun x => fr x 0) = (match wordD (fr x 0) with | some v => (wordsD (R.map fun x => fr x 0)).map (BitVec.ofNat 32 v :: ·) | none => none) := rfl
  rw [e, h]
theorem wdK_end {o n : Int} {M : List (BitVec 32)} : wdK o n M [] = (chkE o n M, enL [] o n M) := by
  unfold wdK; simp [wordsD]
end Go.Proofs.YtologchdnjnadaaDoor
