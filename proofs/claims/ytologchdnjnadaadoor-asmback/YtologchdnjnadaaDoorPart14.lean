/-
  Part 14 of the proof: 2 texts, one behind the other.
-/
import Derived.Test.YtologchdnjnadaaDoorPart9
import Derived.Test.YtologchdnjnadaaDoorPart13
import Derived.Shelf.Strconv.Itoa3
import Derived.Lib.AppendIntMem
/-
  Plain: what Encode lays Decode reads, and back.
-/
namespace Go.Proofs.YtologchdnjnadaaDoor
set_option linter.unusedSimpArgs false
set_option linter.unusedVariables false

theorem numN_by4 (x : BitVec 32) : numN (by4 x.toNat) = x.toNat := num4 _ x.isLt
theorem wdV_zero (x : BitVec 32) (z : List Nat) : wdV (by4 x.toNat ++ z) 0 = x := by
  unfold wdV
  have e : (((by4 x.toNat ++ z).drop (4 * 0)).take 4) = by4 x.toNat := by
    rw [Nat.mul_zero, List.drop_zero]
    exact List.take_left' rfl
  rw [e, numN_by4]
  simp
theorem wdV_app (l X : List Nat) (a j : Nat) (h : l.length = 4 * a) : wdV (l ++ X) (a + j) = wdV X j := by
  unfold wdV
  rw [Nat.mul_add, ← h, ← List.drop_drop, List.drop_left]
theorem wdV_succ (x : BitVec 32) (z : List Nat) (j : Nat) : wdV (by4 x.toNat ++ z) (j + 1) = wdV z j := by
  rw [Nat.add_comm j 1]
  exact wdV_app (by4 x.toNat) z 1 j rfl
theorem wdV_fm : ∀ (ws : List (BitVec 32)) (z : List Nat) (j : Nat) (x : BitVec 32), ws[j]? = some x → wdV ((ws.flatMap fun x => by4 x.toNat) ++ z) j = x
  | [], z, j, x, h => by simp at h
  | y :: ws, z, 0, x, h => by
    simp at h
    subst h
    rw [List.flatMap_cons, List.append_assoc]
    exact wdV_zero y _
  | y :: ws, z, j + 1, x, h => by
    rw [List.flatMap_cons, List.append_assoc, wdV_succ]
    exact wdV_fm ws z j x (by simpa using h)
theorem kHi_Rm (o : Int) : kHi o ≤ kRm o := by
  unfold kHi kRm
  split
  · omega
  · split <;> omega
/-- What is laid is read. -/
theorem dec_enc (l z : List Nat) (a : Nat) (o n : Int) (m : List (BitVec 32)) (hl : l.length = 4 * a) (h : chkE o n m = 0) :
    dcE (l ++ wdB o.toNat n.toNat m ++ z) (a : Int) = 0 ∧ dcI (l ++ wdB o.toNat n.toNat m ++ z) (a : Int) = ⟨o, n, m⟩ ∧ dcZ (l ++ wdB o.toNat n.toNat m ++ z) (a : Int) = 1 + (m.length : Int) := by
  obtain ⟨ho, hn, hm⟩ := chk_zero h
  obtain ⟨O, rfl⟩ : ∃ O : Nat, o = (O : Int) := ⟨o.toNat, by omega⟩
  obtain ⟨N, rfl⟩ : ∃ N : Nat, n = (N : Int) := ⟨n.toNat, by omega⟩
  rw [Int.toNat_natCast, Int.toNat_natCast]
  obtain ⟨L, hL⟩ : ∃ L, L = l ++ wdB O N m ++ z := ⟨_, rfl⟩
  rw [← hL]
  have hlen : L.length = 4 * a + 4 * (1 + m.length) + z.length := by rw [hL, List.length_append, List.length_append, hl, wdB_len]
  have hw : ∀ j x, (fstW O N :: m)[j]? = some x → wdV L (a + j) = x := by
    intro j x hj
    rw [hL, List.append_assoc, wdV_app l _ a j hl]
    exact wdV_fm _ z j x hj
  have h0 : wdV L a = fstW O N := hw 0 _ rfl
  have hu : uI (wdV L a) = ((O * 16777216 + N : Nat) : Int) := by rw [h0]; exact fst_uI O N (by omega) (by omega)
  have hO : insO L a = (O : Int) := by unfold insO; rw [hu]; omega
  have hN : insN L a = (N : Int) := by unfold insN; rw [hu]; omega
  have hs : stB L.length (a : Int) 1 = true := by unfold stB; simp; omega
  have hop : isOp (O : Int) = true := by unfold isOp; simp; omega
  have htk : tkB (O : Int) (N : Int) = true := by
    unfold tkB
    unfold chkE at h
    rw [if_pos hop] at h
    by_cases c : (decide (kLo (O : Int) ≤ (N : Int)) && decide ((N : Int) ≤ kHi (O : Int))) = true
    · exact c
    · rw [if_neg c] at h; omega
  have hrm : (N : Int) ≤ kRm (O : Int) := by
    unfold tkB at htk
    simp only [Bool.and_eq_true, decide_eq_true_eq] at htk
    exact Int.le_trans htk.2 (kHi_Rm _)
  have hr : rdP L a = (m, 0) := by
    unfold rdP
    rw [hO, hN, if_pos hop, if_pos hrm, if_pos htk, Int.toNat_natCast]
    unfold chkE at h
    have htk' := htk
    unfold tkB at htk'
    rw [if_pos hop, if_pos htk'] at h
    by_cases c : (O : Int) = 2
    · rw [if_pos c] at h ⊢
      rw [Int.toNat_natCast] at h
      have hmp : isMapB m N = true := by
        by_cases c2 : isMapB m N = true
        · exact c2
        · rw [if_neg c2] at h; omega
      have hml : m.length = mwN N := by
        unfold isMapB at hmp
        simp only [Bool.and_eq_true, decide_eq_true_eq] at hmp
        exact hmp.1
      have hmL : mpL L (a + 1) (mwN N) = m := by
        apply List.ext_getElem?
        intro j
        by_cases hj : j < m.length
        · unfold mpL
          rw [List.getElem?_map, List.getElem?_range (by omega), List.getElem?_eq_getElem hj]
          simp only [Option.map_some, Option.some.injEq]
          rw [Nat.add_assoc, Nat.add_comm 1 j]
          exact hw (j + 1) _ (by simp [hj])
        · rw [List.getElem?_eq_none (by rw [mpL_len]; omega), List.getElem?_eq_none (by omega)]
      unfold rmP
      rw [if_pos (by omega), hmL, if_pos hmp]
    · rw [if_neg c] at h ⊢
      by_cases c2 : m = []
      · rw [c2]
      · rw [if_neg c2] at h; omega
  have hE : dcE L (a : Int) = 0 := by unfold dcE; rw [if_pos hs, Int.toNat_natCast, hr]
  have hI : dcI L (a : Int) = ⟨(O : Int), (N : Int), m⟩ := by unfold dcI; rw [if_pos hE, Int.toNat_natCast, hO, hN, hr]
  exact ⟨hE, hI, by unfold dcZ; rw [if_pos hE, hI]⟩
theorem by4_num (a b c d : Nat) (ha : a < 256) (hb : b < 256) (hc : c < 256) (hd : d < 256) : by4 (numN [a, b, c, d]) = [a, b, c, d] := by
  have e : numN [a, b, c, d] = ((((0 * 256 + a) * 256 + b) * 256 + c) * 256 + d) := rfl
  rw [e]
  unfold by4
  congr 1
  · omega
  · congr 1
    · omega
    · congr 1
      · omega
      · congr 1; omega
theorem list4 (l : List Nat) (h : l.length = 4) : ∃ a b c d, l = [a, b, c, d] := by
  match l, h with
  | [a, b, c, d], _ => exact ⟨a, b, c, d, rfl⟩
theorem by4_wd (l : List Nat) (k : Nat) (hx : ∀ b ∈ l, b < 256) (hk : k < l.length / 4) : by4 (wdV l k).toNat = (l.drop (4 * k)).take 4 := by
  have h1 : (wdV l k).toNat = numN ((l.drop (4 * k)).take 4) := by
    unfold wdV
    rw [BitVec.toNat_ofNat]
    exact Nat.mod_eq_of_lt (wd_lt l k hx)
  rw [h1]
  obtain ⟨a, b, c, d, e⟩ := list4 ((l.drop (4 * k)).take 4) (by rw [List.length_take, List.length_drop]; omega)
  have hb : ∀ y ∈ (l.drop (4 * k)).take 4, y < 256 := fun y hy => hx y (List.mem_of_mem_drop (List.mem_of_mem_take hy))
  rw [e] at hb ⊢
  exact by4_num a b c d (hb a (by simp)) (hb b (by simp)) (hb c (by simp)) (hb d (by simp))
theorem fm_mp (l : List Nat) (hx : ∀ b ∈ l, b < 256) : ∀ (c k : Nat), k + c ≤ l.length / 4 → ((mpL l k c).flatMap fun x => by4 x.toNat) = (l.drop (4 * k)).take (4 * c)
  | 0, k, h => by simp [mpL]
  | c + 1, k, h => by
    rw [mpL_succ, List.flatMap_append, fm_mp l hx c k (by omega)]
    show _ ++ (by4 (wdV l (k + c)).toNat ++ []) = _
    rw [List.append_nil, by4_wd l (k + c) hx (by omega), Nat.mul_succ, List.take_add, List.drop_drop, Nat.mul_add]
theorem mpL_cons (l : List Nat) (k c : Nat) : wdV l k :: mpL l (k + 1) c = mpL l k (c + 1) := by
  unfold mpL
  rw [List.range_succ_eq_map]
  simp only [List.map_cons, List.map_map, Nat.add_zero, List.cons.injEq, true_and]
  apply List.map_congr_left
  intro j _
  simp only [Function.comp]
  congr 1
  omega
theorem dcE_stand {l : List Nat} {a : Int} (h : dcE l a = 0) : 0 ≤ a ∧ a.toNat < l.length / 4 ∧ (rdP l a.toNat).2 = 0 := by
  unfold dcE at h
  by_cases c : stB l.length a 1 = true
  · rw [if_pos c] at h
    unfold stB at c
    simp at c
    exact ⟨c.1, by omega, h⟩
  · rw [if_neg c] at h; omega
/-- What is read is laid. -/
theorem enc_dec (l : List Nat) (a : Int) (hx : ∀ b ∈ l, b < 256) (h : dcE l a = 0) :
    chkE (dcI l a).op (dcI l a).n (dcI l a).m = 0 ∧ wdB (dcI l a).op.toNat (dcI l a).n.toNat (dcI l a).m = (l.drop (4 * a.toNat)).take (4 * (1 + (dcI l a).m.length)) ∧ a.toNat + 1 + (dcI l a).m.length ≤ l.length / 4 := by
  obtain ⟨ha, hk, hr⟩ := dcE_stand h
  have hI : dcI l a = ⟨insO l a.toNat, insN l a.toNat, (rdP l a.toNat).1⟩ := by unfold dcI; rw [if_pos h]
  rw [hI]
  simp only
  obtain ⟨k, hkd⟩ : ∃ k, k = a.toNat := ⟨_, rfl⟩
  rw [← hkd] at hk hr ⊢
  have hX0 := uI_lo (wdV l k)
  have hX1 := uI_up (wdV l k)
  obtain ⟨O, hO⟩ : ∃ O : Nat, (O : Int) = insO l k := ⟨(insO l k).toNat, by unfold insO; omega⟩
  obtain ⟨N, hN⟩ : ∃ N : Nat, (N : Int) = insN l k := ⟨(insN l k).toNat, by unfold insN; omega⟩
  have hf : fstW O N = wdV l k := by
    apply uI_inj
    have e : ((O * 16777216 + N : Nat) : Int) = uI (wdV l k) := by
      have h1 : (O : Int) = uI (wdV l k) / 16777216 := hO
      have h2 : (N : Int) = uI (wdV l k) % 16777216 := hN
      omega
    rw [← e]
    exact uI_of _ (by omega)
  have key : ∀ m, m = (rdP l k).1 → chkE (O : Int) (N : Int) m = 0 ∧ m = mpL l (k + 1) m.length ∧ k + 1 + m.length ≤ l.length / 4 := by
    intro m hm
    unfold rdP at hr hm
    rw [← hO, ← hN] at hr hm
    by_cases c1 : isOp (O : Int) = true
    · rw [if_pos c1] at hr hm
      by_cases c2 : (N : Int) ≤ kRm (O : Int)
      · rw [if_pos c2] at hr hm
        by_cases c3 : tkB (O : Int) (N : Int) = true
        · rw [if_pos c3] at hr hm
          have c3' := c3
          unfold tkB at c3'
          unfold chkE
          rw [if_pos c1, if_pos c3']
          by_cases c4 : (O : Int) = 2
          · rw [if_pos c4] at hr hm ⊢
            unfold rmP at hr hm
            rw [Int.toNat_natCast] at hr hm ⊢
            by_cases c5 : k + 1 + mwN N ≤ l.length / 4
            · rw [if_pos c5] at hr hm
              by_cases c6 : isMapB (mpL l (k + 1) (mwN N)) N = true
              · rw [if_pos c6] at hr hm
                simp only at hm
                have hml : m.length = mwN N := by rw [hm, mpL_len]
                refine ⟨by rw [hm, if_pos c6], by rw [hml]; exact hm, by omega⟩
              · rw [if_neg c6] at hr; simp at hr
            · rw [if_neg c5] at hr; simp at hr
          · rw [if_neg c4] at hr hm ⊢
            simp only at hm
            subst hm
            exact ⟨by rw [if_pos rfl], by simp [mpL], by simp; omega⟩
        · rw [if_neg c3] at hr; simp at hr
      · rw [if_neg c2] at hr; simp at hr
    · rw [if_neg c1] at hr; simp at hr
  obtain ⟨k1, k2, k3⟩ := key _ rfl
  rw [← hO, ← hN, Int.toNat_natCast, Int.toNat_natCast]
  refine ⟨k1, ?_, k3⟩
  unfold wdB
  obtain ⟨c, hc⟩ : ∃ c, c = (rdP l k).1.length := ⟨_, rfl⟩
  rw [← hc] at k2 k3 ⊢
  rw [k2, hf, mpL_cons, fm_mp l hx (c + 1) k (by omega), Nat.add_comm c 1]
/-- One byte short there is no map, or no word. -/
theorem dec_cut (o n : Int) (m : List (BitVec 32)) (h : chkE o n m = 0) : dcE ((wdB o.toNat n.toNat m).take (4 * (1 + m.length) - 1)) 0 = 30 := by
  obtain ⟨ho, hn, hm⟩ := chk_zero h
  obtain ⟨L, hL⟩ : ∃ L, L = (wdB o.toNat n.toNat m).take (4 * (1 + m.length) - 1) := ⟨_, rfl⟩
  have hlen : L.length = 4 * (1 + m.length) - 1 := by rw [hL, List.length_take, wdB_len]; omega
  rw [← hL]
  by_cases hm0 : m = []
  · have : stB L.length 0 1 = false := by
      unfold stB
      rw [hm0] at hlen
      simp at hlen ⊢
      omega
    unfold dcE
    rw [if_neg (by rw [this]; decide)]
  · have hmp : 0 < m.length := List.length_pos_iff.2 hm0
    have hall : o = 2 ∧ isMapB m n.toNat = true ∧ tkB o n = true ∧ isOp o = true := by
      unfold chkE at h
      by_cases c1 : isOp o = true
      · rw [if_pos c1] at h
        by_cases c2 : (decide (kLo o ≤ n) && decide (n ≤ kHi o)) = true
        · rw [if_pos c2] at h
          by_cases c3 : o = 2
          · rw [if_pos c3] at h
            by_cases c4 : isMapB m n.toNat = true
            · exact ⟨c3, c4, c2, c1⟩
            · rw [if_neg c4] at h; omega
          · rw [if_neg c3, if_neg hm0] at h; omega
        · rw [if_neg c2] at h; omega
      · rw [if_neg c1] at h; omega
    have hop := hall.1
    have hmap := hall.2
    obtain ⟨O, rfl⟩ : ∃ O : Nat, o = (O : Int) := ⟨o.toNat, by omega⟩
    obtain ⟨N, rfl⟩ : ∃ N : Nat, n = (N : Int) := ⟨n.toNat, by omega⟩
    rw [Int.toNat_natCast, Int.toNat_natCast] at hL
    rw [Int.toNat_natCast] at hmap
    have h0 : wdV L 0 = fstW O N := by
      have e : L = by4 (fstW O N).toNat ++ ((m.flatMap fun x => by4 x.toNat).take (4 * m.length - 1)) := by
        rw [hL]
        unfold wdB
        rw [List.flatMap_cons, List.take_append]
        congr 1
        · exact List.take_of_length_le (by show 4 ≤ _; omega)
        · congr 1; show _ - 4 = _; omega
      rw [e]
      exact wdV_zero _ _
    have hu : uI (wdV L 0) = ((O * 16777216 + N : Nat) : Int) := by rw [h0]; exact fst_uI O N (by omega) (by omega)
    have hO : insO L 0 = (O : Int) := by unfold insO; rw [hu]; omega
    have hN : insN L 0 = (N : Int) := by unfold insN; rw [hu]; omega
    have hs : stB L.length 0 1 = true := by unfold stB; simp; omega
    have hml : m.length = mwN N := by
      have := hmap.1
      unfold isMapB at this
      simp only [Bool.and_eq_true, decide_eq_true_eq] at this
      exact this.1
    have hrm : (N : Int) ≤ kRm (O : Int) := by
      have := hmap.2.1
      unfold tkB at this
      simp only [Bool.and_eq_true, decide_eq_true_eq] at this
      exact Int.le_trans this.2 (kHi_Rm _)
    unfold dcE
    rw [if_pos hs]
    show (rdP L 0).2 = 30
    unfold rdP
    rw [hO, hN, if_pos hmap.2.2, if_pos hrm, if_pos hmap.2.1, if_pos hop, Int.toNat_natCast]
    unfold rmP
    rw [if_neg (by omega)]
end Go.Proofs.YtologchdnjnadaaDoor
/-
  Code written as text: writeLine, Print.
-/
namespace Go.Proofs.YtologchdnjnadaaDoor
open Go.RowKit
set_option linter.unusedSimpArgs false
set_option linter.unusedVariables false

/-- The library's table of the powers of ten lies in its variable. -/
def Pow15 (w : World) : Prop := Lib.TabIs Tryd.prog w "internal/strconv.uint64pow10" .u64 Lib.pow10Tab
theorem Pow15.keep {W w' : World} (h : Pow15 W) (hb : Below W.heap.size W w') : Pow15 w' := Lib.tabBelow_of_tabIs h w' hb
theorem itoa15_any (n : Nat) (h1 : n ≤ 16777215) (w : World) (htab : Pow15 w) :
    Calls Tryd.prog 28 #[.int .i64 (n : Int)] w fun e w' => e = .returned (.string ⟨(Lib.decDigits n).toArray⟩) ∧ Below w.heap.size w w' :=
  (Any.strconv_Itoa Tryd.laysM171 (n : Int) (by omega) (by omega) w htab).mono fun e w' ⟨h, k, os, hw⟩ => ⟨by rw [h]; unfold Lib.itoa; rw [if_neg (by omega)]; rfl, by rw [hw]; exact Lib.below_grow _ _ (Nat.le_refl _) k os⟩
/-- The line of what stands at a word, and how many words that has. -/
noncomputable def lnT (l : List Nat) (k : Nat) : List UInt8 := if dcE l k = 0 then nmL (dcI l k).op.toNat ++ [32] ++ Lib.decDigits (dcI l k).n.toNat ++ wdsL (dcI l k).m ++ [10] else nmL 0 ++ wdsL [wdV l k] ++ [10]
noncomputable def lnZ (l : List Nat) (k : Nat) : Nat := if dcE l k = 0 then 1 + (dcI l k).m.length else 1
theorem decD_le : ∀ (d n : Nat), n < 10 ^ (d + 1) → (Lib.decDigits n).length ≤ d + 1
  | 0, n, h => by
    rw [Lib.decDigits_length, Lib.nDigits_small (by simpa using h)]
    exact Nat.le_refl _
  | d + 1, n, h => by
    rw [Lib.decDigits_length]
    by_cases q : n < 10
    · rw [Lib.nDigits_small q]; omega
    · rw [Lib.nDigits_big q]
      have := decD_le d (n / 10) (by rw [Nat.pow_succ] at h; omega)
      rw [Lib.decDigits_length] at this
      omega
theorem decD_len (n : Nat) (h : n ≤ 16777215) : (Lib.decDigits n).length ≤ 100 := by
  have := decD_le 7 n (by have : 10 ^ (7 + 1) = 100000000 := by decide
                          omega)
  omega
theorem nmS_size (j : Nat) (h : j < 5) : (nmS j).size ≤ 10 := by
  have : ∀ j : Fin 5, (nmS j.val).size ≤ 10 := by decide
  exact this ⟨j, h⟩
theorem IsB.lt {b : Nat} {t : List UInt8} {W : World} (h : IsB b t W) : b < W.heap.size := by
  rcases h with h | h <;> exact h.lt
/-- The memory of writeLine. -/
structure WlM (w0 w : World) (I : Nat) (O N : Int) (v : Value) (M : List (BitVec 32)) (t : List UInt8) (W : World) : Prop where
  ib : IsB w0.heap.size t W
  i : W.heap[I]? = some (.cells #[.int .i64 O, .int .i64 N, v] 45)
  m : RwX cU W v M
  a : Apt w0.heap.size v W
  lo : Below w0.heap.size w0 W
  ok : OKb w0.heap.size w W
  ne : I ≠ w0.heap.size
theorem IsB.okB {b : Nat} {t : List UInt8} {W W' : World} (h : IsB b t W) (hb : Below W.heap.size W W') : IsB b t W' := by
  have key : ∀ p, Lib.BuilderAt 40 5 b b p (Lib.byteCells t) W → Lib.BuilderAt 40 5 b b p (Lib.byteCells t) W' := fun p ⟨h1, v, h2, h3, h4⟩ => ⟨h1, v, by rw [hb.block _ (lt_b15 h2)]; exact h2, own_b13 hb h3, h4⟩
  rcases h with h | h
  · exact .inl (key _ h)
  · exact .inr (key _ h)
section
variable {w0 w W W' : World} {I : Nat} {O N : Int} {v : Value} {M : List (BitVec 32)} {t t' : List UInt8}
theorem WlM.step (h : WlM w0 w I O N v M t W) (g : OKb w0.heap.size W W') (ib : IsB w0.heap.size t' W') : WlM w0 w I O N v M t' W' :=
  ⟨ib, g.2 I _ h.i (by intro e; injection e with e; exact h.ne e) (by intro c fz e; injection e with e1 e2 e3; revert e2; decide), g.rwx h.a h.m, h.a.keep g, ⟨by rw [g.1.os, h.lo.os], by rw [g.1.tape, h.lo.tape], by rw [g.1.output, h.lo.output], Nat.le_trans h.lo.size g.1.size, fun z hz => by rw [g.1.block z hz, h.lo.block z hz]⟩, h.ok.trans g, h.ne⟩
theorem WlM.below (h : WlM w0 w I O N v M t W) (hb : Below W.heap.size W W') : WlM w0 w I O N v M t W' := h.step (OKb.ofB hb (Nat.le_of_lt h.ib.lt)) (h.ib.okB hb)
theorem WlM.sz (h : WlM w0 w I O N v M t W) : w0.heap.size ≤ W.heap.size := Nat.le_of_lt h.ib.lt
theorem WlM.c (h : WlM w0 w I O N v M t W) : W.cell? ⟨I, 0, none⟩ = some (.int .i64 O) ∧ W.cell? ⟨I, 1, none⟩ = some (.int .i64 N) ∧ W.cell? ⟨I, 2, none⟩ = some v := ⟨at_b15 h.i 0 _ rfl, at_b15 h.i 1 _ rfl, at_b15 h.i 2 _ rfl⟩
end
theorem apt_own {W : World} {b base : Nat} {v : Value} {n : Nat} {xs : List Value} (h : W.ownsRow base 48 1 v n xs) (hb : b < base) : Apt b v W := fun a m c e => by
  rcases h.2 with ⟨hv, _⟩ | ⟨g, cap, cur, hv, hh⟩
  · rw [hv] at e; cases e
  · rw [hv] at e
    injection e with e1 e2 e3
    injection e1 with e1
    subst e1
    exact .inr ⟨by simp; omega, _, _, hh.2.1⟩
set_option maxHeartbeats 8000000 in
set_option maxRecDepth 20000 in
theorem writeLine_any (w0 : World) (v : Value) (l : List Nat) (k : Nat) (t : List UInt8) (w : World) (hv : RwX cB w0 v l) (hb : Below w0.heap.size w0 w) (hB : IsB w0.heap.size t w) (hN : Nm w0) (hP : Pow15 w0) (hk : k < l.length / 4) (hl : l.length ≤ 100000) (hx : ∀ b ∈ l, b < 256) (ht : t.length ≤ 1000000000) :
    Calls Tryd.prog 14 #[.pointer (some ⟨w0.heap.size, 0, none⟩), v, .int .i64 (k : Int)] w fun e w' => e = .returned (.int .i64 (lnZ l k : Int)) ∧ IsB w0.heap.size (t ++ lnT l k) w' ∧ OKb w0.heap.size w w' := by
  have KD := decode_any v l (k : Int) w (hv.below hb) (by omega) hx
  obtain ⟨ao, cp, hvf, -⟩ := id hv
  have HH : Hid (k < l.length / 4 ∧ l.length ≤ 100000 ∧ t.length ≤ 1000000000) := ⟨hk, hl, ht⟩
  have HX := hid13 hx
  have HV := hid13 hv
  have HN := hid13 hN
  have HP := hid13 hP
  have HB := hid13 hB
  have HLo := hid13 hb
  clear hk hl ht hx hN hP hv hB hb
  by_cases he : dcE l (k : Int) = 0
  · obtain ⟨h1, h2, h3⟩ := enc_dec l (k : Int) HX.out he
    obtain ⟨h4, h5, h6⟩ := chk_zero h1
    have hT : lnT l k = nmL (dcI l k).op.toNat ++ [32] ++ Lib.decDigits (dcI l k).n.toNat ++ wdsL (dcI l k).m ++ [10] := by unfold lnT; rw [if_pos he]
    have hZ : ((lnZ l k : Nat) : Int) = dcZ l (k : Int) := by unfold lnZ dcZ; rw [if_pos he, if_pos he]; omega
    rw [hT, hZ]
    rw [he] at KD
    clear h1 h2 h3 hT hZ he
    generalize dcZ l (k : Int) = z at *
    generalize dcI l (k : Int) = ins at *
    obtain ⟨o', n', M⟩ := ins
    simp only at h4 h5 h6 KD ⊢
    obtain ⟨O, rfl⟩ : ∃ O : Nat, o' = (O : Int) := ⟨o'.toNat, by omega⟩
    obtain ⟨N, rfl⟩ : ∃ N : Nat, n' = (N : Int) := ⟨n'.toNat, by omega⟩
    simp only [Int.toNat_natCast, insV] at KD ⊢
    have HON : Hid (O < 5 ∧ N ≤ 16777215 ∧ M.length ≤ 524288) := ⟨by omega, by omega, h6⟩
    have hO5 : (O : Int) < 5 := by omega
    clear h4 h5 h6
    subst hvf
    go_enter Tryd.func14, Tryd.ntmps14
    go_wp2_with fail
    refine KD.mono ?_
    rintro e w1 ⟨v', rfl, ho, hb1⟩
    have q2 := bl1 w1 (.cells #[.int .i64 (O : Int), .int .i64 (N : Int), v'] 45)
    have HM : Hid (WlM w0 w w1.heap.size O N v' M t (w1.alloc (.cells #[.int .i64 (O : Int), .int .i64 (N : Int), v'] 45))) := hid13 (by
      have hbb := keepb q2 hb1
      have hlt := HB.out.lt
      have hs1 := hb1.size
      refine ⟨HB.out.okB hbb, Array.getElem?_push_size, own_rwx (own_b13 q2 ho), apt_own (own_b13 q2 ho) hlt, keepb hbb HLo.out, OKb.ofB hbb (Nat.le_of_lt hlt), by omega⟩)
    have KS := wstr_any w0.heap.size t (nmS O) _ HM.out.ib (by have h1 := nmS_size O HON.out.1; have := HH.out; omega) HM.out.sz
    have cN := (HN.out.below HM.out.lo) O HON.out.1
    obtain ⟨mo, mc, hvf', -⟩ := id HM.out.m
    subst hvf'
    clear KD ho hb1 q2
    go_wp2_with fail
    refine KS.mono ?_
    rintro e W3 ⟨rfl, h1, h2⟩
    have HM3 : Hid (WlM w0 w w1.heap.size O N (.slice mo M.length mc) M (t ++ nmL O) W3) := hid13 (HM.out.step h2 h1)
    have hnl : (nmL O).length ≤ 10 := nmS_size O HON.out.1
    have KB := wbyte_any w0.heap.size (t ++ nmL O) 32 W3 HM3.out.ib (by have := HH.out; rw [List.length_append]; omega) HM3.out.sz
    clear KS h1 h2 HM cN
    go_wp2_with fail
    refine KB.mono ?_
    rintro e W4 ⟨rfl, h1, h2⟩
    have HM4 : Hid (WlM w0 w w1.heap.size O N (.slice mo M.length mc) M (t ++ nmL O ++ [32]) W4) := hid13 (HM3.out.step h2 h1)
    have c1 := HM4.out.c.2.1
    have KI := itoa15_any N HON.out.2.1 W4 (HP.out.keep HM4.out.lo)
    clear KB h1 h2 HM3
    go_wp2_with fail
    refine KI.mono ?_
    rintro e W5 ⟨rfl, hb5⟩
    have HM5 := hid13 (HM4.out.below hb5)
    have hdl := decD_len N HON.out.2.1
    have KS := wstr_any w0.heap.size (t ++ nmL O ++ [32]) ⟨(Lib.decDigits N).toArray⟩ W5 HM5.out.ib (by have := HH.out; show _ + (Lib.decDigits N).length ≤ _; rw [List.length_append, List.length_append, List.length_singleton]; omega) HM5.out.sz
    clear KI hb5 HM4 c1
    generalize hds : (⟨(Lib.decDigits N).toArray⟩ : ByteArray) = ds at *
    go_wp2_with fail
    refine KS.mono ?_
    rintro e W6 ⟨rfl, h1, h2⟩
    rw [← hds] at h1
    have HM6 : Hid (WlM w0 w w1.heap.size O N (.slice mo M.length mc) M (t ++ nmL O ++ [32] ++ Lib.decDigits N) W6) := hid13 (HM5.out.step h2 h1)
    have c2 := HM6.out.c.2.2
    have KW := wwords_any w0.heap.size (t ++ nmL O ++ [32] ++ Lib.decDigits N) (.slice mo M.length mc) M W6 HM6.out.ib HM6.out.m HM6.out.a (by have := HH.out; have := HON.out; simp only [List.length_append, List.length_singleton]; omega) HM6.out.sz
    clear KS h1 h2 HM5 hds
    go_wp2_with fail
    refine KW.mono ?_
    rintro e W7 ⟨rfl, h1, h2⟩
    have HM7 : Hid (WlM w0 w w1.heap.size O N (.slice mo M.length mc) M (t ++ nmL O ++ [32] ++ Lib.decDigits N ++ wdsL M) W7) := hid13 (HM6.out.step h2 h1)
    have KB := wbyte_any w0.heap.size (t ++ nmL O ++ [32] ++ Lib.decDigits N ++ wdsL M) 10 W7 HM7.out.ib (by have := HH.out; have := HON.out; simp only [List.length_append, List.length_singleton, wdsL_len]; omega) HM7.out.sz
    clear KW h1 h2 HM6 c2
    go_wp2_with fail
    refine KB.mono ?_
    rintro e W8 ⟨rfl, h1, h2⟩
    have HF : Hid (IsB w0.heap.size (t ++ (nmL O ++ [32] ++ Lib.decDigits N ++ wdsL M ++ [10])) W8 ∧ OKb w0.heap.size w W8) := hid13 ⟨by simpa only [List.append_assoc] using h1, HM7.out.ok.trans h2⟩
    clear KB h1 h2 HM7
    go_wp2
    go_ret
    exact ⟨rfl, HF.out.1, HF.out.2⟩
  · have hT : lnT l k = nmL 0 ++ wdsL [wdV l k] ++ [10] := by unfold lnT; rw [if_neg he]
    have hZ : lnZ l k = 1 := by unfold lnZ; rw [if_neg he]
    rw [hT, hZ]
    have hI : dcI l (k : Int) = ⟨0, 0, []⟩ := by unfold dcI; rw [if_neg he]
    rw [hI] at KD
    simp only [insV, List.map_nil, List.length_nil] at KD
    have he1 : (dcE l (k : Int) == 0) = false := by rw [beq_eq_false_iff_ne]; exact he
    clear he hT hZ hI
    generalize dcE l (k : Int) = ee at *
    generalize dcZ l (k : Int) = z at *
    have m1 : IntKind.i64.wrap ((k : Int) * 4) = (k : Int) * 4 := by rw [IntKind.wrap_i64]; have := HH.out; omega
    subst hvf
    go_enter Tryd.func14, Tryd.ntmps14
    go_wp2_with fail
    refine KD.mono ?_
    rintro e w1 ⟨v', rfl, ho, hb1⟩
    have q2 := bl1 w1 (.cells #[.int .i64 0, .int .i64 0, v'] 45)
    have HM : Hid (WlM w0 w w1.heap.size 0 0 v' [] t (w1.alloc (.cells #[.int .i64 0, .int .i64 0, v'] 45))) := hid13 (by
      have hbb := keepb q2 hb1
      have hlt := HB.out.lt
      have hs1 := hb1.size
      refine ⟨HB.out.okB hbb, Array.getElem?_push_size, own_rwx (own_b13 q2 ho), apt_own (own_b13 q2 ho) hlt, keepb hbb HLo.out, OKb.ofB hbb (Nat.le_of_lt hlt), by omega⟩)
    obtain ⟨mo, mc, hvf', -⟩ := id HM.out.m
    subst hvf'
    have KG := get32_any (.slice ao l.length cp) l ((k : Int) * 4) _ (HV.out.below HM.out.lo) (by have := HH.out; omega) HX.out (by have := HH.out; omega) (by have := HH.out; omega)
    have e1 : ((gtN l ((k : Int) * 4) 4 : Nat) : Int) = uI (wdV l k) := by
      rw [wd_uI l k HX.out]
      unfold gtN
      rw [if_pos ⟨by omega, by have := HH.out; omega⟩]
      have : ((k : Int) * 4).toNat = 4 * k := by omega
      rw [this]
    rw [e1] at KG
    clear KD ho hb1 q2 e1
    generalize gtE l ((k : Int) * 4) 4 = e4 at *
    go_wp2_with fail
    refine KG.mono ?_
    rintro e w2 ⟨rfl, hb2⟩
    have HM2 := hid13 (HM.out.below hb2)
    have cN := (HN.out.below HM2.out.lo) 0 (by decide)
    have KS := wstr_any w0.heap.size t (nmS 0) w2 HM2.out.ib (by have h1 := nmS_size 0 (by decide); have := HH.out; omega) HM2.out.sz
    clear KG hb2 HM
    go_wp2_with fail
    refine KS.mono ?_
    rintro e W3 ⟨rfl, h1, h2⟩
    have HM3 : Hid (WlM w0 w w1.heap.size 0 0 (.slice mo 0 mc) [] (t ++ nmL 0) W3) := hid13 (HM2.out.step h2 h1)
    have q3 := bl1 W3 (.cells #[.int .u32 (uI (wdV l k))] 48)
    have HM4 := hid13 (HM3.out.below q3)
    have KW := wwords_any w0.heap.size (t ++ nmL 0) (.slice (some ⟨W3.heap.size, 0, none⟩) 1 1) [wdV l k] (W3.alloc (.cells #[.int .u32 (uI (wdV l k))] 48)) HM4.out.ib ⟨some ⟨W3.heap.size, 0, none⟩, 1, rfl, Nat.le_refl _, .inr ⟨W3.heap.size, 0, rfl, fun j x hj => by
      match j, hj with
      | 0, hj => simp at hj; subst hj; simp [cU]⟩⟩ (fun a n c e => by
        injection e with e1 e2 e3
        injection e1 with e1
        subst e1
        exact .inr ⟨by have := HM3.out.ib.lt; simp; omega, _, _, Array.getElem?_push_size⟩) (by have := HH.out; have h1 : (nmL 0).length = 4 := rfl; rw [List.length_append, h1]; simp; omega) HM4.out.sz
    clear KS h1 h2 HM2 cN q3
    go_wp2_with fail
    refine KW.mono ?_
    rintro e W7 ⟨rfl, h1, h2⟩
    have HM7 : Hid (WlM w0 w w1.heap.size 0 0 (.slice mo 0 mc) [] (t ++ nmL 0 ++ wdsL [wdV l k]) W7) := hid13 (HM4.out.step h2 h1)
    have KB := wbyte_any w0.heap.size (t ++ nmL 0 ++ wdsL [wdV l k]) 10 W7 HM7.out.ib (by have := HH.out; have h1 : (nmL 0).length = 4 := rfl; simp only [List.length_append, h1, wdsL_len, List.length_singleton]; omega) HM7.out.sz
    clear KW h1 h2 HM3 HM4
    go_wp2_with fail
    refine KB.mono ?_
    rintro e W8 ⟨rfl, h1, h2⟩
    have HF : Hid (IsB w0.heap.size (t ++ (nmL 0 ++ wdsL [wdV l k] ++ [10])) W8 ∧ OKb w0.heap.size w W8) := hid13 ⟨by simpa only [List.append_assoc] using h1, HM7.out.ok.trans h2⟩
    clear KB h1 h2 HM7
    go_wp2
    go_ret
    exact ⟨rfl, HF.out.1, HF.out.2⟩
/-- The lines from a word on. -/
noncomputable def prL (l : List Nat) : Nat → Nat → List UInt8
  | 0, _ => []
  | f + 1, k => if k < l.length / 4 then lnT l k ++ prL l f (k + lnZ l k) else []
noncomputable def prT (l : List Nat) : List UInt8 := if l.length % 4 = 0 then prL l (l.length / 4 + 1) 0 else []
def prE (l : List Nat) : Int := if l.length % 4 = 0 then 0 else 30
theorem lnT_len (l : List Nat) (k : Nat) (hx : ∀ b ∈ l, b < 256) : (lnT l k).length ≤ 130 * lnZ l k := by
  unfold lnT lnZ
  by_cases h : dcE l (k : Int) = 0
  · rw [if_pos h, if_pos h]
    obtain ⟨h1, -, -⟩ := enc_dec l (k : Int) hx h
    obtain ⟨h4, h5, h6⟩ := chk_zero h1
    have e1 := decD_len (dcI l k).n.toNat (by omega)
    have e2 : (nmL (dcI l k).op.toNat).length ≤ 10 := nmS_size _ (by omega)
    simp only [List.length_append, List.length_singleton, wdsL_len]
    omega
  · rw [if_neg h, if_neg h]
    simp only [List.length_append, List.length_singleton, wdsL_len]
    have : (nmL 0).length = 4 := rfl
    omega
theorem lnZ_le (l : List Nat) (k : Nat) (hx : ∀ b ∈ l, b < 256) (hk : k < l.length / 4) : 1 ≤ lnZ l k ∧ k + lnZ l k ≤ l.length / 4 := by
  unfold lnZ
  by_cases h : dcE l (k : Int) = 0
  · rw [if_pos h]
    obtain ⟨-, -, h3⟩ := enc_dec l (k : Int) hx h
    rw [Int.toNat_natCast] at h3
    omega
  · rw [if_neg h]; omega
set_option maxHeartbeats 4000000 in
theorem print15_any (v : Value) (l : List Nat) (w : World) (hv : RwX cB w v l) (hN : Nm w) (hP : Pow15 w) (hl : l.length ≤ 100000) (hx : ∀ b ∈ l, b < 256) :
    Calls Tryd.prog 9 #[v] w fun e w' => e = .returned (.tuple #[.string ⟨(prT l).toArray⟩, .int .i64 (prE l)]) ∧ Below w.heap.size w w' := by
  obtain ⟨ao, cp, rfl, -⟩ := id hv
  have m0 : ((l.length : Nat) : Int).tmod 4 = ((l.length % 4 : Nat) : Int) := by rw [Int.tmod_eq_emod_of_nonneg (by omega)]; omega
  by_cases h4 : l.length % 4 = 0
  · have hT : prT l = prL l (l.length / 4 + 1) 0 := by unfold prT; rw [if_pos h4]
    have hE : prE l = 0 := by unfold prE; rw [if_pos h4]
    rw [hE]
    rw [h4] at m0
    obtain ⟨Q, hQ⟩ : ∃ Q, Q = l.length / 4 := ⟨_, rfl⟩
    have m1 : ((l.length : Nat) : Int).tdiv 4 = (Q : Int) := by rw [Int.tdiv_eq_ediv_of_nonneg (by omega)]; omega
    have m1' : ((l.length : Nat) : Int) / 4 = (Q : Int) := by omega
    have m0' : ((l.length : Nat) : Int) % 4 = 0 := by omega
    have mQ : wrap64 (Q : Int) = (Q : Int) := by unfold wrap64; omega
    have q1 := bl1 w (.cells #[.pointer none, .slice none 0 0] 40)
    have HS0 : Hid (IsB w.heap.size [] (w.alloc (.cells #[.pointer none, .slice none 0 0] 40)) ∧ Below w.heap.size w (w.alloc (.cells #[.pointer none, .slice none 0 0] 40)) ∧ [] ++ prL l (Q + 1) 0 = prT l) := hid13 ⟨Lib.fresh_isBuilder _ _ _, q1, by rw [hT, hQ]; rfl⟩
    have HQ : Hid (Q = l.length / 4 ∧ l.length ≤ 100000) := ⟨hQ, hl⟩
    have HV := hid13 hv
    have HN := hid13 hN
    have HP := hid13 hP
    have HX := hid13 hx
    clear hv hN hP hl hx h4 hT hE hQ q1
    go_enter Tryd.func9, Tryd.ntmps9
    go_wp2
    go_loopg [5] (Q + 1) (fun g x5 wr => ∃ (k : Nat) (t : List UInt8), x5 = .int .i64 (k : Int) ∧ Hid (IsB w.heap.size t wr ∧ Below w.heap.size w wr ∧ t ++ prL l g k = prT l ∧ Q - k < g ∧ k ≤ Q ∧ t.length ≤ 130 * k))
    case atStart => exact ⟨0, [], rfl, hid13 ⟨HS0.out.1, HS0.out.2.1, HS0.out.2.2, by omega, by omega, by simp⟩⟩
    case round =>
      clear HS0
      obtain ⟨k, t, rfl, HS⟩ := hrel
      obtain ⟨f, rfl⟩ : ∃ f, gk = f + 1 := ⟨gk - 1, by have := HS.out.2.2.2.1; omega⟩
      by_cases hlt : k < Q
      · have hli : (k : Int) < (Q : Int) := by omega
        have hkq : k < l.length / 4 := by have := HQ.out; omega
        have hz := lnZ_le l k HX.out hkq
        have hln := lnT_len l k HX.out
        have KW := writeLine_any w (.slice ao l.length cp) l k t wr HV.out HS.out.2.1 HS.out.1 HN.out HP.out hkq HQ.out.2 HX.out (by have := HS.out; have := HQ.out; omega)
        have hpr : prL l (f + 1) k = lnT l k ++ prL l f (k + lnZ l k) := by
          show (if k < l.length / 4 then _ else _) = _
          rw [if_pos hkq]
        have HPr := hid13 hpr
        have HZ : Hid (1 ≤ lnZ l k ∧ k + lnZ l k ≤ Q ∧ (lnT l k).length ≤ 130 * lnZ l k ∧ k < Q) := ⟨hz.1, by have := HQ.out; omega, hln, hlt⟩
        clear hz hln hkq hpr hlt
        generalize lnZ l k = z at *
        generalize lnT l k = T at *
        have mz : IntKind.i64.wrap ((k : Int) + (z : Int)) = (k : Int) + (z : Int) := by rw [IntKind.wrap_i64]; have := HZ.out; have := HQ.out; omega
        go_wp2_with fail
        refine KW.mono ?_
        rintro e w1 ⟨rfl, h1, h2⟩
        have H1 : Hid (IsB w.heap.size (t ++ T) w1 ∧ Below w.heap.size w w1) := ⟨h1, ⟨by rw [h2.1.os, HS.out.2.1.os], by rw [h2.1.tape, HS.out.2.1.tape], by rw [h2.1.output, HS.out.2.1.output], Nat.le_trans HS.out.2.1.size h2.1.size, fun z hz => by rw [h2.1.block z hz, HS.out.2.1.block z hz]⟩⟩
        clear KW h1 h2
        go_wp2
        go_roundg f
        case measure => omega
        case rel => exact ⟨k + z, t ++ T, rfl, hid13 ⟨H1.out.1, H1.out.2, by rw [← HS.out.2.2.1, HPr.out, List.append_assoc], by have := HS.out; have := HZ.out; omega, HZ.out.2.1, by have := HS.out; have := HZ.out; rw [List.length_append]; omega⟩⟩
      · have hli : ¬ (k : Int) < (Q : Int) := by omega
        have hR : t = prT l := by
          have := HS.out.2.2.1
          rw [show prL l (f + 1) k = (if k < l.length / 4 then lnT l k ++ prL l f (k + lnZ l k) else []) from rfl, if_neg (by have := HQ.out; omega), List.append_nil] at this
          exact this
        have KS := bstr_any w.heap.size t wr HS.out.1 (Nat.le_of_lt HS.out.1.lt)
        obtain ⟨tt, htt⟩ : ∃ tt, tt = prT l := ⟨_, rfl⟩
        rw [hR, ← htt] at KS
        have HTT := hid13 htt
        have HLo := hid13 HS.out.2.1
        clear HS hlt hR htt
        go_wp2_with fail
        refine KS.mono ?_
        rintro e w1 ⟨rfl, hb1⟩
        have HF : Hid (Below w.heap.size w w1) := hid13 ⟨by rw [hb1.os, HLo.out.os], by rw [hb1.tape, HLo.out.tape], by rw [hb1.output, HLo.out.output], Nat.le_trans HLo.out.size hb1.size, fun z hz => by rw [hb1.block z hz, HLo.out.block z hz]⟩
        clear KS hb1
        go_wp2
        exact bodyPost_ret (v := .tuple #[.string ⟨tt.toArray⟩, .int .i64 0]) (by simp [results, Tryd.results9, go_sem]) rfl ⟨by rw [HTT.out], HF.out⟩
  · have hT : prT l = [] := by unfold prT; rw [if_neg h4]
    have hE : prE l = 30 := by unfold prE; rw [if_neg h4]
    rw [hT, hE]
    obtain ⟨q, hq⟩ : ∃ q, q = l.length % 4 := ⟨_, rfl⟩
    rw [← hq] at m0 h4
    have m0' : ((l.length : Nat) : Int) % 4 = (q : Int) := by omega
    have h4' : ((q : Int) == 0) = false := by rw [beq_eq_false_iff_ne]; omega
    clear hT hE hv hN hP hx hq
    go_enter Tryd.func9, Tryd.ntmps9
    go_wp2
    exact bodyPost_ret (v := .tuple #[.string ⟨#[]⟩, .int .i64 30]) (by simp [results, Tryd.results9, go_sem]) rfl ⟨rfl, Below.refl _ _⟩
end Go.Proofs.YtologchdnjnadaaDoor
