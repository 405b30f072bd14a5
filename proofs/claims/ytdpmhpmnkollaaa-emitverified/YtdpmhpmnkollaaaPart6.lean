/-
  Part 6 of the proof: 8 texts, one behind the other.
-/
import Derived.Test.YtdpmhpmnkollaaaPart5
import Derived.Test.YtdpmhpmnkollaaaPart3
import Derived.Test.YtdpmhpmnkollaaaPart1
import Derived.Test.YtdpmhpmnkollaaaPart2
namespace Go.Proofs.Ytdpmhpmnkollaaa
set_option linter.unusedSimpArgs false
set_option linter.unusedVariables false

theorem numN_by4 (x : BitVec 32) : numN13 (by4 x.toNat) = x.toNat := num4 _ x.isLt
theorem wdV_zero (x : BitVec 32) (z : List Nat) : wdV (by4 x.toNat ++ z) 0 = x := by
  unfold wdV
  have e : (((by4 x.toNat ++ z).drop (4 * 0)).take 4) = by4 x.toNat := by
    rw [Nat.mul_zero, List.drop_zero]
    exact List.take_left' rfl
  rw [e, numN_by4]
  simp
theorem wdV_app (l X : List Nat) (a j : Nat) (h : l.length = 4 * a) : wdV (l ++ X) (a + j) = wdV X j := by
  unfold wdV
  rw [Nat.mul_add, ← h, ← List.drop_drop, List.drop_left]
theorem wdV_succ (x : BitVec 32) (z : List Nat) (j : Nat) : wdV (by4 x.toNat ++ z) (j + 1) = wdV z j := by
  rw [Nat.add_comm j 1]
  exact wdV_app (by4 x.toNat) z 1 j rfl
theorem wdV_fm : ∀ (ws : List (BitVec 32)) (z : List Nat) (j : Nat) (x : BitVec 32), ws[j]? = some x → wdV ((ws.flatMap fun x => by4 x.toNat) ++ z) j = x
  | [], z, j, x, h => by simp at h
  | y :: ws, z, 0, x, h => by
    simp at h
    subst h
    rw [List.flatMap_cons, List.append_assoc]
    exact wdV_zero y _
  | y :: ws, z, j + 1, x, h => by
    rw [List.flatMap_cons, List.append_assoc, wdV_succ]
    exact wdV_fm ws z j x (by simpa using h)
theorem kHi_Rm (o : Int) : kHi o ≤ kRm o := by
  unfold kHi kRm
  split
  · omega
  · split <;> omega
theorem dec_enc (l z : List Nat) (a : Nat) (o n : Int) (m : List (BitVec 32)) (hl : l.length = 4 * a) (h : chkE o n m = 0) :
    dcE (l ++ wdB o.toNat n.toNat m ++ z) (a : Int) = 0 ∧ dcI (l ++ wdB o.toNat n.toNat m ++ z) (a : Int) = ⟨o, n, m⟩ ∧ dcZ (l ++ wdB o.toNat n.toNat m ++ z) (a : Int) = 1 + (m.length : Int) := by
  obtain ⟨ho, hn, hm⟩ := chk_zero h
  obtain ⟨O, rfl⟩ : ∃ O : Nat, o = (O : Int) := ⟨o.toNat, by omega⟩
  obtain ⟨N, rfl⟩ : ∃ N : Nat, n = (N : Int) := ⟨n.toNat, by omega⟩
  rw [Int.toNat_natCast, Int.toNat_natCast]
  obtain ⟨L, hL⟩ : ∃ L, L = l ++ wdB O N m ++ z := ⟨_, rfl⟩
  rw [← hL]
  have hlen : L.length = 4 * a + 4 * (1 + m.length) + z.length := by rw [hL, List.length_append, List.length_append, hl, wdB_len]
  have hw : ∀ j x, (fstW O N :: m)[j]? = some x → wdV L (a + j) = x := by
    intro j x hj
    rw [hL, List.append_assoc, wdV_app l _ a j hl]
    exact wdV_fm _ z j x hj
  have h0 : wdV L a = fstW O N := hw 0 _ rfl
  have hu : uI (wdV L a) = ((O * 16777216 + N : Nat) : Int) := by rw [h0]; exact fst_uI O N (by omega) (by omega)
  have hO : insO L a = (O : Int) := by unfold insO; rw [hu]; omega
  have hN : insN L a = (N : Int) := by unfold insN; rw [hu]; omega
  have hs : stB L.length (a : Int) 1 = true := by unfold stB; simp; omega
  have hop : isOp (O : Int) = true := by unfold isOp; simp; omega
  have htk : tkB (O : Int) (N : Int) = true := by
    unfold tkB
    unfold chkE at h
    rw [if_pos hop] at h
    by_cases c : (decide (kLo (O : Int) ≤ (N : Int)) && decide ((N : Int) ≤ kHi (O : Int))) = true
    · exact c
    · rw [if_neg c] at h; omega
  have hrm : (N : Int) ≤ kRm (O : Int) := by
    unfold tkB at htk
    simp only [Bool.and_eq_true, decide_eq_true_eq] at htk
    exact Int.le_trans htk.2 (kHi_Rm _)
  have hr : rdP L a = (m, 0) := by
    unfold rdP
    rw [hO, hN, if_pos hop, if_pos hrm, if_pos htk, Int.toNat_natCast]
    unfold chkE at h
    have htk' := htk
    unfold tkB at htk'
    rw [if_pos hop, if_pos htk'] at h
    by_cases c : (O : Int) = 2
    · rw [if_pos c] at h ⊢
      rw [Int.toNat_natCast] at h
      have hmp : isMapB m N = true := by
        by_cases c2 : isMapB m N = true
        · exact c2
        · rw [if_neg c2] at h; omega
      have hml : m.length = mwN N := by
        unfold isMapB at hmp
        simp only [Bool.and_eq_true, decide_eq_true_eq] at hmp
        exact hmp.1
      have hmL : mpL L (a + 1) (mwN N) = m := by
        apply List.ext_getElem?
        intro j
        by_cases hj : j < m.length
        · unfold mpL
          rw [List.getElem?_map, List.getElem?_range (by omega), List.getElem?_eq_getElem hj]
          simp only [Option.map_some, Option.some.injEq]
          rw [Nat.add_assoc, Nat.add_comm 1 j]
          exact hw (j + 1) _ (by simp [hj])
        · rw [List.getElem?_eq_none (by rw [mpL_len]; omega), List.getElem?_eq_none (by omega)]
      unfold rmP
      rw [if_pos (by omega), hmL, if_pos hmp]
    · rw [if_neg c] at h ⊢
      by_cases c2 : m = []
      · rw [c2]
      · rw [if_neg c2] at h; omega
  have hE : dcE L (a : Int) = 0 := by unfold dcE; rw [if_pos hs, Int.toNat_natCast, hr]
  have hI : dcI L (a : Int) = ⟨(O : Int), (N : Int), m⟩ := by unfold dcI; rw [if_pos hE, Int.toNat_natCast, hO, hN, hr]
  exact ⟨hE, hI, by unfold dcZ; rw [if_pos hE, hI]⟩
theorem by4_num (a b c d : Nat) (ha : a < 256) (hb : b < 256) (hc : c < 256) (hd : d < 256) : by4 (numN13 [a, b, c, d]) = [a, b, c, d] := by
  have e : numN13 [a, b, c, d] = ((((0 * 256 + a) * 256 + b) * 256 + c) * 256 + d) := rfl
  rw [e]
  unfold by4
  congr 1
  · omega
  · congr 1
    · omega
    · congr 1
      · omega
      · congr 1; omega
theorem list4 (l : List Nat) (h : l.length = 4) : ∃ a b c d, l = [a, b, c, d] := by
  match l, h with
  | [a, b, c, d], _ => exact ⟨a, b, c, d, rfl⟩
theorem by4_wd (l : List Nat) (k : Nat) (hx : ∀ b ∈ l, b < 256) (hk : k < l.length / 4) : by4 (wdV l k).toNat = (l.drop (4 * k)).take 4 := by
  have h1 : (wdV l k).toNat = numN13 ((l.drop (4 * k)).take 4) := by
    unfold wdV
    rw [BitVec.toNat_ofNat]
    exact Nat.mod_eq_of_lt (wd_lt l k hx)
  rw [h1]
  obtain ⟨a, b, c, d, e⟩ := list4 ((l.drop (4 * k)).take 4) (by rw [List.length_take, List.length_drop]; omega)
  have hb : ∀ y ∈ (l.drop (4 * k)).take 4, y < 256 := fun y hy => hx y (List.mem_of_mem_drop (List.mem_of_mem_take hy))
  rw [e] at hb ⊢
  exact by4_num a b c d (hb a (by simp)) (hb b (by simp)) (hb c (by simp)) (hb d (by simp))
theorem fm_mp (l : List Nat) (hx : ∀ b ∈ l, b < 256) : ∀ (c k : Nat), k + c ≤ l.length / 4 → ((mpL l k c).flatMap fun x => by4 x.toNat) = (l.drop (4 * k)).take (4 * c)
  | 0, k, h => by simp [mpL]
  | c + 1, k, h => by
    rw [mpL_succ, List.flatMap_append, fm_mp l hx c k (by omega)]
    show _ ++ (by4 (wdV l (k + c)).toNat ++ []) = _
    rw [List.append_nil, by4_wd l (k + c) hx (by omega), Nat.mul_succ, List.take_add, List.drop_drop, Nat.mul_add]
theorem mpL_cons (l : List Nat) (k c : Nat) : wdV l k :: mpL l (k + 1) c = mpL l k (c + 1) := by
  unfold mpL
  rw [List.range_succ_eq_map]
  simp only [List.map_cons, List.map_map, Nat.add_zero, List.cons.injEq, true_and]
  apply List.map_congr_left
  intro j _
  simp only [Function.comp]
  congr 1
  omega
theorem dcE_stand {l : List Nat} {a : Int} (h : dcE l a = 0) : 0 ≤ a ∧ a.toNat < l.length / 4 ∧ (rdP l a.toNat).2 = 0 := by
  unfold dcE at h
  by_cases c : stB l.length a 1 = true
  · rw [if_pos c] at h
    unfold stB at c
    simp at c
    exact ⟨c.1, by omega, h⟩
  · rw [if_neg c] at h; omega
theorem enc_dec (l : List Nat) (a : Int) (hx : ∀ b ∈ l, b < 256) (h : dcE l a = 0) :
    chkE (dcI l a).op (dcI l a).n (dcI l a).m = 0 ∧ wdB (dcI l a).op.toNat (dcI l a).n.toNat (dcI l a).m = (l.drop (4 * a.toNat)).take (4 * (1 + (dcI l a).m.length)) ∧ a.toNat + 1 + (dcI l a).m.length ≤ l.length / 4 := by
  obtain ⟨ha, hk, hr⟩ := dcE_stand h
  have hI : dcI l a = ⟨insO l a.toNat, insN l a.toNat, (rdP l a.toNat).1⟩ := by unfold dcI; rw [if_pos h]
  rw [hI]
  simp only
  obtain ⟨k, hkd⟩ : ∃ k, k = a.toNat := ⟨_, rfl⟩
  rw [← hkd] at hk hr ⊢
  have hX0 := uI_lo (wdV l k)
  have hX1 := uI_up (wdV l k)
  obtain ⟨O, hO⟩ : ∃ O : Nat, (O : Int) = insO l k := ⟨(insO l k).toNat, by unfold insO; omega⟩
  obtain ⟨N, hN⟩ : ∃ N : Nat, (N : Int) = insN l k := ⟨(insN l k).toNat, by unfold insN; omega⟩
  have hf : fstW O N = wdV l k := by
    apply uI_inj
    have e : ((O * 16777216 + N : Nat) : Int) = uI (wdV l k) := by
      have h1 : (O : Int) = uI (wdV l k) / 16777216 := hO
      have h2 : (N : Int) = uI (wdV l k) % 16777216 := hN
      omega
    rw [← e]
    exact uI_of _ (by omega)
  have key : ∀ m, m = (rdP l k).1 → chkE (O : Int) (N : Int) m = 0 ∧ m = mpL l (k + 1) m.length ∧ k + 1 + m.length ≤ l.length / 4 := by
    intro m hm
    unfold rdP at hr hm
    rw [← hO, ← hN] at hr hm
    by_cases c1 : isOp (O : Int) = true
    · rw [if_pos c1] at hr hm
      by_cases c2 : (N : Int) ≤ kRm (O : Int)
      · rw [if_pos c2] at hr hm
        by_cases c3 : tkB (O : Int) (N : Int) = true
        · rw [if_pos c3] at hr hm
          have c3' := c3
          unfold tkB at c3'
          unfold chkE
          rw [if_pos c1, if_pos c3']
          by_cases c4 : (O : Int) = 2
          · rw [if_pos c4] at hr hm ⊢
            unfold rmP at hr hm
            rw [Int.toNat_natCast] at hr hm ⊢
            by_cases c5 : k + 1 + mwN N ≤ l.length / 4
            · rw [if_pos c5] at hr hm
              by_cases c6 : isMapB (mpL l (k + 1) (mwN N)) N = true
              · rw [if_pos c6] at hr hm
                simp only at hm
                have hml : m.length = mwN N := by rw [hm, mpL_len]
                refine ⟨by rw [hm, if_pos c6], by rw [hml]; exact hm, by omega⟩
              · rw [if_neg c6] at hr; simp at hr
            · rw [if_neg c5] at hr; simp at hr
          · rw [if_neg c4] at hr hm ⊢
            simp only at hm
            subst hm
            exact ⟨by rw [if_pos rfl], by simp [mpL], by simp; omega⟩
        · rw [if_neg c3] at hr; simp at hr
      · rw [if_neg c2] at hr; simp at hr
    · rw [if_neg c1] at hr; simp at hr
  obtain ⟨k1, k2, k3⟩ := key _ rfl
  rw [← hO, ← hN, Int.toNat_natCast, Int.toNat_natCast]
  refine ⟨k1, ?_, k3⟩
  unfold wdB
  obtain ⟨c, hc⟩ : ∃ c, c = (rdP l k).1.length := ⟨_, rfl⟩
  rw [← hc] at k2 k3 ⊢
  rw [k2, hf, mpL_cons, fm_mp l hx (c + 1) k (by omega), Nat.add_comm c 1]
end Go.Proofs.Ytdpmhpmnkollaaa
namespace Go.Proofs.Ytdpmhpmnkollaaa
open Go.RowKit
set_option linter.unusedSimpArgs false
set_option linter.unusedVariables false

theorem top_ones18 (m : List (BitVec 32)) (P : Nat) (h : topB (m.headD 0#32) P = true) (hl : 1 ≤ m.length) : 1 ≤ sumW m m.length := by
  rw [← cnt_words]
  refine Nat.le_trans ?_ (cnt_mono m 1 (32 * m.length) (by omega))
  unfold topB at h
  simp only [Bool.and_eq_true] at h
  have h1 : plc m 0 = true := by
    unfold plc bt
    cases m with
    | nil => simp at hl
    | cons x t => exact h.1
  show 1 ≤ cnt m (0 + 1)
  unfold cnt
  rw [h1]
  simp
structure DcF (l : List Nat) (a : Int) : Prop where
  a0 : 0 ≤ a
  a1 : a < ((l.length / 4 : Nat) : Int)
  op : (dcI l a).op = 1 ∨ (dcI l a).op = 2 ∨ (dcI l a).op = 3 ∨ (dcI l a).op = 4
  n0 : 0 ≤ (dcI l a).n
  n1 : (dcI l a).n ≤ 16777215
  m0 : (dcI l a).op ≠ 2 → (dcI l a).m = []
  m2 : (dcI l a).op = 2 → a + 1 + ((dcI l a).m.length : Int) ≤ ((l.length / 4 : Nat) : Int) ∧ 1 ≤ (dcI l a).m.length ∧ 1 ≤ sumW (dcI l a).m (dcI l a).m.length
  nx : (dcI l a).op ≠ 3 → (dcI l a).op ≠ 4 → 1 ≤ (dcI l a).n ∧ (dcI l a).n ≤ 24
theorem dcF {l : List Nat} {a : Int} (h : dcE l a = 0) : DcF l a := by
  obtain ⟨h1, h2, h3⟩ := dcE_stand h
  obtain ⟨k, rfl⟩ : ∃ k : Nat, a = (k : Int) := ⟨a.toNat, by omega⟩
  rw [Int.toNat_natCast] at h2 h3
  have hI : dcI l (k : Int) = ⟨insO l k, insN l k, (rdP l k).1⟩ := by unfold dcI; rw [if_pos h, Int.toNat_natCast]
  rw [show rdP l k = rdP l k from rfl] at h3
  unfold rdP at h3
  split at h3
  case isFalse => cases h3
  rename_i hop
  split at h3
  case isFalse => cases h3
  rename_i hrm
  split at h3
  case isFalse => cases h3
  rename_i htk
  have hr : rdP l k = if insO l k = 2 then rmP l (k + 1) (insN l k).toNat else ([], 0) := by
    unfold rdP; rw [if_pos hop, if_pos hrm, if_pos htk]
  have hc := isOp_cases hop
  have htk' := htk
  unfold tkB at htk'
  simp only [Bool.and_eq_true, decide_eq_true_eq] at htk'
  have hb : 0 ≤ insN l k ∧ insN l k ≤ 16777215 := by
    have e1 := htk'.1
    have e2 := htk'.2
    unfold kLo at e1
    unfold kHi at e2
    constructor
    · split at e1 <;> omega
    · split at e2
      · omega
      · split at e2 <;> omega
  refine ⟨by omega, by omega, by rw [hI]; exact hc, by rw [hI]; exact hb.1, by rw [hI]; exact hb.2, fun q => ?_, fun q => ?_, fun q1 q2 => ?_⟩
  · rw [hI] at q ⊢
    dsimp only at q ⊢
    rw [hr, if_neg q]
  · rw [hI] at q ⊢
    dsimp only at q ⊢
    rw [if_pos q] at h3 hr
    rw [hr]
    unfold rmP at h3 ⊢
    split at h3
    case isFalse => cases h3
    rename_i hs
    split at h3
    case isFalse => cases h3
    rename_i ht
    rw [if_pos hs, if_pos ht]
    dsimp only
    rw [mpL_len]
    have hl := mwN_lo (insN l k).toNat
    refine ⟨?_, hl, ?_⟩
    · push_cast
      omega
    · have e := ht
      unfold isMapB at e
      simp only [Bool.and_eq_true] at e
      have := top_ones18 _ _ e.2 (by rw [mpL_len]; exact hl)
      rwa [mpL_len] at this
  · rw [hI] at q1 q2 ⊢
    dsimp only at q1 q2 ⊢
    have e1 := htk'.1
    have e2 := htk'.2
    unfold kLo at e1
    unfold kHi at e2
    rw [if_neg q2] at e1
    rw [if_neg q1, if_neg q2] at e2
    exact ⟨e1, e2⟩
abbrev Out18 := List PB × Int × Int
def wds (l : List Nat) : Int := ((l.length / 4 : Nat) : Int)
noncomputable def bsF (l : List Nat) (rec : Int → List PB → Out18) (P : List PB) (a t : Int) (m : List (BitVec 32)) (en : Int) (r : List (Int × Int) × Int × Int) : Out18 :=
  if r.2.1 ≠ 0 then ([], r.2.2, r.2.1) else if en + (sumW m m.length : Nat) < wds l then rec (en + (sumW m m.length : Nat)) (P ++ [⟨a, t, m, prE en r.1⟩]) else (P ++ [⟨a, t, m, prE en r.1⟩], 0, 0)
noncomputable def bsG (l : List Nat) : Nat → Int → List PB → Out18
  | 0, a, P => ([], 0, 0)
  | f + 1, a, P => if dcE l a ≠ 0 then ([], a, dcE l a) else if (dcI l a).op ≠ 1 then ([], a, 24) else
    if dcE l (a + 1) ≠ 0 then ([], a + 1, dcE l (a + 1)) else if (dcI l (a + 1)).op ≠ 2 then ([], a + 1, 24) else
    if (dcI l (a + 1)).n ≠ (dcI l a).n then ([], a + 1, 25) else
    bsF l (bsG l f) P a (dcI l a).n (dcI l (a + 1)).m (a + 1 + dcZ l (a + 1)) (enG l (a + 1 + dcZ l (a + 1)) (sumW (dcI l (a + 1)).m (dcI l (a + 1)).m.length) 0 [])
theorem bsG_succ (l : List Nat) (f : Nat) (a : Int) (P : List PB) : bsG l (f + 1) a P = if dcE l a ≠ 0 then ([], a, dcE l a) else if (dcI l a).op ≠ 1 then ([], a, 24) else
    if dcE l (a + 1) ≠ 0 then ([], a + 1, dcE l (a + 1)) else if (dcI l (a + 1)).op ≠ 2 then ([], a + 1, 24) else
    if (dcI l (a + 1)).n ≠ (dcI l a).n then ([], a + 1, 25) else
    bsF l (bsG l f) P a (dcI l a).n (dcI l (a + 1)).m (a + 1 + dcZ l (a + 1)) (enG l (a + 1 + dcZ l (a + 1)) (sumW (dcI l (a + 1)).m (dcI l (a + 1)).m.length) 0 []) := rfl
end Go.Proofs.Ytdpmhpmnkollaaa
namespace Go.Proofs.Ytdpmhpmnkollaaa
open Go.RowKit Go.Shelf
set_option linter.unusedSimpArgs false
set_option linter.unusedVariables false

theorem at_16 {W : World} {z : Nat} {cs : Array Value} {T : TypeId} (hz : W.heap[z]? = some (.cells cs T)) (j : Nat) (u : Value) (hj : cs[j]? = some u) : W.cell? ⟨z, j, none⟩ = some u := by
  simp [World.cell?, hz, hj]
theorem fr_16 {W : World} {z j : Nat} {cs : Array Value} {T : TypeId} (h : W.heap[z]? = some (.cells cs T)) : W.frozen? ⟨z, j, none⟩ = false := by simp [World.frozen?, h]
theorem set_16 {W : World} {P o : Nat} {cs : Array Value} {T : TypeId} (h : W.heap[P]? = some (.cells cs T)) (v : Value) : (W.setCell ⟨P, o, none⟩ v).heap[P]? = some (.cells (cs.setIfInBounds o v) T) := by
  simp [World.setCell, Array.getElem?_modify, h]
theorem lt_16 {w : World} {z : Nat} {o : Obj} (hz : w.heap[z]? = some o) : z < w.heap.size := (Array.getElem?_eq_some_iff.1 hz).1
theorem far_16 {W : World} {z P o : Nat} {v : Value} (h : z ≠ P) : (W.setCell ⟨P, o, none⟩ v).heap[z]? = W.heap[z]? := Below.heap_setCell W ⟨P, o, none⟩ v z h
theorem new_16 (W : World) (o : Obj) : (W.alloc o).heap[W.heap.size]? = some o := World.alloc_heap_new W o
theorem old_16 {W : World} (o : Obj) {z : Nat} {x : Obj} (h : W.heap[z]? = some x) : (W.alloc o).heap[z]? = some x := (Below.heap_alloc W o z (lt_16 h)).trans h
theorem blk_16 {W W' : World} {row : Option Nat} (hg : W.grownBy W' row) (hr : ∀ r, row = some r → ∃ o : Obj, W.heap[r]? = some o ∧ o.isCells = false) {z : Nat} {cs : Array Value} {T : TypeId} {fr : Nat × Nat} (h : W.heap[z]? = some (.cells cs T fr)) : W'.heap[z]? = some (.cells cs T fr) := by
  refine (hg.block z (lt_16 h) (fun e => ?_)).trans h
  obtain ⟨o, h1, h2⟩ := hr z e.symm
  rw [h] at h1
  cases h1
  cases h2
theorem cell_16 {W W' : World} {row : Option Nat} (hg : W.grownBy W' row) (hr : ∀ r, row = some r → ∃ o : Obj, W.heap[r]? = some o ∧ o.isCells = false) {b o : Nat} {v : Value} (h : W.cell? ⟨b, o, none⟩ = some v) : W'.cell? ⟨b, o, none⟩ = some v := by
  have hb := cell_in h
  refine (World.cell?_of_block (a := ⟨b, o, none⟩) (hg.block b hb (fun e => ?_))).trans h
  obtain ⟨x, h1, h2⟩ := hr b e.symm
  rw [World.cell?, h1] at h
  cases x with
  | cells cs T fr => cases h2
  | _ => simp at h
def KX (X : Nat → Prop) (V U : World) : Prop := V.heap.size ≤ U.heap.size ∧ ∀ z, z < V.heap.size → ¬ X z → U.heap[z]? = V.heap[z]?
theorem KX.refl (X : Nat → Prop) (V : World) : KX X V V := ⟨Nat.le_refl _, fun _ _ _ => rfl⟩
theorem KX.trans {X : Nat → Prop} {A B C : World} (h : KX X A B) (g : KX X B C) : KX X A C := ⟨Nat.le_trans h.1 g.1, fun z h1 h2 => (g.2 z (Nat.lt_of_lt_of_le h1 h.1) h2).trans (h.2 z h1 h2)⟩
theorem KX.below {X : Nat → Prop} {V U U' : World} (h : KX X V U) (hb : Below U.heap.size U U') : KX X V U' := ⟨Nat.le_trans h.1 hb.size, fun z h1 h2 => (hb.block z (Nat.lt_of_lt_of_le h1 h.1)).trans (h.2 z h1 h2)⟩
theorem kx_below {X : Nat → Prop} {U U' : World} (hb : Below U.heap.size U U') : KX X U U' := ⟨hb.size, fun z h1 _ => hb.block z h1⟩
theorem KX.set {X : Nat → Prop} {V U : World} (h : KX X V U) (b o : Nat) (u : Value) (hb : X b ∨ V.heap.size ≤ b) : KX X V (U.setCell ⟨b, o, none⟩ u) := ⟨by simpa using h.1, fun z h1 h2 => (far_16 (by rintro rfl; rcases hb with q | q; exact h2 q; omega)).trans (h.2 z h1 h2)⟩
theorem KX.own {β : Type} {X : Nat → Prop} {B : Nat} {V : World} (hV : V.heap.size ≤ B) : OwnFrom B (fun (_ : β) U => KX X V U) := fun s A A' row hs hg hr => ⟨Nat.le_trans hs.1 hg.size, fun z h1 h2 => (hg.block z (Nat.lt_of_lt_of_le h1 hs.1) (fun e => by have := (hr z e.symm).1; omega)).trans (hs.2 z h1 h2)⟩
theorem KX.kz {X Z : Nat → Prop} {V U : World} (h : KX X V U) (hZ : ∀ z, Z z → ¬ X z) : KZ Z V U := ⟨h.1, fun z o h1 h2 => by
  rw [h.2 z (lt_16 h1) (hZ z h2)]
  exact h1⟩
theorem KX.keeps {X : Nat → Prop} {C : Nat} {V U : World} (h : KX X V U) (hC : ∀ z, X z → z < C) : KeepsFrom C V U := ⟨h.1, fun z o h1 h2 _ => by rw [h.2 z (lt_16 h2) (fun q => by have := hC z q; omega)]; exact h2⟩
theorem leaves_16 {n B : Nat} {P : Program} {fn : Func} {tmps : Array Value} {R : Ending → World → Prop} : ∀ (l : List Nat) (W : World), l.Nodup → (∀ D ∈ l, B ≤ D ∧ W.heap[D]? = some (.deferred (some []))) → (∀ W', Below B W W' → LeavesInM Fence.wide n P fn tmps R [] .returning W') → LeavesInM Fence.wide n P fn tmps R (l.map fun D => { target := .collected D, args := #[] }) .returning W
  | [], W, _, _, h => h W (Below.refl _ _)
  | D :: l, W, hn, hd, h => by
    obtain ⟨h1, h2⟩ := List.nodup_cons.mp hn
    obtain ⟨hB, hD⟩ := hd D (List.mem_cons_self ..)
    have hput : Below B W (W.putObj D (.deferred none)) := ⟨rfl, rfl, rfl, by simp, fun k hk => World.putObj_heap_other (by omega)⟩
    refine ⟨by simp, .inl ⟨D, W.putObj D (.deferred none), rfl, run_takeDeferred hD, leaves_16 l _ h2 (fun E hE => ?_) (fun W' hb => h W' (hput.trans hb))⟩⟩
    obtain ⟨a, b⟩ := hd E (List.mem_cons_of_mem _ hE)
    refine ⟨a, (World.putObj_heap_other ?_).trans b⟩
    rintro rfl
    exact h1 hE
theorem wl_nil16 {P : Program} {ops : Array Oper} {Q : Exit → Act → World → Prop} {a : Act} {w : World} (h : wpList P ops Q [] a w) : Q .normal a w := h
def MkS (B : Nat) (ls : List Nat) (W : World) : Prop := ls.Nodup ∧ ∀ D ∈ ls, B ≤ D ∧ W.heap[D]? = some (.deferred (some []))
theorem MkS.nil (B : Nat) (W : World) : MkS B [] W := ⟨List.nodup_nil, fun D hD => by cases hD⟩
theorem MkS.cons {B : Nat} {ls : List Nat} {V U : World} {X : Nat → Prop} {D : Nat} (h : MkS B ls V) (hk : KX X V U) (hX : ∀ z, X z → z < B) (h1 : V.heap.size ≤ D) (hB : B ≤ V.heap.size) (h2 : U.heap[D]? = some (.deferred (some []))) : MkS B (D :: ls) U := by
  have hlt : ∀ E ∈ ls, E < V.heap.size := fun E hE => lt_16 (h.2 E hE).2
  refine ⟨List.nodup_cons.mpr ⟨fun hm => by have := hlt D hm; omega, h.1⟩, fun E hE => ?_⟩
  rcases List.mem_cons.mp hE with rfl | hE
  · exact ⟨by omega, h2⟩
  · exact ⟨(h.2 E hE).1, (hk.2 E (hlt E hE) (fun q => by have := hX E q; have := (h.2 E hE).1; omega)).trans (h.2 E hE).2⟩
theorem MkS.keep {B : Nat} {ls : List Nat} {V U : World} {X : Nat → Prop} (h : MkS B ls V) (hk : KX X V U) (hX : ∀ z, X z → z < B) : MkS B ls U :=
  ⟨h.1, fun E hE => ⟨(h.2 E hE).1, (hk.2 E (lt_16 (h.2 E hE).2) (fun q => by have := hX E q; have := (h.2 E hE).1; omega)).trans (h.2 E hE).2⟩⟩
theorem wpList_make16 {P : Program} (w : World) {ops : Array Oper} {rest : List Oper} {o : Oper} {a : Act} {Q : Exit → Act → World → Prop}
    (hg : o.guard = none) (l c : Operand) (t : TypeId) (hop : o.op = Op.makeSlice t l c)
    (e : TypeId) (i : TypeInfo) (z : Value) (h1 : P.underlying t = some (.slice e)) (h2 : P.info? e = some i) (h3 : i.zero = some z)
    (kl kc : IntKind) (L C : Int) (n m : Nat) (hl : a.eval l = .int kl L) (hc : a.eval c = .int kc C) (hL : L = (n : Int)) (hC : C = (m : Int)) (hnm : n ≤ m) (b2 : i.bytes * m ≤ 281474976710656) (b3 : m ≤ maxLen)
    (hK : wpList P ops Q rest (a.put o.dst (.slice (some ⟨w.heap.size, 0, none⟩) n m)) (w.alloc (.cells (madeCells z.cells (m * i.size)) e))) :
    wpList P ops Q (o :: rest) a w := by
  refine wpList_plain hg fun K hK' => ?_
  have h63' : (m : Int) ≤ 9223372036854775807 := by
    have h := b3
    simp [maxLen] at h
    omega
  have hb' : (i.bytes : Int) * (m : Int) ≤ 281474976710656 := by
    have h : ((i.bytes * m : Nat) : Int) ≤ 281474976710656 := by omega
    rwa [Int.natCast_mul] at h
  have hr := run_make (P := P) w t e i z h1 h2 h3 kl kc n m (by omega) (by omega) hb' h63'
  simp only [Int.toNat_natCast] at hr
  subst hL
  subst hC
  unfold Oper.wp
  simp [execOp, hop, hl, hc, hr, Result.andThen]
  exact hK' _ _ hK
theorem made_one16 (z : Value) (n : Nat) : madeCells #[z] n = (List.replicate n z).toArray := by
  rw [← toList_madeCells_one]
theorem own_base16 {w : World} {base base' e size n : Nat} {v : Value} {xs : List Value} (h : w.ownsRow base e size v n xs) (hb : base' ≤ base) : w.ownsRow base' e size v n xs := by
  refine ⟨h.1, ?_⟩
  rcases h.2 with hn | ⟨g, cap, cur, hv, h1, h2⟩
  · exact .inl hn
  · exact .inr ⟨g, cap, cur, hv, by omega, h2⟩
end Go.Proofs.Ytdpmhpmnkollaaa
namespace Go.Proofs.Ytdpmhpmnkollaaa
open Go.RowKit Go.Shelf
set_option linter.unusedSimpArgs false
set_option linter.unusedVariables false
attribute [local go_sem] Oper.semAt_some

theorem w64_n18 (q : Nat) (h : q ≤ 1000000000) : wrap64 (q : Int) = (q : Int) := by unfold wrap64; omega
def fnB (qs : List Int) (x : Int) : Int := match qs.findIdx? (· == x) with | some i => (i : Int) | none => -1
theorem fnB_at {qs : List Int} (hs : qs.Pairwise (· < ·)) {i : Nat} {x : Int} (h : qs[i]? = some x) : fnB qs x = (i : Int) := by
  unfold fnB
  have hf : qs.findIdx? (· == x) = some i := by
    rw [List.findIdx?_eq_some_iff_getElem]
    obtain ⟨h1, h2⟩ := List.getElem?_eq_some_iff.mp h
    refine ⟨h1, by simp [h2], fun j hj => ?_⟩
    have := List.pairwise_iff_getElem.mp hs j i (by omega) h1 hj
    rw [h2] at this
    simp
    omega
  rw [hf]
theorem fnB_no {qs : List Int} {x : Int} (h : ∀ (i : Nat) (y : Int), qs[i]? = some y → y ≠ x) : fnB qs x = -1 := by
  unfold fnB
  have hf : qs.findIdx? (· == x) = none := by
    rw [List.findIdx?_eq_none_iff]
    intro y hy
    obtain ⟨i, hi⟩ := List.getElem?_of_mem hy
    simpa using h i y hi
  rw [hf]
set_option maxRecDepth 20000 in
set_option maxHeartbeats 4000000 in
theorem rfind18 (ao : Option Addr) (c : Nat) (qs : List Int) (x : Int) (w : World) (hc : qs = [] ∨ ∃ b off, ao = some ⟨b, off, none⟩ ∧ ∀ j y, qs[j]? = some y → w.cell? ⟨b, off + j * 5, none⟩ = some (.int .i64 y)) (hs : qs.Pairwise (· < ·)) (hl : qs.length ≤ 1000000000) :
    Calls Try.prog 27 #[.slice ao qs.length c, .int .i64 x] w fun e w' => e = .returned (.int .i64 (fnB qs x)) ∧ w' = w := by
  have HC := hid13 hc
  have HS := hid13 hs
  have HL : Hid (qs.length ≤ 1000000000) := hl
  obtain ⟨R, hR⟩ : ∃ R, R = fnB qs x := ⟨_, rfl⟩
  have HR := hid13 hR
  rw [← hR]
  clear hc hs hl hR
  go_enter Try.func27, Try.ntmps27
  go_wp2_with fail
  go_loopg [5, 6] qs.length (fun g lv hv wr => ∃ lo hi : Nat, lv = .int .i64 (lo : Int) ∧ hv = .int .i64 (hi : Int) ∧ Hid (lo ≤ hi ∧ hi ≤ qs.length ∧ hi - lo ≤ g ∧ (∀ j y, j < lo → qs[j]? = some y → y < x) ∧ (∀ j y, hi ≤ j → qs[j]? = some y → x ≤ y)) ∧ wr = w)
  case atStart => exact ⟨0, qs.length, rfl, rfl, hid13 ⟨Nat.zero_le _, Nat.le_refl _, by omega, fun j y h => by omega, fun j y h1 h2 => by have := (List.getElem?_eq_some_iff.mp h2).1; omega⟩, rfl⟩
  case round =>
    obtain ⟨lo, hi, rfl, rfl, HI, hw⟩ := hrel
    replace hw := hw.symm
    subst hw
    by_cases hlt : (lo : Int) < (hi : Int)
    · obtain ⟨mm, hmm⟩ : ∃ mm, mm = (lo + hi) / 2 := ⟨_, rfl⟩
      have hml : mm < qs.length := by have := HI.out; omega
      obtain ⟨b, off, rfl, hcell⟩ := HC.out.resolve_left (by rintro rfl; simp at hml)
      obtain ⟨y, hy⟩ : ∃ y, qs[mm]? = some y := ⟨_, List.getElem?_eq_getElem hml⟩
      have cy := hcell mm y hy
      have hmi : (mm : Int) < (qs.length : Int) := by omega
      have m1 : IntKind.i64.wrap ((lo : Int) + (hi : Int)) = (lo : Int) + (hi : Int) := by rw [IntKind.wrap_i64]; have := HI.out; have := HL.out; omega
      have m2 : ((lo : Int) + (hi : Int)).tdiv 2 = (mm : Int) := by rw [Int.tdiv_eq_ediv_of_nonneg (by omega)]; omega
      have m3 : IntKind.i64.wrap (mm : Int) = (mm : Int) := by rw [IntKind.wrap_i64]; have := HL.out; omega
      have m5 : wrap64 (mm : Int) = (mm : Int) := w64_n18 mm (by have := HL.out; omega)
      have m4 : IntKind.i64.wrap ((mm : Int) + 1) = ((mm + 1 : Nat) : Int) := by rw [IntKind.wrap_i64]; have := HL.out; push_cast; omega
      have HM : Hid (lo ≤ mm ∧ mm < hi ∧ qs[mm]? = some y) := ⟨by omega, by omega, hy⟩
      have HP := hid13 (fun j z (h1 : qs[j]? = some z) => ((fun h => by
        obtain ⟨a1, a2⟩ := List.getElem?_eq_some_iff.mp h1
        obtain ⟨b1, b2⟩ := List.getElem?_eq_some_iff.mp hy
        have := List.pairwise_iff_getElem.mp HS.out j mm a1 b1 h
        rw [a2, b2] at this
        exact this) : j < mm → z < y))
      have HQ := hid13 (fun j z (h1 : qs[j]? = some z) => ((fun h => by
        obtain ⟨a1, a2⟩ := List.getElem?_eq_some_iff.mp h1
        obtain ⟨b1, b2⟩ := List.getElem?_eq_some_iff.mp hy
        have := List.pairwise_iff_getElem.mp HS.out mm j b1 a1 h
        rw [a2, b2] at this
        exact this) : mm < j → y < z))
      clear hcell hy hmm hml
      by_cases hyx : y < x
      · have HN : Hid (mm + 1 ≤ hi ∧ hi ≤ qs.length ∧ hi - (mm + 1) ≤ gk - 1 ∧ (∀ j z, j < mm + 1 → qs[j]? = some z → z < x) ∧ (∀ j z, hi ≤ j → qs[j]? = some z → x ≤ z)) := by
          refine ⟨by have := HM.out; omega, HI.out.2.1, by have := HM.out; have := HI.out; omega, fun j z hj hz => ?_, HI.out.2.2.2.2⟩
          by_cases e : j = mm
          · subst e
            rw [HM.out.2.2] at hz
            injection hz with hz
            omega
          · have := HP.out j z hz (by omega)
            omega
        have HG : Hid (gk - 1 < gk) := by have := HM.out; have := HI.out; show _ < _; omega
        clear HI HM HP HQ
        go_wp2
        go_roundg (gk - 1)
        case measure => exact HG.out
        case rel => exact ⟨mm + 1, hi, rfl, rfl, HN, rfl⟩
      · have HN : Hid (lo ≤ mm ∧ mm ≤ qs.length ∧ mm - lo ≤ gk - 1 ∧ (∀ j z, j < lo → qs[j]? = some z → z < x) ∧ (∀ j z, mm ≤ j → qs[j]? = some z → x ≤ z)) := by
          refine ⟨HM.out.1, by have := HM.out; have := HI.out; omega, by have := HM.out; have := HI.out; omega, HI.out.2.2.2.1, fun j z hj hz => ?_⟩
          by_cases e : j = mm
          · subst e
            rw [HM.out.2.2] at hz
            injection hz with hz
            omega
          · have := HQ.out j z hz (by omega)
            omega
        have HG : Hid (gk - 1 < gk) := by have := HM.out; have := HI.out; show _ < _; omega
        clear HI HM HP HQ
        go_wp2
        go_roundg (gk - 1)
        case measure => exact HG.out
        case rel => exact ⟨lo, mm, rfl, rfl, HN, rfl⟩
    · have hee : lo = hi := by have := HI.out; omega
      by_cases hll : (lo : Int) < (qs.length : Int)
      · have hln : lo < qs.length := by omega
        obtain ⟨b, off, rfl, hcell⟩ := HC.out.resolve_left (by rintro rfl; simp at hln)
        obtain ⟨y, hy⟩ : ∃ y, qs[lo]? = some y := ⟨_, List.getElem?_eq_getElem hln⟩
        have cy := hcell lo y hy
        by_cases hyx : y = x
        · have HE : Hid (R = (lo : Int)) := by show _ = _; rw [HR.out]; exact fnB_at HS.out (by rw [hy, hyx])
          subst hyx
          clear HI hcell hy hee
          go_wp2
          go_ret
          exact ⟨by rw [HE.out]; rfl, rfl⟩
        · have HE : Hid (R = -1) := by
            show _ = _
            rw [HR.out]
            refine fnB_no (fun i z hz e => ?_)
            by_cases h1 : i < lo
            · have := HI.out.2.2.2.1 i z h1 hz
              omega
            · by_cases h2 : i = lo
              · subst h2
                rw [hy] at hz
                injection hz with hz
                omega
              · obtain ⟨a1, a2⟩ := List.getElem?_eq_some_iff.mp hz
                obtain ⟨b1, b2⟩ := List.getElem?_eq_some_iff.mp hy
                have h3 := List.pairwise_iff_getElem.mp HS.out lo i b1 a1 (by omega)
                rw [a2, b2] at h3
                have := HI.out.2.2.2.2 lo y (by omega) hy
                omega
          have hne : (y == x) = false := by simpa using hyx
          clear HI hcell hy hee hyx
          go_wp2
          go_ret
          exact ⟨by rw [HE.out]; rfl, rfl⟩
      · have HE : Hid (R = -1) := by
          show _ = _
          rw [HR.out]
          refine fnB_no (fun i z hz e => ?_)
          have h1 := (List.getElem?_eq_some_iff.mp hz).1
          have := HI.out.2.2.2.1 i z (by omega) hz
          omega
        clear HI hee
        go_wp2
        go_ret
        exact ⟨by rw [HE.out]; rfl, rfl⟩
end Go.Proofs.Ytdpmhpmnkollaaa
namespace Go.Proofs.Ytdpmhpmnkollaaa
open Go.RowKit
set_option linter.unusedSimpArgs false
set_option linter.unusedVariables false

def lkX (qs : List Int) (e : Bool × Int) : Bool × Int := if e.1 then (true, fnB qs e.2) else e
def lkI (qs : List Int) : Int → List (Bool × Int) → Option Int
  | _, [] => none
  | p, e :: t => if e.1 = true ∧ fnB qs e.2 = -1 then some p else lkI qs (p + 1) t
def lkB (qs : List Int) (b : PB) : PB := { b with es := b.es.map (lkX qs) }
def lkA (qs : List Int) : List PB → Option Int
  | [] => none
  | b :: t => match lkI qs (b.a + 2 + (b.m.length : Int)) b.es with
    | some p => some p
    | none => lkA qs t
def lkR (qs : List Int) (P : List PB) : Int × Int := match lkA qs P with
  | some p => (p, 26)
  | none => (0, 0)
def mkX (s : List Bool) (e : Bool × Int) : List Bool := if e.1 then s.set e.2.toNat true else s
def mkB (s : List Bool) (b : PB) : List Bool := b.es.foldl mkX s
def mk0 (n : Nat) : List Bool := (List.replicate n false).set 0 true
def mkA (P : List PB) : List Bool := P.foldl mkB (mk0 P.length)
def ixB (s : List Bool) : Int := match s.findIdx? (· == false) with
  | some k => (k : Int)
  | none => -1
def usR (P : List PB) : Int × Int := if 0 ≤ ixB (mkA P) then ((P.getD (ixB (mkA P)).toNat ⟨0, 0, [], []⟩).a, 31) else (0, 0)
def upX (B M : Int) (A : List (Int × Int)) (e : Bool × Int) : List (Int × Int) := if e.1 then A.set e.2.toNat (max (A.getD e.2.toNat (0, 0)).1 B, max (A.getD e.2.toNat (0, 0)).2 M) else A
def msG (F : Int) : List PB → Nat → List (Int × Int) → Int → Int × Int × Int
  | [], _, _, dp => (dp, 0, 0)
  | b :: t, k, A, dp =>
    if F < (A.getD k (0, 0)).2 + b.t then (0, b.a, 27) else msG F t (k + 1) (b.es.foldl (upX ((A.getD k (0, 0)).1 + 1) ((A.getD k (0, 0)).2 + b.t)) A) (max dp ((A.getD k (0, 0)).1 + 1))
def msR (F : Int) (P : List PB) : Int × Int × Int := msG F P 0 (List.replicate P.length (0, 0)) 0
theorem mkX_len (s : List Bool) (e : Bool × Int) : (mkX s e).length = s.length := by unfold mkX; split <;> simp
theorem mkF_len18 : ∀ (es : List (Bool × Int)) (s : List Bool), (es.foldl mkX s).length = s.length
  | [], s => rfl
  | e :: t, s => by rw [List.foldl_cons, mkF_len18 t, mkX_len]
theorem mkA_len : ∀ (P : List PB) (s : List Bool), (P.foldl mkB s).length = s.length
  | [], s => rfl
  | b :: t, s => by rw [List.foldl_cons, mkA_len t]; exact mkF_len18 _ _
theorem upX_len (B M : Int) (A : List (Int × Int)) (e : Bool × Int) : (upX B M A e).length = A.length := by unfold upX; split <;> simp
end Go.Proofs.Ytdpmhpmnkollaaa
namespace Go.Proofs.Ytdpmhpmnkollaaa
open Go.RowKit
set_option linter.unusedSimpArgs false
set_option linter.unusedVariables false

theorem enG_ok (l : List Nat) (en : Int) : ∀ (r k : Nat) (es : List (Int × Int)), (enG l en r k es).2.1 = 0 → (enG l en r k es).1.length = es.length + r ∧ (0 < r → en + k + r ≤ wds l)
  | 0, k, es, h => ⟨rfl, fun q => by omega⟩
  | r + 1, k, es, h => by
    rw [enG_succ] at h ⊢
    by_cases h1 : enE l (en + k) es = 0
    · rw [if_pos h1] at h ⊢
      obtain ⟨a1, a2⟩ := enG_ok l en r (k + 1) _ h
      refine ⟨by rw [a1, List.length_append]; simp; omega, fun _ => ?_⟩
      have h2 : dcE l (en + k) = 0 := by
        by_cases h3 : dcE l (en + k) ≠ 0
        · unfold enE at h1
          rw [if_pos h3] at h1
          exact h1
        · simpa using h3
      have h4 := (dcF h2).a1
      rcases Nat.eq_zero_or_pos r with q | q
      · subst q
        unfold wds
        push_cast at h4 ⊢
        omega
      · have := a2 q
        push_cast at this ⊢
        omega
    · rw [if_neg h1] at h
      exact absurd h h1
structure PbF (l : List Nat) (P : List PB) : Prop where
  s : (P.map PB.a).Pairwise (· < ·)
  b : ∀ b ∈ P, 0 ≤ b.a ∧ b.a < wds l ∧ (b.m.length : Int) ≤ wds l ∧ (b.es.length : Int) ≤ wds l ∧ 1 ≤ b.t ∧ b.t ≤ 24
theorem PbF.push {l : List Nat} {P : List PB} {a : Int} (h : PbF l P) (hp : ∀ b ∈ P, b.a < a) (b : PB) (hb : b.a = a) (h1 : 0 ≤ b.a ∧ b.a < wds l ∧ (b.m.length : Int) ≤ wds l ∧ (b.es.length : Int) ≤ wds l ∧ 1 ≤ b.t ∧ b.t ≤ 24) : PbF l (P ++ [b]) := by
  refine ⟨?_, fun c hc => ?_⟩
  · rw [List.map_append, List.pairwise_append]
    refine ⟨h.s, by simp, fun x hx y hy => ?_⟩
    obtain ⟨c, hc, rfl⟩ := List.mem_map.mp hx
    simp at hy
    rw [hy, hb]
    exact hp c hc
  · rcases List.mem_append.mp hc with q | q
    · exact h.b c q
    · simp at q
      subst q
      exact h1
theorem bsG_ok (l : List Nat) : ∀ (f : Nat) (a : Int) (P : List PB), 0 ≤ a → a < wds l → wds l - a ≤ (f : Int) → PbF l P → (∀ b ∈ P, b.a < a) → (bsG l f a P).2.2 = 0 → PbF l (bsG l f a P).1 ∧ 0 < (bsG l f a P).1.length
  | 0, a, P, h0, h1, h2, hP, hp, h => by omega
  | f + 1, a, P, h0, h1, h2, hP, hp, h => by
    rw [bsG_succ] at h ⊢
    by_cases c1 : dcE l a ≠ 0
    · rw [if_pos c1] at h; exact absurd h c1
    rw [if_neg c1] at h ⊢
    by_cases c2 : (dcI l a).op ≠ 1
    · rw [if_pos c2] at h; cases h
    rw [if_neg c2] at h ⊢
    by_cases c3 : dcE l (a + 1) ≠ 0
    · rw [if_pos c3] at h; exact absurd h c3
    rw [if_neg c3] at h ⊢
    by_cases c4 : (dcI l (a + 1)).op ≠ 2
    · rw [if_pos c4] at h; cases h
    rw [if_neg c4] at h ⊢
    by_cases c5 : (dcI l (a + 1)).n ≠ (dcI l a).n
    · rw [if_pos c5] at h; cases h
    rw [if_neg c5] at h ⊢
    have e1 : dcE l a = 0 := by simpa using c1
    have e2 : (dcI l a).op = 1 := by simpa using c2
    have e3 : dcE l (a + 1) = 0 := by simpa using c3
    have e4 : (dcI l (a + 1)).op = 2 := by simpa using c4
    have d1 := (dcF e1).nx (by rw [e2]; decide) (by rw [e2]; decide)
    obtain ⟨m1, m2, m3⟩ := (dcF e3).m2 e4
    have z1 := dcZ_zero e3
    generalize hm : (dcI l (a + 1)).m = m at *
    generalize hen : a + 1 + dcZ l (a + 1) = en at *
    obtain ⟨r, hr⟩ : ∃ r, r = enG l en (sumW m m.length) 0 [] := ⟨_, rfl⟩
    rw [← hr] at h ⊢
    unfold bsF at h ⊢
    by_cases c6 : r.2.1 ≠ 0
    · rw [if_pos c6] at h; exact absurd h c6
    rw [if_neg c6] at h ⊢
    have c6' : r.2.1 = 0 := by simpa using c6
    obtain ⟨b1, b2⟩ := enG_ok l en (sumW m m.length) 0 [] (by rw [← hr]; exact c6')
    rw [← hr] at b1
    have b3 := b2 m3
    have hw : wds l = ((l.length / 4 : Nat) : Int) := rfl
    rw [← hw] at m1
    have hpush : PbF l (P ++ [⟨a, (dcI l a).n, m, prE en r.1⟩]) := hP.push hp _ rfl (by
      dsimp only
      rw [prE_len, b1]
      refine ⟨h0, h1, ?_, ?_, d1.1, d1.2⟩
      · omega
      · simp
        push_cast at b3
        omega)
    by_cases c7 : en + ((sumW m m.length : Nat) : Int) < wds l
    · rw [if_pos c7] at h ⊢
      refine bsG_ok l f _ _ (by omega) c7 (by omega) hpush (fun b hb => ?_) h
      rcases List.mem_append.mp hb with q | q
      · have := hp b q
        omega
      · simp at q
        subst q
        dsimp only
        omega
    · rw [if_neg c7] at h ⊢
      exact ⟨hpush, by simp⟩
theorem lkI_none (qs : List Int) : ∀ (es : List (Bool × Int)) (p : Int), lkI qs p es = none → ∀ e ∈ es, e.1 = true → fnB qs e.2 ≠ -1
  | [], p, h, e, he, q => by simp at he
  | x :: t, p, h, e, he, q => by
    unfold lkI at h
    by_cases c : x.1 = true ∧ fnB qs x.2 = -1
    · rw [if_pos c] at h; cases h
    · rw [if_neg c] at h
      rcases List.mem_cons.mp he with rfl | h2
      · exact fun q2 => c ⟨q, q2⟩
      · exact lkI_none qs t (p + 1) h e h2 q
theorem lkA_none (qs : List Int) : ∀ (P : List PB), lkA qs P = none → ∀ b ∈ P, ∀ e ∈ b.es, e.1 = true → fnB qs e.2 ≠ -1
  | [], h, b, hb, e, he, q => by simp at hb
  | x :: t, h, b, hb, e, he, q => by
    unfold lkA at h
    cases hc : lkI qs (x.a + 2 + (x.m.length : Int)) x.es with
    | some p => rw [hc] at h; cases h
    | none =>
      rw [hc] at h
      rcases List.mem_cons.mp hb with rfl | h2
      · exact lkI_none qs _ _ hc e he q
      · exact lkA_none qs t h b h2 e he q
theorem fnB_in (qs : List Int) (x : Int) (h : fnB qs x ≠ -1) : 0 ≤ fnB qs x ∧ fnB qs x < qs.length := by
  unfold fnB at h ⊢
  cases hf : qs.findIdx? (· == x) with
  | none => rw [hf] at h; exact absurd rfl h
  | some i =>
    have := (List.findIdx?_eq_some_iff_getElem.mp hf).1
    dsimp only
    omega
theorem lk_ok {l : List Nat} {P : List PB} (h : PbF l P) (hk : (lkR (P.map PB.a) P).2 = 0) : ∀ b ∈ P.map (lkB (P.map PB.a)), (1 ≤ b.t ∧ b.t ≤ 24) ∧ (b.es.length : Int) ≤ wds l ∧ ∀ e ∈ b.es, e.1 = true → 0 ≤ e.2 ∧ e.2 < (P.map (lkB (P.map PB.a))).length := by
  intro b hb
  obtain ⟨c, hc, rfl⟩ := List.mem_map.mp hb
  have hcb := h.b c hc
  refine ⟨hcb.2.2.2.2, by unfold lkB; simp; exact hcb.2.2.2.1, fun e he q => ?_⟩
  unfold lkB at he
  dsimp only at he
  obtain ⟨x, hx, rfl⟩ := List.mem_map.mp he
  have hn : lkA (P.map PB.a) P = none := by
    unfold lkR at hk
    cases hq : lkA (P.map PB.a) P with
    | none => rfl
    | some p => rw [hq] at hk; cases hk
  by_cases hx1 : x.1 = true
  · have := fnB_in _ _ (lkA_none _ P hn c hc x hx hx1)
    unfold lkX
    rw [if_pos hx1]
    simpa using this
  · unfold lkX at q
    rw [if_neg hx1] at q
    exact absurd q hx1
noncomputable def vfP (l : List Nat) : List PB := (bsG l (l.length / 4) 0 []).1.map (lkB ((bsG l (l.length / 4) 0 []).1.map PB.a))
noncomputable def vfB (F : Int) (l : List Nat) : Int × Int × Int :=
  if (bsG l (l.length / 4) 0 []).2.2 ≠ 0 then (0, (bsG l (l.length / 4) 0 []).2) else
  if (lkR ((bsG l (l.length / 4) 0 []).1.map PB.a) (bsG l (l.length / 4) 0 []).1).2 ≠ 0 then (0, lkR ((bsG l (l.length / 4) 0 []).1.map PB.a) (bsG l (l.length / 4) 0 []).1) else
  if (usR (vfP l)).2 ≠ 0 then (0, usR (vfP l)) else msR F (vfP l)
noncomputable def vfR (F : Int) (l : List Nat) : Int × Int × Int :=
  if F ≠ 32 ∧ F ≠ 128 then (0, 0, 11) else if l.length = 0 ∨ l.length % 4 ≠ 0 then (0, 0, 22) else
  if dcE l 0 = 0 ∧ (dcI l 0).op = 4 then (if 4 < l.length then (0, 1, 31) else (0, 0, 0)) else vfB F l
theorem msG_word (F : Int) : ∀ (P : List PB) (k : Nat) (A : List (Int × Int)) (dp : Int), (msG F P k A dp).2.2 = 0 → (msG F P k A dp).2.1 = 0
  | [], k, A, dp, h => rfl
  | b :: t, k, A, dp, h => by
    unfold msG at h ⊢
    split
    · rename_i c
      rw [if_pos c] at h
      cases h
    · rename_i c
      rw [if_neg c] at h
      exact msG_word F t _ _ _ h
end Go.Proofs.Ytdpmhpmnkollaaa
namespace Go.Proofs.Ytdpmhpmnkollaaa
open Go.RowKit
set_option linter.unusedSimpArgs false
set_option linter.unusedVariables false

theorem sumW_le (U : List (BitVec 32)) : ∀ a, sumW U a ≤ 32 * a
  | 0 => Nat.le_refl _
  | a + 1 => by
    have h1 := sumW_le U a
    have h2 := bsN_le 32 (U.getD a 0#32).toNat
    simp only [sumW]
    unfold on32
    omega
end Go.Proofs.Ytdpmhpmnkollaaa
namespace Go.Proofs.Ytdpmhpmnkollaaa
open Go.RowKit
set_option linter.unusedSimpArgs false
set_option linter.unusedVariables false

end Go.Proofs.Ytdpmhpmnkollaaa
