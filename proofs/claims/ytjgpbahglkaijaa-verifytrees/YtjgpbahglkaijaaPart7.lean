/-
  Part 7 of the proof: 4 texts, one behind the other.
-/
import Derived.Test.YtjgpbahglkaijaaPart6
import Derived.Test.YtjgpbahglkaijaaPart3
namespace Go.Proofs.Ytjgpbahglkaijaa
set_option linter.unusedSimpArgs false
set_option linter.unusedVariables false

theorem numN_by4 (x : BitVec 32) : numN13 (by4 x.toNat) = x.toNat := num4 _ x.isLt
theorem wdV_zero (x : BitVec 32) (z : List Nat) : wdV (by4 x.toNat ++ z) 0 = x := by
  unfold wdV
  have e : (((by4 x.toNat ++ z).drop (4 * 0)).take 4) = by4 x.toNat := by
    rw [Nat.mul_zero, List.drop_zero]
    exact List.take_left' rfl
  rw [e, numN_by4]
  simp
theorem wdV_app (l X : List Nat) (a j : Nat) (h : l.length = 4 * a) : wdV (l ++ X) (a + j) = wdV X j := by
  unfold wdV
  rw [Nat.mul_add, ← h, ← List.drop_drop, List.drop_left]
theorem wdV_succ (x : BitVec 32) (z : List Nat) (j : Nat) : wdV (by4 x.toNat ++ z) (j + 1) = wdV z j := by
  rw [Nat.add_comm j 1]
  exact wdV_app (by4 x.toNat) z 1 j rfl
theorem wdV_fm : ∀ (ws : List (BitVec 32)) (z : List Nat) (j : Nat) (x : BitVec 32), ws[j]? = some x → wdV ((ws.flatMap fun x => by4 x.toNat) ++ z) j = x
  | [], z, j, x, h => by simp at h
  | y :: ws, z, 0, x, h => by
    simp at h
    subst h
    rw [List.flatMap_cons, List.append_assoc]
    exact wdV_zero y _
  | y :: ws, z, j + 1, x, h => by
    rw [List.flatMap_cons, List.append_assoc, wdV_succ]
    exact wdV_fm ws z j x (by simpa using h)
theorem kHi_Rm (o : Int) : kHi o ≤ kRm o := by
  unfold kHi kRm
  split
  · omega
  · split <;> omega
theorem dec_enc (l z : List Nat) (a : Nat) (o n : Int) (m : List (BitVec 32)) (hl : l.length = 4 * a) (h : chkE o n m = 0) :
    dcE (l ++ wdB o.toNat n.toNat m ++ z) (a : Int) = 0 ∧ dcI (l ++ wdB o.toNat n.toNat m ++ z) (a : Int) = ⟨o, n, m⟩ ∧ dcZ (l ++ wdB o.toNat n.toNat m ++ z) (a : Int) = 1 + (m.length : Int) := by
  obtain ⟨ho, hn, hm⟩ := chk_zero h
  obtain ⟨O, rfl⟩ : ∃ O : Nat, o = (O : Int) := ⟨o.toNat, by omega⟩
  obtain ⟨N, rfl⟩ : ∃ N : Nat, n = (N : Int) := ⟨n.toNat, by omega⟩
  rw [Int.toNat_natCast, Int.toNat_natCast]
  obtain ⟨L, hL⟩ : ∃ L, L = l ++ wdB O N m ++ z := ⟨_, rfl⟩
  rw [← hL]
  have hlen : L.length = 4 * a + 4 * (1 + m.length) + z.length := by rw [hL, List.length_append, List.length_append, hl, wdB_len]
  have hw : ∀ j x, (fstW O N :: m)[j]? = some x → wdV L (a + j) = x := by
    intro j x hj
    rw [hL, List.append_assoc, wdV_app l _ a j hl]
    exact wdV_fm _ z j x hj
  have h0 : wdV L a = fstW O N := hw 0 _ rfl
  have hu : uI (wdV L a) = ((O * 16777216 + N : Nat) : Int) := by rw [h0]; exact fst_uI O N (by omega) (by omega)
  have hO : insO L a = (O : Int) := by unfold insO; rw [hu]; omega
  have hN : insN L a = (N : Int) := by unfold insN; rw [hu]; omega
  have hs : stB L.length (a : Int) 1 = true := by unfold stB; simp; omega
  have hop : isOp (O : Int) = true := by unfold isOp; simp; omega
  have htk : tkB (O : Int) (N : Int) = true := by
    unfold tkB
    unfold chkE at h
    rw [if_pos hop] at h
    by_cases c : (decide (kLo (O : Int) ≤ (N : Int)) && decide ((N : Int) ≤ kHi (O : Int))) = true
    · exact c
    · rw [if_neg c] at h; omega
  have hrm : (N : Int) ≤ kRm (O : Int) := by
    unfold tkB at htk
    simp only [Bool.and_eq_true, decide_eq_true_eq] at htk
    exact Int.le_trans htk.2 (kHi_Rm _)
  have hr : rdP L a = (m, 0) := by
    unfold rdP
    rw [hO, hN, if_pos hop, if_pos hrm, if_pos htk, Int.toNat_natCast]
    unfold chkE at h
    have htk' := htk
    unfold tkB at htk'
    rw [if_pos hop, if_pos htk'] at h
    by_cases c : (O : Int) = 2
    · rw [if_pos c] at h ⊢
      rw [Int.toNat_natCast] at h
      have hmp : isMapB m N = true := by
        by_cases c2 : isMapB m N = true
        · exact c2
        · rw [if_neg c2] at h; omega
      have hml : m.length = mwN N := by
        unfold isMapB at hmp
        simp only [Bool.and_eq_true, decide_eq_true_eq] at hmp
        exact hmp.1
      have hmL : mpL L (a + 1) (mwN N) = m := by
        apply List.ext_getElem?
        intro j
        by_cases hj : j < m.length
        · unfold mpL
          rw [List.getElem?_map, List.getElem?_range (by omega), List.getElem?_eq_getElem hj]
          simp only [Option.map_some, Option.some.injEq]
          rw [Nat.add_assoc, Nat.add_comm 1 j]
          exact hw (j + 1) _ (by simp [hj])
        · rw [List.getElem?_eq_none (by rw [mpL_len]; omega), List.getElem?_eq_none (by omega)]
      unfold rmP
      rw [if_pos (by omega), hmL, if_pos hmp]
    · rw [if_neg c] at h ⊢
      by_cases c2 : m = []
      · rw [c2]
      · rw [if_neg c2] at h; omega
  have hE : dcE L (a : Int) = 0 := by unfold dcE; rw [if_pos hs, Int.toNat_natCast, hr]
  have hI : dcI L (a : Int) = ⟨(O : Int), (N : Int), m⟩ := by unfold dcI; rw [if_pos hE, Int.toNat_natCast, hO, hN, hr]
  exact ⟨hE, hI, by unfold dcZ; rw [if_pos hE, hI]⟩
theorem by4_num (a b c d : Nat) (ha : a < 256) (hb : b < 256) (hc : c < 256) (hd : d < 256) : by4 (numN13 [a, b, c, d]) = [a, b, c, d] := by
  have e : numN13 [a, b, c, d] = ((((0 * 256 + a) * 256 + b) * 256 + c) * 256 + d) := rfl
  rw [e]
  unfold by4
  congr 1
  · omega
  · congr 1
    · omega
    · congr 1
      · omega
      · congr 1; omega
theorem list4 (l : List Nat) (h : l.length = 4) : ∃ a b c d, l = [a, b, c, d] := by
  match l, h with
  | [a, b, c, d], _ => exact ⟨a, b, c, d, rfl⟩
theorem by4_wd (l : List Nat) (k : Nat) (hx : ∀ b ∈ l, b < 256) (hk : k < l.length / 4) : by4 (wdV l k).toNat = (l.drop (4 * k)).take 4 := by
  have h1 : (wdV l k).toNat = numN13 ((l.drop (4 * k)).take 4) := by
    unfold wdV
    rw [BitVec.toNat_ofNat]
    exact Nat.mod_eq_of_lt (wd_lt l k hx)
  rw [h1]
  obtain ⟨a, b, c, d, e⟩ := list4 ((l.drop (4 * k)).take 4) (by rw [List.length_take, List.length_drop]; omega)
  have hb : ∀ y ∈ (l.drop (4 * k)).take 4, y < 256 := fun y hy => hx y (List.mem_of_mem_drop (List.mem_of_mem_take hy))
  rw [e] at hb ⊢
  exact by4_num a b c d (hb a (by simp)) (hb b (by simp)) (hb c (by simp)) (hb d (by simp))
theorem fm_mp (l : List Nat) (hx : ∀ b ∈ l, b < 256) : ∀ (c k : Nat), k + c ≤ l.length / 4 → ((mpL l k c).flatMap fun x => by4 x.toNat) = (l.drop (4 * k)).take (4 * c)
  | 0, k, h => by simp [mpL]
  | c + 1, k, h => by
    rw [mpL_succ, List.flatMap_append, fm_mp l hx c k (by omega)]
    show _ ++ (by4 (wdV l (k + c)).toNat ++ []) = _
    rw [List.append_nil, by4_wd l (k + c) hx (by omega), Nat.mul_succ, List.take_add, List.drop_drop, Nat.mul_add]
theorem mpL_cons (l : List Nat) (k c : Nat) : wdV l k :: mpL l (k + 1) c = mpL l k (c + 1) := by
  unfold mpL
  rw [List.range_succ_eq_map]
  simp only [List.map_cons, List.map_map, Nat.add_zero, List.cons.injEq, true_and]
  apply List.map_congr_left
  intro j _
  simp only [Function.comp]
  congr 1
  omega
theorem dcE_stand {l : List Nat} {a : Int} (h : dcE l a = 0) : 0 ≤ a ∧ a.toNat < l.length / 4 ∧ (rdP l a.toNat).2 = 0 := by
  unfold dcE at h
  by_cases c : stB l.length a 1 = true
  · rw [if_pos c] at h
    unfold stB at c
    simp at c
    exact ⟨c.1, by omega, h⟩
  · rw [if_neg c] at h; omega
theorem enc_dec (l : List Nat) (a : Int) (hx : ∀ b ∈ l, b < 256) (h : dcE l a = 0) :
    chkE (dcI l a).op (dcI l a).n (dcI l a).m = 0 ∧ wdB (dcI l a).op.toNat (dcI l a).n.toNat (dcI l a).m = (l.drop (4 * a.toNat)).take (4 * (1 + (dcI l a).m.length)) ∧ a.toNat + 1 + (dcI l a).m.length ≤ l.length / 4 := by
  obtain ⟨ha, hk, hr⟩ := dcE_stand h
  have hI : dcI l a = ⟨insO l a.toNat, insN l a.toNat, (rdP l a.toNat).1⟩ := by unfold dcI; rw [if_pos h]
  rw [hI]
  simp only
  obtain ⟨k, hkd⟩ : ∃ k, k = a.toNat := ⟨_, rfl⟩
  rw [← hkd] at hk hr ⊢
  have hX0 := uI_lo (wdV l k)
  have hX1 := uI_up (wdV l k)
  obtain ⟨O, hO⟩ : ∃ O : Nat, (O : Int) = insO l k := ⟨(insO l k).toNat, by unfold insO; omega⟩
  obtain ⟨N, hN⟩ : ∃ N : Nat, (N : Int) = insN l k := ⟨(insN l k).toNat, by unfold insN; omega⟩
  have hf : fstW O N = wdV l k := by
    apply uI_inj
    have e : ((O * 16777216 + N : Nat) : Int) = uI (wdV l k) := by
      have h1 : (O : Int) = uI (wdV l k) / 16777216 := hO
      have h2 : (N : Int) = uI (wdV l k) % 16777216 := hN
      omega
    rw [← e]
    exact uI_of _ (by omega)
  have key : ∀ m, m = (rdP l k).1 → chkE (O : Int) (N : Int) m = 0 ∧ m = mpL l (k + 1) m.length ∧ k + 1 + m.length ≤ l.length / 4 := by
    intro m hm
    unfold rdP at hr hm
    rw [← hO, ← hN] at hr hm
    by_cases c1 : isOp (O : Int) = true
    · rw [if_pos c1] at hr hm
      by_cases c2 : (N : Int) ≤ kRm (O : Int)
      · rw [if_pos c2] at hr hm
        by_cases c3 : tkB (O : Int) (N : Int) = true
        · rw [if_pos c3] at hr hm
          have c3' := c3
          unfold tkB at c3'
          unfold chkE
          rw [if_pos c1, if_pos c3']
          by_cases c4 : (O : Int) = 2
          · rw [if_pos c4] at hr hm ⊢
            unfold rmP at hr hm
            rw [Int.toNat_natCast] at hr hm ⊢
            by_cases c5 : k + 1 + mwN N ≤ l.length / 4
            · rw [if_pos c5] at hr hm
              by_cases c6 : isMapB (mpL l (k + 1) (mwN N)) N = true
              · rw [if_pos c6] at hr hm
                simp only at hm
                have hml : m.length = mwN N := by rw [hm, mpL_len]
                refine ⟨by rw [hm, if_pos c6], by rw [hml]; exact hm, by omega⟩
              · rw [if_neg c6] at hr; simp at hr
            · rw [if_neg c5] at hr; simp at hr
          · rw [if_neg c4] at hr hm ⊢
            simp only at hm
            subst hm
            exact ⟨by rw [if_pos rfl], by simp [mpL], by simp; omega⟩
        · rw [if_neg c3] at hr; simp at hr
      · rw [if_neg c2] at hr; simp at hr
    · rw [if_neg c1] at hr; simp at hr
  obtain ⟨k1, k2, k3⟩ := key _ rfl
  rw [← hO, ← hN, Int.toNat_natCast, Int.toNat_natCast]
  refine ⟨k1, ?_, k3⟩
  unfold wdB
  obtain ⟨c, hc⟩ : ∃ c, c = (rdP l k).1.length := ⟨_, rfl⟩
  rw [← hc] at k2 k3 ⊢
  rw [k2, hf, mpL_cons, fm_mp l hx (c + 1) k (by omega), Nat.add_comm c 1]
end Go.Proofs.Ytjgpbahglkaijaa
namespace Go.Proofs.Ytjgpbahglkaijaa
open Go.RowKit
set_option linter.unusedSimpArgs false
set_option linter.unusedVariables false

theorem top_ones18 (m : List (BitVec 32)) (P : Nat) (h : topB (m.headD 0#32) P = true) (hl : 1 ≤ m.length) : 1 ≤ sumW m m.length := by
  rw [← cnt_words]
  refine Nat.le_trans ?_ (cnt_mono m 1 (32 * m.length) (by omega))
  unfold topB at h
  simp only [Bool.and_eq_true] at h
  have h1 : plc m 0 = true := by
    unfold plc bt
    cases m with
    | nil => simp at hl
    | cons x t => exact h.1
  show 1 ≤ cnt m (0 + 1)
  unfold cnt
  rw [h1]
  simp
structure DcF (l : List Nat) (a : Int) : Prop where
  a0 : 0 ≤ a
  a1 : a < ((l.length / 4 : Nat) : Int)
  op : (dcI l a).op = 1 ∨ (dcI l a).op = 2 ∨ (dcI l a).op = 3 ∨ (dcI l a).op = 4
  n0 : 0 ≤ (dcI l a).n
  n1 : (dcI l a).n ≤ 16777215
  m0 : (dcI l a).op ≠ 2 → (dcI l a).m = []
  m2 : (dcI l a).op = 2 → a + 1 + ((dcI l a).m.length : Int) ≤ ((l.length / 4 : Nat) : Int) ∧ 1 ≤ (dcI l a).m.length ∧ 1 ≤ sumW (dcI l a).m (dcI l a).m.length
  nx : (dcI l a).op ≠ 3 → (dcI l a).op ≠ 4 → 1 ≤ (dcI l a).n ∧ (dcI l a).n ≤ 24
theorem dcF {l : List Nat} {a : Int} (h : dcE l a = 0) : DcF l a := by
  obtain ⟨h1, h2, h3⟩ := dcE_stand h
  obtain ⟨k, rfl⟩ : ∃ k : Nat, a = (k : Int) := ⟨a.toNat, by omega⟩
  rw [Int.toNat_natCast] at h2 h3
  have hI : dcI l (k : Int) = ⟨insO l k, insN l k, (rdP l k).1⟩ := by unfold dcI; rw [if_pos h, Int.toNat_natCast]
  rw [show rdP l k = rdP l k from rfl] at h3
  unfold rdP at h3
  split at h3
  case isFalse => cases h3
  rename_i hop
  split at h3
  case isFalse => cases h3
  rename_i hrm
  split at h3
  case isFalse => cases h3
  rename_i htk
  have hr : rdP l k = if insO l k = 2 then rmP l (k + 1) (insN l k).toNat else ([], 0) := by
    unfold rdP; rw [if_pos hop, if_pos hrm, if_pos htk]
  have hc := isOp_cases hop
  have htk' := htk
  unfold tkB at htk'
  simp only [Bool.and_eq_true, decide_eq_true_eq] at htk'
  have hb : 0 ≤ insN l k ∧ insN l k ≤ 16777215 := by
    have e1 := htk'.1
    have e2 := htk'.2
    unfold kLo at e1
    unfold kHi at e2
    constructor
    · split at e1 <;> omega
    · split at e2
      · omega
      · split at e2 <;> omega
  refine ⟨by omega, by omega, by rw [hI]; exact hc, by rw [hI]; exact hb.1, by rw [hI]; exact hb.2, fun q => ?_, fun q => ?_, fun q1 q2 => ?_⟩
  · rw [hI] at q ⊢
    dsimp only at q ⊢
    rw [hr, if_neg q]
  · rw [hI] at q ⊢
    dsimp only at q ⊢
    rw [if_pos q] at h3 hr
    rw [hr]
    unfold rmP at h3 ⊢
    split at h3
    case isFalse => cases h3
    rename_i hs
    split at h3
    case isFalse => cases h3
    rename_i ht
    rw [if_pos hs, if_pos ht]
    dsimp only
    rw [mpL_len]
    have hl := mwN_lo (insN l k).toNat
    refine ⟨?_, hl, ?_⟩
    · push_cast
      omega
    · have e := ht
      unfold isMapB at e
      simp only [Bool.and_eq_true] at e
      have := top_ones18 _ _ e.2 (by rw [mpL_len]; exact hl)
      rwa [mpL_len] at this
  · rw [hI] at q1 q2 ⊢
    dsimp only at q1 q2 ⊢
    have e1 := htk'.1
    have e2 := htk'.2
    unfold kLo at e1
    unfold kHi at e2
    rw [if_neg q2] at e1
    rw [if_neg q1, if_neg q2] at e2
    exact ⟨e1, e2⟩
abbrev Out18 := List PB × Int × Int
def wds (l : List Nat) : Int := ((l.length / 4 : Nat) : Int)
noncomputable def bsF (l : List Nat) (rec : Int → List PB → Out18) (P : List PB) (a t : Int) (m : List (BitVec 32)) (en : Int) (r : List (Int × Int) × Int × Int) : Out18 :=
  if r.2.1 ≠ 0 then ([], r.2.2, r.2.1) else if en + (sumW m m.length : Nat) < wds l then rec (en + (sumW m m.length : Nat)) (P ++ [⟨a, t, m, prE en r.1⟩]) else (P ++ [⟨a, t, m, prE en r.1⟩], 0, 0)
noncomputable def bsG (l : List Nat) : Nat → Int → List PB → Out18
  | 0, a, P => ([], 0, 0)
  | f + 1, a, P => if dcE l a ≠ 0 then ([], a, dcE l a) else if (dcI l a).op ≠ 1 then ([], a, 24) else
    if dcE l (a + 1) ≠ 0 then ([], a + 1, dcE l (a + 1)) else if (dcI l (a + 1)).op ≠ 2 then ([], a + 1, 24) else
    if (dcI l (a + 1)).n ≠ (dcI l a).n then ([], a + 1, 25) else
    bsF l (bsG l f) P a (dcI l a).n (dcI l (a + 1)).m (a + 1 + dcZ l (a + 1)) (enG l (a + 1 + dcZ l (a + 1)) (sumW (dcI l (a + 1)).m (dcI l (a + 1)).m.length) 0 [])
theorem bsG_succ (l : List Nat) (f : Nat) (a : Int) (P : List PB) : bsG l (f + 1) a P = if dcE l a ≠ 0 then ([], a, dcE l a) else if (dcI l a).op ≠ 1 then ([], a, 24) else
    if dcE l (a + 1) ≠ 0 then ([], a + 1, dcE l (a + 1)) else if (dcI l (a + 1)).op ≠ 2 then ([], a + 1, 24) else
    if (dcI l (a + 1)).n ≠ (dcI l a).n then ([], a + 1, 25) else
    bsF l (bsG l f) P a (dcI l a).n (dcI l (a + 1)).m (a + 1 + dcZ l (a + 1)) (enG l (a + 1 + dcZ l (a + 1)) (sumW (dcI l (a + 1)).m (dcI l (a + 1)).m.length) 0 []) := rfl
end Go.Proofs.Ytjgpbahglkaijaa
namespace Go.Proofs.Ytjgpbahglkaijaa
open Go.RowKit
set_option linter.unusedSimpArgs false
set_option linter.unusedVariables false

def lkX (qs : List Int) (e : Bool × Int) : Bool × Int := if e.1 then (true, fnB qs e.2) else e
def lkI (qs : List Int) : Int → List (Bool × Int) → Option Int
  | _, [] => none
  | p, e :: t => if e.1 = true ∧ fnB qs e.2 = -1 then some p else lkI qs (p + 1) t
def lkB (qs : List Int) (b : PB) : PB := { b with es := b.es.map (lkX qs) }
def lkA (qs : List Int) : List PB → Option Int
  | [] => none
  | b :: t => match lkI qs (b.a + 2 + (b.m.length : Int)) b.es with
    | some p => some p
    | none => lkA qs t
def lkR (qs : List Int) (P : List PB) : Int × Int := match lkA qs P with
  | some p => (p, 26)
  | none => (0, 0)
def mkX (s : List Bool) (e : Bool × Int) : List Bool := if e.1 then s.set e.2.toNat true else s
def mkB (s : List Bool) (b : PB) : List Bool := b.es.foldl mkX s
def mk0 (n : Nat) : List Bool := (List.replicate n false).set 0 true
def mkA (P : List PB) : List Bool := P.foldl mkB (mk0 P.length)
def ixB (s : List Bool) : Int := match s.findIdx? (· == false) with
  | some k => (k : Int)
  | none => -1
def usR (P : List PB) : Int × Int := if 0 ≤ ixB (mkA P) then ((P.getD (ixB (mkA P)).toNat ⟨0, 0, [], []⟩).a, 31) else (0, 0)
def upX (B M : Int) (A : List (Int × Int)) (e : Bool × Int) : List (Int × Int) := if e.1 then A.set e.2.toNat (max (A.getD e.2.toNat (0, 0)).1 B, max (A.getD e.2.toNat (0, 0)).2 M) else A
def msG (F : Int) : List PB → Nat → List (Int × Int) → Int → Int × Int × Int
  | [], _, _, dp => (dp, 0, 0)
  | b :: t, k, A, dp =>
    if F < (A.getD k (0, 0)).2 + b.t then (0, b.a, 27) else msG F t (k + 1) (b.es.foldl (upX ((A.getD k (0, 0)).1 + 1) ((A.getD k (0, 0)).2 + b.t)) A) (max dp ((A.getD k (0, 0)).1 + 1))
def msR (F : Int) (P : List PB) : Int × Int × Int := msG F P 0 (List.replicate P.length (0, 0)) 0
theorem mkX_len (s : List Bool) (e : Bool × Int) : (mkX s e).length = s.length := by unfold mkX; split <;> simp
theorem mkF_len18 : ∀ (es : List (Bool × Int)) (s : List Bool), (es.foldl mkX s).length = s.length
  | [], s => rfl
  | e :: t, s => by rw [List.foldl_cons, mkF_len18 t, mkX_len]
theorem mkA_len : ∀ (P : List PB) (s : List Bool), (P.foldl mkB s).length = s.length
  | [], s => rfl
  | b :: t, s => by rw [List.foldl_cons, mkA_len t]; exact mkF_len18 _ _
theorem upX_len (B M : Int) (A : List (Int × Int)) (e : Bool × Int) : (upX B M A e).length = A.length := by unfold upX; split <;> simp
theorem upF_len (B M : Int) : ∀ (es : List (Bool × Int)) (A : List (Int × Int)), (es.foldl (upX B M) A).length = A.length
  | [], A => rfl
  | e :: t, A => by rw [List.foldl_cons, upF_len B M t, upX_len]
end Go.Proofs.Ytjgpbahglkaijaa
namespace Go.Proofs.Ytjgpbahglkaijaa
open Go.RowKit
set_option linter.unusedSimpArgs false
set_option linter.unusedVariables false
attribute [local go_sem] Oper.semAt_some

structure PgV (w W : World) (base Q : Nat) (vb : Value) (dp an : Int) (L : List Bv) (P : List PB) : Prop where
  g : W.heap[Q]? = some (.cells #[vb, .int .i64 dp, .int .i64 an] 86)
  b : BsV W base vb L P
  bQ : base ≤ Q
  lo : Below base w W
section
variable {w W W' : World} {base Q : Nat} {vb : Value} {dp an : Int} {L : List Bv} {P : List PB}
theorem PgV.sz (h : PgV w W base Q vb dp an L P) : base ≤ W.heap.size := Nat.le_of_lt (Nat.lt_of_le_of_lt h.bQ (lt_16 h.g))
theorem PgV.below (h : PgV w W base Q vb dp an L P) (hb : Below W.heap.size W W') : PgV w W' base Q vb dp an L P := ⟨(hb.block _ (lt_16 h.g)).trans h.g, h.b.below hb, h.bQ, h.lo.trans (hb.mono h.sz)⟩
theorem PgV.c0 (h : PgV w W base Q vb dp an L P) : W.cell? ⟨Q, 0, none⟩ = some vb := at_16 h.g 0 _ rfl
theorem PgV.blk {g n c k : Nat} {p : PB} (h : PgV w W base Q (.slice (some ⟨g, 0, none⟩) n c) dp an L P) (hp : P[k]? = some p) : ∃ x, L[k]? = some x ∧ x.a = p.a ∧ x.t = p.t ∧ BkO W base x p ∧ W.cell? ⟨g, k * 4, none⟩ = some (.int .i64 p.a) ∧ W.cell? ⟨g, k * 4 + 1, none⟩ = some (.int .i64 p.t) ∧ W.cell? ⟨g, k * 4 + 2, none⟩ = some x.vs ∧ W.cell? ⟨g, k * 4 + 3, none⟩ = some x.ve := by
  obtain ⟨x, hx, ho⟩ := h.b.get hp
  obtain ⟨a1, a2, a3, a4⟩ := rowB8_get L k x hx
  have o1 := h.b.o
  have hn : n = L.length := by obtain ⟨ao, c', e⟩ := own_form h.b.o; injection e
  subst hn
  refine ⟨x, hx, ho.1, ho.2.1, ho, ?_, ?_, (own_at18 o1 a3).1, (own_at18 o1 a4).1⟩
  · rw [(own_at18 o1 a1).1, ho.1]
  · rw [(own_at18 o1 a2).1, ho.2.1]
theorem PgV.lnk {g cap k i : Nat} {x : Bv} {p : PB} {e : Bool × Int} (h : PgV w W base Q vb dp an L P) (hx : L[k]? = some x) (hp : P[k]? = some p) (hv : x.ve = .slice (some ⟨g, 0, none⟩) p.es.length cap) (he : p.es[i]? = some e) (n : Int) :
    PgV w (W.setCell ⟨g, i * 2 + 1, none⟩ (.int .i64 n)) base Q vb dp an L (P.set k { p with es := p.es.set i (e.1, n) }) := by
  have ho := (h.b.m k x p hx hp).2.2.2
  obtain ⟨cs, hc⟩ := own_typed18 ho g (by rw [hv]; rfl)
  refine ⟨(far_16 (fun q => ?_)).trans h.g, h.b.link hx hp hv he n, h.bQ, h.lo.setCell (p := ⟨g, i * 2 + 1, none⟩) (ho.lt g (by rw [hv]; rfl)).1 _⟩
  have := h.g
  rw [q, hc] at this
  injection this with this
  injection this with _ h3 _
  exact absurd h3 (by decide)
end
theorem placeOf18 (a t : Int) (so eo : Option Addr) (sn sc en ec : Nat) (k : Int) (w : World) (h : 0 ≤ a ∧ a ≤ 1000000000 ∧ sn ≤ 1000000000 ∧ 0 ≤ k ∧ k ≤ 1000000000) :
    Calls Try.prog 100 #[.agg #[.int .i64 a, .int .i64 t, .slice so sn sc, .slice eo en ec], .int .i64 k] w fun e w' => e = .returned (.int .i64 (a + 2 + (sn : Int) + k)) ∧ Below w.heap.size w w' := by
  have m1 : IntKind.i64.wrap (a + 2) = a + 2 := by rw [IntKind.wrap_i64]; omega
  have m2 : IntKind.i64.wrap (a + 2 + (sn : Int)) = a + 2 + (sn : Int) := by rw [IntKind.wrap_i64]; omega
  have m3 : IntKind.i64.wrap (a + 2 + (sn : Int) + k) = a + 2 + (sn : Int) + k := by rw [IntKind.wrap_i64]; omega
  clear h
  go_enter Try.func100, Try.ntmps100
  go_wp2
  go_ret
  exact ⟨rfl, bl1 _ _⟩
def LkQ (w : World) (base Q : Nat) (vb : Value) (L : List Bv) (qs : List Int) (P : List PB) (e : Ending) (W' : World) : Prop :=
  e = .returned (.tuple #[.int .i64 (lkR qs P).1, .int .i64 (lkR qs P).2]) ∧ ((lkR qs P).2 = 0 → PgV w W' base Q vb 0 0 L (P.map (lkB qs))) ∧ Below base w W'
theorem LkQ.no {w W' : World} {base Q : Nat} {vb : Value} {L : List Bv} {qs : List Int} {P : List PB} {p : Int} (h : lkA qs P = some p) (hb : Below base w W') : LkQ w base Q vb L qs P (.returned (.tuple #[.int .i64 p, .int .i64 26])) W' := by
  have e : lkR qs P = (p, 26) := by unfold lkR; rw [h]
  refine ⟨by rw [e], fun q => ?_, hb⟩
  rw [e] at q; cases q
theorem LkQ.ok {w W' : World} {base Q : Nat} {vb : Value} {L : List Bv} {qs : List Int} {P : List PB} (h : lkA qs P = none) (hb : PgV w W' base Q vb 0 0 L (P.map (lkB qs))) : LkQ w base Q vb L qs P (.returned (.tuple #[.int .i64 0, .int .i64 0])) W' := by
  have e : lkR qs P = (0, 0) := by unfold lkR; rw [h]
  exact ⟨by rw [e], fun _ => hb, hb.lo⟩
structure LkI (w : World) (base Q : Nat) (vb : Value) (L : List Bv) (A B : List PB) (b : PB) (X Y : List (Bool × Int)) (Cb : Nat) (x : Bv) (W : World) : Prop where
  p : PgV w W base Q vb 0 0 L (A ++ { b with es := X ++ Y } :: B)
  c : W.heap[Cb]? = some (.cells #[.int .i64 b.a, .int .i64 b.t, x.vs, x.ve] 121)
set_option maxRecDepth 20000 in
set_option maxHeartbeats 16000000 in
theorem link18 (w : World) (base Q : Nat) (vb : Value) (L : List Bv) (P : List PB) (h : PgV w w base Q vb 0 0 L P) (qs : List Int) (hqs : qs = P.map PB.a) (hs : qs.Pairwise (· < ·)) (h0 : 0 < P.length) (hl : P.length ≤ 100000000) (hb : ∀ b ∈ P, 0 ≤ b.a ∧ b.a ≤ 100000000 ∧ b.m.length ≤ 100000000 ∧ b.es.length ≤ 100000000) :
    Calls Try.prog 76 #[.pointer (some ⟨Q, 0, none⟩)] w (LkQ w base Q vb L qs P) := by
  obtain ⟨g, c, hvb, -⟩ := own_some18 h.b.o (by rw [h.b.l]; exact h0)
  subst hvb
  have hLl := h.b.l
  have c0 := h.c0
  have HQ : Hid (qs = P.map PB.a ∧ qs.Pairwise (· < ·) ∧ L.length = P.length ∧ P.length ≤ 100000000) := ⟨hqs, hs, hLl, hl⟩
  have HB := hid13 hb
  have HP0 := hid13 h
  obtain ⟨n, hn⟩ : ∃ n, n = L.length := ⟨_, rfl⟩
  rw [← hn] at c0
  have HN := hid13 hn
  clear h hqs hs h0 hl hb hLl hn
  go_enter Try.func76, Try.ntmps76
  go_wp2_with fail
  go_loopg [15] n (fun gk jv wr => ∃ (j : Nat) (A0 B : List PB), j + gk = n ∧ jv = .int .i64 (j : Int) ∧ Hid (P = A0 ++ B ∧ A0.length = j ∧ lkA qs B = lkA qs P ∧ PgV w wr base Q (.slice (some ⟨g, 0, none⟩) L.length c) 0 0 L (A0.map (lkB qs) ++ B)))
  case atStart => exact ⟨0, [], P, by omega, rfl, hid13 ⟨rfl, rfl, rfl, HP0.out⟩⟩
  case round =>
    clear HP0 c0
    obtain ⟨j, A0, B, hk, rfl, HI⟩ := hrel
    by_cases hlt : (j : Int) < (n : Int)
    · obtain ⟨b, B', hB⟩ : ∃ b B', B = b :: B' := by
        cases hB : B with
        | nil =>
          have e1 := HI.out.1
          have e2 := HI.out.2.1
          rw [hB, List.append_nil] at e1
          have := HQ.out.2.2.1
          have := HN.out
          rw [e1] at *
          omega
        | cons b B' => exact ⟨b, B', rfl⟩
      subst hB
      obtain ⟨hPA, hjA, hlk, hpg⟩ := HI.out
      have hmem : b ∈ P := by rw [hPA]; simp
      have hbb := HB.out b hmem
      have hge : (A0.map (lkB qs) ++ b :: B')[j]? = some b := by rw [← hjA]; simp
      obtain ⟨x, hx, hxa, hxt, hxo, d0, d1, d2, d3⟩ := hpg.blk hge
      obtain ⟨so, sc, hso⟩ := own_form hxo.2.2.1
      obtain ⟨eo, ec, heo⟩ := own_form hxo.2.2.2
      rw [hso] at d2
      rw [heo] at d3
      have q1 := bl1 wr (.cells #[.int .i64 b.a, .int .i64 b.t, .slice so b.m.length sc, .slice eo b.es.length ec] 121)
      have HIn0 : Hid (LkI w base Q (.slice (some ⟨g, 0, none⟩) L.length c) L (A0.map (lkB qs)) B' b [] b.es wr.heap.size x (wr.alloc (.cells #[.int .i64 b.a, .int .i64 b.t, .slice so b.m.length sc, .slice eo b.es.length ec] 121))) := ⟨hpg.below q1, by rw [hso, heo]; exact new_16 _ _⟩
      obtain ⟨GK, hGK⟩ : ∃ GK, GK = gk := ⟨_, rfl⟩
      have HJ : Hid (j + GK = n ∧ GK = gk ∧ j < n) := ⟨by omega, hGK, by omega⟩
      have HX : Hid (L[j]? = some x ∧ x.vs = .slice so b.m.length sc ∧ x.ve = .slice eo b.es.length ec ∧ (A0.map (lkB qs)).length = j) := ⟨hx, hso, heo, by rw [List.length_map]; exact hjA⟩
      have HPA : Hid (P = A0 ++ b :: B' ∧ A0.length = j ∧ lkA qs (b :: B') = lkA qs P) := ⟨hPA, hjA, hlk⟩
      have HBb := hid13 hbb
      have mj : IntKind.i64.wrap ((j : Int) + 1) = ((j + 1 : Nat) : Int) := by rw [IntKind.wrap_i64]; have := HQ.out; have := HN.out; push_cast; omega
      obtain ⟨Cb, hCb⟩ : ∃ Cb, Cb = wr.heap.size := ⟨_, rfl⟩
      obtain ⟨ba, hba⟩ : ∃ y, y = b.a := ⟨_, rfl⟩
      obtain ⟨bt, hbt⟩ : ∃ y, y = b.t := ⟨_, rfl⟩
      obtain ⟨bm, hbm⟩ : ∃ y, y = b.m.length := ⟨_, rfl⟩
      obtain ⟨bn, hbn⟩ : ∃ y, y = b.es.length := ⟨_, rfl⟩
      rw [← hba, ← hbt, ← hbm, ← hbn] at HIn0
      rw [← hba] at d0
      rw [← hbt] at d1
      rw [← hbm] at d2 HX
      rw [← hbn] at d3 HX
      rw [← hba, ← hbm, ← hbn] at HBb
      have HBs : Hid (ba = b.a ∧ bt = b.t ∧ bm = b.m.length ∧ bn = b.es.length) := ⟨hba, hbt, hbm, hbn⟩
      clear hPA hjA hlk hpg hmem hbb hge hx hxa hxt hxo hso heo q1 hGK hk HI hba hbt hbm hbn
      go_wp2_with fail
      rw [← hCb] at HIn0 ⊢
      revert HIn0
      generalize wr.alloc (.cells #[.int .i64 ba, .int .i64 bt, .slice so bm sc, .slice eo bn ec] 121) = W0
      intro HIn0
      clear d0 d1 d2 d3 hCb
      go_loopg [22] bn (fun gk iv wr2 => ∃ (i : Nat) (X0 Y : List (Bool × Int)), i + gk = bn ∧ iv = .int .i64 (i : Int) ∧ Hid (b.es = X0 ++ Y ∧ X0.length = i ∧ (match lkI qs (b.a + 2 + (b.m.length : Int) + (i : Int)) Y with | some p => some p | none => lkA qs B') = lkA qs P ∧ LkI w base Q (.slice (some ⟨g, 0, none⟩) L.length c) L (A0.map (lkB qs)) B' b (X0.map (lkX qs)) Y Cb x wr2))
      case atStart => exact ⟨0, [], b.es, by omega, rfl, hid13 ⟨rfl, rfl, by rw [← HPA.out.2.2, Int.natCast_zero, Int.add_zero]; rfl, HIn0.out⟩⟩
      case round =>
        clear HIn0
        obtain ⟨i, X0, Y, hk2, rfl, HI2⟩ := hrel
        have hXl : (X0.map (lkX qs)).length = i := by rw [List.length_map]; exact HI2.out.2.1
        have hEl : (X0.map (lkX qs) ++ Y).length = bn := by
          rw [List.length_append, List.length_map, HBs.out.2.2.2, HI2.out.1, List.length_append]
        have hge : (A0.map (lkB qs) ++ { b with es := X0.map (lkX qs) ++ Y } :: B')[j]? = some { b with es := X0.map (lkX qs) ++ Y } := by rw [← HX.out.2.2.2]; simp
        by_cases hlt2 : (i : Int) < (bn : Int)
        · obtain ⟨e, Y', hY⟩ : ∃ e Y', Y = e :: Y' := by
            cases hY : Y with
            | nil =>
              rw [hY, List.append_nil] at hEl
              omega
            | cons e Y' => exact ⟨e, Y', rfl⟩
          subst hY
          obtain ⟨eb, en⟩ := e
          obtain ⟨hes, hXi, hres, hLI⟩ := HI2.out
          have hbo := (hLI.p.b.m j x _ HX.out.1 hge).2.2.2
          dsimp only at hbo
          rw [hEl, HX.out.2.2.1] at hbo
          obtain ⟨eg, ec', hee, -⟩ := own_some18 hbo (by omega)
          injection hee with he1 he2 he3
          subst he1 he3
          have hei : (X0.map (lkX qs) ++ (eb, en) :: Y')[i]? = some (eb, en) := by rw [← hXl]; simp
          obtain ⟨r1, r2⟩ := rowE8_get _ _ _ hei
          have k1 := (own_at18 hbo r1).1
          have k2 := (own_at18 hbo r2).1
          dsimp only at k1 k2
          have hcb := hLI.c
          rw [HX.out.2.1, HX.out.2.2.1, ← HBs.out.1, ← HBs.out.2.1] at hcb
          have q1 := bl1 wr (.cells #[.bool eb, .int .i64 en] 151)
          have HLI1 : Hid (LkI w base Q (.slice (some ⟨g, 0, none⟩) L.length c) L (A0.map (lkB qs)) B' b (X0.map (lkX qs)) ((eb, en) :: Y') Cb x (wr.alloc (.cells #[.bool eb, .int .i64 en] 151))) := ⟨hLI.p.below q1, (q1.block _ (lt_16 hLI.c)).trans hLI.c⟩
          have mi : IntKind.i64.wrap ((i : Int) + 1) = ((i + 1 : Nat) : Int) := by rw [IntKind.wrap_i64]; have := HBb.out; push_cast; omega
          have HK2 : Hid (i + gk = bn ∧ i < bn) := ⟨hk2, by omega⟩
          have HRs := hid13 hres
          have HEs : Hid (b.es = (X0 ++ [(eb, en)]) ++ Y' ∧ (X0 ++ [(eb, en)]).length = i + 1) := ⟨by rw [hes]; simp, by rw [List.length_append, hXi]; rfl⟩
          have HEi : Hid ((X0.map (lkX qs) ++ (eb, en) :: Y')[i]? = some (eb, en) ∧ (X0.map (lkX qs)).length = i ∧ (X0.map (lkX qs) ++ (eb, en) :: Y').length = bn) := ⟨hei, hXl, hEl⟩
          clear hes hXi hres hLI hbo he2 hei r1 r2 hcb q1 hk2 HI2 hge hXl hEl
          cases eb with
          | false =>
            have HRs2 : Hid ((match lkI qs (b.a + 2 + (b.m.length : Int) + ((i + 1 : Nat) : Int)) Y' with | some p => some p | none => lkA qs B') = lkA qs P) := hid13 (by
              have := HRs.out
              unfold lkI at this
              rw [if_neg (by simp)] at this
              rw [← this, show b.a + 2 + (b.m.length : Int) + ((i + 1 : Nat) : Int) = b.a + 2 + (b.m.length : Int) + (i : Int) + 1 by omega])
            have HL2 : Hid (LkI w base Q (.slice (some ⟨g, 0, none⟩) L.length c) L (A0.map (lkB qs)) B' b ((X0 ++ [(false, en)]).map (lkX qs)) Y' Cb x (wr.alloc (.cells #[.bool false, .int .i64 en] 151))) := hid13 (by
              have := HLI1.out
              rw [List.map_append]
              refine ⟨?_, this.c⟩
              have h9 := this.p
              rw [List.append_assoc]
              exact h9)
            clear HRs HLI1
            go_wp2
            go_roundg (gk - 1)
            case measure => have := HK2.out; omega
            case rel => exact ⟨i + 1, _, _, by have := HK2.out; omega, rfl, hid13 ⟨HEs.out.1, HEs.out.2, HRs2.out, HL2.out⟩⟩
          | true =>
            have hpc0 := HLI1.out.p.c0
            have hnn : L.length = n := HN.out.symm
            have hsr := HLI1.out.p.b.sr
            have hmp : (A0.map (lkB qs) ++ { b with es := X0.map (lkX qs) ++ (true, en) :: Y' } :: B').map PB.a = qs := by
              rw [HQ.out.1, HPA.out.1]
              simp [lkB, Function.comp_def]
            rw [hmp] at hsr
            have hql : qs.length = n := by rw [HQ.out.1, List.length_map, HN.out, HQ.out.2.2.1]
            have KB := blockAt18 Q g c qs en _ (by rw [hql, ← hnn]; exact hpc0) hsr HQ.out.2.1 (by have := HQ.out.2.2.2; have := HQ.out.2.2.1; omega)
            clear hpc0 hsr hmp hnn
            go_wp2_with fail
            refine KB.mono ?_
            rintro e9 W3 ⟨⟨i3, bf, rfl, hf1, hf2⟩, hb3⟩
            have HL3 : Hid (LkI w base Q (.slice (some ⟨g, 0, none⟩) L.length c) L (A0.map (lkB qs)) B' b (X0.map (lkX qs)) ((true, en) :: Y') Cb x W3) := ⟨HLI1.out.p.below hb3, (hb3.block _ (lt_16 HLI1.out.c)).trans HLI1.out.c⟩
            clear KB HLI1 hb3 hql
            have hcb := HL3.out.c
            rw [HX.out.2.1, HX.out.2.2.1, ← HBs.out.1, ← HBs.out.2.1] at hcb
            have z0 := at_16 hcb 0 _ rfl
            have z1 := at_16 hcb 1 _ rfl
            have z2 := at_16 hcb 2 _ rfl
            have z3 := at_16 hcb 3 _ rfl
            clear k1 k2
            cases bf with
            | false =>
              have hfn := hf2 rfl
              have HRes : Hid (lkA qs P = some (ba + 2 + (bm : Int) + (i : Int))) := hid13 (by
                have := HRs.out
                unfold lkI at this
                rw [if_pos ⟨rfl, hfn⟩] at this
                rw [← this, HBs.out.1, HBs.out.2.2.1])
              have KP := placeOf18 ba bt so (some ⟨eg, 0, none⟩) bm sc bn ec (i : Int) W3 (by have := HBb.out; have := HK2.out; omega)
              have HLo := hid13 HL3.out.p
              clear hf1 hf2 hfn HRs HL3 hcb
              go_wp2_with fail
              refine KP.mono ?_
              rintro e8 W4 ⟨rfl, hb4⟩
              have HF := hid13 (HLo.out.lo.trans (hb4.mono HLo.out.sz))
              clear KP HLo hb4
              go_wp2
              exact bodyPost_ret (v := .tuple #[.int .i64 (ba + 2 + (bm : Int) + (i : Int)), .int .i64 26]) (by simp [results, Try.results76, go_sem]) rfl (LkQ.no HRes.out HF.out)
            | true =>
              obtain ⟨hfn, hil⟩ := hf1 rfl
              have HRs2 : Hid ((match lkI qs (b.a + 2 + (b.m.length : Int) + ((i + 1 : Nat) : Int)) Y' with | some p => some p | none => lkA qs B') = lkA qs P) := hid13 (by
                have := HRs.out
                unfold lkI at this
                rw [if_neg (fun q => by rw [hfn] at q; have := q.2; omega)] at this
                rw [← this, show b.a + 2 + (b.m.length : Int) + ((i + 1 : Nat) : Int) = b.a + 2 + (b.m.length : Int) + (i : Int) + 1 by omega])
              have hge : (A0.map (lkB qs) ++ { b with es := X0.map (lkX qs) ++ (true, en) :: Y' } :: B')[j]? = some { b with es := X0.map (lkX qs) ++ (true, en) :: Y' } := by rw [← HX.out.2.2.2]; simp
              have hln := HL3.out.p.lnk HX.out.1 hge (by rw [HX.out.2.2.1]; dsimp only; rw [HEi.out.2.2]) HEi.out.1 (i3 : Int)
              obtain ⟨csE, hcsE⟩ := own_typed18 (HL3.out.p.b.m j x _ HX.out.1 hge).2.2.2 eg (by rw [HX.out.2.2.1]; rfl)
              have hoo := (HL3.out.p.b.m j x _ HX.out.1 hge).2.2.2
              dsimp only at hoo
              rw [HEi.out.2.2, HX.out.2.2.1] at hoo
              have hre := (rowE8_get _ _ _ HEi.out.1).2
              obtain ⟨y1, y2⟩ := own_at18 hoo hre
              dsimp only at y1 y2
              have HL4 : Hid (LkI w base Q (.slice (some ⟨g, 0, none⟩) L.length c) L (A0.map (lkB qs)) B' b ((X0 ++ [(true, en)]).map (lkX qs)) Y' Cb x (W3.setCell ⟨eg, i * 2 + 1, none⟩ (.int .i64 (i3 : Int)))) := hid13 (by
                refine ⟨?_, (far_16 (fun q => ?_)).trans HL3.out.c⟩
                · have e1 : (A0.map (lkB qs) ++ { b with es := X0.map (lkX qs) ++ (true, en) :: Y' } :: B').set j { b with es := (X0.map (lkX qs) ++ (true, en) :: Y').set i (true, (i3 : Int)) } = A0.map (lkB qs) ++ { b with es := (X0 ++ [(true, en)]).map (lkX qs) ++ Y' } :: B' := by
                    have e2 : (X0.map (lkX qs) ++ (true, en) :: Y').set i (true, (i3 : Int)) = (X0 ++ [(true, en)]).map (lkX qs) ++ Y' := by
                      rw [← HEi.out.2.1]
                      simp [lkX, hfn]
                    rw [e2, ← HX.out.2.2.2]
                    simp
                  rw [← e1]
                  exact hln
                · have := HL3.out.c
                  rw [q, hcsE] at this
                  injection this with this
                  injection this with _ h3 _
                  exact absurd h3 (by decide))
              clear hf1 hf2 hfn HRs HL3 hcb hln hcsE hoo hre hge
              have hii : (i : Int) < (bn : Int) := by have := HK2.out; omega
              go_wp2
              go_roundg (gk - 1)
              case measure => have := HK2.out; omega
              case rel => exact ⟨i + 1, _, _, by have := HK2.out; omega, rfl, hid13 ⟨HEs.out.1, HEs.out.2, HRs2.out, HL4.out⟩⟩
        · have HFin : Hid (P = (A0 ++ [b]) ++ B' ∧ (A0 ++ [b]).length = j + 1 ∧ lkA qs B' = lkA qs P ∧ PgV w wr base Q (.slice (some ⟨g, 0, none⟩) L.length c) 0 0 L ((A0 ++ [b]).map (lkB qs) ++ B')) := hid13 (by
            have hYn : Y = [] := by
              have e1 := HI2.out.2.1
              rw [List.length_append, List.length_map, e1] at hEl
              exact List.eq_nil_of_length_eq_zero (by omega)
            obtain ⟨hes, hXi, hres, hLI⟩ := HI2.out
            rw [hYn] at hes hres hLI
            rw [List.append_nil] at hes
            refine ⟨by rw [HPA.out.1]; simp, by rw [List.length_append, HPA.out.2.1]; rfl, hres, ?_⟩
            have h9 := hLI.p
            rw [List.append_nil, ← hes] at h9
            rw [List.map_append]
            simp only [List.map_cons, List.map_nil, List.append_assoc, List.singleton_append]
            exact h9)
          clear HI2 hge hXl hEl hk2
          go_wp2
          go_roundg (GK - 1)
          case measure => have := HJ.out; omega
          case rel => exact ⟨j + 1, _, _, by have := HJ.out; omega, rfl, HFin⟩
    · have HFin : Hid (lkA qs P = none ∧ PgV w wr base Q (.slice (some ⟨g, 0, none⟩) L.length c) 0 0 L (P.map (lkB qs))) := hid13 (by
        obtain ⟨hPA, hjA, hlk, hpg⟩ := HI.out
        have hBn : B = [] := by
          have e2 : P.length = A0.length + B.length := by rw [hPA, List.length_append]
          have := HQ.out.2.2.1
          have := HN.out
          exact List.eq_nil_of_length_eq_zero (by omega)
        rw [hBn] at hPA hlk hpg
        rw [List.append_nil] at hPA hpg
        exact ⟨hlk.symm, by rw [hPA]; exact hpg⟩)
      clear HI hk
      go_wp2
      exact bodyPost_ret (v := .tuple #[.int .i64 0, .int .i64 0]) (by simp [results, Try.results76, go_sem]) rfl (LkQ.ok HFin.out.1 HFin.out.2)
end Go.Proofs.Ytjgpbahglkaijaa
