/-
  Part 24 of the proof: 13 texts, one behind the other.
-/
import Derived.Test.YtjgpbahglkaijaaPart15
import Derived.Test.YtjgpbahglkaijaaPart18
import Derived.Test.YtjgpbahglkaijaaPart5
import Derived.Test.YtjgpbahglkaijaaPart6
import Derived.Test.YtjgpbahglkaijaaPart19
import Derived.Test.YtjgpbahglkaijaaPart1
import Derived.ProofKit
import Derived.Deep.Slices
import Derived.Deep.Strs
import Derived.Carry
import Derived.SizedLaws
import Derived.Lib.SmallJoins
import Derived.Deep.RegionHeld3
import Derived.Deep.AppendLies
import Derived.Laws.AppendOwnNone
namespace Go.Proofs.Ytjgpbahglkaijaa
open Go.RowKit
set_option linter.unusedSimpArgs false
set_option linter.unusedVariables false

def setL (m : List (BitVec 32)) (p : Nat) : List Int := ((List.range' p (32 * m.length - p)).filter (plc m)).map (fun i : Nat => (i : Int))
theorem setL_end {m : List (BitVec 32)} {p : Nat} (h : 32 * m.length ≤ p) : setL m p = [] := by unfold setL; rw [show 32 * m.length - p = 0 by omega]; rfl
theorem setL_step {m : List (BitVec 32)} {p : Nat} (h : p < 32 * m.length) : setL m p = if plc m p = true then (p : Int) :: setL m (p + 1) else setL m (p + 1) := by
  unfold setL
  rw [show 32 * m.length - p = (32 * m.length - (p + 1)) + 1 by omega, List.range'_succ, List.filter_cons]
  split <;> simp
theorem setL_skip (m : List (BitVec 32)) : ∀ (n p : Nat), p + n ≤ 32 * m.length → (∀ j, p ≤ j → j < p + n → plc m j = false) → setL m p = setL m (p + n)
  | 0, p, _, _ => rfl
  | n + 1, p, h, hj => by
    rw [setL_step (by omega), if_neg (by rw [hj p (by omega) (by omega)]; simp), setL_skip m n (p + 1) (by omega) (fun j a b => hj j (by omega) (by omega)), show p + 1 + n = p + (n + 1) by omega]
theorem setL_len (m : List (BitVec 32)) : ∀ (n p : Nat), p + n = 32 * m.length → (setL m p).length + cnt m p = cnt m (32 * m.length)
  | 0, p, h => by rw [setL_end (by omega), ← h]; simp
  | n + 1, p, h => by
    have h1 := setL_len m n (p + 1) (by omega)
    rw [setL_step (by omega)]
    have e : cnt m (p + 1) = cnt m p + (plc m p).toNat := rfl
    rw [e] at h1
    cases hp : plc m p
    · rw [hp] at h1; simp at h1 ⊢; omega
    · rw [hp] at h1; simp at h1 ⊢; omega
theorem setL_all (m : List (BitVec 32)) : (setL m 0).length = sumW m m.length := by
  have h := setL_len m (32 * m.length) 0 (by omega)
  rw [cnt_words] at h
  have e : cnt m 0 = 0 := rfl
  omega
def LfQ (m : List (BitVec 32)) (k p : Nat) (x : BitVec 32) : Prop := 32 * k ≤ p ∧ p ≤ 32 * k + 32 ∧ ∀ i, i < 32 → bt x i = (plc m (32 * k + i) && decide (p ≤ 32 * k + i))
theorem lf_start (m : List (BitVec 32)) (k : Nat) : LfQ m k (32 * k) (m.getD k 0#32) := ⟨Nat.le_refl _, by omega, fun i hi => by
  unfold plc
  rw [show (32 * k + i) / 32 = k by omega, show (32 * k + i) % 32 = i by omega]
  simp⟩
theorem lf_end {m : List (BitVec 32)} {k p : Nat} (h : LfQ m k p 0#32) (hk : k < m.length) : setL m p = setL m (32 * (k + 1)) := by
  obtain ⟨h1, h2, h3⟩ := h
  have := setL_skip m (32 * k + 32 - p) p (by omega) (fun j a b => by
    have h4 := h3 (j - 32 * k) (by omega)
    rw [show 32 * k + (j - 32 * k) = j by omega] at h4
    have h0 : bt 0#32 (j - 32 * k) = false := by unfold bt; simp
    rw [h0] at h4
    simpa [a] using h4)
  rw [this, show p + (32 * k + 32 - p) = 32 * (k + 1) by omega]
theorem sub_bit (x t : BitVec 32) (h : x &&& t = t) : x - t = x &&& ~~~t := by
  have h0 : (x &&& ~~~t) &&& t = 0#32 := by
    apply BitVec.eq_of_getLsbD_eq
    intro i hi
    simp only [BitVec.getLsbD_and, BitVec.getLsbD_not, BitVec.getLsbD_zero]
    cases x.getLsbD i <;> cases t.getLsbD i <;> simp
  have h1 : (x &&& ~~~t) ||| t = x := by
    apply BitVec.eq_of_getLsbD_eq
    intro i hi
    have h2 := congrArg (fun y => y.getLsbD i) h
    simp only [BitVec.getLsbD_and] at h2
    simp only [BitVec.getLsbD_or, BitVec.getLsbD_and, BitVec.getLsbD_not]
    revert h2
    cases x.getLsbD i <;> cases t.getLsbD i <;> simp [hi]
  have h2 := BitVec.add_eq_or_of_and_eq_zero _ _ h0
  rw [h1] at h2
  calc x - t = (x &&& ~~~t) + t - t := by rw [h2]
    _ = x &&& ~~~t := by rw [BitVec.add_sub_cancel]
theorem tp_bit (k i : Nat) (hi : i < 32) : (tp k).getLsbD i = decide (k = i) := by
  unfold tp
  rw [BitVec.getLsbD_twoPow]
  by_cases c : k = i
  · subst c; simp [hi]
  · simp [c]
theorem bt_sub (x : BitVec 32) (q : Nat) (hq : q < 32) (h : bt x q = true) (i : Nat) (hi : i < 32) : bt (x - tp (31 - q)) i = (bt x i && decide (i ≠ q)) := by
  rw [sub_bit x (tp (31 - q)) (by
    apply BitVec.eq_of_getLsbD_eq
    intro j hj
    rw [BitVec.getLsbD_and, tp_bit _ _ hj]
    by_cases c : 31 - q = j
    · subst c
      have : x.getLsbD (31 - q) = true := h
      simp [this]
    · simp [c])]
  unfold bt
  rw [BitVec.getLsbD_and, BitVec.getLsbD_not, tp_bit _ _ (by omega)]
  by_cases c : i = q
  · subst c; simp
  · have c2 : ¬ 31 - q = 31 - i := by omega
    simp [c, c2]
    omega
theorem lf_hit {m : List (BitVec 32)} {k p q : Nat} {x : BitVec 32} (h : LfQ m k p x) (hk : k < m.length) (hq : FstP x q) : setL m p = ((32 * k + q : Nat) : Int) :: setL m (32 * k + q + 1) ∧ LfQ m k (32 * k + q + 1) (x - tp (31 - q)) := by
  obtain ⟨h1, h2, h3⟩ := h
  obtain ⟨q1, q2, q3⟩ := hq
  have hb := h3 q q1
  rw [q2] at hb
  have hb' := hb.symm
  simp only [Bool.and_eq_true, decide_eq_true_eq] at hb'
  constructor
  · have h5 := setL_skip m (32 * k + q - p) p (by omega) (fun j a b => by
      have h4 := h3 (j - 32 * k) (by omega)
      rw [show 32 * k + (j - 32 * k) = j by omega, q3 _ (by omega)] at h4
      simpa [a] using h4)
    rw [h5, show p + (32 * k + q - p) = 32 * k + q by omega, setL_step (by omega), if_pos hb'.1]
  · refine ⟨by omega, by omega, fun i hi => ?_⟩
    rw [bt_sub x q q1 q2 i hi, h3 i hi]
    by_cases c : i = q
    · subst c
      simp
    · by_cases d : i < q
      · have h4 := h3 i hi
        rw [q3 i d] at h4
        rw [← h4]
        have : ¬ 32 * k + q + 1 ≤ 32 * k + i := by omega
        simp [this]
      · have e1 : p ≤ 32 * k + i := by omega
        have e2 : 32 * k + q + 1 ≤ 32 * k + i := by omega
        simp [c, e1, e2]
theorem tp_uI (n : Nat) (h : n < 32) : (2 : Int) ^ n % 4294967296 = uI (tp n) := by
  rw [uI_eq]
  unfold tp
  rw [BitVec.toNat_twoPow, show (4294967296 : Int) = ((2 ^ 32 : Nat) : Int) by decide, show (2 : Int) ^ n = ((2 ^ n : Nat) : Int) by push_cast; rfl]
  exact (Int.natCast_emod _ _).symm
theorem sub32 (a b : BitVec 32) : IntKind.u32.wrap (uI a - uI b) = uI (a - b) := by
  have := a.isLt
  have := b.isLt
  rw [uI_eq, uI_eq, uI_eq, BitVec.toNat_sub]
  show (_ : Int) % (2 : Int) ^ 32 = _
  rw [show (2 : Int) ^ 32 = 4294967296 by decide]
  omega
theorem sub_lt32 (x : BitVec 32) (q : Nat) (hq : q < 32) (h : bt x q = true) : (uI (x - tp (31 - q))).toNat < (uI x).toNat := by
  have h1 : tp (31 - q) ≤ x := by
    rw [BitVec.le_def]
    unfold tp
    rw [BitVec.toNat_twoPow]
    have h2 : x.getLsbD (31 - q) = true := h
    have h3 := Nat.ge_two_pow_of_testBit h2
    have : (2 : Nat) ^ (31 - q) < 2 ^ 32 := Nat.pow_lt_pow_right (by decide) (by omega)
    rw [Nat.mod_eq_of_lt this]
    exact h3
  have h4 : 0 < (tp (31 - q)).toNat := by
    unfold tp
    rw [BitVec.toNat_twoPow, Nat.mod_eq_of_lt (Nat.pow_lt_pow_right (by decide) (by omega))]
    exact Nat.two_pow_pos _
  rw [uI_eq, uI_eq, Int.toNat_natCast, Int.toNat_natCast, BitVec.toNat_sub_of_le h1]
  rw [BitVec.le_def] at h1
  omega
theorem setL_lt (m : List (BitVec 32)) (p : Nat) : ∀ x ∈ setL m p, 0 ≤ x ∧ x < 32 * m.length := by
  intro x hx
  unfold setL at hx
  obtain ⟨i, hi, rfl⟩ := List.mem_map.mp hx
  have := List.mem_range'_1.mp (List.mem_filter.mp hi).1
  omega
theorem bsG_es (l : List Nat) : ∀ (f : Nat) (a : Int) (P : List PB), (∀ b ∈ P, b.es.length = sumW b.m b.m.length ∧ 1 ≤ b.es.length) → (bsG l f a P).2.2 = 0 → ∀ b ∈ (bsG l f a P).1, b.es.length = sumW b.m b.m.length ∧ 1 ≤ b.es.length
  | 0, a, P, hP, h => by unfold bsG; intro b hb; cases hb
  | f + 1, a, P, hP, h => by
    rw [bsG_succ] at h ⊢
    by_cases c1 : dcE l a ≠ 0
    · rw [if_pos c1] at h; exact absurd h c1
    rw [if_neg c1] at h ⊢
    by_cases c2 : (dcI l a).op ≠ 1
    · rw [if_pos c2] at h; exact absurd h (by simp)
    rw [if_neg c2] at h ⊢
    by_cases c3 : dcE l (a + 1) ≠ 0
    · rw [if_pos c3] at h; exact absurd h c3
    rw [if_neg c3] at h ⊢
    by_cases c4 : (dcI l (a + 1)).op ≠ 2
    · rw [if_pos c4] at h; exact absurd h (by simp)
    rw [if_neg c4] at h ⊢
    by_cases c5 : (dcI l (a + 1)).n ≠ (dcI l a).n
    · rw [if_pos c5] at h; exact absurd h (by simp)
    rw [if_neg c5] at h ⊢
    generalize hr : enG l (a + 1 + dcZ l (a + 1)) (sumW (dcI l (a + 1)).m (dcI l (a + 1)).m.length) 0 [] = r at *
    unfold bsF at h ⊢
    by_cases c6 : r.2.1 ≠ 0
    · rw [if_pos c6] at h; exact absurd h c6
    rw [if_neg c6] at h ⊢
    have hl : r.1.length = sumW (dcI l (a + 1)).m (dcI l (a + 1)).m.length := by
      have := (enG_ok l (a + 1 + dcZ l (a + 1)) (sumW (dcI l (a + 1)).m (dcI l (a + 1)).m.length) 0 [] (by rw [hr]; simpa using c6)).1
      rw [hr] at this
      simpa using this
    have hP2 : ∀ b ∈ P ++ [(⟨a, (dcI l a).n, (dcI l (a + 1)).m, prE (a + 1 + dcZ l (a + 1)) r.1⟩ : PB)], b.es.length = sumW b.m b.m.length ∧ 1 ≤ b.es.length := by
      intro b hb
      rcases List.mem_append.mp hb with q | q
      · exact hP b q
      · simp at q
        subst q
        dsimp only
        rw [prE_len, hl]
        exact ⟨rfl, ((dcF (by simpa using c3)).m2 (by simpa using c4)).2.2⟩
    by_cases c7 : a + 1 + dcZ l (a + 1) + ((sumW (dcI l (a + 1)).m (dcI l (a + 1)).m.length : Nat) : Int) < wds l
    · rw [if_pos c7] at h ⊢
      exact bsG_es l f _ _ hP2 h
    · rw [if_neg c7]
      exact hP2
end Go.Proofs.Ytjgpbahglkaijaa
namespace Go.Proofs.Ytjgpbahglkaijaa
open Go.RowKit Go.Shelf
set_option linter.unusedSimpArgs false
set_option linter.unusedVariables false
attribute [local go_sem] Oper.semAt_some

def encP (x : Int) : Array Value := #[.int .i64 x]
structure PlM (Z : Nat → Prop) (A : Nat) (ao : Option Addr) (c : Nat) (m : List (BitVec 32)) (W : World) : Prop where
  a : W.cell? ⟨A, 0, none⟩ = some (.slice ao m.length c)
  za : Z A
  r : RwX cU W (.slice ao m.length c) m
  zr : m ≠ [] → ∀ ad, ao = some ad → Z ad.block
theorem PlM.kz {Z : Nat → Prop} {A : Nat} {ao : Option Addr} {c : Nat} {m : List (BitVec 32)} {W W' : World} (h : PlM Z A ao c m W) (g : KZ Z W W') : PlM Z A ao c m W' := by
  refine ⟨kz_cell g h.za h.a, h.za, ?_, h.zr⟩
  obtain ⟨ao', c', e, hc, hr⟩ := h.r
  injection e with e1 e2 e3
  subst e1 e3
  refine ⟨ao, c, rfl, hc, ?_⟩
  rcases hr with hr | ⟨b, off, e, hr⟩
  · exact .inl hr
  · exact .inr ⟨b, off, e, fun j x hj => kz_cell g (h.zr (by rintro rfl; cases hj) _ e) (hr j x hj)⟩
theorem vplaces18 (ao : Option Addr) (n c : Nat) (w : World) :
    Calls Try.prog 79 #[.slice ao n c] w fun e w' => e = .returned (.func (.func 103) #[] #[.pointer (some ⟨w.heap.size, 0, none⟩)]) ∧ w' = w.alloc (.cells #[.slice ao n c] 73) := by
  have hmf : ∀ (fn : Fn) (first cap : Array Value) (w : World), (Instr.makeFunc fn first cap).run Try.prog w = .ok (.func fn first cap) w := fun _ _ _ _ => rfl
  go_enter Try.func79, Try.ntmps79
  go_wp2
  go_ret
  exact ⟨rfl, rfl⟩
set_option maxRecDepth 20000 in
set_option maxHeartbeats 16000000 in
theorem places1_any (n : Nat) (Z : Nat → Prop) (A : Nat) (ao : Option Addr) (c : Nat) (m : List (BitVec 32)) (hl : m.length ≤ 100000000) (Bd : Nat) (w : World) (hM : PlM Z A ao c m w) :
    SeqX n Try.prog 103 #[.pointer (some ⟨A, 0, none⟩)] encP (KZ Z) (fun ys => ys = setL m 0) (fun pre => pre <+: setL m 0) Bd w := by
  intro L J Jx W hW hB hJ hJx hY h0
  have HM := hid13 (hM.kz (kz_below hW))
  have HJ := hid13 hJ
  have HY := hid13 hY
  have H0 := hid13 h0
  have hmi : (m.length : Int) ≤ 100000000 := by omega
  have HL : Hid (m.length ≤ 100000000) := hl
  have a0 := HM.out.a
  have hL := fun (x : BitVec 32) (h : x ≠ 0#32) w => lead13_any x h w
  have HLd := hid13 hL
  clear hJ hJx hY h0 hM hL
  refine callsIn_of_wp Try.func103 rfl trivial ?_ rfl
  simp only [Try.ntmps103, List.size_toArray, List.length_cons, List.length_nil, Nat.reduceAdd, Nat.reduceSub, Array.replicate_succ, Array.replicate_zero, List.push_toArray, List.append_toArray, List.nil_append, List.cons_append]
  gi_wp2
  gi_loopw [8] (fun x8 wr => ∃ (k : Nat) (pre : List Int), k ≤ m.length ∧ x8 = .int .i64 (k : Int) ∧ Hid (pre ++ setL m (32 * k) = setL m 0) ∧ Hid (J pre wr) ∧ Hid (PlM Z A ao c m wr)) (fun x8 wr => m.length - (intOf13 x8).toNat)
  case atStart => exact ⟨0, [], Nat.zero_le _, rfl, hid13 rfl, H0, HM⟩
  case round =>
    clear H0 HM a0
    obtain ⟨k, pre, hk, rfl, HPr, HJw, HMw⟩ := hrel
    by_cases hlt : k < m.length
    · have hli : (k : Int) < (m.length : Int) := by omega
      obtain ⟨x, hx⟩ : ∃ x, m[k]? = some x := ⟨m[k], by simp [hlt]⟩
      obtain ⟨bb, off, hao, hcell⟩ : ∃ b off, ao = some ⟨b, off, none⟩ ∧ ∀ j x, m[j]? = some x → wr.cell? ⟨b, off + j, none⟩ = some (cU x) := by
        obtain ⟨ao', c', e, hc, hr⟩ := HMw.out.r
        injection e with e1 e2 e3
        subst e1
        rcases hr with h | h
        · rw [h] at hlt; simp at hlt
        · exact h
      subst hao
      have r0 := hcell k x hx
      unfold cU at r0
      have HLf : Hid (LfQ m k (32 * k) x) := hid13 (by
        have := lf_start m k
        rw [List.getD_eq_getElem?_getD, hx] at this
        exact this)
      have HK : Hid (k < m.length ∧ m.length ≤ 100000000) := ⟨hlt, hl⟩
      have mk : IntKind.i64.wrap ((k : Int) + 1) = ((k + 1 : Nat) : Int) := by rw [IntKind.wrap_i64]; omega
      clear hx hcell hk
      gi_wp2
      clear r0
      gi_loopw [4] (fun x4 wr => ∃ (p : Nat) (x : BitVec 32) (pre : List Int), x4 = .int .u32 (uI x) ∧ Hid (LfQ m k p x) ∧ Hid (pre ++ setL m p = setL m 0) ∧ Hid (J pre wr) ∧ Hid (PlM Z (A) (some ⟨bb, off, none⟩) c m wr)) (fun x4 wr => (intOf13 x4).toNat)
      case atStart => exact ⟨32 * k, x, pre, rfl, HLf, HPr, HJw, HMw⟩
      case round =>
        clear HLf HPr HJw HMw
        obtain ⟨p, x, pre, rfl, HLf, HPr, HJw, HMw⟩ := hrel
        by_cases hx0 : x = 0#32
        · subst hx0
          have h00 : uI 0#32 = 0 := uI_zero
          have HPr2 : Hid (pre ++ setL m (32 * (k + 1)) = setL m 0) := hid13 (by rw [← lf_end HLf.out HK.out.1]; exact HPr.out)
          clear HPr HLf
          rw [h00]
          gi_wp2
          go_roundw
          case rel => exact ⟨k + 1, pre, by have := HK.out; omega, rfl, HPr2, HJw, HMw⟩
          case measure =>
            have := HK.out
            first | (simp [intOf13]; omega) | (unfold intOf13; simp; omega)
        · have hxn : ¬ uI x = 0 := fun h => hx0 ((uI_is0 x).1 h)
          have KL := HLd.out x hx0
          clear hx0
          gi_wp2_with fail
          refine ⟨trivial, fun q => (by cases q), (callsIn_wide.2 (KL _)).mono ?_⟩
          rintro e w2 ⟨⟨q, rfl, hq⟩, hw2⟩
          subst hw2
          obtain ⟨hs, hlf⟩ := lf_hit HLf.out HK.out.1 hq
          have hq32 := hq.1
          have hqi : (q : Int) ≤ 31 := by omega
          have HLt := hid13 (sub_lt32 x q hq.1 hq.2.1)
          have HLf2 := hid13 hlf
          have HPr2 : Hid ((pre ++ [((32 * k + q : Nat) : Int)]) ++ setL m (32 * k + q + 1) = setL m 0) := hid13 (by rw [← HPr.out, hs]; simp)
          have HPx : Hid (pre ++ [((32 * k + q : Nat) : Int)] <+: setL m 0) := hid13 ⟨_, HPr2.out⟩
          obtain ⟨fn, tmps, assign, body, hy, hR⟩ := HY.out _ _ _ HJw.out HPx.out
          have e0 : ((32 * k + q : Nat) : Int) = (k : Int) * 32 + (q : Int) := by push_cast; omega
          rw [e0] at hy
          dsimp only [encP] at hy
          have m1 : IntKind.i64.wrap ((k : Int) * 32) = (k : Int) * 32 := by rw [IntKind.wrap_i64]; have := HK.out; omega
          have m2 : IntKind.i64.wrap ((k : Int) * 32 + (q : Int)) = (k : Int) * 32 + (q : Int) := by rw [IntKind.wrap_i64]; have := HK.out; omega
          obtain ⟨r, hr⟩ : ∃ r : Nat, r = 31 - q := ⟨_, rfl⟩
          have m3 : (31 : Int) - (q : Int) = (r : Int) := by omega
          have m4 : IntKind.i64.wrap (r : Int) = (r : Int) := by rw [IntKind.wrap_i64]; omega
          have m5 := tp_uI r (by omega)
          have m6 := sub32 x (tp r)
          rw [← hr] at HLt HLf2
          have hr31 : (r : Int) ≤ 31 := by omega
          clear KL hs hlf hq HPr HLf e0 hr hq32
          gi_wp2
          refine ⟨fun q => (by cases q), hR.mono ?_⟩
          rintro e W4 (⟨rfl, hJ4, hk4⟩ | ⟨rfl, hx4, -⟩)
          · have HM4 := hid13 (HMw.out.kz hk4)
            have HJ4 := hid13 hJ4
            clear hJ4 hk4 hy hR HMw HJw
            gi_wp2
            go_roundw
            case rel => exact ⟨32 * k + q + 1, _, _, rfl, HLf2, HPr2, HJ4, HM4⟩
            case measure => exact HLt.out
          · have HX4 := hid13 hx4
            clear hx4 hy hR HMw HJw
            gi_wp2
            exact bodyPost_ret (v := .tuple #[]) (by simp [results, Try.results103]) rfl ⟨⟨_, rfl⟩, .inr ⟨_, HPx.out, HX4.out⟩⟩
    · have HE : Hid (pre = setL m 0) := hid13 (by have := HPr.out; rw [setL_end (by omega), List.append_nil] at this; exact this)
      have hkm : k = m.length := by omega
      subst hkm
      clear HPr HMw
      gi_wp2
      go_end0
      exact ⟨⟨_, rfl⟩, .inl ⟨_, HE.out, HJw.out⟩⟩
end Go.Proofs.Ytjgpbahglkaijaa
namespace Go.Proofs.Ytjgpbahglkaijaa
open Go.RowKit
set_option linter.unusedSimpArgs false
set_option linter.unusedVariables false
attribute [local go_sem] Oper.semAt_some

end Go.Proofs.Ytjgpbahglkaijaa
namespace Go.Proofs.Ytjgpbahglkaijaa
set_option linter.unusedSimpArgs false
set_option linter.unusedVariables false

end Go.Proofs.Ytjgpbahglkaijaa
namespace Go.Proofs.Ytjgpbahglkaijaa
open Go.RowKit Go.Shelf
set_option linter.unusedSimpArgs false
set_option linter.unusedVariables false
attribute [local go_sem] Oper.semAt_some

end Go.Proofs.Ytjgpbahglkaijaa
namespace Go.Proofs.Ytjgpbahglkaijaa
open Go.RowKit Go.Shelf
set_option linter.unusedSimpArgs false
set_option linter.unusedVariables false
attribute [local go_sem] Oper.semAt_some

structure LdV (w : World) (C G cap : Nat) (code : List Nat) (vp : Value) (P : List Int) (W : World) : Prop where
  c : W.heap[C]? = some (.cells #[.slice (some ⟨G, 0, none⟩) code.length cap, vp] 105)
  o : W.ownsRow w.heap.size 5 1 (.slice (some ⟨G, 0, none⟩) code.length cap) code.length (code.map cB)
  p : W.ownsRow w.heap.size 3 1 vp P.length (P.map cI)
  b : Below w.heap.size w W
  nb : w.heap.size ≤ C ∧ w.heap.size ≤ G ∧ C ≠ G ∧ ∀ z, vp.ownBlock = some z → z ≠ C ∧ z ≠ G
section
variable {w W W' : World} {C G cap : Nat} {code : List Nat} {vp : Value} {P : List Int}
theorem LdV.below (h : LdV w C G cap code vp P W) (hb : Below W.heap.size W W') : LdV w C G cap code vp P W' := ⟨(hb.block _ (lt_16 h.c)).trans h.c, own_b13 hb h.o, own_b13 hb h.p, keepb hb h.b, h.nb⟩
theorem LdV.app (h : LdV w C G cap code vp P W) {x : List Nat} (ho : W'.ownsRow w.heap.size 5 1 (.slice (some ⟨G, 0, none⟩) (code.length + x.length) cap) (code.length + x.length) (code.map cB ++ x.map cB)) (hg : W.grownBy W' (some G)) : LdV w C G cap (code ++ x) vp P (W'.setCell ⟨C, 0, none⟩ (.slice (some ⟨G, 0, none⟩) (code.length + x.length) cap)) := by
  obtain ⟨n1, n2, n3, n4⟩ := h.nb
  have kp : W'.heap[C]? = some (.cells #[.slice (some ⟨G, 0, none⟩) code.length cap, vp] 105) := (hg.block _ (lt_16 h.c) (fun e => by injection e with e; exact n3 e)).trans h.c
  refine ⟨?_, ?_, ?_, ?_, n1, n2, n3, n4⟩
  · rw [set_16 kp]; simp
  · refine own_far16 ?_ _ (fun e => n3 (Option.some.inj (show some G = some C from e)).symm)
    rw [List.length_append, List.map_append]; exact ho
  · refine own_far16 (h.p.kept hg ?_) _ (fun e => (n4 _ e).1 rfl)
    cases hv : vp.ownBlock with
    | none => exact .inl rfl
    | some z => exact .inr (fun e => (n4 z hv).2 (Option.some.inj e))
  · exact (h.b.grown hg h.b.size (fun r e => by injection e with e; omega)).setCell (p := ⟨C, 0, none⟩) n1 _
end
end Go.Proofs.Ytjgpbahglkaijaa
namespace Go.Proofs.Ytjgpbahglkaijaa
open Go.RowKit Go.Shelf
set_option linter.unusedSimpArgs false
set_option linter.unusedVariables false
attribute [local go_sem] Oper.semAt_some

theorem KX.cell {X : Nat → Prop} {V U : World} (h : KX X V U) {z o : Nat} {u : Value} (hz : ¬ X z) (hc : V.cell? ⟨z, o, none⟩ = some u) : U.cell? ⟨z, o, none⟩ = some u := (World.cell?_of_block (a := ⟨z, o, none⟩) (h.2 z (cell_in hc) hz)).trans hc
end Go.Proofs.Ytjgpbahglkaijaa
namespace Go.Proofs.Ytjgpbahglkaijaa
open Go.RowKit Go.Shelf
set_option linter.unusedSimpArgs false
set_option linter.unusedVariables false
attribute [local go_sem] Oper.semAt_some

end Go.Proofs.Ytjgpbahglkaijaa
namespace Go.Proofs.Ytjgpbahglkaijaa
set_option linter.unusedSimpArgs false
set_option linter.unusedVariables false

end Go.Proofs.Ytjgpbahglkaijaa
namespace Go.Proofs.Ytjgpbahglkaijaa
open Go.RowKit Go.Shelf
set_option linter.unusedSimpArgs false
set_option linter.unusedVariables false
attribute [local go_sem] Oper.semAt_some

end Go.Proofs.Ytjgpbahglkaijaa
namespace Go.Proofs.Ytjgpbahglkaijaa
open Go.RowKit Go.Shelf
set_option linter.unusedSimpArgs false
set_option linter.unusedVariables false
attribute [local go_sem] Oper.semAt_some

end Go.Proofs.Ytjgpbahglkaijaa
namespace Go.Proofs.Ytjgpbahglkaijaa
open Go.ChangeShapes Go.WideShapes Go.ChangeAt Go.RowKit Go.Joins
set_option linter.unusedSimpArgs false
set_option linter.unusedVariables false

section
variable {H : Type} {enc : TypeId × Value → H} {w : World} {spare : Nat → Bool} {held : Bool}
def rowN (l : List Rn) : List Value := l.flatMap fun r => [.int .u64 (hI r.f), .int .u64 (lI r.f), .bool r.k, .int .i64 r.n]
end
end Go.Proofs.Ytjgpbahglkaijaa
namespace Go.Proofs.Ytjgpbahglkaijaa
open Go.RowKit
set_option linter.unusedSimpArgs false
set_option linter.unusedVariables false
attribute [local go_sem] Oper.semAt_some

def TwIn (w : World) (v : Value) (L : List Nde) : Prop := ∃ ao c, v = .slice ao L.length c ∧ L.length ≤ c ∧ (L = [] ∨ ∃ b off, ao = some ⟨b, off, none⟩ ∧ ∀ j d, L[j]? = some d → ∃ vr, w.cell? ⟨b, off + j * 2, none⟩ = some (.int .i64 d.b) ∧ w.cell? ⟨b, off + j * 2 + 1, none⟩ = some vr ∧ RowA w 4 vr d.r.length (rowN d.r))
theorem TwIn.below {w w' : World} {v : Value} {L : List Nde} (h : TwIn w v L) (hb : Below w.heap.size w w') : TwIn w' v L := by
  obtain ⟨ao, c, e, hc, h⟩ := h
  refine ⟨ao, c, e, hc, h.imp id ?_⟩
  rintro ⟨b, off, e, h⟩
  refine ⟨b, off, e, fun j d hj => ?_⟩
  obtain ⟨vr, h1, h2, h3⟩ := h j d hj
  exact ⟨vr, keepc hb h1, keepc hb h2, h3.below hb⟩
theorem rowN_get : ∀ (l : List Rn) (j : Nat) (r : Rn), l[j]? = some r → (rowN l)[j * 4]? = some (.int .u64 (hI r.f)) ∧ (rowN l)[j * 4 + 1]? = some (.int .u64 (lI r.f)) ∧ (rowN l)[j * 4 + 2]? = some (.bool r.k) ∧ (rowN l)[j * 4 + 3]? = some (.int .i64 r.n)
  | [], j, r, h => by simp at h
  | x :: l, 0, r, h => by
    simp at h
    subst h
    unfold rowN
    rw [List.flatMap_cons]
    exact ⟨rfl, rfl, rfl, rfl⟩
  | x :: l, j + 1, r, h => by
    have ih := rowN_get l j r (by simpa using h)
    have e : ∀ t, (rowN (x :: l))[(j + 1) * 4 + t]? = (rowN l)[j * 4 + t]? := fun t => by
      have : rowN (x :: l) = [Value.int .u64 (hI x.f), .int .u64 (lI x.f), .bool x.k, .int .i64 x.n] ++ rowN l := by unfold rowN; rw [List.flatMap_cons]
      rw [this, List.getElem?_append_right (by simp; omega)]
      congr 1
      simp; omega
    have e0 := e 0
    simp only [Nat.add_zero] at e0
    rw [e0, e, e, e]
    exact ih
theorem own_rwn16 {W : World} {base : Nat} {v : Value} {l : List Rn} (h : W.ownsRow base 58 4 v l.length (rowN l)) : RwN W v l := by
  by_cases hl : l = []
  · subst hl
    obtain ⟨ao, c, hv⟩ := own_form h
    exact ⟨ao, c, hv, Nat.zero_le _, .inl rfl⟩
  · have hp := List.length_pos_iff.mpr hl
    obtain ⟨g, c, hv, hc⟩ : ∃ g c, v = .slice (some ⟨g, 0, none⟩) l.length c ∧ l.length ≤ c := by
      rcases h.2 with ⟨-, h0⟩ | ⟨g, c, cur, e, -, -, h3, -⟩
      · omega
      · exact ⟨g, c, e, h3⟩
    subst hv
    refine ⟨_, c, rfl, hc, .inr ⟨g, 0, rfl, fun j r hj => ?_⟩⟩
    have hjl := (List.getElem?_eq_some_iff.mp hj).1
    obtain ⟨c0, c1, c2, c3⟩ := rowN_get l j r hj
    have q := fun t (ht : t < l.length * 4) => h.cellAt t ht
    rw [Nat.zero_add]
    exact ⟨(q _ (by omega)).trans c0, (q _ (by omega)).trans c1, (q _ (by omega)).trans c2, (q _ (by omega)).trans c3⟩
def rowD : List Nde → List Value → List Value
  | d :: L, v :: V => .int .i64 d.b :: v :: rowD L V
  | _, _ => []
theorem rowD_app : ∀ (L : List Nde) (V : List Value) (d : Nde) (v : Value), L.length = V.length → rowD (L ++ [d]) (V ++ [v]) = rowD L V ++ [.int .i64 d.b, v]
  | [], [], d, v, _ => rfl
  | x :: L, y :: V, d, v, h => by
    show _ :: _ :: rowD (L ++ [d]) (V ++ [v]) = _
    rw [rowD_app L V d v (by simpa using h)]; rfl
  | [], y :: V, d, v, h => by simp at h
  | x :: L, [], d, v, h => by simp at h
theorem rowD_get : ∀ (L : List Nde) (V : List Value) (j : Nat) (d : Nde) (v : Value), L[j]? = some d → V[j]? = some v → (rowD L V)[j * 2]? = some (.int .i64 d.b) ∧ (rowD L V)[j * 2 + 1]? = some v
  | [], V, j, d, v, h, _ => by simp at h
  | x :: L, [], j, d, v, _, h => by simp at h
  | x :: L, y :: V, 0, d, v, h1, h2 => by
    simp at h1 h2
    subst h1 h2
    exact ⟨rfl, rfl⟩
  | x :: L, y :: V, j + 1, d, v, h1, h2 => by
    have ih := rowD_get L V j d v (by simpa using h1) (by simpa using h2)
    have e0 : (j + 1) * 2 = j * 2 + 2 := by omega
    rw [e0]
    exact ih
theorem rwd_of {W : World} {base : Nat} {v : Value} {L : List Nde} {V : List Value} (h : W.ownsRow base 61 2 v L.length (rowD L V)) (hl : V.length = L.length) (hr : ∀ (j : Nat) (d : Nde) (vr : Value), L[j]? = some d → V[j]? = some vr → RwN W vr d.r) : RwD W v L := by
  by_cases hL : L = []
  · subst hL
    obtain ⟨ao, c, hv⟩ := own_form h
    exact ⟨ao, c, hv, Nat.zero_le _, .inl rfl⟩
  · have hp := List.length_pos_iff.mpr hL
    obtain ⟨g, c, hv, hc⟩ : ∃ g c, v = .slice (some ⟨g, 0, none⟩) L.length c ∧ L.length ≤ c := by
      rcases h.2 with ⟨-, h0⟩ | ⟨g, c, cur, e, -, -, h3, -⟩
      · omega
      · exact ⟨g, c, e, h3⟩
    subst hv
    refine ⟨_, c, rfl, hc, .inr ⟨g, 0, rfl, fun j d hj => ?_⟩⟩
    have hjl := (List.getElem?_eq_some_iff.mp hj).1
    have hvj : V[j]? = some V[j] := List.getElem?_eq_getElem (by omega)
    obtain ⟨c0, c1⟩ := rowD_get L V j d _ hj hvj
    rw [Nat.zero_add]
    exact ⟨V[j], (h.cellAt _ (by omega)).trans c0, (h.cellAt _ (by omega)).trans c1, hr j d _ hj hvj⟩
theorem Try.infoRn16 : (Try.prog.info? 58).map (fun i => (i.zero, i.size, i.bytes)) = some (some (.agg #[.int .u64 0, .int .u64 0, .bool false, .int .i64 0]), 4, 32) := by kernel_rfl
theorem Try.infoD16 : (Try.prog.info? 61).map (fun i => (i.zero, i.size, i.bytes)) = some (some (.agg #[.int .i64 0, .slice none 0 0]), 2, 32) := by kernel_rfl
theorem two_one16 (b : Int) (ao : Option Addr) (n c : Nat) : ∀ u ∈ [Value.int .i64 b, .slice ao n c], u.oneCell' = true := by
  intro u hu
  simp at hu
  rcases hu with h | h <;> subst h <;> rfl
end Go.Proofs.Ytjgpbahglkaijaa
