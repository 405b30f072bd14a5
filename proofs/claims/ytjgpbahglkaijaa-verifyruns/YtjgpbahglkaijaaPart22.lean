/-
  Part 22 of the proof: 4 texts, one behind the other.
-/
import Derived.Test.YtjgpbahglkaijaaPart21
import Derived.Test.YtjgpbahglkaijaaPart6
import Derived.Test.YtjgpbahglkaijaaPart3
import Derived.Test.YtjgpbahglkaijaaPart7
import Derived.Test.YtjgpbahglkaijaaPart18
import Derived.Test.YtjgpbahglkaijaaPart4
import Derived.Test.YtjgpbahglkaijaaPart5
namespace Go.Proofs.Ytjgpbahglkaijaa
open Go.RowKit
set_option linter.unusedSimpArgs false
set_option linter.unusedVariables false

theorem toNat_mk (i : Nat) (h : i < 18446744073709551616) : (mkW 0 (i : Int)).toNat = i := by
  have h1 := lI_mk 0 (i : Int) (by omega) (by omega)
  have h2 := hI_mk 0 (i : Int) (by omega) (by omega)
  rw [lIN] at h1
  rw [hIN] at h2
  have := (mkW 0 (i : Int)).isLt
  omega
theorem mem_zip : ∀ {S : List Int} {es : List (Bool × Int)} {r : Rn}, r ∈ S.zipWith rnZ es → ∃ x ∈ S, ∃ e ∈ es, r = rnZ x e
  | [], es, r, h => by simp at h
  | x :: S, [], r, h => by simp at h
  | x :: S, e :: es, r, h => by
    rw [List.zipWith_cons_cons] at h
    rcases List.mem_cons.mp h with rfl | q
    · exact ⟨x, by simp, e, by simp, rfl⟩
    · obtain ⟨y, hy, f, hf, rfl⟩ := mem_zip q
      exact ⟨y, by simp [hy], f, by simp [hf], rfl⟩
theorem adj_zip : ∀ (S : List Int) (es : List (Bool × Int)), S.length = es.length → S.Pairwise (· < ·) → (∀ x ∈ S, 0 ≤ x ∧ x < 1099511627776) → Adj es → adjG (S.zipWith rnZ es) = true
  | [], es, _, _, _, _ => by cases es <;> rfl
  | [x], [], _, _, _, _ => rfl
  | [x], e :: es, _, _, _, _ => rfl
  | x :: y :: S, [], h, _, _, _ => by simp at h
  | x :: y :: S, [e], h, _, _, _ => by simp at h
  | x :: y :: S, e :: g :: es, h, hs, hb, ha => by
    have ih := adj_zip (y :: S) (g :: es) (by simpa using h) (List.pairwise_cons.mp hs).2 (fun z hz => hb z (by simp [hz])) (adj_tail ha)
    have hx := hb x (by simp)
    have hy := hb y (by simp)
    have hxy : x < y := (List.pairwise_cons.mp hs).1 y (by simp)
    obtain ⟨X, rfl⟩ : ∃ X : Nat, x = (X : Int) := ⟨x.toNat, by omega⟩
    obtain ⟨Y, rfl⟩ : ∃ Y : Nat, y = (Y : Int) := ⟨y.toNat, by omega⟩
    have h1 : cmpZ (mkW 0 (X : Int)) (mkW 0 (Y : Int)) < 0 := by
      unfold cmpZ
      rw [toNat_mk X (by omega), toNat_mk Y (by omega), if_pos (by omega)]
      decide
    have h2 : smR (rnZ (X : Int) e) (rnZ (Y : Int) g) = false := by
      have := ha 0 e g rfl rfl
      obtain ⟨eb, en⟩ := e
      obtain ⟨gb, gn⟩ := g
      unfold smR rnZ
      dsimp only
      by_cases c : eb = gb
      · subst c
        have : en ≠ gn := fun q => this (by rw [q])
        simp [this]
      · simp [c]
    show ((decide (cmpZ (mkW 0 (X : Int)) (mkW 0 (Y : Int)) < 0) && !smR (rnZ (X : Int) e) (rnZ (Y : Int) g)) && adjG (List.zipWith rnZ ((Y : Int) :: S) (g :: es))) = true
    rw [ih, h2, decide_eq_true h1]
    rfl
theorem setL_up (m : List (BitVec 32)) (p : Nat) : (setL m p).Pairwise (· < ·) := by
  unfold setL
  rw [List.pairwise_map]
  refine List.Pairwise.imp (fun {a b} h => ?_) (List.Pairwise.filter _ (by first | exact List.pairwise_lt_range' | exact List.pairwise_lt_range' _ _ | exact List.pairwise_lt_range' _))
  exact Int.ofNat_lt.mpr h
theorem setL_two (m : List (BitVec 32)) (T : Nat) (h : isMapB m T = true) : ∀ x ∈ setL m 0, ∃ i : Nat, x = (i : Int) ∧ i < 2 ^ T := by
  intro x hx
  unfold setL at hx
  obtain ⟨i, hi, rfl⟩ := List.mem_map.mp hx
  obtain ⟨h1, h2⟩ := List.mem_filter.mp hi
  have h3 := List.mem_range'_1.mp h1
  refine ⟨i, rfl, ?_⟩
  obtain ⟨c1, c2⟩ := cnt_map m T h
  by_cases c : i < 2 ^ T
  · exact c
  · exfalso
    have a := cnt_mono m (2 ^ T) i (by omega)
    have b := cnt_mono m (i + 1) (32 * m.length) (by omega)
    have e : cnt m (i + 1) = cnt m i + (plc m i).toNat := rfl
    rw [h2] at e
    have e1 : true.toNat = 1 := rfl
    rw [e1] at e
    have := cnt_words m m.length
    omega
theorem plc_first (m : List (BitVec 32)) (T : Nat) (h : isMapB m T = true) : plc m 0 = true ∧ 0 < m.length := by
  unfold isMapB at h
  simp only [Bool.and_eq_true, decide_eq_true_eq] at h
  obtain ⟨h1, h2⟩ := h
  have h3 := mwN_lo T
  unfold topB at h2
  simp only [Bool.and_eq_true] at h2
  refine ⟨?_, by omega⟩
  unfold plc bt
  cases m with
  | nil => simp at h1; omega
  | cons x t => exact h2.1
theorem io_runs (m : List (BitVec 32)) (es : List (Bool × Int)) (T : Nat) (h : isMapB m T = true) (hT : T ≤ 24) (hl : es.length = sumW m m.length) (ha : Adj es) : ioB ⟨(T : Int), runsV m es⟩ = true := by
  obtain ⟨p1, p2⟩ := plc_first m T h
  have hS : (setL m 0).length = es.length := by rw [setL_all, hl]
  have h0 : setL m 0 = 0 :: setL m 1 := by rw [setL_step (by omega), if_pos p1]; rfl
  have h2 := setL_two m T h
  have hp : 2 ^ T ≤ 2 ^ 24 := Nat.pow_le_pow_right (by decide) hT
  cases es with
  | nil => rw [h0] at hS; simp at hS
  | cons e t =>
    have hr : runsV m (e :: t) = rnZ 0 e :: (setL m 1).zipWith rnZ t := by rw [runsV_eq, h0]; rfl
    cases hz : (runsV m (e :: t)).getLast? with
    | none =>
      rw [List.getLast?_eq_none_iff] at hz
      rw [hr] at hz
      cases hz
    | some z =>
      have hzm := List.mem_of_getLast? hz
      have hh : (runsV m (e :: t)).head? = some (rnZ 0 e) := by rw [hr]; rfl
      unfold ioB
      dsimp only
      rw [hh, hz]
      dsimp only
      have g1 : (rnZ 0 e).f = 0#128 := by show mkW 0 0 = 0#128; decide
      have g2 : adjG (runsV m (e :: t)) = true := by
        rw [runsV_eq]
        refine adj_zip _ _ hS (setL_up m 0) (fun x hx => ?_) ha
        obtain ⟨i, rfl, hi⟩ := h2 x hx
        omega
      have g3 : z.f >>> (T : Int).toNat = 0#128 := by
        rw [runsV_eq] at hzm
        obtain ⟨x, hx, f, hf, rfl⟩ := mem_zip hzm
        obtain ⟨i, rfl, hi⟩ := h2 x hx
        show mkW 0 (i : Int) >>> (T : Int).toNat = 0#128
        apply BitVec.eq_of_toNat_eq
        rw [BitVec.toNat_ushiftRight, toNat_mk i (by omega), Nat.shiftRight_eq_div_pow, Int.toNat_natCast, Nat.div_eq_of_lt hi]
        rfl
      rw [g1, g2, g3]
      rfl
theorem runs_zero (i N : Int) : ∀ (l : List Rn), (∀ r ∈ l, runE r i N = 0) → runsE i N l = 0
  | [], _ => rfl
  | r :: t, h => by
    unfold runsE
    rw [if_pos (h r (by simp))]
    exact runs_zero i N t (fun x hx => h x (by simp [hx]))
theorem nds_zero (N : Int) : ∀ (L : List Nde) (i : Nat), (∀ (k : Nat) (d : Nde), L[k]? = some d → ndeE d ((i + k : Nat) : Int) N = 0) → ndsE N i L = 0
  | [], i, _ => rfl
  | d :: t, i, h => by
    unfold ndsE
    rw [if_pos (by simpa using h 0 d rfl)]
    exact nds_zero N t (i + 1) (fun k e hk => by
      have := h (k + 1) e (by simpa using hk)
      rwa [show i + (k + 1) = i + 1 + k by omega] at this)
theorem nde_runs (m : List (BitVec 32)) (es : List (Bool × Int)) (T : Nat) (i N : Int) (h : isMapB m T = true) (hT1 : 1 ≤ T) (hT : T ≤ 24) (hl : es.length = sumW m m.length) (ha : Adj es) (he : ∀ e ∈ es, (e.1 = true → i < e.2 ∧ e.2 < N) ∧ (e.1 = false → 0 ≤ e.2 ∧ e.2 ≤ 65535)) : ndeE ⟨(T : Int), runsV m es⟩ i N = 0 := by
  unfold ndeE
  dsimp only
  have hA : argB (T : Int) N = true := by
    unfold argB bitsB
    have h1 : decide ((0 : Int) ≤ (T : Int)) = true := decide_eq_true (by omega)
    have h2 : decide ((T : Int) ≤ 128) = true := decide_eq_true (by omega)
    have h3 : decide ((T : Int) = 0) = false := decide_eq_false (by omega)
    rw [h1, h2, h3]; rfl
  rw [if_pos hA, if_pos (io_runs m es T h hT hl ha)]
  refine runs_zero i N _ (fun r hr => ?_)
  rw [runsV_eq] at hr
  obtain ⟨x, hx, e, hem, rfl⟩ := mem_zip hr
  obtain ⟨b, n⟩ := e
  have := he _ hem
  unfold runE rnZ
  dsimp only at this ⊢
  cases b
  · rw [if_neg (by simp), if_neg (by have := this.2 rfl; omega)]
  · rw [if_pos rfl, if_neg (by have := this.1 rfl; omega)]
theorem tree_ok {F : Int} {l : List Nat} (hx : ∀ b ∈ l, b < 256) (h : (vfR F l).2.2 = 0) : chkM F (trL l) = ((vfR F l).1, 0) := by
  have h0 := h
  unfold vfR at h
  by_cases c1 : F ≠ 32 ∧ F ≠ 128
  · rw [if_pos c1] at h; exact absurd h (by simp)
  rw [if_neg c1] at h
  have hF : fam F = true := by
    unfold fam
    by_cases q : F = 32
    · simp [q]
    · have : F = 128 := by omega
      simp [this]
  by_cases c2 : l.length = 0 ∨ l.length % 4 ≠ 0
  · rw [if_pos c2] at h; exact absurd h (by simp)
  rw [if_neg c2] at h
  by_cases hn : dcE l 0 = 0 ∧ (dcI l 0).op = 4
  · rw [if_pos hn] at h
    by_cases c3 : 4 < l.length
    · rw [if_pos c3] at h; exact absurd h (by simp)
    have hv : vfR F l = (0, 0, 0) := by unfold vfR; rw [if_neg c1, if_neg c2, if_pos hn, if_neg c3]
    rw [hv]
    unfold trL
    rw [if_pos hn]
    have hr := chk_rng (enc_dec l 0 hx hn.1).1
    rw [hn.2] at hr
    have hr1 : 0 ≤ (dcI l 0).n ∧ (dcI l 0).n ≤ 65535 := ⟨hr.1, hr.2⟩
    generalize (dcI l 0).n = n at *
    unfold chkM
    have e1 : nodesE (oneN n) = 0 := by
      unfold nodesE oneN
      rw [if_neg (by simp)]
      refine nds_zero _ _ 0 (fun k d hk => ?_)
      match k, hk with
      | 0, hk =>
        simp at hk
        subst hk
        unfold ndeE
        rw [if_pos (by rfl), if_pos (by rfl)]
        refine runs_zero _ _ _ (fun r hr => ?_)
        simp at hr
        subst hr
        unfold runE
        dsimp only
        rw [if_neg (by simp), if_neg (by omega)]
      | k + 1, hk => simp at hk
    have e2 : usedB (oneN n) = true := rfl
    have e3 : deepR F (oneN n) = (0, 0) := by
      unfold deepR oneN dpG
      rw [if_neg (by simp; omega)]
      rfl
    rw [if_pos hF, if_pos e1, if_pos e2, e3]
  · rw [if_neg hn] at h
    obtain ⟨o1, o2⟩ := vfP_ok h0 hn
    have hv : vfR F l = vfB F l := by unfold vfR; rw [if_neg c1, if_neg c2, if_neg hn]
    rw [hv]
    unfold vfB at h ⊢
    have hw : (0 : Int) < wds l := by unfold wds; omega
    by_cases c3 : (bsG l (l.length / 4) 0 []).2.2 ≠ 0
    · rw [if_pos c3] at h; exact absurd h c3
    have c4 : (bsG l (l.length / 4) 0 []).2.2 = 0 := by simpa using c3
    rw [if_neg c3] at h ⊢
    by_cases c5 : (lkR ((bsG l (l.length / 4) 0 []).1.map PB.a) (bsG l (l.length / 4) 0 []).1).2 ≠ 0
    · rw [if_pos c5] at h; exact absurd h c5
    rw [if_neg c5] at h ⊢
    by_cases c6 : (usR (vfP l)).2 ≠ 0
    · rw [if_pos c6] at h; exact absurd h c6
    rw [if_neg c6] at h ⊢
    obtain ⟨h1, h2⟩ := bsG_ok l (l.length / 4) 0 [] (by omega) hw (by unfold wds; omega) ⟨by simp, fun b hb => (by simp at hb)⟩ (fun b hb => (by simp at hb)) c4
    have h3 := bsG_all l PbR (blk_r l hx) (l.length / 4) 0 [] (fun b hb => (by simp at hb)) c4
    have h4 := lk_ok h1 (by simpa using c5)
    have hP : vfP l = (bsG l (l.length / 4) 0 []).1.map (lkB ((bsG l (l.length / 4) 0 []).1.map PB.a)) := rfl
    have hn9 : lkA ((bsG l (l.length / 4) 0 []).1.map PB.a) (bsG l (l.length / 4) 0 []).1 = none := by
      unfold lkR at c5
      cases hq : lkA ((bsG l (l.length / 4) 0 []).1.map PB.a) (bsG l (l.length / 4) 0 []).1 with
      | none => rfl
      | some p => rw [hq] at c5; exact absurd (show ((26 : Int) ≠ 0) by decide) c5
    have h5 := lkA_none _ _ hn9
    rw [← hP] at h4
    have hPl : (vfP l).length = (bsG l (l.length / 4) 0 []).1.length := by rw [hP, List.length_map]
    have hlen : ∀ b ∈ vfP l, b.es.length = sumW b.m b.m.length := fun b hb => (o2 b hb).1
    unfold trL
    rw [if_neg hn]
    have e1 : nodesE (ndsL (vfP l)) = 0 := by
      unfold nodesE
      have hln : (ndsL (vfP l)).length = (vfP l).length := by unfold ndsL; rw [List.length_map]
      rw [if_neg (fun q => by rw [q] at hln; simp at hln; omega)]
      refine nds_zero _ _ 0 (fun k d hk => ?_)
      rw [hln, Nat.zero_add]
      unfold ndsL at hk
      rw [List.getElem?_map] at hk
      cases hb : (vfP l)[k]? with
      | none => rw [hb] at hk; cases hk
      | some b =>
        rw [hb] at hk
        injection hk with hk
        subst hk
        have hbm := List.mem_of_getElem? hb
        have ob := o2 b hbm
        have ok := h4 b hbm
        have hb' := hb
        rw [hP, List.getElem?_map] at hb'
        cases hc : (bsG l (l.length / 4) 0 []).1[k]? with
        | none => rw [hc] at hb'; cases hb'
        | some c =>
          rw [hc] at hb'
          injection hb' with hb'
          have hcm := List.mem_of_getElem? hc
          obtain ⟨r1, r2, r3⟩ := h3 c hcm
          have hm : b.m = c.m := by rw [← hb']; rfl
          have ht : b.t = c.t := by rw [← hb']; rfl
          have hes : b.es = c.es.map (lkX ((bsG l (l.length / 4) 0 []).1.map PB.a)) := by rw [← hb']; rfl
          obtain ⟨T, hT⟩ : ∃ T : Nat, b.t = (T : Int) := ⟨b.t.toNat, by omega⟩
          show ndeE ⟨b.t, runsV b.m b.es⟩ _ _ = 0
          rw [hT]
          refine nde_runs b.m b.es T _ _ (by rw [hm]; rw [← ht, hT, Int.toNat_natCast] at r1; exact r1) (by omega) (by omega) ob.1 (by rw [hes]; exact lk_adj h1.s r2 (h5 c hcm)) (fun e he => ?_)
          have he0 := he
          rw [hes] at he
          obtain ⟨x, hxm, rfl⟩ := List.mem_map.mp he
          have hx3 := r3 x hxm
          obtain ⟨xb, xn⟩ := x
          cases xb
          · have : lkX ((bsG l (l.length / 4) 0 []).1.map PB.a) (false, xn) = (false, xn) := rfl
            rw [this]
            exact ⟨fun q => (by cases q), fun _ => hx3.2 rfl⟩
          · have e9 : lkX ((bsG l (l.length / 4) 0 []).1.map PB.a) (true, xn) = (true, fnB ((bsG l (l.length / 4) 0 []).1.map PB.a) xn) := rfl
            have hin := ok.2.2 _ he0 (by rw [e9])
            rw [e9] at hin ⊢
            refine ⟨fun _ => ⟨?_, hin.2⟩, fun q => (by cases q)⟩
            obtain ⟨i, i1, i2⟩ := fn_some h1.s (h5 c hcm _ hxm rfl)
            have hlt : c.a < xn := hx3.1 rfl
            show (k : Int) < fnB ((bsG l (l.length / 4) 0 []).1.map PB.a) xn
            dsimp only at i2
            rw [i2]
            have hk9 : ((bsG l (l.length / 4) 0 []).1.map PB.a)[k]? = some c.a := by rw [List.getElem?_map, hc]; rfl
            obtain ⟨k1, k2⟩ := List.getElem?_eq_some_iff.mp hk9
            obtain ⟨j1, j2⟩ := List.getElem?_eq_some_iff.mp i1
            dsimp only at j2
            by_cases q : i < k
            · have := List.pairwise_iff_getElem.mp h1.s i k j1 k1 q
              omega
            · by_cases q2 : i = k
              · subst q2
                omega
              · omega
    have e2 : usedB (ndsL (vfP l)) = true := used_ok (vfP l) (by omega) hlen (fun b hb e he q => (h4 b hb).2.2 e he q) (by simpa using c6)
    have e3 := deep_ms F (vfP l) (fun b hb => ⟨(h4 b hb).1.1, hlen b hb⟩) h
    unfold chkM
    rw [if_pos hF, if_pos e1, if_pos e2, e3]
end Go.Proofs.Ytjgpbahglkaijaa
namespace Go.Proofs.Ytjgpbahglkaijaa
open Go.RowKit
set_option linter.unusedSimpArgs false
set_option linter.unusedVariables false

structure Mc where
  pl : Int
  en : Bool
  hop : Int
  err : Int
  st : Int
  ex : Int
  ix : Int
  bt : Int
  hb : Int
  hn : Int
structure KM (B : Nat) (w w' : World) : Prop where
  lo : Below B w w'
  ot : KX (· = B) w w'
theorem KM.refl (B : Nat) (w : World) : KM B w w := ⟨Below.refl _ _, KX.refl _ _⟩
theorem KM.trans {B : Nat} {a b c : World} (h : KM B a b) (g : KM B b c) : KM B a c := ⟨h.lo.trans g.lo, h.ot.trans g.ot⟩
theorem KM.below {B : Nat} {a b c : World} (h : KM B a b) (hB : B < a.heap.size) (g : Below b.heap.size b c) : KM B a c := ⟨h.lo.trans (g.mono (by have := h.ot.1; omega)), h.ot.below g⟩
theorem KM.set {B o : Nat} {a b : World} (h : KM B a b) (u : Value) : KM B a (b.setCell ⟨B, o, none⟩ u) := ⟨h.lo.setCell (p := ⟨B, o, none⟩) (Nat.le_refl _) u, h.ot.set B o u (.inl rfl)⟩
theorem KM.setN {B N o : Nat} {a b : World} (h : KM B a b) (hB : B < a.heap.size) (hN : a.heap.size ≤ N) (u : Value) : KM B a (b.setCell ⟨N, o, none⟩ u) := ⟨h.lo.setCell (p := ⟨N, o, none⟩) (show B ≤ N by omega) u, h.ot.set N o u (.inr hN)⟩
end Go.Proofs.Ytjgpbahglkaijaa
namespace Go.Proofs.Ytjgpbahglkaijaa
open Go.RowKit
set_option linter.unusedSimpArgs false
set_option linter.unusedVariables false

def fdN (x : BitVec 128) (f n : Int) : Int := lI (readW x f n)
def exM (F : Int) (x : BitVec 128) (m : Mc) (n : Int) : Mc := if n > F - m.bt then m else { m with ex := m.ex + 1, bt := m.bt + n, pl := m.pl + 1, hb := n, hn := fdN x m.bt n }
def exE (F : Int) (m : Mc) (n : Int) : Int := if n > F - m.bt then 27 else 0
def ixM (m : Mc) (n : Int) (U : List (BitVec 32)) (z : Int) : Mc := if m.hb = n ∧ rkE U m.hn = 0 then { m with ix := m.ix + 1, pl := m.pl + z + (rkN U m.hn : Int) - 1, hb := 0, hn := 0 } else m
def ixE (m : Mc) (n : Int) (U : List (BitVec 32)) : Int := if m.hb = n then rkE U m.hn else 25
theorem fdN_lo (x : BitVec 128) (f n : Int) : 0 ≤ fdN x f n := lI_lo _
theorem fdN_hi (x : BitVec 128) (f n : Int) (h0 : 0 ≤ n) (h1 : n ≤ 24) : fdN x f n < 2 ^ n.toNat := by
  unfold fdN readW
  obtain ⟨k, rfl⟩ : ∃ k : Nat, n = (k : Int) := ⟨n.toNat, by omega⟩
  have e : (128 - (k : Int)).toNat = 128 - k := by omega
  rw [e, Int.toNat_natCast, lIN]
  generalize x <<< f.toNat = y
  have h : (y >>> (128 - k)).toNat < 2 ^ k := by
    rw [BitVec.toNat_ushiftRight, Nat.shiftRight_eq_div_pow, Nat.div_lt_iff_lt_mul (Nat.two_pow_pos _), ← Nat.pow_add, show k + (128 - k) = 128 by omega]
    exact y.isLt
  have h2 : (y >>> (128 - k)).toNat % 18446744073709551616 ≤ (y >>> (128 - k)).toNat := Nat.mod_le _ _
  have h3 : (((2 ^ k : Nat)) : Int) = 2 ^ k := by norm_cast
  rw [← h3]
  omega
end Go.Proofs.Ytjgpbahglkaijaa
namespace Go.Proofs.Ytjgpbahglkaijaa
open Go.RowKit
set_option linter.unusedSimpArgs false
set_option linter.unusedVariables false

theorem dc_map19 {l : List Nat} {a : Int} (h : dcE l a = 0) (ho : (dcI l a).op = 2) : (dcI l a).m.length = mwN (dcI l a).n.toNat := by
  obtain ⟨h1, h2, h3⟩ := dcE_stand h
  obtain ⟨k, rfl⟩ : ∃ k : Nat, a = (k : Int) := ⟨a.toNat, by omega⟩
  rw [Int.toNat_natCast] at h2 h3
  have hI : dcI l (k : Int) = ⟨insO l k, insN l k, (rdP l k).1⟩ := by unfold dcI; rw [if_pos h, Int.toNat_natCast]
  rw [hI] at ho ⊢
  dsimp only at ho ⊢
  unfold rdP at h3 ⊢
  split at h3
  case isFalse => cases h3
  rename_i hop
  rw [if_pos hop]
  split at h3
  case isFalse => cases h3
  rename_i hrm
  rw [if_pos hrm]
  split at h3
  case isFalse => cases h3
  rename_i htk
  rw [if_pos htk, if_pos ho]
  try rw [if_pos ho] at h3
  unfold rmP at h3 ⊢
  split at h3
  case isFalse => cases h3
  rename_i hs
  rw [if_pos hs]
  split at h3
  case isFalse => cases h3
  rename_i ht
  rw [if_pos ht]
  exact mpL_len _ _ _
theorem dc_err19 (l : List Nat) (a : Int) : dcE l a = 0 ∨ dcE l a = 1 ∨ dcE l a = 24 ∨ dcE l a = 25 ∨ dcE l a = 30 := by
  unfold dcE
  split
  · unfold rdP rmP
    repeat' split
    all_goals simp
  · simp
theorem dc_n4 {l : List Nat} {a : Int} (h : dcE l a = 0) (ho : (dcI l a).op = 4) : (dcI l a).n ≤ 65535 := by
  obtain ⟨h1, h2, h3⟩ := dcE_stand h
  obtain ⟨k, rfl⟩ : ∃ k : Nat, a = (k : Int) := ⟨a.toNat, by omega⟩
  rw [Int.toNat_natCast] at h2 h3
  have hI : dcI l (k : Int) = ⟨insO l k, insN l k, (rdP l k).1⟩ := by unfold dcI; rw [if_pos h, Int.toNat_natCast]
  rw [hI] at ho ⊢
  dsimp only at ho ⊢
  unfold rdP at h3
  split at h3
  case isFalse => cases h3
  split at h3
  case isFalse => cases h3
  split at h3
  case isFalse => cases h3
  rename_i htk
  unfold tkB at htk
  simp only [Bool.and_eq_true, decide_eq_true_eq] at htk
  have := htk.2
  unfold kHi at this
  rw [if_neg (by omega), if_pos ho] at this
  exact this
theorem dc_n3 {l : List Nat} {a : Int} (h : dcE l a = 0) (ho : (dcI l a).op ≠ 4) : 1 ≤ (dcI l a).n := by
  obtain ⟨h1, h2, h3⟩ := dcE_stand h
  obtain ⟨k, rfl⟩ : ∃ k : Nat, a = (k : Int) := ⟨a.toNat, by omega⟩
  rw [Int.toNat_natCast] at h2 h3
  have hI : dcI l (k : Int) = ⟨insO l k, insN l k, (rdP l k).1⟩ := by unfold dcI; rw [if_pos h, Int.toNat_natCast]
  rw [hI] at ho ⊢
  dsimp only at ho ⊢
  unfold rdP at h3
  split at h3
  case isFalse => cases h3
  split at h3
  case isFalse => cases h3
  split at h3
  case isFalse => cases h3
  rename_i htk
  unfold tkB at htk
  simp only [Bool.and_eq_true, decide_eq_true_eq] at htk
  have := htk.1
  unfold kLo at this
  rw [if_neg ho] at this
  exact this
noncomputable def doM (F : Int) (x : BitVec 128) (m : Mc) (i : Ins) (z : Int) : Mc :=
  if i.op = 1 then exM F x m i.n else if i.op = 2 then ixM m i.n i.m z else if i.op = 3 then { m with pl := m.pl + i.n, hb := 0, hn := 0 } else if i.op = 4 then { m with en := true, hop := i.n } else m
def doE (F : Int) (m : Mc) (i : Ins) : Int := if i.op = 1 then exE F m i.n else if i.op = 2 then ixE m i.n i.m else 0
noncomputable def stM (F : Int) (x : BitVec 128) (l : List Nat) (m : Mc) : Mc :=
  if dcE l m.pl ≠ 0 then { m with en := true, err := dcE l m.pl }
  else if doE F m (dcI l m.pl) ≠ 0 then { m with en := true, err := doE F m (dcI l m.pl) }
  else { doM F x m (dcI l m.pl) (dcZ l m.pl) with st := m.st + 1 }
noncomputable def goM (F : Int) (x : BitVec 128) (l : List Nat) : Nat → Mc → Mc
  | 0, m => m
  | k + 1, m => if m.en = true then m else goM F x l k (stM F x l m)
structure MOk (F L : Int) (m : Mc) : Prop where
  f : m.en = false → F = 32 ∨ F = 128
  p0 : 0 ≤ m.pl
  p1 : m.pl ≤ L + 33554432
  s0 : 0 ≤ m.st
  s1 : m.st ≤ L
  s2 : m.en = false → m.st ≤ m.pl
  e0 : 0 ≤ m.ex
  i0 : 0 ≤ m.ix
  ei : m.ex + m.ix ≤ m.st
  b0 : 0 ≤ m.bt
  b1 : m.en = false → m.bt ≤ F
  h0 : 0 ≤ m.hb
  h1 : m.hb ≤ 24
  n0 : 0 ≤ m.hn
  n1 : m.hn < 2 ^ m.hb.toNat
  o0 : 0 ≤ m.hop
  o1 : m.hop ≤ 65535
  er : m.err ≠ 0 → m.hop = 0
  go : m.en = false → m.err = 0 ∧ m.hop = 0
theorem MOk.hn24 {F L : Int} {m : Mc} (h : MOk F L m) : m.hn < 16777216 := by
  have h1 := h.n1
  have h2 := h.h1
  have h3 : (2 : Int) ^ m.hb.toNat ≤ 16777216 := by
    have h3 : 2 ^ m.hb.toNat ≤ 2 ^ 24 := Nat.pow_le_pow_right (by decide) (by omega)
    have h4 : ((2 ^ m.hb.toNat : Nat) : Int) ≤ ((2 ^ 24 : Nat) : Int) := Int.ofNat_le.2 h3
    have h5 : ((2 ^ m.hb.toNat : Nat) : Int) = 2 ^ m.hb.toNat := by norm_cast
    rw [h5] at h4
    exact h4
  omega
theorem stM_dc {F : Int} {x : BitVec 128} {l : List Nat} {m : Mc} (h : dcE l m.pl ≠ 0) : stM F x l m = { m with en := true, err := dcE l m.pl } := by unfold stM; rw [if_pos h]
theorem stM_do {F : Int} {x : BitVec 128} {l : List Nat} {m : Mc} (h : dcE l m.pl = 0) (h2 : doE F m (dcI l m.pl) ≠ 0) : stM F x l m = { m with en := true, err := doE F m (dcI l m.pl) } := by unfold stM; rw [if_neg (by simpa using h), if_pos h2]
theorem stM_ok {F : Int} {x : BitVec 128} {l : List Nat} {m : Mc} (h : dcE l m.pl = 0) (h2 : doE F m (dcI l m.pl) = 0) : stM F x l m = { doM F x m (dcI l m.pl) (dcZ l m.pl) with st := m.st + 1 } := by unfold stM; rw [if_neg (by simpa using h), if_neg (by simpa using h2)]
theorem ixE_ok {m : Mc} {n : Int} {U : List (BitVec 32)} (h : ixE m n U = 0) : m.hb = n ∧ rkE U m.hn = 0 := by
  unfold ixE at h
  split at h
  · exact ⟨‹_›, h⟩
  · cases h
theorem rkN_le (U : List (BitVec 32)) (i : Int) (h0 : 0 ≤ i) : (rkN U i : Int) ≤ i + 1 := by
  unfold rkN
  split
  · have := cnt_le U (i.toNat + 1); omega
  · simp; omega
inductive Did (F : Int) (x : BitVec 128) (l : List Nat) (m : Mc) : Prop
  | ext (n : Int) (hd : (dcI l m.pl).op = 1) (hn : (dcI l m.pl).n = n) (h0 : 1 ≤ n) (h1 : n ≤ 24) (hb : m.bt + n ≤ F) (e : stM F x l m = { m with ex := m.ex + 1, bt := m.bt + n, pl := m.pl + 1, hb := n, hn := fdN x m.bt n, st := m.st + 1 })
  | idx (z r : Int) (hd : (dcI l m.pl).op = 2) (hh : m.hb = (dcI l m.pl).n) (hk : rkE (dcI l m.pl).m m.hn = 0) (hr : r = (rkN (dcI l m.pl).m m.hn : Int)) (hz : z = dcZ l m.pl) (h0 : 2 ≤ z) (h1 : m.pl + z ≤ ((l.length / 4 : Nat) : Int)) (hr0 : 0 ≤ r) (hr1 : 0 ≤ m.hn → r ≤ m.hn + 1) (e : stM F x l m = { m with ix := m.ix + 1, pl := m.pl + z + r - 1, hb := 0, hn := 0, st := m.st + 1 })
  | jmp (n : Int) (hd : (dcI l m.pl).op = 3) (hn : (dcI l m.pl).n = n) (h0 : 1 ≤ n) (h1 : n ≤ 16777215) (e : stM F x l m = { m with pl := m.pl + n, hb := 0, hn := 0, st := m.st + 1 })
  | ret (n : Int) (hd : (dcI l m.pl).op = 4) (hn : (dcI l m.pl).n = n) (h0 : 0 ≤ n) (h1 : n ≤ 65535) (e : stM F x l m = { m with en := true, hop := n, st := m.st + 1 })
theorem did {F : Int} {x : BitVec 128} {l : List Nat} {m : Mc} (h : dcE l m.pl = 0) (h2 : doE F m (dcI l m.pl) = 0) : Did F x l m := by
  have D := dcF h
  have e := stM_ok (x := x) h h2
  rcases D.op with o | o | o | o
  · have hx := D.nx (by omega) (by omega)
    unfold doE at h2
    rw [if_pos o] at h2
    have hb : ¬ (dcI l m.pl).n > F - m.bt := fun q => by unfold exE at h2; rw [if_pos q] at h2; cases h2
    refine .ext _ o rfl hx.1 hx.2 (by omega) ?_
    rw [e]; unfold doM; rw [if_pos o]; unfold exM; rw [if_neg hb]
  · unfold doE at h2
    rw [if_neg (by omega), if_pos o] at h2
    have hi := ixE_ok h2
    have hm := D.m2 o
    have hz : dcZ l m.pl = 1 + ((dcI l m.pl).m.length : Int) := by unfold dcZ; rw [if_pos h]
    refine .idx _ _ o hi.1 hi.2 rfl rfl (by omega) (by rw [hz]; omega) (by omega) (fun q => rkN_le _ _ q) ?_
    rw [e]; unfold doM; rw [if_neg (by omega), if_pos o]; unfold ixM; rw [if_pos hi]
  · refine .jmp _ o rfl (dc_n3 h (by omega)) D.n1 ?_
    rw [e]; unfold doM; rw [if_neg (by omega), if_neg (by omega), if_pos o]
  · refine .ret _ o rfl D.n0 (dc_n4 h o) ?_
    rw [e]; unfold doM; rw [if_neg (by omega), if_neg (by omega), if_neg (by omega), if_pos o]
theorem doE_err (F : Int) (m : Mc) (i : Ins) : doE F m i = 0 ∨ doE F m i = 25 ∨ doE F m i = 27 ∨ doE F m i = 30 := by
  unfold doE exE ixE rkE
  repeat' split
  all_goals simp
theorem stM_mok {F L : Int} {x : BitVec 128} {l : List Nat} {m : Mc} (hL : L = ((l.length / 4 : Nat) : Int)) (h : MOk F L m) (he : m.en = false) : MOk F L (stM F x l m) := by
  have hg := h.go he
  by_cases h1 : dcE l m.pl = 0
  · have D := dcF h1
    have a1 := D.a1
    rw [← hL] at a1
    by_cases h2 : doE F m (dcI l m.pl) = 0
    · have hs := h.s2 he
      have hp := h.p1
      have p0 := h.p0
      have s0 := h.s0
      have e0 := h.e0
      have i0 := h.i0
      have ei := h.ei
      have b0 := h.b0
      have b1 := h.b1 he
      rcases did (x := x) h1 h2 with ⟨n, -, -, n0, n1, nb, e⟩ | ⟨z, r, -, -, -, hr, hz, z0, z1, r0, r1, e⟩ | ⟨n, -, -, n0, n1, e⟩ | ⟨n, -, -, n0, n1, e⟩
      · rw [e]
        exact ⟨h.f, by dsimp only; omega, by dsimp only; omega, by dsimp only; omega, by dsimp only; omega, fun _ => by dsimp only; omega, by dsimp only; omega, h.i0, by dsimp only; omega, by dsimp only; omega, fun _ => nb, by dsimp only; omega, n1, fdN_lo _ _ _, fdN_hi _ _ _ (by omega) n1, h.o0, h.o1, h.er, h.go⟩
      · have r2 := r1 h.n0
        have h24 := h.hn24
        rw [e]
        rw [← hL] at z1
        exact ⟨h.f, by dsimp only; omega, by dsimp only; omega, by dsimp only; omega, by dsimp only; omega, fun _ => by dsimp only; omega, h.e0, by dsimp only; omega, by dsimp only; omega, h.b0, h.b1, by dsimp only; omega, by dsimp only; omega, by dsimp only; omega, by dsimp only; decide, h.o0, h.o1, h.er, h.go⟩
      · rw [e]
        exact ⟨h.f, by dsimp only; omega, by dsimp only; omega, by dsimp only; omega, by dsimp only; omega, fun _ => by dsimp only; omega, h.e0, h.i0, by dsimp only; omega, h.b0, h.b1, by dsimp only; omega, by dsimp only; omega, by dsimp only; omega, by dsimp only; decide, h.o0, h.o1, h.er, h.go⟩
      · rw [e]
        exact ⟨fun q => (by cases q), h.p0, h.p1, by dsimp only; omega, by dsimp only; omega, fun q => (by cases q), h.e0, h.i0, by dsimp only; omega, h.b0, fun q => (by cases q), h.h0, h.h1, h.n0, h.n1, n0, n1, fun q => absurd hg.1 q, fun q => (by cases q)⟩
    · rw [stM_do h1 h2]
      exact ⟨fun q => (by cases q), h.p0, h.p1, h.s0, h.s1, fun q => (by cases q), h.e0, h.i0, h.ei, h.b0, fun q => (by cases q), h.h0, h.h1, h.n0, h.n1, h.o0, h.o1, fun _ => hg.2, fun q => (by cases q)⟩
  · rw [stM_dc h1]
    exact ⟨fun q => (by cases q), h.p0, h.p1, h.s0, h.s1, fun q => (by cases q), h.e0, h.i0, h.ei, h.b0, fun q => (by cases q), h.h0, h.h1, h.n0, h.n1, h.o0, h.o1, fun _ => hg.2, fun q => (by cases q)⟩
theorem goM_en {F : Int} {x : BitVec 128} {l : List Nat} {m : Mc} (h : m.en = true) : ∀ k, goM F x l k m = m
  | 0 => rfl
  | k + 1 => by unfold goM; rw [if_pos h]
theorem goM_go {F : Int} {x : BitVec 128} {l : List Nat} {m : Mc} (h : m.en = false) (k : Nat) : goM F x l (k + 1) m = goM F x l k (stM F x l m) := by
  rw [goM, if_neg (by rw [h]; decide)]
theorem goM_add (F : Int) (x : BitVec 128) (l : List Nat) : ∀ (j k : Nat) (m : Mc), goM F x l (j + k) m = goM F x l k (goM F x l j m)
  | 0, k, m => by rw [Nat.zero_add]; rfl
  | j + 1, k, m => by
    cases h : m.en with
    | true => rw [goM_en h, goM_en h, goM_en h]
    | false => rw [show j + 1 + k = (j + k) + 1 by omega, goM_go h, goM_go h, goM_add F x l j k]
theorem goM_mok {F L : Int} {x : BitVec 128} {l : List Nat} (hL : L = ((l.length / 4 : Nat) : Int)) : ∀ (k : Nat) (m : Mc), MOk F L m → MOk F L (goM F x l k m)
  | 0, m, h => h
  | k + 1, m, h => by
    cases he : m.en with
    | true => rw [goM_en he]; exact h
    | false => rw [goM_go he]; exact goM_mok hL k _ (stM_mok hL h he)
theorem stM_st {F : Int} {x : BitVec 128} {l : List Nat} {m : Mc} (he : m.en = false) : (stM F x l m).st = m.st + 1 ∧ (stM F x l m).err = m.err ∧ ((stM F x l m).en = true → (stM F x l m).pl = m.pl) ∨ ((stM F x l m).st = m.st ∧ (stM F x l m).en = true ∧ (stM F x l m).err ≠ 0 ∧ (stM F x l m).err ≠ 6 ∧ (stM F x l m).err ≠ 29 ∧ (stM F x l m).err ≠ 11 ∧ stM F x l m = { m with en := true, err := (stM F x l m).err }) := by
  by_cases h1 : dcE l m.pl = 0
  · by_cases h2 : doE F m (dcI l m.pl) = 0
    · left
      rcases did (x := x) h1 h2 with ⟨n, -, -, n0, n1, nb, e⟩ | ⟨z, r, -, -, -, hr, hz, z0, z1, r0, r1, e⟩ | ⟨n, -, -, n0, n1, e⟩ | ⟨n, -, -, n0, n1, e⟩
      · rw [e]; exact ⟨rfl, rfl, fun q => by rw [he] at q; cases q⟩
      · rw [e]; exact ⟨rfl, rfl, fun q => by rw [he] at q; cases q⟩
      · rw [e]; exact ⟨rfl, rfl, fun q => by rw [he] at q; cases q⟩
      · rw [e]; exact ⟨rfl, rfl, fun _ => rfl⟩
    · right
      rw [stM_do h1 h2]
      have := doE_err F m (dcI l m.pl)
      exact ⟨rfl, rfl, h2, by dsimp only; omega, by dsimp only; omega, by dsimp only; omega, rfl⟩
  · right
    rw [stM_dc h1]
    have := dc_err19 l m.pl
    exact ⟨rfl, rfl, h1, by dsimp only; omega, by dsimp only; omega, by dsimp only; omega, rfl⟩
theorem goM_cnt {F : Int} {x : BitVec 128} {l : List Nat} : ∀ (k : Nat) (m : Mc), (goM F x l k m).en = false → m.en = false ∧ (goM F x l k m).st = m.st + (k : Int)
  | 0, m, h => ⟨h, by simp [goM]⟩
  | k + 1, m, h => by
    cases he : m.en with
    | true => rw [goM_en he, he] at h; cases h
    | false =>
      rw [goM_go he] at h ⊢
      obtain ⟨h1, h2⟩ := goM_cnt k _ h
      refine ⟨rfl, ?_⟩
      rcases stM_st (F := F) (x := x) (l := l) he with ⟨q, -⟩ | ⟨-, q, -⟩
      · rw [h2, q]; push_cast; omega
      · rw [h1] at q; cases q
theorem goM_more {F : Int} {x : BitVec 128} {l : List Nat} {m : Mc} {j k : Nat} (h : (goM F x l j m).en = true) (hk : j ≤ k) : goM F x l k m = goM F x l j m := by
  obtain ⟨d, rfl⟩ : ∃ d, k = j + d := ⟨k - j, by omega⟩
  rw [goM_add, goM_en h]
def mc0 (E : Int) : Mc := if E = 0 then ⟨0, false, 0, 0, 0, 0, 0, 0, 0, 0⟩ else ⟨0, true, 0, E, 0, 0, 0, 0, 0, 0⟩
theorem mc0_ok {F L E : Int} (hL : 0 ≤ L) (hF : E = 0 → F = 32 ∨ F = 128) : MOk F L (mc0 E) := by
  unfold mc0
  split
  · rename_i h
    have hf := hF h
    exact ⟨fun _ => hf, by simp, by dsimp only; omega, by simp, hL, fun _ => by simp, by simp, by simp, by simp, by simp, fun _ => by dsimp only; omega, by simp, by simp, by simp, by simp, by simp, by simp, fun q => by simp at q, fun _ => ⟨rfl, rfl⟩⟩
  · exact ⟨fun q => (by cases q), by simp, by dsimp only; omega, by simp, hL, fun q => (by cases q), by simp, by simp, by simp, by simp, fun q => (by cases q), by simp, by simp, by simp, by simp, by simp, by simp, fun _ => rfl, fun q => (by cases q)⟩
noncomputable def ruM (F : Int) (x : BitVec 128) (l : List Nat) (E : Int) (k : Nat) : Mc := if (goM F x l k (mc0 E)).en = true then goM F x l k (mc0 E) else { goM F x l k (mc0 E) with en := true, err := 29 }
end Go.Proofs.Ytjgpbahglkaijaa
