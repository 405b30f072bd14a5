/-
  Part 11 of the proof: 4 texts, one behind the other.
-/
import Derived.Test.YtdgmfdfhbhmppaaDoorPart10
import Derived.Test.YtdgmfdfhbhmppaaDoorPart7
/-
  Plain facts: what Split tells, one by one.
-/
namespace Go.Proofs.YtdgmfdfhbhmppaaDoor
open Go.RowKit
set_option linter.unusedSimpArgs false
set_option linter.unusedVariables false

theorem ris_get (st : BitVec 128) : ∀ (n : Nat) (x : BitVec 128) (k : Nat), k ≤ n → (ris st n x)[k]? = some (x + BitVec.ofNat 128 (k * st.toNat))
  | 0, x, k, h => by
    obtain rfl : k = 0 := by omega
    simp [ris]
  | n + 1, x, 0, h => by simp [ris]
  | n + 1, x, k + 1, h => by
    rw [ris, List.getElem?_cons_succ, ris_get st n (x + st) k (by omega)]
    congr 1
    apply BitVec.eq_of_toNat_eq
    simp only [BitVec.toNat_add, BitVec.toNat_ofNat, Nat.add_mod_mod, Nat.mod_add_mod]
    rw [Nat.succ_mul]
    congr 1
    omega
/-- The k-th one. -/
def xk (px : BitVec 128) (nn : Int) (k : Nat) : BitVec 128 := px + BitVec.ofNat 128 (k * 2 ^ (128 - nn.toNat))
theorem room6 (F : Int) (hf : fam F = true) (px : BitVec 128) (pl : Int) (h : Rt F px pl) : px.toNat + 2 ^ (128 - pl.toNat) ≤ 2 ^ 128 := rt_room F px pl h (fam_bd6 F hf).2
theorem xk_nat (F : Int) (hf : fam F = true) (px : BitVec 128) (pl nn : Int) (h : Rt F px pl) (h1 : pl ≤ nn) (h2 : nn ≤ F) (k : Nat) (hk : k < 2 ^ (nn - pl).toNat) : (xk px nn k).toNat = px.toNat + k * 2 ^ (128 - nn.toNat) ∧ k * 2 ^ (128 - nn.toNat) + 2 ^ (128 - nn.toNat) ≤ 2 ^ (128 - pl.toNat) := by
  have hF := (fam_bd6 F hf).2
  have h0 := h.1
  have r := room6 F hf px pl h
  have e3 : 2 ^ (nn - pl).toNat * 2 ^ (128 - nn.toNat) = 2 ^ (128 - pl.toNat) := by
    rw [← Nat.pow_add]
    congr 1
    omega
  have le : (k + 1) * 2 ^ (128 - nn.toNat) ≤ 2 ^ (nn - pl).toNat * 2 ^ (128 - nn.toNat) := Nat.mul_le_mul_right _ hk
  rw [e3, Nat.succ_mul] at le
  have s1 : 0 < 2 ^ (128 - nn.toNat) := Nat.pow_pos (by decide)
  refine ⟨?_, le⟩
  unfold xk
  rw [BitVec.toNat_add, BitVec.toNat_ofNat, Nat.add_mod_mod, Nat.mod_eq_of_lt (by omega)]
theorem xk_rt (F : Int) (hf : fam F = true) (px : BitVec 128) (pl nn : Int) (h : Rt F px pl) (h1 : pl ≤ nn) (h2 : nn ≤ F) (k : Nat) (hk : k < 2 ^ (nn - pl).toNat) : Rt F (xk px nn k) nn := by
  have h0 := h.1
  obtain ⟨a, b⟩ := xk_nat F hf px pl nn h h1 h2 k hk
  refine ⟨by omega, h2, (cut_dvd _ _).mpr ?_⟩
  rw [a]
  exact Nat.dvd_add (Nat.dvd_trans (Nat.pow_dvd_pow 2 (by omega)) ((cut_dvd px pl).mp h.2.2)) (Nat.dvd_mul_left _ _)
theorem xk_next (F : Int) (hf : fam F = true) (px : BitVec 128) (pl nn : Int) (h : Rt F px pl) (h1 : pl ≤ nn) (h2 : nn ≤ F) (k : Nat) (hk : k + 1 < 2 ^ (nn - pl).toNat) : lastW F (xk px nn k) nn + putW 0#128 (F - 1) 1 = xk px nn (k + 1) := by
  have hF := (fam_bd6 F hf).2
  obtain ⟨a, b⟩ := xk_nat F hf px pl nn h h1 h2 k (by omega)
  obtain ⟨a', b'⟩ := xk_nat F hf px pl nn h h1 h2 (k + 1) hk
  have l := last_nat F _ _ (xk_rt F hf px pl nn h h1 h2 k (by omega)) hF
  have s := step_nat F hf
  have r := room6 F hf px pl h
  rw [put_step F hf]
  apply BitVec.eq_of_toNat_eq
  rw [BitVec.toNat_add, s, a', Nat.succ_mul]
  rw [Nat.succ_mul] at b'
  rw [Nat.mod_eq_of_lt (by omega)]
  omega
theorem xk_last (F : Int) (hf : fam F = true) (px : BitVec 128) (pl nn : Int) (h : Rt F px pl) (h1 : pl ≤ nn) (h2 : nn ≤ F) (k : Nat) (hk : k + 1 = 2 ^ (nn - pl).toNat) : lastW F (xk px nn k) nn = lastW F px pl := by
  have hF := (fam_bd6 F hf).2
  have h0 := h.1
  obtain ⟨a, b⟩ := xk_nat F hf px pl nn h h1 h2 k (by omega)
  have l := last_nat F _ _ (xk_rt F hf px pl nn h h1 h2 k (by omega)) hF
  have l2 := last_nat F _ _ h hF
  have e3 : 2 ^ (nn - pl).toNat * 2 ^ (128 - nn.toNat) = 2 ^ (128 - pl.toNat) := by
    rw [← Nat.pow_add]
    congr 1
    omega
  rw [← hk, Nat.succ_mul] at e3
  exact BitVec.eq_of_toNat_eq (by omega)
theorem xk_within (F : Int) (hf : fam F = true) (px : BitVec 128) (pl nn : Int) (h : Rt F px pl) (h1 : pl ≤ nn) (h2 : nn ≤ F) (k : Nat) (hk : k < 2 ^ (nn - pl).toNat) : withinB (xk px nn k) nn px pl = true := by
  have h0 := h.1
  obtain ⟨a, b⟩ := xk_nat F hf px pl nn h h1 h2 k hk
  have hd := (cut_dvd px pl).mp h.2.2
  have s1 : 0 < 2 ^ (128 - nn.toNat) := Nat.pow_pos (by decide)
  have s2 : 0 < 2 ^ (128 - pl.toNat) := Nat.pow_pos (by decide)
  have hc : cutW (xk px nn k) pl = px := by
    apply BitVec.eq_of_toNat_eq
    rw [cut_nat, a]
    obtain ⟨c, hc⟩ := hd
    rw [hc, Nat.mul_add_div s2, Nat.div_eq_of_lt (by omega), Nat.add_zero, Nat.mul_comm]
  unfold withinB
  simp [hc]
  try omega
/-- Which one comes when so many have come. -/
theorem sp_at (F : Int) (hf : fam F = true) (px : BitVec 128) (pl nn : Int) (h : Rt F px pl) (h1 : pl ≤ nn) (h2 : nn ≤ F) (hc : checkE F px pl = 0) (pre : List (BitVec 128 × Int)) (x : BitVec 128 × Int) (hp : pre ++ [x] <+: spL F px pl nn) : pre.length < 2 ^ (nn - pl).toNat ∧ x = (xk px nn pre.length, nn) := by
  have hF := (fam_bd6 F hf).2
  have h0 := h.1
  have p2 : 0 < 2 ^ (nn - pl).toNat := Nat.pow_pos (by decide)
  rw [spL, if_pos ⟨hc, h1, h2⟩] at hp
  have hl := hp.length_le
  rw [List.length_map, ris_len, List.length_append, List.length_singleton] at hl
  refine ⟨by omega, ?_⟩
  obtain ⟨t, ht⟩ := hp
  have e : (((ris (bit1 (nn - 1)) (2 ^ (nn - pl).toNat - 1) px).map (fun w => (w, nn))))[pre.length]? = some x := by
    rw [← ht]
    simp
  rw [List.getElem?_map, ris_get _ _ _ _ (by omega)] at e
  simp only [Option.map_some, Option.some.injEq] at e
  rw [← e]
  unfold xk
  by_cases q : nn = 0
  · have : pre.length = 0 := by
      have e0 : (nn - pl).toNat = 0 := by omega
      have e1 : 2 ^ (nn - pl).toNat = 1 := by rw [e0]
      omega
    rw [this, Nat.zero_mul, Nat.zero_mul]
  · have hst : (bit1 (nn - 1)).toNat = 2 ^ (128 - nn.toNat) := by
      rw [bit1_nat (nn - 1) (by omega) (by omega)]
      congr 1
      omega
    rw [hst]
theorem sp_len (F : Int) (px : BitVec 128) (pl nn : Int) (h1 : pl ≤ nn) (h2 : nn ≤ F) (hc : checkE F px pl = 0) : (spL F px pl nn).length = 2 ^ (nn - pl).toNat := by
  have p2 : 0 < 2 ^ (nn - pl).toNat := Nat.pow_pos (by decide)
  rw [spL, if_pos ⟨hc, h1, h2⟩, List.length_map, ris_len]
  omega
end Go.Proofs.YtdgmfdfhbhmppaaDoor
/-
  A sequence is not nil.
-/
namespace Go.Proofs.YtdgmfdfhbhmppaaDoor
open Go.RowKit Go.Shelf
set_option linter.unusedSimpArgs false
set_option linter.unusedVariables false
set_option maxRecDepth 100000 in
theorem seqnil_run (a b c : Value) (W : World) : (binOp BinOp.eql 32 (.func (.func 22) #[] #[a, b, c]) .nilFunc).run Tryd.prog W = .ok (.bool false) W := by
  kernel_rfl
end Go.Proofs.YtdgmfdfhbhmppaaDoor
/-
  What the calls of the methods of package addr's found do.
-/
namespace Go.Proofs.YtdgmfdfhbhmppaaDoor
open Go.RowKit
set_option linter.unusedSimpArgs false
set_option linter.unusedVariables false

/-- The struct at block B: its list reads as f, its count as c, its gap as p, and all of it may be written. -/
def Fnd (w : World) (B : Nat) (f : Nat → Int) (c : Nat) (p : Int) : Prop :=
  (∀ i, i < 8 → w.cell? ⟨B, i, none⟩ = some (.int .u64 (f i)) ∧ w.frozen? ⟨B, i, none⟩ = false) ∧ w.cell? ⟨B, 8, none⟩ = some (.int .i64 c) ∧ w.frozen? ⟨B, 8, none⟩ = false ∧ w.cell? ⟨B, 9, none⟩ = some (.int .i64 p) ∧ w.frozen? ⟨B, 9, none⟩ = false ∧ B < w.heap.size
def upd (f : Nat → Int) (c : Nat) (v : Int) : Nat → Int := fun i => if i = c then v else f i
theorem Fnd.below {w w' : World} {B : Nat} {f : Nat → Int} {c : Nat} {p : Int} (h : Fnd w B f c p) (hb : Below w.heap.size w w') : Fnd w' B f c p := by
  obtain ⟨h1, h2, h3, h4, h5, h6⟩ := h
  exact ⟨fun i hi => ⟨keepc hb (h1 i hi).1, keepf hb (h1 i hi).1 (h1 i hi).2⟩, keepc hb h2, keepf hb h2 h3, keepc hb h4, keepf hb h4 h5, Nat.lt_of_lt_of_le h6 hb.size⟩

/-- All blocks but one are as they were. -/
def Only (B : Nat) (w w' : World) : Prop := w'.heap.size = w.heap.size ∧ ∀ C o, ¬ C = B → w'.cell? ⟨C, o, none⟩ = w.cell? ⟨C, o, none⟩ ∧ w'.frozen? ⟨C, o, none⟩ = w.frozen? ⟨C, o, none⟩
theorem At.only {w w' : World} {B C : Nat} {x : BitVec 128} (h : At w C x) (ho : Only B w w') (hn : ¬ C = B) : At w' C x := by
  obtain ⟨h0, h1, h2, h3, h4⟩ := h
  exact ⟨by rw [(ho.2 C 0 hn).1]; exact h0, by rw [(ho.2 C 1 hn).1]; exact h1, by rw [(ho.2 C 0 hn).2]; exact h2, by rw [(ho.2 C 1 hn).2]; exact h3, by rw [ho.1]; exact h4⟩

set_option maxHeartbeats 2000000 in
theorem fadd_any (B : Nat) (f : Nat → Int) (c : Nat) (p v : Int) (w : World) (hF : Fnd w B f c p) (hc : c ≤ 7) :
    Calls Tryd.prog 68 #[.pointer (some ⟨B, 0, none⟩), .int .u64 v] w fun e w' => e = .returned (.bool true) ∧ Fnd w' B (upd f c v) (c + 1) p ∧ Below B w w' ∧ Only B w w' := by
  obtain ⟨h1, h2, h3, h4, h5, h6⟩ := hF
  have hc8 : ¬ (c : Int) = 8 := by omega
  have hcb : ((c : Int) == 8) = false := by simp; omega
  have hcl : (c : Int) < 8 := by omega
  have ⟨k1, k2⟩ := h1 c (by omega)
  have n8 : ¬ c = 8 := by omega
  have n9 : ¬ c = 9 := by omega
  have e8 : (w.setCell ⟨B, c, none⟩ (.int .u64 v)).cell? ⟨B, 8, none⟩ = some (.int .i64 c) := by simp [go_sem, *]
  have f8 : (w.setCell ⟨B, c, none⟩ (.int .u64 v)).frozen? ⟨B, 8, none⟩ = false := by simp [go_sem, *]
  have hF' : Fnd (((w.setCell ⟨B, c, none⟩ (.int .u64 v)).setCell ⟨B, 8, none⟩ (.int .i64 ((c : Int) + 1))).drew) B (upd f c v) (c + 1) p := by
    refine ⟨fun i hi => ?_, ?_, ?_, ?_, ?_, ?_⟩
    · have n : ¬ i = 8 := by omega
      have n' : ¬ 8 = i := by omega
      obtain ⟨q1, q2⟩ := h1 i hi
      by_cases hic : i = c
      · subst hic
        simp [go_sem, upd, *]
      · have hci : ¬ c = i := fun e => hic e.symm
        simp [go_sem, upd, *]
    all_goals simp [go_sem, *]
  have hB' : Below B w (((w.setCell ⟨B, c, none⟩ (.int .u64 v)).setCell ⟨B, 8, none⟩ (.int .i64 ((c : Int) + 1))).drew) := (((Below.refl B w).setCell (p := ⟨B, c, none⟩) (Nat.le_refl _) _).setCell (p := ⟨B, 8, none⟩) (Nat.le_refl _) _).drew
  have hO' : Only B w (((w.setCell ⟨B, c, none⟩ (.int .u64 v)).setCell ⟨B, 8, none⟩ (.int .i64 ((c : Int) + 1))).drew) := by
    refine ⟨by simp, fun C o hn => ?_⟩
    have hn' : ¬ B = C := fun e => hn e.symm
    simp [go_sem, hn, hn']
  clear h1
  go_enter Tryd.func68, Tryd.ntmps68
  go_wp2
  go_region
  go_wp2
  go_ret
  exact ⟨rfl, hF', hB', hO'⟩

theorem fadd_full (B : Nat) (f : Nat → Int) (p v : Int) (w : World) (hF : Fnd w B f 8 p) :
    Calls Tryd.prog 68 #[.pointer (some ⟨B, 0, none⟩), .int .u64 v] w fun e w' => e = .returned (.bool false) ∧ w' = w := by
  obtain ⟨h1, h2, h3, h4, h5, h6⟩ := hF
  have h2' : w.cell? ⟨B, 8, none⟩ = some (.int .i64 8) := h2
  clear h1 h2
  go_enter Tryd.func68, Tryd.ntmps68
  go_wp2
  go_ret
  exact ⟨rfl, rfl⟩

/-- Where the group k stands in the word. -/
def plc (c : Nat) (p : Int) (k : Nat) : Int := if ¬ p = -1 ∧ p ≤ k then (k : Int) + (8 - c) else k
def sixW (f : Nat → Int) (c : Nat) (p : Int) : Nat → BitVec 128
  | 0 => 0#128
  | k + 1 => layW (sixW f c p k) (plc c p k) 16 (f k)
def finV (f : Nat → Int) (c : Nat) (p : Int) : BitVec 128 := if (p = -1) = (c = 8) then sixW f c p c else 0#128
def finB (c : Nat) (p : Int) : Bool := decide ((p = -1) = (c = 8))

theorem Fnd.other {w : World} {B C : Nat} {f : Nat → Int} {c : Nat} {p : Int} (h : Fnd w B f c p) (hn : ¬ C = B) (u v : Value) : Fnd ((w.setCell ⟨C, 0, none⟩ u).setCell ⟨C, 1, none⟩ v) B f c p := by
  obtain ⟨h1, h2, h3, h4, h5, h6⟩ := h
  have hn' : ¬ B = C := fun e => hn e.symm
  refine ⟨fun i hi => ?_, ?_, ?_, ?_, ?_, ?_⟩
  · obtain ⟨q1, q2⟩ := h1 i hi
    simp [go_sem, *]
  all_goals simp [go_sem, *]

set_option maxHeartbeats 2000000 in
theorem fword_any (B : Nat) (f : Nat → Int) (c : Nat) (p : Int) (w : World) (hF : Fnd w B f c p) (hc : c ≤ 8) (hp : -1 ≤ p) (hp2 : p ≤ 8) (hf : ∀ i, 0 ≤ f i ∧ f i ≤ 65535) :
    Calls Tryd.prog 69 #[.pointer (some ⟨B, 0, none⟩)] w fun e w' => e = .returned (.tuple #[.agg #[.int .u64 (hI (finV f c p)), .int .u64 (lI (finV f c p))], .bool (finB c p)]) ∧ Below w.heap.size w w' := by
  have hF' := hF
  obtain ⟨h1, h2, h3, h4, h5, h6⟩ := hF
  have d0 : ¬ w.heap.size = B := by omega
  by_cases hq : (p = -1) = (c = 8)
  · have HF : Hid (finV f c p = sixW f c p c ∧ finB c p = true) := by
      show _ ∧ _
      unfold finV finB; rw [if_pos hq]; exact ⟨rfl, by simp [hq]⟩
    have hq2 : ((p == -1) == ((c : Int) == 8)) = true := by
      by_cases hp1 : p = -1
      · have : c = 8 := by rw [← hq]; exact hp1
        subst this; subst hp1; rfl
      · have h8 : ¬ c = 8 := by rw [← hq]; exact hp1
        have e1 : (p == -1) = false := by simp [hp1]
        have e2 : ((c : Int) == 8) = false := by simp; omega
        rw [e1, e2]; rfl
    clear hq
    obtain ⟨b, hpb⟩ : ∃ b, (p == -1) = b := ⟨_, rfl⟩
    rw [hpb] at hq2
    have c0 : (0 : Int) ≤ (c : Int) := by omega
    have c8 : (c : Int) ≤ 8 := by omega
    go_enter Tryd.func69, Tryd.ntmps69
    go_wp2
    go_region
    go_wp2
    go_region
    go_wp2
    go_loopw [28] (fun q wr => ∃ k : Nat, k ≤ c ∧ q = .int .i64 k ∧ At wr (w.heap.size + 1) (sixW f c p k) ∧ At wr w.heap.size 0#128 ∧ Fnd wr B f c p ∧ Below w.heap.size w wr) (fun q _ => c - (intOf q).toNat)
    case atStart =>
      refine ⟨0, by omega, rfl, ?_, ?_, ?_, (bl2 w _ _).drew.drew⟩
      · show At _ _ 0#128
        refine ⟨?_, ?_, ?_, ?_, ?_⟩ <;> simp [go_sem, hI_zero, lI_zero]
      · refine ⟨?_, ?_, ?_, ?_, ?_⟩ <;> simp [go_sem, hI_zero, lI_zero]
      · exact hF'.below (bl2 w _ _).drew.drew
    case round =>
      obtain ⟨k, hk, rfl, hA, hZ, hG, hB⟩ := hrel
      clear h1 h2 h3 h4 h5 hF'
      obtain ⟨h1, h2, h3, h4, h5, h6'⟩ := id hG
      by_cases hlt : k < c
      · have hlt2 : (k : Int) < (c : Int) := by omega
        have hk8 : (k : Int) < 8 := by omega
        obtain ⟨l1, l2⟩ := h1 k (by omega)
        obtain ⟨f0, f1⟩ := hf k
        obtain ⟨a0, a1, a2, a3, a4⟩ := id hA
        have HW : Hid (sixW f c p (k + 1) = layW (sixW f c p k) (plc c p k) 16 (f k)) := rfl
        have hpl : 0 ≤ plc c p k ∧ plc c p k ≤ 16 := by unfold plc; split <;> omega
        have HPL : Hid (plc c p k = if ¬ p = -1 ∧ p ≤ k then (k : Int) + (8 - c) else k) := rfl
        have KP := fun w => aput_any (sixW f c p k) (plc c p k) 16 (f k) w f0 (by omega) hpl.1 hpl.2 (by omega) (by omega)
        generalize sixW f c p k = x at *
        generalize plc c p k = pl at *
        generalize f k = v at *
        clear h1 hf
        by_cases hp1 : p = -1
        · have hpk : pl = k := by rw [HPL.out, if_neg (by simp [hp1])]
          subst hpk
          have hne : (p != -1) = false := by simp [hp1]
          clear HPL hp1
          go_wp2_with fail
          refine (KP _).mono ?_
          rintro e w2 ⟨rfl, hb2⟩
          clear KP
          have hA2 := (hA.below hb2).set (layW x (k : Int) 16 v)
          have hZ2 := (hZ.below hb2).other (.int .u64 (hI (layW x (k : Int) 16 v))) (.int .u64 (lI (layW x (k : Int) 16 v))) (C := w.heap.size + 1) (by omega)
          have hG2 := (hG.below hb2).other (C := w.heap.size + 1) (by omega) (.int .u64 (hI (layW x (k : Int) 16 v))) (.int .u64 (lI (layW x (k : Int) 16 v)))
          have hB2 := bset2 (keepb hb2 hB) (C := w.heap.size + 1) (by omega) (.int .u64 (hI (layW x (k : Int) 16 v))) (.int .u64 (lI (layW x (k : Int) 16 v)))
          obtain ⟨b0, b1, b2, b3, b4⟩ := hA.below hb2
          clear hA hZ hB hG hb2 a0 a1 a2 a3 a4 h2 h3 h4 h5 l1 l2
          go_wp2
          go_roundw
          case rel => exact ⟨k + 1, by omega, by go_num, by rw [HW.out]; exact hA2, hZ2, hG2, hB2⟩
          case measure => simp [intOf]; omega
        · have hne : (p != -1) = true := by simp [hp1]
          by_cases hpk : p ≤ k
          · have hpk' : pl = (k : Int) + (8 - c) := by rw [HPL.out, if_pos ⟨hp1, hpk⟩]
            subst hpk'
            clear HPL hp1
            go_wp2_with fail
            refine (KP _).mono ?_
            rintro e w2 ⟨rfl, hb2⟩
            clear KP
            have hA2 := (hA.below hb2).set (layW x ((k : Int) + (8 - c)) 16 v)
            have hZ2 := (hZ.below hb2).other (.int .u64 (hI (layW x ((k : Int) + (8 - c)) 16 v))) (.int .u64 (lI (layW x ((k : Int) + (8 - c)) 16 v))) (C := w.heap.size + 1) (by omega)
            have hG2 := (hG.below hb2).other (C := w.heap.size + 1) (by omega) (.int .u64 (hI (layW x ((k : Int) + (8 - c)) 16 v))) (.int .u64 (lI (layW x ((k : Int) + (8 - c)) 16 v)))
            have hB2 := bset2 (keepb hb2 hB) (C := w.heap.size + 1) (by omega) (.int .u64 (hI (layW x ((k : Int) + (8 - c)) 16 v))) (.int .u64 (lI (layW x ((k : Int) + (8 - c)) 16 v)))
            obtain ⟨b0, b1, b2, b3, b4⟩ := hA.below hb2
            clear hA hZ hB hG hb2 a0 a1 a2 a3 a4 h2 h3 h4 h5 l1 l2
            go_wp2
            go_roundw
            case rel => exact ⟨k + 1, by omega, by go_num, by rw [HW.out]; exact hA2, hZ2, hG2, hB2⟩
            case measure => simp [intOf]; omega
          · have hpk' : pl = k := by rw [HPL.out, if_neg (by simp [hpk])]
            subst hpk'
            clear HPL hp1
            go_wp2_with fail
            refine (KP _).mono ?_
            rintro e w2 ⟨rfl, hb2⟩
            clear KP
            have hA2 := (hA.below hb2).set (layW x (k : Int) 16 v)
            have hZ2 := (hZ.below hb2).other (.int .u64 (hI (layW x (k : Int) 16 v))) (.int .u64 (lI (layW x (k : Int) 16 v))) (C := w.heap.size + 1) (by omega)
            have hG2 := (hG.below hb2).other (C := w.heap.size + 1) (by omega) (.int .u64 (hI (layW x (k : Int) 16 v))) (.int .u64 (lI (layW x (k : Int) 16 v)))
            have hB2 := bset2 (keepb hb2 hB) (C := w.heap.size + 1) (by omega) (.int .u64 (hI (layW x (k : Int) 16 v))) (.int .u64 (lI (layW x (k : Int) 16 v)))
            obtain ⟨b0, b1, b2, b3, b4⟩ := hA.below hb2
            clear hA hZ hB hG hb2 a0 a1 a2 a3 a4 h2 h3 h4 h5 l1 l2
            go_wp2
            go_roundw
            case rel => exact ⟨k + 1, by omega, by go_num, by rw [HW.out]; exact hA2, hZ2, hG2, hB2⟩
            case measure => simp [intOf]; omega
      · have hkc : k = c := by omega
        subst hkc
        obtain ⟨a0, a1, a2, a3, a4⟩ := hA
        obtain ⟨z0, z1, z2, z3, z4⟩ := hZ
        clear h1 hf hG
        go_wp2
        exact bodyPost_ret (v := .tuple #[.agg #[.int .u64 (hI (sixW f k p k)), .int .u64 (lI (sixW f k p k))], .bool true]) (by simp [results, Tryd.results69, go_sem, *]) rfl ⟨by rw [HF.out.1, HF.out.2], bset2 hB (Nat.le_refl _) _ _⟩
  · have HF : Hid (finV f c p = 0#128 ∧ finB c p = false) := by
      show _ ∧ _
      unfold finV finB; rw [if_neg hq]; exact ⟨rfl, by simp only [decide_eq_false_iff_not]; exact hq⟩
    have hq2 : ((p == -1) == ((c : Int) == 8)) = false := by
      by_cases hp1 : p = -1
      · have h8 : ¬ c = 8 := fun e => hq (by simp [hp1, e])
        have e1 : (p == -1) = true := by simp [hp1]
        have e2 : ((c : Int) == 8) = false := by simp; omega
        rw [e1, e2]; rfl
      · have h8 : c = 8 := by
          apply Classical.byContradiction; intro e; exact hq (by simp [hp1, e])
        have e1 : (p == -1) = false := by simp [hp1]
        have e2 : ((c : Int) == 8) = true := by simp; omega
        rw [e1, e2]; rfl
    clear hq h1 hf
    go_enter Tryd.func69, Tryd.ntmps69
    go_wp2
    go_region
    go_wp2
    exact bodyPost_ret (v := .tuple #[.agg #[.int .u64 0, .int .u64 0], .bool false]) (by simp [results, Tryd.results69, go_sem, *]) rfl ⟨by rw [HF.out.1, HF.out.2, hI_zero, lI_zero], (bl1 w _).drew⟩
end Go.Proofs.YtdgmfdfhbhmppaaDoor
/-
  What the calls of package addr's addFour and readSix do.
-/
namespace Go.Proofs.YtdgmfdfhbhmppaaDoor
open Go.RowKit
set_option linter.unusedSimpArgs false
set_option linter.unusedVariables false

/-- The two groups of a text of the other family. -/
def quadA (s : ByteArray) : Int := lI ((fourV s <<< (16 * (0 : Int)).toNat) >>> (128 - (16 : Int)).toNat)
def quadB (s : ByteArray) : Int := lI ((fourV s <<< (16 * (1 : Int)).toNat) >>> (128 - (16 : Int)).toNat)
theorem part16_bd (x : BitVec 128) (i : Int) : 0 ≤ lI ((x <<< (16 * i).toNat) >>> (128 - (16 : Int)).toNat) ∧ lI ((x <<< (16 * i).toNat) >>> (128 - (16 : Int)).toNat) ≤ 65535 := by
  generalize x <<< (16 * i).toNat = y
  refine ⟨lI_lo _, ?_⟩
  unfold lI lv
  rw [BitVec.extractLsb'_toNat]
  have : (y >>> (128 - (16 : Int)).toNat).toNat < 65536 := by
    rw [BitVec.toNat_ushiftRight, show (128 - (16 : Int)).toNat = 112 from rfl, Nat.shiftRight_eq_div_pow]
    have := y.isLt
    omega
  rw [Nat.shiftRight_zero, Nat.mod_eq_of_lt (by omega)]
  omega
theorem quadA_bd (s : ByteArray) : 0 ≤ quadA s ∧ quadA s ≤ 65535 := part16_bd _ _
theorem quadB_bd (s : ByteArray) : 0 ≤ quadB s ∧ quadB s ≤ 65535 := part16_bd _ _

theorem partA (s : ByteArray) (w : World) :
    Calls Tryd.prog 71 #[.agg #[.int .u64 (hI (fourV s)), .int .u64 (lI (fourV s))], .int .i64 0, .int .i64 16] w fun e w' => e = .returned (.int .u64 (quadA s)) ∧ Below w.heap.size w w' :=
  part_any (fourV s) 0 16 w (by omega) (by omega) (by omega) (by omega)
theorem partB (s : ByteArray) (w : World) :
    Calls Tryd.prog 71 #[.agg #[.int .u64 (hI (fourV s)), .int .u64 (lI (fourV s))], .int .i64 1, .int .i64 16] w fun e w' => e = .returned (.int .u64 (quadB s)) ∧ Below w.heap.size w w' :=
  part_any (fourV s) 1 16 w (by omega) (by omega) (by omega) (by omega)

set_option maxHeartbeats 2000000 in
theorem addFour_no (B : Nat) (s : ByteArray) (w : World) (hs : s.size ≤ maxLen) (h : fourB s = false) (hB : B < w.heap.size) :
    Calls Tryd.prog 67 #[.pointer (some ⟨B, 0, none⟩), .string s] w fun e w' => e = .returned (.bool false) ∧ Below B w w' := by
  have KR := fun w => readFour_any s w hs
  rw [h] at KR
  generalize fourV s = x at *
  go_enter Tryd.func67, Tryd.ntmps67
  go_wp2_with fail
  refine (KR _).mono ?_
  rintro e w1 ⟨rfl, hb1⟩
  clear KR
  go_wp2
  go_ret
  exact ⟨rfl, (hb1.alloc hb1.size _).mono (by omega)⟩

set_option maxHeartbeats 2000000 in
theorem addFour_yes (B : Nat) (f : Nat → Int) (c : Nat) (p : Int) (s : ByteArray) (w : World) (hs : s.size ≤ maxLen) (h : fourB s = true) (hF : Fnd w B f c p) (hc : c ≤ 6) :
    Calls Tryd.prog 67 #[.pointer (some ⟨B, 0, none⟩), .string s] w fun e w' => e = .returned (.bool true) ∧ Fnd w' B (upd (upd f c (quadA s)) (c + 1) (quadB s)) (c + 2) p ∧ Below B w w' := by
  have KR := fun w => readFour_any s w hs
  have KA := partA s
  have KB := partB s
  rw [h] at KR
  generalize quadA s = qa at *
  generalize quadB s = qb at *
  generalize fourV s = x at *
  have hBw : B < w.heap.size := hF.2.2.2.2.2
  go_enter Tryd.func67, Tryd.ntmps67
  go_wp2_with fail
  refine (KR _).mono ?_
  rintro e w1 ⟨rfl, hb1⟩
  clear KR
  have hB1 := hb1.size
  have hF1 : Fnd (w1.alloc (.cells #[.int .u64 (hI x), .int .u64 (lI x)] 24)) B f c p := (hF.below hb1).below (bl1 _ _)
  have hX1 := at_new w1 w1.heap.size x 24 rfl
  have kB1 : Below B w (w1.alloc (.cells #[.int .u64 (hI x), .int .u64 (lI x)] 24)) := (hb1.mono (by omega)).alloc (by omega) _
  clear hF hb1
  obtain ⟨x0, x1, x2, x3, x4⟩ := id hX1
  go_wp2_with fail
  refine (KA _).mono ?_
  rintro e w2 ⟨rfl, hb2⟩
  clear KA
  have hF2 := hF1.below hb2
  have hX2 := hX1.below hb2
  have kB2 : Below B w w2 := kB1.trans (hb2.mono (by simp; omega))
  clear hF1 hX1 kB1 hb2 x0 x1 x2 x3 x4
  have hBw2 := kB2.size
  go_wp2_with fail
  refine (fadd_any B f c p qa w2 hF2 (by omega)).mono ?_
  rintro e w3 ⟨rfl, hF3, hb3, ho3⟩
  have hX3 := hX2.only ho3 (by omega)
  have kB3 : Below B w w3 := kB2.trans hb3
  have hz3 := ho3.1
  clear hF2 hX2 kB2 hb3 ho3
  obtain ⟨x0, x1, x2, x3, x4⟩ := id hX3
  go_wp2_with fail
  refine (KB _).mono ?_
  rintro e w4 ⟨rfl, hb4⟩
  clear KB
  have hF4 := hF3.below hb4
  have kB4 : Below B w w4 := kB3.trans (hb4.mono (by have := hF3.2.2.2.2.2; omega))
  clear hF3 hX3 kB3 hb4 x0 x1 x2 x3 x4 hz3
  go_wp2_with fail
  refine (fadd_any B (upd f c qa) (c + 1) p qb w4 hF4 (by omega)).mono ?_
  rintro e w5 ⟨rfl, hF5, hb5, ho5⟩
  have kB5 : Below B w w5 := kB4.trans hb5
  clear hF4 kB4 hb5 ho5
  go_wp2
  go_ret
  exact ⟨rfl, hF5, kB5⟩
set_option maxHeartbeats 2000000 in
theorem addFour_full (B : Nat) (f : Nat → Int) (c : Nat) (p : Int) (s : ByteArray) (w : World) (hs : s.size ≤ maxLen) (h : fourB s = true) (hF : Fnd w B f c p) (hc : c = 7 ∨ c = 8) :
    Calls Tryd.prog 67 #[.pointer (some ⟨B, 0, none⟩), .string s] w fun e w' => e = .returned (.bool false) ∧ Below B w w' := by
  have KR := fun w => readFour_any s w hs
  have KA := partA s
  have KB := partB s
  rw [h] at KR
  generalize quadA s = qa at *
  generalize quadB s = qb at *
  generalize fourV s = x at *
  have hBw : B < w.heap.size := hF.2.2.2.2.2
  go_enter Tryd.func67, Tryd.ntmps67
  go_wp2_with fail
  refine (KR _).mono ?_
  rintro e w1 ⟨rfl, hb1⟩
  clear KR
  have hB1 := hb1.size
  have hF1 : Fnd (w1.alloc (.cells #[.int .u64 (hI x), .int .u64 (lI x)] 24)) B f c p := (hF.below hb1).below (bl1 _ _)
  have hX1 := at_new w1 w1.heap.size x 24 rfl
  have kB1 : Below B w (w1.alloc (.cells #[.int .u64 (hI x), .int .u64 (lI x)] 24)) := (hb1.mono (by omega)).alloc (by omega) _
  clear hF hb1
  obtain ⟨x0, x1, x2, x3, x4⟩ := id hX1
  go_wp2_with fail
  refine (KA _).mono ?_
  rintro e w2 ⟨rfl, hb2⟩
  clear KA
  have hF2 := hF1.below hb2
  have hX2 := hX1.below hb2
  have kB2 : Below B w w2 := kB1.trans (hb2.mono (by simp; omega))
  clear hF1 hX1 kB1 hb2 x0 x1 x2 x3 x4
  have hBw2 := kB2.size
  rcases hc with rfl | rfl
  · go_wp2_with fail
    refine (fadd_any B f 7 p qa w2 hF2 (by omega)).mono ?_
    rintro e w3 ⟨rfl, hF3, hb3, ho3⟩
    have hX3 := hX2.only ho3 (by omega)
    have kB3 : Below B w w3 := kB2.trans hb3
    have hz3 := ho3.1
    clear hF2 hX2 kB2 hb3 ho3
    obtain ⟨x0, x1, x2, x3, x4⟩ := id hX3
    go_wp2_with fail
    refine (KB _).mono ?_
    rintro e w4 ⟨rfl, hb4⟩
    clear KB
    have hF4 := hF3.below hb4
    have kB4 : Below B w w4 := kB3.trans (hb4.mono (by have := hF3.2.2.2.2.2; omega))
    clear hF3 hX3 kB3 hb4 x0 x1 x2 x3 x4 hz3
    go_wp2_with fail
    refine (fadd_full B (upd f 7 qa) p qb w4 hF4).mono ?_
    rintro e w5 ⟨rfl, rfl⟩
    go_wp2
    go_ret
    exact ⟨rfl, kB4⟩
  · go_wp2_with fail
    refine (fadd_full B f p qa w2 hF2).mono ?_
    rintro e w3 ⟨rfl, rfl⟩
    go_wp2
    go_ret
    exact ⟨rfl, kB2⟩


/-- Groups with colons between, from place a on; c groups are read, the gap stands at p. -/
def sixR (s : ByteArray) : Nat → Nat → (Nat → Int) → Nat → Int → BitVec 128 × Bool
  | 0, _, _, _, _ => (0#128, false)
  | n + 1, a, f, c, p =>
    if s.size ≤ a then (finV f c p, finB c p)
    else if byteAt s (a + (grpN (s.extract a s.size)).toNat) = 46 then (if fourB (s.extract a s.size) = true ∧ c ≤ 6 then (finV (upd (upd f c (quadA (s.extract a s.size))) (c + 1) (quadB (s.extract a s.size))) (c + 2) p, finB (c + 2) p) else (0#128, false))
    else if grpN (s.extract a s.size) = 0 ∨ c = 8 then (0#128, false)
    else if a + (grpN (s.extract a s.size)).toNat = s.size then (finV (upd f c (grpV (s.extract a s.size))) (c + 1) p, finB (c + 1) p)
    else if p = -1 ∧ byteAt s (a + (grpN (s.extract a s.size)).toNat) = 58 ∧ byteAt s (a + (grpN (s.extract a s.size)).toNat + 1) = 58 then sixR s n (a + (grpN (s.extract a s.size)).toNat + 2) (upd f c (grpV (s.extract a s.size))) (c + 1) ((c : Int) + 1)
    else if 1 < s.size - (a + (grpN (s.extract a s.size)).toNat) ∧ byteAt s (a + (grpN (s.extract a s.size)).toNat) = 58 then sixR s n (a + (grpN (s.extract a s.size)).toNat + 1) (upd f c (grpV (s.extract a s.size))) (c + 1) p
    else (0#128, false)
theorem sixR_succ (s : ByteArray) (n a : Nat) (f : Nat → Int) (c : Nat) (p : Int) : sixR s (n + 1) a f c p =
    if s.size ≤ a then (finV f c p, finB c p)
    else if byteAt s (a + (grpN (s.extract a s.size)).toNat) = 46 then (if fourB (s.extract a s.size) = true ∧ c ≤ 6 then (finV (upd (upd f c (quadA (s.extract a s.size))) (c + 1) (quadB (s.extract a s.size))) (c + 2) p, finB (c + 2) p) else (0#128, false))
    else if grpN (s.extract a s.size) = 0 ∨ c = 8 then (0#128, false)
    else if a + (grpN (s.extract a s.size)).toNat = s.size then (finV (upd f c (grpV (s.extract a s.size))) (c + 1) p, finB (c + 1) p)
    else if p = -1 ∧ byteAt s (a + (grpN (s.extract a s.size)).toNat) = 58 ∧ byteAt s (a + (grpN (s.extract a s.size)).toNat + 1) = 58 then sixR s n (a + (grpN (s.extract a s.size)).toNat + 2) (upd f c (grpV (s.extract a s.size))) (c + 1) ((c : Int) + 1)
    else if 1 < s.size - (a + (grpN (s.extract a s.size)).toNat) ∧ byteAt s (a + (grpN (s.extract a s.size)).toNat) = 58 then sixR s n (a + (grpN (s.extract a s.size)).toNat + 1) (upd f c (grpV (s.extract a s.size))) (c + 1) p
    else (0#128, false) := rfl
def six0 (s : ByteArray) : BitVec 128 × Bool := if byteAt s 0 = 58 ∧ byteAt s 1 = 58 then sixR s (s.size + 1) 2 (fun _ => 0) 0 0 else sixR s (s.size + 1) 0 (fun _ => 0) 0 (-1)

theorem grpR_bd (t : ByteArray) : ∀ f k v, k + f = 4 → k ≤ t.size → 0 ≤ v → v < 16 ^ k → 0 ≤ (grpR t f k v).1 ∧ (grpR t f k v).1 ≤ 65535 ∧ 0 ≤ (grpR t f k v).2 ∧ (grpR t f k v).2 ≤ t.size ∧ (grpR t f k v).2 ≤ 4 := by
  intro f
  induction f with
  | zero =>
    intro k v hk ht h0 h1
    have : k = 4 := by omega
    subst this
    refine ⟨h0, ?_, ?_, ?_, ?_⟩
    · show v ≤ 65535
      have : (16 : Int) ^ 4 = 65536 := by decide
      omega
    · show (0 : Int) ≤ ((4 : Nat) : Int); omega
    · show ((4 : Nat) : Int) ≤ _; omega
    · show ((4 : Nat) : Int) ≤ _; omega
  | succ f ih =>
    intro k v hk ht h0 h1
    have hd := hexV_bd (byteAt t k)
    have hpw : (16 : Int) ^ k ≤ 65536 := by
      rcases (by omega : k = 0 ∨ k = 1 ∨ k = 2 ∨ k = 3) with rfl | rfl | rfl | rfl <;> decide
    by_cases hc : k < t.size ∧ hexB (byteAt t k) = true
    · have e : grpR t (f + 1) k v = grpR t f (k + 1) (16 * v + hexV (byteAt t k)) := if_pos hc
      rw [e]
      exact ih (k + 1) _ (by omega) (by omega) (by omega) (by rw [Int.pow_succ]; omega)
    · have e : grpR t (f + 1) k v = (v, (k : Int)) := if_neg hc
      rw [e]
      refine ⟨h0, ?_, ?_, ?_, ?_⟩
      · show v ≤ 65535; omega
      · show (0 : Int) ≤ (k : Int); omega
      · show (k : Int) ≤ _; omega
      · show (k : Int) ≤ 4; omega
theorem grp_bd (t : ByteArray) : 0 ≤ grpV t ∧ grpV t ≤ 65535 ∧ 0 ≤ grpN t ∧ grpN t ≤ t.size := by
  have := grpR_bd t 4 0 0 (by omega) (by omega) (by omega) (by decide)
  unfold grpV grpN; omega

end Go.Proofs.YtdgmfdfhbhmppaaDoor
