/-
  Part 16 of the proof: 1 texts, one behind the other.
-/
import Derived.Test.YtdpmhpmnkollaaaPart15
namespace Go.Proofs.Ytdpmhpmnkollaaa
open Go.RowKit Go.Shelf
set_option linter.unusedSimpArgs false
set_option linter.unusedVariables false
attribute [local go_sem] Oper.semAt_some

def rnO (r : Rn) : Int := if r.k then 3 else 4
def rnI (P : List Int) (p : Nat) (r : Rn) : Int := if r.k then P.getD r.n.toNat 0 - (p : Int) else r.n
def rnB (P : List Int) : Nat → List Rn → List Nat
  | _, [] => []
  | p, r :: l => wdB (rnO r).toNat (rnI P p r).toNat [] ++ rnB P (p + 1) l
def RnLay (P : List Int) (p : Nat) (l : List Rn) : Prop := ∀ (j : Nat) (r : Rn), l[j]? = some r → chkE (rnO r) (rnI P (p + j) r) [] = 0 ∧ (r.k = true → ∃ (k : Nat) (y : Int), r.n = (k : Int) ∧ P[k]? = some y ∧ 0 ≤ y ∧ y ≤ 1000000000)
def ndB (P : List Int) (a : Nat) (d : Nde) : List Nat := if d.b = 0 then rnB P a d.r else wdB 1 d.b.toNat [] ++ (wdB 2 d.b.toNat (mapL d.b.toNat d.r) ++ rnB P (a + 2 + mwN d.b.toNat) d.r)
structure NdLay (P : List Int) (a : Nat) (d : Nde) : Prop where
  b0 : 0 ≤ d.b
  b1 : d.b ≤ 24
  s : ∀ r ∈ d.r, r.f.toNat < 2 ^ d.b.toNat
  e : d.b ≠ 0 → chkE 1 d.b [] = 0 ∧ chkE 2 d.b (mapL d.b.toNat d.r) = 0
  r : RnLay P (if d.b = 0 then a else a + 2 + mwN d.b.toNat) d.r
  z : d.b = 0 → d.r.length = 1
theorem rnB_len (P : List Int) : ∀ (l : List Rn) (p : Nat), (rnB P p l).length = 4 * l.length
  | [], p => rfl
  | r :: l, p => by
    show (wdB _ _ _ ++ rnB P (p + 1) l).length = _
    rw [List.length_append, wdB_len, rnB_len P l (p + 1), List.length_cons]
    simp; omega
theorem ndB_len {P : List Int} {a : Nat} {d : Nde} (h : NdLay P a d) : (ndB P a d).length = 4 * szN d := by
  unfold ndB szN
  by_cases h0 : d.b = 0
  · rw [if_pos h0, if_pos h0, rnB_len, h.z h0]
  · rw [if_neg h0, if_neg h0, List.length_append, List.length_append, wdB_len, wdB_len, rnB_len, mapL_len]
    simp; omega
theorem rnB_drop (P : List Int) (l : List Rn) (p j : Nat) (r : Rn) (h : l[j]? = some r) : rnB P (p + j) (l.drop j) = wdB (rnO r).toNat (rnI P (p + j) r).toNat [] ++ rnB P (p + (j + 1)) (l.drop (j + 1)) := by
  obtain ⟨h1, h2⟩ := List.getElem?_eq_some_iff.mp h
  rw [List.drop_eq_getElem_cons h1, h2]; rfl
theorem nil_rwx16 (w : World) : RwX cU w (.slice none 0 0) [] := ⟨none, 0, rfl, Nat.le_refl _, .inl rfl⟩
theorem KX.cell {X : Nat → Prop} {V U : World} (h : KX X V U) {z o : Nat} {u : Value} (hz : ¬ X z) (hc : V.cell? ⟨z, o, none⟩ = some u) : U.cell? ⟨z, o, none⟩ = some u := (World.cell?_of_block (a := ⟨z, o, none⟩) (h.2 z (cell_in hc) hz)).trans hc
theorem gh_same16 {x y : Array Value} {d s : Nat} (h : (x.toList.eraseIdx (d + 1)).eraseIdx d = (y.toList.eraseIdx (d + 1)).eraseIdx d) (h1 : s ≠ d) (h2 : s ≠ d + 1) : x[s]? = y[s]? := by
  have key : ∀ z : Array Value, ((z.toList.eraseIdx (d + 1)).eraseIdx d)[if s < d then s else s - 2]? = z[s]? := by
    intro z
    by_cases c : s < d
    · rw [if_pos c, List.getElem?_eraseIdx, if_pos c, List.getElem?_eraseIdx, if_pos (by omega)]; simp
    · rw [if_neg c, List.getElem?_eraseIdx, if_neg (by omega), List.getElem?_eraseIdx, if_neg (by omega), show s - 2 + 1 + 1 = s by omega]; simp
  rw [← key x, ← key y, h]
structure RN3 (Pr : World → Prop) (Md : Option Addr × Nat → World → Prop) (Po : World → Prop) (f0 f1 f2 f3 f4 f5 f6 : Bool) (g : Option Addr × Nat) (X : World) : Prop where
  a : f6 = false → Pr X ∧ (f4 = true → Md g X)
  z : f6 = true → Po X ∧ f0 = true ∧ f1 = true ∧ f2 = true ∧ f3 = true ∧ f4 = true ∧ f5 = true
  d2 : f2 = true → f1 = true
  d4 : f4 = true → f3 = true
  d5 : f5 = true → f2 = true ∧ f4 = true
set_option maxRecDepth 20000 in
set_option maxHeartbeats 8000000 in
theorem node_any (w0 : World) (C G cap : Nat) (code : List Nat) (vp : Value) (P : List Int) (d : Nde) (vr : Value) (w : World) (h : LdV w0 C G cap code vp P w) (hr : RwN w0 vr d.r) (hl : d.r.length ≤ 1000000000) (a : Nat) (ha : code.length = 4 * a) (hlay : NdLay P a d) (hfit : code.length + 4 * szN d ≤ cap) (hcap : cap ≤ 1000000000) :
    Calls Try.prog 38 #[.pointer (some ⟨C, 0, none⟩), .agg #[.int .i64 d.b, vr]] w fun e w' => e = .returned (.tuple #[]) ∧ LdV w0 C G cap (code ++ ndB P a d) vp P w' ∧ KX (LdX C G) w w' := by
  obtain ⟨db, dr⟩ := d
  dsimp only at hr hl
  have q1 := bl1 w (.cells #[.int .i64 db, vr] 53)
  have HA1 := hid13 (atd_new w db vr 53)
  have H1 := hid13 (h.below q1)
  have X1 := hid13 (kx_below (X := LdX C G) q1)
  have HR := hid13 hr
  have HLn := hid13 (ndB_len hlay)
  have HLay := hid13 hlay
  have HF : Hid (code.length + 4 * szN ⟨db, dr⟩ ≤ cap ∧ cap ≤ 1000000000 ∧ code.length = 4 * a) := ⟨hfit, hcap, ha⟩
  have HW : Hid (¬ LdX C G w.heap.size) := hid13 (by
    have := lt_16 h.c
    have h2 := (h.o.lt G rfl).2
    unfold LdX; omega)
  obtain ⟨vo, vc, hvr, -, -⟩ := id hr
  have tail : ∀ (p : Nat) (W : World) (R : Nat → Prop), True := fun _ _ _ => trivial
  subst hvr
  clear q1 h hr hlay hfit hcap ha tail
  by_cases hz : db = 0
  · have HE : Hid (ndB P a ⟨db, dr⟩ = rnB P a dr) := by show _ = _; unfold ndB; rw [if_pos hz]
    have HRl : Hid (RnLay P a dr) := by have := HLay.out.r; dsimp only at this; rw [if_pos hz] at this; exact this
    have HSz : Hid (szN ⟨db, dr⟩ = dr.length) := by show _ = _; unfold szN; dsimp only; rw [if_pos hz]; exact (HLay.out.z hz).symm
    subst hz
    obtain ⟨a0, a1⟩ := HA1.out
    clear HLay HLn
    go_enter Try.func38, Try.ntmps38
    go_wp2_with fail
    revert H1 X1
    generalize w.alloc (.cells #[.int .i64 0, .slice vo dr.length vc] 53) = W1
    intro H1 X1
    have HLz := H1
    have HXz := X1
    clear H1 X1 a0 a1 HA1
    have HP0 : Hid (code.length = 4 * (a)) := HF.out.2.2
    have HFit : Hid (4 * (a + dr.length) ≤ cap ∧ cap ≤ 1000000000) := (by have := HF.out; have := HSz.out; show _ ∧ _; omega)
    have HFin : Hid (code ++ rnB P (a) dr = code ++ ndB P a ⟨0, dr⟩) := (by show _ = _; rw [HE.out])
    obtain ⟨FIN, hFIN⟩ : ∃ FIN, FIN = code ++ ndB P a ⟨0, dr⟩ := ⟨_, rfl⟩
    have HFe := hid13 hFIN
    rw [← hFIN] at HFin
    clear hFIN
    go_loopw [25] (fun x25 wr => ∃ (k : Nat), x25 = .int .i64 (k : Int) ∧ Hid (k ≤ dr.length ∧ ∃ cd : List Nat, cd.length = 4 * (a + k) ∧ cd ++ rnB P (a + k) (dr.drop k) = FIN ∧ LdV w0 C G cap cd vp P wr ∧ KX (LdX C G) w wr)) (fun x25 _ => dr.length - (intOf x25).toNat)
    case atStart => exact ⟨0, rfl, hid13 ⟨Nat.zero_le _, code, HP0.out, HFin.out, HLz.out, HXz.out⟩⟩
    case round =>
      clear HLz HXz
      obtain ⟨k, rfl, HI⟩ := hrel
      obtain ⟨hkl, cd, HI2⟩ := HI.out
      replace HI2 := hid13 HI2
      clear HI
      by_cases hlt : k < dr.length
      · have hli : (k : Int) < (dr.length : Int) := by omega
        obtain ⟨r, hr⟩ : ∃ r, dr[k]? = some r := ⟨dr[k], by simp [hlt]⟩
        obtain ⟨bb, off, hao, hcell⟩ : ∃ b off, vo = some ⟨b, off, none⟩ ∧ ∀ j r, dr[j]? = some r → RnAt w0 b (off + j * 4) r := by
          obtain ⟨ao', c', e, hc', hr'⟩ := HR.out
          injection e with e1 e2 e3
          subst e1
          rcases hr' with h | h
          · rw [h] at hlt; simp at hlt
          · exact h
        subst hao
        obtain ⟨r0, r1, r2, r3⟩ := hcell k r hr
        have r0 := keepc HI2.out.2.2.1.b r0
        have r1 := keepc HI2.out.2.2.1.b r1
        have r2 := keepc HI2.out.2.2.1.b r2
        have r3 := keepc HI2.out.2.2.1.b r3
        obtain ⟨hchk, hkid⟩ := HRl.out k r hr
        have HT := hid13 (rnB_drop P dr a k r hr)
        have HChk := hid13 hchk
        have HJ : Hid (k < dr.length ∧ dr.length ≤ 1000000000) := ⟨hlt, hl⟩
        have mk : IntKind.i64.wrap ((k : Int) + 1) = ((k + 1 : Nat) : Int) := by rw [IntKind.wrap_i64]; push_cast; omega
        have q5 := bl1 wr (.cells #[.int .u64 (hI r.f), .int .u64 (lI r.f), .bool r.k, .int .i64 r.n] 50)
        have KA := fun w => laidAs_any C r w
        have HL5 := hid13 (HI2.out.2.2.1.below q5)
        have HX5 := hid13 (HI2.out.2.2.2.below q5)
        have HR5 := hid13 (rnat_new wr r 50)
        have HCd : Hid (cd.length = 4 * (a + k)) := HI2.out.1
        have HEq := hid13 HI2.out.2.1
        unfold rnV at KA
        clear hr hcell hchk hlt q5 HI2
        cases hk : r.k with
        | true =>
          obtain ⟨kn, y, hn, hy, hy0, hy1⟩ := hkid hk
          rw [hk] at KA r2 HR5 HL5 HX5
          simp only [if_true] at KA
          have HV : Hid (rnO r = 3 ∧ rnI P (a + k) r = y - ((a + k : Nat) : Int)) := by
            unfold rnO rnI
            rw [hk]
            refine ⟨rfl, ?_⟩
            simp only [if_true]
            rw [hn, Int.toNat_natCast, List.getD_eq_getElem?_getD, hy]; rfl
          rw [HV.out.1, HV.out.2] at HChk HT
          have KJ := fun w h => jump_any w0 C G cap cd vp P kn y w h hy (by have := HCd.out; have := HFit.out; have := HJ.out; omega) hy0 hy1
          have hc4 : cd.length / 4 = a + k := by have := HCd.out; omega
          rw [hc4] at KJ
          rw [hn] at KA r3 HR5 HL5 HX5
          generalize y - ((a + k : Nat) : Int) = z at *
          clear hkid hk hc4 hy hy0 hy1
          go_wp2_with fail
          refine (KA _).mono ?_
          rintro e w3 ⟨rfl, hb3⟩
          have HL6 := hid13 (HL5.out.below hb3)
          have HX6 := hid13 (HX5.out.below hb3)
          have n3 : w3.cell? ⟨wr.heap.size, 3, none⟩ = some (.int .i64 (kn : Int)) := keepc hb3 (by simp [go_sem])
          have KJ6 := KJ _ HL6.out
          clear KA hb3 r0 r1 r2 r3 HL5 HX5 HR5 KJ
          go_wp2_with fail
          refine KJ6.mono ?_
          rintro e w4 ⟨rfl, hb4⟩
          have HL7 := hid13 (HL6.out.below hb4)
          have HX7 := hid13 (HX6.out.below hb4)
          have KP := put_any16 w0 C G cap cd vp P 3 z (.slice none 0 0) [] w4 HL7.out (nil_rwx16 _) (by simp) HChk.out (by have := HCd.out; have := HFit.out; have := HJ.out; simp; omega)
          clear KJ6 hb4 n3 HL6 HX6
          go_wp2_with fail
          refine KP.mono ?_
          rintro e w5 ⟨rfl, hL8, hX8⟩
          have HL8 := hid13 hL8
          have HX8 := hid13 (HX7.out.trans hX8)
          have HLn8 : Hid ((cd ++ wdB 3 z.toNat []).length = 4 * (a + (k + 1))) := by show _ = _; rw [List.length_append, wdB_len, HCd.out]; simp; omega
          have HEq8 : Hid ((cd ++ wdB 3 z.toNat []) ++ rnB P (a + (k + 1)) (dr.drop (k + 1)) = FIN) := by show _ = _; rw [List.append_assoc, ← HEq.out, HT.out]; rfl
          clear KP hL8 hX8 HL7 HX7
          go_wp2
          go_roundw
          case rel => exact ⟨k + 1, by first | rfl | simp, hid13 ⟨by have := HJ.out; omega, _, HLn8.out, HEq8.out, HL8.out, HX8.out⟩⟩
          case measure => have := HJ.out; first | (simp [intOf]; done) | (simp [intOf]; omega) | (unfold intOf; simp; omega)
        | false =>
          rw [hk] at KA r2 HR5 HL5 HX5
          simp only [Bool.false_eq_true, if_false] at KA
          have HV : Hid (rnO r = 4 ∧ rnI P (a + k) r = r.n) := by
            unfold rnO rnI
            rw [hk]
            exact ⟨rfl, rfl⟩
          rw [HV.out.1, HV.out.2] at HChk HT
          have KJ := fun w => answer_any C r.n w
          clear hkid hk
          go_wp2_with fail
          refine (KA _).mono ?_
          rintro e w3 ⟨rfl, hb3⟩
          have HL6 := hid13 (HL5.out.below hb3)
          have HX6 := hid13 (HX5.out.below hb3)
          have n3 : w3.cell? ⟨wr.heap.size, 3, none⟩ = some (.int .i64 r.n) := keepc hb3 (by simp [go_sem])
          clear KA hb3 r0 r1 r2 r3 HL5 HX5 HR5
          go_wp2_with fail
          refine (KJ _).mono ?_
          rintro e w4 ⟨rfl, hb4⟩
          have HL7 := hid13 (HL6.out.below hb4)
          have HX7 := hid13 (HX6.out.below hb4)
          have KP := put_any16 w0 C G cap cd vp P 4 r.n (.slice none 0 0) [] w4 HL7.out (nil_rwx16 _) (by simp) HChk.out (by have := HCd.out; have := HFit.out; have := HJ.out; simp; omega)
          clear KJ hb4 n3 HL6 HX6
          go_wp2_with fail
          refine KP.mono ?_
          rintro e w5 ⟨rfl, hL8, hX8⟩
          have HL8 := hid13 hL8
          have HX8 := hid13 (HX7.out.trans hX8)
          have HLn8 : Hid ((cd ++ wdB 4 r.n.toNat []).length = 4 * (a + (k + 1))) := by show _ = _; rw [List.length_append, wdB_len, HCd.out]; simp; omega
          have HEq8 : Hid ((cd ++ wdB 4 r.n.toNat []) ++ rnB P (a + (k + 1)) (dr.drop (k + 1)) = FIN) := by show _ = _; rw [List.append_assoc, ← HEq.out, HT.out]; rfl
          clear KP hL8 hX8 HL7 HX7
          go_wp2
          go_roundw
          case rel => exact ⟨k + 1, by first | rfl | simp, hid13 ⟨by have := HJ.out; omega, _, HLn8.out, HEq8.out, HL8.out, HX8.out⟩⟩
          case measure => have := HJ.out; first | (simp [intOf]; done) | (simp [intOf]; omega) | (unfold intOf; simp; omega)
      · have hli : ¬ (k : Int) < (dr.length : Int) := by omega
        have hE : cd = FIN := by have := HI2.out.2.1; rw [List.drop_eq_nil_of_le (by omega)] at this; simpa [rnB] using this
        have HLe : Hid (LdV w0 C G cap FIN vp P wr) := by show LdV _ _ _ _ _ _ _ _; rw [← hE]; exact HI2.out.2.2.1
        have HXe := hid13 HI2.out.2.2.2
        clear HI2 hE
        go_wp2
        go_end0
        exact ⟨rfl, by rw [← HFe.out]; exact HLe.out, HXe.out⟩
  · obtain ⟨nb, rfl⟩ : ∃ nb : Nat, db = (nb : Int) := ⟨db.toNat, by have := HLay.out.b0; dsimp only at this; omega⟩
    have hb1 : nb ≤ 24 := by have := HLay.out.b1; dsimp only at this; omega
    have hb0 : (0 : Int) < (nb : Int) := by omega
    have HE : Hid (ndB P a ⟨(nb : Int), dr⟩ = wdB 1 nb [] ++ (wdB 2 nb (mapL nb dr) ++ rnB P (a + 2 + mwN nb) dr)) := by show _ = _; unfold ndB; dsimp only; rw [if_neg hz, Int.toNat_natCast]
    have HRl : Hid (RnLay P (a + 2 + mwN nb) dr) := by have := HLay.out.r; dsimp only at this; rw [if_neg hz, Int.toNat_natCast] at this; exact this
    have HSz : Hid (szN ⟨(nb : Int), dr⟩ = 2 + mwN nb + dr.length) := by show _ = _; unfold szN; dsimp only; rw [if_neg hz, Int.toNat_natCast]
    have HC12 := hid13 (HLay.out.e hz)
    have HSl := hid13 HLay.out.s
    dsimp only at HC12 HSl
    rw [Int.toNat_natCast] at HC12 HSl
    have HML := hid13 (mapL_len nb dr)
    have HMh := hid13 (mwN_hi nb hb1)
    have K1 := put_any16 w0 C G cap code vp P 1 (nb : Int) (.slice none 0 0) [] _ H1.out (nil_rwx16 _) (by simp) HC12.out.1 (by have := HF.out.1; have := HSz.out; simp; omega)
    have w1l : (code ++ wdB 1 nb []).length = code.length + 4 := by rw [List.length_append, wdB_len]; rfl
    simp only [Int.toNat_natCast, show (1 : Int).toNat = 1 from rfl] at K1
    obtain ⟨a0, a1⟩ := HA1.out
    clear HLay HLn
    go_enter Try.func38, Try.ntmps38
    go_wp2_with fail
    refine K1.mono ?_
    rintro e w2 ⟨rfl, hL2, hX2⟩
    have H2 := hid13 hL2
    have X2 := hid13 (X1.out.trans hX2)
    have HA2 : Hid (AtD w2 w.heap.size (nb : Int) (.slice vo dr.length vc)) := ⟨hX2.cell HW.out HA1.out.1, hX2.cell HW.out HA1.out.2⟩
    obtain ⟨b0, b1⟩ := HA2.out
    clear K1 hL2 hX2 H1 X1 HA1 a0 a1
    have HC3 : Hid (LdV w0 C G cap (code ++ wdB 1 nb []) vp P w2.drew ∧ KX (LdX C G) w w2.drew ∧ AtD w2.drew w.heap.size (nb : Int) (.slice vo dr.length vc)) := ⟨H2.out.below (Below.refl _ _).drew, X2.out.below (Below.refl _ _).drew, HA2.out.below (Below.refl _ _).drew⟩
    go_wp2_with fail
    refine gh_region (γ := Option Addr × Nat) (qpOk 7 7 (by decide) (fun N => by kernel_rfl) (by kernel_rfl) (by kernel_rfl) (by kernel_rfl) (by kernel_rfl)) (by kernel_rfl) (by kernel_rfl) [some 15, some 16, some 17, some 18, some 19, some 20, some 21] (fun g => [.pointer (some ⟨C, 0, none⟩), .pointer (some ⟨w.heap.size, 0, none⟩), .int .i64 (nb : Int), .agg #[.int .i64 (nb : Int), .slice vo dr.length vc], .slice g.1 (mapL nb dr).length g.2, .agg #[.int .i64 2, .int .i64 (nb : Int), .slice g.1 (mapL nb dr).length g.2], .tuple #[]]) (by kernel_rfl) (by simp) (fun lp g X => RN3 (fun X => LdV w0 C G cap (code ++ wdB 1 nb []) vp P X ∧ KX (LdX C G) w X ∧ AtD X w.heap.size (nb : Int) (.slice vo dr.length vc)) (fun g X => RwX cU X (.slice g.1 (mapL nb dr).length g.2) (mapL nb dr)) (fun X => LdV w0 C G cap ((code ++ wdB 1 nb []) ++ wdB 2 nb (mapL nb dr)) vp P X ∧ KX (LdX C G) w X ∧ X.cell? ⟨w.heap.size, 1, none⟩ = some (.slice vo dr.length vc)) (lp.getD 0 false) (lp.getD 1 false) (lp.getD 2 false) (lp.getD 3 false) (lp.getD 4 false) (lp.getD 5 false) (lp.getD 6 false) g X) (none, 0) ⟨fun _ => ⟨HC3.out, fun h => (by simp at h)⟩, fun h => (by simp at h), fun h => (by simp at h), fun h => (by simp at h), fun h => (by simp at h)⟩ ?step3 ?fin3
    case step3 =>
      intro q o lp g w' a' ho hsz hun hdep hR hS K Q' hK
      have hfl : ∀ j, j ≠ q → (lp.setIfInBounds q true).getD j false = lp.getD j false := fun j hj => by rw [Array.getD_eq_getD_getElem?, Array.getD_eq_getD_getElem?, Array.getElem?_setIfInBounds_ne (by omega)]
      have hq : q < 7 := (List.getElem?_eq_some_iff.mp ho).1
      match q, ho, hun, hdep, hK, hfl, hq with
      | 0, ho, hun, hdep, hK, hfl, _ =>
        obtain rfl := Option.some.inj ho
        have o0 : a'.tmps[0]? = some (.pointer (some ⟨C, 0, none⟩)) := (hS.old14 0 (by simp)).trans rfl
        have f6 : lp.getD 6 false = false := by
          cases hh : lp.getD 6 false
          · rfl
          · have := (hR.z hh).2.1; rw [hun] at this; cases this
        have hK' := hK g w' (fun _ _ _ _ _ _ => rfl) (by rw [hfl 1 (by decide), hfl 2 (by decide), hfl 3 (by decide), hfl 4 (by decide), hfl 5 (by decide), hfl 6 (by decide), getD_set_same (by rw [hsz]; decide)]; exact ⟨hR.a, fun hh => absurd hh (by rw [f6]; decide), hR.d2, hR.d4, hR.d5⟩) (.pointer (some ⟨C, 0, none⟩)) (by simp only [valO, Option.bind_some]; (try simp only [putAll, Act.put, List.setIfInBounds_toArray, List.set_cons_zero, List.set_cons_succ]); (try rfl))
        clear hS hdep hR
        refine gh_quiet14 (v := .pointer (some ⟨C, 0, none⟩)) ?_ ?_
        · (simp only [execOp, Act.eval, o0]; go_simp; first | done | (simp; done) | (simp [*]; done) | omega | (rw [IntKind.wrap_i64]; omega))
        · exact hK'
      | 1, ho, hun, hdep, hK, hfl, _ =>
        obtain rfl := Option.some.inj ho
        have o3 : a'.tmps[3]? = some (.pointer (some ⟨w.heap.size, 0, none⟩)) := (hS.old14 3 (by simp)).trans rfl
        have f6 : lp.getD 6 false = false := by
          cases hh : lp.getD 6 false
          · rfl
          · have := (hR.z hh).2.2.1; rw [hun] at this; cases this
        have hK' := hK g w' (fun _ _ _ _ _ _ => rfl) (by rw [hfl 0 (by decide), hfl 2 (by decide), hfl 3 (by decide), hfl 4 (by decide), hfl 5 (by decide), hfl 6 (by decide), getD_set_same (by rw [hsz]; decide)]; exact ⟨hR.a, fun hh => absurd hh (by rw [f6]; decide), fun _ => rfl, hR.d4, hR.d5⟩) (.pointer (some ⟨w.heap.size, 0, none⟩)) (by simp only [valO, Option.bind_some]; (try simp only [putAll, Act.put, List.setIfInBounds_toArray, List.set_cons_zero, List.set_cons_succ]); (try rfl))
        clear hS hdep hR
        refine gh_quiet14 (v := .pointer (some ⟨w.heap.size, 0, none⟩)) ?_ ?_
        · (simp only [execOp, Act.eval, o3]; go_simp; first | done | (simp; done) | (simp [*]; done) | omega | (rw [IntKind.wrap_i64]; omega))
        · exact hK'
      | 2, ho, hun, hdep, hK, hfl, _ =>
        obtain rfl := Option.some.inj ho
        have d1 : lp.getD 1 false = true := hdep { on := 1, ground := .data } (by simp) rfl
        have e16 : a'.tmps[16]? = some (.pointer (some ⟨w.heap.size, 0, none⟩)) := (hS.don 1 _ 16 rfl d1 rfl).trans (by simp only [putAll, Act.put, List.setIfInBounds_toArray, List.set_cons_zero, List.set_cons_succ]; rfl)
        have f6 : lp.getD 6 false = false := by
          cases hh : lp.getD 6 false
          · rfl
          · have := (hR.z hh).2.2.2.1; rw [hun] at this; cases this
        obtain ⟨c0, c1⟩ := (hR.a f6).1.2.2
        have hK' := hK g w' (fun _ _ _ _ _ _ => rfl) (by rw [hfl 0 (by decide), hfl 1 (by decide), hfl 3 (by decide), hfl 4 (by decide), hfl 5 (by decide), hfl 6 (by decide), getD_set_same (by rw [hsz]; decide)]; exact ⟨hR.a, fun hh => absurd hh (by rw [f6]; decide), fun _ => d1, hR.d4, fun hh => ⟨rfl, (hR.d5 hh).2⟩⟩) (.int .i64 (nb : Int)) (by simp only [valO, Option.bind_some]; (try simp only [putAll, Act.put, List.setIfInBounds_toArray, List.set_cons_zero, List.set_cons_succ]); (try rfl))
        clear hS hdep hR
        refine gh_quiet14 (v := .int .i64 (nb : Int)) ?_ ?_
        · (simp only [execOp, Act.eval, e16]; go_simp; first | done | (simp; done) | (simp [*]; done) | omega | (rw [IntKind.wrap_i64]; omega))
        · exact hK'
      | 3, ho, hun, hdep, hK, hfl, _ =>
        obtain rfl := Option.some.inj ho
        have o3 : a'.tmps[3]? = some (.pointer (some ⟨w.heap.size, 0, none⟩)) := (hS.old14 3 (by simp)).trans rfl
        have f6 : lp.getD 6 false = false := by
          cases hh : lp.getD 6 false
          · rfl
          · have := (hR.z hh).2.2.2.2.1; rw [hun] at this; cases this
        obtain ⟨c0, c1⟩ := (hR.a f6).1.2.2
        have hK' := hK g w' (fun _ _ _ _ _ _ => rfl) (by rw [hfl 0 (by decide), hfl 1 (by decide), hfl 2 (by decide), hfl 4 (by decide), hfl 5 (by decide), hfl 6 (by decide), getD_set_same (by rw [hsz]; decide)]; exact ⟨hR.a, fun hh => absurd hh (by rw [f6]; decide), hR.d2, fun _ => rfl, hR.d5⟩) (.agg #[.int .i64 (nb : Int), .slice vo dr.length vc]) (by simp only [valO, Option.bind_some]; (try simp only [putAll, Act.put, List.setIfInBounds_toArray, List.set_cons_zero, List.set_cons_succ]); (try rfl))
        clear hS hdep hR
        refine gh_quiet14 (v := .agg #[.int .i64 (nb : Int), .slice vo dr.length vc]) ?_ ?_
        · (simp only [execOp, Act.eval, o3]; go_simp; first | done | (simp; done) | (simp [*]; done) | omega | (rw [IntKind.wrap_i64]; omega))
        · exact hK'
      | 4, ho, hun, hdep, hK, hfl, _ =>
        obtain rfl := Option.some.inj ho
        have d3 : lp.getD 3 false = true := hdep { on := 3, ground := .data } (by simp) rfl
        have e18 : a'.tmps[18]? = some (.agg #[.int .i64 (nb : Int), .slice vo dr.length vc]) := (hS.don 3 _ 18 rfl d3 rfl).trans (by simp only [putAll, Act.put, List.setIfInBounds_toArray, List.set_cons_zero, List.set_cons_succ]; rfl)
        have f6 : lp.getD 6 false = false := by
          cases hh : lp.getD 6 false
          · rfl
          · have := (hR.z hh).2.2.2.2.2.1; rw [hun] at this; cases this
        obtain ⟨p1, p2, p3⟩ := (hR.a f6).1
        have h5 : lp.getD 5 false = false := by
          cases hh : lp.getD 5 false
          · rfl
          · have := (hR.d5 hh).2; rw [hun] at this; cases this
        have KE := mapOf_any nb (.slice vo dr.length vc) dr w' (HR.out.below p1.b) hb1 hl HSl.out
        clear hdep
        unfold Oper.wp
        simp only [execOp, Act.eval]
        simp [go_sem, e18, Oper.upon]
        refine KE.mono ?_
        rintro e W2 ⟨v2, rfl, hO2, hb2⟩
        obtain ⟨ao2, c2, hv2⟩ := own_form hO2
        subst hv2
        exact hK (ao2, c2) W2 (fun k ok s hk hl hd => by
          have hk5 : k ≠ 5 := by rintro rfl; rw [h5] at hl; cases hl
          have hk4 : k ≠ 4 := by rintro rfl; rw [hun] at hl; cases hl
          have hs19 : s ≠ 19 := by rintro rfl; exact hk4 (dstG_of (by kernel_rfl) k 4 ok _ 19 hk rfl hd rfl)
          have hs20 : s ≠ 20 := by rintro rfl; exact hk5 (dstG_of (by kernel_rfl) k 5 ok _ 20 hk rfl hd rfl)
          exact gh_same16 (d := 19) (s := s) (by simp only [putAll, Act.put, List.setIfInBounds_toArray, List.set_cons_zero, List.set_cons_succ]; rfl) hs19 hs20) (by rw [hfl 0 (by decide), hfl 1 (by decide), hfl 2 (by decide), hfl 3 (by decide), hfl 5 (by decide), hfl 6 (by decide), getD_set_same (by rw [hsz]; decide), f6, h5]; exact ⟨fun _ => ⟨⟨p1.below hb2, p2.below hb2, p3.below hb2⟩, fun _ => own_rwx hO2⟩, fun h => (by cases h), hR.d2, fun _ => d3, fun h => (by cases h)⟩) _ (by simp only [valO, Option.bind_some]; simp only [putAll, Act.put, List.setIfInBounds_toArray, List.set_cons_zero, List.set_cons_succ]; rfl)
      | 5, ho, hun, hdep, hK, hfl, _ =>
        obtain rfl := Option.some.inj ho
        have d2 : lp.getD 2 false = true := hdep { on := 2, ground := .data } (by simp) rfl
        have e17 : a'.tmps[17]? = some (.int .i64 (nb : Int)) := (hS.don 2 _ 17 rfl d2 rfl).trans (by simp only [putAll, Act.put, List.setIfInBounds_toArray, List.set_cons_zero, List.set_cons_succ]; rfl)
        have d4 : lp.getD 4 false = true := hdep { on := 4, ground := .data } (by simp) rfl
        have e19 : a'.tmps[19]? = some (.slice g.1 (mapL nb dr).length g.2) := (hS.don 4 _ 19 rfl d4 rfl).trans (by simp only [putAll, Act.put, List.setIfInBounds_toArray, List.set_cons_zero, List.set_cons_succ]; rfl)
        have f6 : lp.getD 6 false = false := by
          cases hh : lp.getD 6 false
          · rfl
          · have := (hR.z hh).2.2.2.2.2.2; rw [hun] at this; cases this
        have hK' := hK g w' (fun _ _ _ _ _ _ => rfl) (by rw [hfl 0 (by decide), hfl 1 (by decide), hfl 2 (by decide), hfl 3 (by decide), hfl 4 (by decide), hfl 6 (by decide), getD_set_same (by rw [hsz]; decide)]; exact ⟨hR.a, fun hh => absurd hh (by rw [f6]; decide), hR.d2, hR.d4, fun _ => ⟨d2, d4⟩⟩) (.agg #[.int .i64 2, .int .i64 (nb : Int), .slice g.1 (mapL nb dr).length g.2]) (by simp only [valO, Option.bind_some]; (try simp only [putAll, Act.put, List.setIfInBounds_toArray, List.set_cons_zero, List.set_cons_succ]); (try rfl))
        clear hS hdep hR
        refine gh_quiet14 (v := .agg #[.int .i64 2, .int .i64 (nb : Int), .slice g.1 (mapL nb dr).length g.2]) ?_ ?_
        · (simp only [execOp, Act.eval, e17, e19]; go_simp; first | done | (simp; done) | (simp [*]; done) | omega | (rw [IntKind.wrap_i64]; omega))
        · exact hK'
      | 6, ho, hun, hdep, hK, hfl, _ =>
        obtain rfl := Option.some.inj ho
        have d0 : lp.getD 0 false = true := hdep { on := 0, ground := .data } (by simp) rfl
        have e15 : a'.tmps[15]? = some (.pointer (some ⟨C, 0, none⟩)) := (hS.don 0 _ 15 rfl d0 rfl).trans (by simp only [putAll, Act.put, List.setIfInBounds_toArray, List.set_cons_zero, List.set_cons_succ]; rfl)
        have d5 : lp.getD 5 false = true := hdep { on := 5, ground := .data } (by simp) rfl
        have e20 : a'.tmps[20]? = some (.agg #[.int .i64 2, .int .i64 (nb : Int), .slice g.1 (mapL nb dr).length g.2]) := (hS.don 5 _ 20 rfl d5 rfl).trans (by simp only [putAll, Act.put, List.setIfInBounds_toArray, List.set_cons_zero, List.set_cons_succ]; rfl)
        obtain ⟨d2, d4⟩ := hR.d5 d5
        have d1 := hR.d2 d2
        have d3 := hR.d4 d4
        obtain ⟨⟨p1, p2, p3⟩, pm⟩ := hR.a hun
        have KE := put_any16 w0 C G cap (code ++ wdB 1 nb []) vp P 2 (nb : Int) (.slice g.1 (mapL nb dr).length g.2) (mapL nb dr) w' p1 (pm d4) (by rw [HML.out]; have := HMh.out; omega) HC12.out.2 (by rw [w1l, HML.out]; have := HF.out.1; have := HSz.out; omega)
        clear hdep
        unfold Oper.wp
        simp only [execOp, Act.eval]
        simp [go_sem, e15, e20, Oper.upon]
        refine KE.mono ?_
        rintro e W2 ⟨rfl, hL2, hX2⟩
        exact hK g W2 (fun _ _ _ _ _ _ => rfl) (by rw [hfl 0 (by decide), hfl 1 (by decide), hfl 2 (by decide), hfl 3 (by decide), hfl 4 (by decide), hfl 5 (by decide), getD_set_same (by rw [hsz]; decide)]; exact ⟨fun h => (by cases h), fun _ => ⟨⟨hL2, p2.trans hX2, hX2.cell HW.out p3.2⟩, d0, d1, d2, d3, d4, d5⟩, fun _ => d1, fun _ => d3, fun _ => ⟨d2, d4⟩⟩) _ (by simp only [valO, Option.bind_some]; (try simp only [putAll, Act.put, List.setIfInBounds_toArray, List.set_cons_zero, List.set_cons_succ]); (try rfl))
      | n + 7, ho, hun, hdep, hK, hfl, hq => exact absurd hq (by omega)
    case fin3 =>
      intro g V2 hR
      obtain ⟨⟨hLz, hXz, b1'⟩, -⟩ := hR.z (by simp)
      have HLz := hid13 hLz
      have HXz := hid13 hXz
      clear hR hLz hXz HC3
      simp only [putAll, Act.put, List.setIfInBounds_toArray, List.set_cons_zero, List.set_cons_succ]
      refine wl_nil16 (P := Try.prog) (ops := #[]) ?_
      go_wp2_with fail
      have HP0 : Hid (((code ++ wdB 1 nb []) ++ wdB 2 nb (mapL nb dr)).length = 4 * (a + 2 + mwN nb)) := (by show _ = _; rw [List.length_append, w1l, wdB_len, HML.out]; have := HF.out.2.2; omega)
      have HFit : Hid (4 * (a + 2 + mwN nb + dr.length) ≤ cap ∧ cap ≤ 1000000000) := (by have := HF.out; have := HSz.out; show _ ∧ _; omega)
      have HFin : Hid (((code ++ wdB 1 nb []) ++ wdB 2 nb (mapL nb dr)) ++ rnB P (a + 2 + mwN nb) dr = code ++ ndB P a ⟨(nb : Int), dr⟩) := (by show _ = _; rw [HE.out]; simp only [List.append_assoc])
      obtain ⟨FIN, hFIN⟩ : ∃ FIN, FIN = code ++ ndB P a ⟨(nb : Int), dr⟩ := ⟨_, rfl⟩
      have HFe := hid13 hFIN
      rw [← hFIN] at HFin
      clear hFIN
      generalize ((code ++ wdB 1 nb []) ++ wdB 2 nb (mapL nb dr)) = code0 at *
      generalize a + 2 + mwN nb = p0 at *
      go_loopw [25] (fun x25 wr => ∃ (k : Nat), x25 = .int .i64 (k : Int) ∧ Hid (k ≤ dr.length ∧ ∃ cd : List Nat, cd.length = 4 * (p0 + k) ∧ cd ++ rnB P (p0 + k) (dr.drop k) = FIN ∧ LdV w0 C G cap cd vp P wr ∧ KX (LdX C G) w wr)) (fun x25 _ => dr.length - (intOf x25).toNat)
      case atStart => exact ⟨0, rfl, hid13 ⟨Nat.zero_le _, code0, HP0.out, HFin.out, HLz.out, HXz.out⟩⟩
      case round =>
        clear HLz HXz
        obtain ⟨k, rfl, HI⟩ := hrel
        obtain ⟨hkl, cd, HI2⟩ := HI.out
        replace HI2 := hid13 HI2
        clear HI
        by_cases hlt : k < dr.length
        · have hli : (k : Int) < (dr.length : Int) := by omega
          obtain ⟨r, hr⟩ : ∃ r, dr[k]? = some r := ⟨dr[k], by simp [hlt]⟩
          obtain ⟨bb, off, hao, hcell⟩ : ∃ b off, vo = some ⟨b, off, none⟩ ∧ ∀ j r, dr[j]? = some r → RnAt w0 b (off + j * 4) r := by
            obtain ⟨ao', c', e, hc', hr'⟩ := HR.out
            injection e with e1 e2 e3
            subst e1
            rcases hr' with h | h
            · rw [h] at hlt; simp at hlt
            · exact h
          subst hao
          obtain ⟨r0, r1, r2, r3⟩ := hcell k r hr
          have r0 := keepc HI2.out.2.2.1.b r0
          have r1 := keepc HI2.out.2.2.1.b r1
          have r2 := keepc HI2.out.2.2.1.b r2
          have r3 := keepc HI2.out.2.2.1.b r3
          obtain ⟨hchk, hkid⟩ := HRl.out k r hr
          have HT := hid13 (rnB_drop P dr p0 k r hr)
          have HChk := hid13 hchk
          have HJ : Hid (k < dr.length ∧ dr.length ≤ 1000000000) := ⟨hlt, hl⟩
          have mk : IntKind.i64.wrap ((k : Int) + 1) = ((k + 1 : Nat) : Int) := by rw [IntKind.wrap_i64]; push_cast; omega
          have q5 := bl1 wr (.cells #[.int .u64 (hI r.f), .int .u64 (lI r.f), .bool r.k, .int .i64 r.n] 50)
          have KA := fun w => laidAs_any C r w
          have HL5 := hid13 (HI2.out.2.2.1.below q5)
          have HX5 := hid13 (HI2.out.2.2.2.below q5)
          have HR5 := hid13 (rnat_new wr r 50)
          have HCd : Hid (cd.length = 4 * (p0 + k)) := HI2.out.1
          have HEq := hid13 HI2.out.2.1
          unfold rnV at KA
          clear hr hcell hchk hlt q5 HI2
          cases hk : r.k with
          | true =>
            obtain ⟨kn, y, hn, hy, hy0, hy1⟩ := hkid hk
            rw [hk] at KA r2 HR5 HL5 HX5
            simp only [if_true] at KA
            have HV : Hid (rnO r = 3 ∧ rnI P (p0 + k) r = y - ((p0 + k : Nat) : Int)) := by
              unfold rnO rnI
              rw [hk]
              refine ⟨rfl, ?_⟩
              simp only [if_true]
              rw [hn, Int.toNat_natCast, List.getD_eq_getElem?_getD, hy]; rfl
            rw [HV.out.1, HV.out.2] at HChk HT
            have KJ := fun w h => jump_any w0 C G cap cd vp P kn y w h hy (by have := HCd.out; have := HFit.out; have := HJ.out; omega) hy0 hy1
            have hc4 : cd.length / 4 = p0 + k := by have := HCd.out; omega
            rw [hc4] at KJ
            rw [hn] at KA r3 HR5 HL5 HX5
            generalize y - ((p0 + k : Nat) : Int) = z at *
            clear hkid hk hc4 hy hy0 hy1
            go_wp2_with fail
            refine (KA _).mono ?_
            rintro e w3 ⟨rfl, hb3⟩
            have HL6 := hid13 (HL5.out.below hb3)
            have HX6 := hid13 (HX5.out.below hb3)
            have n3 : w3.cell? ⟨wr.heap.size, 3, none⟩ = some (.int .i64 (kn : Int)) := keepc hb3 (by simp [go_sem])
            have KJ6 := KJ _ HL6.out
            clear KA hb3 r0 r1 r2 r3 HL5 HX5 HR5 KJ
            go_wp2_with fail
            refine KJ6.mono ?_
            rintro e w4 ⟨rfl, hb4⟩
            have HL7 := hid13 (HL6.out.below hb4)
            have HX7 := hid13 (HX6.out.below hb4)
            have KP := put_any16 w0 C G cap cd vp P 3 z (.slice none 0 0) [] w4 HL7.out (nil_rwx16 _) (by simp) HChk.out (by have := HCd.out; have := HFit.out; have := HJ.out; simp; omega)
            clear KJ6 hb4 n3 HL6 HX6
            go_wp2_with fail
            refine KP.mono ?_
            rintro e w5 ⟨rfl, hL8, hX8⟩
            have HL8 := hid13 hL8
            have HX8 := hid13 (HX7.out.trans hX8)
            have HLn8 : Hid ((cd ++ wdB 3 z.toNat []).length = 4 * (p0 + (k + 1))) := by show _ = _; rw [List.length_append, wdB_len, HCd.out]; simp; omega
            have HEq8 : Hid ((cd ++ wdB 3 z.toNat []) ++ rnB P (p0 + (k + 1)) (dr.drop (k + 1)) = FIN) := by show _ = _; rw [List.append_assoc, ← HEq.out, HT.out]; rfl
            clear KP hL8 hX8 HL7 HX7
            go_wp2
            go_roundw
            case rel => exact ⟨k + 1, by first | rfl | simp, hid13 ⟨by have := HJ.out; omega, _, HLn8.out, HEq8.out, HL8.out, HX8.out⟩⟩
            case measure => have := HJ.out; first | (simp [intOf]; done) | (simp [intOf]; omega) | (unfold intOf; simp; omega)
          | false =>
            rw [hk] at KA r2 HR5 HL5 HX5
            simp only [Bool.false_eq_true, if_false] at KA
            have HV : Hid (rnO r = 4 ∧ rnI P (p0 + k) r = r.n) := by
              unfold rnO rnI
              rw [hk]
              exact ⟨rfl, rfl⟩
            rw [HV.out.1, HV.out.2] at HChk HT
            have KJ := fun w => answer_any C r.n w
            clear hkid hk
            go_wp2_with fail
            refine (KA _).mono ?_
            rintro e w3 ⟨rfl, hb3⟩
            have HL6 := hid13 (HL5.out.below hb3)
            have HX6 := hid13 (HX5.out.below hb3)
            have n3 : w3.cell? ⟨wr.heap.size, 3, none⟩ = some (.int .i64 r.n) := keepc hb3 (by simp [go_sem])
            clear KA hb3 r0 r1 r2 r3 HL5 HX5 HR5
            go_wp2_with fail
            refine (KJ _).mono ?_
            rintro e w4 ⟨rfl, hb4⟩
            have HL7 := hid13 (HL6.out.below hb4)
            have HX7 := hid13 (HX6.out.below hb4)
            have KP := put_any16 w0 C G cap cd vp P 4 r.n (.slice none 0 0) [] w4 HL7.out (nil_rwx16 _) (by simp) HChk.out (by have := HCd.out; have := HFit.out; have := HJ.out; simp; omega)
            clear KJ hb4 n3 HL6 HX6
            go_wp2_with fail
            refine KP.mono ?_
            rintro e w5 ⟨rfl, hL8, hX8⟩
            have HL8 := hid13 hL8
            have HX8 := hid13 (HX7.out.trans hX8)
            have HLn8 : Hid ((cd ++ wdB 4 r.n.toNat []).length = 4 * (p0 + (k + 1))) := by show _ = _; rw [List.length_append, wdB_len, HCd.out]; simp; omega
            have HEq8 : Hid ((cd ++ wdB 4 r.n.toNat []) ++ rnB P (p0 + (k + 1)) (dr.drop (k + 1)) = FIN) := by show _ = _; rw [List.append_assoc, ← HEq.out, HT.out]; rfl
            clear KP hL8 hX8 HL7 HX7
            go_wp2
            go_roundw
            case rel => exact ⟨k + 1, by first | rfl | simp, hid13 ⟨by have := HJ.out; omega, _, HLn8.out, HEq8.out, HL8.out, HX8.out⟩⟩
            case measure => have := HJ.out; first | (simp [intOf]; done) | (simp [intOf]; omega) | (unfold intOf; simp; omega)
        · have hli : ¬ (k : Int) < (dr.length : Int) := by omega
          have hE : cd = FIN := by have := HI2.out.2.1; rw [List.drop_eq_nil_of_le (by omega)] at this; simpa [rnB] using this
          have HLe : Hid (LdV w0 C G cap FIN vp P wr) := by show LdV _ _ _ _ _ _ _ _; rw [← hE]; exact HI2.out.2.2.1
          have HXe := hid13 HI2.out.2.2.2
          clear HI2 hE
          go_wp2
          go_end0
          exact ⟨rfl, by rw [← HFe.out]; exact HLe.out, HXe.out⟩
end Go.Proofs.Ytdpmhpmnkollaaa
