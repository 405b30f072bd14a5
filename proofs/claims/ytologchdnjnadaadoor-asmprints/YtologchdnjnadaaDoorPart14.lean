/-
  Part 14 of the proof: 3 texts, one behind the other.
-/
import Derived.Test.YtologchdnjnadaaDoorPart13
import Derived.Shelf.Strconv.Itoa3
import Derived.Lib.AppendIntMem
import Derived.Test.YtologchdnjnadaaDoorPart3
import Derived.Test.YtologchdnjnadaaDoorPart2
import Derived.Laws.IdiomStrings
import Derived.Lib.Strings
/-
  Code written as text: writeLine, Print.
-/
namespace Go.Proofs.YtologchdnjnadaaDoor
open Go.RowKit
set_option linter.unusedSimpArgs false
set_option linter.unusedVariables false

/-- The library's table of the powers of ten lies in its variable. -/
def Pow15 (w : World) : Prop := Lib.TabIs Tryd.prog w "internal/strconv.uint64pow10" .u64 Lib.pow10Tab
theorem Pow15.keep {W w' : World} (h : Pow15 W) (hb : Below W.heap.size W w') : Pow15 w' := Lib.tabBelow_of_tabIs h w' hb
theorem itoa15_any (n : Nat) (h1 : n ≤ 16777215) (w : World) (htab : Pow15 w) :
    Calls Tryd.prog 28 #[.int .i64 (n : Int)] w fun e w' => e = .returned (.string ⟨(Lib.decDigits n).toArray⟩) ∧ Below w.heap.size w w' :=
  (Any.strconv_Itoa Tryd.laysM171 (n : Int) (by omega) (by omega) w htab).mono fun e w' ⟨h, k, os, hw⟩ => ⟨by rw [h]; unfold Lib.itoa; rw [if_neg (by omega)]; rfl, by rw [hw]; exact Lib.below_grow _ _ (Nat.le_refl _) k os⟩
/-- The line of what stands at a word, and how many words that has. -/
noncomputable def lnT (l : List Nat) (k : Nat) : List UInt8 := if dcE l k = 0 then nmL (dcI l k).op.toNat ++ [32] ++ Lib.decDigits (dcI l k).n.toNat ++ wdsL (dcI l k).m ++ [10] else nmL 0 ++ wdsL [wdV l k] ++ [10]
noncomputable def lnZ (l : List Nat) (k : Nat) : Nat := if dcE l k = 0 then 1 + (dcI l k).m.length else 1
theorem decD_le : ∀ (d n : Nat), n < 10 ^ (d + 1) → (Lib.decDigits n).length ≤ d + 1
  | 0, n, h => by
    rw [Lib.decDigits_length, Lib.nDigits_small (by simpa using h)]
    exact Nat.le_refl _
  | d + 1, n, h => by
    rw [Lib.decDigits_length]
    by_cases q : n < 10
    · rw [Lib.nDigits_small q]; omega
    · rw [Lib.nDigits_big q]
      have := decD_le d (n / 10) (by rw [Nat.pow_succ] at h; omega)
      rw [Lib.decDigits_length] at this
      omega
theorem decD_len (n : Nat) (h : n ≤ 16777215) : (Lib.decDigits n).length ≤ 100 := by
  have := decD_le 7 n (by have : 10 ^ (7 + 1) = 100000000 := by decide
                          omega)
  omega
theorem nmS_size (j : Nat) (h : j < 5) : (nmS j).size ≤ 10 := by
  have : ∀ j : Fin 5, (nmS j.val).size ≤ 10 := by decide
  exact this ⟨j, h⟩
theorem IsB.lt {b : Nat} {t : List UInt8} {W : World} (h : IsB b t W) : b < W.heap.size := by
  rcases h with h | h <;> exact h.lt
/-- The memory of writeLine. -/
structure WlM (w0 w : World) (I : Nat) (O N : Int) (v : Value) (M : List (BitVec 32)) (t : List UInt8) (W : World) : Prop where
  ib : IsB w0.heap.size t W
  i : W.heap[I]? = some (.cells #[.int .i64 O, .int .i64 N, v] 45)
  m : RwX cU W v M
  a : Apt w0.heap.size v W
  lo : Below w0.heap.size w0 W
  ok : OKb w0.heap.size w W
  ne : I ≠ w0.heap.size
theorem IsB.okB {b : Nat} {t : List UInt8} {W W' : World} (h : IsB b t W) (hb : Below W.heap.size W W') : IsB b t W' := by
  have key : ∀ p, Lib.BuilderAt 40 5 b b p (Lib.byteCells t) W → Lib.BuilderAt 40 5 b b p (Lib.byteCells t) W' := fun p ⟨h1, v, h2, h3, h4⟩ => ⟨h1, v, by rw [hb.block _ (lt_b15 h2)]; exact h2, own_b13 hb h3, h4⟩
  rcases h with h | h
  · exact .inl (key _ h)
  · exact .inr (key _ h)
section
variable {w0 w W W' : World} {I : Nat} {O N : Int} {v : Value} {M : List (BitVec 32)} {t t' : List UInt8}
theorem WlM.step (h : WlM w0 w I O N v M t W) (g : OKb w0.heap.size W W') (ib : IsB w0.heap.size t' W') : WlM w0 w I O N v M t' W' :=
  ⟨ib, g.2 I _ h.i (by intro e; injection e with e; exact h.ne e) (by intro c fz e; injection e with e1 e2 e3; revert e2; decide), g.rwx h.a h.m, h.a.keep g, ⟨by rw [g.1.os, h.lo.os], by rw [g.1.tape, h.lo.tape], by rw [g.1.output, h.lo.output], Nat.le_trans h.lo.size g.1.size, fun z hz => by rw [g.1.block z hz, h.lo.block z hz]⟩, h.ok.trans g, h.ne⟩
theorem WlM.below (h : WlM w0 w I O N v M t W) (hb : Below W.heap.size W W') : WlM w0 w I O N v M t W' := h.step (OKb.ofB hb (Nat.le_of_lt h.ib.lt)) (h.ib.okB hb)
theorem WlM.sz (h : WlM w0 w I O N v M t W) : w0.heap.size ≤ W.heap.size := Nat.le_of_lt h.ib.lt
theorem WlM.c (h : WlM w0 w I O N v M t W) : W.cell? ⟨I, 0, none⟩ = some (.int .i64 O) ∧ W.cell? ⟨I, 1, none⟩ = some (.int .i64 N) ∧ W.cell? ⟨I, 2, none⟩ = some v := ⟨at_b15 h.i 0 _ rfl, at_b15 h.i 1 _ rfl, at_b15 h.i 2 _ rfl⟩
end
theorem apt_own {W : World} {b base : Nat} {v : Value} {n : Nat} {xs : List Value} (h : W.ownsRow base 48 1 v n xs) (hb : b < base) : Apt b v W := fun a m c e => by
  rcases h.2 with ⟨hv, _⟩ | ⟨g, cap, cur, hv, hh⟩
  · rw [hv] at e; cases e
  · rw [hv] at e
    injection e with e1 e2 e3
    injection e1 with e1
    subst e1
    exact .inr ⟨by simp; omega, _, _, hh.2.1⟩
set_option maxHeartbeats 8000000 in
set_option maxRecDepth 20000 in
theorem writeLine_any (w0 : World) (v : Value) (l : List Nat) (k : Nat) (t : List UInt8) (w : World) (hv : RwX cB w0 v l) (hb : Below w0.heap.size w0 w) (hB : IsB w0.heap.size t w) (hN : Nm w0) (hP : Pow15 w0) (hk : k < l.length / 4) (hl : l.length ≤ 100000) (hx : ∀ b ∈ l, b < 256) (ht : t.length ≤ 1000000000) :
    Calls Tryd.prog 14 #[.pointer (some ⟨w0.heap.size, 0, none⟩), v, .int .i64 (k : Int)] w fun e w' => e = .returned (.int .i64 (lnZ l k : Int)) ∧ IsB w0.heap.size (t ++ lnT l k) w' ∧ OKb w0.heap.size w w' := by
  have KD := decode_any v l (k : Int) w (hv.below hb) (by omega) hx
  obtain ⟨ao, cp, hvf, -⟩ := id hv
  have HH : Hid (k < l.length / 4 ∧ l.length ≤ 100000 ∧ t.length ≤ 1000000000) := ⟨hk, hl, ht⟩
  have HX := hid13 hx
  have HV := hid13 hv
  have HN := hid13 hN
  have HP := hid13 hP
  have HB := hid13 hB
  have HLo := hid13 hb
  clear hk hl ht hx hN hP hv hB hb
  by_cases he : dcE l (k : Int) = 0
  · obtain ⟨h1, h2, h3⟩ := enc_dec l (k : Int) HX.out he
    obtain ⟨h4, h5, h6⟩ := chk_zero h1
    have hT : lnT l k = nmL (dcI l k).op.toNat ++ [32] ++ Lib.decDigits (dcI l k).n.toNat ++ wdsL (dcI l k).m ++ [10] := by unfold lnT; rw [if_pos he]
    have hZ : ((lnZ l k : Nat) : Int) = dcZ l (k : Int) := by unfold lnZ dcZ; rw [if_pos he, if_pos he]; omega
    rw [hT, hZ]
    rw [he] at KD
    clear h1 h2 h3 hT hZ he
    generalize dcZ l (k : Int) = z at *
    generalize dcI l (k : Int) = ins at *
    obtain ⟨o', n', M⟩ := ins
    simp only at h4 h5 h6 KD ⊢
    obtain ⟨O, rfl⟩ : ∃ O : Nat, o' = (O : Int) := ⟨o'.toNat, by omega⟩
    obtain ⟨N, rfl⟩ : ∃ N : Nat, n' = (N : Int) := ⟨n'.toNat, by omega⟩
    simp only [Int.toNat_natCast, insV] at KD ⊢
    have HON : Hid (O < 5 ∧ N ≤ 16777215 ∧ M.length ≤ 524288) := ⟨by omega, by omega, h6⟩
    have hO5 : (O : Int) < 5 := by omega
    clear h4 h5 h6
    subst hvf
    go_enter Tryd.func14, Tryd.ntmps14
    go_wp2_with fail
    refine KD.mono ?_
    rintro e w1 ⟨v', rfl, ho, hb1⟩
    have q2 := bl1 w1 (.cells #[.int .i64 (O : Int), .int .i64 (N : Int), v'] 45)
    have HM : Hid (WlM w0 w w1.heap.size O N v' M t (w1.alloc (.cells #[.int .i64 (O : Int), .int .i64 (N : Int), v'] 45))) := hid13 (by
      have hbb := keepb q2 hb1
      have hlt := HB.out.lt
      have hs1 := hb1.size
      refine ⟨HB.out.okB hbb, Array.getElem?_push_size, own_rwx (own_b13 q2 ho), apt_own (own_b13 q2 ho) hlt, keepb hbb HLo.out, OKb.ofB hbb (Nat.le_of_lt hlt), by omega⟩)
    have KS := wstr_any w0.heap.size t (nmS O) _ HM.out.ib (by have h1 := nmS_size O HON.out.1; have := HH.out; omega) HM.out.sz
    have cN := (HN.out.below HM.out.lo) O HON.out.1
    obtain ⟨mo, mc, hvf', -⟩ := id HM.out.m
    subst hvf'
    clear KD ho hb1 q2
    go_wp2_with fail
    refine KS.mono ?_
    rintro e W3 ⟨rfl, h1, h2⟩
    have HM3 : Hid (WlM w0 w w1.heap.size O N (.slice mo M.length mc) M (t ++ nmL O) W3) := hid13 (HM.out.step h2 h1)
    have hnl : (nmL O).length ≤ 10 := nmS_size O HON.out.1
    have KB := wbyte_any w0.heap.size (t ++ nmL O) 32 W3 HM3.out.ib (by have := HH.out; rw [List.length_append]; omega) HM3.out.sz
    clear KS h1 h2 HM cN
    go_wp2_with fail
    refine KB.mono ?_
    rintro e W4 ⟨rfl, h1, h2⟩
    have HM4 : Hid (WlM w0 w w1.heap.size O N (.slice mo M.length mc) M (t ++ nmL O ++ [32]) W4) := hid13 (HM3.out.step h2 h1)
    have c1 := HM4.out.c.2.1
    have KI := itoa15_any N HON.out.2.1 W4 (HP.out.keep HM4.out.lo)
    clear KB h1 h2 HM3
    go_wp2_with fail
    refine KI.mono ?_
    rintro e W5 ⟨rfl, hb5⟩
    have HM5 := hid13 (HM4.out.below hb5)
    have hdl := decD_len N HON.out.2.1
    have KS := wstr_any w0.heap.size (t ++ nmL O ++ [32]) ⟨(Lib.decDigits N).toArray⟩ W5 HM5.out.ib (by have := HH.out; show _ + (Lib.decDigits N).length ≤ _; rw [List.length_append, List.length_append, List.length_singleton]; omega) HM5.out.sz
    clear KI hb5 HM4 c1
    generalize hds : (⟨(Lib.decDigits N).toArray⟩ : ByteArray) = ds at *
    go_wp2_with fail
    refine KS.mono ?_
    rintro e W6 ⟨rfl, h1, h2⟩
    rw [← hds] at h1
    have HM6 : Hid (WlM w0 w w1.heap.size O N (.slice mo M.length mc) M (t ++ nmL O ++ [32] ++ Lib.decDigits N) W6) := hid13 (HM5.out.step h2 h1)
    have c2 := HM6.out.c.2.2
    have KW := wwords_any w0.heap.size (t ++ nmL O ++ [32] ++ Lib.decDigits N) (.slice mo M.length mc) M W6 HM6.out.ib HM6.out.m HM6.out.a (by have := HH.out; have := HON.out; simp only [List.length_append, List.length_singleton]; omega) HM6.out.sz
    clear KS h1 h2 HM5 hds
    go_wp2_with fail
    refine KW.mono ?_
    rintro e W7 ⟨rfl, h1, h2⟩
    have HM7 : Hid (WlM w0 w w1.heap.size O N (.slice mo M.length mc) M (t ++ nmL O ++ [32] ++ Lib.decDigits N ++ wdsL M) W7) := hid13 (HM6.out.step h2 h1)
    have KB := wbyte_any w0.heap.size (t ++ nmL O ++ [32] ++ Lib.decDigits N ++ wdsL M) 10 W7 HM7.out.ib (by have := HH.out; have := HON.out; simp only [List.length_append, List.length_singleton, wdsL_len]; omega) HM7.out.sz
    clear KW h1 h2 HM6 c2
    go_wp2_with fail
    refine KB.mono ?_
    rintro e W8 ⟨rfl, h1, h2⟩
    have HF : Hid (IsB w0.heap.size (t ++ (nmL O ++ [32] ++ Lib.decDigits N ++ wdsL M ++ [10])) W8 ∧ OKb w0.heap.size w W8) := hid13 ⟨by simpa only [List.append_assoc] using h1, HM7.out.ok.trans h2⟩
    clear KB h1 h2 HM7
    go_wp2
    go_ret
    exact ⟨rfl, HF.out.1, HF.out.2⟩
  · have hT : lnT l k = nmL 0 ++ wdsL [wdV l k] ++ [10] := by unfold lnT; rw [if_neg he]
    have hZ : lnZ l k = 1 := by unfold lnZ; rw [if_neg he]
    rw [hT, hZ]
    have hI : dcI l (k : Int) = ⟨0, 0, []⟩ := by unfold dcI; rw [if_neg he]
    rw [hI] at KD
    simp only [insV, List.map_nil, List.length_nil] at KD
    have he1 : (dcE l (k : Int) == 0) = false := by rw [beq_eq_false_iff_ne]; exact he
    clear he hT hZ hI
    generalize dcE l (k : Int) = ee at *
    generalize dcZ l (k : Int) = z at *
    have m1 : IntKind.i64.wrap ((k : Int) * 4) = (k : Int) * 4 := by rw [IntKind.wrap_i64]; have := HH.out; omega
    subst hvf
    go_enter Tryd.func14, Tryd.ntmps14
    go_wp2_with fail
    refine KD.mono ?_
    rintro e w1 ⟨v', rfl, ho, hb1⟩
    have q2 := bl1 w1 (.cells #[.int .i64 0, .int .i64 0, v'] 45)
    have HM : Hid (WlM w0 w w1.heap.size 0 0 v' [] t (w1.alloc (.cells #[.int .i64 0, .int .i64 0, v'] 45))) := hid13 (by
      have hbb := keepb q2 hb1
      have hlt := HB.out.lt
      have hs1 := hb1.size
      refine ⟨HB.out.okB hbb, Array.getElem?_push_size, own_rwx (own_b13 q2 ho), apt_own (own_b13 q2 ho) hlt, keepb hbb HLo.out, OKb.ofB hbb (Nat.le_of_lt hlt), by omega⟩)
    obtain ⟨mo, mc, hvf', -⟩ := id HM.out.m
    subst hvf'
    have KG := get32_any (.slice ao l.length cp) l ((k : Int) * 4) _ (HV.out.below HM.out.lo) (by have := HH.out; omega) HX.out (by have := HH.out; omega) (by have := HH.out; omega)
    have e1 : ((gtN l ((k : Int) * 4) 4 : Nat) : Int) = uI (wdV l k) := by
      rw [wd_uI l k HX.out]
      unfold gtN
      rw [if_pos ⟨by omega, by have := HH.out; omega⟩]
      have : ((k : Int) * 4).toNat = 4 * k := by omega
      rw [this]
    rw [e1] at KG
    clear KD ho hb1 q2 e1
    generalize gtE l ((k : Int) * 4) 4 = e4 at *
    go_wp2_with fail
    refine KG.mono ?_
    rintro e w2 ⟨rfl, hb2⟩
    have HM2 := hid13 (HM.out.below hb2)
    have cN := (HN.out.below HM2.out.lo) 0 (by decide)
    have KS := wstr_any w0.heap.size t (nmS 0) w2 HM2.out.ib (by have h1 := nmS_size 0 (by decide); have := HH.out; omega) HM2.out.sz
    clear KG hb2 HM
    go_wp2_with fail
    refine KS.mono ?_
    rintro e W3 ⟨rfl, h1, h2⟩
    have HM3 : Hid (WlM w0 w w1.heap.size 0 0 (.slice mo 0 mc) [] (t ++ nmL 0) W3) := hid13 (HM2.out.step h2 h1)
    have q3 := bl1 W3 (.cells #[.int .u32 (uI (wdV l k))] 48)
    have HM4 := hid13 (HM3.out.below q3)
    have KW := wwords_any w0.heap.size (t ++ nmL 0) (.slice (some ⟨W3.heap.size, 0, none⟩) 1 1) [wdV l k] (W3.alloc (.cells #[.int .u32 (uI (wdV l k))] 48)) HM4.out.ib ⟨some ⟨W3.heap.size, 0, none⟩, 1, rfl, Nat.le_refl _, .inr ⟨W3.heap.size, 0, rfl, fun j x hj => by
      match j, hj with
      | 0, hj => simp at hj; subst hj; simp [cU]⟩⟩ (fun a n c e => by
        injection e with e1 e2 e3
        injection e1 with e1
        subst e1
        exact .inr ⟨by have := HM3.out.ib.lt; simp; omega, _, _, Array.getElem?_push_size⟩) (by have := HH.out; have h1 : (nmL 0).length = 4 := rfl; rw [List.length_append, h1]; simp; omega) HM4.out.sz
    clear KS h1 h2 HM2 cN q3
    go_wp2_with fail
    refine KW.mono ?_
    rintro e W7 ⟨rfl, h1, h2⟩
    have HM7 : Hid (WlM w0 w w1.heap.size 0 0 (.slice mo 0 mc) [] (t ++ nmL 0 ++ wdsL [wdV l k]) W7) := hid13 (HM4.out.step h2 h1)
    have KB := wbyte_any w0.heap.size (t ++ nmL 0 ++ wdsL [wdV l k]) 10 W7 HM7.out.ib (by have := HH.out; have h1 : (nmL 0).length = 4 := rfl; simp only [List.length_append, h1, wdsL_len, List.length_singleton]; omega) HM7.out.sz
    clear KW h1 h2 HM3 HM4
    go_wp2_with fail
    refine KB.mono ?_
    rintro e W8 ⟨rfl, h1, h2⟩
    have HF : Hid (IsB w0.heap.size (t ++ (nmL 0 ++ wdsL [wdV l k] ++ [10])) W8 ∧ OKb w0.heap.size w W8) := hid13 ⟨by simpa only [List.append_assoc] using h1, HM7.out.ok.trans h2⟩
    clear KB h1 h2 HM7
    go_wp2
    go_ret
    exact ⟨rfl, HF.out.1, HF.out.2⟩
/-- The lines from a word on. -/
noncomputable def prL (l : List Nat) : Nat → Nat → List UInt8
  | 0, _ => []
  | f + 1, k => if k < l.length / 4 then lnT l k ++ prL l f (k + lnZ l k) else []
noncomputable def prT (l : List Nat) : List UInt8 := if l.length % 4 = 0 then prL l (l.length / 4 + 1) 0 else []
def prE (l : List Nat) : Int := if l.length % 4 = 0 then 0 else 30
theorem lnT_len (l : List Nat) (k : Nat) (hx : ∀ b ∈ l, b < 256) : (lnT l k).length ≤ 130 * lnZ l k := by
  unfold lnT lnZ
  by_cases h : dcE l (k : Int) = 0
  · rw [if_pos h, if_pos h]
    obtain ⟨h1, -, -⟩ := enc_dec l (k : Int) hx h
    obtain ⟨h4, h5, h6⟩ := chk_zero h1
    have e1 := decD_len (dcI l k).n.toNat (by omega)
    have e2 : (nmL (dcI l k).op.toNat).length ≤ 10 := nmS_size _ (by omega)
    simp only [List.length_append, List.length_singleton, wdsL_len]
    omega
  · rw [if_neg h, if_neg h]
    simp only [List.length_append, List.length_singleton, wdsL_len]
    have : (nmL 0).length = 4 := rfl
    omega
theorem lnZ_le (l : List Nat) (k : Nat) (hx : ∀ b ∈ l, b < 256) (hk : k < l.length / 4) : 1 ≤ lnZ l k ∧ k + lnZ l k ≤ l.length / 4 := by
  unfold lnZ
  by_cases h : dcE l (k : Int) = 0
  · rw [if_pos h]
    obtain ⟨-, -, h3⟩ := enc_dec l (k : Int) hx h
    rw [Int.toNat_natCast] at h3
    omega
  · rw [if_neg h]; omega
set_option maxHeartbeats 4000000 in
theorem print15_any (v : Value) (l : List Nat) (w : World) (hv : RwX cB w v l) (hN : Nm w) (hP : Pow15 w) (hl : l.length ≤ 100000) (hx : ∀ b ∈ l, b < 256) :
    Calls Tryd.prog 9 #[v] w fun e w' => e = .returned (.tuple #[.string ⟨(prT l).toArray⟩, .int .i64 (prE l)]) ∧ Below w.heap.size w w' := by
  obtain ⟨ao, cp, rfl, -⟩ := id hv
  have m0 : ((l.length : Nat) : Int).tmod 4 = ((l.length % 4 : Nat) : Int) := by rw [Int.tmod_eq_emod_of_nonneg (by omega)]; omega
  by_cases h4 : l.length % 4 = 0
  · have hT : prT l = prL l (l.length / 4 + 1) 0 := by unfold prT; rw [if_pos h4]
    have hE : prE l = 0 := by unfold prE; rw [if_pos h4]
    rw [hE]
    rw [h4] at m0
    obtain ⟨Q, hQ⟩ : ∃ Q, Q = l.length / 4 := ⟨_, rfl⟩
    have m1 : ((l.length : Nat) : Int).tdiv 4 = (Q : Int) := by rw [Int.tdiv_eq_ediv_of_nonneg (by omega)]; omega
    have m1' : ((l.length : Nat) : Int) / 4 = (Q : Int) := by omega
    have m0' : ((l.length : Nat) : Int) % 4 = 0 := by omega
    have mQ : wrap64 (Q : Int) = (Q : Int) := by unfold wrap64; omega
    have q1 := bl1 w (.cells #[.pointer none, .slice none 0 0] 40)
    have HS0 : Hid (IsB w.heap.size [] (w.alloc (.cells #[.pointer none, .slice none 0 0] 40)) ∧ Below w.heap.size w (w.alloc (.cells #[.pointer none, .slice none 0 0] 40)) ∧ [] ++ prL l (Q + 1) 0 = prT l) := hid13 ⟨Lib.fresh_isBuilder _ _ _, q1, by rw [hT, hQ]; rfl⟩
    have HQ : Hid (Q = l.length / 4 ∧ l.length ≤ 100000) := ⟨hQ, hl⟩
    have HV := hid13 hv
    have HN := hid13 hN
    have HP := hid13 hP
    have HX := hid13 hx
    clear hv hN hP hl hx h4 hT hE hQ q1
    go_enter Tryd.func9, Tryd.ntmps9
    go_wp2
    go_loopg [5] (Q + 1) (fun g x5 wr => ∃ (k : Nat) (t : List UInt8), x5 = .int .i64 (k : Int) ∧ Hid (IsB w.heap.size t wr ∧ Below w.heap.size w wr ∧ t ++ prL l g k = prT l ∧ Q - k < g ∧ k ≤ Q ∧ t.length ≤ 130 * k))
    case atStart => exact ⟨0, [], rfl, hid13 ⟨HS0.out.1, HS0.out.2.1, HS0.out.2.2, by omega, by omega, by simp⟩⟩
    case round =>
      clear HS0
      obtain ⟨k, t, rfl, HS⟩ := hrel
      obtain ⟨f, rfl⟩ : ∃ f, gk = f + 1 := ⟨gk - 1, by have := HS.out.2.2.2.1; omega⟩
      by_cases hlt : k < Q
      · have hli : (k : Int) < (Q : Int) := by omega
        have hkq : k < l.length / 4 := by have := HQ.out; omega
        have hz := lnZ_le l k HX.out hkq
        have hln := lnT_len l k HX.out
        have KW := writeLine_any w (.slice ao l.length cp) l k t wr HV.out HS.out.2.1 HS.out.1 HN.out HP.out hkq HQ.out.2 HX.out (by have := HS.out; have := HQ.out; omega)
        have hpr : prL l (f + 1) k = lnT l k ++ prL l f (k + lnZ l k) := by
          show (if k < l.length / 4 then _ else _) = _
          rw [if_pos hkq]
        have HPr := hid13 hpr
        have HZ : Hid (1 ≤ lnZ l k ∧ k + lnZ l k ≤ Q ∧ (lnT l k).length ≤ 130 * lnZ l k ∧ k < Q) := ⟨hz.1, by have := HQ.out; omega, hln, hlt⟩
        clear hz hln hkq hpr hlt
        generalize lnZ l k = z at *
        generalize lnT l k = T at *
        have mz : IntKind.i64.wrap ((k : Int) + (z : Int)) = (k : Int) + (z : Int) := by rw [IntKind.wrap_i64]; have := HZ.out; have := HQ.out; omega
        go_wp2_with fail
        refine KW.mono ?_
        rintro e w1 ⟨rfl, h1, h2⟩
        have H1 : Hid (IsB w.heap.size (t ++ T) w1 ∧ Below w.heap.size w w1) := ⟨h1, ⟨by rw [h2.1.os, HS.out.2.1.os], by rw [h2.1.tape, HS.out.2.1.tape], by rw [h2.1.output, HS.out.2.1.output], Nat.le_trans HS.out.2.1.size h2.1.size, fun z hz => by rw [h2.1.block z hz, HS.out.2.1.block z hz]⟩⟩
        clear KW h1 h2
        go_wp2
        go_roundg f
        case measure => omega
        case rel => exact ⟨k + z, t ++ T, rfl, hid13 ⟨H1.out.1, H1.out.2, by rw [← HS.out.2.2.1, HPr.out, List.append_assoc], by have := HS.out; have := HZ.out; omega, HZ.out.2.1, by have := HS.out; have := HZ.out; rw [List.length_append]; omega⟩⟩
      · have hli : ¬ (k : Int) < (Q : Int) := by omega
        have hR : t = prT l := by
          have := HS.out.2.2.1
          rw [show prL l (f + 1) k = (if k < l.length / 4 then lnT l k ++ prL l f (k + lnZ l k) else []) from rfl, if_neg (by have := HQ.out; omega), List.append_nil] at this
          exact this
        have KS := bstr_any w.heap.size t wr HS.out.1 (Nat.le_of_lt HS.out.1.lt)
        obtain ⟨tt, htt⟩ : ∃ tt, tt = prT l := ⟨_, rfl⟩
        rw [hR, ← htt] at KS
        have HTT := hid13 htt
        have HLo := hid13 HS.out.2.1
        clear HS hlt hR htt
        go_wp2_with fail
        refine KS.mono ?_
        rintro e w1 ⟨rfl, hb1⟩
        have HF : Hid (Below w.heap.size w w1) := hid13 ⟨by rw [hb1.os, HLo.out.os], by rw [hb1.tape, HLo.out.tape], by rw [hb1.output, HLo.out.output], Nat.le_trans HLo.out.size hb1.size, fun z hz => by rw [hb1.block z hz, HLo.out.block z hz]⟩
        clear KS hb1
        go_wp2
        exact bodyPost_ret (v := .tuple #[.string ⟨tt.toArray⟩, .int .i64 0]) (by simp [results, Tryd.results9, go_sem]) rfl ⟨by rw [HTT.out], HF.out⟩
  · have hT : prT l = [] := by unfold prT; rw [if_neg h4]
    have hE : prE l = 30 := by unfold prE; rw [if_neg h4]
    rw [hT, hE]
    obtain ⟨q, hq⟩ : ∃ q, q = l.length % 4 := ⟨_, rfl⟩
    rw [← hq] at m0 h4
    have m0' : ((l.length : Nat) : Int) % 4 = (q : Int) := by omega
    have h4' : ((q : Int) == 0) = false := by rw [beq_eq_false_iff_ne]; omega
    clear hT hE hv hN hP hx hq
    go_enter Tryd.func9, Tryd.ntmps9
    go_wp2
    exact bodyPost_ret (v := .tuple #[.string ⟨#[]⟩, .int .i64 30]) (by simp [results, Tryd.results9, go_sem]) rfl ⟨rfl, Below.refl _ _⟩
end Go.Proofs.YtologchdnjnadaaDoor
/-
  The document's Decimal.
-/
namespace Go.Proofs.YtologchdnjnadaaDoor
open Go.RowKit
set_option linter.unusedSimpArgs false
set_option linter.unusedVariables false

/-- The digits of m, written ahead of t. -/
def decF15 : Nat → Nat → List UInt8 → List UInt8
  | 0, _, t => t
  | f + 1, m, t => if m = 0 ∧ ¬ t = [] then t else decF15 f (m / 10) (UInt8.ofNat (48 + m % 10) :: t)
def decL15 (n : Nat) : List UInt8 := decF15 20 n []

theorem one_conv15 (w : World) (d : Nat) (h : d < 256) :
    (convert 22 9 (.slice (some ⟨w.heap.size, 0, none⟩) 1 1)).run Tryd.prog (w.alloc (.cells #[.int .u8 (d : Int)] 5)) = .ok (.string ⟨#[UInt8.ofNat d]⟩) (w.alloc (.cells #[.int .u8 (d : Int)] 5)) := by
  have := run_convert_bytes_back (P := Tryd.prog) (w.alloc (.cells #[.int .u8 (d : Int)] 5)) 22 9 5 ⟨w.heap.size, 0, none⟩ 1 [UInt8.ofNat d] Tryd.underlying22 Tryd.underlying5 Tryd.underlying9 (by
    intro j hj
    have : j = 0 := by simpa using hj
    subst this
    have e : (UInt8.ofNat d).toNat = d := by rw [UInt8.toNat_ofNat']; omega
    simp [go_sem, Addr.add, e])
  exact this
theorem cat_one15 (d : UInt8) (t : List UInt8) : ((⟨#[d]⟩ : ByteArray) ++ ⟨t.toArray⟩) = ⟨(d :: t).toArray⟩ := by
  apply ByteArray.ext
  simp
theorem decF_zero15 (f m : Nat) (t : List UInt8) (h : m = 0 ∧ ¬ t = []) : decF15 f m t = t := by
  cases f with
  | zero => rfl
  | succ f => exact if_pos h

theorem isEmpty_of15 (t : List UInt8) (S : ByteArray) (h : S = ⟨t.toArray⟩) : S.toList.isEmpty = t.isEmpty := by
  subst h
  rw [Lib.toList_data]
def sizeOf015 (b : Value) : Nat := match b with | .string s => if s.size = 0 then 1 else 0 | _ => 0

set_option maxHeartbeats 1000000 in
set_option maxRecDepth 20000 in
theorem rdec15_any (n : Nat) (w : World) (h : n < 1000000000000000000) :
    Calls Tryd.prog 20 #[.int .i64 n] w fun e w' => e = .returned (.string ⟨(decL15 n).toArray⟩) ∧ Below w.heap.size w w' := by
  have hn0 : ¬ (n : Int) < 0 := by omega
  go_enter Tryd.func20, Tryd.ntmps20
  go_wp2
  go_loopw [0, 3] (fun a b wr => ∃ (f m : Nat) (t : List UInt8) (S : ByteArray), a = .int .i64 m ∧ b = .string S ∧ Hid (S = ⟨t.toArray⟩) ∧ S.size ≤ 20 ∧ Hid (decF15 f m t = decL15 n) ∧ Hid (m < 10 ^ f ∧ (t = [] → 1 ≤ f) ∧ t.length + f ≤ 20) ∧ m < 1000000000000000000 ∧ Below w.heap.size w wr) (fun a b _ => (intOf13 a).toNat * 2 + sizeOf015 b)
  case atStart => exact ⟨20, n, [], ⟨#[]⟩, rfl, rfl, rfl, by decide, rfl, ⟨by omega, by omega, by decide⟩, h, Below.refl _ _⟩
  case round =>
    obtain ⟨f, m, t, S, rfl, rfl, HE, hS, HF, HB, hm, hB⟩ := hrel
    by_cases hz : m = 0 ∧ ¬ t = []
    · have HX : Hid (decL15 n = t) := by show _ = _; rw [← HF.out, decF_zero15 f m t hz]
      obtain ⟨rfl, hne⟩ := hz
      have he : S.toList.isEmpty = false := by
        rw [isEmpty_of15 t S HE.out]
        cases t with
        | nil => exact absurd rfl hne
        | cons a l => rfl
      clear HF HB
      go_wp2
      refine bodyPost_ret (v := .string S) (by simp [results, Tryd.results20, go_sem]) rfl ⟨?_, hB⟩
      rw [HX.out, ← HE.out]
    · obtain ⟨g, rfl⟩ : ∃ g, f = g + 1 := ⟨f - 1, by
        by_cases h0 : m = 0
        · have : t = [] := by
            apply Classical.byContradiction; intro q; exact hz ⟨h0, q⟩
          have := HB.out.2.1 this
          omega
        · have := HB.out.1
          cases f with
          | zero => simp at this; omega
          | succ f => omega⟩
      have HX : Hid (decF15 g (m / 10) (UInt8.ofNat (48 + m % 10) :: t) = decL15 n) := by
        show _ = _
        rw [← HF.out]; exact (if_neg hz).symm
      have HB2 : Hid (m / 10 < 10 ^ g ∧ (UInt8.ofNat (48 + m % 10) :: t = [] → 1 ≤ g) ∧ (UInt8.ofNat (48 + m % 10) :: t).length + g ≤ 20) := by
        refine ⟨?_, fun q => by simp at q, ?_⟩
        · have := HB.out.1
          rw [Nat.pow_succ] at this
          omega
        · have := HB.out.2.2
          simp only [List.length_cons]; omega
      have hv := one_conv15 wr (48 + m % 10) (by omega)
      have hd : ((48 + m % 10 : Nat) : Int) = 48 + (m : Int) % 10 := by omega
      rw [hd] at hv
      have hq : ((m / 10 : Nat) : Int) = (m : Int) / 10 := by omega
      obtain ⟨D, HD⟩ : ∃ D : ByteArray, Hid (D = ⟨#[UInt8.ofNat (48 + m % 10)]⟩) := ⟨_, rfl⟩
      rw [← HD.out] at hv
      have hD : D.size = 1 := by rw [HD.out]; rfl
      have HDS : Hid (D ++ S = ⟨(UInt8.ofNat (48 + m % 10) :: t).toArray⟩) := by
        show _ = _
        rw [HD.out, HE.out, cat_one15]
      have hDS : (D ++ S).size ≤ 20 := by
        rw [HDS.out]
        have := HB2.out.2.2
        show (UInt8.ofNat (48 + m % 10) :: t).length ≤ 20
        omega
      have HM : Hid ((m / 10) * 2 + sizeOf015 (.string (D ++ S)) < m * 2 + sizeOf015 (.string S)) := by
        have e1 : sizeOf015 (.string (D ++ S)) = 0 := by
          unfold sizeOf015
          rw [HDS.out]; rfl
        show _ < _
        rw [e1]
        by_cases h0 : m = 0
        · have : t = [] := by
            apply Classical.byContradiction; intro q; exact hz ⟨h0, q⟩
          rw [HE.out, this, h0]; decide
        · omega
      have hlen : ¬ 9223372036854775807 < D.size + S.size := by omega
      have HEm : Hid (m = 0 → S.toList.isEmpty = true) := fun h0 => by
        have : t = [] := by
          apply Classical.byContradiction; intro q; exact hz ⟨h0, q⟩
        rw [isEmpty_of15 t S HE.out, this]; rfl
      clear HF HB HE HD hz
      by_cases h0 : m = 0
      · have he := HEm.out h0
        subst h0
        have hv0 : (convert 22 9 (.slice (some ⟨wr.heap.size, 0, none⟩) 1 1)).run Tryd.prog (wr.alloc (.cells #[.int .u8 48] 5)) = .ok (.string D) (wr.alloc (.cells #[.int .u8 48] 5)) := hv
        clear HEm hv hd hq
        go_wp2
        go_roundw
        case rel => exact ⟨g, 0, _, D ++ S, rfl, rfl, HDS, hDS, HX, HB2, by omega, hB.alloc hB.size _⟩
        case measure => exact HM.out
      · have h1 : (0 : Int) < m := by omega
        clear HEm h0
        go_wp2
        go_roundw
        case rel => exact ⟨g, m / 10, _, D ++ S, by rw [hq], rfl, HDS, hDS, HX, HB2, by omega, hB.alloc hB.size _⟩
        case measure =>
          have := HM.out
          rw [show intOf13 (Value.int IntKind.i64 ((m : Int) / 10)) = ((m / 10 : Nat) : Int) by rw [hq]; rfl]
          exact this

end Go.Proofs.YtologchdnjnadaaDoor
/-
  What the document's MapWords, isMap, Check and Size of chapter 14 do.
-/
namespace Go.Proofs.YtologchdnjnadaaDoor
open Go.RowKit
set_option linter.unusedSimpArgs false
set_option linter.unusedVariables false

theorem rmapWords_any (n : Nat) (h : n ≤ 24) (w : World) :
    Calls Tryd.prog 29 #[.int .i64 (n : Int)] w fun e w' => e = .returned (.int .i64 (mwN n : Int)) ∧ w' = w := by
  by_cases c : n < 5
  · have c1 : (n : Int) < 5 := by omega
    have e : Hid (mwN n = 1) := by show _ = _; unfold mwN; rw [if_pos c]
    clear c h
    go_enter Tryd.func29, Tryd.ntmps29
    go_wp2
    go_ret
    exact ⟨by rw [e.out]; rfl, rfl⟩
  · have c1 : ¬ (n : Int) < 5 := by omega
    obtain ⟨j, hj⟩ : ∃ j, j = n - 5 := ⟨_, rfl⟩
    have hs := sh64 j (by omega)
    obtain ⟨P, hP⟩ : ∃ P : Nat, P = 2 ^ j := ⟨_, rfl⟩
    rw [← hP] at hs
    have e : Hid (mwN n = P) := by show _ = _; unfold mwN; rw [if_neg c, hP, hj]
    have hw : IntKind.i64.wrap ((n : Int) - 5) = (j : Int) := by rw [IntKind.wrap_i64]; omega
    clear c h hP hj
    go_enter Tryd.func29, Tryd.ntmps29
    go_wp2
    go_ret
    exact ⟨by rw [e.out]; rfl, rfl⟩
set_option maxRecDepth 100000 in
set_option maxHeartbeats 4000000 in
theorem risMap_any (v : Value) (m : List (BitVec 32)) (n : Nat) (w : World) (hv : RwX cU w v m) (h : n ≤ 24) :
    Calls Tryd.prog 30 #[v, .int .i64 (n : Int)] w fun e w' => e = .returned (.bool (isMapB m n)) ∧ Below w.heap.size w w' := by
  have KM := fun w => rmapWords_any n h w
  obtain ⟨ao, c, rfl, hc, hr⟩ := hv
  have hs1 := sh64u n h
  by_cases h1 : m.length = mwN n
  · obtain ⟨x, t, rfl⟩ : ∃ x t, m = x :: t := by
      cases m with
      | nil => have := mwN_lo n; simp at h1; omega
      | cons x t => exact ⟨x, t, rfl⟩
    obtain ⟨b, off, rfl, hcell⟩ : ∃ b off, ao = some ⟨b, off, none⟩ ∧ ∀ j y, (x :: t)[j]? = some y → w.cell? ⟨b, off + j, none⟩ = some (cU y) := by
      rcases hr with h | h
      · cases h
      · exact h
    have c0 : w.cell? ⟨b, off, none⟩ = some (.int .u32 (uI x)) := hcell 0 x rfl
    have HE : Hid (isMapB (x :: t) n = topB x (2 ^ n)) := by show _ = _; rw [isMapB_cons, decide_eq_true h1, Bool.true_and]
    obtain ⟨L, hL⟩ : ∃ L, L = (x :: t).length := ⟨_, rfl⟩
    rw [← hL] at h1 ⊢
    have hL0 : (0 : Int) < (L : Int) := by rw [hL]; simp
    rw [← h1] at KM
    obtain ⟨P, hP⟩ : ∃ P : Nat, P = 2 ^ n := ⟨_, rfl⟩
    rw [← hP] at hs1 HE
    have hs2 := sh32u x P
    have hh := hi32 x
    have HP : Hid (5 ≤ n → x <<< P = 0#32) := by
      intro h5
      refine BitVec.shiftLeft_eq_zero ?_
      rw [hP]
      have := Nat.pow_le_pow_right (n := 2) (by decide) h5
      exact this
    clear hcell hr h1 hL hc h hP
    unfold topB at HE
    cases g : x.getLsbD 31 with
    | true =>
      rw [g] at hh HE
      replace HE : Hid (isMapB (x :: t) n = (x <<< P == 0#32)) := HE
      simp only [if_true] at hh
      clear g
      by_cases h5 : 5 ≤ n
      · have HE2 : Hid (isMapB (x :: t) n = true) := by show _ = _; rw [HE.out, HP.out h5]; rfl
        have h5' : (5 : Int) ≤ (n : Int) := by omega
        clear h5 HE HP
        go_enter Tryd.func30, Tryd.ntmps30
        go_wp2_with (go_at_call 29; refine (KM _).mono ?_; rintro e w1 ⟨rfl, hw1⟩; replace hw1 := hw1.symm; subst hw1)
        go_quiet (fail)
        have HB : Hid (Below w.heap.size w (w.drewN nq)) := below_drewN (Below.refl _ _) nq
        go_wp2
        go_ret
        exact ⟨by rw [HE2.out]; rfl, HB.out⟩
      · have h5' : decide ((5 : Int) ≤ (n : Int)) = false := decide_eq_false (by omega)
        clear h5 HP
        by_cases hz : x <<< P = 0#32
        · have HE2 : Hid (isMapB (x :: t) n = true) := by show _ = _; rw [HE.out, hz]; rfl
          rw [hz, uI_zero] at hs2
          clear hz HE
          go_enter Tryd.func30, Tryd.ntmps30
          go_wp2_with (go_at_call 29; refine (KM _).mono ?_; rintro e w1 ⟨rfl, hw1⟩; replace hw1 := hw1.symm; subst hw1)
          go_quiet (fail)
          have HB : Hid (Below w.heap.size w (w.drewN nq)) := below_drewN (Below.refl _ _) nq
          go_wp2
          go_ret
          exact ⟨by rw [HE2.out]; rfl, HB.out⟩
        · have HE2 : Hid (isMapB (x :: t) n = false) := by show _ = _; rw [HE.out]; simpa using hz
          obtain ⟨Y, hY⟩ : ∃ Y, Y = uI (x <<< P) := ⟨_, rfl⟩
          have hY0 : (Y == 0) = false := by
            rw [hY]; simp only [beq_eq_false_iff_ne]
            exact fun e => hz ((uI_is0 _).1 e)
          rw [← hY] at hs2
          clear hz hY HE
          go_enter Tryd.func30, Tryd.ntmps30
          go_wp2_with (go_at_call 29; refine (KM _).mono ?_; rintro e w1 ⟨rfl, hw1⟩; replace hw1 := hw1.symm; subst hw1)
          go_quiet (fail)
          have HB : Hid (Below w.heap.size w (w.drewN nq)) := below_drewN (Below.refl _ _) nq
          go_wp2
          go_ret
          exact ⟨by rw [HE2.out]; rfl, HB.out⟩
    | false =>
      rw [g] at hh HE
      replace hh : uI x / 2147483648 = 0 := hh
      replace HE : Hid (isMapB (x :: t) n = false) := HE
      clear hs2 hs1 g HP
      go_enter Tryd.func30, Tryd.ntmps30
      go_wp2_with (go_at_call 29; refine (KM _).mono ?_; rintro e w1 ⟨rfl, hw1⟩; replace hw1 := hw1.symm; subst hw1)
      go_ret
      exact ⟨by rw [HE.out]; rfl, Below.refl _ _⟩
  · have HE : Hid (isMapB m n = false) := by show _ = _; unfold isMapB; rw [decide_eq_false h1]; rfl
    obtain ⟨L, hL⟩ : ∃ L, L = mwN n := ⟨_, rfl⟩
    rw [← hL] at KM h1
    have h1' : (((m.length : Nat) : Int) != (L : Int)) = true := by simp; omega
    clear hs1 hr hL h1
    go_enter Tryd.func30, Tryd.ntmps30
    go_wp2_with (go_at_call 29; refine (KM _).mono ?_; rintro e w1 ⟨rfl, hw1⟩; replace hw1 := hw1.symm; subst hw1)
    go_ret
    exact ⟨by rw [HE.out]; rfl, Below.refl _ _⟩
set_option maxRecDepth 100000 in
set_option maxHeartbeats 8000000 in
theorem rcheck14 (op n : Int) (v : Value) (m : List (BitVec 32)) (w : World) (hv : RwX cU w v m) :
    Calls Tryd.prog 53 #[.agg #[.int .i64 op, .int .i64 n, v]] w fun e w' => e = .returned (.int .i64 (chkE op n m)) ∧ Below w.heap.size w w' := by
  obtain ⟨ao, c, hvf, -⟩ := id hv
  have q1 := bl1 w (.cells #[.int .i64 op, .int .i64 n, v] 45)
  have a1 := ati_new w op n v 45
  have HV := hid13 (hv.below q1)
  obtain ⟨w1, hw1⟩ : ∃ w1, w1 = w.alloc (.cells #[.int .i64 op, .int .i64 n, v] 45) := ⟨_, rfl⟩
  rw [← hw1] at q1 HV
  have HB := hid13 q1
  subst hvf
  clear q1 hv a1
  cases ho : isOp op with
  | false =>
    have HE := hid13 (chk_no (n := n) (m := m) ho)
    obtain ⟨h1, h2, h3, h4⟩ := isOp_none ho
    clear ho
    go_enter Tryd.func53, Tryd.ntmps53
    go_wp2
    go_ret
    exact ⟨by rw [HE.out]; rfl, by rw [← hw1]; exact HB.out⟩
  | true =>
    cases ht : (decide (kLo op ≤ n) && decide (n ≤ kHi op)) with
    | false =>
      have HE := hid13 (chk_arg (m := m) ho ht)
      rcases isOp_cases ho with rfl | rfl | rfl | rfl
      · have hb : n < 1 ∨ 24 < n := by unfold kLo kHi at ht; simp at ht; omega
        clear ht ho
        rcases hb with hb | hb
        · go_enter Tryd.func53, Tryd.ntmps53
          go_wp2
          go_ret
          exact ⟨by rw [HE.out]; rfl, by rw [← hw1]; exact HB.out⟩
        · have hb2 : ¬ n < 1 := by omega
          go_enter Tryd.func53, Tryd.ntmps53
          go_wp2
          go_ret
          exact ⟨by rw [HE.out]; rfl, by rw [← hw1]; exact HB.out⟩
      · have hb : n < 1 ∨ 24 < n := by unfold kLo kHi at ht; simp at ht; omega
        clear ht ho
        rcases hb with hb | hb
        · go_enter Tryd.func53, Tryd.ntmps53
          go_wp2
          go_ret
          exact ⟨by rw [HE.out]; rfl, by rw [← hw1]; exact HB.out⟩
        · have hb2 : ¬ n < 1 := by omega
          go_enter Tryd.func53, Tryd.ntmps53
          go_wp2
          go_ret
          exact ⟨by rw [HE.out]; rfl, by rw [← hw1]; exact HB.out⟩
      · have hb : n < 1 ∨ 16777216 ≤ n := by unfold kLo kHi at ht; simp at ht; omega
        clear ht ho
        rcases hb with hb | hb
        · go_enter Tryd.func53, Tryd.ntmps53
          go_wp2
          go_ret
          exact ⟨by rw [HE.out]; rfl, by rw [← hw1]; exact HB.out⟩
        · have hb2 : ¬ n < 1 := by omega
          go_enter Tryd.func53, Tryd.ntmps53
          go_wp2
          go_ret
          exact ⟨by rw [HE.out]; rfl, by rw [← hw1]; exact HB.out⟩
      · have hb : n < 0 ∨ 65535 < n := by unfold kLo kHi at ht; simp at ht; omega
        clear ht ho
        rcases hb with hb | hb
        · go_enter Tryd.func53, Tryd.ntmps53
          go_wp2
          go_ret
          exact ⟨by rw [HE.out]; rfl, by rw [← hw1]; exact HB.out⟩
        · have hb2 : ¬ n < 0 := by omega
          go_enter Tryd.func53, Tryd.ntmps53
          go_wp2
          go_ret
          exact ⟨by rw [HE.out]; rfl, by rw [← hw1]; exact HB.out⟩
    | true =>
      by_cases h2 : op = 2
      · subst h2
        have hE := chk_map (m := m) ho ht rfl
        have hb : 1 ≤ n ∧ n ≤ 24 := by unfold kLo kHi at ht; simpa using ht
        obtain ⟨k, rfl⟩ : ∃ k : Nat, n = (k : Int) := ⟨n.toNat, by omega⟩
        rw [Int.toNat_natCast] at hE
        have HE := hid13 hE
        have K1 := risMap_any _ m k w1 HV.out (by omega)
        have b1 : ¬ (k : Int) < 1 := by omega
        have b2 : ¬ (24 : Int) < (k : Int) := by omega
        clear ht ho hE hb
        go_enter Tryd.func53, Tryd.ntmps53
        go_wp2_with fail
        rw [← hw1]
        refine K1.mono ?_
        rintro e w2 ⟨rfl, hb2⟩
        have HB2 := hid13 (keepb hb2 HB.out)
        have k2 : w2.cell? ⟨w.heap.size, 0, none⟩ = some (.int .i64 2) := keepc hb2 (by rw [hw1]; simp [go_sem])
        clear hb2 hw1 K1
        generalize isMapB m k = z at *
        cases z with
        | true =>
          replace HE : Hid (chkE 2 (k : Int) m = 0) := HE
          go_wp2
          go_ret
          exact ⟨by rw [HE.out]; rfl, HB2.out⟩
        | false =>
          replace HE : Hid (chkE 2 (k : Int) m = 25) := HE
          go_wp2
          go_ret
          exact ⟨by rw [HE.out]; rfl, HB2.out⟩
      · have hE := chk_plain (m := m) ho ht h2
        by_cases hm : m = []
        · rw [if_pos hm] at hE
          have HE := hid13 hE
          have hl : m.length = 0 := by rw [hm]; rfl
          rw [hl] at hw1 ⊢
          rcases isOp_cases ho with rfl | rfl | rfl | rfl
          · have hb : 1 ≤ n ∧ n ≤ 24 := by unfold kLo kHi at ht; simpa using ht
            have b1 : ¬ n < 1 := by omega
            have b2 : ¬ 24 < n := by omega
            clear ht ho hb hm hl hE h2
            go_enter Tryd.func53, Tryd.ntmps53
            go_wp2
            go_ret
            exact ⟨by rw [HE.out]; rfl, by rw [← hw1]; exact HB.out⟩
          · exact absurd rfl h2
          · have hb : 1 ≤ n ∧ n ≤ 16777215 := by unfold kLo kHi at ht; simpa using ht
            have b1 : ¬ n < 1 := by omega
            have b2 : ¬ 16777216 ≤ n := by omega
            clear ht ho hb hm hl hE h2
            go_enter Tryd.func53, Tryd.ntmps53
            go_wp2
            go_ret
            exact ⟨by rw [HE.out]; rfl, by rw [← hw1]; exact HB.out⟩
          · have hb : 0 ≤ n ∧ n ≤ 65535 := by unfold kLo kHi at ht; simpa using ht
            have b1 : ¬ n < 0 := by omega
            have b2 : ¬ 65535 < n := by omega
            clear ht ho hb hm hl hE h2
            go_enter Tryd.func53, Tryd.ntmps53
            go_wp2
            go_ret
            exact ⟨by rw [HE.out]; rfl, by rw [← hw1]; exact HB.out⟩
        · rw [if_neg hm] at hE
          have HE := hid13 hE
          have hl : (0 : Int) < (m.length : Int) := by have := List.length_pos_iff.2 hm; omega
          rcases isOp_cases ho with rfl | rfl | rfl | rfl
          · have hb : 1 ≤ n ∧ n ≤ 24 := by unfold kLo kHi at ht; simpa using ht
            have b1 : ¬ n < 1 := by omega
            have b2 : ¬ 24 < n := by omega
            clear ht ho hb hm hE h2
            go_enter Tryd.func53, Tryd.ntmps53
            go_wp2
            go_ret
            exact ⟨by rw [HE.out]; rfl, by rw [← hw1]; exact HB.out⟩
          · exact absurd rfl h2
          · have hb : 1 ≤ n ∧ n ≤ 16777215 := by unfold kLo kHi at ht; simpa using ht
            have b1 : ¬ n < 1 := by omega
            have b2 : ¬ 16777216 ≤ n := by omega
            clear ht ho hb hm hE h2
            go_enter Tryd.func53, Tryd.ntmps53
            go_wp2
            go_ret
            exact ⟨by rw [HE.out]; rfl, by rw [← hw1]; exact HB.out⟩
          · have hb : 0 ≤ n ∧ n ≤ 65535 := by unfold kLo kHi at ht; simpa using ht
            have b1 : ¬ n < 0 := by omega
            have b2 : ¬ 65535 < n := by omega
            clear ht ho hb hm hE h2
            go_enter Tryd.func53, Tryd.ntmps53
            go_wp2
            go_ret
            exact ⟨by rw [HE.out]; rfl, by rw [← hw1]; exact HB.out⟩
end Go.Proofs.YtologchdnjnadaaDoor
