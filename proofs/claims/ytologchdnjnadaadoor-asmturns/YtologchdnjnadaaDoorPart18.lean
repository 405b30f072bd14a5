/-
  Part 18 of the proof: 5 texts, one behind the other.
-/
import Derived.Test.YtologchdnjnadaaDoorPart14
import Derived.Test.YtologchdnjnadaaDoorPart15
import Derived.Shelf.Strconv.Itoa3
import Derived.Lib.AppendIntMem
import Derived.Test.YtologchdnjnadaaDoorPart3
import Derived.Test.YtologchdnjnadaaDoorPart17
import Derived.Test.YtologchdnjnadaaDoorPart2
import Derived.Laws.IdiomStrings
import Derived.Lib.Strings
/-
  Code written as text: writeLine, Print.
-/
namespace Go.Proofs.YtologchdnjnadaaDoor
open Go.RowKit
set_option linter.unusedSimpArgs false
set_option linter.unusedVariables false

/-- The library's table of the powers of ten lies in its variable. -/
def Pow15 (w : World) : Prop := Lib.TabIs Tryd.prog w "internal/strconv.uint64pow10" .u64 Lib.pow10Tab
theorem Pow15.keep {W w' : World} (h : Pow15 W) (hb : Below W.heap.size W w') : Pow15 w' := Lib.tabBelow_of_tabIs h w' hb
theorem itoa15_any (n : Nat) (h1 : n ≤ 16777215) (w : World) (htab : Pow15 w) :
    Calls Tryd.prog 28 #[.int .i64 (n : Int)] w fun e w' => e = .returned (.string ⟨(Lib.decDigits n).toArray⟩) ∧ Below w.heap.size w w' :=
  (Any.strconv_Itoa Tryd.laysM171 (n : Int) (by omega) (by omega) w htab).mono fun e w' ⟨h, k, os, hw⟩ => ⟨by rw [h]; unfold Lib.itoa; rw [if_neg (by omega)]; rfl, by rw [hw]; exact Lib.below_grow _ _ (Nat.le_refl _) k os⟩
/-- The line of what stands at a word, and how many words that has. -/
noncomputable def lnT (l : List Nat) (k : Nat) : List UInt8 := if dcE l k = 0 then nmL (dcI l k).op.toNat ++ [32] ++ Lib.decDigits (dcI l k).n.toNat ++ wdsL (dcI l k).m ++ [10] else nmL 0 ++ wdsL [wdV l k] ++ [10]
noncomputable def lnZ (l : List Nat) (k : Nat) : Nat := if dcE l k = 0 then 1 + (dcI l k).m.length else 1
theorem decD_le : ∀ (d n : Nat), n < 10 ^ (d + 1) → (Lib.decDigits n).length ≤ d + 1
  | 0, n, h => by
    rw [Lib.decDigits_length, Lib.nDigits_small (by simpa using h)]
    exact Nat.le_refl _
  | d + 1, n, h => by
    rw [Lib.decDigits_length]
    by_cases q : n < 10
    · rw [Lib.nDigits_small q]; omega
    · rw [Lib.nDigits_big q]
      have := decD_le d (n / 10) (by rw [Nat.pow_succ] at h; omega)
      rw [Lib.decDigits_length] at this
      omega
theorem decD_len (n : Nat) (h : n ≤ 16777215) : (Lib.decDigits n).length ≤ 100 := by
  have := decD_le 7 n (by have : 10 ^ (7 + 1) = 100000000 := by decide
                          omega)
  omega
theorem nmS_size (j : Nat) (h : j < 5) : (nmS j).size ≤ 10 := by
  have : ∀ j : Fin 5, (nmS j.val).size ≤ 10 := by decide
  exact this ⟨j, h⟩
theorem IsB.lt {b : Nat} {t : List UInt8} {W : World} (h : IsB b t W) : b < W.heap.size := by
  rcases h with h | h <;> exact h.lt
/-- The memory of writeLine. -/
structure WlM (w0 w : World) (I : Nat) (O N : Int) (v : Value) (M : List (BitVec 32)) (t : List UInt8) (W : World) : Prop where
  ib : IsB w0.heap.size t W
  i : W.heap[I]? = some (.cells #[.int .i64 O, .int .i64 N, v] 45)
  m : RwX cU W v M
  a : Apt w0.heap.size v W
  lo : Below w0.heap.size w0 W
  ok : OKb w0.heap.size w W
  ne : I ≠ w0.heap.size
theorem IsB.okB {b : Nat} {t : List UInt8} {W W' : World} (h : IsB b t W) (hb : Below W.heap.size W W') : IsB b t W' := by
  have key : ∀ p, Lib.BuilderAt 40 5 b b p (Lib.byteCells t) W → Lib.BuilderAt 40 5 b b p (Lib.byteCells t) W' := fun p ⟨h1, v, h2, h3, h4⟩ => ⟨h1, v, by rw [hb.block _ (lt_b15 h2)]; exact h2, own_b13 hb h3, h4⟩
  rcases h with h | h
  · exact .inl (key _ h)
  · exact .inr (key _ h)
section
variable {w0 w W W' : World} {I : Nat} {O N : Int} {v : Value} {M : List (BitVec 32)} {t t' : List UInt8}
theorem WlM.step (h : WlM w0 w I O N v M t W) (g : OKb w0.heap.size W W') (ib : IsB w0.heap.size t' W') : WlM w0 w I O N v M t' W' :=
  ⟨ib, g.2 I _ h.i (by intro e; injection e with e; exact h.ne e) (by intro c fz e; injection e with e1 e2 e3; revert e2; decide), g.rwx h.a h.m, h.a.keep g, ⟨by rw [g.1.os, h.lo.os], by rw [g.1.tape, h.lo.tape], by rw [g.1.output, h.lo.output], Nat.le_trans h.lo.size g.1.size, fun z hz => by rw [g.1.block z hz, h.lo.block z hz]⟩, h.ok.trans g, h.ne⟩
theorem WlM.below (h : WlM w0 w I O N v M t W) (hb : Below W.heap.size W W') : WlM w0 w I O N v M t W' := h.step (OKb.ofB hb (Nat.le_of_lt h.ib.lt)) (h.ib.okB hb)
theorem WlM.sz (h : WlM w0 w I O N v M t W) : w0.heap.size ≤ W.heap.size := Nat.le_of_lt h.ib.lt
theorem WlM.c (h : WlM w0 w I O N v M t W) : W.cell? ⟨I, 0, none⟩ = some (.int .i64 O) ∧ W.cell? ⟨I, 1, none⟩ = some (.int .i64 N) ∧ W.cell? ⟨I, 2, none⟩ = some v := ⟨at_b15 h.i 0 _ rfl, at_b15 h.i 1 _ rfl, at_b15 h.i 2 _ rfl⟩
end
theorem apt_own {W : World} {b base : Nat} {v : Value} {n : Nat} {xs : List Value} (h : W.ownsRow base 48 1 v n xs) (hb : b < base) : Apt b v W := fun a m c e => by
  rcases h.2 with ⟨hv, _⟩ | ⟨g, cap, cur, hv, hh⟩
  · rw [hv] at e; cases e
  · rw [hv] at e
    injection e with e1 e2 e3
    injection e1 with e1
    subst e1
    exact .inr ⟨by simp; omega, _, _, hh.2.1⟩
set_option maxHeartbeats 8000000 in
set_option maxRecDepth 20000 in
theorem writeLine_any (w0 : World) (v : Value) (l : List Nat) (k : Nat) (t : List UInt8) (w : World) (hv : RwX cB w0 v l) (hb : Below w0.heap.size w0 w) (hB : IsB w0.heap.size t w) (hN : Nm w0) (hP : Pow15 w0) (hk : k < l.length / 4) (hl : l.length ≤ 100000) (hx : ∀ b ∈ l, b < 256) (ht : t.length ≤ 1000000000) :
    Calls Tryd.prog 14 #[.pointer (some ⟨w0.heap.size, 0, none⟩), v, .int .i64 (k : Int)] w fun e w' => e = .returned (.int .i64 (lnZ l k : Int)) ∧ IsB w0.heap.size (t ++ lnT l k) w' ∧ OKb w0.heap.size w w' := by
  have KD := decode_any v l (k : Int) w (hv.below hb) (by omega) hx
  obtain ⟨ao, cp, hvf, -⟩ := id hv
  have HH : Hid (k < l.length / 4 ∧ l.length ≤ 100000 ∧ t.length ≤ 1000000000) := ⟨hk, hl, ht⟩
  have HX := hid13 hx
  have HV := hid13 hv
  have HN := hid13 hN
  have HP := hid13 hP
  have HB := hid13 hB
  have HLo := hid13 hb
  clear hk hl ht hx hN hP hv hB hb
  by_cases he : dcE l (k : Int) = 0
  · obtain ⟨h1, h2, h3⟩ := enc_dec l (k : Int) HX.out he
    obtain ⟨h4, h5, h6⟩ := chk_zero h1
    have hT : lnT l k = nmL (dcI l k).op.toNat ++ [32] ++ Lib.decDigits (dcI l k).n.toNat ++ wdsL (dcI l k).m ++ [10] := by unfold lnT; rw [if_pos he]
    have hZ : ((lnZ l k : Nat) : Int) = dcZ l (k : Int) := by unfold lnZ dcZ; rw [if_pos he, if_pos he]; omega
    rw [hT, hZ]
    rw [he] at KD
    clear h1 h2 h3 hT hZ he
    generalize dcZ l (k : Int) = z at *
    generalize dcI l (k : Int) = ins at *
    obtain ⟨o', n', M⟩ := ins
    simp only at h4 h5 h6 KD ⊢
    obtain ⟨O, rfl⟩ : ∃ O : Nat, o' = (O : Int) := ⟨o'.toNat, by omega⟩
    obtain ⟨N, rfl⟩ : ∃ N : Nat, n' = (N : Int) := ⟨n'.toNat, by omega⟩
    simp only [Int.toNat_natCast, insV] at KD ⊢
    have HON : Hid (O < 5 ∧ N ≤ 16777215 ∧ M.length ≤ 524288) := ⟨by omega, by omega, h6⟩
    have hO5 : (O : Int) < 5 := by omega
    clear h4 h5 h6
    subst hvf
    go_enter Tryd.func14, Tryd.ntmps14
    go_wp2_with fail
    refine KD.mono ?_
    rintro e w1 ⟨v', rfl, ho, hb1⟩
    have q2 := bl1 w1 (.cells #[.int .i64 (O : Int), .int .i64 (N : Int), v'] 45)
    have HM : Hid (WlM w0 w w1.heap.size O N v' M t (w1.alloc (.cells #[.int .i64 (O : Int), .int .i64 (N : Int), v'] 45))) := hid13 (by
      have hbb := keepb q2 hb1
      have hlt := HB.out.lt
      have hs1 := hb1.size
      refine ⟨HB.out.okB hbb, Array.getElem?_push_size, own_rwx (own_b13 q2 ho), apt_own (own_b13 q2 ho) hlt, keepb hbb HLo.out, OKb.ofB hbb (Nat.le_of_lt hlt), by omega⟩)
    have KS := wstr_any w0.heap.size t (nmS O) _ HM.out.ib (by have h1 := nmS_size O HON.out.1; have := HH.out; omega) HM.out.sz
    have cN := (HN.out.below HM.out.lo) O HON.out.1
    obtain ⟨mo, mc, hvf', -⟩ := id HM.out.m
    subst hvf'
    clear KD ho hb1 q2
    go_wp2_with fail
    refine KS.mono ?_
    rintro e W3 ⟨rfl, h1, h2⟩
    have HM3 : Hid (WlM w0 w w1.heap.size O N (.slice mo M.length mc) M (t ++ nmL O) W3) := hid13 (HM.out.step h2 h1)
    have hnl : (nmL O).length ≤ 10 := nmS_size O HON.out.1
    have KB := wbyte_any w0.heap.size (t ++ nmL O) 32 W3 HM3.out.ib (by have := HH.out; rw [List.length_append]; omega) HM3.out.sz
    clear KS h1 h2 HM cN
    go_wp2_with fail
    refine KB.mono ?_
    rintro e W4 ⟨rfl, h1, h2⟩
    have HM4 : Hid (WlM w0 w w1.heap.size O N (.slice mo M.length mc) M (t ++ nmL O ++ [32]) W4) := hid13 (HM3.out.step h2 h1)
    have c1 := HM4.out.c.2.1
    have KI := itoa15_any N HON.out.2.1 W4 (HP.out.keep HM4.out.lo)
    clear KB h1 h2 HM3
    go_wp2_with fail
    refine KI.mono ?_
    rintro e W5 ⟨rfl, hb5⟩
    have HM5 := hid13 (HM4.out.below hb5)
    have hdl := decD_len N HON.out.2.1
    have KS := wstr_any w0.heap.size (t ++ nmL O ++ [32]) ⟨(Lib.decDigits N).toArray⟩ W5 HM5.out.ib (by have := HH.out; show _ + (Lib.decDigits N).length ≤ _; rw [List.length_append, List.length_append, List.length_singleton]; omega) HM5.out.sz
    clear KI hb5 HM4 c1
    generalize hds : (⟨(Lib.decDigits N).toArray⟩ : ByteArray) = ds at *
    go_wp2_with fail
    refine KS.mono ?_
    rintro e W6 ⟨rfl, h1, h2⟩
    rw [← hds] at h1
    have HM6 : Hid (WlM w0 w w1.heap.size O N (.slice mo M.length mc) M (t ++ nmL O ++ [32] ++ Lib.decDigits N) W6) := hid13 (HM5.out.step h2 h1)
    have c2 := HM6.out.c.2.2
    have KW := wwords_any w0.heap.size (t ++ nmL O ++ [32] ++ Lib.decDigits N) (.slice mo M.length mc) M W6 HM6.out.ib HM6.out.m HM6.out.a (by have := HH.out; have := HON.out; simp only [List.length_append, List.length_singleton]; omega) HM6.out.sz
    clear KS h1 h2 HM5 hds
    go_wp2_with fail
    refine KW.mono ?_
    rintro e W7 ⟨rfl, h1, h2⟩
    have HM7 : Hid (WlM w0 w w1.heap.size O N (.slice mo M.length mc) M (t ++ nmL O ++ [32] ++ Lib.decDigits N ++ wdsL M) W7) := hid13 (HM6.out.step h2 h1)
    have KB := wbyte_any w0.heap.size (t ++ nmL O ++ [32] ++ Lib.decDigits N ++ wdsL M) 10 W7 HM7.out.ib (by have := HH.out; have := HON.out; simp only [List.length_append, List.length_singleton, wdsL_len]; omega) HM7.out.sz
    clear KW h1 h2 HM6 c2
    go_wp2_with fail
    refine KB.mono ?_
    rintro e W8 ⟨rfl, h1, h2⟩
    have HF : Hid (IsB w0.heap.size (t ++ (nmL O ++ [32] ++ Lib.decDigits N ++ wdsL M ++ [10])) W8 ∧ OKb w0.heap.size w W8) := hid13 ⟨by simpa only [List.append_assoc] using h1, HM7.out.ok.trans h2⟩
    clear KB h1 h2 HM7
    go_wp2
    go_ret
    exact ⟨rfl, HF.out.1, HF.out.2⟩
  · have hT : lnT l k = nmL 0 ++ wdsL [wdV l k] ++ [10] := by unfold lnT; rw [if_neg he]
    have hZ : lnZ l k = 1 := by unfold lnZ; rw [if_neg he]
    rw [hT, hZ]
    have hI : dcI l (k : Int) = ⟨0, 0, []⟩ := by unfold dcI; rw [if_neg he]
    rw [hI] at KD
    simp only [insV, List.map_nil, List.length_nil] at KD
    have he1 : (dcE l (k : Int) == 0) = false := by rw [beq_eq_false_iff_ne]; exact he
    clear he hT hZ hI
    generalize dcE l (k : Int) = ee at *
    generalize dcZ l (k : Int) = z at *
    have m1 : IntKind.i64.wrap ((k : Int) * 4) = (k : Int) * 4 := by rw [IntKind.wrap_i64]; have := HH.out; omega
    subst hvf
    go_enter Tryd.func14, Tryd.ntmps14
    go_wp2_with fail
    refine KD.mono ?_
    rintro e w1 ⟨v', rfl, ho, hb1⟩
    have q2 := bl1 w1 (.cells #[.int .i64 0, .int .i64 0, v'] 45)
    have HM : Hid (WlM w0 w w1.heap.size 0 0 v' [] t (w1.alloc (.cells #[.int .i64 0, .int .i64 0, v'] 45))) := hid13 (by
      have hbb := keepb q2 hb1
      have hlt := HB.out.lt
      have hs1 := hb1.size
      refine ⟨HB.out.okB hbb, Array.getElem?_push_size, own_rwx (own_b13 q2 ho), apt_own (own_b13 q2 ho) hlt, keepb hbb HLo.out, OKb.ofB hbb (Nat.le_of_lt hlt), by omega⟩)
    obtain ⟨mo, mc, hvf', -⟩ := id HM.out.m
    subst hvf'
    have KG := get32_any (.slice ao l.length cp) l ((k : Int) * 4) _ (HV.out.below HM.out.lo) (by have := HH.out; omega) HX.out (by have := HH.out; omega) (by have := HH.out; omega)
    have e1 : ((gtN l ((k : Int) * 4) 4 : Nat) : Int) = uI (wdV l k) := by
      rw [wd_uI l k HX.out]
      unfold gtN
      rw [if_pos ⟨by omega, by have := HH.out; omega⟩]
      have : ((k : Int) * 4).toNat = 4 * k := by omega
      rw [this]
    rw [e1] at KG
    clear KD ho hb1 q2 e1
    generalize gtE l ((k : Int) * 4) 4 = e4 at *
    go_wp2_with fail
    refine KG.mono ?_
    rintro e w2 ⟨rfl, hb2⟩
    have HM2 := hid13 (HM.out.below hb2)
    have cN := (HN.out.below HM2.out.lo) 0 (by decide)
    have KS := wstr_any w0.heap.size t (nmS 0) w2 HM2.out.ib (by have h1 := nmS_size 0 (by decide); have := HH.out; omega) HM2.out.sz
    clear KG hb2 HM
    go_wp2_with fail
    refine KS.mono ?_
    rintro e W3 ⟨rfl, h1, h2⟩
    have HM3 : Hid (WlM w0 w w1.heap.size 0 0 (.slice mo 0 mc) [] (t ++ nmL 0) W3) := hid13 (HM2.out.step h2 h1)
    have q3 := bl1 W3 (.cells #[.int .u32 (uI (wdV l k))] 48)
    have HM4 := hid13 (HM3.out.below q3)
    have KW := wwords_any w0.heap.size (t ++ nmL 0) (.slice (some ⟨W3.heap.size, 0, none⟩) 1 1) [wdV l k] (W3.alloc (.cells #[.int .u32 (uI (wdV l k))] 48)) HM4.out.ib ⟨some ⟨W3.heap.size, 0, none⟩, 1, rfl, Nat.le_refl _, .inr ⟨W3.heap.size, 0, rfl, fun j x hj => by
      match j, hj with
      | 0, hj => simp at hj; subst hj; simp [cU]⟩⟩ (fun a n c e => by
        injection e with e1 e2 e3
        injection e1 with e1
        subst e1
        exact .inr ⟨by have := HM3.out.ib.lt; simp; omega, _, _, Array.getElem?_push_size⟩) (by have := HH.out; have h1 : (nmL 0).length = 4 := rfl; rw [List.length_append, h1]; simp; omega) HM4.out.sz
    clear KS h1 h2 HM2 cN q3
    go_wp2_with fail
    refine KW.mono ?_
    rintro e W7 ⟨rfl, h1, h2⟩
    have HM7 : Hid (WlM w0 w w1.heap.size 0 0 (.slice mo 0 mc) [] (t ++ nmL 0 ++ wdsL [wdV l k]) W7) := hid13 (HM4.out.step h2 h1)
    have KB := wbyte_any w0.heap.size (t ++ nmL 0 ++ wdsL [wdV l k]) 10 W7 HM7.out.ib (by have := HH.out; have h1 : (nmL 0).length = 4 := rfl; simp only [List.length_append, h1, wdsL_len, List.length_singleton]; omega) HM7.out.sz
    clear KW h1 h2 HM3 HM4
    go_wp2_with fail
    refine KB.mono ?_
    rintro e W8 ⟨rfl, h1, h2⟩
    have HF : Hid (IsB w0.heap.size (t ++ (nmL 0 ++ wdsL [wdV l k] ++ [10])) W8 ∧ OKb w0.heap.size w W8) := hid13 ⟨by simpa only [List.append_assoc] using h1, HM7.out.ok.trans h2⟩
    clear KB h1 h2 HM7
    go_wp2
    go_ret
    exact ⟨rfl, HF.out.1, HF.out.2⟩
/-- The lines from a word on. -/
noncomputable def prL (l : List Nat) : Nat → Nat → List UInt8
  | 0, _ => []
  | f + 1, k => if k < l.length / 4 then lnT l k ++ prL l f (k + lnZ l k) else []
noncomputable def prT (l : List Nat) : List UInt8 := if l.length % 4 = 0 then prL l (l.length / 4 + 1) 0 else []
def prE (l : List Nat) : Int := if l.length % 4 = 0 then 0 else 30
theorem lnT_len (l : List Nat) (k : Nat) (hx : ∀ b ∈ l, b < 256) : (lnT l k).length ≤ 130 * lnZ l k := by
  unfold lnT lnZ
  by_cases h : dcE l (k : Int) = 0
  · rw [if_pos h, if_pos h]
    obtain ⟨h1, -, -⟩ := enc_dec l (k : Int) hx h
    obtain ⟨h4, h5, h6⟩ := chk_zero h1
    have e1 := decD_len (dcI l k).n.toNat (by omega)
    have e2 : (nmL (dcI l k).op.toNat).length ≤ 10 := nmS_size _ (by omega)
    simp only [List.length_append, List.length_singleton, wdsL_len]
    omega
  · rw [if_neg h, if_neg h]
    simp only [List.length_append, List.length_singleton, wdsL_len]
    have : (nmL 0).length = 4 := rfl
    omega
theorem lnZ_le (l : List Nat) (k : Nat) (hx : ∀ b ∈ l, b < 256) (hk : k < l.length / 4) : 1 ≤ lnZ l k ∧ k + lnZ l k ≤ l.length / 4 := by
  unfold lnZ
  by_cases h : dcE l (k : Int) = 0
  · rw [if_pos h]
    obtain ⟨-, -, h3⟩ := enc_dec l (k : Int) hx h
    rw [Int.toNat_natCast] at h3
    omega
  · rw [if_neg h]; omega
set_option maxHeartbeats 4000000 in
theorem print15_any (v : Value) (l : List Nat) (w : World) (hv : RwX cB w v l) (hN : Nm w) (hP : Pow15 w) (hl : l.length ≤ 100000) (hx : ∀ b ∈ l, b < 256) :
    Calls Tryd.prog 9 #[v] w fun e w' => e = .returned (.tuple #[.string ⟨(prT l).toArray⟩, .int .i64 (prE l)]) ∧ Below w.heap.size w w' := by
  obtain ⟨ao, cp, rfl, -⟩ := id hv
  have m0 : ((l.length : Nat) : Int).tmod 4 = ((l.length % 4 : Nat) : Int) := by rw [Int.tmod_eq_emod_of_nonneg (by omega)]; omega
  by_cases h4 : l.length % 4 = 0
  · have hT : prT l = prL l (l.length / 4 + 1) 0 := by unfold prT; rw [if_pos h4]
    have hE : prE l = 0 := by unfold prE; rw [if_pos h4]
    rw [hE]
    rw [h4] at m0
    obtain ⟨Q, hQ⟩ : ∃ Q, Q = l.length / 4 := ⟨_, rfl⟩
    have m1 : ((l.length : Nat) : Int).tdiv 4 = (Q : Int) := by rw [Int.tdiv_eq_ediv_of_nonneg (by omega)]; omega
    have m1' : ((l.length : Nat) : Int) / 4 = (Q : Int) := by omega
    have m0' : ((l.length : Nat) : Int) % 4 = 0 := by omega
    have mQ : wrap64 (Q : Int) = (Q : Int) := by unfold wrap64; omega
    have q1 := bl1 w (.cells #[.pointer none, .slice none 0 0] 40)
    have HS0 : Hid (IsB w.heap.size [] (w.alloc (.cells #[.pointer none, .slice none 0 0] 40)) ∧ Below w.heap.size w (w.alloc (.cells #[.pointer none, .slice none 0 0] 40)) ∧ [] ++ prL l (Q + 1) 0 = prT l) := hid13 ⟨Lib.fresh_isBuilder _ _ _, q1, by rw [hT, hQ]; rfl⟩
    have HQ : Hid (Q = l.length / 4 ∧ l.length ≤ 100000) := ⟨hQ, hl⟩
    have HV := hid13 hv
    have HN := hid13 hN
    have HP := hid13 hP
    have HX := hid13 hx
    clear hv hN hP hl hx h4 hT hE hQ q1
    go_enter Tryd.func9, Tryd.ntmps9
    go_wp2
    go_loopg [5] (Q + 1) (fun g x5 wr => ∃ (k : Nat) (t : List UInt8), x5 = .int .i64 (k : Int) ∧ Hid (IsB w.heap.size t wr ∧ Below w.heap.size w wr ∧ t ++ prL l g k = prT l ∧ Q - k < g ∧ k ≤ Q ∧ t.length ≤ 130 * k))
    case atStart => exact ⟨0, [], rfl, hid13 ⟨HS0.out.1, HS0.out.2.1, HS0.out.2.2, by omega, by omega, by simp⟩⟩
    case round =>
      clear HS0
      obtain ⟨k, t, rfl, HS⟩ := hrel
      obtain ⟨f, rfl⟩ : ∃ f, gk = f + 1 := ⟨gk - 1, by have := HS.out.2.2.2.1; omega⟩
      by_cases hlt : k < Q
      · have hli : (k : Int) < (Q : Int) := by omega
        have hkq : k < l.length / 4 := by have := HQ.out; omega
        have hz := lnZ_le l k HX.out hkq
        have hln := lnT_len l k HX.out
        have KW := writeLine_any w (.slice ao l.length cp) l k t wr HV.out HS.out.2.1 HS.out.1 HN.out HP.out hkq HQ.out.2 HX.out (by have := HS.out; have := HQ.out; omega)
        have hpr : prL l (f + 1) k = lnT l k ++ prL l f (k + lnZ l k) := by
          show (if k < l.length / 4 then _ else _) = _
          rw [if_pos hkq]
        have HPr := hid13 hpr
        have HZ : Hid (1 ≤ lnZ l k ∧ k + lnZ l k ≤ Q ∧ (lnT l k).length ≤ 130 * lnZ l k ∧ k < Q) := ⟨hz.1, by have := HQ.out; omega, hln, hlt⟩
        clear hz hln hkq hpr hlt
        generalize lnZ l k = z at *
        generalize lnT l k = T at *
        have mz : IntKind.i64.wrap ((k : Int) + (z : Int)) = (k : Int) + (z : Int) := by rw [IntKind.wrap_i64]; have := HZ.out; have := HQ.out; omega
        go_wp2_with fail
        refine KW.mono ?_
        rintro e w1 ⟨rfl, h1, h2⟩
        have H1 : Hid (IsB w.heap.size (t ++ T) w1 ∧ Below w.heap.size w w1) := ⟨h1, ⟨by rw [h2.1.os, HS.out.2.1.os], by rw [h2.1.tape, HS.out.2.1.tape], by rw [h2.1.output, HS.out.2.1.output], Nat.le_trans HS.out.2.1.size h2.1.size, fun z hz => by rw [h2.1.block z hz, HS.out.2.1.block z hz]⟩⟩
        clear KW h1 h2
        go_wp2
        go_roundg f
        case measure => omega
        case rel => exact ⟨k + z, t ++ T, rfl, hid13 ⟨H1.out.1, H1.out.2, by rw [← HS.out.2.2.1, HPr.out, List.append_assoc], by have := HS.out; have := HZ.out; omega, HZ.out.2.1, by have := HS.out; have := HZ.out; rw [List.length_append]; omega⟩⟩
      · have hli : ¬ (k : Int) < (Q : Int) := by omega
        have hR : t = prT l := by
          have := HS.out.2.2.1
          rw [show prL l (f + 1) k = (if k < l.length / 4 then lnT l k ++ prL l f (k + lnZ l k) else []) from rfl, if_neg (by have := HQ.out; omega), List.append_nil] at this
          exact this
        have KS := bstr_any w.heap.size t wr HS.out.1 (Nat.le_of_lt HS.out.1.lt)
        obtain ⟨tt, htt⟩ : ∃ tt, tt = prT l := ⟨_, rfl⟩
        rw [hR, ← htt] at KS
        have HTT := hid13 htt
        have HLo := hid13 HS.out.2.1
        clear HS hlt hR htt
        go_wp2_with fail
        refine KS.mono ?_
        rintro e w1 ⟨rfl, hb1⟩
        have HF : Hid (Below w.heap.size w w1) := hid13 ⟨by rw [hb1.os, HLo.out.os], by rw [hb1.tape, HLo.out.tape], by rw [hb1.output, HLo.out.output], Nat.le_trans HLo.out.size hb1.size, fun z hz => by rw [hb1.block z hz, HLo.out.block z hz]⟩
        clear KS hb1
        go_wp2
        exact bodyPost_ret (v := .tuple #[.string ⟨tt.toArray⟩, .int .i64 0]) (by simp [results, Tryd.results9, go_sem]) rfl ⟨by rw [HTT.out], HF.out⟩
  · have hT : prT l = [] := by unfold prT; rw [if_neg h4]
    have hE : prE l = 30 := by unfold prE; rw [if_neg h4]
    rw [hT, hE]
    obtain ⟨q, hq⟩ : ∃ q, q = l.length % 4 := ⟨_, rfl⟩
    rw [← hq] at m0 h4
    have m0' : ((l.length : Nat) : Int) % 4 = (q : Int) := by omega
    have h4' : ((q : Int) == 0) = false := by rw [beq_eq_false_iff_ne]; omega
    clear hT hE hv hN hP hx hq
    go_enter Tryd.func9, Tryd.ntmps9
    go_wp2
    exact bodyPost_ret (v := .tuple #[.string ⟨#[]⟩, .int .i64 30]) (by simp [results, Tryd.results9, go_sem]) rfl ⟨rfl, Below.refl _ _⟩
end Go.Proofs.YtologchdnjnadaaDoor
/-
  The law's known.
-/
namespace Go.Proofs.YtologchdnjnadaaDoor
open Go.RowKit
set_option linter.unusedSimpArgs false
set_option linter.unusedVariables false

theorem eqF_run (a b c a' b' c' : Int) (w : World) :
    (Op.equalIn 10000 31 (.agg #[.int .i64 a, .int .i64 b, .int .i64 c]) (.agg #[.int .i64 a', .int .i64 b', .int .i64 c'])).run Tryd.prog w = .ok ((a == a') && (b == b') && (c == c')) w := by
  by_cases h1 : a = a' <;> by_cases h2 : b = b' <;> by_cases h3 : c = c' <;> go_simp <;> simp [*]
theorem kn_l0 : lnT [4, 0, 0, 5, 3, 0, 0, 2] 0 = [114, 101, 116, 117, 114, 110, 32, 53, 10] ∧ lnZ [4, 0, 0, 5, 3, 0, 0, 2] 0 = 1 := by
  have h := dec_enc [] [3, 0, 0, 2] 0 4 5 [] rfl (by decide +kernel)
  have e : ([] ++ wdB (4 : Int).toNat (5 : Int).toNat [] ++ [3, 0, 0, 2]) = [4, 0, 0, 5, 3, 0, 0, 2] := by decide +kernel
  rw [e] at h
  obtain ⟨h1, h2, h3⟩ := h
  unfold lnT lnZ
  rw [if_pos h1, if_pos h1, h2]
  refine ⟨?_, rfl⟩
  show nmL 4 ++ [32] ++ Lib.decDigits 5 ++ wdsL [] ++ [10] = _
  rw [Lib.decDigits_one (by decide)]
  rfl
theorem kn_l1 : lnT [4, 0, 0, 5, 3, 0, 0, 2] 1 = [106, 117, 109, 112, 32, 50, 10] ∧ lnZ [4, 0, 0, 5, 3, 0, 0, 2] 1 = 1 := by
  have h := dec_enc [4, 0, 0, 5] [] 1 3 2 [] rfl (by decide +kernel)
  have e : ([4, 0, 0, 5] ++ wdB (3 : Int).toNat (2 : Int).toNat [] ++ []) = [4, 0, 0, 5, 3, 0, 0, 2] := by decide +kernel
  rw [e] at h
  obtain ⟨h1, h2, h3⟩ := h
  unfold lnT lnZ
  rw [if_pos h1, if_pos h1, h2]
  refine ⟨?_, rfl⟩
  show nmL 3 ++ [32] ++ Lib.decDigits 2 ++ wdsL [] ++ [10] = _
  rw [Lib.decDigits_one (by decide)]
  rfl
theorem kn_pr : prT [4, 0, 0, 5, 3, 0, 0, 2] = [114, 101, 116, 117, 114, 110, 32, 53, 10, 106, 117, 109, 112, 32, 50, 10] := by
  unfold prT
  rw [if_pos (by decide)]
  show prL _ 3 0 = _
  show (if 0 < 2 then lnT _ 0 ++ prL _ 2 (0 + lnZ _ 0) else []) = _
  rw [if_pos (by decide), kn_l0.1, kn_l0.2]
  show _ ++ (if 1 < 2 then lnT _ 1 ++ prL _ 1 (1 + lnZ _ 1) else []) = _
  rw [if_pos (by decide), kn_l1.1, kn_l1.2]
  rfl
def knS : ByteArray := ⟨#[101, 120, 116, 114, 97, 99, 116, 32, 49, 10, 105, 110, 100, 101, 120, 32, 49, 32, 99, 48, 48, 48, 48, 48, 48, 48, 10]⟩
theorem kn_pa : paP (fr knS 0) = ([1, 0, 0, 1, 2, 0, 0, 1, 192, 0, 0, 0], 0, 0, 0) := by decide +kernel
set_option maxHeartbeats 4000000 in
set_option maxRecDepth 20000 in
theorem known15 (w : World) (hN : Nm w) (hP : Pow15 w) :
    Calls Tryd.prog 8 #[] w fun e w' => e = .returned (.bool true) ∧ Below w.heap.size w w' := by
  have q1 := bl1 w (.cells #[.int .u8 4, .int .u8 0, .int .u8 0, .int .u8 5, .int .u8 3, .int .u8 0, .int .u8 0, .int .u8 2] 5)
  have hby : ∀ b ∈ [4, 0, 0, 5, 3, 0, 0, 2], b < 256 := by decide
  have K1 := print15_any (.slice (some ⟨w.heap.size, 0, none⟩) 8 8) [4, 0, 0, 5, 3, 0, 0, 2] (w.alloc (.cells #[.int .u8 4, .int .u8 0, .int .u8 0, .int .u8 5, .int .u8 3, .int .u8 0, .int .u8 0, .int .u8 2] 5)) ⟨some ⟨w.heap.size, 0, none⟩, 8, rfl, Nat.le_refl _, .inr ⟨w.heap.size, 0, rfl, fun j x hj => by
    match j, hj with
    | 0, hj | 1, hj | 2, hj | 3, hj | 4, hj | 5, hj | 6, hj | 7, hj => simp at hj; subst hj; simp [cB]⟩⟩ (hN.below q1) (hP.keep q1) (by decide) hby
  rw [kn_pr] at K1
  have e1 : prE [4, 0, 0, 5, 3, 0, 0, 2] = 0 := rfl
  rw [e1] at K1
  have HN := hid13 hN
  have HQ1 := hid13 q1
  clear hN hP q1 hby e1
  go_enter Tryd.func8, Tryd.ntmps8
  go_wp2_with fail
  refine K1.mono ?_
  rintro e w1 ⟨rfl, hb1⟩
  have HB1 := hid13 (keepb hb1 HQ1.out)
  have K2 := parse15_any knS w1 (by decide) (HN.out.below HB1.out)
  rw [kn_pa] at K2
  unfold knS at K2
  clear K1 hb1
  go_wp2_with fail
  refine K2.mono ?_
  rintro e w2 ⟨v', rfl, ho, hb2⟩
  have q3 := bl1 w2 (.cells #[.int .i64 0, .int .i64 0, .int .i64 0] 31)
  have HB2 := hid13 (keepb q3 (keepb hb2 HB1.out))
  have hc := conv13 (l := [1, 0, 0, 1, 2, 0, 0, 1, 192, 0, 0, 0]) (own_rwx (own_b13 q3 ho)) (by decide)
  have e9 : bsA [1, 0, 0, 1, 2, 0, 0, 1, 192, 0, 0, 0] = ⟨#[1, 0, 0, 1, 2, 0, 0, 1, 192, 0, 0, 0]⟩ := by rfl
  rw [e9] at hc
  obtain ⟨ao, bc, hv⟩ := own_form ho
  subst hv
  change (convert 22 9 (.slice ao 12 bc)).run Tryd.prog _ = _ at hc
  have hF := fun w => eqF_run 0 0 0 0 0 0 w
  clear K2 ho hb2 q3 HB1
  go_wp2
  go_ret
  exact ⟨rfl, HB2.out⟩
end Go.Proofs.YtologchdnjnadaaDoor
/-
  AsmReads: Parse is the document's.
-/
namespace Go.Proofs.YtologchdnjnadaaDoor
open Go.RowKit
set_option linter.unusedSimpArgs false
set_option linter.unusedVariables false

/-- A fault's variable. -/
def AtG (w : World) (B : Nat) (a b c : Int) : Prop := w.heap[B]? = some (.cells #[.int .i64 a, .int .i64 b, .int .i64 c] 31)
theorem AtG.below {w w' : World} {B : Nat} {a b c : Int} (h : AtG w B a b c) (hb : Below w.heap.size w w') : AtG w' B a b c := (hb.block B (lt_b15 h)).trans h
theorem atg_new (w : World) (a b c : Int) : AtG (w.alloc (.cells #[.int .i64 a, .int .i64 b, .int .i64 c] 31)) w.heap.size a b c := Array.getElem?_push_size
theorem AtG.c {w : World} {B : Nat} {a b c : Int} (h : AtG w B a b c) : w.cell? ⟨B, 0, none⟩ = some (.int .i64 a) ∧ w.cell? ⟨B, 1, none⟩ = some (.int .i64 b) ∧ w.cell? ⟨B, 2, none⟩ = some (.int .i64 c) := ⟨at_b15 h 0 _ rfl, at_b15 h 1 _ rfl, at_b15 h 2 _ rfl⟩
set_option maxRecDepth 20000 in
set_option maxHeartbeats 8000000 in
theorem asmReads_any (s : ByteArray) (w : World) (hN : Nm w) (hP : Pow15 w) :
    Calls Tryd.prog 4 #[.string s] w fun e w' => e = .returned (.bool true) ∧ Below w.heap.size w w' := by
  have K0 := known15 w hN hP
  by_cases h1 : 65536 < s.size
  · have h1i : (65536 : Int) < (s.size : Int) := by omega
    clear hN hP h1
    go_enter Tryd.func4, Tryd.ntmps4
    go_wp2_with fail
    refine K0.mono ?_
    rintro e W0 ⟨rfl, hb0⟩
    have HB0 := hid13 hb0
    clear K0 hb0
    go_wp2
    go_ret
    exact ⟨rfl, HB0.out⟩
  have h1i : ¬ (65536 : Int) < (s.size : Int) := by omega
  have HN := hid13 hN
  have HL : Hid (s.size ≤ 1000000) := hid13 (by omega)
  have HX := hid13 (paP_ok (fr s 0))
  have K1 := fun W hn => parse15_any s W HL.out hn
  have K2 := fun W => rdparse_any s W HL.out
  clear hN hP h1
  generalize paP (fr s 0) = q at *
  obtain ⟨A, a, b, c⟩ := q
  simp only at K1 K2 HX
  go_enter Tryd.func4, Tryd.ntmps4
  go_wp2_with fail
  refine K0.mono ?_
  rintro e w0 ⟨rfl, hb0⟩
  have HB0 := hid13 hb0
  have K3 := K1 w0 (HN.out.below hb0)
  clear K0 hb0 K1
  go_wp2_with fail
  refine K3.mono ?_
  rintro e w3 ⟨v3, rfl, ho3, hb3⟩
  have q3 := bl1 w3 (.cells #[.int .i64 a, .int .i64 b, .int .i64 c] 31)
  have HB3 := hid13 (keepb q3 (keepb hb3 HB0.out))
  have HO3 := hid13 (own_b13 q3 ho3)
  have HF3 := hid13 (atg_new w3 a b c)
  have K4 := K2 (w3.alloc (.cells #[.int .i64 a, .int .i64 b, .int .i64 c] 31))
  clear K3 hb3 ho3 K2 HB0 q3
  go_wp2_with fail
  refine K4.mono ?_
  rintro e w4 ⟨v4, rfl, ho4, hb4⟩
  have q4 := bl1 w4 (.cells #[.int .i64 a, .int .i64 b, .int .i64 c] 31)
  have HB4 := hid13 (keepb q4 (keepb hb4 HB3.out))
  have k1 := conv13 (own_rwx (own_b13 q4 (own_b13 hb4 HO3.out))) HX.out
  have k2 := conv13 (own_rwx (own_b13 q4 ho4)) HX.out
  obtain ⟨c0, c1, c2⟩ := ((HF3.out.below hb4).below q4).c
  obtain ⟨o3, c3, hv3⟩ := own_form HO3.out
  obtain ⟨o4, c4, hv4⟩ := own_form ho4
  subst hv3 hv4
  clear K4 hb4 ho4 HB3 HO3 q4 HF3
  have k3 := fun W => eqF_run a b c a b c W
  simp only [BEq.rfl, Bool.and_self] at k3
  generalize bsA A = B at *
  go_wp2
  go_ret
  exact ⟨rfl, HB4.out⟩
end Go.Proofs.YtologchdnjnadaaDoor
/-
  The document's Decimal.
-/
namespace Go.Proofs.YtologchdnjnadaaDoor
open Go.RowKit
set_option linter.unusedSimpArgs false
set_option linter.unusedVariables false

/-- The digits of m, written ahead of t. -/
def decF15 : Nat → Nat → List UInt8 → List UInt8
  | 0, _, t => t
  | f + 1, m, t => if m = 0 ∧ ¬ t = [] then t else decF15 f (m / 10) (UInt8.ofNat (48 + m % 10) :: t)
def decL15 (n : Nat) : List UInt8 := decF15 20 n []

theorem one_conv15 (w : World) (d : Nat) (h : d < 256) :
    (convert 22 9 (.slice (some ⟨w.heap.size, 0, none⟩) 1 1)).run Tryd.prog (w.alloc (.cells #[.int .u8 (d : Int)] 5)) = .ok (.string ⟨#[UInt8.ofNat d]⟩) (w.alloc (.cells #[.int .u8 (d : Int)] 5)) := by
  have := run_convert_bytes_back (P := Tryd.prog) (w.alloc (.cells #[.int .u8 (d : Int)] 5)) 22 9 5 ⟨w.heap.size, 0, none⟩ 1 [UInt8.ofNat d] Tryd.underlying22 Tryd.underlying5 Tryd.underlying9 (by
    intro j hj
    have : j = 0 := by simpa using hj
    subst this
    have e : (UInt8.ofNat d).toNat = d := by rw [UInt8.toNat_ofNat']; omega
    simp [go_sem, Addr.add, e])
  exact this
theorem cat_one15 (d : UInt8) (t : List UInt8) : ((⟨#[d]⟩ : ByteArray) ++ ⟨t.toArray⟩) = ⟨(d :: t).toArray⟩ := by
  apply ByteArray.ext
  simp
theorem decF_zero15 (f m : Nat) (t : List UInt8) (h : m = 0 ∧ ¬ t = []) : decF15 f m t = t := by
  cases f with
  | zero => rfl
  | succ f => exact if_pos h

theorem isEmpty_of15 (t : List UInt8) (S : ByteArray) (h : S = ⟨t.toArray⟩) : S.toList.isEmpty = t.isEmpty := by
  subst h
  rw [Lib.toList_data]
def sizeOf015 (b : Value) : Nat := match b with | .string s => if s.size = 0 then 1 else 0 | _ => 0

set_option maxHeartbeats 1000000 in
set_option maxRecDepth 20000 in
theorem rdec15_any (n : Nat) (w : World) (h : n < 1000000000000000000) :
    Calls Tryd.prog 20 #[.int .i64 n] w fun e w' => e = .returned (.string ⟨(decL15 n).toArray⟩) ∧ Below w.heap.size w w' := by
  have hn0 : ¬ (n : Int) < 0 := by omega
  go_enter Tryd.func20, Tryd.ntmps20
  go_wp2
  go_loopw [0, 3] (fun a b wr => ∃ (f m : Nat) (t : List UInt8) (S : ByteArray), a = .int .i64 m ∧ b = .string S ∧ Hid (S = ⟨t.toArray⟩) ∧ S.size ≤ 20 ∧ Hid (decF15 f m t = decL15 n) ∧ Hid (m < 10 ^ f ∧ (t = [] → 1 ≤ f) ∧ t.length + f ≤ 20) ∧ m < 1000000000000000000 ∧ Below w.heap.size w wr) (fun a b _ => (intOf13 a).toNat * 2 + sizeOf015 b)
  case atStart => exact ⟨20, n, [], ⟨#[]⟩, rfl, rfl, rfl, by decide, rfl, ⟨by omega, by omega, by decide⟩, h, Below.refl _ _⟩
  case round =>
    obtain ⟨f, m, t, S, rfl, rfl, HE, hS, HF, HB, hm, hB⟩ := hrel
    by_cases hz : m = 0 ∧ ¬ t = []
    · have HX : Hid (decL15 n = t) := by show _ = _; rw [← HF.out, decF_zero15 f m t hz]
      obtain ⟨rfl, hne⟩ := hz
      have he : S.toList.isEmpty = false := by
        rw [isEmpty_of15 t S HE.out]
        cases t with
        | nil => exact absurd rfl hne
        | cons a l => rfl
      clear HF HB
      go_wp2
      refine bodyPost_ret (v := .string S) (by simp [results, Tryd.results20, go_sem]) rfl ⟨?_, hB⟩
      rw [HX.out, ← HE.out]
    · obtain ⟨g, rfl⟩ : ∃ g, f = g + 1 := ⟨f - 1, by
        by_cases h0 : m = 0
        · have : t = [] := by
            apply Classical.byContradiction; intro q; exact hz ⟨h0, q⟩
          have := HB.out.2.1 this
          omega
        · have := HB.out.1
          cases f with
          | zero => simp at this; omega
          | succ f => omega⟩
      have HX : Hid (decF15 g (m / 10) (UInt8.ofNat (48 + m % 10) :: t) = decL15 n) := by
        show _ = _
        rw [← HF.out]; exact (if_neg hz).symm
      have HB2 : Hid (m / 10 < 10 ^ g ∧ (UInt8.ofNat (48 + m % 10) :: t = [] → 1 ≤ g) ∧ (UInt8.ofNat (48 + m % 10) :: t).length + g ≤ 20) := by
        refine ⟨?_, fun q => by simp at q, ?_⟩
        · have := HB.out.1
          rw [Nat.pow_succ] at this
          omega
        · have := HB.out.2.2
          simp only [List.length_cons]; omega
      have hv := one_conv15 wr (48 + m % 10) (by omega)
      have hd : ((48 + m % 10 : Nat) : Int) = 48 + (m : Int) % 10 := by omega
      rw [hd] at hv
      have hq : ((m / 10 : Nat) : Int) = (m : Int) / 10 := by omega
      obtain ⟨D, HD⟩ : ∃ D : ByteArray, Hid (D = ⟨#[UInt8.ofNat (48 + m % 10)]⟩) := ⟨_, rfl⟩
      rw [← HD.out] at hv
      have hD : D.size = 1 := by rw [HD.out]; rfl
      have HDS : Hid (D ++ S = ⟨(UInt8.ofNat (48 + m % 10) :: t).toArray⟩) := by
        show _ = _
        rw [HD.out, HE.out, cat_one15]
      have hDS : (D ++ S).size ≤ 20 := by
        rw [HDS.out]
        have := HB2.out.2.2
        show (UInt8.ofNat (48 + m % 10) :: t).length ≤ 20
        omega
      have HM : Hid ((m / 10) * 2 + sizeOf015 (.string (D ++ S)) < m * 2 + sizeOf015 (.string S)) := by
        have e1 : sizeOf015 (.string (D ++ S)) = 0 := by
          unfold sizeOf015
          rw [HDS.out]; rfl
        show _ < _
        rw [e1]
        by_cases h0 : m = 0
        · have : t = [] := by
            apply Classical.byContradiction; intro q; exact hz ⟨h0, q⟩
          rw [HE.out, this, h0]; decide
        · omega
      have hlen : ¬ 9223372036854775807 < D.size + S.size := by omega
      have HEm : Hid (m = 0 → S.toList.isEmpty = true) := fun h0 => by
        have : t = [] := by
          apply Classical.byContradiction; intro q; exact hz ⟨h0, q⟩
        rw [isEmpty_of15 t S HE.out, this]; rfl
      clear HF HB HE HD hz
      by_cases h0 : m = 0
      · have he := HEm.out h0
        subst h0
        have hv0 : (convert 22 9 (.slice (some ⟨wr.heap.size, 0, none⟩) 1 1)).run Tryd.prog (wr.alloc (.cells #[.int .u8 48] 5)) = .ok (.string D) (wr.alloc (.cells #[.int .u8 48] 5)) := hv
        clear HEm hv hd hq
        go_wp2
        go_roundw
        case rel => exact ⟨g, 0, _, D ++ S, rfl, rfl, HDS, hDS, HX, HB2, by omega, hB.alloc hB.size _⟩
        case measure => exact HM.out
      · have h1 : (0 : Int) < m := by omega
        clear HEm h0
        go_wp2
        go_roundw
        case rel => exact ⟨g, m / 10, _, D ++ S, by rw [hq], rfl, HDS, hDS, HX, HB2, by omega, hB.alloc hB.size _⟩
        case measure =>
          have := HM.out
          rw [show intOf13 (Value.int IntKind.i64 ((m : Int) / 10)) = ((m / 10 : Nat) : Int) by rw [hq]; rfl]
          exact this

end Go.Proofs.YtologchdnjnadaaDoor
/-
  What the document's Decode of chapter 14 does.
-/
namespace Go.Proofs.YtologchdnjnadaaDoor
open Go.RowKit
set_option linter.unusedSimpArgs false
set_option linter.unusedVariables false

theorem and24 (x : BitVec 32) : bits .and .u32 (uI x) 16777215 = uI x % 16777216 := by
  have e : (16777215 : Int) = uI 16777215#32 := lit32 16777215 (by decide)
  have h : bits .and .u32 (uI x) (uI 16777215#32) = uI x % 16777216 := by
    rw [and32, uI_eq, uI_eq, BitVec.toNat_and]
    have : (16777215#32).toNat = 2 ^ 24 - 1 := by decide
    rw [this, Nat.and_two_pow_sub_one_eq_mod]
    have : (2 : Nat) ^ 24 = 16777216 := by decide
    omega
  rw [← e] at h
  exact h
theorem dc_err {l : List Nat} {a z : Int} (h : dcE l a = z) (hz : z ≠ 0) : dcI l a = ⟨0, 0, []⟩ ∧ dcZ l a = 0 ∧ dcE l a = z := by
  have hne : ¬ dcE l a = 0 := by rw [h]; exact hz
  exact ⟨by unfold dcI; rw [if_neg hne], by unfold dcZ; rw [if_neg hne], h⟩
theorem dc_ok {l : List Nat} {k : Nat} {m : List (BitVec 32)} (hk : k < l.length / 4) (h : rdP l k = (m, 0)) : dcI l (k : Int) = ⟨insO l k, insN l k, m⟩ ∧ dcZ l (k : Int) = 1 + (m.length : Int) ∧ dcE l (k : Int) = 0 := by
  have hs : stB l.length (k : Int) 1 = true := by unfold stB; simp; omega
  have hE : dcE l (k : Int) = 0 := by unfold dcE; rw [if_pos hs, Int.toNat_natCast, h]
  have hI : dcI l (k : Int) = ⟨insO l k, insN l k, m⟩ := by unfold dcI; rw [if_pos hE, Int.toNat_natCast, h]
  exact ⟨hI, by unfold dcZ; rw [if_pos hE, hI], hE⟩
theorem dc_bad {l : List Nat} {k : Nat} {m : List (BitVec 32)} {z : Int} (hk : k < l.length / 4) (h : rdP l k = (m, z)) (hz : z ≠ 0) : dcI l (k : Int) = ⟨0, 0, []⟩ ∧ dcZ l (k : Int) = 0 ∧ dcE l (k : Int) = z := by
  have hs : stB l.length (k : Int) 1 = true := by unfold stB; simp; omega
  exact dc_err (by unfold dcE; rw [if_pos hs, Int.toNat_natCast, h]) hz
set_option maxRecDepth 100000 in
set_option maxHeartbeats 8000000 in
theorem rdecode_out (v : Value) (l : List Nat) (a : Int) (w : World) (hv : RwX cB w v l) (hl : l.length ≤ 100000) (hx : ∀ b ∈ l, b < 256) (ha : stB l.length a 1 = false) :
    Calls Tryd.prog 16 #[v, .int .i64 a] w fun e w' => ∃ v', e = .returned (.tuple #[insV (dcI l a) v', .int .i64 (dcZ l a), .int .i64 (dcE l a)]) ∧ w'.ownsRow w.heap.size 48 1 v' (dcI l a).m.length ((dcI l a).m.map cU) ∧ Below w.heap.size w w' := by
  have hE : dcE l a = 30 := by unfold dcE; rw [if_neg (by rw [ha]; decide)]
  have HE := hid13 (dc_err hE (by decide))
  have hs : ¬ (0 ≤ a ∧ 4 * a + 4 ≤ (l.length : Int)) := by
    unfold stB at ha
    intro q
    have : (decide (0 ≤ a) && decide (a ≤ (l.length : Int) / 4 - 1)) = true := by simp; omega
    rw [this] at ha; cases ha
  have fin : ∀ (W : World) (hb : Below w.heap.size w W), ∃ v', (Ending.returned (.tuple #[.agg #[.int .i64 0, .int .i64 0, .slice none 0 0], .int .i64 0, .int .i64 30])) = .returned (.tuple #[insV (dcI l a) v', .int .i64 (dcZ l a), .int .i64 (dcE l a)]) ∧ W.ownsRow w.heap.size 48 1 v' (dcI l a).m.length ((dcI l a).m.map cU) ∧ Below w.heap.size w W := by
    intro W hb
    refine ⟨.slice none 0 0, ?_, ?_, hb⟩
    · rw [HE.out.1, HE.out.2.1, HE.out.2.2]; rfl
    · rw [HE.out.1]; exact World.ownsRow_nil _ _ _ _
  have HFin := hid13 fin
  obtain ⟨ao, cc, hvf, -⟩ := id hv
  by_cases d0 : a < 0
  · subst hvf
    clear hs ha hE fin hv
    go_enter Tryd.func16, Tryd.ntmps16
    go_wp2
    exact bodyPost_ret (v := .tuple #[.agg #[.int .i64 0, .int .i64 0, .slice none 0 0], .int .i64 0, .int .i64 30]) (by simp [results, Tryd.results16, go_sem]) rfl (HFin.out _ (bl1 _ _))
  by_cases d1 : (l.length : Int) ≤ a
  · subst hvf
    clear hs ha hE fin hv
    go_enter Tryd.func16, Tryd.ntmps16
    go_wp2
    exact bodyPost_ret (v := .tuple #[.agg #[.int .i64 0, .int .i64 0, .slice none 0 0], .int .i64 0, .int .i64 30]) (by simp [results, Tryd.results16, go_sem]) rfl (HFin.out _ (bl1 _ _))
  have q1 := bl1 w (.cells #[.int .i64 0, .int .i64 0, .slice none 0 0] 45)
  have K1 := rget13 v l (4 * a) 4 4 rfl (by decide) (by decide) _ (hv.below q1) (by omega) hx (by omega) (by omega)
  have hno : ¬ (0 ≤ 4 * a ∧ 4 * a ≤ (l.length : Int) - ((4 : Nat) : Int)) := by rintro ⟨q1, q2⟩; exact hs ⟨by omega, by omega⟩
  rw [decide_eq_false hno, show gtN l (4 * a) 4 = 0 by unfold gtN; rw [if_neg hno]] at K1
  have mw : IntKind.i64.wrap (4 * a) = 4 * a := by rw [IntKind.wrap_i64]; omega
  subst hvf
  clear hs ha hE fin hv hno q1
  go_enter Tryd.func16, Tryd.ntmps16
  go_wp2_with fail
  refine K1.mono ?_
  rintro e w2 ⟨rfl, hw2⟩
  replace hw2 := hw2.symm
  subst hw2
  go_wp2
  exact bodyPost_ret (v := .tuple #[.agg #[.int .i64 0, .int .i64 0, .slice none 0 0], .int .i64 0, .int .i64 30]) (by simp [results, Tryd.results16, go_sem]) rfl (HFin.out _ (bl1 _ _))
/-- The document's variables while it reads a map. -/
structure DcW (w W : World) (B : Nat) (o n : Int) (vb : Value) (R : List (BitVec 32)) : Prop where
  b : Below w.heap.size w W
  r : AtIF W w.heap.size 0 0 (.slice none 0 0)
  i : AtIF W B o n vb
  o : W.ownsRow (B + 1) 48 1 vb R.length (R.map cU)
  s : B + 1 ≤ W.heap.size
section
variable {w W W' : World} {B : Nat} {o n : Int} {vb v' : Value} {R R' : List (BitVec 32)}
theorem DcW.below (h : DcW w W B o n vb R) (hb : Below W.heap.size W W') : DcW w W' B o n vb R := ⟨keepb hb h.b, h.r.below hb, h.i.below hb, own_b13 hb h.o, Nat.le_trans h.s hb.size⟩
theorem AtIF.grown {C : Nat} {row : Option Nat} (h : AtIF W C o n vb) (hg : W.grownBy W' row) (hne : some C ≠ row) : AtIF W' C o n vb := by
  have e : W'.heap[C]? = W.heap[C]? := hg.block C (cell_in h.1.1) hne
  have f : ∀ j, W'.frozen? ⟨C, j, none⟩ = W.frozen? ⟨C, j, none⟩ := fun j => World.frozen?_of_block (a := ⟨C, j, none⟩) e
  exact ⟨⟨hg.cell h.1.1 hne, hg.cell h.1.2.1 hne, hg.cell h.1.2.2 hne⟩, (f 0).trans h.2.1, (f 1).trans h.2.2.1, (f 2).trans h.2.2.2⟩
/-- An append, and the store of what it told. -/
theorem DcW.app (h : DcW w W B o n vb R) (hB : w.heap.size < B) (ho : W'.ownsRow (B + 1) 48 1 v' R'.length (R'.map cU)) (hg : W.grownBy W' vb.ownBlock) : AtIF W' B o n vb ∧ DcW w (W'.setCell ⟨B, 2, none⟩ v') B o n v' R' := by
  have hne : ∀ C, C ≤ B → some C ≠ vb.ownBlock := fun C hC e => by have := (h.o.lt C e.symm).1; omega
  have hi := h.i.grown hg (hne B (Nat.le_refl _))
  have hr := h.r.grown hg (hne w.heap.size (by omega))
  have hb : Below w.heap.size w W' := h.b.grown hg (by have := h.s; omega) (fun k e => by have := (h.o.lt k e).1; omega)
  refine ⟨hi, ?_⟩
  obtain ⟨⟨i0, i1, i2⟩, f0, f1, f2⟩ := hi
  obtain ⟨⟨r0, r1, r2⟩, g0, g1, g2⟩ := hr
  have hBw : ¬ w.heap.size = B := by omega
  have hBw' : ¬ B = w.heap.size := by omega
  refine ⟨hb.setCell (p := ⟨B, 2, none⟩) (by show w.heap.size ≤ B; omega) _, ⟨⟨?_, ?_, ?_⟩, ?_, ?_, ?_⟩, ⟨⟨?_, ?_, ?_⟩, ?_, ?_, ?_⟩, ownsRow_setCell_below ho (Nat.lt_succ_self _) _, ?_⟩
  all_goals first | (simp [go_sem, *]; done) | skip
  · simp [World.setCell]; exact Nat.le_trans h.s hg.size
end
end Go.Proofs.YtologchdnjnadaaDoor
