/-
  Part 9 of the proof: 5 texts, one behind the other.
-/
import Derived.Test.YtbgoclfifhdonaaPart8
import Derived.Test.YtbgoclfifhdonaaPart6
import Derived.Test.YtbgoclfifhdonaaPart7
import Derived.Test.YtbgoclfifhdonaaPart5
import Derived.Test.YtbgoclfifhdonaaPart4
namespace Go.Proofs.Ytbgoclfifhdonaa
open Go.RowKit
set_option linter.unusedSimpArgs false
set_option linter.unusedVariables false

theorem ruM_def (F : Int) (x : BitVec 128) (l : List Nat) (k : Nat) : ruM F x l (rightE F x) k = if (goM F x l k (mc0 (rightE F x))).en = true then goM F x l k (mc0 (rightE F x)) else { goM F x l k (mc0 (rightE F x)) with en := true, err := 29 } := rfl
set_option maxHeartbeats 8000000 in
theorem run19 (F : Int) (vc : Value) (x : BitVec 128) (n : Int) (l : List Nat) (w : World) (hcode : RwX cB w vc l) (hl : l.length ≤ 16777216) (hx : ∀ b ∈ l, b < 256) (hn : n ≤ 9223372036854775807) :
    Calls Try.prog 10 #[.int .i64 F, vc, .agg #[.int .u64 (hI x), .int .u64 (lI x)], .int .i64 n] w fun r w' => r = .returned (rsV (ruM F x l (rightE F x) n.toNat)) ∧ Below w.heap.size w w' := by
  obtain ⟨co, cc, rfl, -⟩ := id hcode
  obtain ⟨V, hV⟩ : ∃ V, V = (w.alloc (.cells #[.int .u64 (hI x), .int .u64 (lI x)] 25)).alloc (.cells #[.int .i64 0, .int .i64 0, .int .i64 0, .int .i64 0, .int .i64 0, .int .i64 0] 29) := ⟨_, rfl⟩
  have q1 := bl1 w (.cells #[.int .u64 (hI x), .int .u64 (lI x)] 25)
  have hs : (w.alloc (.cells #[.int .u64 (hI x), .int .u64 (lI x)] 25)).heap.size = w.heap.size + 1 := by simp
  have HQ : Hid (Below w.heap.size w V) := by rw [hV]; exact keepb (bl1 _ _) q1
  have HS : Hid (V.heap.size = w.heap.size + 2) := by rw [hV]; show _ = _; simp
  have HR : Hid (V.heap[w.heap.size + 1]? = some (.cells #[.int .i64 0, .int .i64 0, .int .i64 0, .int .i64 0, .int .i64 0, .int .i64 0] 29)) := by rw [hV]; unfold Hid; rw [← hs]; exact new_16 _ _
  have HW : Hid (V.heap[w.heap.size]? = some (.cells #[.int .u64 (hI x), .int .u64 (lI x)] 25)) := by rw [hV]; exact old_16 _ (new_16 _ _)
  have w0 := at_16 HW.out 0 _ rfl
  have w1 := at_16 HW.out 1 _ rfl
  have K1 := start19 F co l.length cc x V
  have HCd := hid13 hcode
  have HL := hid13 (And.intro hl hx)
  have HN := hid13 hn
  have HU := hid13 (ruM_def F x l n.toNat)
  have HOK : Hid (MOk F ((l.length / 4 : Nat) : Int) (mc0 (rightE F x))) := mc0_ok (by omega) fam_right
  unfold StQ at K1
  unfold rsV
  generalize rightE F x = E at K1 HU HOK ⊢
  clear q1 hs hcode hl hx hn
  go_enter Try.func10, Try.ntmps10
  go_wp2_with fail
  rw [← hV]
  clear hV
  refine K1.mono ?_
  rintro r X ⟨B, rfl, hB, hMX, hbX⟩
  have HX : Hid (MV X B F (.slice co l.length cc) x (mc0 E) ∧ Below V.heap.size V X ∧ V.heap.size ≤ B) := ⟨hMX, hbX, hB⟩
  have KG := goOn19 B F (.slice co l.length cc) x (mc0 E) n l X hMX (CB.ne (HCd.out.below HQ.out) hB) ((HCd.out.below HQ.out).below hbX) HL.out.1 HL.out.2 HOK.out HN.out
  clear K1 hB hMX hbX w0 w1 HW
  go_wp2_with fail
  refine KG.mono ?_
  rintro r Y ⟨rfl, h1, h2⟩
  have HRY : Hid (Y.heap[w.heap.size + 1]? = some (.cells #[.int .i64 0, .int .i64 0, .int .i64 0, .int .i64 0, .int .i64 0, .int .i64 0] 29) ∧ w.heap.size + 1 ≠ B) := by
    have h3 := HX.out.2.2
    have h4 := HS.out
    refine ⟨(h2.ot.2 _ ?_ (by omega)).trans ((HX.out.2.1.block _ (lt_16 HR.out)).trans HR.out), by omega⟩
    have := HX.out.2.1.size
    omega
  have HBY : Hid (Below w.heap.size w Y ∧ w.heap.size ≤ B) := by
    have h3 := HX.out.2.2
    have h4 := HS.out
    exact ⟨(HQ.out.trans (HX.out.2.1.mono (by omega))).trans (h2.lo.mono (by omega)), by omega⟩
  generalize goM F x l n.toNat (mc0 E) = mG at h1 HU
  have c5 := h1.c5
  have HMY := hid13 h1
  clear KG h1 h2 HX HR HCd HL HN HOK HQ HS
  cases he : mG.en with
  | true =>
    rw [he] at c5
    rw [he, if_pos rfl] at HU
    clear he
    have K3 := fun Z hZ => result19 B F (.slice co l.length cc) x mG Z hZ
    unfold rsV at K3
    go_wp2_with fail
    refine (K3 _ HMY.out).mono ?_
    rintro r Z ⟨rfl, hb⟩
    have hz := (hb.block _ (lt_16 HRY.out.1)).trans HRY.out.1
    have HBZ : Hid (Below w.heap.size w Z) := HBY.out.1.trans (hb.mono HBY.out.1.size)
    have z0 := at_16 hz 0 _ rfl
    have z1 := at_16 hz 1 _ rfl
    have z2 := at_16 hz 2 _ rfl
    have z3 := at_16 hz 3 _ rfl
    have z4 := at_16 hz 4 _ rfl
    have z5 := at_16 hz 5 _ rfl
    have y0 := fr_16 (j := 0) hz
    have y1 := fr_16 (j := 1) hz
    have y2 := fr_16 (j := 2) hz
    have y3 := fr_16 (j := 3) hz
    have y4 := fr_16 (j := 4) hz
    have y5 := fr_16 (j := 5) hz
    clear K3 hb hz c5 HMY HRY HBY
    go_wp2
    refine bodyPost_ret (v := .agg #[.int .i64 mG.hop, .int .i64 mG.err, .int .i64 mG.st, .int .i64 mG.ex, .int .i64 mG.ix, .int .i64 mG.bt]) (by simp [results, Try.results10, go_sem, *]) rfl ⟨by rw [HU.out]; first | done | rfl, ?_⟩
    exact (((((HBZ.out.setCell (p := ⟨w.heap.size + 1, 0, none⟩) (Nat.le_succ _) _).setCell (p := ⟨w.heap.size + 1, 1, none⟩) (Nat.le_succ _) _).setCell (p := ⟨w.heap.size + 1, 2, none⟩) (Nat.le_succ _) _).setCell (p := ⟨w.heap.size + 1, 3, none⟩) (Nat.le_succ _) _).setCell (p := ⟨w.heap.size + 1, 4, none⟩) (Nat.le_succ _) _).setCell (p := ⟨w.heap.size + 1, 5, none⟩) (Nat.le_succ _) _
  | false =>
    rw [he] at c5
    rw [he, if_neg (by decide)] at HU
    clear he
    have K2 := fun Z hZ => end19 B F (.slice co l.length cc) x mG 29 Z hZ
    have K3 := fun Z hZ => result19 B F (.slice co l.length cc) x { mG with en := true, err := 29 } Z hZ
    unfold rsV at K3
    dsimp only at K3 ⊢
    go_wp2_with fail
    refine (K2 _ HMY.out).mono ?_
    rintro r Y2 ⟨rfl, h1, h2⟩
    have HRY2 : Hid (Y2.heap[w.heap.size + 1]? = some (.cells #[.int .i64 0, .int .i64 0, .int .i64 0, .int .i64 0, .int .i64 0, .int .i64 0] 29)) := (h2.ot.2 _ (lt_16 HRY.out.1) HRY.out.2).trans HRY.out.1
    have HBY2 : Hid (Below w.heap.size w Y2) := HBY.out.1.trans (h2.lo.mono HBY.out.2)
    have HM2 := hid13 h1
    clear K2 h1 h2 c5 HMY HRY HBY
    go_wp2_with fail
    refine (K3 _ HM2.out).mono ?_
    rintro r Z ⟨rfl, hb⟩
    have hz := (hb.block _ (lt_16 HRY2.out)).trans HRY2.out
    have HBZ : Hid (Below w.heap.size w Z) := HBY2.out.trans (hb.mono HBY2.out.size)
    have z0 := at_16 hz 0 _ rfl
    have z1 := at_16 hz 1 _ rfl
    have z2 := at_16 hz 2 _ rfl
    have z3 := at_16 hz 3 _ rfl
    have z4 := at_16 hz 4 _ rfl
    have z5 := at_16 hz 5 _ rfl
    have y0 := fr_16 (j := 0) hz
    have y1 := fr_16 (j := 1) hz
    have y2 := fr_16 (j := 2) hz
    have y3 := fr_16 (j := 3) hz
    have y4 := fr_16 (j := 4) hz
    have y5 := fr_16 (j := 5) hz
    clear K3 hb hz HM2 HRY2 HBY2
    go_wp2
    refine bodyPost_ret (v := .agg #[.int .i64 mG.hop, .int .i64 29, .int .i64 mG.st, .int .i64 mG.ex, .int .i64 mG.ix, .int .i64 mG.bt]) (by simp [results, Try.results10, go_sem, *]) rfl ⟨by rw [HU.out]; first | done | rfl, ?_⟩
    exact (((((HBZ.out.setCell (p := ⟨w.heap.size + 1, 0, none⟩) (Nat.le_succ _) _).setCell (p := ⟨w.heap.size + 1, 1, none⟩) (Nat.le_succ _) _).setCell (p := ⟨w.heap.size + 1, 2, none⟩) (Nat.le_succ _) _).setCell (p := ⟨w.heap.size + 1, 3, none⟩) (Nat.le_succ _) _).setCell (p := ⟨w.heap.size + 1, 4, none⟩) (Nat.le_succ _) _).setCell (p := ⟨w.heap.size + 1, 5, none⟩) (Nat.le_succ _) _
end Go.Proofs.Ytbgoclfifhdonaa
namespace Go.Proofs.Ytbgoclfifhdonaa
open Go.RowKit
set_option linter.unusedSimpArgs false
set_option linter.unusedVariables false

theorem eqR_run (a b c d e f a' b' c' d' e' f' : Int) (w : World) :
    (Op.equalIn 10000 29 (.agg #[.int .i64 a, .int .i64 b, .int .i64 c, .int .i64 d, .int .i64 e, .int .i64 f]) (.agg #[.int .i64 a', .int .i64 b', .int .i64 c', .int .i64 d', .int .i64 e', .int .i64 f'])).run Try.prog w = .ok ((a == a') && ((b == b') && ((c == c') && ((d == d') && ((e == e') && (f == f')))))) w := by
  by_cases h1 : a = a'
  · by_cases h2 : b = b'
    · by_cases h3 : c = c'
      · by_cases h4 : d = d'
        · by_cases h5 : e = e'
          · by_cases h6 : f = f'
            · subst h1 h2 h3 h4 h5 h6; go_simp
              try simp [*]
            · subst h1 h2 h3 h4 h5; go_simp
              try simp [*]
          · subst h1 h2 h3 h4; go_simp
            try simp [*]
        · subst h1 h2 h3; go_simp
          try simp [*]
      · subst h1 h2; go_simp
        try simp [*]
    · subst h1; go_simp
      try simp [*]
  · go_simp
    try simp [*]
theorem rwx_new19 (w : World) (l : List Nat) (T : TypeId) : RwX cB (w.alloc (.cells (l.map cB).toArray T)) (.slice (some ⟨w.heap.size, 0, none⟩) l.length l.length) l := by
  refine ⟨_, _, rfl, Nat.le_refl _, .inr ⟨w.heap.size, 0, rfl, fun j x hj => ?_⟩⟩
  refine at_16 (new_16 _ _) _ _ ?_
  rw [Nat.zero_add, List.getElem?_toArray, List.getElem?_map, hj]; rfl
theorem right_zero : rightE 32 0#128 = 0 := by decide +kernel
theorem kn19_dc : dcE [4, 0, 0, 9] 0 = 0 ∧ dcI [4, 0, 0, 9] 0 = ⟨4, 9, []⟩ := by
  have h := dec_enc [] [] 0 4 9 [] rfl (by decide)
  exact ⟨h.1, h.2.1⟩
theorem kn19_ru : ruM 32 0#128 [4, 0, 0, 9] 0 5 = ⟨0, true, 9, 0, 1, 0, 0, 0, 0, 0⟩ := by
  have h1 : (mc0 0).en = false := rfl
  have h2 : stM 32 0#128 [4, 0, 0, 9] (mc0 0) = ⟨0, true, 9, 0, 1, 0, 0, 0, 0, 0⟩ := by
    have e1 : (mc0 0).pl = 0 := rfl
    rw [stM_ok (by rw [e1]; exact kn19_dc.1) (by rw [e1, kn19_dc.2]; rfl), e1, kn19_dc.2]
    rfl
  have h3 : goM 32 0#128 [4, 0, 0, 9] 5 (mc0 0) = ⟨0, true, 9, 0, 1, 0, 0, 0, 0, 0⟩ := by
    rw [goM_go h1, h2, goM_en rfl]
  unfold ruM
  rw [h3]; rfl
set_option maxRecDepth 100000 in
set_option maxHeartbeats 8000000 in
theorem known19 (w : World) :
    Calls Try.prog 9 #[] w fun e w' => e = .returned (.bool true) ∧ Below w.heap.size w w' := by
  have q1 := bl1 w (.cells #[.int .u8 4, .int .u8 0, .int .u8 0, .int .u8 9] 5)
  have hr : RwX cB (w.alloc (.cells #[.int .u8 4, .int .u8 0, .int .u8 0, .int .u8 9] 5)) (.slice (some ⟨w.heap.size, 0, none⟩) 4 4) [4, 0, 0, 9] := rwx_new19 w [4, 0, 0, 9] 5
  have K1 := run19 32 (.slice (some ⟨w.heap.size, 0, none⟩) 4 4) 0#128 5 [4, 0, 0, 9] _ hr (by decide) (by decide) (by decide)
  rw [right_zero, show (5 : Int).toNat = 5 from rfl, kn19_ru, hI_zero, lI_zero] at K1
  unfold rsV at K1
  have HQ := hid13 q1
  have hq := eqR_run 9 0 1 0 0 0 9 0 1 0 0 0
  clear q1 hr
  go_enter Try.func9, Try.ntmps9
  go_wp2_with fail
  refine K1.mono ?_
  rintro e w1 ⟨rfl, hb1⟩
  have HB1 := hid13 (keepb hb1 HQ.out)
  have HB2 : Hid (Below w.heap.size w (w1.alloc (.cells #[.int .i64 9, .int .i64 0, .int .i64 1, .int .i64 0, .int .i64 0, .int .i64 0] 29))) := keepb (bl1 w1 _) HB1.out
  clear K1 hb1 HQ
  go_wp2
  go_ret
  exact ⟨rfl, HB2.out⟩
end Go.Proofs.Ytbgoclfifhdonaa
namespace Go.Proofs.Ytbgoclfifhdonaa
open Go.RowKit
set_option linter.unusedSimpArgs false
set_option linter.unusedVariables false

end Go.Proofs.Ytbgoclfifhdonaa
namespace Go.Proofs.Ytbgoclfifhdonaa
open Go.RowKit
set_option linter.unusedSimpArgs false
set_option linter.unusedVariables false

def fsW (x : BitVec 128) (n : Int) : BitVec 128 := if n ≤ 0 then 0#128 else (x >>> (128 - n).toNat) <<< (128 - n).toNat
theorem fsW_none (x : BitVec 128) (n : Int) (h : n ≤ 0) : fsW x n = 0#128 := by unfold fsW; rw [if_pos h]
theorem fsW_all (x : BitVec 128) (n : Int) (h : 128 ≤ n) : fsW x n = x := by
  unfold fsW; rw [if_neg (by omega), show (128 - n).toNat = 0 by omega]; simp
theorem fsW_bit (x : BitVec 128) (n : Int) (i : Nat) : (fsW x n).getLsbD i = (decide ((128 : Int) - n ≤ i) && x.getLsbD i) := by
  by_cases hi : i < 128
  · unfold fsW
    by_cases h : n ≤ 0
    · rw [if_pos h, decide_eq_false (by omega)]; simp
    · rw [if_neg h]
      simp only [BitVec.getLsbD_shiftLeft, BitVec.getLsbD_ushiftRight, hi, decide_true, Bool.true_and]
      by_cases c : i < (128 - n).toNat
      · rw [decide_eq_true c, decide_eq_false (by omega)]; rfl
      · rw [decide_eq_false c, decide_eq_true (by omega), show (128 - n).toNat + (i - (128 - n).toNat) = i by omega]; rfl
  · rw [BitVec.getLsbD_of_ge _ _ (by omega), BitVec.getLsbD_of_ge x _ (by omega)]; simp
theorem fsW_h1 (x : BitVec 128) (n : Int) (h0 : ¬ n ≤ 0) (h1 : n < 64) : IntKind.u64.wrap (hI x / 2 ^ (64 - n).toNat * 2 ^ (64 - n).toNat) = hI (fsW x n) ∧ lI (fsW x n) = 0 := by
  unfold fsW
  rw [if_neg h0]
  have e : (64 - n).toNat = (128 - n).toNat - 64 := by omega
  rw [e, shr_l2 x (128 - n).toNat (by omega), shl_h2 _ (128 - n).toNat (by omega) (by omega)]
  exact ⟨rfl, shl_l2 _ _ (by omega)⟩
theorem fsW_h2 (x : BitVec 128) (n : Int) (h0 : 64 ≤ n) (h1 : n < 128) : hI (fsW x n) = hI x ∧ IntKind.u64.wrap (lI x / 2 ^ (128 - n).toNat * 2 ^ (128 - n).toNat) = lI (fsW x n) := by
  constructor
  · unfold hI
    congr 2
    apply BitVec.eq_of_getLsbD_eq
    intro i hi
    rw [hv_bit, hv_bit, fsW_bit, show decide ((128 : Int) - n ≤ ((64 + i : Nat) : Int)) = true from decide_eq_true (by omega), Bool.true_and]
  · have hl : lI x / 2 ^ (128 - n).toNat = ((lv x >>> (128 - n).toNat).toNat : Int) := by unfold lI; exact shr64 _ _
    rw [hl, shl64]
    unfold lI
    congr 2
    apply BitVec.eq_of_getLsbD_eq
    intro i hi
    rw [lv_bit, fsW_bit]
    simp only [BitVec.getLsbD_shiftLeft, BitVec.getLsbD_ushiftRight, hi, decide_true, Bool.true_and, lv_bit]
    by_cases c : i < (128 - n).toNat
    · rw [decide_eq_true c, show decide ((128 : Int) - n ≤ (i : Int)) = false from decide_eq_false (by omega)]; rfl
    · rw [decide_eq_false c, show decide ((128 : Int) - n ≤ (i : Int)) = true from decide_eq_true (by omega), show (128 - n).toNat + (i - (128 - n).toNat) = i by omega]; simp [hi]
theorem right_fs (F : Int) (hF : F = 32 ∨ F = 128) (x : BitVec 128) (h : ∀ i : Nat, (i : Int) < 128 - F → x.getLsbD i = false) : rightE F x = 0 := by
  unfold rightE
  have hf : fam F = true := by unfold fam; rcases hF with rfl | rfl <;> decide
  rw [if_pos hf, if_pos]
  apply BitVec.eq_of_getLsbD_eq
  intro i hi
  rw [BitVec.getLsbD_and, maskW_bit F i hi]
  by_cases c : (128 : Int) - F ≤ i
  · rw [show decide (128 - F.toNat ≤ i) = true from decide_eq_true (by omega), Bool.and_true]
  · rw [show decide (128 - F.toNat ≤ i) = false from decide_eq_false (by omega), Bool.and_false, h i (by omega)]
theorem fd_agree {x z : BitVec 128} {T : Int} (h : ∀ i : Nat, 128 - T ≤ (i : Int) → x.getLsbD i = z.getLsbD i) (f n : Int) (h0 : 0 ≤ f) (h1 : 0 ≤ n) (h2 : f + n ≤ T) (hT : T ≤ 128) : fdN x f n = fdN z f n := by
  unfold fdN readW
  congr 1
  apply BitVec.eq_of_getLsbD_eq
  intro i hi
  simp only [BitVec.getLsbD_ushiftRight, BitVec.getLsbD_shiftLeft]
  by_cases c : (128 - n).toNat + i < 128
  · rw [decide_eq_true c]
    by_cases c2 : (128 - n).toNat + i < f.toNat
    · rw [decide_eq_true c2]; rfl
    · rw [decide_eq_false c2]
      simp only [Bool.true_and, Bool.not_false]
      exact h _ (by omega)
  · rw [decide_eq_false c]; rfl
theorem stM_bt {F L : Int} {x : BitVec 128} {l : List Nat} {m : Mc} : m.bt ≤ (stM F x l m).bt := by
  by_cases h1 : dcE l m.pl = 0
  · by_cases h2 : doE F m (dcI l m.pl) = 0
    · rcases did (x := x) h1 h2 with ⟨n, -, -, n0, n1, nb, e⟩ | ⟨z, r, -, -, -, hr, hz, z0, z1, r0, r1, e⟩ | ⟨n, -, -, n0, n1, e⟩ | ⟨n, -, -, n0, n1, e⟩
      · rw [e]; dsimp only; omega
      · rw [e]; exact Int.le_refl _
      · rw [e]; exact Int.le_refl _
      · rw [e]; exact Int.le_refl _
    · rw [stM_do h1 h2]; exact Int.le_refl _
  · rw [stM_dc h1]; exact Int.le_refl _
theorem goM_bt {F : Int} {x : BitVec 128} {l : List Nat} : ∀ (k : Nat) (m : Mc), m.bt ≤ (goM F x l k m).bt
  | 0, m => Int.le_refl _
  | k + 1, m => by
    cases he : m.en with
    | true => rw [goM_en he]; exact Int.le_refl _
    | false =>
      rw [goM_go he]
      exact Int.le_trans (stM_bt (L := 0)) (goM_bt k _)
theorem stM_agree {F : Int} {x z : BitVec 128} {T : Int} {l : List Nat} {m : Mc} (hT : T ≤ 128) (h : ∀ i : Nat, 128 - T ≤ (i : Int) → x.getLsbD i = z.getLsbD i) (hb : 0 ≤ m.bt) (h2 : (stM F x l m).bt ≤ T) : stM F z l m = stM F x l m := by
  by_cases h1 : dcE l m.pl = 0
  · by_cases h3 : doE F m (dcI l m.pl) = 0
    · have e2 := did (x := z) h1 h3
      rcases did (x := x) h1 h3 with ⟨n, o, hn, n0, n1, nb, e⟩ | ⟨q, r, o, -, -, hr, hz, z0, z1, r0, r1, e⟩ | ⟨n, o, hn, n0, n1, e⟩ | ⟨n, o, hn, n0, n1, e⟩
      · rcases e2 with ⟨n', o', hn', -, -, -, e'⟩ | ⟨_, _, o', -⟩ | ⟨_, o', -⟩ | ⟨_, o', -⟩
        · obtain rfl : n = n' := hn.symm.trans hn'
          rw [e, e']
          rw [e] at h2
          dsimp only at h2
          rw [fd_agree h m.bt n hb (by omega) (by omega) hT]
        all_goals (rw [o] at o'; exact absurd o' (by decide))
      · rcases e2 with ⟨_, o', -⟩ | ⟨q', r', o', -, -, hr', hz', -, -, -, -, e'⟩ | ⟨_, o', -⟩ | ⟨_, o', -⟩
        · rw [o] at o'; exact absurd o' (by decide)
        · rw [e, e', hr, hr', hz, hz']
        all_goals (rw [o] at o'; exact absurd o' (by decide))
      · rcases e2 with ⟨_, o', -⟩ | ⟨_, _, o', -⟩ | ⟨n', o', hn', -, -, e'⟩ | ⟨_, o', -⟩
        · rw [o] at o'; exact absurd o' (by decide)
        · rw [o] at o'; exact absurd o' (by decide)
        · rw [e, e', ← hn, ← hn']
        · rw [o] at o'; exact absurd o' (by decide)
      · rcases e2 with ⟨_, o', -⟩ | ⟨_, _, o', -⟩ | ⟨_, o', -⟩ | ⟨n', o', hn', -, -, e'⟩
        · rw [o] at o'; exact absurd o' (by decide)
        · rw [o] at o'; exact absurd o' (by decide)
        · rw [o] at o'; exact absurd o' (by decide)
        · rw [e, e', ← hn, ← hn']
    · rw [stM_do h1 h3, stM_do h1 h3]
  · rw [stM_dc h1, stM_dc h1]
theorem goM_agree {F : Int} {x z : BitVec 128} {T : Int} {l : List Nat} (hT : T ≤ 128) (h : ∀ i : Nat, 128 - T ≤ (i : Int) → x.getLsbD i = z.getLsbD i) : ∀ (k : Nat) (m : Mc), 0 ≤ m.bt → (goM F x l k m).bt ≤ T → goM F z l k m = goM F x l k m
  | 0, m, _, _ => rfl
  | k + 1, m, hb, h2 => by
    cases he : m.en with
    | true => rw [goM_en he, goM_en he]
    | false =>
      rw [goM_go he] at h2
      rw [goM_go he, goM_go he]
      have h3 := Int.le_trans (goM_bt k _) h2
      rw [stM_agree hT h hb h3]
      exact goM_agree hT h k _ (Int.le_trans hb (stM_bt (L := 0))) h2
theorem ru_bits {F : Int} (hF : F = 32 ∨ F = 128) {w u : BitVec 128} {l : List Nat} {n : Nat} (L : Nat) (hL : L = l.length / 4) (m : Mc) (hm : m = ruM F (fsW w F) l (rightE F (fsW w F)) n) (x y : BitVec 128) (hx : x = fsW (fsW w F) m.bt) (hy : y = fsW u F &&& ~~~ fsW (BitVec.allOnes 128) m.bt) :
    ruM F (x ||| y) l (rightE F (x ||| y)) n = m := by
  have hr : rightE F (fsW w F) = 0 := right_fs F hF _ (fun i hi => by rw [fsW_bit, decide_eq_false (by omega)]; rfl)
  have hok := goM_mok (F := F) (x := fsW w F) (l := l) rfl n (mc0 0) (mc0_ok (by omega) (fun _ => hF))
  rw [hr] at hm
  have hbt : m.bt = (goM F (fsW w F) l n (mc0 0)).bt := by rw [hm]; unfold ruM; split <;> rfl
  have hb0 : 0 ≤ m.bt := by rw [hbt]; exact hok.b0
  have hbF : m.bt ≤ F := by
    rw [hbt]
    have : ∀ (k : Nat) (m : Mc), MOk F ((l.length / 4 : Nat) : Int) m → m.bt ≤ F → (goM F (fsW w F) l k m).bt ≤ F := by
      intro k
      induction k with
      | zero => exact fun m _ h => h
      | succ k ih =>
        intro m h1 h2
        cases he : m.en with
        | true => rw [goM_en he]; exact h2
        | false =>
          rw [goM_go he]
          refine ih _ (stM_mok rfl h1 he) ?_
          by_cases q1 : dcE l m.pl = 0
          · by_cases q2 : doE F m (dcI l m.pl) = 0
            · rcases did (x := fsW w F) q1 q2 with ⟨n, -, -, n0, n1, nb, e⟩ | ⟨z, r, -, -, -, hr, hz, z0, z1, r0, r1, e⟩ | ⟨n, -, -, n0, n1, e⟩ | ⟨n, -, -, n0, n1, e⟩
              · rw [e]; exact nb
              · rw [e]; exact h2
              · rw [e]; exact h2
              · rw [e]; exact h2
            · rw [stM_do q1 q2]; exact h2
          · rw [stM_dc q1]; exact h2
    exact this n (mc0 0) (mc0_ok (by omega) (fun _ => hF)) (by show (0 : Int) ≤ F; omega)
  have hF2 : F ≤ 128 := by omega
  have hz : ∀ i : Nat, 128 - m.bt ≤ (i : Int) → (fsW w F).getLsbD i = (x ||| y).getLsbD i := by
    intro i hi
    by_cases h128 : i < 128
    · rw [BitVec.getLsbD_or, hx, hy, fsW_bit (fsW w F) m.bt, BitVec.getLsbD_and, BitVec.getLsbD_not, fsW_bit (BitVec.allOnes 128) m.bt, show decide ((128 : Int) - m.bt ≤ (i : Int)) = true from decide_eq_true hi, BitVec.getLsbD_allOnes, decide_eq_true h128]
      cases (fsW w F).getLsbD i <;> cases (fsW u F).getLsbD i <;> rfl
    · rw [BitVec.getLsbD_of_ge _ _ (by omega), BitVec.getLsbD_of_ge _ _ (by omega)]
  have hrz : rightE F (x ||| y) = 0 := right_fs F hF _ (fun i hi => by
    rw [BitVec.getLsbD_or, hx, hy, fsW_bit (fsW w F) m.bt, decide_eq_false (by omega), BitVec.getLsbD_and, fsW_bit u F, decide_eq_false (by omega)]
    rfl)
  have hg := goM_agree (F := F) (l := l) (by omega : m.bt ≤ 128) hz n (mc0 0) (by decide) (by rw [← hbt]; exact Int.le_refl _)
  rw [hrz, hm]
  unfold ruM
  rw [hg]
end Go.Proofs.Ytbgoclfifhdonaa
namespace Go.Proofs.Ytbgoclfifhdonaa
open Go.RowKit
set_option linter.unusedSimpArgs false
set_option linter.unusedVariables false

set_option maxRecDepth 20000 in
set_option maxHeartbeats 8000000 in
theorem first19 (x : BitVec 128) (n : Int) (w : World) (h0 : -9000000000000000000 ≤ n) :
    Calls Try.prog 19 #[.agg #[.int .u64 (hI x), .int .u64 (lI x)], .int .i64 n] w fun e w' => e = .returned (.agg #[.int .u64 (hI (fsW x n)), .int .u64 (lI (fsW x n))]) ∧ Below w.heap.size w w' := by
  have HB : Hid (∀ (a b c d : Value), Below w.heap.size w ((w.alloc (.cells #[a, b] 25)).alloc (.cells #[c, d] 25))) := hid13 (fun a b c d => bl2 _ _ _)
  by_cases c0 : n ≤ 0
  · rw [fsW_none x n c0, hI_zero, lI_zero]
    go_enter Try.func19, Try.ntmps19
    go_wp2
    exact bodyPost_ret (v := .agg #[.int .u64 0, .int .u64 0]) (by simp [results, Try.results19, go_sem, *]) rfl ⟨rfl, HB.out _ _ _ _⟩
  by_cases c1 : n < 64
  · have e := fsW_h1 x n c0 c1
    have m1 : IntKind.i64.wrap (64 - n) = 64 - n := by rw [IntKind.wrap_i64]; omega
    have m2 : ¬ (64 - n < 0) := by omega
    have m3 : 0 ≤ 64 - n := by omega
    have m4 : n ≤ 64 := by omega
    rw [← e.1, e.2]
    clear e
    go_enter Try.func19, Try.ntmps19
    go_wp2
    exact bodyPost_ret (v := .agg #[.int .u64 (IntKind.u64.wrap (hI x / 2 ^ (64 - n).toNat * 2 ^ (64 - n).toNat)), .int .u64 0]) (by simp [results, Try.results19, go_sem, *]) rfl ⟨rfl, HB.out _ _ _ _⟩
  by_cases c2 : n < 128
  · have e := fsW_h2 x n (by omega) c2
    have m1 : IntKind.i64.wrap (128 - n) = 128 - n := by rw [IntKind.wrap_i64]; omega
    have m2 : ¬ (128 - n < 0) := by omega
    have m3 : 0 ≤ 128 - n := by omega
    have m4 : n ≤ 128 := by omega
    rw [e.1, ← e.2]
    clear e
    go_enter Try.func19, Try.ntmps19
    go_wp2
    go_region
    all_goals go_wp2
    all_goals exact bodyPost_ret (v := .agg #[.int .u64 (hI x), .int .u64 (IntKind.u64.wrap (lI x / 2 ^ (128 - n).toNat * 2 ^ (128 - n).toNat))]) (by simp [results, Try.results19, go_sem, *]) rfl ⟨rfl, by first | exact HB.out _ _ _ _ | exact ((bl2 _ _ _).drew.setCell (p := ⟨_, 0, none⟩) (by simp) _).setCell (p := ⟨_, 1, none⟩) (by simp) _ | exact (((bl2 _ _ _).setCell (p := ⟨_, 0, none⟩) (by simp) _).setCell (p := ⟨_, 1, none⟩) (by simp) _).drew | exact (bl2 _ _ _).drew⟩
  · rw [fsW_all x n (by omega)]
    go_enter Try.func19, Try.ntmps19
    go_wp2
    exact bodyPost_ret (v := .agg #[.int .u64 (hI x), .int .u64 (lI x)]) (by simp [results, Try.results19, go_sem, *]) rfl ⟨rfl, HB.out _ _ _ _⟩
end Go.Proofs.Ytbgoclfifhdonaa
