/-
  Part 9 of the proof: 5 texts, one behind the other.
-/
import Derived.Test.YtbgoclfifhdonaaPart8
import Derived.Test.YtbgoclfifhdonaaPart6
import Derived.Test.YtbgoclfifhdonaaPart7
import Derived.Test.YtbgoclfifhdonaaPart4
namespace Go.Proofs.Ytbgoclfifhdonaa
open Go.RowKit
set_option linter.unusedSimpArgs false
set_option linter.unusedVariables false

theorem ruM_def (F : Int) (x : BitVec 128) (l : List Nat) (k : Nat) : ruM F x l (rightE F x) k = if (goM F x l k (mc0 (rightE F x))).en = true then goM F x l k (mc0 (rightE F x)) else { goM F x l k (mc0 (rightE F x)) with en := true, err := 29 } := rfl
set_option maxHeartbeats 8000000 in
theorem run19 (F : Int) (vc : Value) (x : BitVec 128) (n : Int) (l : List Nat) (w : World) (hcode : RwX cB w vc l) (hl : l.length ≤ 16777216) (hx : ∀ b ∈ l, b < 256) (hn : n ≤ 9223372036854775807) :
    Calls Try.prog 10 #[.int .i64 F, vc, .agg #[.int .u64 (hI x), .int .u64 (lI x)], .int .i64 n] w fun r w' => r = .returned (rsV (ruM F x l (rightE F x) n.toNat)) ∧ Below w.heap.size w w' := by
  obtain ⟨co, cc, rfl, -⟩ := id hcode
  obtain ⟨V, hV⟩ : ∃ V, V = (w.alloc (.cells #[.int .u64 (hI x), .int .u64 (lI x)] 25)).alloc (.cells #[.int .i64 0, .int .i64 0, .int .i64 0, .int .i64 0, .int .i64 0, .int .i64 0] 29) := ⟨_, rfl⟩
  have q1 := bl1 w (.cells #[.int .u64 (hI x), .int .u64 (lI x)] 25)
  have hs : (w.alloc (.cells #[.int .u64 (hI x), .int .u64 (lI x)] 25)).heap.size = w.heap.size + 1 := by simp
  have HQ : Hid (Below w.heap.size w V) := by rw [hV]; exact keepb (bl1 _ _) q1
  have HS : Hid (V.heap.size = w.heap.size + 2) := by rw [hV]; show _ = _; simp
  have HR : Hid (V.heap[w.heap.size + 1]? = some (.cells #[.int .i64 0, .int .i64 0, .int .i64 0, .int .i64 0, .int .i64 0, .int .i64 0] 29)) := by rw [hV]; unfold Hid; rw [← hs]; exact new_16 _ _
  have HW : Hid (V.heap[w.heap.size]? = some (.cells #[.int .u64 (hI x), .int .u64 (lI x)] 25)) := by rw [hV]; exact old_16 _ (new_16 _ _)
  have w0 := at_16 HW.out 0 _ rfl
  have w1 := at_16 HW.out 1 _ rfl
  have K1 := start19 F co l.length cc x V
  have HCd := hid13 hcode
  have HL := hid13 (And.intro hl hx)
  have HN := hid13 hn
  have HU := hid13 (ruM_def F x l n.toNat)
  have HOK : Hid (MOk F ((l.length / 4 : Nat) : Int) (mc0 (rightE F x))) := mc0_ok (by omega) fam_right
  unfold StQ at K1
  unfold rsV
  generalize rightE F x = E at K1 HU HOK ⊢
  clear q1 hs hcode hl hx hn
  go_enter Try.func10, Try.ntmps10
  go_wp2_with fail
  rw [← hV]
  clear hV
  refine K1.mono ?_
  rintro r X ⟨B, rfl, hB, hMX, hbX⟩
  have HX : Hid (MV X B F (.slice co l.length cc) x (mc0 E) ∧ Below V.heap.size V X ∧ V.heap.size ≤ B) := ⟨hMX, hbX, hB⟩
  have KG := goOn19 B F (.slice co l.length cc) x (mc0 E) n l X hMX (CB.ne (HCd.out.below HQ.out) hB) ((HCd.out.below HQ.out).below hbX) HL.out.1 HL.out.2 HOK.out HN.out
  clear K1 hB hMX hbX w0 w1 HW
  go_wp2_with fail
  refine KG.mono ?_
  rintro r Y ⟨rfl, h1, h2⟩
  have HRY : Hid (Y.heap[w.heap.size + 1]? = some (.cells #[.int .i64 0, .int .i64 0, .int .i64 0, .int .i64 0, .int .i64 0, .int .i64 0] 29) ∧ w.heap.size + 1 ≠ B) := by
    have h3 := HX.out.2.2
    have h4 := HS.out
    refine ⟨(h2.ot.2 _ ?_ (by omega)).trans ((HX.out.2.1.block _ (lt_16 HR.out)).trans HR.out), by omega⟩
    have := HX.out.2.1.size
    omega
  have HBY : Hid (Below w.heap.size w Y ∧ w.heap.size ≤ B) := by
    have h3 := HX.out.2.2
    have h4 := HS.out
    exact ⟨(HQ.out.trans (HX.out.2.1.mono (by omega))).trans (h2.lo.mono (by omega)), by omega⟩
  generalize goM F x l n.toNat (mc0 E) = mG at h1 HU
  have c5 := h1.c5
  have HMY := hid13 h1
  clear KG h1 h2 HX HR HCd HL HN HOK HQ HS
  cases he : mG.en with
  | true =>
    rw [he] at c5
    rw [he, if_pos rfl] at HU
    clear he
    have K3 := fun Z hZ => result19 B F (.slice co l.length cc) x mG Z hZ
    unfold rsV at K3
    go_wp2_with fail
    refine (K3 _ HMY.out).mono ?_
    rintro r Z ⟨rfl, hb⟩
    have hz := (hb.block _ (lt_16 HRY.out.1)).trans HRY.out.1
    have HBZ : Hid (Below w.heap.size w Z) := HBY.out.1.trans (hb.mono HBY.out.1.size)
    have z0 := at_16 hz 0 _ rfl
    have z1 := at_16 hz 1 _ rfl
    have z2 := at_16 hz 2 _ rfl
    have z3 := at_16 hz 3 _ rfl
    have z4 := at_16 hz 4 _ rfl
    have z5 := at_16 hz 5 _ rfl
    have y0 := fr_16 (j := 0) hz
    have y1 := fr_16 (j := 1) hz
    have y2 := fr_16 (j := 2) hz
    have y3 := fr_16 (j := 3) hz
    have y4 := fr_16 (j := 4) hz
    have y5 := fr_16 (j := 5) hz
    clear K3 hb hz c5 HMY HRY HBY
    go_wp2
    refine bodyPost_ret (v := .agg #[.int .i64 mG.hop, .int .i64 mG.err, .int .i64 mG.st, .int .i64 mG.ex, .int .i64 mG.ix, .int .i64 mG.bt]) (by simp [results, Try.results10, go_sem, *]) rfl ⟨by rw [HU.out]; first | done | rfl, ?_⟩
    exact (((((HBZ.out.setCell (p := ⟨w.heap.size + 1, 0, none⟩) (Nat.le_succ _) _).setCell (p := ⟨w.heap.size + 1, 1, none⟩) (Nat.le_succ _) _).setCell (p := ⟨w.heap.size + 1, 2, none⟩) (Nat.le_succ _) _).setCell (p := ⟨w.heap.size + 1, 3, none⟩) (Nat.le_succ _) _).setCell (p := ⟨w.heap.size + 1, 4, none⟩) (Nat.le_succ _) _).setCell (p := ⟨w.heap.size + 1, 5, none⟩) (Nat.le_succ _) _
  | false =>
    rw [he] at c5
    rw [he, if_neg (by decide)] at HU
    clear he
    have K2 := fun Z hZ => end19 B F (.slice co l.length cc) x mG 29 Z hZ
    have K3 := fun Z hZ => result19 B F (.slice co l.length cc) x { mG with en := true, err := 29 } Z hZ
    unfold rsV at K3
    dsimp only at K3 ⊢
    go_wp2_with fail
    refine (K2 _ HMY.out).mono ?_
    rintro r Y2 ⟨rfl, h1, h2⟩
    have HRY2 : Hid (Y2.heap[w.heap.size + 1]? = some (.cells #[.int .i64 0, .int .i64 0, .int .i64 0, .int .i64 0, .int .i64 0, .int .i64 0] 29)) := (h2.ot.2 _ (lt_16 HRY.out.1) HRY.out.2).trans HRY.out.1
    have HBY2 : Hid (Below w.heap.size w Y2) := HBY.out.1.trans (h2.lo.mono HBY.out.2)
    have HM2 := hid13 h1
    clear K2 h1 h2 c5 HMY HRY HBY
    go_wp2_with fail
    refine (K3 _ HM2.out).mono ?_
    rintro r Z ⟨rfl, hb⟩
    have hz := (hb.block _ (lt_16 HRY2.out)).trans HRY2.out
    have HBZ : Hid (Below w.heap.size w Z) := HBY2.out.trans (hb.mono HBY2.out.size)
    have z0 := at_16 hz 0 _ rfl
    have z1 := at_16 hz 1 _ rfl
    have z2 := at_16 hz 2 _ rfl
    have z3 := at_16 hz 3 _ rfl
    have z4 := at_16 hz 4 _ rfl
    have z5 := at_16 hz 5 _ rfl
    have y0 := fr_16 (j := 0) hz
    have y1 := fr_16 (j := 1) hz
    have y2 := fr_16 (j := 2) hz
    have y3 := fr_16 (j := 3) hz
    have y4 := fr_16 (j := 4) hz
    have y5 := fr_16 (j := 5) hz
    clear K3 hb hz HM2 HRY2 HBY2
    go_wp2
    refine bodyPost_ret (v := .agg #[.int .i64 mG.hop, .int .i64 29, .int .i64 mG.st, .int .i64 mG.ex, .int .i64 mG.ix, .int .i64 mG.bt]) (by simp [results, Try.results10, go_sem, *]) rfl ⟨by rw [HU.out]; first | done | rfl, ?_⟩
    exact (((((HBZ.out.setCell (p := ⟨w.heap.size + 1, 0, none⟩) (Nat.le_succ _) _).setCell (p := ⟨w.heap.size + 1, 1, none⟩) (Nat.le_succ _) _).setCell (p := ⟨w.heap.size + 1, 2, none⟩) (Nat.le_succ _) _).setCell (p := ⟨w.heap.size + 1, 3, none⟩) (Nat.le_succ _) _).setCell (p := ⟨w.heap.size + 1, 4, none⟩) (Nat.le_succ _) _).setCell (p := ⟨w.heap.size + 1, 5, none⟩) (Nat.le_succ _) _
end Go.Proofs.Ytbgoclfifhdonaa
namespace Go.Proofs.Ytbgoclfifhdonaa
open Go.RowKit
set_option linter.unusedSimpArgs false
set_option linter.unusedVariables false

theorem eqR_run (a b c d e f a' b' c' d' e' f' : Int) (w : World) :
    (Op.equalIn 10000 29 (.agg #[.int .i64 a, .int .i64 b, .int .i64 c, .int .i64 d, .int .i64 e, .int .i64 f]) (.agg #[.int .i64 a', .int .i64 b', .int .i64 c', .int .i64 d', .int .i64 e', .int .i64 f'])).run Try.prog w = .ok ((a == a') && ((b == b') && ((c == c') && ((d == d') && ((e == e') && (f == f')))))) w := by
  by_cases h1 : a = a'
  · by_cases h2 : b = b'
    · by_cases h3 : c = c'
      · by_cases h4 : d = d'
        · by_cases h5 : e = e'
          · by_cases h6 : f = f'
            · subst h1 h2 h3 h4 h5 h6; go_simp
              try simp [*]
            · subst h1 h2 h3 h4 h5; go_simp
              try simp [*]
          · subst h1 h2 h3 h4; go_simp
            try simp [*]
        · subst h1 h2 h3; go_simp
          try simp [*]
      · subst h1 h2; go_simp
        try simp [*]
    · subst h1; go_simp
      try simp [*]
  · go_simp
    try simp [*]
theorem rwx_new19 (w : World) (l : List Nat) (T : TypeId) : RwX cB (w.alloc (.cells (l.map cB).toArray T)) (.slice (some ⟨w.heap.size, 0, none⟩) l.length l.length) l := by
  refine ⟨_, _, rfl, Nat.le_refl _, .inr ⟨w.heap.size, 0, rfl, fun j x hj => ?_⟩⟩
  refine at_16 (new_16 _ _) _ _ ?_
  rw [Nat.zero_add, List.getElem?_toArray, List.getElem?_map, hj]; rfl
theorem right_zero : rightE 32 0#128 = 0 := by decide +kernel
theorem kn19_dc : dcE [4, 0, 0, 9] 0 = 0 ∧ dcI [4, 0, 0, 9] 0 = ⟨4, 9, []⟩ := by
  have h := dec_enc [] [] 0 4 9 [] rfl (by decide)
  exact ⟨h.1, h.2.1⟩
theorem kn19_ru : ruM 32 0#128 [4, 0, 0, 9] 0 5 = ⟨0, true, 9, 0, 1, 0, 0, 0, 0, 0⟩ := by
  have h1 : (mc0 0).en = false := rfl
  have h2 : stM 32 0#128 [4, 0, 0, 9] (mc0 0) = ⟨0, true, 9, 0, 1, 0, 0, 0, 0, 0⟩ := by
    have e1 : (mc0 0).pl = 0 := rfl
    rw [stM_ok (by rw [e1]; exact kn19_dc.1) (by rw [e1, kn19_dc.2]; rfl), e1, kn19_dc.2]
    rfl
  have h3 : goM 32 0#128 [4, 0, 0, 9] 5 (mc0 0) = ⟨0, true, 9, 0, 1, 0, 0, 0, 0, 0⟩ := by
    rw [goM_go h1, h2, goM_en rfl]
  unfold ruM
  rw [h3]; rfl
set_option maxRecDepth 100000 in
set_option maxHeartbeats 8000000 in
theorem known19 (w : World) :
    Calls Try.prog 9 #[] w fun e w' => e = .returned (.bool true) ∧ Below w.heap.size w w' := by
  have q1 := bl1 w (.cells #[.int .u8 4, .int .u8 0, .int .u8 0, .int .u8 9] 5)
  have hr : RwX cB (w.alloc (.cells #[.int .u8 4, .int .u8 0, .int .u8 0, .int .u8 9] 5)) (.slice (some ⟨w.heap.size, 0, none⟩) 4 4) [4, 0, 0, 9] := rwx_new19 w [4, 0, 0, 9] 5
  have K1 := run19 32 (.slice (some ⟨w.heap.size, 0, none⟩) 4 4) 0#128 5 [4, 0, 0, 9] _ hr (by decide) (by decide) (by decide)
  rw [right_zero, show (5 : Int).toNat = 5 from rfl, kn19_ru, hI_zero, lI_zero] at K1
  unfold rsV at K1
  have HQ := hid13 q1
  have hq := eqR_run 9 0 1 0 0 0 9 0 1 0 0 0
  clear q1 hr
  go_enter Try.func9, Try.ntmps9
  go_wp2_with fail
  refine K1.mono ?_
  rintro e w1 ⟨rfl, hb1⟩
  have HB1 := hid13 (keepb hb1 HQ.out)
  have HB2 : Hid (Below w.heap.size w (w1.alloc (.cells #[.int .i64 9, .int .i64 0, .int .i64 1, .int .i64 0, .int .i64 0, .int .i64 0] 29))) := keepb (bl1 w1 _) HB1.out
  clear K1 hb1 HQ
  go_wp2
  go_ret
  exact ⟨rfl, HB2.out⟩
end Go.Proofs.Ytbgoclfifhdonaa
namespace Go.Proofs.Ytbgoclfifhdonaa
open Go.RowKit
set_option linter.unusedSimpArgs false
set_option linter.unusedVariables false

theorem wdV_front (l k : List Nat) (j : Nat) (h : j < l.length / 4) : wdV (l ++ k) j = wdV l j := by
  unfold wdV
  rw [List.drop_append_of_le_length (by omega), List.take_append_of_le_length (by rw [List.length_drop]; omega)]
theorem mpL_front (l k : List Nat) (j c : Nat) (h : j + c ≤ l.length / 4) : mpL (l ++ k) j c = mpL l j c := by
  unfold mpL
  refine List.map_congr_left fun i hi => ?_
  have := List.mem_range.1 hi
  exact wdV_front l k _ (by omega)
theorem dc_front {l : List Nat} {a : Int} (k : List Nat) (h : dcE l a = 0) : dcE (l ++ k) a = 0 ∧ dcI (l ++ k) a = dcI l a ∧ dcZ (l ++ k) a = dcZ l a := by
  obtain ⟨h1, h2, h3⟩ := dcE_stand h
  obtain ⟨j, rfl⟩ : ∃ j : Nat, a = (j : Int) := ⟨a.toNat, by omega⟩
  rw [Int.toNat_natCast] at h2 h3
  have hlen : l.length / 4 ≤ (l ++ k).length / 4 := by rw [List.length_append]; omega
  have hw := wdV_front l k j h2
  have hO : insO (l ++ k) j = insO l j := by unfold insO; rw [hw]
  have hN : insN (l ++ k) j = insN l j := by unfold insN; rw [hw]
  have hR : rdP (l ++ k) j = rdP l j := by
    have h4 := h3
    unfold rdP at h4 ⊢
    rw [hO, hN]
    split at h4
    case isFalse => cases h4
    rename_i q1
    rw [if_pos q1, if_pos q1]
    split at h4
    case isFalse => cases h4
    rename_i q2
    rw [if_pos q2, if_pos q2]
    split at h4
    case isFalse => cases h4
    rename_i q3
    rw [if_pos q3, if_pos q3]
    by_cases q4 : insO l j = 2
    · rw [if_pos q4, if_pos q4]
      try rw [if_pos q4] at h4
      unfold rmP at h4 ⊢
      split at h4
      case isFalse => cases h4
      rename_i q5
      rw [if_pos q5, if_pos (Nat.le_trans q5 hlen), mpL_front l k _ _ q5]
    · rw [if_neg q4, if_neg q4]
  have hs : stB (l ++ k).length (j : Int) 1 = true := by
    unfold stB
    simp only [Bool.and_eq_true, decide_eq_true_eq]
    rw [List.length_append]
    push_cast
    constructor <;> omega
  have hE : dcE (l ++ k) (j : Int) = 0 := by
    unfold dcE
    rw [if_pos hs, Int.toNat_natCast, hR]; exact h3
  have hI : dcI (l ++ k) (j : Int) = dcI l (j : Int) := by
    unfold dcI
    rw [if_pos hE, if_pos h, Int.toNat_natCast, hO, hN, hR]
  exact ⟨hE, hI, by unfold dcZ; rw [if_pos hE, if_pos h, hI]⟩
theorem stM_front {F : Int} {x : BitVec 128} {l : List Nat} {m : Mc} (k : List Nat) (h : dcE l m.pl = 0) : stM F x (l ++ k) m = stM F x l m := by
  obtain ⟨h1, h2, h3⟩ := dc_front k h
  by_cases h4 : doE F m (dcI l m.pl) = 0
  · rw [stM_ok h h4, stM_ok h1 (by rw [h2]; exact h4), h2, h3]
  · rw [stM_do h h4, stM_do h1 (by rw [h2]; exact h4), h2]
theorem goM_front {F : Int} {x : BitVec 128} {l : List Nat} (k : List Nat) : ∀ (n : Nat) (m : Mc), (goM F x l n m).err = 0 → goM F x (l ++ k) n m = goM F x l n m
  | 0, m, h => rfl
  | n + 1, m, h => by
    cases he : m.en with
    | true => rw [goM_en he, goM_en he]
    | false =>
      rw [goM_go he] at h
      rw [goM_go he, goM_go he]
      have hd : dcE l m.pl = 0 := by
        by_cases q : dcE l m.pl = 0
        · exact q
        · rw [stM_dc q, goM_en rfl] at h
          exact absurd h q
      rw [stM_front k hd]
      exact goM_front k n _ h
theorem ru_behind {F : Int} {x : BitVec 128} {l : List Nat} {E : Int} {n : Nat} (k : List Nat) (h : (ruM F x l E n).err = 0) : ruM F x (l ++ k) E n = ruM F x l E n := by
  have he : (goM F x l n (mc0 E)).en = true := by
    cases q : (goM F x l n (mc0 E)).en with
    | true => rfl
    | false =>
      unfold ruM at h
      rw [q] at h
      simp at h
  have h2 : ruM F x l E n = goM F x l n (mc0 E) := by unfold ruM; rw [if_pos he]
  rw [h2] at h ⊢
  unfold ruM
  rw [goM_front k n _ h, if_pos he]
end Go.Proofs.Ytbgoclfifhdonaa
namespace Go.Proofs.Ytbgoclfifhdonaa
open Go.RowKit
set_option linter.unusedSimpArgs false
set_option linter.unusedVariables false

theorem wp_append_rowA {P : Program} {w : World} {o : Oper} {a : Act} {K : Act → World → Prop} {Q : Exit → Act → World → Prop} (s x : Operand) (t : TypeId)
    (ho : o.op = .call { callee := .builtin .append, args := #[s, x], argTypes := #[t, t] })
    (base : Nat) (e : TypeId) (i : TypeInfo) (z : Value) (size bytes : Nat) (ht : P.underlying t = some (.slice e)) (hi : P.info? e = some i) (hz : i.zero = some z)
    (hsize : i.size = size) (hby : i.bytes = bytes) (hzs : z.cells.size = size) (hsz : 0 < size)
    (v : Value) (n : Nat) (xs : List Value) (hs : a.eval s = v) (hown : w.ownsRow base e size v n xs)
    (vx : Value) (m : Nat) (news : List Value) (hx : a.eval x = vx) (hsrc : RowA w size vx m news) (h1 : ∀ y ∈ news, y.oneCell' = true)
    (h63 : n + m ≤ maxLen) (hbytes : (n + m) * bytes ≤ 140737488355328) (hbase : base ≤ w.heap.size)
    (h : ∀ ao cap w', w'.ownsRow base e size (.slice ao (n + m) cap) (n + m) (xs ++ news) → w.grownBy w' v.ownBlock → K (a.put o.dst (.slice ao (n + m) cap)) w') : o.wp P a w K Q := by
  obtain ⟨hl, xo, c, rfl, hcc, hsrc⟩ := hsrc
  rcases hsrc with ⟨rfl, rfl, rfl⟩ | ⟨ad, rfl, hc⟩
  · have : news = [] := List.eq_nil_of_length_eq_zero (by omega)
    subst this
    have hrun := run_append_owned_none (P := P) (w := w) base t o.type e i size ht hi v n xs hown
    obtain ⟨ao, cp, hv⟩ := own_form hown
    have hh := h ao cp w (by rw [List.append_nil, Nat.add_zero, ← hv]; exact hown) ⟨rfl, rfl, rfl, Nat.le_refl _, fun _ _ _ => rfl⟩
    rw [Nat.add_zero, ← hv] at hh
    unfold Oper.wp
    simp [execOp, ho, resolve, invoke, builtin, hs, hx, hrun, Result.andThen]
    exact hh
  · refine wp_append_own w s x t ho base e i z size bytes ht hi hz hsize hby hzs hsz v n xs hs hown ad m c news hx hl hc h1 h63 hbytes hbase ?_
    intro v' w' h2 h3 _
    obtain ⟨ao, cp, hv⟩ := own_form h2
    rw [hv]
    rw [hv] at h2
    exact h ao cp w' h2 h3
end Go.Proofs.Ytbgoclfifhdonaa
namespace Go.Proofs.Ytbgoclfifhdonaa
open Go.RowKit
set_option linter.unusedSimpArgs false
set_option linter.unusedVariables false

theorem set6_19 (w : World) (P : Nat) {a b c d e f : Value} {T : TypeId} (h : w.heap[P]? = some (.cells #[a, b, c, d, e, f] T)) (u0 u1 u2 u3 u4 u5 : Value) :
    ∃ W, (((((w.setCell ⟨P, 0, none⟩ u0).setCell ⟨P, 1, none⟩ u1).setCell ⟨P, 2, none⟩ u2).setCell ⟨P, 3, none⟩ u3).setCell ⟨P, 4, none⟩ u4).setCell ⟨P, 5, none⟩ u5 = W ∧ W.heap[P]? = some (.cells #[u0, u1, u2, u3, u4, u5] T) ∧ Below P w W ∧ ∀ z, z ≠ P → W.heap[z]? = w.heap[z]? := by
  refine ⟨_, rfl, ?_, ?_, fun z hz => ?_⟩
  · rw [set_16 (set_16 (set_16 (set_16 (set_16 (set_16 h _) _) _) _) _) _]; rfl
  · exact ((((((Below.refl P w).setCell (p := ⟨P, 0, none⟩) (Nat.le_refl _) _).setCell (p := ⟨P, 1, none⟩) (Nat.le_refl _) _).setCell (p := ⟨P, 2, none⟩) (Nat.le_refl _) _).setCell (p := ⟨P, 3, none⟩) (Nat.le_refl _) _).setCell (p := ⟨P, 4, none⟩) (Nat.le_refl _) _).setCell (p := ⟨P, 5, none⟩) (Nat.le_refl _) _
  · rw [far_16 hz, far_16 hz, far_16 hz, far_16 hz, far_16 hz, far_16 hz]
end Go.Proofs.Ytbgoclfifhdonaa
