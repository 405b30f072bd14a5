/-
  Part 9 of the proof: 10 texts, one behind the other.
-/
import Derived.Test.YtbgoclfifhdonaaPart8
import Derived.Test.YtbgoclfifhdonaaPart6
import Derived.Test.YtbgoclfifhdonaaPart7
import Derived.Test.YtbgoclfifhdonaaPart3
import Derived.Test.YtbgoclfifhdonaaPart4
import Derived.Test.YtbgoclfifhdonaaPart5
namespace Go.Proofs.Ytbgoclfifhdonaa
open Go.RowKit
set_option linter.unusedSimpArgs false
set_option linter.unusedVariables false

def StQ (w : World) (F : Int) (vc : Value) (x : BitVec 128) (r : Ending) (w' : World) : Prop := ∃ B, r = .returned (.pointer (some ⟨B, 0, none⟩)) ∧ w.heap.size ≤ B ∧ MV w' B F vc x (mc0 (rightE F x)) ∧ Below w.heap.size w w'
set_option maxHeartbeats 4000000 in
theorem start19 (F : Int) (co : Option Addr) (cn cc : Nat) (x : BitVec 128) (w : World) :
    Calls Try.prog 20 #[.int .i64 F, .slice co cn cc, .agg #[.int .u64 (hI x), .int .u64 (lI x)]] w (StQ w F (.slice co cn cc) x) := by
  obtain ⟨V, hV⟩ : ∃ V, V = (w.alloc (.cells #[.int .u64 (hI x), .int .u64 (lI x)] 25)).alloc (.cells (mcA F (.slice co cn cc) x (mc0 0)) 50) := ⟨_, rfl⟩
  have q1 := bl1 w (.cells #[.int .u64 (hI x), .int .u64 (lI x)] 25)
  have hs : (w.alloc (.cells #[.int .u64 (hI x), .int .u64 (lI x)] 25)).heap.size = w.heap.size + 1 := by simp
  have HQ : Hid (Below w.heap.size w V) := by rw [hV]; exact keepb (bl1 _ _) q1
  have HM : Hid (MV V (w.heap.size + 1) F (.slice co cn cc) x (mc0 0)) := by rw [hV]; unfold Hid MV; rw [← hs]; exact new_16 _ _
  have HW : Hid (V.heap[w.heap.size]? = some (.cells #[.int .u64 (hI x), .int .u64 (lI x)] 25)) := by rw [hV]; exact old_16 _ (new_16 _ _)
  have w0 := at_16 HW.out 0 _ rfl
  have w1 := at_16 HW.out 1 _ rfl
  have K1 := aright_any F x V
  have HE : Hid (mc0 (rightE F x) = if rightE F x = 0 then mc0 0 else { mc0 0 with en := true, err := rightE F x }) := by
    show _ = _
    unfold mc0
    by_cases q : rightE F x = 0
    · rw [if_pos q, if_pos q, if_pos rfl]
    · rw [if_neg q, if_neg q, if_pos rfl]
  have hmc : mcA F (.slice co cn cc) x (mc0 0) = #[.int .i64 F, .slice co cn cc, .int .u64 (hI x), .int .u64 (lI x), .int .i64 0, .bool false, .int .i64 0, .int .i64 0, .int .i64 0, .int .i64 0, .int .i64 0, .int .i64 0, .int .i64 0, .int .i64 0] := rfl
  rw [hmc] at hV
  unfold StQ
  generalize rightE F x = E at K1 HE ⊢
  clear q1 hs hmc
  go_enter Try.func20, Try.ntmps20
  go_wp2_with fail
  rw [← hV]
  clear hV
  refine K1.mono ?_
  rintro r X ⟨rfl, hb⟩
  have HMX := hid13 (HM.out.below hb)
  have HQX := hid13 (keepb hb HQ.out)
  clear K1 hb w0 w1 HW HM HQ
  by_cases hE : E = 0
  · subst hE
    rw [if_pos rfl] at HE
    clear HE
    go_wp2
    go_ret
    exact ⟨_, rfl, Nat.le_succ _, HMX.out, HQX.out⟩
  · rw [if_neg hE] at HE
    have hne : (E != 0) = true := by simpa using hE
    have K2 := fun Y hY => end19 (w.heap.size + 1) F (.slice co cn cc) x (mc0 0) E Y hY
    clear hE
    go_wp2_with fail
    refine (K2 _ HMX.out).mono ?_
    rintro r Y ⟨rfl, h1, h2⟩
    have HY : Hid (MV Y (w.heap.size + 1) F (.slice co cn cc) x (mc0 E) ∧ Below w.heap.size w Y) := ⟨by rw [HE.out]; exact h1, HQX.out.trans (h2.lo.mono (Nat.le_succ _))⟩
    clear K2 h1 h2 HMX HQX HE
    go_wp2
    go_ret
    exact ⟨_, rfl, Nat.le_succ _, HY.out.1, HY.out.2⟩
theorem fam_right {F : Int} {x : BitVec 128} (h : rightE F x = 0) : F = 32 ∨ F = 128 := by
  unfold rightE at h
  split at h
  · rename_i q
    unfold fam at q
    simp at q
    omega
  · cases h
end Go.Proofs.Ytbgoclfifhdonaa
namespace Go.Proofs.Ytbgoclfifhdonaa
open Go.RowKit
set_option linter.unusedSimpArgs false
set_option linter.unusedVariables false

theorem ruM_def (F : Int) (x : BitVec 128) (l : List Nat) (k : Nat) : ruM F x l (rightE F x) k = if (goM F x l k (mc0 (rightE F x))).en = true then goM F x l k (mc0 (rightE F x)) else { goM F x l k (mc0 (rightE F x)) with en := true, err := 29 } := rfl
set_option maxHeartbeats 8000000 in
theorem run19 (F : Int) (vc : Value) (x : BitVec 128) (n : Int) (l : List Nat) (w : World) (hcode : RwX cB w vc l) (hl : l.length ≤ 16777216) (hx : ∀ b ∈ l, b < 256) (hn : n ≤ 9223372036854775807) :
    Calls Try.prog 10 #[.int .i64 F, vc, .agg #[.int .u64 (hI x), .int .u64 (lI x)], .int .i64 n] w fun r w' => r = .returned (rsV (ruM F x l (rightE F x) n.toNat)) ∧ Below w.heap.size w w' := by
  obtain ⟨co, cc, rfl, -⟩ := id hcode
  obtain ⟨V, hV⟩ : ∃ V, V = (w.alloc (.cells #[.int .u64 (hI x), .int .u64 (lI x)] 25)).alloc (.cells #[.int .i64 0, .int .i64 0, .int .i64 0, .int .i64 0, .int .i64 0, .int .i64 0] 29) := ⟨_, rfl⟩
  have q1 := bl1 w (.cells #[.int .u64 (hI x), .int .u64 (lI x)] 25)
  have hs : (w.alloc (.cells #[.int .u64 (hI x), .int .u64 (lI x)] 25)).heap.size = w.heap.size + 1 := by simp
  have HQ : Hid (Below w.heap.size w V) := by rw [hV]; exact keepb (bl1 _ _) q1
  have HS : Hid (V.heap.size = w.heap.size + 2) := by rw [hV]; show _ = _; simp
  have HR : Hid (V.heap[w.heap.size + 1]? = some (.cells #[.int .i64 0, .int .i64 0, .int .i64 0, .int .i64 0, .int .i64 0, .int .i64 0] 29)) := by rw [hV]; unfold Hid; rw [← hs]; exact new_16 _ _
  have HW : Hid (V.heap[w.heap.size]? = some (.cells #[.int .u64 (hI x), .int .u64 (lI x)] 25)) := by rw [hV]; exact old_16 _ (new_16 _ _)
  have w0 := at_16 HW.out 0 _ rfl
  have w1 := at_16 HW.out 1 _ rfl
  have K1 := start19 F co l.length cc x V
  have HCd := hid13 hcode
  have HL := hid13 (And.intro hl hx)
  have HN := hid13 hn
  have HU := hid13 (ruM_def F x l n.toNat)
  have HOK : Hid (MOk F ((l.length / 4 : Nat) : Int) (mc0 (rightE F x))) := mc0_ok (by omega) fam_right
  unfold StQ at K1
  unfold rsV
  generalize rightE F x = E at K1 HU HOK ⊢
  clear q1 hs hcode hl hx hn
  go_enter Try.func10, Try.ntmps10
  go_wp2_with fail
  rw [← hV]
  clear hV
  refine K1.mono ?_
  rintro r X ⟨B, rfl, hB, hMX, hbX⟩
  have HX : Hid (MV X B F (.slice co l.length cc) x (mc0 E) ∧ Below V.heap.size V X ∧ V.heap.size ≤ B) := ⟨hMX, hbX, hB⟩
  have KG := goOn19 B F (.slice co l.length cc) x (mc0 E) n l X hMX (CB.ne (HCd.out.below HQ.out) hB) ((HCd.out.below HQ.out).below hbX) HL.out.1 HL.out.2 HOK.out HN.out
  clear K1 hB hMX hbX w0 w1 HW
  go_wp2_with fail
  refine KG.mono ?_
  rintro r Y ⟨rfl, h1, h2⟩
  have HRY : Hid (Y.heap[w.heap.size + 1]? = some (.cells #[.int .i64 0, .int .i64 0, .int .i64 0, .int .i64 0, .int .i64 0, .int .i64 0] 29) ∧ w.heap.size + 1 ≠ B) := by
    have h3 := HX.out.2.2
    have h4 := HS.out
    refine ⟨(h2.ot.2 _ ?_ (by omega)).trans ((HX.out.2.1.block _ (lt_16 HR.out)).trans HR.out), by omega⟩
    have := HX.out.2.1.size
    omega
  have HBY : Hid (Below w.heap.size w Y ∧ w.heap.size ≤ B) := by
    have h3 := HX.out.2.2
    have h4 := HS.out
    exact ⟨(HQ.out.trans (HX.out.2.1.mono (by omega))).trans (h2.lo.mono (by omega)), by omega⟩
  generalize goM F x l n.toNat (mc0 E) = mG at h1 HU
  have c5 := h1.c5
  have HMY := hid13 h1
  clear KG h1 h2 HX HR HCd HL HN HOK HQ HS
  cases he : mG.en with
  | true =>
    rw [he] at c5
    rw [he, if_pos rfl] at HU
    clear he
    have K3 := fun Z hZ => result19 B F (.slice co l.length cc) x mG Z hZ
    unfold rsV at K3
    go_wp2_with fail
    refine (K3 _ HMY.out).mono ?_
    rintro r Z ⟨rfl, hb⟩
    have hz := (hb.block _ (lt_16 HRY.out.1)).trans HRY.out.1
    have HBZ : Hid (Below w.heap.size w Z) := HBY.out.1.trans (hb.mono HBY.out.1.size)
    have z0 := at_16 hz 0 _ rfl
    have z1 := at_16 hz 1 _ rfl
    have z2 := at_16 hz 2 _ rfl
    have z3 := at_16 hz 3 _ rfl
    have z4 := at_16 hz 4 _ rfl
    have z5 := at_16 hz 5 _ rfl
    have y0 := fr_16 (j := 0) hz
    have y1 := fr_16 (j := 1) hz
    have y2 := fr_16 (j := 2) hz
    have y3 := fr_16 (j := 3) hz
    have y4 := fr_16 (j := 4) hz
    have y5 := fr_16 (j := 5) hz
    clear K3 hb hz c5 HMY HRY HBY
    go_wp2
    refine bodyPost_ret (v := .agg #[.int .i64 mG.hop, .int .i64 mG.err, .int .i64 mG.st, .int .i64 mG.ex, .int .i64 mG.ix, .int .i64 mG.bt]) (by simp [results, Try.results10, go_sem, *]) rfl ⟨by rw [HU.out]; first | done | rfl, ?_⟩
    exact (((((HBZ.out.setCell (p := ⟨w.heap.size + 1, 0, none⟩) (Nat.le_succ _) _).setCell (p := ⟨w.heap.size + 1, 1, none⟩) (Nat.le_succ _) _).setCell (p := ⟨w.heap.size + 1, 2, none⟩) (Nat.le_succ _) _).setCell (p := ⟨w.heap.size + 1, 3, none⟩) (Nat.le_succ _) _).setCell (p := ⟨w.heap.size + 1, 4, none⟩) (Nat.le_succ _) _).setCell (p := ⟨w.heap.size + 1, 5, none⟩) (Nat.le_succ _) _
  | false =>
    rw [he] at c5
    rw [he, if_neg (by decide)] at HU
    clear he
    have K2 := fun Z hZ => end19 B F (.slice co l.length cc) x mG 29 Z hZ
    have K3 := fun Z hZ => result19 B F (.slice co l.length cc) x { mG with en := true, err := 29 } Z hZ
    unfold rsV at K3
    dsimp only at K3 ⊢
    go_wp2_with fail
    refine (K2 _ HMY.out).mono ?_
    rintro r Y2 ⟨rfl, h1, h2⟩
    have HRY2 : Hid (Y2.heap[w.heap.size + 1]? = some (.cells #[.int .i64 0, .int .i64 0, .int .i64 0, .int .i64 0, .int .i64 0, .int .i64 0] 29)) := (h2.ot.2 _ (lt_16 HRY.out.1) HRY.out.2).trans HRY.out.1
    have HBY2 : Hid (Below w.heap.size w Y2) := HBY.out.1.trans (h2.lo.mono HBY.out.2)
    have HM2 := hid13 h1
    clear K2 h1 h2 c5 HMY HRY HBY
    go_wp2_with fail
    refine (K3 _ HM2.out).mono ?_
    rintro r Z ⟨rfl, hb⟩
    have hz := (hb.block _ (lt_16 HRY2.out)).trans HRY2.out
    have HBZ : Hid (Below w.heap.size w Z) := HBY2.out.trans (hb.mono HBY2.out.size)
    have z0 := at_16 hz 0 _ rfl
    have z1 := at_16 hz 1 _ rfl
    have z2 := at_16 hz 2 _ rfl
    have z3 := at_16 hz 3 _ rfl
    have z4 := at_16 hz 4 _ rfl
    have z5 := at_16 hz 5 _ rfl
    have y0 := fr_16 (j := 0) hz
    have y1 := fr_16 (j := 1) hz
    have y2 := fr_16 (j := 2) hz
    have y3 := fr_16 (j := 3) hz
    have y4 := fr_16 (j := 4) hz
    have y5 := fr_16 (j := 5) hz
    clear K3 hb hz HM2 HRY2 HBY2
    go_wp2
    refine bodyPost_ret (v := .agg #[.int .i64 mG.hop, .int .i64 29, .int .i64 mG.st, .int .i64 mG.ex, .int .i64 mG.ix, .int .i64 mG.bt]) (by simp [results, Try.results10, go_sem, *]) rfl ⟨by rw [HU.out]; first | done | rfl, ?_⟩
    exact (((((HBZ.out.setCell (p := ⟨w.heap.size + 1, 0, none⟩) (Nat.le_succ _) _).setCell (p := ⟨w.heap.size + 1, 1, none⟩) (Nat.le_succ _) _).setCell (p := ⟨w.heap.size + 1, 2, none⟩) (Nat.le_succ _) _).setCell (p := ⟨w.heap.size + 1, 3, none⟩) (Nat.le_succ _) _).setCell (p := ⟨w.heap.size + 1, 4, none⟩) (Nat.le_succ _) _).setCell (p := ⟨w.heap.size + 1, 5, none⟩) (Nat.le_succ _) _
end Go.Proofs.Ytbgoclfifhdonaa
namespace Go.Proofs.Ytbgoclfifhdonaa
open Go.RowKit
set_option linter.unusedSimpArgs false
set_option linter.unusedVariables false

theorem eqR_run (a b c d e f a' b' c' d' e' f' : Int) (w : World) :
    (Op.equalIn 10000 29 (.agg #[.int .i64 a, .int .i64 b, .int .i64 c, .int .i64 d, .int .i64 e, .int .i64 f]) (.agg #[.int .i64 a', .int .i64 b', .int .i64 c', .int .i64 d', .int .i64 e', .int .i64 f'])).run Try.prog w = .ok ((a == a') && ((b == b') && ((c == c') && ((d == d') && ((e == e') && (f == f')))))) w := by
  by_cases h1 : a = a'
  · by_cases h2 : b = b'
    · by_cases h3 : c = c'
      · by_cases h4 : d = d'
        · by_cases h5 : e = e'
          · by_cases h6 : f = f'
            · subst h1 h2 h3 h4 h5 h6; go_simp
              try simp [*]
            · subst h1 h2 h3 h4 h5; go_simp
              try simp [*]
          · subst h1 h2 h3 h4; go_simp
            try simp [*]
        · subst h1 h2 h3; go_simp
          try simp [*]
      · subst h1 h2; go_simp
        try simp [*]
    · subst h1; go_simp
      try simp [*]
  · go_simp
    try simp [*]
theorem rwx_new19 (w : World) (l : List Nat) (T : TypeId) : RwX cB (w.alloc (.cells (l.map cB).toArray T)) (.slice (some ⟨w.heap.size, 0, none⟩) l.length l.length) l := by
  refine ⟨_, _, rfl, Nat.le_refl _, .inr ⟨w.heap.size, 0, rfl, fun j x hj => ?_⟩⟩
  refine at_16 (new_16 _ _) _ _ ?_
  rw [Nat.zero_add, List.getElem?_toArray, List.getElem?_map, hj]; rfl
theorem right_zero : rightE 32 0#128 = 0 := by decide +kernel
theorem kn19_dc : dcE [4, 0, 0, 9] 0 = 0 ∧ dcI [4, 0, 0, 9] 0 = ⟨4, 9, []⟩ := by
  have h := dec_enc [] [] 0 4 9 [] rfl (by decide)
  exact ⟨h.1, h.2.1⟩
theorem kn19_ru : ruM 32 0#128 [4, 0, 0, 9] 0 5 = ⟨0, true, 9, 0, 1, 0, 0, 0, 0, 0⟩ := by
  have h1 : (mc0 0).en = false := rfl
  have h2 : stM 32 0#128 [4, 0, 0, 9] (mc0 0) = ⟨0, true, 9, 0, 1, 0, 0, 0, 0, 0⟩ := by
    have e1 : (mc0 0).pl = 0 := rfl
    rw [stM_ok (by rw [e1]; exact kn19_dc.1) (by rw [e1, kn19_dc.2]; rfl), e1, kn19_dc.2]
    rfl
  have h3 : goM 32 0#128 [4, 0, 0, 9] 5 (mc0 0) = ⟨0, true, 9, 0, 1, 0, 0, 0, 0, 0⟩ := by
    rw [goM_go h1, h2, goM_en rfl]
  unfold ruM
  rw [h3]; rfl
set_option maxRecDepth 100000 in
set_option maxHeartbeats 8000000 in
theorem known19 (w : World) :
    Calls Try.prog 9 #[] w fun e w' => e = .returned (.bool true) ∧ Below w.heap.size w w' := by
  have q1 := bl1 w (.cells #[.int .u8 4, .int .u8 0, .int .u8 0, .int .u8 9] 5)
  have hr : RwX cB (w.alloc (.cells #[.int .u8 4, .int .u8 0, .int .u8 0, .int .u8 9] 5)) (.slice (some ⟨w.heap.size, 0, none⟩) 4 4) [4, 0, 0, 9] := rwx_new19 w [4, 0, 0, 9] 5
  have K1 := run19 32 (.slice (some ⟨w.heap.size, 0, none⟩) 4 4) 0#128 5 [4, 0, 0, 9] _ hr (by decide) (by decide) (by decide)
  rw [right_zero, show (5 : Int).toNat = 5 from rfl, kn19_ru, hI_zero, lI_zero] at K1
  unfold rsV at K1
  have HQ := hid13 q1
  have hq := eqR_run 9 0 1 0 0 0 9 0 1 0 0 0
  clear q1 hr
  go_enter Try.func9, Try.ntmps9
  go_wp2_with fail
  refine K1.mono ?_
  rintro e w1 ⟨rfl, hb1⟩
  have HB1 := hid13 (keepb hb1 HQ.out)
  have HB2 : Hid (Below w.heap.size w (w1.alloc (.cells #[.int .i64 9, .int .i64 0, .int .i64 1, .int .i64 0, .int .i64 0, .int .i64 0] 29))) := keepb (bl1 w1 _) HB1.out
  clear K1 hb1 HQ
  go_wp2
  go_ret
  exact ⟨rfl, HB2.out⟩
end Go.Proofs.Ytbgoclfifhdonaa
namespace Go.Proofs.Ytbgoclfifhdonaa
open Go.RowKit
set_option linter.unusedSimpArgs false
set_option linter.unusedVariables false

theorem goM_same {F : Int} {x : BitVec 128} {l : List Nat} {m : Mc} {j k : Nat} (h : (goM F x l j m).en = true) (h2 : (goM F x l k m).en = true) : goM F x l j m = goM F x l k m := by
  rcases Nat.le_total j k with q | q
  · exact (goM_more h q).symm
  · exact goM_more h2 q
theorem ru_done {F : Int} {x : BitVec 128} {l : List Nat} {E : Int} {k n : Nat} (h : (goM F x l k (mc0 E)).en = true) (hk : k ≤ n) : ruM F x l E n = goM F x l k (mc0 E) := by
  unfold ruM
  rw [goM_more h hk, if_pos h]
theorem step_false {F : Int} {x : BitVec 128} {l : List Nat} {m : Mc} (h : ¬ m.st < (goM F x l 1 m).st) : (goM F x l 1 m).en = true := by
  cases he : m.en with
  | true => rw [goM_en he, he]
  | false =>
    rw [show (1 : Nat) = 0 + 1 from rfl, goM_go he] at h ⊢
    rcases stM_st (F := F) (x := x) (l := l) he with ⟨q, -⟩ | ⟨-, q, -⟩
    · exfalso
      apply h
      show m.st < (stM F x l m).st
      omega
    · exact q
theorem goM_one (F : Int) (x : BitVec 128) (l : List Nat) (k : Nat) (m : Mc) : goM F x l 1 (goM F x l k m) = goM F x l (k + 1) m := (goM_add F x l k 1 m).symm
end Go.Proofs.Ytbgoclfifhdonaa
namespace Go.Proofs.Ytbgoclfifhdonaa
open Go.RowKit Go.Shelf
set_option linter.unusedSimpArgs false
set_option linter.unusedVariables false

section
variable {P : Program}
end
end Go.Proofs.Ytbgoclfifhdonaa
namespace Go.Proofs.Ytbgoclfifhdonaa
open Go.RowKit Go.Shelf
set_option linter.unusedSimpArgs false
set_option linter.unusedVariables false
attribute [local go_sem] Oper.semAt_some

set_option maxRecDepth 20000 in
set_option maxHeartbeats 2000000 in
theorem clone14 (v : Value) (l : List Nat) (w : World) (hA : RowA w 1 v l.length (l.map cB)) (hl : l.length ≤ 140737480000000) :
    Calls Try.prog 24 #[v] w fun e w' => ∃ v', e = .returned v' ∧ w'.ownsRow w.heap.size 5 1 v' l.length (l.map cB) ∧ Below w.heap.size w w' := by
  obtain ⟨i0, hi, hz0, hz1, hz2⟩ := info13 Try.infoB13
  obtain ⟨-, ao, c, hvf, -⟩ := id hA
  subst hvf
  have hq : ∀ (w : World) (a : Option Addr) (n c n' c' : Nat), (binOp .eql 22 (.slice a n c) (.slice none n' c')).run Try.prog w = .ok (.bool a.isNone) w := fun w a n c n' c' => Lib.run_eql_slice_nil w 22 5 a n c n' c' Try.underlying22
  have q3 := bl1 w (.cells #[] 5)
  have HR3 := hid13 (hA.below q3)
  have HO3 : Hid ((w.alloc (.cells #[] 5)).ownsRow w.heap.size 5 1 (.slice (some ⟨w.heap.size, 0, none⟩) 0 0) 0 []) := World.ownsRow_made w #[] 0 (Nat.le_refl _) (by unfold maxLen; omega) (by simp)
  have HQ := hid13 q3
  cases ao with
  | none =>
    have hl0 : l = [] := by
      obtain ⟨-, ao', c', e, -, h⟩ := hA
      injection e with e1 e2 e3
      subst e1
      rcases h with ⟨-, -, h⟩ | ⟨b, h, -⟩
      · simpa using h
      · cases h
    subst hl0
    clear hA q3 HR3 HO3 HQ
    go_enter Try.func24, Try.ntmps24
    go_wp2
    go_ret
    exact ⟨_, rfl, World.ownsRow_nil _ _ _ _, Below.refl _ _⟩
  | some ad =>
    clear hA
    go_enter Try.func24, Try.ntmps24
    go_wp2_with (at_builtin; apply stopHere9)
    refine (show wpList _ _ _ _ _ _ from ?_)
    refine wpList_append_rowA rfl _ _ 22 rfl w.heap.size 5 i0 (.int .u8 0) 1 1 Try.underlying22 hi hz0 hz1 hz2 rfl (by decide) _ 0 [] rfl HO3.out _ l.length (l.map cB) rfl HR3.out (cB_one l) (by unfold maxLen; omega) (by omega) q3.size ?_
    intro ao4 c4 w4 hO4 hg4
    rw [Nat.zero_add, List.nil_append] at hO4
    rw [Nat.zero_add]
    have HB4 : Hid (Below w.heap.size w w4) := hid13 (HQ.out.grown hg4 HQ.out.size (fun z hz => (HO3.out.lt z hz).1))
    have HO4 := hid13 hO4
    clear hO4 hg4 q3 HR3 HO3 HQ
    go_wp2
    go_ret
    exact ⟨_, rfl, HO4.out, HB4.out⟩
end Go.Proofs.Ytbgoclfifhdonaa
namespace Go.Proofs.Ytbgoclfifhdonaa
open Go.RowKit
set_option linter.unusedSimpArgs false
set_option linter.unusedVariables false

def NwQ (w : World) (F : Int) (x : BitVec 128) (l : List Nat) (r : Ending) (w' : World) : Prop := ∃ B vc, r = .returned (.pointer (some ⟨B, 0, none⟩)) ∧ w.heap.size ≤ B ∧ MV w' B F vc x (mc0 (rightE F x)) ∧ w'.ownsRow w.heap.size 5 1 vc l.length (l.map cB) ∧ (∀ g, vc.ownBlock = some g → g < B) ∧ Below w.heap.size w w'
structure RN9 (Wb : World) (b0 : Nat) (F : Int) (x : BitVec 128) (l : List Nat) (cl st as9 : Bool) (g : Value × Nat) (X : World) : Prop where
  lo : Below b0 Wb X
  sz : Wb.heap.size ≤ X.heap.size
  bl : Below Wb.heap.size Wb X
  d : cl = true → X.ownsRow b0 5 1 g.1 l.length (l.map cB) ∧ ∀ z, g.1.ownBlock = some z → z < X.heap.size
  s : st = true → b0 ≤ g.2 ∧ MV X g.2 F g.1 x (mc0 (rightE F x)) ∧ ∀ z, g.1.ownBlock = some z → z < g.2
  p1 : st = true → cl = true
  p2 : as9 = true → st = true
theorem own_lt18 {W : World} {base e size n : Nat} {v : Value} {xs : List Value} (h : W.ownsRow base e size v n xs) (z : Nat) (hz : v.ownBlock = some z) : z < W.heap.size := by
  obtain ⟨cs, h2⟩ := own_typed18 h z hz
  exact lt_16 h2
set_option maxRecDepth 20000 in
set_option maxHeartbeats 8000000 in
theorem new19 (F : Int) (vc : Value) (x : BitVec 128) (l : List Nat) (w : World) (hA : RowA w 1 vc l.length (l.map cB)) (hl : l.length ≤ 16777216) :
    Calls Try.prog 12 #[.int .i64 F, vc, .agg #[.int .u64 (hI x), .int .u64 (lI x)]] w (NwQ w F x l) := by
  obtain ⟨Wb, hWb⟩ : ∃ Wb, Wb = w.alloc (.cells #[.int .u64 (hI x), .int .u64 (lI x)] 25) := ⟨_, rfl⟩
  have q1 := bl1 w (.cells #[.int .u64 (hI x), .int .u64 (lI x)] 25)
  rw [← hWb] at q1
  have HW : Hid (Wb.heap[w.heap.size]? = some (.cells #[.int .u64 (hI x), .int .u64 (lI x)] 25)) := by rw [hWb]; exact new_16 _ _
  have HQ := hid13 q1
  have HSz : Hid (w.heap.size ≤ Wb.heap.size) := q1.size
  have HC : Hid (∀ X, Below Wb.heap.size Wb X → Calls Try.prog 24 #[vc] X fun e w' => ∃ v', e = .returned v' ∧ w'.ownsRow X.heap.size 5 1 v' l.length (l.map cB) ∧ Below X.heap.size X w') := hid13 (fun X hX => clone14 vc l X ((hA.below q1).below hX) (by omega))
  have HSt : Hid (∀ X v, X.ownsRow w.heap.size 5 1 v l.length (l.map cB) → Calls Try.prog 20 #[.int .i64 F, v, .agg #[.int .u64 (hI x), .int .u64 (lI x)]] X (StQ X F v x)) := hid13 (fun X v hv => by
    obtain ⟨ao, c, rfl⟩ := own_form hv
    exact start19 F ao _ c x X)
  unfold NwQ
  have HR0 : Hid (RN9 Wb w.heap.size F x l false false false (undef, 0) Wb.drew) := ⟨(Below.refl _ _).drew, (Below.refl Wb.heap.size Wb).drew.size, (Below.refl _ _).drew, fun q => (by cases q), fun q => (by cases q), fun q => (by cases q), fun q => (by cases q)⟩
  clear hA hl q1
  go_enter Try.func12, Try.ntmps12
  go_wp2_with fail
  rw [← hWb]
  clear hWb
  refine gh_region (γ := Value × Nat) (qpOk 6 6 (by decide) (fun N => by kernel_rfl) (by kernel_rfl) (by kernel_rfl) (by kernel_rfl) (by kernel_rfl)) (by kernel_rfl) (by kernel_rfl) [some 7, some 8, some 9, some 10, some 11, some 6] (fun g => [.int .i64 F, vc, g.1, .agg #[.int .u64 (hI x), .int .u64 (lI x)], .pointer (some ⟨g.2, 0, none⟩), .pointer (some ⟨g.2, 0, none⟩)]) (by kernel_rfl) (by simp) (fun lp g X => RN9 Wb w.heap.size F x l (lp.getD 2 false) (lp.getD 4 false) (lp.getD 5 false) g X) (undef, 0) HR0.out ?step1 ?fin1
  case step1 =>
    intro q o lp g w' a' ho hsz hun hdep hR hS K Q' hK
    have hfl : ∀ j, j ≠ q → (lp.setIfInBounds q true).getD j false = lp.getD j false := fun j hj => by rw [Array.getD_eq_getD_getElem?, Array.getD_eq_getD_getElem?, Array.getElem?_setIfInBounds_ne (by omega)]
    have hq : q < 6 := (List.getElem?_eq_some_iff.mp ho).1
    match q, ho, hun, hdep, hK, hfl, hq with
    | 0, ho, hun, hdep, hK, hfl, _ =>
      obtain rfl := Option.some.inj ho
      have o0 : a'.tmps[0]? = some (.int .i64 F) := (hS.old14 0 (by simp)).trans rfl
      have hK' := hK g w' (fun _ _ _ _ _ _ => rfl) (by rw [hfl 2 (by decide), hfl 4 (by decide), hfl 5 (by decide)]; exact hR) (.int .i64 F) (by simp only [valO, Option.bind_some]; (try simp only [putAll, Act.put, List.setIfInBounds_toArray, List.set_cons_zero, List.set_cons_succ]); (try rfl))
      clear hS hdep hR
      refine gh_quiet14 (v := .int .i64 F) ?_ ?_
      · (simp only [execOp, Act.eval, o0]; go_simp; first | done | (simp; done) | (simp [*]; done) | omega | (rw [IntKind.wrap_i64]; omega))
      · exact hK'
    | 1, ho, hun, hdep, hK, hfl, _ =>
      obtain rfl := Option.some.inj ho
      have o1 : a'.tmps[1]? = some (vc) := (hS.old14 1 (by simp)).trans rfl
      have hK' := hK g w' (fun _ _ _ _ _ _ => rfl) (by rw [hfl 2 (by decide), hfl 4 (by decide), hfl 5 (by decide)]; exact hR) (vc) (by simp only [valO, Option.bind_some]; (try simp only [putAll, Act.put, List.setIfInBounds_toArray, List.set_cons_zero, List.set_cons_succ]); (try rfl))
      clear hS hdep hR
      refine gh_quiet14 (v := vc) ?_ ?_
      · (simp only [execOp, Act.eval, o1]; go_simp; first | done | (simp; done) | (simp [*]; done) | omega | (rw [IntKind.wrap_i64]; omega))
      · exact hK'
    | 2, ho, hun, hdep, hK, hfl, _ =>
      obtain rfl := Option.some.inj ho
      have d1 : lp.getD 1 false = true := hdep { on := 1, ground := .data } (by simp) rfl
      have e8 : a'.tmps[8]? = some (vc) := (hS.don 1 _ 8 rfl d1 rfl).trans (by simp only [putAll, Act.put, List.setIfInBounds_toArray, List.set_cons_zero, List.set_cons_succ]; rfl)
      have hst : lp.getD 4 false = false := by
        cases h : lp.getD 4 false with
        | false => rfl
        | true => have := hR.p1 h; rw [hun] at this; cases this
      have KC := HC.out w' hR.bl
      clear hdep
      unfold Oper.wp
      simp only [execOp, Act.eval, Array.getD_eq_getD_getElem?]
      simp [go_sem, e8, Oper.upon]
      refine KC.mono ?_
      rintro e W2 ⟨v2, rfl, ho2, hb⟩
      exact hK (v2, g.2) W2 (fun k' ok s hk hl hd => gh_same14 (d := 9) (s := s) (by simp only [putAll, Act.put, List.setIfInBounds_toArray, List.set_cons_zero, List.set_cons_succ]; rfl) (by rintro rfl; have := dstG_of (by kernel_rfl) k' 2 ok _ 9 hk rfl hd rfl; subst this; rw [hun] at hl; cases hl)) (by rw [hfl 4 (by decide), hfl 5 (by decide), getD_set_same (by rw [hsz]; decide)]; exact ⟨hR.lo.trans (hb.mono (Nat.le_trans HSz.out hR.sz)), Nat.le_trans hR.sz hb.size, hR.bl.trans (hb.mono hR.sz), fun _ => ⟨own_base16 ho2 (Nat.le_trans HSz.out hR.sz), own_lt18 ho2⟩, fun q => (by rw [hst] at q; cases q), fun _ => rfl, hR.p2⟩) _ (by simp only [valO, Option.bind_some]; simp only [putAll, Act.put, List.setIfInBounds_toArray, List.set_cons_zero, List.set_cons_succ]; rfl)
    | 3, ho, hun, hdep, hK, hfl, _ =>
      obtain rfl := Option.some.inj ho
      have o5 : a'.tmps[5]? = some (.pointer (some ⟨w.heap.size, 0, none⟩)) := (hS.old14 5 (by simp)).trans rfl
      have hw := (hR.bl.block _ (lt_16 HW.out)).trans HW.out
      have z0 := at_16 hw 0 _ rfl
      have z1 := at_16 hw 1 _ rfl
      have hK' := hK g w' (fun _ _ _ _ _ _ => rfl) (by rw [hfl 2 (by decide), hfl 4 (by decide), hfl 5 (by decide)]; exact hR) (.agg #[.int .u64 (hI x), .int .u64 (lI x)]) (by simp only [valO, Option.bind_some]; (try simp only [putAll, Act.put, List.setIfInBounds_toArray, List.set_cons_zero, List.set_cons_succ]); (try rfl))
      clear hS hdep hR
      refine gh_quiet14 (v := .agg #[.int .u64 (hI x), .int .u64 (lI x)]) ?_ ?_
      · (simp only [execOp, Act.eval, o5]; go_simp; first | done | (simp; done) | (simp [*]; done) | omega | (rw [IntKind.wrap_i64]; omega))
      · exact hK'
    | 4, ho, hun, hdep, hK, hfl, _ =>
      obtain rfl := Option.some.inj ho
      have d0 : lp.getD 0 false = true := hdep { on := 0, ground := .data } (by simp) rfl
      have e7 : a'.tmps[7]? = some (.int .i64 F) := (hS.don 0 _ 7 rfl d0 rfl).trans (by simp only [putAll, Act.put, List.setIfInBounds_toArray, List.set_cons_zero, List.set_cons_succ]; rfl)
      have d2 : lp.getD 2 false = true := hdep { on := 2, ground := .data } (by simp) rfl
      have e9 : a'.tmps[9]? = some (g.1) := (hS.don 2 _ 9 rfl d2 rfl).trans (by simp only [putAll, Act.put, List.setIfInBounds_toArray, List.set_cons_zero, List.set_cons_succ]; rfl)
      have d3 : lp.getD 3 false = true := hdep { on := 3, ground := .data } (by simp) rfl
      have e10 : a'.tmps[10]? = some (.agg #[.int .u64 (hI x), .int .u64 (lI x)]) := (hS.don 3 _ 10 rfl d3 rfl).trans (by simp only [putAll, Act.put, List.setIfInBounds_toArray, List.set_cons_zero, List.set_cons_succ]; rfl)
      have KC := HSt.out w' g.1 (hR.d d2).1
      clear hdep
      unfold Oper.wp
      simp only [execOp, Act.eval, Array.getD_eq_getD_getElem?]
      simp [go_sem, e7, e9, e10, Oper.upon]
      refine KC.mono ?_
      rintro e W2 ⟨B2, rfl, hB2, hM2, hb⟩
      exact hK (g.1, B2) W2 (fun k' ok s hk hl hd => gh_same18 (d := 11) (e := 6) (f := 6) (s := s) (by simp only [putAll, Act.put, List.setIfInBounds_toArray, List.set_cons_zero, List.set_cons_succ]; rfl) (by rintro rfl; have := dstG_of (by kernel_rfl) k' 4 ok _ 11 hk rfl hd rfl; subst this; rw [hun] at hl; cases hl) (by rintro rfl; have := dstG_of (by kernel_rfl) k' 5 ok _ 6 hk rfl hd rfl; subst this; have h5 := hR.p2 hl; rw [hun] at h5; cases h5) (by rintro rfl; have := dstG_of (by kernel_rfl) k' 5 ok _ 6 hk rfl hd rfl; subst this; have h5 := hR.p2 hl; rw [hun] at h5; cases h5)) (by rw [hfl 2 (by decide), hfl 5 (by decide), getD_set_same (by rw [hsz]; decide)]; exact ⟨hR.lo.trans (hb.mono (Nat.le_trans HSz.out hR.sz)), Nat.le_trans hR.sz hb.size, hR.bl.trans (hb.mono hR.sz), fun _ => ⟨own_keep18 (hR.d d2).1 (fun z hz => hb.block z ((hR.d d2).2 z hz)), fun z hz => Nat.lt_of_lt_of_le ((hR.d d2).2 z hz) hb.size⟩, fun _ => ⟨Nat.le_trans HSz.out (Nat.le_trans hR.sz hB2), hM2, fun z hz => Nat.lt_of_lt_of_le ((hR.d d2).2 z hz) hB2⟩, fun _ => d2, fun _ => rfl⟩) _ (by simp only [valO, Option.bind_some]; simp only [putAll, Act.put, List.setIfInBounds_toArray, List.set_cons_zero, List.set_cons_succ]; rfl)
    | 5, ho, hun, hdep, hK, hfl, _ =>
      obtain rfl := Option.some.inj ho
      have d4 : lp.getD 4 false = true := hdep { on := 4, ground := .data } (by simp) rfl
      have e11 : a'.tmps[11]? = some (.pointer (some ⟨g.2, 0, none⟩)) := (hS.don 4 _ 11 rfl d4 rfl).trans (by simp only [putAll, Act.put, List.setIfInBounds_toArray, List.set_cons_zero, List.set_cons_succ]; rfl)
      have hK' := hK g w' (fun _ _ _ _ _ _ => rfl) (by rw [hfl 2 (by decide), hfl 4 (by decide), getD_set_same (by rw [hsz]; decide)]; exact ⟨hR.lo, hR.sz, hR.bl, hR.d, hR.s, hR.p1, fun _ => d4⟩) (.pointer (some ⟨g.2, 0, none⟩)) (by simp only [valO, Option.bind_some]; (try simp only [putAll, Act.put, List.setIfInBounds_toArray, List.set_cons_zero, List.set_cons_succ]); (try rfl))
      clear hS hdep hR
      refine gh_quiet14 (v := .pointer (some ⟨g.2, 0, none⟩)) ?_ ?_
      · (simp only [execOp, Act.eval, e11]; go_simp; first | done | (simp; done) | (simp [*]; done) | omega | (rw [IntKind.wrap_i64]; omega))
      · exact hK'
    | n + 6, ho, hun, hdep, hK, hfl, hq => exact absurd hq (by omega)
  case fin1 =>
    intro g X hX
    have h1 := hX.s rfl
    have h2 := hX.d rfl
    have HX := hid13 (And.intro h1 (And.intro h2.1 (HQ.out.trans hX.lo)))
    clear hX h1 h2 HR0 HSt HC HW
    simp only [putAll, Act.put, List.setIfInBounds_toArray, List.set_cons_zero, List.set_cons_succ]
    go_wp2
    go_ret
    exact ⟨g.2, g.1, rfl, HX.out.1.1, HX.out.1.2.1, HX.out.2.1, HX.out.1.2.2, HX.out.2.2⟩
end Go.Proofs.Ytbgoclfifhdonaa
namespace Go.Proofs.Ytbgoclfifhdonaa
open Go.RowKit
set_option linter.unusedSimpArgs false
set_option linter.unusedVariables false

theorem cb_own {W : World} {base e B : Nat} {v : Value} {l : List Nat} (h : W.ownsRow base e 1 v l.length (l.map cB)) (hb : ∀ g, v.ownBlock = some g → g ≠ B) : CB B v l := by
  rcases h.2 with ⟨-, h2⟩ | ⟨g, cap, cur, rfl, -⟩
  · exact .inl (List.length_eq_zero_iff.1 h2)
  · exact .inr ⟨g, 0, cap, l.length, rfl, hb g rfl⟩
structure Ap9 (V : World) (F : Int) (x u : BitVec 128) (l c : List Nat) (B C : Nat) (vb vc : Value) (mB mC : Mc) (W : World) : Prop where
  lo : Below V.heap.size V W
  m : MV W B F vb x mB
  n : MV W C F vc u mC
  r : RwX cB W vb l
  s : RwX cB W vc c
theorem Ap9.below {V W W' : World} {F : Int} {x u : BitVec 128} {l c : List Nat} {B C : Nat} {vb vc : Value} {mB mC : Mc} (h : Ap9 V F x u l c B C vb vc mB mC W) (hb : Below W.heap.size W W') : Ap9 V F x u l c B C vb vc mB mC W' :=
  ⟨h.lo.trans (hb.mono h.lo.size), h.m.below hb, h.n.below hb, h.r.below hb, h.s.below hb⟩
theorem ptr_nil19 (B : Nat) (w : World) : (binOp BinOp.eql 32 (.pointer (some ⟨B, 0, none⟩)) (.pointer none)).run Try.prog w = .ok (.bool false) w := by
  first | kernel_rfl | (unfold Try.ptrM19; go_simp)
end Go.Proofs.Ytbgoclfifhdonaa
namespace Go.Proofs.Ytbgoclfifhdonaa
open Go.RowKit
set_option linter.unusedSimpArgs false
set_option linter.unusedVariables false

theorem stM_bt {F L : Int} {x : BitVec 128} {l : List Nat} {m : Mc} : m.bt ≤ (stM F x l m).bt := by
  by_cases h1 : dcE l m.pl = 0
  · by_cases h2 : doE F m (dcI l m.pl) = 0
    · rcases did (x := x) h1 h2 with ⟨n, -, -, n0, n1, nb, e⟩ | ⟨z, r, -, -, -, hr, hz, z0, z1, r0, r1, e⟩ | ⟨n, -, -, n0, n1, e⟩ | ⟨n, -, -, n0, n1, e⟩
      · rw [e]; dsimp only; omega
      · rw [e]; exact Int.le_refl _
      · rw [e]; exact Int.le_refl _
      · rw [e]; exact Int.le_refl _
    · rw [stM_do h1 h2]; exact Int.le_refl _
  · rw [stM_dc h1]; exact Int.le_refl _
theorem goM_bt {F : Int} {x : BitVec 128} {l : List Nat} : ∀ (k : Nat) (m : Mc), m.bt ≤ (goM F x l k m).bt
  | 0, m => Int.le_refl _
  | k + 1, m => by
    cases he : m.en with
    | true => rw [goM_en he]; exact Int.le_refl _
    | false =>
      rw [goM_go he]
      exact Int.le_trans (stM_bt (L := 0)) (goM_bt k _)
end Go.Proofs.Ytbgoclfifhdonaa
namespace Go.Proofs.Ytbgoclfifhdonaa
open Go.RowKit
set_option linter.unusedSimpArgs false
set_option linter.unusedVariables false

theorem stM_ex {F : Int} {x : BitVec 128} {l : List Nat} {m : Mc} : m.ex ≤ (stM F x l m).ex ∧ m.st ≤ (stM F x l m).st := by
  by_cases h1 : dcE l m.pl = 0
  · by_cases h2 : doE F m (dcI l m.pl) = 0
    · rcases did (x := x) h1 h2 with ⟨n, -, -, n0, n1, nb, e⟩ | ⟨z, r, -, -, -, hr, hz, z0, z1, r0, r1, e⟩ | ⟨n, -, -, n0, n1, e⟩ | ⟨n, -, -, n0, n1, e⟩
      · rw [e]; dsimp only; omega
      · rw [e]; dsimp only; omega
      · rw [e]; dsimp only; omega
      · rw [e]; dsimp only; omega
    · rw [stM_do h1 h2]; exact ⟨Int.le_refl _, Int.le_refl _⟩
  · rw [stM_dc h1]; exact ⟨Int.le_refl _, Int.le_refl _⟩
theorem goM_ex {F : Int} {x : BitVec 128} {l : List Nat} : ∀ (k : Nat) (m : Mc), m.ex ≤ (goM F x l k m).ex ∧ m.st ≤ (goM F x l k m).st
  | 0, m => ⟨Int.le_refl _, Int.le_refl _⟩
  | k + 1, m => by
    cases he : m.en with
    | true => rw [goM_en he]; exact ⟨Int.le_refl _, Int.le_refl _⟩
    | false =>
      rw [goM_go he]
      have h1 := stM_ex (F := F) (x := x) (l := l) (m := m)
      have h2 := goM_ex k (stM F x l m) (F := F) (x := x) (l := l)
      omega
theorem step_grow {F : Int} {x : BitVec 128} {l : List Nat} {m : Mc} (hn : 0 ≤ m.hn) (h : m.st < (stM F x l m).st) : (stM F x l m).en = true ∨ m.pl < (stM F x l m).pl := by
  by_cases h1 : dcE l m.pl = 0
  · by_cases h2 : doE F m (dcI l m.pl) = 0
    · rcases did (x := x) h1 h2 with ⟨n, -, -, n0, n1, nb, e⟩ | ⟨z, r, -, -, -, hr, hz, z0, z1, r0, r1, e⟩ | ⟨n, -, -, n0, n1, e⟩ | ⟨n, -, -, n0, n1, e⟩
      · rw [e]; right; dsimp only; omega
      · rw [e]; right; dsimp only; omega
      · rw [e]; right; dsimp only; omega
      · rw [e]; exact .inl rfl
    · rw [stM_do h1 h2] at h; exact absurd h (Int.lt_irrefl _)
  · rw [stM_dc h1] at h; exact absurd h (Int.lt_irrefl _)
theorem goM_at {F L : Int} {x : BitVec 128} {l : List Nat} (hL : L = ((l.length / 4 : Nat) : Int)) : ∀ (j : Nat) (m : Mc), MOk F L m → m.en = false → (goM F x l j m).en = true → (goM F x l j m).st + 1 ≤ m.st + (j : Int) ∨ (goM F x l j m).st = m.st + (j : Int) ∧ (goM F x l j m).err = 0
  | 0, m, hm, he, h => by rw [show goM F x l 0 m = m from rfl, he] at h; cases h
  | j + 1, m, hm, he, h => by
    rw [goM_go he] at h ⊢
    rcases stM_st (F := F) (x := x) (l := l) he with ⟨q1, q2, -⟩ | ⟨q1, q2, -⟩
    · cases h2 : (stM F x l m).en with
      | true =>
        rw [goM_en h2, q1, q2, (hm.go he).1]
        cases j with
        | zero => right; constructor <;> simp
        | succ j => left; push_cast; omega
      | false =>
        have := goM_at hL j _ (stM_mok hL hm he) h2 h
        rw [q1] at this
        push_cast
        omega
    · rw [goM_en q2, q1]
      left; push_cast; omega
theorem goM_err {F : Int} {x : BitVec 128} {l : List Nat} : ∀ (k : Nat) (m : Mc), m.en = false → (goM F x l k m).en = true → (goM F x l k m).st = m.st → (goM F x l k m).err ≠ 0
  | 0, m, he, h, _ => by rw [show goM F x l 0 m = m from rfl, he] at h; cases h
  | k + 1, m, he, h, hs => by
    rw [goM_go he] at h hs ⊢
    rcases stM_st (F := F) (x := x) (l := l) he with ⟨q1, -⟩ | ⟨-, q2, q3, -⟩
    · have := (goM_ex k (stM F x l m) (F := F) (x := x) (l := l)).2
      omega
    · rw [goM_en q2]; exact q3
theorem goM_errs {F : Int} {x : BitVec 128} {l : List Nat} : ∀ (k : Nat) (m : Mc), m.en = false → m.err = 0 → (goM F x l k m).err ≠ 6 ∧ (goM F x l k m).err ≠ 29
  | 0, m, he, h => by rw [show goM F x l 0 m = m from rfl, h]; decide
  | k + 1, m, he, h => by
    rw [goM_go he]
    rcases stM_st (F := F) (x := x) (l := l) he with ⟨-, q2, -⟩ | ⟨-, q2, -, q4, q5, -⟩
    · cases h2 : (stM F x l m).en with
      | true => rw [goM_en h2, q2, h]; decide
      | false => exact goM_errs k _ h2 (q2.trans h)
    · rw [goM_en q2]; exact ⟨q4, q5⟩
structure EndsQ (F : Int) (x : BitVec 128) (l : List Nat) (r : Mc) : Prop where
  en : r.en = true
  s0 : 0 ≤ r.st
  s1 : r.st ≤ ((l.length / 4 : Nat) : Int)
  e29 : r.err ≠ 29
  ei : r.ex + r.ix ≤ r.st
  e0 : 0 ≤ r.ex
  i0 : 0 ≤ r.ix
  o0 : 0 ≤ r.hop
  o1 : r.hop ≤ 65535
  er : r.err ≠ 0 → r.hop = 0
  wide : r.err = 6 → r.st = 0
  same : ∀ k, (goM F x l k (mc0 (rightE F x))).en = true → goM F x l k (mc0 (rightE F x)) = r
  more : ∀ j : Nat, j ≤ l.length / 4 + 1 → (r.st + 1 ≤ (j : Int) ∨ (j : Int) = r.st ∧ r.err = 0) → ruM F x l (rightE F x) j = r
  none : ∀ j : Nat, (F ≠ 32 ∧ F ≠ 128 ∨ r.err = 6 ∧ r.st = 0) → ruM F x l (rightE F x) j = r
  less : ∀ j : Nat, j ≤ l.length / 4 + 1 → ¬ (r.st + 1 ≤ (j : Int) ∨ (j : Int) = r.st ∧ r.err = 0) → ¬ (F ≠ 32 ∧ F ≠ 128 ∨ r.err = 6 ∧ r.st = 0) → (ruM F x l (rightE F x) j).err = 29 ∧ (ruM F x l (rightE F x) j).st = (j : Int) ∧ (ruM F x l (rightE F x) j).hop = 0 ∧ (ruM F x l (rightE F x) j).ex ≤ r.ex ∧ (ruM F x l (rightE F x) j).bt ≤ r.bt
theorem ends_any (F : Int) (x : BitVec 128) (l : List Nat) (r : Mc) (hr : r = ruM F x l (rightE F x) (l.length / 4 + 1)) : EndsQ F x l r := by
  obtain ⟨E, hE⟩ : ∃ E, E = rightE F x := ⟨_, rfl⟩
  have hfam : E = 0 → F = 32 ∨ F = 128 := fun q => fam_right (x := x) (by rw [← hE]; exact q)
  have hnf : ¬ (F = 32 ∨ F = 128) → E ≠ 0 := fun h q => h (hfam q)
  have hE6 : E ≠ 0 → (F = 32 ∨ F = 128) → E = 6 := by
    intro h1 h2
    have hf : fam F = true := by unfold fam; rcases h2 with rfl | rfl <;> decide
    rw [hE] at h1 ⊢
    unfold rightE at h1 ⊢
    rw [if_pos hf] at h1 ⊢
    split at h1
    · exact absurd rfl h1
    · rename_i q; rw [if_neg q]
  have hE29 : E ≠ 29 := by
    rw [hE]; unfold rightE; split
    · split <;> decide
    · decide
  rw [← hE] at hr
  have hok0 : MOk F ((l.length / 4 : Nat) : Int) (mc0 E) := mc0_ok (by omega) hfam
  obtain ⟨K, hK⟩ : ∃ K, K = l.length / 4 + 1 := ⟨_, rfl⟩
  have hen : (goM F x l K (mc0 E)).en = true := goM_ends rfl hok0 K (by omega)
  have hrg : r = goM F x l K (mc0 E) := by rw [hr, ← hK]; exact ru_done hen (Nat.le_refl _)
  have hok := goM_mok (x := x) (l := l) rfl K _ hok0
  rw [← hrg] at hok hen
  have hsame : ∀ k, (goM F x l k (mc0 E)).en = true → goM F x l k (mc0 E) = r := fun k hk => by rw [hrg]; exact goM_same hk (by rw [← hrg]; exact hen)
  have hen0 : E ≠ 0 → r = mc0 E ∧ (mc0 E).en = true := by
    intro h
    have h1 : (mc0 E).en = true := by unfold mc0; rw [if_neg h]
    exact ⟨by rw [hrg, goM_en h1], h1⟩
  have hno0 : E = 0 → (mc0 E).en = false ∧ (mc0 E).st = 0 ∧ (mc0 E).err = 0 := by
    intro h; subst h; exact ⟨rfl, rfl, rfl⟩
  have hwide : r.err = 6 → E ≠ 0 := by
    intro h q
    obtain ⟨a, -, c⟩ := hno0 q
    have := (goM_errs (F := F) (x := x) (l := l) K _ a c).1
    rw [← hrg] at this
    exact this h
  have hst0 : E ≠ 0 → r.st = 0 ∧ r.err = E := by
    intro h
    obtain ⟨h1, -⟩ := hen0 h
    rw [h1]; unfold mc0; rw [if_neg h]; exact ⟨rfl, rfl⟩
  refine ⟨hen, hok.s0, hok.s1, ?_, hok.ei, hok.e0, hok.i0, hok.o0, hok.o1, hok.er, fun h => (hst0 (hwide h)).1, ?_, ?_, ?_, ?_⟩
  · by_cases q : E = 0
    · obtain ⟨a, -, c⟩ := hno0 q
      have := (goM_errs (F := F) (x := x) (l := l) K _ a c).2
      rw [← hrg] at this; exact this
    · rw [(hst0 q).2]; exact hE29
  · rw [← hE]; exact hsame
  · intro j hj h
    rw [← hE]
    have : (goM F x l j (mc0 E)).en = true := by
      cases q : (goM F x l j (mc0 E)).en with
      | true => rfl
      | false =>
        obtain ⟨q1, q2⟩ := goM_cnt j _ q
        have q0 : E = 0 := by
          by_cases q9 : E = 0
          · exact q9
          · rw [(hen0 q9).2] at q1; cases q1
        rw [(hno0 q0).2.1, Int.zero_add] at q2
        obtain ⟨d, hd⟩ : ∃ d, K = j + d := ⟨K - j, by omega⟩
        have hg : r = goM F x l d (goM F x l j (mc0 E)) := by rw [hrg, hd, goM_add]
        have hm := (goM_ex d (goM F x l j (mc0 E)) (F := F) (x := x) (l := l)).2
        rw [← hg, q2] at hm
        rcases h with h | ⟨h1, h2⟩
        · omega
        · exfalso
          refine goM_err d _ q (by rw [← hg]; exact hen) (by rw [← hg, q2, h1]) ?_
          rw [← hg]; exact h2
    rw [ru_done this (Nat.le_refl _)]
    exact hsame j this
  · intro j h
    rw [← hE]
    have hne : E ≠ 0 := by
      rcases h with h | h
      · exact hnf (fun q => by rcases q with q | q; exact h.1 q; exact h.2 q)
      · exact hwide h.1
    have h1 : (goM F x l j (mc0 E)).en = true := by rw [goM_en (hen0 hne).2]; exact (hen0 hne).2
    rw [ru_done h1 (Nat.le_refl _)]
    exact hsame j h1
  · intro j hj h1 h2
    rw [← hE]
    have hF : F = 32 ∨ F = 128 := by
      by_cases q : F = 32
      · exact .inl q
      · by_cases q2 : F = 128
        · exact .inr q2
        · exact absurd (.inl ⟨q, q2⟩) h2
    have hE0 : E = 0 := by
      by_cases q : E = 0
      · exact q
      · exfalso
        have a := hst0 q
        exact h2 (.inr ⟨a.2.trans (hE6 q hF), a.1⟩)
    obtain ⟨a, b, c⟩ := hno0 hE0
    have hnot : (goM F x l j (mc0 E)).en = false := by
      cases q : (goM F x l j (mc0 E)).en with
      | false => rfl
      | true =>
        exfalso
        have h3 := goM_at (x := x) (l := l) rfl j _ hok0 a q
        rw [hsame j q, b, Int.zero_add] at h3
        rcases h3 with h3 | h3
        · exact h1 (.inl h3)
        · exact h1 (.inr ⟨h3.1.symm, h3.2⟩)
    have hru : ruM F x l E j = { goM F x l j (mc0 E) with en := true, err := 29 } := by unfold ruM; rw [if_neg (by rw [hnot]; decide)]
    rw [hru]
    dsimp only
    obtain ⟨d, hd⟩ : ∃ d, K = j + d := ⟨K - j, by omega⟩
    have hg : r = goM F x l d (goM F x l j (mc0 E)) := by rw [hrg, hd, goM_add]
    have h4 := (goM_ex d (goM F x l j (mc0 E)) (F := F) (x := x) (l := l)).1
    have h5 := goM_bt (F := F) (x := x) (l := l) d (goM F x l j (mc0 E))
    rw [← hg] at h4 h5
    have h6 := (goM_cnt j _ hnot).2
    rw [b, Int.zero_add] at h6
    exact ⟨rfl, h6, ((goM_mok (x := x) (l := l) rfl j _ hok0).go hnot).2, h4, h5⟩
end Go.Proofs.Ytbgoclfifhdonaa
