/-
  Part 10 of the proof: 2 texts, one behind the other.
-/
import Derived.Test.YtnaihocdemcejaaPart8
/-
  What package code's Encode does.
-/
namespace Go.Proofs.Ytnaihocdemcejaa
open Go.RowKit Go.Shelf
set_option linter.unusedSimpArgs false
set_option linter.unusedVariables false
attribute [local go_sem] Oper.semAt_some

/-- An instruction's bytes. -/
def wdB (o k : Nat) (m : List (BitVec 32)) : List Nat := (fstW o k :: m).flatMap fun x => by4 x.toNat
theorem fm_len : ∀ (m : List (BitVec 32)), (m.flatMap fun x => by4 x.toNat).length = 4 * m.length
  | [] => rfl
  | x :: m => by rw [List.flatMap_cons, List.length_append, fm_len m, List.length_cons]; show 4 + _ = _; omega
theorem wdB_len (o k : Nat) (m : List (BitVec 32)) : (wdB o k m).length = 4 * (1 + m.length) := by
  unfold wdB; rw [fm_len, List.length_cons]; omega
theorem chk_zero {o n : Int} {m : List (BitVec 32)} (h : chkE o n m = 0) : (1 ≤ o ∧ o ≤ 4) ∧ (0 ≤ n ∧ n ≤ 16777215) ∧ m.length ≤ 524288 := by
  unfold chkE at h
  by_cases h1 : isOp o = true
  · rw [if_pos h1] at h
    by_cases h2 : (decide (kLo o ≤ n) && decide (n ≤ kHi o)) = true
    · rw [if_pos h2] at h
      simp only [Bool.and_eq_true, decide_eq_true_eq] at h2
      have ho : 1 ≤ o ∧ o ≤ 4 := by unfold isOp at h1; simpa using h1
      have hn0 : 0 ≤ n := by have := h2.1; unfold kLo at this; split at this <;> omega
      have hn1 : n ≤ 16777215 := by have := h2.2; unfold kHi at this; split at this; omega; split at this <;> omega
      refine ⟨ho, ⟨hn0, hn1⟩, ?_⟩
      by_cases h3 : o = 2
      · rw [if_pos h3] at h
        have hk : n ≤ 24 := by have := h2.2; rw [h3] at this; exact this
        by_cases h4 : isMapB m n.toNat = true
        · unfold isMapB at h4
          simp only [Bool.and_eq_true, decide_eq_true_eq] at h4
          rw [h4.1]
          exact mwN_hi _ (by omega)
        · rw [if_neg h4] at h; omega
      · rw [if_neg h3] at h
        by_cases h4 : m = []
        · rw [h4]; simp
        · rw [if_neg h4] at h; omega
    · rw [if_neg h2] at h; omega
  · rw [if_neg h1] at h; omega
theorem AtI.grown {W W' : World} {B : Nat} {o n : Int} {v : Value} {row : Option Nat} (h : AtI W B o n v) (hg : W.grownBy W' row) (hne : some B ≠ row) : AtI W' B o n v := ⟨hg.cell h.1 hne, hg.cell h.2.1 hne, hg.cell h.2.2 hne⟩
def enL (l : List Nat) (o n : Int) (m : List (BitVec 32)) : List Nat := if chkE o n m = 0 then l ++ wdB o.toNat n.toNat m else []
set_option maxRecDepth 100000 in
set_option maxHeartbeats 16000000 in
theorem encode_any (v : Value) (l : List Nat) (o n : Int) (vm : Value) (m : List (BitVec 32)) (w : World) (hA : RowA w 1 v l.length (l.map cB)) (hm : RwX cU w vm m) (hl : l.length ≤ 140737480000000) (hml : m.length ≤ 140737488355328) :
    Calls Try.prog 12 #[v, .agg #[.int .i64 o, .int .i64 n, vm]] w fun e w' => ∃ v', e = .returned (.tuple #[v', .int .i64 (chkE o n m)]) ∧ w'.ownsRow w.heap.size 5 1 v' (enL l o n m).length ((enL l o n m).map cB) ∧ Below w.heap.size w w' := by
  obtain ⟨i0, hi, hz0, hz1, hz2⟩ := info13 Try.infoB13
  obtain ⟨-, bo, bc, hvf, -⟩ := id hA
  obtain ⟨ao, c, hvm, -⟩ := id hm
  have q1 := bl1 w (.cells #[.int .i64 o, .int .i64 n, vm] 24)
  have a1 := ati_new w o n vm 24
  have K1 := check_any o n vm m _ (hm.below q1)
  have HB1 := hid13 q1
  have HA1 := hid13 a1
  have HR := hid13 hA
  have HM := hid13 hm
  subst hvf hvm
  clear q1 a1 hA hm
  refine (callsIn_wide (n := 9)).1 ?_
  refine callsIn_of_wp_marks Try.func12 rfl trivial ?_ rfl
  simp only [Try.ntmps12, List.size_toArray, List.length_cons, List.length_nil, Nat.reduceAdd, Nat.reduceSub, Array.replicate_succ, Array.replicate_zero, List.push_toArray, List.append_toArray, List.nil_append, List.cons_append]
  refine wpIn_wide.2 ?_
  go_wp2_with fail
  refine K1.mono ?_
  rintro e w2 ⟨rfl, hb2⟩
  have HB2 := hid13 (keepb hb2 HB1.out)
  have HA2 := hid13 (HA1.out.below hb2)
  clear HA1 HB1 K1 hb2
  by_cases h0 : chkE o n m = 0
  · have HE : Hid (enL l o n m = l ++ wdB o.toNat n.toNat m ∧ chkE o n m = 0) := ⟨by unfold enL; rw [if_pos h0], h0⟩
    have HF := hid13 (chk_zero h0)
    have K2 := size_any o n (.slice ao m.length c) m w2 (HM.out.below HB2.out) hml
    have e2 : szI o n m = 1 + (m.length : Int) := by unfold szI; rw [if_pos h0]
    rw [e2] at K2
    rw [h0]
    obtain ⟨b0, b1, b2⟩ := HA2.out
    have hl0 : (l.length : Int) ≤ 140737480000000 := by omega
    have hm0 : (m.length : Int) ≤ 524288 := by have := HF.out.2.2; omega
    have w1' : IntKind.i64.wrap ((1 + (m.length : Int)) * 4) = (1 + (m.length : Int)) * 4 := by rw [IntKind.wrap_i64]; omega
    have w2' : IntKind.i64.wrap ((l.length : Int) + (1 + (m.length : Int)) * 4) = (l.length : Int) + (1 + (m.length : Int)) * 4 := by rw [IntKind.wrap_i64]; omega
    clear h0 e2 hml
    go_wp2_with fail
    refine K2.mono ?_
    rintro e w3 ⟨rfl, hb3⟩
    have HB3 := hid13 (keepb hb3 HB2.out)
    have HA3 := hid13 (HA2.out.below hb3)
    clear b0 b1 b2 K2 hb3 HA2 HB2
    go_wp2_with (at_make; apply stopHere9)
    refine (show wpList _ _ _ _ _ _ from ?_)
    refine wpList_make_mid _ rfl _ _ 25 rfl w.heap.size 5 i0 (.int .u8 0) Try.underlying25 hi hz0 hz1 rfl .i64 .i64 _ _ l.length (l.length + (1 + m.length) * 4) rfl rfl rfl (by push_cast; rfl) (by omega) (by rw [hz2]; omega) (by unfold maxLen; omega) HB3.out.size ?_
    intro w4 hown4 hgrow4
    obtain ⟨G, hG⟩ : ∃ G, G = w3.heap.size := ⟨_, rfl⟩
    rw [← hG] at hown4 ⊢
    have HB4 : Hid (Below w.heap.size w w4) := HB3.out.grown hgrow4 HB3.out.size (fun z hz => by cases hz)
    have hA4 : AtI w4 w.heap.size o n (.slice ao m.length c) := by
      have h1 := HA3.out
      have hk : ∀ (j : Nat) u, w3.cell? ⟨w.heap.size, j, none⟩ = some u → w4.cell? ⟨w.heap.size, j, none⟩ = some u := fun j u h => hgrow4.cell h (by intro e; cases e)
      exact ⟨hk _ _ h1.1, hk _ _ h1.2.1, hk _ _ h1.2.2⟩
    have hGl := (hown4.lt G rfl).2
    have hwG : w.heap.size < G := by rw [hG]; exact cell_in HA3.out.1
    obtain ⟨C, hC⟩ : ∃ C, C = l.length + (1 + m.length) * 4 := ⟨_, rfl⟩
    rw [← hC] at hown4 ⊢
    have q5 := bl1 w4 (.cells #[.slice (some ⟨G, 0, none⟩) l.length C] 25)
    obtain ⟨B, hBd⟩ : ∃ B, B = w4.heap.size := ⟨_, rfl⟩
    obtain ⟨w5, hw5⟩ : ∃ w5, w5 = w4.alloc (.cells #[.slice (some ⟨G, 0, none⟩) l.length C] 25) := ⟨_, rfl⟩
    have hc5 : w5.cell? ⟨B, 0, none⟩ = some (.slice (some ⟨G, 0, none⟩) l.length C) := by rw [hw5, hBd]; simp [go_sem]
    have hf5 : w5.frozen? ⟨B, 0, none⟩ = false := by rw [hw5, hBd]; simp [go_sem]
    rw [← hw5] at q5
    have HO5 := hid13 (own_b13 q5 hown4)
    have HB5 := hid13 (keepb q5 HB4.out)
    have HA5 := hid13 (hA4.below q5)
    have HR5 := HR.out.below HB5.out
    have hcp : ∀ ad, bo = some ad → ∀ j u, (l.map cB)[j]? = some u → w5.cell? (ad.add j) = some u := by
      intro ad e j u hj
      obtain ⟨-, ao', c', e', -, h⟩ := HR5
      injection e' with e1 e2 e3
      subst e1
      rcases h with ⟨rfl, -, -⟩ | ⟨a, ha, h⟩
      · cases e
      · rw [ha] at e
        injection e with e
        subst e
        exact h j u hj
    have hcn : bo = none → l.map cB = [] := by
      intro e
      obtain ⟨-, ao', c', e', -, h⟩ := HR5
      injection e' with e1 e2 e3
      subst e1
      rcases h with ⟨-, -, h⟩ | ⟨a, ha, -⟩
      · rw [List.eq_nil_of_length_eq_zero h]; rfl
      · rw [ha] at e; cases e
    have HCP := hid13 hcp
    have HCN := hid13 hcn
    have HN5 : Hid (w.heap.size < G ∧ G < B ∧ B < w5.heap.size) := ⟨hwG, by rw [hBd]; exact hGl, cell_in hc5⟩
    have HC : Hid (C = l.length + (1 + m.length) * 4) := hC
    clear hcp hcn HR5 hown4 hgrow4 hA4 hGl hwG q5 HB4 HA3 HB3 hG hC w1' w2'
    go_wp2_with (first | (rw [← hw5]; rw [← hBd]; refine wpList_copy_any rfl (.tmp 23) (.tmp 24) 25 25 rfl 5 i0 1 Try.underlying25 hi hz1 w.heap.size G l.length C _ rfl HO5.out bo l.length bc rfl (Nat.le_refl _) (l.map cB) (by simp) HCN.out HCP.out (cB_one l) ?_; intro w6 ho6 hgrow6; have HP6 := hid13 (And.intro ho6 hgrow6); obtain ⟨b0, b1, b2⟩ := HA5.out.grown hgrow6 (by intro e; injection e with e; have := HN5.out; omega); clear ho6 hgrow6) | (go_at_call 24; refine (words_any o n _ _).mono ?_; rintro e w7 ⟨rfl, hw7⟩))
    obtain ⟨ho6, hgrow6⟩ := HP6.out
    rw [List.drop_eq_nil_of_le (by simp), List.append_nil] at ho6
    obtain ⟨O, rfl⟩ : ∃ O : Nat, o = (O : Int) := ⟨o.toNat, by have := HF.out; omega⟩
    obtain ⟨k, rfl⟩ : ∃ k : Nat, n = (k : Int) := ⟨n.toNat, by have := HF.out; omega⟩
    have hHE := HE.out
    rw [Int.toNat_natCast, Int.toNat_natCast] at hHE
    have HE2 := hid13 hHE
    clear hHE HE
    have q7 := bl1 w6 (.cells #[.int .i64 (O : Int), .int .i64 (k : Int), .slice ao m.length c] 24)
    have a7 := ati_new w6 (O : Int) (k : Int) (.slice ao m.length c) 24
    rw [← hw7] at q7 a7
    obtain ⟨A, hAd⟩ : ∃ A, A = w6.heap.size := ⟨_, rfl⟩
    obtain ⟨N, hNd⟩ : ∃ N, N = w7.heap.size := ⟨_, rfl⟩
    have hNA : A < N := by rw [hNd, hAd, hw7]; simp
    rw [← hw7]
    rw [← hAd] at a7 ⊢
    rw [← hBd]
    have hBne : B ≠ G := by have := HN5.out; omega
    have eB : w6.heap[B]? = w5.heap[B]? := hgrow6.block B HN5.out.2.2 (by intro e; injection e with e; exact hBne e)
    have hc6 : w6.cell? ⟨B, 0, none⟩ = some (.slice (some ⟨G, 0, none⟩) l.length C) := (World.cell?_of_block (a := ⟨B, 0, none⟩) eB).trans hc5
    have hf6 : w6.frozen? ⟨B, 0, none⟩ = false := (World.frozen?_of_block (a := ⟨B, 0, none⟩) eB).trans hf5
    have hB6 : Below w.heap.size w w6 := HB5.out.grown hgrow6 HB5.out.size (fun z hz => by injection hz with hz; have := HN5.out; omega)
    have hBA : B < A := by rw [hAd]; exact cell_in hc6
    have HEn : Hid (EnW w N G B w7 (.slice (some ⟨G, 0, none⟩) l.length C) (.slice (some ⟨G, 0, none⟩) l.length C) (l ++ ([] : List (BitVec 32)).flatMap fun x => by4 x.toNat)) := by
      refine ⟨keepb q7 hB6, keepc q7 hc6, keepf q7 hc6 hf6, ?_, ?_, by rw [hNd]; exact Nat.le_refl _⟩
      · show w7.ownsRow _ _ _ _ (l ++ []).length ((l ++ []).map cB)
        rw [List.append_nil]; exact own_b13 q7 ho6
      · intro z hz; injection hz with hz; exact .inl hz.symm
    have HWd : Hid (WdM (fun z => z < w.heap.size ∨ z = A) A (O : Int) (k : Int) ao c m w7) := by
      refine ⟨a7, .inr rfl, HM.out.below (keepb q7 hB6), ?_⟩
      intro hne ad e
      obtain ⟨ao', c', e', -, hr⟩ := HM.out
      injection e' with e1 e2 e3
      subst e1
      rcases hr with hr | ⟨b, off, e2, hr⟩
      · exact absurd hr hne
      · obtain ⟨x, t, hx⟩ := List.exists_cons_of_ne_nil hne
        have hc := hr 0 x (by rw [hx]; rfl)
        rw [e] at e2
        injection e2 with e2
        rw [e2]
        exact .inl (cell_in hc)
    have HNs : Hid (w.heap.size < G ∧ G < B ∧ B < A ∧ A < N) := ⟨HN5.out.1, HN5.out.2.1, hBA, hNA⟩
    have HOK : Hid (O ≤ 4 ∧ k < 16777216 ∧ m.length ≤ 1000000000) := by have := HF.out; exact ⟨by omega, by omega, by omega⟩
    clear ho6 hgrow6 HP6 HN5 q7 a7 hw7 hc6 hf6 hB6 eB hc5 hf5 HA5 HB5 HO5 hw5 hBd hBA hNA hBne HCP HCN b0 b1 b2 hAd
    refine (wpIn_wide (n := 9)).1 ?_
    refine rangeXA 9 (by decide) (gf := 35) (lb := #[.pointer (some ⟨A, 0, none⟩)]) rfl (enters_of Try.func35 (by kernel_rfl) rfl)
      (words1_any (9 - 1) (fun z => z < w.heap.size ∨ z = A) A O k ao c m HOK.out.1 HOK.out.2.1 HOK.out.2.2 0 w7 HWd.out) (Nat.zero_le _) (fun A => KZ.refl _ _) (fun h k => h.trans k) (fun V o o' h1 h2 => kz_put (by have := HNs.out; rw [hNd] at this; rintro (q | q) <;> omega) V o o' h1 h2) (Below.refl _ _) (fun _ => rfl)
      (fun pre V => ∃ vb, EnW w N G B V vb vb (l ++ pre.flatMap fun x => by4 x.toNat))
      (fun c pre V => False)
      (fun s X Y row hs hg hr => by obtain ⟨vb, h⟩ := hs; exact ⟨vb, h.kept hg (by have := HNs.out; omega) (fun r e => ⟨by rw [hNd]; exact (hr r e).1, (hr r e).2⟩)⟩)
      (fun c s X Y row hs hg hr => hs)
      ⟨_, HEn.out⟩
      ?AX ?assign ?body ?done ?stop
    case assign =>
      intro lo y V K hK
      unfold encU
      simp only [List.zip_toArray, List.zip_cons_cons, List.zip_nil_left, List.zip_nil_right, List.foldl_toArray, List.foldl_cons, List.foldl_nil, List.setIfInBounds_toArray, List.set_cons_zero, List.set_cons_succ, Array.zip]
      have HKK := hid13 hK
      clear hK
      gi_wp2
      exact HKK.out
    case body =>
      rintro lo pre x V hlo - ⟨vb, hE⟩ hsp
      have HEb := hid13 hE
      have HPr : Hid (pre.length < 1 + m.length) := by
        have := hsp.length_le
        simp at this
        show _ < _; omega
      clear hE hsp
      obtain ⟨R, hR⟩ : ∃ R, R = l ++ pre.flatMap fun x => by4 x.toNat := ⟨_, rfl⟩
      have HEr : Hid (EnW w N G B V vb vb R) := by show EnW _ _ _ _ _ _ _ _; rw [hR]; exact HEb.out
      have HRl : Hid (R.length + 4 ≤ 140737488355328 ∧ R.length ≤ 140737488000000) := by
        have h1 := HPr.out
        have h2 := HOK.out.2.2
        have e : R.length = l.length + 4 * pre.length := by rw [hR, List.length_append, fm_len]
        have h3 := HF.out.2.2
        constructor <;> omega
      have HRq : Hid (R ++ by4 x.toNat = l ++ (pre ++ [x]).flatMap fun x => by4 x.toNat) := by
        show _ = _
        rw [hR, List.flatMap_append, List.append_assoc]; simp
      have hnn := HNs.out
      have hBG : B ≠ G := by omega
      have hBN : B < N := by omega
      have hZ : ∀ z, (z < w.heap.size ∨ z = A) → z < w.heap.size ∨ (z ≠ G ∧ z < N) := by
        intro z hz
        rcases hz with q | q
        · exact .inl q
        · exact .inr ⟨by omega, by omega⟩
      have hZB : ¬ (B < w.heap.size ∨ B = A) := by rintro (q | q) <;> omega
      have KP := fun W => put32_any (.slice none 0 0) [] x.toNat W ⟨rfl, none, 0, rfl, Nat.le_refl _, .inl ⟨rfl, rfl, rfl⟩⟩ (by simp) x.isLt
      have hxu : ((x.toNat : Nat) : Int) = uI x := (uI_eq x).symm
      rw [hxu] at KP
      clear hR HEb hnn
      gi_wp2
      refine gh_regionR (γ := (Nat × Nat) × (Nat × Nat)) (qpOk 5 5 (by decide) (fun N => by kernel_rfl) (by kernel_rfl) (by kernel_rfl) (by kernel_rfl) (by kernel_rfl)) (by kernel_rfl) (by kernel_rfl) (by kernel_rfl) (by rintro ⟨_, _, h⟩; exact h) [some 29, some 30, some 31, some 32, none] (fun g => [vb, .int .u32 (uI x), .slice (some ⟨g.1.1, 0, none⟩) 4 g.1.2, .slice (some ⟨g.2.1, 0, none⟩) (R.length + 4) g.2.2, undef]) (by kernel_rfl) (by simp) (fun lp g X => RE (fun X => EnW w N G B X vb vb R ∧ KZ (fun z => z < w.heap.size ∨ z = A) V X ∧ KeepsFrom N V X) (fun g X => ∀ j u, ((by4 x.toNat).map cB)[j]? = some u → X.cell? ((⟨g, 0, none⟩ : Addr).add j) = some u) (fun g c X => EnW w N G B X vb (.slice (some ⟨g, 0, none⟩) (R.length + 4) c) (R ++ by4 x.toNat) ∧ KZ (fun z => z < w.heap.size ∨ z = A) V X ∧ KeepsFrom N V X) (fun g c X => EnW w N G B X (.slice (some ⟨g, 0, none⟩) (R.length + 4) c) (.slice (some ⟨g, 0, none⟩) (R.length + 4) c) (R ++ by4 x.toNat) ∧ KZ (fun z => z < w.heap.size ∨ z = A) V X ∧ KeepsFrom N V X) (lp.getD 0 false) (lp.getD 2 false) (lp.getD 3 false) (lp.getD 4 false) g X) ((0, 0), (0, 0)) ⟨fun _ => ⟨⟨HEr.out.below (below_drewN (Below.refl _ _) 1), kz_below (below_drewN (Below.refl _ _) 1), kf_below (below_drewN (Below.refl _ _) 1)⟩, fun h => (by simp at h)⟩, fun h => (by simp at h), fun h => (by simp at h), fun h => (by simp at h), fun h => (by simp at h)⟩ ?step0 ?fin0
      case step0 =>
        intro q o lp g w' a' ho hsz hun hdep hR hS K Q' hK
        have hfl : ∀ j, j ≠ q → (lp.setIfInBounds q true).getD j false = lp.getD j false := fun j hj => by rw [Array.getD_eq_getD_getElem?, Array.getD_eq_getD_getElem?, Array.getElem?_setIfInBounds_ne (by omega)]
        have hq : q < 5 := (List.getElem?_eq_some_iff.mp ho).1
        match q, ho, hun, hdep, hK, hfl, hq with
        | 0, ho, hun, hdep, hK, hfl, _ =>
          obtain rfl := Option.some.inj ho
          have hf : lp.getD 3 false = false := by
            cases h : lp.getD 3 false
            · rfl
            · have := (hR.d3 h).1; rw [hun] at this; cases this
          have o7 : a'.tmps[7]? = some (.pointer (some ⟨B, 0, none⟩)) := (hS.old14 7 (by simp)).trans rfl
          have hc := (hR.e hf).1.1.c
          have hK' := hK g w' (fun _ _ _ _ _ _ => rfl) (by rw [hfl 2 (by decide), hfl 3 (by decide), hfl 4 (by decide), getD_set_same (by rw [hsz]; decide)]; exact ⟨hR.e, hR.a, hR.s, fun h => ⟨rfl, (hR.d3 h).2⟩, hR.d4⟩) vb (by simp only [valO, Option.bind_some]; simp only [putAll, Act.put, List.setIfInBounds_toArray, List.set_cons_zero, List.set_cons_succ]; rfl)
          obtain ⟨xo, xc, hv⟩ := own_form (hR.e hf).1.1.o
          subst hv
          clear hS hdep hR
          refine gh_quiet14 (v := .slice xo R.length xc) ?_ ?_
          · (simp only [execOp, Act.eval, o7]; go_simp; first | done | (simp; done) | (simp [*]; done))
          · exact hK'
        | 1, ho, hun, hdep, hK, hfl, _ =>
          obtain rfl := Option.some.inj ho
          have o8 : a'.tmps[8]? = some (.int .u32 (uI x)) := (hS.old14 8 (by simp)).trans rfl
          have hK' := hK g w' (fun _ _ _ _ _ _ => rfl) (by rw [hfl 0 (by decide), hfl 2 (by decide), hfl 3 (by decide), hfl 4 (by decide)]; exact hR) (.int .u32 (uI x)) (by simp only [valO, Option.bind_some]; simp only [putAll, Act.put, List.setIfInBounds_toArray, List.set_cons_zero, List.set_cons_succ]; rfl)
          clear hS hdep hR
          refine gh_quiet14 (v := .int .u32 (uI x)) ?_ ?_
          · (simp only [execOp, Act.eval, o8]; go_simp; first | done | (simp; done) | (simp [*]; done))
          · exact hK'
        | 2, ho, hun, hdep, hK, hfl, _ =>
          obtain rfl := Option.some.inj ho
          have hf : lp.getD 3 false = false := by
            cases h : lp.getD 3 false
            · rfl
            · have := (hR.d3 h).2; rw [hun] at this; cases this
          have d1 : lp.getD 1 false = true := hdep { on := 1, ground := .data } (by simp) rfl
          have e30 : a'.tmps[30]? = some (.int .u32 (uI x)) := (hS.don 1 _ 30 rfl d1 rfl).trans (by simp only [putAll, Act.put, List.setIfInBounds_toArray, List.set_cons_zero, List.set_cons_succ]; rfl)
          have KE := KP w'
          have h4 : lp.getD 4 false = false := by
            cases h : lp.getD 4 false
            · rfl
            · have := hR.d4 h; rw [hf] at this; cases this
          clear hdep
          unfold Oper.wp
          simp only [execOp, Act.eval]
          simp [go_sem, e30, Oper.upon]
          refine KE.mono ?_
          rintro e W2 ⟨v2, rfl, hO2, hb2⟩
          have hO2' : W2.ownsRow w'.heap.size 5 1 v2 4 ((by4 x.toNat).map cB) := hO2
          obtain ⟨g2, c2, rfl, -, -⟩ := hO2'.form (by decide)
          obtain ⟨r1, r2, r3⟩ := (hR.e hf).1
          exact hK ((g2, c2), g.2) W2 (fun k ok s hk hl hd => gh_same14 (d := 31) (s := s) (by simp only [putAll, Act.put, List.setIfInBounds_toArray, List.set_cons_zero, List.set_cons_succ]; rfl) (by rintro rfl; have := dstG_of (by kernel_rfl) k 2 ok _ 31 hk rfl hd rfl; subst this; rw [hun] at hl; cases hl)) (by rw [hfl 0 (by decide), hfl 3 (by decide), hfl 4 (by decide), getD_set_same (by rw [hsz]; decide), hf, h4]; exact ⟨fun _ => ⟨⟨r1.below hb2, r2.trans (kz_below hb2), r3.trans (kf_below hb2)⟩, fun _ => hO2'.cells rfl⟩, fun h => (by cases h), fun h => (by cases h), fun h => (by cases h), fun h => (by cases h)⟩) _ (by simp only [valO, Option.bind_some]; simp only [putAll, Act.put, List.setIfInBounds_toArray, List.set_cons_zero, List.set_cons_succ]; rfl)
        | 3, ho, hun, hdep, hK, hfl, _ =>
          obtain rfl := Option.some.inj ho
          have d0 : lp.getD 0 false = true := hdep { on := 0, ground := .data } (by simp) rfl
          have e29 : a'.tmps[29]? = some vb := (hS.don 0 _ 29 rfl d0 rfl).trans (by simp only [putAll, Act.put, List.setIfInBounds_toArray, List.set_cons_zero, List.set_cons_succ]; rfl)
          have d2 : lp.getD 2 false = true := hdep { on := 2, ground := .data } (by simp) rfl
          have e31 : a'.tmps[31]? = some (.slice (some ⟨g.1.1, 0, none⟩) 4 g.1.2) := (hS.don 2 _ 31 rfl d2 rfl).trans (by simp only [putAll, Act.put, List.setIfInBounds_toArray, List.set_cons_zero, List.set_cons_succ]; rfl)
          obtain ⟨⟨r1, r2, r3⟩, hN⟩ := hR.e hun
          have hN := hN d2
          have h4 : lp.getD 4 false = false := by
            cases h : lp.getD 4 false
            · rfl
            · have := hR.d4 h; rw [hun] at this; cases this
          refine wp_append_lies w' (.tmp 29) (.tmp 31) 25 rfl w.heap.size 5 i0 (.int .u8 0) 1 1 Try.underlying25 hi hz0 hz1 hz2 rfl (by decide) vb R.length (R.map cB) (by simp [Act.eval, e29]) r1.o ⟨g.1.1, 0, none⟩ 4 g.1.2 ((by4 x.toNat).map cB) (by simp [Act.eval, e31]) rfl hN (cB_one _) (by decide) (by unfold maxLen; have := HRl.out; omega) (by have := HRl.out; omega) r1.b.size _ rfl ?_
          intro g4 cap4 w4 hown4 hgrow hat hlt4
          have hE4 : EnW w N G B w4 vb (.slice (some ⟨g4, 0, none⟩) (R.length + 4) cap4) (R ++ by4 x.toNat) := r1.app hBG hBN (by omega) (by rw [List.map_append, List.length_append]; exact hown4) hgrow (fun z hz => by injection hz with hz; subst hz; rcases hat with h | h; exact .inl h; exact .inr h)
          exact hK (g.1, (g4, cap4)) w4 (fun k ok s hk hl hd => gh_same14 (d := 32) (s := s) (by simp only [putAll, Act.put, List.setIfInBounds_toArray, List.set_cons_zero, List.set_cons_succ]; rfl) (by rintro rfl; have := dstG_of (by kernel_rfl) k 3 ok _ 32 hk rfl hd rfl; subst this; rw [hun] at hl; cases hl)) (by rw [hfl 0 (by decide), hfl 2 (by decide), hfl 4 (by decide), getD_set_same (by rw [hsz]; decide), h4]; exact ⟨fun h => (by cases h), fun _ _ => ⟨hE4, r2.trans (kz_app r1 hZ hgrow), r3.trans (kf_app r1 hgrow)⟩, fun h => (by cases h), fun _ => ⟨d0, d2⟩, fun h => (by cases h)⟩) _ (by simp only [valO, Option.bind_some]; simp only [putAll, Act.put, List.setIfInBounds_toArray, List.set_cons_zero, List.set_cons_succ]; rfl)
        | 4, ho, hun, hdep, hK, hfl, _ =>
          obtain rfl := Option.some.inj ho
          have d3 : lp.getD 3 false = true := hdep { on := 3, ground := .data } (by simp) rfl
          have e32 : a'.tmps[32]? = some (.slice (some ⟨g.2.1, 0, none⟩) (R.length + 4) g.2.2) := (hS.don 3 _ 32 rfl d3 rfl).trans (by simp only [putAll, Act.put, List.setIfInBounds_toArray, List.set_cons_zero, List.set_cons_succ]; rfl)
          have o7 : a'.tmps[7]? = some (.pointer (some ⟨B, 0, none⟩)) := (hS.old14 7 (by simp)).trans rfl
          obtain ⟨r1, r2, r3⟩ := hR.a d3 hun
          have z0 := r1.c
          have zf := r1.f
          have hK' := hK g (w'.setCell ⟨B, 0, none⟩ (.slice (some ⟨g.2.1, 0, none⟩) (R.length + 4) g.2.2)) (fun _ _ _ _ _ _ => rfl) (by rw [hfl 0 (by decide), hfl 2 (by decide), hfl 3 (by decide), getD_set_same (by rw [hsz]; decide), d3]; exact ⟨fun h => (by cases h), fun _ h => (by cases h), fun _ => ⟨r1.set hBG hBN (by omega), r2.trans (kz_set hZB _), r3.trans (kf_set z0 _)⟩, fun _ => hR.d3 d3, fun _ => rfl⟩) undef rfl
          clear hS hdep hR r1 r2 r3
          unfold Oper.wp
          simp [execOp, Act.eval, o7, e32, go_sem, z0, zf, Oper.upon]
          exact hK'
        | n + 5, ho, hun, hdep, hK, hfl, hq => exact absurd hq (by omega)
      case fin0 =>
        intro g V2 hR
        obtain ⟨r1, r2, r3⟩ := hR.s (by simp)
        rw [HRq.out] at r1
        simp only [putAll, Act.put, List.setIfInBounds_toArray, List.set_cons_zero, List.set_cons_succ]
        exact ⟨by rw [← hNd]; exact r3, r2, _, r1⟩
    case done =>
      rintro D ys V hD rfl ⟨vb, hE⟩ hK
      have HEd := hid13 hE
      obtain ⟨xo, xc, hv⟩ := own_form hE.o
      have c0 := hE.c
      obtain ⟨Y, hY⟩ : ∃ Y, Y = l ++ (fstW O k :: m).flatMap fun x => by4 x.toNat := ⟨_, rfl⟩
      rw [← hY] at hv HEd
      have HYe : Hid (enL l (O : Int) (k : Int) m = Y ∧ chkE (O : Int) (k : Int) m = 0) := ⟨by rw [HE2.out.1, hY]; rfl, HE2.out.2⟩
      subst hv
      clear hE hY
      refine wl_nil14 (P := Try.prog) (ops := #[]) ?_
      go_wp2
      refine ⟨by simp, .inl ⟨_, _, rfl, run_takeDeferred hK, ?_⟩⟩
      have HEe := HEd.out.kept (grownBy_putObj' _ D (.deferred none)) (by have := HNs.out; omega) (fun r e => by cases e; exact ⟨by rw [hNd]; exact hD, _, hK, rfl⟩)
      refine ⟨.tuple #[.slice xo Y.length xc, .int .i64 0], by simp [results, Try.results12, go_sem], _, by rw [HYe.out.2], ?_, HEe.b⟩
      rw [HYe.out.1]
      exact HEe.o
    case stop =>
      rintro D c pre V hD hpre h hK
      exact h.elim
  · have HE : Hid (enL l o n m = []) := by show _ = _; unfold enL; rw [if_neg h0]
    have hne : (chkE o n m != 0) = true := by simpa using h0
    clear h0
    go_wp2
    refine ⟨.tuple #[.slice none 0 0, .int .i64 (chkE o n m)], by simp [results, Try.results12, go_sem], _, rfl, ?_, HB2.out⟩
    rw [HE.out]
    exact World.ownsRow_nil _ _ _ _
end Go.Proofs.Ytnaihocdemcejaa
/-
  Plain: what Encode lays Decode reads, and back.
-/
namespace Go.Proofs.Ytnaihocdemcejaa
set_option linter.unusedSimpArgs false
set_option linter.unusedVariables false

theorem numN_by4 (x : BitVec 32) : numN (by4 x.toNat) = x.toNat := num4 _ x.isLt
theorem wdV_zero (x : BitVec 32) (z : List Nat) : wdV (by4 x.toNat ++ z) 0 = x := by
  unfold wdV
  have e : (((by4 x.toNat ++ z).drop (4 * 0)).take 4) = by4 x.toNat := by
    rw [Nat.mul_zero, List.drop_zero]
    exact List.take_left' rfl
  rw [e, numN_by4]
  simp
theorem wdV_app (l X : List Nat) (a j : Nat) (h : l.length = 4 * a) : wdV (l ++ X) (a + j) = wdV X j := by
  unfold wdV
  rw [Nat.mul_add, ← h, ← List.drop_drop, List.drop_left]
theorem wdV_succ (x : BitVec 32) (z : List Nat) (j : Nat) : wdV (by4 x.toNat ++ z) (j + 1) = wdV z j := by
  rw [Nat.add_comm j 1]
  exact wdV_app (by4 x.toNat) z 1 j rfl
theorem wdV_fm : ∀ (ws : List (BitVec 32)) (z : List Nat) (j : Nat) (x : BitVec 32), ws[j]? = some x → wdV ((ws.flatMap fun x => by4 x.toNat) ++ z) j = x
  | [], z, j, x, h => by simp at h
  | y :: ws, z, 0, x, h => by
    simp at h
    subst h
    rw [List.flatMap_cons, List.append_assoc]
    exact wdV_zero y _
  | y :: ws, z, j + 1, x, h => by
    rw [List.flatMap_cons, List.append_assoc, wdV_succ]
    exact wdV_fm ws z j x (by simpa using h)
theorem kHi_Rm (o : Int) : kHi o ≤ kRm o := by
  unfold kHi kRm
  split
  · omega
  · split <;> omega
/-- What is laid is read. -/
theorem dec_enc (l z : List Nat) (a : Nat) (o n : Int) (m : List (BitVec 32)) (hl : l.length = 4 * a) (h : chkE o n m = 0) :
    dcE (l ++ wdB o.toNat n.toNat m ++ z) (a : Int) = 0 ∧ dcI (l ++ wdB o.toNat n.toNat m ++ z) (a : Int) = ⟨o, n, m⟩ ∧ dcZ (l ++ wdB o.toNat n.toNat m ++ z) (a : Int) = 1 + (m.length : Int) := by
  obtain ⟨ho, hn, hm⟩ := chk_zero h
  obtain ⟨O, rfl⟩ : ∃ O : Nat, o = (O : Int) := ⟨o.toNat, by omega⟩
  obtain ⟨N, rfl⟩ : ∃ N : Nat, n = (N : Int) := ⟨n.toNat, by omega⟩
  rw [Int.toNat_natCast, Int.toNat_natCast]
  obtain ⟨L, hL⟩ : ∃ L, L = l ++ wdB O N m ++ z := ⟨_, rfl⟩
  rw [← hL]
  have hlen : L.length = 4 * a + 4 * (1 + m.length) + z.length := by rw [hL, List.length_append, List.length_append, hl, wdB_len]
  have hw : ∀ j x, (fstW O N :: m)[j]? = some x → wdV L (a + j) = x := by
    intro j x hj
    rw [hL, List.append_assoc, wdV_app l _ a j hl]
    exact wdV_fm _ z j x hj
  have h0 : wdV L a = fstW O N := hw 0 _ rfl
  have hu : uI (wdV L a) = ((O * 16777216 + N : Nat) : Int) := by rw [h0]; exact fst_uI O N (by omega) (by omega)
  have hO : insO L a = (O : Int) := by unfold insO; rw [hu]; omega
  have hN : insN L a = (N : Int) := by unfold insN; rw [hu]; omega
  have hs : stB L.length (a : Int) 1 = true := by unfold stB; simp; omega
  have hop : isOp (O : Int) = true := by unfold isOp; simp; omega
  have htk : tkB (O : Int) (N : Int) = true := by
    unfold tkB
    unfold chkE at h
    rw [if_pos hop] at h
    by_cases c : (decide (kLo (O : Int) ≤ (N : Int)) && decide ((N : Int) ≤ kHi (O : Int))) = true
    · exact c
    · rw [if_neg c] at h; omega
  have hrm : (N : Int) ≤ kRm (O : Int) := by
    unfold tkB at htk
    simp only [Bool.and_eq_true, decide_eq_true_eq] at htk
    exact Int.le_trans htk.2 (kHi_Rm _)
  have hr : rdP L a = (m, 0) := by
    unfold rdP
    rw [hO, hN, if_pos hop, if_pos hrm, if_pos htk, Int.toNat_natCast]
    unfold chkE at h
    have htk' := htk
    unfold tkB at htk'
    rw [if_pos hop, if_pos htk'] at h
    by_cases c : (O : Int) = 2
    · rw [if_pos c] at h ⊢
      rw [Int.toNat_natCast] at h
      have hmp : isMapB m N = true := by
        by_cases c2 : isMapB m N = true
        · exact c2
        · rw [if_neg c2] at h; omega
      have hml : m.length = mwN N := by
        unfold isMapB at hmp
        simp only [Bool.and_eq_true, decide_eq_true_eq] at hmp
        exact hmp.1
      have hmL : mpL L (a + 1) (mwN N) = m := by
        apply List.ext_getElem?
        intro j
        by_cases hj : j < m.length
        · unfold mpL
          rw [List.getElem?_map, List.getElem?_range (by omega), List.getElem?_eq_getElem hj]
          simp only [Option.map_some, Option.some.injEq]
          rw [Nat.add_assoc, Nat.add_comm 1 j]
          exact hw (j + 1) _ (by simp [hj])
        · rw [List.getElem?_eq_none (by rw [mpL_len]; omega), List.getElem?_eq_none (by omega)]
      unfold rmP
      rw [if_pos (by omega), hmL, if_pos hmp]
    · rw [if_neg c] at h ⊢
      by_cases c2 : m = []
      · rw [c2]
      · rw [if_neg c2] at h; omega
  have hE : dcE L (a : Int) = 0 := by unfold dcE; rw [if_pos hs, Int.toNat_natCast, hr]
  have hI : dcI L (a : Int) = ⟨(O : Int), (N : Int), m⟩ := by unfold dcI; rw [if_pos hE, Int.toNat_natCast, hO, hN, hr]
  exact ⟨hE, hI, by unfold dcZ; rw [if_pos hE, hI]⟩
theorem by4_num (a b c d : Nat) (ha : a < 256) (hb : b < 256) (hc : c < 256) (hd : d < 256) : by4 (numN [a, b, c, d]) = [a, b, c, d] := by
  have e : numN [a, b, c, d] = ((((0 * 256 + a) * 256 + b) * 256 + c) * 256 + d) := rfl
  rw [e]
  unfold by4
  congr 1
  · omega
  · congr 1
    · omega
    · congr 1
      · omega
      · congr 1; omega
theorem list4 (l : List Nat) (h : l.length = 4) : ∃ a b c d, l = [a, b, c, d] := by
  match l, h with
  | [a, b, c, d], _ => exact ⟨a, b, c, d, rfl⟩
theorem by4_wd (l : List Nat) (k : Nat) (hx : ∀ b ∈ l, b < 256) (hk : k < l.length / 4) : by4 (wdV l k).toNat = (l.drop (4 * k)).take 4 := by
  have h1 : (wdV l k).toNat = numN ((l.drop (4 * k)).take 4) := by
    unfold wdV
    rw [BitVec.toNat_ofNat]
    exact Nat.mod_eq_of_lt (wd_lt l k hx)
  rw [h1]
  obtain ⟨a, b, c, d, e⟩ := list4 ((l.drop (4 * k)).take 4) (by rw [List.length_take, List.length_drop]; omega)
  have hb : ∀ y ∈ (l.drop (4 * k)).take 4, y < 256 := fun y hy => hx y (List.mem_of_mem_drop (List.mem_of_mem_take hy))
  rw [e] at hb ⊢
  exact by4_num a b c d (hb a (by simp)) (hb b (by simp)) (hb c (by simp)) (hb d (by simp))
theorem fm_mp (l : List Nat) (hx : ∀ b ∈ l, b < 256) : ∀ (c k : Nat), k + c ≤ l.length / 4 → ((mpL l k c).flatMap fun x => by4 x.toNat) = (l.drop (4 * k)).take (4 * c)
  | 0, k, h => by simp [mpL]
  | c + 1, k, h => by
    rw [mpL_succ, List.flatMap_append, fm_mp l hx c k (by omega)]
    show _ ++ (by4 (wdV l (k + c)).toNat ++ []) = _
    rw [List.append_nil, by4_wd l (k + c) hx (by omega), Nat.mul_succ, List.take_add, List.drop_drop, Nat.mul_add]
theorem mpL_cons (l : List Nat) (k c : Nat) : wdV l k :: mpL l (k + 1) c = mpL l k (c + 1) := by
  unfold mpL
  rw [List.range_succ_eq_map]
  simp only [List.map_cons, List.map_map, Nat.add_zero, List.cons.injEq, true_and]
  apply List.map_congr_left
  intro j _
  simp only [Function.comp]
  congr 1
  omega
theorem dcE_stand {l : List Nat} {a : Int} (h : dcE l a = 0) : 0 ≤ a ∧ a.toNat < l.length / 4 ∧ (rdP l a.toNat).2 = 0 := by
  unfold dcE at h
  by_cases c : stB l.length a 1 = true
  · rw [if_pos c] at h
    unfold stB at c
    simp at c
    exact ⟨c.1, by omega, h⟩
  · rw [if_neg c] at h; omega
/-- What is read is laid. -/
theorem enc_dec (l : List Nat) (a : Int) (hx : ∀ b ∈ l, b < 256) (h : dcE l a = 0) :
    chkE (dcI l a).op (dcI l a).n (dcI l a).m = 0 ∧ wdB (dcI l a).op.toNat (dcI l a).n.toNat (dcI l a).m = (l.drop (4 * a.toNat)).take (4 * (1 + (dcI l a).m.length)) ∧ a.toNat + 1 + (dcI l a).m.length ≤ l.length / 4 := by
  obtain ⟨ha, hk, hr⟩ := dcE_stand h
  have hI : dcI l a = ⟨insO l a.toNat, insN l a.toNat, (rdP l a.toNat).1⟩ := by unfold dcI; rw [if_pos h]
  rw [hI]
  simp only
  obtain ⟨k, hkd⟩ : ∃ k, k = a.toNat := ⟨_, rfl⟩
  rw [← hkd] at hk hr ⊢
  have hX0 := uI_lo (wdV l k)
  have hX1 := uI_up (wdV l k)
  obtain ⟨O, hO⟩ : ∃ O : Nat, (O : Int) = insO l k := ⟨(insO l k).toNat, by unfold insO; omega⟩
  obtain ⟨N, hN⟩ : ∃ N : Nat, (N : Int) = insN l k := ⟨(insN l k).toNat, by unfold insN; omega⟩
  have hf : fstW O N = wdV l k := by
    apply uI_inj
    have e : ((O * 16777216 + N : Nat) : Int) = uI (wdV l k) := by
      have h1 : (O : Int) = uI (wdV l k) / 16777216 := hO
      have h2 : (N : Int) = uI (wdV l k) % 16777216 := hN
      omega
    rw [← e]
    exact uI_of _ (by omega)
  have key : ∀ m, m = (rdP l k).1 → chkE (O : Int) (N : Int) m = 0 ∧ m = mpL l (k + 1) m.length ∧ k + 1 + m.length ≤ l.length / 4 := by
    intro m hm
    unfold rdP at hr hm
    rw [← hO, ← hN] at hr hm
    by_cases c1 : isOp (O : Int) = true
    · rw [if_pos c1] at hr hm
      by_cases c2 : (N : Int) ≤ kRm (O : Int)
      · rw [if_pos c2] at hr hm
        by_cases c3 : tkB (O : Int) (N : Int) = true
        · rw [if_pos c3] at hr hm
          have c3' := c3
          unfold tkB at c3'
          unfold chkE
          rw [if_pos c1, if_pos c3']
          by_cases c4 : (O : Int) = 2
          · rw [if_pos c4] at hr hm ⊢
            unfold rmP at hr hm
            rw [Int.toNat_natCast] at hr hm ⊢
            by_cases c5 : k + 1 + mwN N ≤ l.length / 4
            · rw [if_pos c5] at hr hm
              by_cases c6 : isMapB (mpL l (k + 1) (mwN N)) N = true
              · rw [if_pos c6] at hr hm
                simp only at hm
                have hml : m.length = mwN N := by rw [hm, mpL_len]
                refine ⟨by rw [hm, if_pos c6], by rw [hml]; exact hm, by omega⟩
              · rw [if_neg c6] at hr; simp at hr
            · rw [if_neg c5] at hr; simp at hr
          · rw [if_neg c4] at hr hm ⊢
            simp only at hm
            subst hm
            exact ⟨by rw [if_pos rfl], by simp [mpL], by simp; omega⟩
        · rw [if_neg c3] at hr; simp at hr
      · rw [if_neg c2] at hr; simp at hr
    · rw [if_neg c1] at hr; simp at hr
  obtain ⟨k1, k2, k3⟩ := key _ rfl
  rw [← hO, ← hN, Int.toNat_natCast, Int.toNat_natCast]
  refine ⟨k1, ?_, k3⟩
  unfold wdB
  obtain ⟨c, hc⟩ : ∃ c, c = (rdP l k).1.length := ⟨_, rfl⟩
  rw [← hc] at k2 k3 ⊢
  rw [k2, hf, mpL_cons, fm_mp l hx (c + 1) k (by omega), Nat.add_comm c 1]
/-- One byte short there is no map, or no word. -/
theorem dec_cut (o n : Int) (m : List (BitVec 32)) (h : chkE o n m = 0) : dcE ((wdB o.toNat n.toNat m).take (4 * (1 + m.length) - 1)) 0 = 30 := by
  obtain ⟨ho, hn, hm⟩ := chk_zero h
  obtain ⟨L, hL⟩ : ∃ L, L = (wdB o.toNat n.toNat m).take (4 * (1 + m.length) - 1) := ⟨_, rfl⟩
  have hlen : L.length = 4 * (1 + m.length) - 1 := by rw [hL, List.length_take, wdB_len]; omega
  rw [← hL]
  by_cases hm0 : m = []
  · have : stB L.length 0 1 = false := by
      unfold stB
      rw [hm0] at hlen
      simp at hlen ⊢
      omega
    unfold dcE
    rw [if_neg (by rw [this]; decide)]
  · have hmp : 0 < m.length := List.length_pos_iff.2 hm0
    have hall : o = 2 ∧ isMapB m n.toNat = true ∧ tkB o n = true ∧ isOp o = true := by
      unfold chkE at h
      by_cases c1 : isOp o = true
      · rw [if_pos c1] at h
        by_cases c2 : (decide (kLo o ≤ n) && decide (n ≤ kHi o)) = true
        · rw [if_pos c2] at h
          by_cases c3 : o = 2
          · rw [if_pos c3] at h
            by_cases c4 : isMapB m n.toNat = true
            · exact ⟨c3, c4, c2, c1⟩
            · rw [if_neg c4] at h; omega
          · rw [if_neg c3, if_neg hm0] at h; omega
        · rw [if_neg c2] at h; omega
      · rw [if_neg c1] at h; omega
    have hop := hall.1
    have hmap := hall.2
    obtain ⟨O, rfl⟩ : ∃ O : Nat, o = (O : Int) := ⟨o.toNat, by omega⟩
    obtain ⟨N, rfl⟩ : ∃ N : Nat, n = (N : Int) := ⟨n.toNat, by omega⟩
    rw [Int.toNat_natCast, Int.toNat_natCast] at hL
    rw [Int.toNat_natCast] at hmap
    have h0 : wdV L 0 = fstW O N := by
      have e : L = by4 (fstW O N).toNat ++ ((m.flatMap fun x => by4 x.toNat).take (4 * m.length - 1)) := by
        rw [hL]
        unfold wdB
        rw [List.flatMap_cons, List.take_append]
        congr 1
        · exact List.take_of_length_le (by show 4 ≤ _; omega)
        · congr 1; show _ - 4 = _; omega
      rw [e]
      exact wdV_zero _ _
    have hu : uI (wdV L 0) = ((O * 16777216 + N : Nat) : Int) := by rw [h0]; exact fst_uI O N (by omega) (by omega)
    have hO : insO L 0 = (O : Int) := by unfold insO; rw [hu]; omega
    have hN : insN L 0 = (N : Int) := by unfold insN; rw [hu]; omega
    have hs : stB L.length 0 1 = true := by unfold stB; simp; omega
    have hml : m.length = mwN N := by
      have := hmap.1
      unfold isMapB at this
      simp only [Bool.and_eq_true, decide_eq_true_eq] at this
      exact this.1
    have hrm : (N : Int) ≤ kRm (O : Int) := by
      have := hmap.2.1
      unfold tkB at this
      simp only [Bool.and_eq_true, decide_eq_true_eq] at this
      exact Int.le_trans this.2 (kHi_Rm _)
    unfold dcE
    rw [if_pos hs]
    show (rdP L 0).2 = 30
    unfold rdP
    rw [hO, hN, if_pos hmap.2.2, if_pos hrm, if_pos hmap.2.1, if_pos hop, Int.toNat_natCast]
    unfold rmP
    rw [if_neg (by omega)]
end Go.Proofs.Ytnaihocdemcejaa
