/-
  Part 9 of the proof: 7 texts, one behind the other.
-/
import Derived.Test.YtologchdnjnadaaDoorPart8
import Derived.Test.YtologchdnjnadaaDoorPart1
import Derived.Deep.RegionHeld3
import Derived.Test.YtologchdnjnadaaDoorShelf
import Derived.ScopeJumps
import Derived.Shelf.Strings.Prefix
import Derived.Shelf.Strings.Search1
/-
  What package code's Encode does.
-/
namespace Go.Proofs.YtologchdnjnadaaDoor
open Go.RowKit Go.Shelf
set_option linter.unusedSimpArgs false
set_option linter.unusedVariables false
attribute [local go_sem] Oper.semAt_some

/-- An instruction's bytes. -/
def wdB (o k : Nat) (m : List (BitVec 32)) : List Nat := (fstW o k :: m).flatMap fun x => by4 x.toNat
theorem fm_len : ∀ (m : List (BitVec 32)), (m.flatMap fun x => by4 x.toNat).length = 4 * m.length
  | [] => rfl
  | x :: m => by rw [List.flatMap_cons, List.length_append, fm_len m, List.length_cons]; show 4 + _ = _; omega
theorem wdB_len (o k : Nat) (m : List (BitVec 32)) : (wdB o k m).length = 4 * (1 + m.length) := by
  unfold wdB; rw [fm_len, List.length_cons]; omega
theorem chk_zero {o n : Int} {m : List (BitVec 32)} (h : chkE o n m = 0) : (1 ≤ o ∧ o ≤ 4) ∧ (0 ≤ n ∧ n ≤ 16777215) ∧ m.length ≤ 524288 := by
  unfold chkE at h
  by_cases h1 : isOp o = true
  · rw [if_pos h1] at h
    by_cases h2 : (decide (kLo o ≤ n) && decide (n ≤ kHi o)) = true
    · rw [if_pos h2] at h
      simp only [Bool.and_eq_true, decide_eq_true_eq] at h2
      have ho : 1 ≤ o ∧ o ≤ 4 := by unfold isOp at h1; simpa using h1
      have hn0 : 0 ≤ n := by have := h2.1; unfold kLo at this; split at this <;> omega
      have hn1 : n ≤ 16777215 := by have := h2.2; unfold kHi at this; split at this; omega; split at this <;> omega
      refine ⟨ho, ⟨hn0, hn1⟩, ?_⟩
      by_cases h3 : o = 2
      · rw [if_pos h3] at h
        have hk : n ≤ 24 := by have := h2.2; rw [h3] at this; exact this
        by_cases h4 : isMapB m n.toNat = true
        · unfold isMapB at h4
          simp only [Bool.and_eq_true, decide_eq_true_eq] at h4
          rw [h4.1]
          exact mwN_hi _ (by omega)
        · rw [if_neg h4] at h; omega
      · rw [if_neg h3] at h
        by_cases h4 : m = []
        · rw [h4]; simp
        · rw [if_neg h4] at h; omega
    · rw [if_neg h2] at h; omega
  · rw [if_neg h1] at h; omega
theorem AtI.grown {W W' : World} {B : Nat} {o n : Int} {v : Value} {row : Option Nat} (h : AtI W B o n v) (hg : W.grownBy W' row) (hne : some B ≠ row) : AtI W' B o n v := ⟨hg.cell h.1 hne, hg.cell h.2.1 hne, hg.cell h.2.2 hne⟩
def enL (l : List Nat) (o n : Int) (m : List (BitVec 32)) : List Nat := if chkE o n m = 0 then l ++ wdB o.toNat n.toNat m else []
set_option maxRecDepth 100000 in
set_option maxHeartbeats 16000000 in
theorem encode_any (v : Value) (l : List Nat) (o n : Int) (vm : Value) (m : List (BitVec 32)) (w : World) (hA : RowA w 1 v l.length (l.map cB)) (hm : RwX cU w vm m) (hl : l.length ≤ 140737480000000) (hml : m.length ≤ 140737488355328) :
    Calls Tryd.prog 36 #[v, .agg #[.int .i64 o, .int .i64 n, vm]] w fun e w' => ∃ v', e = .returned (.tuple #[v', .int .i64 (chkE o n m)]) ∧ w'.ownsRow w.heap.size 5 1 v' (enL l o n m).length ((enL l o n m).map cB) ∧ Below w.heap.size w w' := by
  obtain ⟨i0, hi, hz0, hz1, hz2⟩ := info13 Tryd.infoB13
  obtain ⟨-, bo, bc, hvf, -⟩ := id hA
  obtain ⟨ao, c, hvm, -⟩ := id hm
  have q1 := bl1 w (.cells #[.int .i64 o, .int .i64 n, vm] 45)
  have a1 := ati_new w o n vm 45
  have K1 := check_any o n vm m _ (hm.below q1)
  have HB1 := hid13 q1
  have HA1 := hid13 a1
  have HR := hid13 hA
  have HM := hid13 hm
  subst hvf hvm
  clear q1 a1 hA hm
  refine (callsIn_wide (n := 9)).1 ?_
  refine callsIn_of_wp_marks Tryd.func36 rfl trivial ?_ rfl
  simp only [Tryd.ntmps36, List.size_toArray, List.length_cons, List.length_nil, Nat.reduceAdd, Nat.reduceSub, Array.replicate_succ, Array.replicate_zero, List.push_toArray, List.append_toArray, List.nil_append, List.cons_append]
  refine wpIn_wide.2 ?_
  go_wp2_with fail
  refine K1.mono ?_
  rintro e w2 ⟨rfl, hb2⟩
  have HB2 := hid13 (keepb hb2 HB1.out)
  have HA2 := hid13 (HA1.out.below hb2)
  clear HA1 HB1 K1 hb2
  by_cases h0 : chkE o n m = 0
  · have HE : Hid (enL l o n m = l ++ wdB o.toNat n.toNat m ∧ chkE o n m = 0) := ⟨by unfold enL; rw [if_pos h0], h0⟩
    have HF := hid13 (chk_zero h0)
    have K2 := size_any o n (.slice ao m.length c) m w2 (HM.out.below HB2.out) hml
    have e2 : szI o n m = 1 + (m.length : Int) := by unfold szI; rw [if_pos h0]
    rw [e2] at K2
    rw [h0]
    obtain ⟨b0, b1, b2⟩ := HA2.out
    have hl0 : (l.length : Int) ≤ 140737480000000 := by omega
    have hm0 : (m.length : Int) ≤ 524288 := by have := HF.out.2.2; omega
    have w1' : IntKind.i64.wrap ((1 + (m.length : Int)) * 4) = (1 + (m.length : Int)) * 4 := by rw [IntKind.wrap_i64]; omega
    have w2' : IntKind.i64.wrap ((l.length : Int) + (1 + (m.length : Int)) * 4) = (l.length : Int) + (1 + (m.length : Int)) * 4 := by rw [IntKind.wrap_i64]; omega
    clear h0 e2 hml
    go_wp2_with fail
    refine K2.mono ?_
    rintro e w3 ⟨rfl, hb3⟩
    have HB3 := hid13 (keepb hb3 HB2.out)
    have HA3 := hid13 (HA2.out.below hb3)
    clear b0 b1 b2 K2 hb3 HA2 HB2
    go_wp2_with (at_make; apply stopHere9)
    refine (show wpList _ _ _ _ _ _ from ?_)
    refine wpList_make_mid _ rfl _ _ 22 rfl w.heap.size 5 i0 (.int .u8 0) Tryd.underlying22 hi hz0 hz1 rfl .i64 .i64 _ _ l.length (l.length + (1 + m.length) * 4) rfl rfl rfl (by push_cast; rfl) (by omega) (by rw [hz2]; omega) (by unfold maxLen; omega) HB3.out.size ?_
    intro w4 hown4 hgrow4
    obtain ⟨G, hG⟩ : ∃ G, G = w3.heap.size := ⟨_, rfl⟩
    rw [← hG] at hown4 ⊢
    have HB4 : Hid (Below w.heap.size w w4) := HB3.out.grown hgrow4 HB3.out.size (fun z hz => by cases hz)
    have hA4 : AtI w4 w.heap.size o n (.slice ao m.length c) := by
      have h1 := HA3.out
      have hk : ∀ (j : Nat) u, w3.cell? ⟨w.heap.size, j, none⟩ = some u → w4.cell? ⟨w.heap.size, j, none⟩ = some u := fun j u h => hgrow4.cell h (by intro e; cases e)
      exact ⟨hk _ _ h1.1, hk _ _ h1.2.1, hk _ _ h1.2.2⟩
    have hGl := (hown4.lt G rfl).2
    have hwG : w.heap.size < G := by rw [hG]; exact cell_in HA3.out.1
    obtain ⟨C, hC⟩ : ∃ C, C = l.length + (1 + m.length) * 4 := ⟨_, rfl⟩
    rw [← hC] at hown4 ⊢
    have q5 := bl1 w4 (.cells #[.slice (some ⟨G, 0, none⟩) l.length C] 22)
    obtain ⟨B, hBd⟩ : ∃ B, B = w4.heap.size := ⟨_, rfl⟩
    obtain ⟨w5, hw5⟩ : ∃ w5, w5 = w4.alloc (.cells #[.slice (some ⟨G, 0, none⟩) l.length C] 22) := ⟨_, rfl⟩
    have hc5 : w5.cell? ⟨B, 0, none⟩ = some (.slice (some ⟨G, 0, none⟩) l.length C) := by rw [hw5, hBd]; simp [go_sem]
    have hf5 : w5.frozen? ⟨B, 0, none⟩ = false := by rw [hw5, hBd]; simp [go_sem]
    rw [← hw5] at q5
    have HO5 := hid13 (own_b13 q5 hown4)
    have HB5 := hid13 (keepb q5 HB4.out)
    have HA5 := hid13 (hA4.below q5)
    have HR5 := HR.out.below HB5.out
    have hcp : ∀ ad, bo = some ad → ∀ j u, (l.map cB)[j]? = some u → w5.cell? (ad.add j) = some u := by
      intro ad e j u hj
      obtain ⟨-, ao', c', e', -, h⟩ := HR5
      injection e' with e1 e2 e3
      subst e1
      rcases h with ⟨rfl, -, -⟩ | ⟨a, ha, h⟩
      · cases e
      · rw [ha] at e
        injection e with e
        subst e
        exact h j u hj
    have hcn : bo = none → l.map cB = [] := by
      intro e
      obtain ⟨-, ao', c', e', -, h⟩ := HR5
      injection e' with e1 e2 e3
      subst e1
      rcases h with ⟨-, -, h⟩ | ⟨a, ha, -⟩
      · rw [List.eq_nil_of_length_eq_zero h]; rfl
      · rw [ha] at e; cases e
    have HCP := hid13 hcp
    have HCN := hid13 hcn
    have HN5 : Hid (w.heap.size < G ∧ G < B ∧ B < w5.heap.size) := ⟨hwG, by rw [hBd]; exact hGl, cell_in hc5⟩
    have HC : Hid (C = l.length + (1 + m.length) * 4) := hC
    clear hcp hcn HR5 hown4 hgrow4 hA4 hGl hwG q5 HB4 HA3 HB3 hG hC w1' w2'
    go_wp2_with (first | (rw [← hw5]; rw [← hBd]; refine wpList_copy_any rfl (.tmp 23) (.tmp 24) 22 22 rfl 5 i0 1 Tryd.underlying22 hi hz1 w.heap.size G l.length C _ rfl HO5.out bo l.length bc rfl (Nat.le_refl _) (l.map cB) (by simp) HCN.out HCP.out (cB_one l) ?_; intro w6 ho6 hgrow6; have HP6 := hid13 (And.intro ho6 hgrow6); obtain ⟨b0, b1, b2⟩ := HA5.out.grown hgrow6 (by intro e; injection e with e; have := HN5.out; omega); clear ho6 hgrow6) | (go_at_call 52; refine (words_any o n _ _).mono ?_; rintro e w7 ⟨rfl, hw7⟩))
    obtain ⟨ho6, hgrow6⟩ := HP6.out
    rw [List.drop_eq_nil_of_le (by simp), List.append_nil] at ho6
    obtain ⟨O, rfl⟩ : ∃ O : Nat, o = (O : Int) := ⟨o.toNat, by have := HF.out; omega⟩
    obtain ⟨k, rfl⟩ : ∃ k : Nat, n = (k : Int) := ⟨n.toNat, by have := HF.out; omega⟩
    have hHE := HE.out
    rw [Int.toNat_natCast, Int.toNat_natCast] at hHE
    have HE2 := hid13 hHE
    clear hHE HE
    have q7 := bl1 w6 (.cells #[.int .i64 (O : Int), .int .i64 (k : Int), .slice ao m.length c] 45)
    have a7 := ati_new w6 (O : Int) (k : Int) (.slice ao m.length c) 45
    rw [← hw7] at q7 a7
    obtain ⟨A, hAd⟩ : ∃ A, A = w6.heap.size := ⟨_, rfl⟩
    obtain ⟨N, hNd⟩ : ∃ N, N = w7.heap.size := ⟨_, rfl⟩
    have hNA : A < N := by rw [hNd, hAd, hw7]; simp
    rw [← hw7]
    rw [← hAd] at a7 ⊢
    rw [← hBd]
    have hBne : B ≠ G := by have := HN5.out; omega
    have eB : w6.heap[B]? = w5.heap[B]? := hgrow6.block B HN5.out.2.2 (by intro e; injection e with e; exact hBne e)
    have hc6 : w6.cell? ⟨B, 0, none⟩ = some (.slice (some ⟨G, 0, none⟩) l.length C) := (World.cell?_of_block (a := ⟨B, 0, none⟩) eB).trans hc5
    have hf6 : w6.frozen? ⟨B, 0, none⟩ = false := (World.frozen?_of_block (a := ⟨B, 0, none⟩) eB).trans hf5
    have hB6 : Below w.heap.size w w6 := HB5.out.grown hgrow6 HB5.out.size (fun z hz => by injection hz with hz; have := HN5.out; omega)
    have hBA : B < A := by rw [hAd]; exact cell_in hc6
    have HEn : Hid (EnW w N G B w7 (.slice (some ⟨G, 0, none⟩) l.length C) (.slice (some ⟨G, 0, none⟩) l.length C) (l ++ ([] : List (BitVec 32)).flatMap fun x => by4 x.toNat)) := by
      refine ⟨keepb q7 hB6, keepc q7 hc6, keepf q7 hc6 hf6, ?_, ?_, by rw [hNd]; exact Nat.le_refl _⟩
      · show w7.ownsRow _ _ _ _ (l ++ []).length ((l ++ []).map cB)
        rw [List.append_nil]; exact own_b13 q7 ho6
      · intro z hz; injection hz with hz; exact .inl hz.symm
    have HWd : Hid (WdM (fun z => z < w.heap.size ∨ z = A) A (O : Int) (k : Int) ao c m w7) := by
      refine ⟨a7, .inr rfl, HM.out.below (keepb q7 hB6), ?_⟩
      intro hne ad e
      obtain ⟨ao', c', e', -, hr⟩ := HM.out
      injection e' with e1 e2 e3
      subst e1
      rcases hr with hr | ⟨b, off, e2, hr⟩
      · exact absurd hr hne
      · obtain ⟨x, t, hx⟩ := List.exists_cons_of_ne_nil hne
        have hc := hr 0 x (by rw [hx]; rfl)
        rw [e] at e2
        injection e2 with e2
        rw [e2]
        exact .inl (cell_in hc)
    have HNs : Hid (w.heap.size < G ∧ G < B ∧ B < A ∧ A < N) := ⟨HN5.out.1, HN5.out.2.1, hBA, hNA⟩
    have HOK : Hid (O ≤ 4 ∧ k < 16777216 ∧ m.length ≤ 1000000000) := by have := HF.out; exact ⟨by omega, by omega, by omega⟩
    clear ho6 hgrow6 HP6 HN5 q7 a7 hw7 hc6 hf6 hB6 eB hc5 hf5 HA5 HB5 HO5 hw5 hBd hBA hNA hBne HCP HCN b0 b1 b2 hAd
    refine (wpIn_wide (n := 9)).1 ?_
    refine rangeXA 9 (by decide) (gf := 65) (lb := #[.pointer (some ⟨A, 0, none⟩)]) rfl (enters_of Tryd.func65 (by kernel_rfl) rfl)
      (words1_any (9 - 1) (fun z => z < w.heap.size ∨ z = A) A O k ao c m HOK.out.1 HOK.out.2.1 HOK.out.2.2 0 w7 HWd.out) (Nat.zero_le _) (fun A => KZ.refl _ _) (fun h k => h.trans k) (fun V o o' h1 h2 => kz_put (by have := HNs.out; rw [hNd] at this; rintro (q | q) <;> omega) V o o' h1 h2) (Below.refl _ _) (fun _ => rfl)
      (fun pre V => ∃ vb, EnW w N G B V vb vb (l ++ pre.flatMap fun x => by4 x.toNat))
      (fun c pre V => False)
      (fun s X Y row hs hg hr => by obtain ⟨vb, h⟩ := hs; exact ⟨vb, h.kept hg (by have := HNs.out; omega) (fun r e => ⟨by rw [hNd]; exact (hr r e).1, (hr r e).2⟩)⟩)
      (fun c s X Y row hs hg hr => hs)
      ⟨_, HEn.out⟩
      ?AX ?assign ?body ?done ?stop
    case assign =>
      intro lo y V K hK
      unfold encU
      simp only [List.zip_toArray, List.zip_cons_cons, List.zip_nil_left, List.zip_nil_right, List.foldl_toArray, List.foldl_cons, List.foldl_nil, List.setIfInBounds_toArray, List.set_cons_zero, List.set_cons_succ, Array.zip]
      have HKK := hid13 hK
      clear hK
      gi_wp2
      exact HKK.out
    case body =>
      rintro lo pre x V hlo - ⟨vb, hE⟩ hsp
      have HEb := hid13 hE
      have HPr : Hid (pre.length < 1 + m.length) := by
        have := hsp.length_le
        simp at this
        show _ < _; omega
      clear hE hsp
      obtain ⟨R, hR⟩ : ∃ R, R = l ++ pre.flatMap fun x => by4 x.toNat := ⟨_, rfl⟩
      have HEr : Hid (EnW w N G B V vb vb R) := by show EnW _ _ _ _ _ _ _ _; rw [hR]; exact HEb.out
      have HRl : Hid (R.length + 4 ≤ 140737488355328 ∧ R.length ≤ 140737488000000) := by
        have h1 := HPr.out
        have h2 := HOK.out.2.2
        have e : R.length = l.length + 4 * pre.length := by rw [hR, List.length_append, fm_len]
        have h3 := HF.out.2.2
        constructor <;> omega
      have HRq : Hid (R ++ by4 x.toNat = l ++ (pre ++ [x]).flatMap fun x => by4 x.toNat) := by
        show _ = _
        rw [hR, List.flatMap_append, List.append_assoc]; simp
      have hnn := HNs.out
      have hBG : B ≠ G := by omega
      have hBN : B < N := by omega
      have hZ : ∀ z, (z < w.heap.size ∨ z = A) → z < w.heap.size ∨ (z ≠ G ∧ z < N) := by
        intro z hz
        rcases hz with q | q
        · exact .inl q
        · exact .inr ⟨by omega, by omega⟩
      have hZB : ¬ (B < w.heap.size ∨ B = A) := by rintro (q | q) <;> omega
      have KP := fun W => put32_any (.slice none 0 0) [] x.toNat W ⟨rfl, none, 0, rfl, Nat.le_refl _, .inl ⟨rfl, rfl, rfl⟩⟩ (by simp) x.isLt
      have hxu : ((x.toNat : Nat) : Int) = uI x := (uI_eq x).symm
      rw [hxu] at KP
      clear hR HEb hnn
      gi_wp2
      refine gh_regionR (γ := (Nat × Nat) × (Nat × Nat)) (qpOk 5 5 (by decide) (fun N => by kernel_rfl) (by kernel_rfl) (by kernel_rfl) (by kernel_rfl) (by kernel_rfl)) (by kernel_rfl) (by kernel_rfl) (by kernel_rfl) (by rintro ⟨_, _, h⟩; exact h) [some 29, some 30, some 31, some 32, none] (fun g => [vb, .int .u32 (uI x), .slice (some ⟨g.1.1, 0, none⟩) 4 g.1.2, .slice (some ⟨g.2.1, 0, none⟩) (R.length + 4) g.2.2, undef]) (by kernel_rfl) (by simp) (fun lp g X => RE (fun X => EnW w N G B X vb vb R ∧ KZ (fun z => z < w.heap.size ∨ z = A) V X ∧ KeepsFrom N V X) (fun g X => ∀ j u, ((by4 x.toNat).map cB)[j]? = some u → X.cell? ((⟨g, 0, none⟩ : Addr).add j) = some u) (fun g c X => EnW w N G B X vb (.slice (some ⟨g, 0, none⟩) (R.length + 4) c) (R ++ by4 x.toNat) ∧ KZ (fun z => z < w.heap.size ∨ z = A) V X ∧ KeepsFrom N V X) (fun g c X => EnW w N G B X (.slice (some ⟨g, 0, none⟩) (R.length + 4) c) (.slice (some ⟨g, 0, none⟩) (R.length + 4) c) (R ++ by4 x.toNat) ∧ KZ (fun z => z < w.heap.size ∨ z = A) V X ∧ KeepsFrom N V X) (lp.getD 0 false) (lp.getD 2 false) (lp.getD 3 false) (lp.getD 4 false) g X) ((0, 0), (0, 0)) ⟨fun _ => ⟨⟨HEr.out.below (below_drewN (Below.refl _ _) 1), kz_below (below_drewN (Below.refl _ _) 1), kf_below (below_drewN (Below.refl _ _) 1)⟩, fun h => (by simp at h)⟩, fun h => (by simp at h), fun h => (by simp at h), fun h => (by simp at h), fun h => (by simp at h)⟩ ?step0 ?fin0
      case step0 =>
        intro q o lp g w' a' ho hsz hun hdep hR hS K Q' hK
        have hfl : ∀ j, j ≠ q → (lp.setIfInBounds q true).getD j false = lp.getD j false := fun j hj => by rw [Array.getD_eq_getD_getElem?, Array.getD_eq_getD_getElem?, Array.getElem?_setIfInBounds_ne (by omega)]
        have hq : q < 5 := (List.getElem?_eq_some_iff.mp ho).1
        match q, ho, hun, hdep, hK, hfl, hq with
        | 0, ho, hun, hdep, hK, hfl, _ =>
          obtain rfl := Option.some.inj ho
          have hf : lp.getD 3 false = false := by
            cases h : lp.getD 3 false
            · rfl
            · have := (hR.d3 h).1; rw [hun] at this; cases this
          have o7 : a'.tmps[7]? = some (.pointer (some ⟨B, 0, none⟩)) := (hS.old14 7 (by simp)).trans rfl
          have hc := (hR.e hf).1.1.c
          have hK' := hK g w' (fun _ _ _ _ _ _ => rfl) (by rw [hfl 2 (by decide), hfl 3 (by decide), hfl 4 (by decide), getD_set_same (by rw [hsz]; decide)]; exact ⟨hR.e, hR.a, hR.s, fun h => ⟨rfl, (hR.d3 h).2⟩, hR.d4⟩) vb (by simp only [valO, Option.bind_some]; simp only [putAll, Act.put, List.setIfInBounds_toArray, List.set_cons_zero, List.set_cons_succ]; rfl)
          obtain ⟨xo, xc, hv⟩ := own_form (hR.e hf).1.1.o
          subst hv
          clear hS hdep hR
          refine gh_quiet14 (v := .slice xo R.length xc) ?_ ?_
          · (simp only [execOp, Act.eval, o7]; go_simp; first | done | (simp; done) | (simp [*]; done))
          · exact hK'
        | 1, ho, hun, hdep, hK, hfl, _ =>
          obtain rfl := Option.some.inj ho
          have o8 : a'.tmps[8]? = some (.int .u32 (uI x)) := (hS.old14 8 (by simp)).trans rfl
          have hK' := hK g w' (fun _ _ _ _ _ _ => rfl) (by rw [hfl 0 (by decide), hfl 2 (by decide), hfl 3 (by decide), hfl 4 (by decide)]; exact hR) (.int .u32 (uI x)) (by simp only [valO, Option.bind_some]; simp only [putAll, Act.put, List.setIfInBounds_toArray, List.set_cons_zero, List.set_cons_succ]; rfl)
          clear hS hdep hR
          refine gh_quiet14 (v := .int .u32 (uI x)) ?_ ?_
          · (simp only [execOp, Act.eval, o8]; go_simp; first | done | (simp; done) | (simp [*]; done))
          · exact hK'
        | 2, ho, hun, hdep, hK, hfl, _ =>
          obtain rfl := Option.some.inj ho
          have hf : lp.getD 3 false = false := by
            cases h : lp.getD 3 false
            · rfl
            · have := (hR.d3 h).2; rw [hun] at this; cases this
          have d1 : lp.getD 1 false = true := hdep { on := 1, ground := .data } (by simp) rfl
          have e30 : a'.tmps[30]? = some (.int .u32 (uI x)) := (hS.don 1 _ 30 rfl d1 rfl).trans (by simp only [putAll, Act.put, List.setIfInBounds_toArray, List.set_cons_zero, List.set_cons_succ]; rfl)
          have KE := KP w'
          have h4 : lp.getD 4 false = false := by
            cases h : lp.getD 4 false
            · rfl
            · have := hR.d4 h; rw [hf] at this; cases this
          clear hdep
          unfold Oper.wp
          simp only [execOp, Act.eval]
          simp [go_sem, e30, Oper.upon]
          refine KE.mono ?_
          rintro e W2 ⟨v2, rfl, hO2, hb2⟩
          have hO2' : W2.ownsRow w'.heap.size 5 1 v2 4 ((by4 x.toNat).map cB) := hO2
          obtain ⟨g2, c2, rfl, -, -⟩ := hO2'.form (by decide)
          obtain ⟨r1, r2, r3⟩ := (hR.e hf).1
          exact hK ((g2, c2), g.2) W2 (fun k ok s hk hl hd => gh_same14 (d := 31) (s := s) (by simp only [putAll, Act.put, List.setIfInBounds_toArray, List.set_cons_zero, List.set_cons_succ]; rfl) (by rintro rfl; have := dstG_of (by kernel_rfl) k 2 ok _ 31 hk rfl hd rfl; subst this; rw [hun] at hl; cases hl)) (by rw [hfl 0 (by decide), hfl 3 (by decide), hfl 4 (by decide), getD_set_same (by rw [hsz]; decide), hf, h4]; exact ⟨fun _ => ⟨⟨r1.below hb2, r2.trans (kz_below hb2), r3.trans (kf_below hb2)⟩, fun _ => hO2'.cells rfl⟩, fun h => (by cases h), fun h => (by cases h), fun h => (by cases h), fun h => (by cases h)⟩) _ (by simp only [valO, Option.bind_some]; simp only [putAll, Act.put, List.setIfInBounds_toArray, List.set_cons_zero, List.set_cons_succ]; rfl)
        | 3, ho, hun, hdep, hK, hfl, _ =>
          obtain rfl := Option.some.inj ho
          have d0 : lp.getD 0 false = true := hdep { on := 0, ground := .data } (by simp) rfl
          have e29 : a'.tmps[29]? = some vb := (hS.don 0 _ 29 rfl d0 rfl).trans (by simp only [putAll, Act.put, List.setIfInBounds_toArray, List.set_cons_zero, List.set_cons_succ]; rfl)
          have d2 : lp.getD 2 false = true := hdep { on := 2, ground := .data } (by simp) rfl
          have e31 : a'.tmps[31]? = some (.slice (some ⟨g.1.1, 0, none⟩) 4 g.1.2) := (hS.don 2 _ 31 rfl d2 rfl).trans (by simp only [putAll, Act.put, List.setIfInBounds_toArray, List.set_cons_zero, List.set_cons_succ]; rfl)
          obtain ⟨⟨r1, r2, r3⟩, hN⟩ := hR.e hun
          have hN := hN d2
          have h4 : lp.getD 4 false = false := by
            cases h : lp.getD 4 false
            · rfl
            · have := hR.d4 h; rw [hun] at this; cases this
          refine wp_append_lies w' (.tmp 29) (.tmp 31) 22 rfl w.heap.size 5 i0 (.int .u8 0) 1 1 Tryd.underlying22 hi hz0 hz1 hz2 rfl (by decide) vb R.length (R.map cB) (by simp [Act.eval, e29]) r1.o ⟨g.1.1, 0, none⟩ 4 g.1.2 ((by4 x.toNat).map cB) (by simp [Act.eval, e31]) rfl hN (cB_one _) (by decide) (by unfold maxLen; have := HRl.out; omega) (by have := HRl.out; omega) r1.b.size _ rfl ?_
          intro g4 cap4 w4 hown4 hgrow hat hlt4
          have hE4 : EnW w N G B w4 vb (.slice (some ⟨g4, 0, none⟩) (R.length + 4) cap4) (R ++ by4 x.toNat) := r1.app hBG hBN (by omega) (by rw [List.map_append, List.length_append]; exact hown4) hgrow (fun z hz => by injection hz with hz; subst hz; rcases hat with h | h; exact .inl h; exact .inr h)
          exact hK (g.1, (g4, cap4)) w4 (fun k ok s hk hl hd => gh_same14 (d := 32) (s := s) (by simp only [putAll, Act.put, List.setIfInBounds_toArray, List.set_cons_zero, List.set_cons_succ]; rfl) (by rintro rfl; have := dstG_of (by kernel_rfl) k 3 ok _ 32 hk rfl hd rfl; subst this; rw [hun] at hl; cases hl)) (by rw [hfl 0 (by decide), hfl 2 (by decide), hfl 4 (by decide), getD_set_same (by rw [hsz]; decide), h4]; exact ⟨fun h => (by cases h), fun _ _ => ⟨hE4, r2.trans (kz_app r1 hZ hgrow), r3.trans (kf_app r1 hgrow)⟩, fun h => (by cases h), fun _ => ⟨d0, d2⟩, fun h => (by cases h)⟩) _ (by simp only [valO, Option.bind_some]; simp only [putAll, Act.put, List.setIfInBounds_toArray, List.set_cons_zero, List.set_cons_succ]; rfl)
        | 4, ho, hun, hdep, hK, hfl, _ =>
          obtain rfl := Option.some.inj ho
          have d3 : lp.getD 3 false = true := hdep { on := 3, ground := .data } (by simp) rfl
          have e32 : a'.tmps[32]? = some (.slice (some ⟨g.2.1, 0, none⟩) (R.length + 4) g.2.2) := (hS.don 3 _ 32 rfl d3 rfl).trans (by simp only [putAll, Act.put, List.setIfInBounds_toArray, List.set_cons_zero, List.set_cons_succ]; rfl)
          have o7 : a'.tmps[7]? = some (.pointer (some ⟨B, 0, none⟩)) := (hS.old14 7 (by simp)).trans rfl
          obtain ⟨r1, r2, r3⟩ := hR.a d3 hun
          have z0 := r1.c
          have zf := r1.f
          have hK' := hK g (w'.setCell ⟨B, 0, none⟩ (.slice (some ⟨g.2.1, 0, none⟩) (R.length + 4) g.2.2)) (fun _ _ _ _ _ _ => rfl) (by rw [hfl 0 (by decide), hfl 2 (by decide), hfl 3 (by decide), getD_set_same (by rw [hsz]; decide), d3]; exact ⟨fun h => (by cases h), fun _ h => (by cases h), fun _ => ⟨r1.set hBG hBN (by omega), r2.trans (kz_set hZB _), r3.trans (kf_set z0 _)⟩, fun _ => hR.d3 d3, fun _ => rfl⟩) undef rfl
          clear hS hdep hR r1 r2 r3
          unfold Oper.wp
          simp [execOp, Act.eval, o7, e32, go_sem, z0, zf, Oper.upon]
          exact hK'
        | n + 5, ho, hun, hdep, hK, hfl, hq => exact absurd hq (by omega)
      case fin0 =>
        intro g V2 hR
        obtain ⟨r1, r2, r3⟩ := hR.s (by simp)
        rw [HRq.out] at r1
        simp only [putAll, Act.put, List.setIfInBounds_toArray, List.set_cons_zero, List.set_cons_succ]
        exact ⟨by rw [← hNd]; exact r3, r2, _, r1⟩
    case done =>
      rintro D ys V hD rfl ⟨vb, hE⟩ hK
      have HEd := hid13 hE
      obtain ⟨xo, xc, hv⟩ := own_form hE.o
      have c0 := hE.c
      obtain ⟨Y, hY⟩ : ∃ Y, Y = l ++ (fstW O k :: m).flatMap fun x => by4 x.toNat := ⟨_, rfl⟩
      rw [← hY] at hv HEd
      have HYe : Hid (enL l (O : Int) (k : Int) m = Y ∧ chkE (O : Int) (k : Int) m = 0) := ⟨by rw [HE2.out.1, hY]; rfl, HE2.out.2⟩
      subst hv
      clear hE hY
      refine wl_nil14 (P := Tryd.prog) (ops := #[]) ?_
      go_wp2
      refine ⟨by simp, .inl ⟨_, _, rfl, run_takeDeferred hK, ?_⟩⟩
      have HEe := HEd.out.kept (grownBy_putObj' _ D (.deferred none)) (by have := HNs.out; omega) (fun r e => by cases e; exact ⟨by rw [hNd]; exact hD, _, hK, rfl⟩)
      refine ⟨.tuple #[.slice xo Y.length xc, .int .i64 0], by simp [results, Tryd.results36, go_sem], _, by rw [HYe.out.2], ?_, HEe.b⟩
      rw [HYe.out.1]
      exact HEe.o
    case stop =>
      rintro D c pre V hD hpre h hK
      exact h.elim
  · have HE : Hid (enL l o n m = []) := by show _ = _; unfold enL; rw [if_neg h0]
    have hne : (chkE o n m != 0) = true := by simpa using h0
    clear h0
    go_wp2
    refine ⟨.tuple #[.slice none 0 0, .int .i64 (chkE o n m)], by simp [results, Tryd.results36, go_sem], _, rfl, ?_, HB2.out⟩
    rw [HE.out]
    exact World.ownsRow_nil _ _ _ _
end Go.Proofs.YtologchdnjnadaaDoor
/-
  What each call of the small functions of turnpikeref1 does that are like those of package word.
-/
namespace Go.Proofs.YtologchdnjnadaaDoor
open Go.RowKit
set_option linter.unusedSimpArgs false
set_option linter.unusedVariables false

end Go.Proofs.YtologchdnjnadaaDoor
/-
  What each call of turnpikeref1's Bit, Put, Mask, Add, Sub and Cmp does.
-/
namespace Go.Proofs.YtologchdnjnadaaDoor
open Go.RowKit
set_option linter.unusedSimpArgs false
set_option linter.unusedVariables false

/-- The variable at block B holds the word x, and may be written. -/
def At (w : World) (B : Nat) (x : BitVec 128) : Prop := w.cell? ⟨B, 0, none⟩ = some (.int .u64 (hI x)) ∧ w.cell? ⟨B, 1, none⟩ = some (.int .u64 (lI x)) ∧ w.frozen? ⟨B, 0, none⟩ = false ∧ w.frozen? ⟨B, 1, none⟩ = false ∧ B < w.heap.size
theorem At.below {w w' : World} {B : Nat} {x : BitVec 128} (h : At w B x) (hb : Below w.heap.size w w') : At w' B x := by
  obtain ⟨h0, h1, h2, h3, h4⟩ := h
  obtain ⟨hc, hf⟩ := bcell hb
  exact ⟨by rw [hc _ _ h4]; exact h0, by rw [hc _ _ h4]; exact h1, by rw [hf _ _ h4]; exact h2, by rw [hf _ _ h4]; exact h3, Nat.lt_of_lt_of_le h4 hb.size⟩
theorem At.set {w : World} {B : Nat} {x : BitVec 128} (y : BitVec 128) (h : At w B x) : At ((w.setCell ⟨B, 0, none⟩ (.int .u64 (hI y))).setCell ⟨B, 1, none⟩ (.int .u64 (lI y))) B y := by
  obtain ⟨h0, h1, h2, h3, h4⟩ := h
  refine ⟨?_, ?_, ?_, ?_, ?_⟩ <;> simp [go_sem, *]

theorem At.other {w : World} {B C : Nat} {x : BitVec 128} (u v : Value) (h : At w B x) (hn : B ≠ C) : At ((w.setCell ⟨C, 0, none⟩ u).setCell ⟨C, 1, none⟩ v) B x := by
  obtain ⟨h0, h1, h2, h3, h4⟩ := h
  have hn' : ¬ C = B := fun e => hn e.symm
  refine ⟨?_, ?_, ?_, ?_, ?_⟩ <;> simp [go_sem, *]
theorem maskW_end (n : Int) (k : Nat) (hk : k ≤ 128) (hkn : k = 0 ∨ (k : Int) ≤ n) (hc : ¬ ((k : Int) < n ∧ k < 128)) : maskW (k : Int) = maskW n := by
  by_cases h : n ≤ 0
  · have : k = 0 := by omega
    subst this
    rw [maskW_neg n h]; exact maskW_0
  · by_cases g : (k : Int) = n
    · rw [g]
    · have : k = 128 := by omega
      subst this
      rw [maskW_all n (by omega)]; rfl

end Go.Proofs.YtologchdnjnadaaDoor
/-
  What the calls of package word's digit and Parse do.
-/
namespace Go.Proofs.YtologchdnjnadaaDoor
open Go.RowKit
set_option linter.unusedSimpArgs false
set_option linter.unusedVariables false

/-- Is the byte a digit of sixteen, and which number is it? -/
def digB (c : Int) : Bool := (decide (48 ≤ c) && decide (c ≤ 57)) || (decide (97 ≤ c) && decide (c ≤ 102))
def digV (c : Int) : Int := if 48 ≤ c ∧ c ≤ 57 then c - 48 else if 97 ≤ c ∧ c ≤ 102 then c - 87 else 0
theorem dig_ways (c : Int) : (c < 48 ∧ digB c = false ∧ digV c = 0) ∨ (48 ≤ c ∧ c ≤ 57 ∧ digB c = true ∧ digV c = c - 48) ∨ (57 < c ∧ c < 97 ∧ digB c = false ∧ digV c = 0) ∨ (97 ≤ c ∧ c ≤ 102 ∧ digB c = true ∧ digV c = c - 97 + 10) ∨ (102 < c ∧ digB c = false ∧ digV c = 0) := by
  unfold digB digV
  by_cases h1 : c < 48
  · left
    have a1 : ¬ 48 ≤ c := by omega
    have a2 : ¬ 97 ≤ c := by omega
    simp [a1, a2, h1]
  by_cases h2 : c ≤ 57
  · right; left
    have a1 : 48 ≤ c := by omega
    simp [a1, h2]
  by_cases h3 : c < 97
  · right; right; left
    have a2 : ¬ 97 ≤ c := by omega
    simp [h2, a2, h3]; omega
  by_cases h4 : c ≤ 102
  · right; right; right; left
    have a2 : 97 ≤ c := by omega
    simp [h2, a2, h4]; omega
  · right; right; right; right
    simp [h2, h4]; omega
theorem digV_bd (c : Int) : 0 ≤ digV c ∧ digV c ≤ 15 := by
  unfold digV; split
  · omega
  · split <;> omega

/-- The byte at place k, as a number (0 where there is none). -/
def byteAt (s : ByteArray) (k : Nat) : Int := if h : k < s.size then (s[k].toNat : Int) else 0
theorem byteAt_in (s : ByteArray) (k : Nat) (h : k < s.size) : (s[k].toNat : Int) = byteAt s k := by unfold byteAt; rw [dif_pos h]
theorem byteAt_bd (s : ByteArray) (k : Nat) : 0 ≤ byteAt s k ∧ byteAt s k ≤ 255 := by
  unfold byteAt; split
  · rename_i h; have := s[k].toNat_lt; omega
  · omega
/-- The word of the first k digits. -/
def pW (s : ByteArray) : Nat → BitVec 128
  | 0 => 0#128
  | k + 1 => (pW s k <<< 4) ||| mkW 0 (digV (byteAt s k))
def pAll (s : ByteArray) : Nat → Bool
  | 0 => true
  | k + 1 => pAll s k && digB (byteAt s k)

theorem pAll_le (s : ByteArray) : ∀ k m, k ≤ m → pAll s m = true → pAll s k = true := by
  intro k m h
  induction m with
  | zero => intro q; have : k = 0 := by omega
            subst this; exact q
  | succ m ih =>
    intro q
    by_cases e : k = m + 1
    · subst e; exact q
    · simp only [pAll, Bool.and_eq_true] at q
      exact ih (by omega) q.1
/-- What Parse tells of 32 signs. -/
def pOut (s : ByteArray) : BitVec 128 := if pAll s 32 = true then pW s 32 else 0#128
def pErr (s : ByteArray) : Int := if pAll s 32 = true then 0 else 12

end Go.Proofs.YtologchdnjnadaaDoor
/-
  Plain: the bytes of a text.
-/
namespace Go.Proofs.YtologchdnjnadaaDoor
open Go.RowKit
set_option linter.unusedSimpArgs false
set_option linter.unusedVariables false

theorem byteAt_sub9 (s : ByteArray) (a b k : Nat) (hb : b ≤ s.size) : byteAt (s.extract a b) k = if a + k < b then byteAt s (a + k) else 0 := by
  unfold byteAt
  by_cases h : a + k < b
  · have h2 : k < (s.extract a b).size := by simp; omega
    rw [if_pos h, dif_pos (show a + k < s.size by omega), dif_pos h2]
    congr 2
    rw [ByteArray.getElem_extract]
  · have h2 : ¬ k < (s.extract a b).size := by simp; omega
    rw [if_neg h, dif_neg h2]
def bL9 (l : List UInt8) : ByteArray := ⟨l.toArray⟩
theorem bL9_size (l : List UInt8) : (bL9 l).size = l.length := rfl
theorem bL9_at (l : List UInt8) (k : Nat) : byteAt (bL9 l) k = ((l.getD k 0).toNat : Int) := by
  unfold byteAt
  by_cases h : k < l.length
  · rw [dif_pos (by rw [bL9_size]; exact h), List.getD_eq_getElem?_getD, List.getElem?_eq_getElem h]
    rfl
  · rw [dif_neg (by rw [bL9_size]; exact h), List.getD_eq_getElem?_getD, List.getElem?_eq_none (by omega)]
    rfl
theorem byteAt_lst9 (s : ByteArray) (k : Nat) : byteAt s k = ((s.data.toList.getD k 0).toNat : Int) := bL9_at s.data.toList k
theorem bL9_ext (l : List UInt8) (a b : Nat) : (bL9 l).extract a b = bL9 ((l.drop a).take (b - a)) := by
  apply ByteArray.ext
  rw [ByteArray.data_extract]
  simp [bL9, List.extract_eq_take_drop]
end Go.Proofs.YtologchdnjnadaaDoor
/-
  A reader of code's text: takes, here, ended.
-/
namespace Go.Proofs.YtologchdnjnadaaDoor
open Go.RowKit
set_option linter.unusedSimpArgs false
set_option linter.unusedVariables false

theorem at_b15 {W : World} {z : Nat} {cs : Array Value} {T : TypeId} (hz : W.heap[z]? = some (.cells cs T)) (j : Nat) (u : Value) (hj : cs[j]? = some u) : W.cell? ⟨z, j, none⟩ = some u := by
  simp [World.cell?, hz, hj]
theorem fr_b15 {W : World} {z j : Nat} {cs : Array Value} {T : TypeId} (h : W.heap[z]? = some (.cells cs T)) : W.frozen? ⟨z, j, none⟩ = false := by simp [World.frozen?, h]
theorem set_b15 {W : World} {P o : Nat} {cs : Array Value} {T : TypeId} (h : W.heap[P]? = some (.cells cs T)) (v : Value) : (W.setCell ⟨P, o, none⟩ v).heap[P]? = some (.cells (cs.setIfInBounds o v) T) := by
  simp [World.setCell, Array.getElem?_modify, h]
theorem lt_b15 {w : World} {z : Nat} {o : Obj} (hz : w.heap[z]? = some o) : z < w.heap.size := by
  apply Classical.byContradiction; intro q
  rw [Array.getElem?_eq_none (by omega)] at hz; cases hz
/-- All blocks but one stay. -/
structure Bs (R : Nat) (V W : World) : Prop where
  os : W.os = V.os
  tape : W.tape = V.tape
  output : W.output = V.output
  size : V.heap.size ≤ W.heap.size
  blk : ∀ z, z < V.heap.size → z ≠ R → W.heap[z]? = V.heap[z]?
theorem Bs.refl (R : Nat) (V : World) : Bs R V V := ⟨rfl, rfl, rfl, Nat.le_refl _, fun _ _ _ => rfl⟩
theorem Bs.trans {R : Nat} {V W X : World} (h : Bs R V W) (g : Bs R W X) : Bs R V X := ⟨by rw [g.os, h.os], by rw [g.tape, h.tape], by rw [g.output, h.output], Nat.le_trans h.size g.size, fun z h1 h2 => by rw [g.blk z (by have := h.size; omega) h2, h.blk z h1 h2]⟩
theorem Bs.ofB {R : Nat} {V W : World} (h : Below V.heap.size V W) : Bs R V W := ⟨h.os, h.tape, h.output, h.size, fun z hz _ => h.block z hz⟩
theorem Bs.set {R : Nat} {V W : World} (h : Bs R V W) (o : Nat) (u : Value) : Bs R V (W.setCell ⟨R, o, none⟩ u) :=
  ⟨h.os, h.tape, h.output, by simp [World.setCell]; exact h.size, fun z hz hn => by rw [Below.heap_setCell _ ⟨R, o, none⟩ _ _ (fun e => hn e)]; exact h.blk z hz hn⟩
theorem Bs.low {R n : Nat} {w V W : World} (h : Bs R V W) (hb : Below n w V) (hR : n ≤ R) (hn : n ≤ w.heap.size) : Below n w W := ⟨by rw [h.os, hb.os], by rw [h.tape, hb.tape], by rw [h.output, hb.output], Nat.le_trans hb.size h.size, fun z hz => by rw [h.blk z (by have := hb.size; omega) (by omega), hb.block z hz]⟩
/-- A reader in memory. -/
def RdA (W : World) (R : Nat) (s : ByteArray) (a : Int) : Prop := W.heap[R]? = some (.cells #[.string s, .int .i64 a] 54)
section
variable {W W' : World} {R : Nat} {s : ByteArray} {a : Int}
theorem RdA.c0 (h : RdA W R s a) : W.cell? ⟨R, 0, none⟩ = some (.string s) := at_b15 h 0 _ rfl
theorem RdA.c1 (h : RdA W R s a) : W.cell? ⟨R, 1, none⟩ = some (.int .i64 a) := at_b15 h 1 _ rfl
theorem RdA.free (h : RdA W R s a) (j : Nat) : W.frozen? ⟨R, j, none⟩ = false := fr_b15 h
theorem RdA.lt (h : RdA W R s a) : R < W.heap.size := lt_b15 h
theorem RdA.setA (h : RdA W R s a) (b : Int) : RdA (W.setCell ⟨R, 1, none⟩ (.int .i64 b)) R s b := by simpa [RdA] using set_b15 (o := 1) h (.int .i64 b)
theorem RdA.below (h : RdA W R s a) (hb : Below W.heap.size W W') : RdA W' R s a := (hb.block R h.lt).trans h
end
/-- The bytes from a place on. -/
def fr (s : ByteArray) (k : Nat) : List UInt8 := s.data.toList.drop k
theorem fr_ext (s : ByteArray) (k : Nat) : (s.extract k s.size).data.toList = fr s k := by
  unfold fr
  rw [ByteArray.data_extract, Array.toList_extract, List.extract_eq_take_drop]
  apply List.take_of_length_le
  simp
theorem fr_len (s : ByteArray) (k : Nat) : (fr s k).length = s.size - k := by unfold fr; simp
theorem fr_drop (s : ByteArray) (k j : Nat) : (fr s k).drop j = fr s (k + j) := by unfold fr; rw [List.drop_drop]
/-- The byte that is read next: the end is told as a line's end. -/
def hrB (s : ByteArray) (k : Nat) : Int := if k = s.size then 10 else byteAt s k
theorem fr_nil {s : ByteArray} {k : Nat} (h : k = s.size) : fr s k = [] := by
  apply List.eq_nil_of_length_eq_zero; rw [fr_len]; omega
theorem fr_cons {s : ByteArray} {k : Nat} (h : k < s.size) : ∃ c : UInt8, fr s k = c :: fr s (k + 1) ∧ byteAt s k = (c.toNat : Int) := by
  have h2 : k < s.data.toList.length := h
  refine ⟨s.data.toList[k], ?_, ?_⟩
  · unfold fr; exact List.drop_eq_getElem_cons h2
  · rw [byteAt_lst9, List.getD_eq_getElem?_getD, List.getElem?_eq_getElem h2]; rfl
set_option maxHeartbeats 2000000 in
theorem rtakes_any (R : Nat) (s p : ByteArray) (k : Nat) (w : World) (h : RdA w R s k) (hk : k ≤ s.size) (hs : s.size ≤ 1000000000) (hp : p.size ≤ 100) :
    Calls Tryd.prog 46 #[.pointer (some ⟨R, 0, none⟩), .string p] w fun e w' => e = .returned (.bool (p.data.toList.isPrefixOf (fr s k))) ∧ RdA w' R s ((if p.data.toList.isPrefixOf (fr s k) = true then k + p.size else k : Nat) : Int) ∧ Bs R w w' := by
  have r0 := h.c0
  have r1 := h.c1
  have f1 := h.free 1
  have KH := fun w => Any.strings_HasPrefix Tryd.lays99 (s.extract k s.size) p w
  have hk1 : (k : Int) ≤ (s.size : Int) := by omega
  have mk : IntKind.i64.wrap ((k : Int) + (p.size : Int)) = (k : Int) + (p.size : Int) := by rw [IntKind.wrap_i64]; omega
  have e0 : Lib.hasPrefix (s.extract k s.size).data.toList p.data.toList = p.data.toList.isPrefixOf (fr s k) := by rw [fr_ext]; rfl
  rw [e0] at KH
  have HR := hid13 h
  clear h e0 hs hp
  generalize p.data.toList.isPrefixOf (fr s k) = t at *
  cases t with
  | true =>
    go_enter Tryd.func46, Tryd.ntmps46
    go_wp2
    go_quiet ((go_at_call 61; exact Calls.quiet_of_same (KH _)))
    have HB : Hid (RdA (w.drewN nq) R s k ∧ Bs R w (w.drewN nq)) := hid13 ⟨HR.out.below (below_drewN (Below.refl _ _) nq), Bs.ofB (below_drewN (Below.refl _ _) nq)⟩
    have s1 := HB.out.1.c1
    have g1 := HB.out.1.free 1
    clear KH r0 r1 f1
    generalize w.drewN nq = W at *
    go_wp2
    go_ret
    exact ⟨rfl, by have := HB.out.1.setA ((k : Int) + (p.size : Int)); simpa using this, HB.out.2.set _ _⟩
  | false =>
    go_enter Tryd.func46, Tryd.ntmps46
    go_wp2
    go_quiet ((go_at_call 61; exact Calls.quiet_of_same (KH _)))
    have HB : Hid (RdA (w.drewN nq) R s k ∧ Bs R w (w.drewN nq)) := hid13 ⟨HR.out.below (below_drewN (Below.refl _ _) nq), Bs.ofB (below_drewN (Below.refl _ _) nq)⟩
    clear KH r0 r1 f1
    generalize w.drewN nq = W at *
    go_wp2
    go_ret
    exact ⟨rfl, HB.out.1, HB.out.2⟩
set_option maxHeartbeats 2000000 in
theorem here_any (R : Nat) (s : ByteArray) (k : Nat) (w : World) (h : RdA w R s k) (hk : k ≤ s.size) (hs : s.size ≤ 1000000000) :
    Calls Tryd.prog 47 #[.pointer (some ⟨R, 0, none⟩)] w fun e w' => e = .returned (.int .u8 (hrB s k)) ∧ Below w.heap.size w w' := by
  have r0 := h.c0
  have r1 := h.c1
  by_cases he : k = s.size
  · have e1 : hrB s k = 10 := by unfold hrB; rw [if_pos he]
    rw [e1]
    subst he
    clear h e1
    go_enter Tryd.func47, Tryd.ntmps47
    go_wp2
    go_quiet (fail)
    have HB : Hid (Below w.heap.size w (w.drewN nq)) := below_drewN (Below.refl _ _) nq
    go_wp2
    go_ret
    exact ⟨rfl, HB.out⟩
  · have hlt : k < s.size := by omega
    have hk2 : (k : Int) < (s.size : Int) := by omega
    have hne : ((k : Int) == (s.size : Int)) = false := by rw [beq_eq_false_iff_ne]; omega
    have hb := byteAt_in s k hlt
    have e1 : hrB s k = byteAt s k := by unfold hrB; rw [if_neg he]
    rw [e1]
    have HR := hid13 h
    clear h e1 he hk
    go_enter Tryd.func47, Tryd.ntmps47
    go_wp2
    go_quiet (fail)
    have HB : Hid (RdA (w.drewN nq) R s k ∧ Below w.heap.size w (w.drewN nq)) := hid13 ⟨HR.out.below (below_drewN (Below.refl _ _) nq), below_drewN (Below.refl _ _) nq⟩
    have s0 := HB.out.1.c0
    have s1 := HB.out.1.c1
    clear r0 r1
    generalize w.drewN nq = W at *
    go_wp2
    go_quiet (fail)
    go_wp2
    go_ret
    exact ⟨rfl, below_drewN HB.out.2 _⟩
theorem ended_any (R : Nat) (s : ByteArray) (k : Nat) (w : World) (h : RdA w R s k) (hk : k ≤ s.size) (hs : s.size ≤ 1000000000) :
    Calls Tryd.prog 33 #[.pointer (some ⟨R, 0, none⟩)] w fun e w' => e = .returned (.bool (hrB s k == 10)) ∧ Below w.heap.size w w' := by
  have KH := here_any R s k w h hk hs
  clear h
  generalize hrB s k = c at *
  go_enter Tryd.func33, Tryd.ntmps33
  go_wp2_with fail
  refine KH.mono ?_
  rintro e w1 ⟨rfl, hb⟩
  have HB := hid13 hb
  clear hb KH
  go_wp2
  go_ret
  exact ⟨rfl, HB.out⟩
end Go.Proofs.YtologchdnjnadaaDoor
/-
  Plain: how a line of code's text is read.
-/
namespace Go.Proofs.YtologchdnjnadaaDoor
open Go.RowKit
set_option linter.unusedSimpArgs false
set_option linter.unusedVariables false

/-- The first words of lines. -/
def nmL : Nat → List UInt8
  | 0 => [119, 111, 114, 100]
  | 1 => [101, 120, 116, 114, 97, 99, 116]
  | 2 => [105, 110, 100, 101, 120]
  | 3 => [106, 117, 109, 112]
  | _ => [114, 101, 116, 117, 114, 110]
def nmS (j : Nat) : ByteArray := ⟨(nmL j).toArray⟩
def Nm (w : World) : Prop := ∀ j, j < 5 → w.cell? ⟨0, j, none⟩ = some (.string (nmS j))
theorem Nm.below {w w' : World} (h : Nm w) (hb : Below w.heap.size w w') : Nm w' := fun j hj => keepc hb (h j hj)
def nmF (L : List UInt8) : Nat → Nat → Option Nat
  | 0, _ => none
  | f + 1, j => if (nmL j).isPrefixOf L = true then some j else nmF L f (j + 1)
def nmP (L : List UInt8) : Option Nat := nmF L 5 0
def nmV (o : Option Nat) : Nat := o.getD 0
def nmC (o : Option Nat) : Nat := match o with | some j => (nmL j).length | none => 0
/-- A decimal digit. -/
def isD (c : UInt8) : Bool := decide (48 ≤ c.toNat) && decide (c.toNat ≤ 57)
/-- The digits from here on, at most so many: their number, and how many they are. -/
def dgP : Nat → Nat → List UInt8 → Nat × Nat
  | 0, n, _ => (n, 0)
  | _ + 1, n, [] => (n, 0)
  | f + 1, n, c :: L => if isD c = true then ((dgP f (10 * n + (c.toNat - 48)) L).1, (dgP f (10 * n + (c.toNat - 48)) L).2 + 1) else (n, 0)
def numB (Y : List UInt8) : Bool := (dgP 9 0 Y).2 == 1 || (decide (1 < (dgP 9 0 Y).2) && !(Y.head? == some 48))
/-- A digit of sixteen. -/
def hxV (c : UInt8) : Option Nat := if 48 ≤ c.toNat ∧ c.toNat ≤ 57 then some (c.toNat - 48) else if 97 ≤ c.toNat ∧ c.toNat ≤ 102 then some (c.toNat - 87) else none
def hxP : Nat → Nat → List UInt8 → Option Nat
  | 0, v, _ => some v
  | _ + 1, _, [] => none
  | f + 1, v, c :: L => match hxV c with | some d => hxP f (v * 16 + d) L | none => none
/-- Behind a blank. -/
def bkL (L : List UInt8) : Option (List UInt8) := match L with | c :: Y => if c = 32 then some Y else none | [] => none
def wdP (L : List UInt8) : Option Nat := (bkL L).bind (hxP 8 0)
def nuP (L : List UInt8) : Option (Nat × Nat) := (bkL L).bind fun Y => if numB Y = true then some ((dgP 9 0 Y).1, (dgP 9 0 Y).2 + 1) else none
def enP (L : List UInt8) : Bool := match L with | [] => true | c :: _ => c == 10
theorem bk_pre (L : List UInt8) : ([32] : List UInt8).isPrefixOf L = (bkL L).isSome := by
  cases L with
  | nil => rfl
  | cons c Y =>
    show ((32 == c) && List.isPrefixOf [] Y) = _
    unfold bkL
    by_cases h : c = 32
    · subst h; simp
    · show _ = (if c = 32 then some Y else none).isSome
      rw [if_neg h]; simp; exact fun q => h q.symm
theorem hr_en (s : ByteArray) (k : Nat) (hk : k ≤ s.size) : (hrB s k == 10) = enP (fr s k) := by
  unfold hrB
  by_cases h : k = s.size
  · rw [if_pos h, fr_nil h]; rfl
  · rw [if_neg h]
    obtain ⟨c, h1, h2⟩ := fr_cons (s := s) (k := k) (by omega)
    rw [h1, h2]
    show _ = (c == 10)
    by_cases q : c = 10
    · subst q; rfl
    · have : c.toNat ≠ 10 := fun e => q (UInt8.toNat_inj.1 e)
      rw [show (c == 10) = false by simpa using q, beq_eq_false_iff_ne]; omega
theorem dg_len : ∀ (f n : Nat) (L : List UInt8), (dgP f n L).2 ≤ f ∧ (dgP f n L).2 ≤ L.length
  | 0, _, _ => ⟨Nat.le_refl _, Nat.zero_le _⟩
  | _ + 1, _, [] => ⟨Nat.zero_le _, Nat.zero_le _⟩
  | f + 1, n, c :: L => by
    unfold dgP
    split
    · have := dg_len f (10 * n + (c.toNat - 48)) L
      simp only [List.length_cons]; omega
    · exact ⟨Nat.zero_le _, Nat.zero_le _⟩
theorem hx_lt {c : UInt8} {d : Nat} (h : hxV c = some d) : d < 16 := by
  unfold hxV at h
  split at h
  · injection h; omega
  · split at h
    · injection h; omega
    · cases h
def l16 : List UInt8 := [48, 49, 50, 51, 52, 53, 54, 55, 56, 57, 97, 98, 99, 100, 101, 102]
def hxI (c : UInt8) : Int := match hxV c with | some d => (d : Int) | none => -1
theorem ix16 (c : UInt8) : Lib.indexByte l16 c = hxI c := by
  have h : ∀ n : Fin 256, Lib.indexByte l16 (UInt8.ofNat n.val) = hxI (UInt8.ofNat n.val) := by decide +kernel
  have := h ⟨c.toNat, c.toNat_lt⟩
  simpa using this
end Go.Proofs.YtologchdnjnadaaDoor
