/-
  Part 26 of the proof: 2 texts, one behind the other.
-/
import Derived.Test.YtjgpbahglkaijaaPart25
import Derived.Test.YtjgpbahglkaijaaPart17
namespace Go.Proofs.Ytjgpbahglkaijaa
open Go.RowKit Go.Shelf
set_option linter.unusedSimpArgs false
set_option linter.unusedVariables false
attribute [local go_sem] Oper.semAt_some

theorem own_row18 (w : World) (base e size n : Nat) (xs : List Value) (hb : base ≤ w.heap.size) (hs : xs.length = n * size) (hm : n ≤ maxLen) : (w.alloc (.cells xs.toArray e)).ownsRow base e size (.slice (some ⟨w.heap.size, 0, none⟩) n n) n xs :=
  ⟨hs, .inr ⟨w.heap.size, n, xs.toArray, rfl, hb, World.alloc_heap_new w _, Nat.le_refl _, hm, by simpa using hs, by rw [← hs]; simp⟩⟩
def oneN (an : Int) : List Nde := [⟨0, [⟨0#128, false, an⟩]⟩]
set_option maxRecDepth 20000 in
set_option maxHeartbeats 16000000 in
theorem nodes0_18 (w : World) (Q : Nat) (dp an : Int) (hq : w.heap[Q]? = some (.cells #[.slice none 0 0, .int .i64 dp, .int .i64 an] 86)) :
    Calls Try.prog 34 #[.pointer (some ⟨Q, 0, none⟩)] w fun e w' => ∃ v V, e = .returned v ∧ NdO w' w.heap.size v V (oneN an) ∧ Below w.heap.size w w' := by
  have c0 := at_16 hq 0 _ rfl
  have c2 := at_16 hq 2 _ rfl
  have q1 := bl1 w (.cells #[.int .u64 0, .int .u64 0, .bool false, .int .i64 an] 58)
  have q2 := bl1 (w.alloc (.cells #[.int .u64 0, .int .u64 0, .bool false, .int .i64 an] 58)) (.cells #[.int .i64 0, .slice (some ⟨w.heap.size, 0, none⟩) 1 1] 61)
  have o1 := own_row18 w w.heap.size 58 4 1 [.int .u64 0, .int .u64 0, .bool false, .int .i64 an] (Nat.le_refl _) rfl (by decide)
  have o2 := own_row18 (w.alloc (.cells #[.int .u64 0, .int .u64 0, .bool false, .int .i64 an] 58)) w.heap.size 61 2 1 [.int .i64 0, .slice (some ⟨w.heap.size, 0, none⟩) 1 1] (by simp) rfl (by decide)
  have e1 : rowN [⟨0#128, false, an⟩] = [.int .u64 0, .int .u64 0, .bool false, .int .i64 an] := by
    unfold rowN
    rw [List.flatMap_cons, hI_zero, lI_zero]; rfl
  have s1 : (w.alloc (.cells #[.int .u64 0, .int .u64 0, .bool false, .int .i64 an] 58)).heap.size = w.heap.size + 1 := World.size_alloc ..
  have HF : Hid (NdO ((w.alloc (.cells #[.int .u64 0, .int .u64 0, .bool false, .int .i64 an] 58)).alloc (.cells #[.int .i64 0, .slice (some ⟨w.heap.size, 0, none⟩) 1 1] 61)) w.heap.size (.slice (some ⟨w.heap.size + 1, 0, none⟩) 1 1) [.slice (some ⟨w.heap.size, 0, none⟩) 1 1] (oneN an) ∧ Below w.heap.size w ((w.alloc (.cells #[.int .u64 0, .int .u64 0, .bool false, .int .i64 an] 58)).alloc (.cells #[.int .i64 0, .slice (some ⟨w.heap.size, 0, none⟩) 1 1] 61))) := hid13 (by
    refine ⟨⟨?_, rfl, fun j d u h1 h2 => ?_, fun j k x y z h1 h2 _ _ => ?_⟩, keepb q2 q1⟩
    · rw [← s1]; exact o2
    · match j, h1, h2 with
      | 0, h1, h2 =>
        unfold oneN at h1
        simp at h1 h2
        subst h1 h2
        dsimp only
        rw [e1]
        exact own_b13 q2 o1
      | j + 1, h1, h2 => simp at h2
    · match j, k, h1, h2 with
      | 0, 0, _, _ => rfl
      | 0, k + 1, _, h2 => simp at h2
      | j + 1, _, h1, _ => simp at h1)
  clear hq q1 q2 o1 o2 e1 s1
  go_enter Try.func34, Try.ntmps34
  go_wp2
  exact bodyPost_ret (v := .slice (some ⟨w.heap.size + 1, 0, none⟩) 1 1) (by simp [results, Try.results34, go_sem]) rfl ⟨_, _, rfl, HF.out.1, HF.out.2⟩
noncomputable def trL (l : List Nat) : List Nde := if dcE l 0 = 0 ∧ (dcI l 0).op = 4 then oneN (dcI l 0).n else ndsL (vfP l)
theorem vfP_ok {F : Int} {l : List Nat} (h : (vfR F l).2.2 = 0) (hn : ¬ (dcE l 0 = 0 ∧ (dcI l 0).op = 4)) : ((vfP l).length : Int) ≤ wds l ∧ ∀ b ∈ vfP l, b.es.length = sumW b.m b.m.length ∧ (b.m.length : Int) ≤ wds l ∧ (b.es.length : Int) ≤ wds l ∧ 1 ≤ b.t ∧ b.t ≤ 24 ∧ 1 ≤ b.es.length := by
  unfold vfR at h
  by_cases c1 : F ≠ 32 ∧ F ≠ 128
  · rw [if_pos c1] at h; exact absurd h (by simp)
  rw [if_neg c1] at h
  by_cases c2 : l.length = 0 ∨ l.length % 4 ≠ 0
  · rw [if_pos c2] at h; exact absurd h (by simp)
  rw [if_neg c2, if_neg hn] at h
  unfold vfB at h
  have hw : (0 : Int) < wds l := by unfold wds; omega
  by_cases c3 : (bsG l (l.length / 4) 0 []).2.2 ≠ 0
  · rw [if_pos c3] at h; exact absurd h c3
  have c4 : (bsG l (l.length / 4) 0 []).2.2 = 0 := by simpa using c3
  obtain ⟨h1, h2⟩ := bsG_ok l (l.length / 4) 0 [] (by omega) hw (by unfold wds; omega) ⟨by simp, fun b hb => (by simp at hb)⟩ (fun b hb => (by simp at hb)) c4
  have h3 := bsG_es l (l.length / 4) 0 [] (fun b hb => (by simp at hb)) c4
  unfold vfP
  refine ⟨by rw [List.length_map]; exact h1.len, fun b hb => ?_⟩
  obtain ⟨b', hb', rfl⟩ := List.mem_map.mp hb
  have a1 := h1.b b' hb'
  have a2 := h3 b' hb'
  unfold lkB
  dsimp only
  rw [List.length_map]
  exact ⟨a2.1, a1.2.2.1, a1.2.2.2.1, a1.2.2.2.2.1, a1.2.2.2.2.2, a2.2⟩
def TrQ (w : World) (F : Int) (lb : List Nat) (e : Ending) (w' : World) : Prop := ∃ v V, e = .returned (.tuple #[v, .int .i64 (vfR F lb).2.2]) ∧ ((vfR F lb).2.2 ≠ 0 → v = .slice none 0 0) ∧ ((vfR F lb).2.2 = 0 → NdO w' w.heap.size v V (trL lb)) ∧ Below w.heap.size w w'
theorem NdO.base {W : World} {b b' : Nat} {v : Value} {V : List Value} {L : List Nde} (h : NdO W b v V L) (hb : b' ≤ b) : NdO W b' v V L := ⟨own_base16 h.o hb, h.l, fun j d u h1 h2 => own_base16 (h.r j d u h1 h2) hb, h.d⟩
set_option maxRecDepth 20000 in
set_option maxHeartbeats 16000000 in
theorem tree18 (w : World) (F : Int) (co : Option Addr) (cc : Nat) (lb : List Nat) (hcode : RwX cB w (.slice co lb.length cc) lb) (hlb : lb.length ≤ 4194304) (hxb : ∀ b ∈ lb, b < 256) :
    Calls Try.prog 18 #[.int .i64 F, .slice co lb.length cc] w (TrQ w F lb) := by
  have KR := read18 w F co cc lb hcode hlb hxb
  have HW : Hid (wds lb ≤ 4194304) := by show _ ≤ _; unfold wds; omega
  obtain ⟨n, hn⟩ : ∃ n, n = lb.length := ⟨_, rfl⟩
  rw [← hn] at KR ⊢
  unfold ReQ at KR
  have HOk := hid13 (fun h hn => vfP_ok (F := F) (l := lb) h hn)
  have HNn : Hid (dcE lb 0 = 0 ∧ (dcI lb 0).op = 4 → (vfR F lb).2.2 = 0 → vfN F lb = (dcI lb 0).n) := hid13 (fun h h2 => by unfold vfN; rw [if_pos ⟨h.1, h.2, h2⟩])
  clear hcode hlb hxb hn
  go_enter Try.func18, Try.ntmps18
  go_wp2_with fail
  refine KR.mono ?_
  rintro e w1 ⟨vb, rfl, hb1, h1, h2⟩
  have HB1 := hid13 hb1
  have q1 := bl1 w1 (.cells #[vb, .int .i64 (vfR F lb).1, .int .i64 (vfN F lb)] 86)
  have n1 := new_16 w1 (.cells #[vb, .int .i64 (vfR F lb).1, .int .i64 (vfN F lb)] 86)
  have HQ : Hid (Below w.heap.size w (w1.alloc (.cells #[vb, .int .i64 (vfR F lb).1, .int .i64 (vfN F lb)] 86)) ∧ (w1.alloc (.cells #[vb, .int .i64 (vfR F lb).1, .int .i64 (vfN F lb)] 86)).heap[w1.heap.size]? = some (.cells #[vb, .int .i64 (vfR F lb).1, .int .i64 (vfN F lb)] 86)) := ⟨keepb q1 hb1, n1⟩
  by_cases hE : (vfR F lb).2.2 = 0
  · by_cases hR : dcE lb 0 = 0 ∧ (dcI lb 0).op = 4
    · have hvb := h1 (.inr hR)
      subst hvb
      have KN := nodes0_18 _ w1.heap.size (vfR F lb).1 (vfN F lb) HQ.out.2
      have HT : Hid (trL lb = oneN (vfN F lb)) := hid13 (by unfold trL; rw [if_pos hR, HNn.out hR hE])
      have HEq : Hid ((vfR F lb).2.2 = 0) := hE
      rw [hE]
      generalize (vfR F lb).1 = x1 at *
      generalize (vfR F lb).2.1 = x2 at *
      generalize vfN F lb = x3 at *
      clear h1 h2 hb1 q1 n1 KR hE hR
      go_wp2_with fail
      revert KN HQ
      generalize w1.alloc (.cells #[.slice none 0 0, .int .i64 x1, .int .i64 x3] 86) = W2
      intro HQ KN
      refine KN.mono ?_
      rintro e w3 ⟨v, V, rfl, hN, hb3⟩
      have HF : Hid (TrQ w F lb (.returned (.tuple #[v, .int .i64 0])) w3) := hid13 ⟨v, V, by rw [HEq.out], fun q => absurd HEq.out q, fun _ => by rw [HT.out]; exact hN.base HQ.out.1.size, keepb hb3 HQ.out.1⟩
      clear KN hN hb3
      go_wp2
      exact bodyPost_ret (v := .tuple #[v, .int .i64 0]) (by simp [results, Try.results18, go_sem]) rfl HF.out
    · obtain ⟨L, hL, hl0⟩ := h2 hE hR
      obtain ⟨ok1, ok2⟩ := HOk.out hE hR
      have KN := nodes18 (w1.alloc (.cells #[vb, .int .i64 (vfR F lb).1, .int .i64 (vfN F lb)] 86)) w1.heap.size w.heap.size vb (vfR F lb).1 (vfN F lb) L (vfP lb) HQ.out.2 (hL.below q1) hl0 (by have := HW.out; omega) (fun b hb => by have h9 := ok2 b hb; have := HW.out; exact ⟨h9.1, by omega, by omega⟩)
      have HT : Hid (trL lb = ndsL (vfP lb)) := hid13 (by unfold trL; rw [if_neg hR])
      have HEq : Hid ((vfR F lb).2.2 = 0) := hE
      rw [hE]
      generalize (vfR F lb).1 = x1 at *
      generalize (vfR F lb).2.1 = x2 at *
      generalize vfN F lb = x3 at *
      obtain ⟨ao, ac, hvb⟩ := own_form hL.o
      generalize L.length = ll at *
      subst hvb
      clear h1 h2 hb1 q1 n1 KR hE hR hL hl0 ok1 ok2
      go_wp2_with fail
      revert KN HQ
      generalize w1.alloc (.cells #[.slice ao ll ac, .int .i64 x1, .int .i64 x3] 86) = W2
      intro HQ KN
      refine KN.mono ?_
      rintro e w3 ⟨v, V, rfl, hN, hb3⟩
      have HF : Hid (TrQ w F lb (.returned (.tuple #[v, .int .i64 0])) w3) := hid13 ⟨v, V, by rw [HEq.out], fun q => absurd HEq.out q, fun _ => by rw [HT.out]; exact hN.base HQ.out.1.size, keepb hb3 HQ.out.1⟩
      clear KN hN hb3
      go_wp2
      exact bodyPost_ret (v := .tuple #[v, .int .i64 0]) (by simp [results, Try.results18, go_sem]) rfl HF.out
  · have hvb := h1 (.inl hE)
    subst hvb
    have HF : Hid (∀ X, Below w.heap.size w X → TrQ w F lb (.returned (.tuple #[.slice none 0 0, .int .i64 (vfR F lb).2.2])) X) := hid13 (fun X hX => ⟨_, [], rfl, fun _ => rfl, fun q => absurd q hE, hX⟩)
    have hne : ((vfR F lb).2.2 != 0) = true := by simpa using hE
    generalize (vfR F lb).1 = x1 at *
    generalize (vfR F lb).2.1 = x2 at *
    generalize (vfR F lb).2.2 = x4 at *
    generalize vfN F lb = x3 at *
    clear h1 h2 hb1 q1 n1 KR
    go_wp2
    exact bodyPost_ret (v := .tuple #[.slice none 0 0, .int .i64 x4]) (by simp [results, Try.results18, go_sem]) rfl (HF.out _ HQ.out.1)
end Go.Proofs.Ytjgpbahglkaijaa
namespace Go.Proofs.Ytjgpbahglkaijaa
open Go.RowKit
set_option linter.unusedSimpArgs false
set_option linter.unusedVariables false

theorem setL_at (m : List (BitVec 32)) (i : Nat) (hi : i < 32 * m.length) (h : plc m i = true) : ∀ (n p : Nat), p + n = i → (setL m p)[cnt m i - cnt m p]? = some (i : Int)
  | 0, p, hp => by
    have : p = i := by omega
    subst this
    rw [setL_step hi, if_pos h, Nat.sub_self]; rfl
  | n + 1, p, hp => by
    have ih := setL_at m i hi h n (p + 1) (by omega)
    have e : cnt m (p + 1) = cnt m p + (plc m p).toNat := rfl
    have hm := cnt_mono m (p + 1) i (by omega)
    rw [setL_step (by omega)]
    cases hpp : plc m p
    · rw [hpp] at e
      simp at e
      rw [if_neg (by simp), ← e]
      exact ih
    · rw [hpp] at e
      simp at e
      rw [if_pos rfl]
      have : cnt m i - cnt m p = (cnt m i - cnt m (p + 1)) + 1 := by omega
      rw [this, List.getElem?_cons_succ]
      exact ih
theorem cnt_in (m : List (BitVec 32)) (i : Nat) (hi : i < 32 * m.length) (h : plc m i = true) : cnt m i < sumW m m.length := by
  have h1 := cnt_mono m (i + 1) (32 * m.length) (by omega)
  rw [cnt_words] at h1
  have e : cnt m (i + 1) = cnt m i + (plc m i).toNat := rfl
  rw [h] at e
  simp at e
  omega
theorem runsV_at (m : List (BitVec 32)) (es : List (Bool × Int)) (i : Nat) (e : Bool × Int) (hi : i < 32 * m.length) (h : plc m i = true) (he : es[cnt m i]? = some e) : (runsV m es).take (cnt m i + 1) = (runsV m es).take (cnt m i) ++ [⟨mkW 0 (i : Int), e.1, e.2⟩] := by
  have h1 := setL_at m i hi h i 0 (by omega)
  have h0 : cnt m 0 = 0 := rfl
  rw [h0, Nat.sub_zero] at h1
  have h2 : (runsV m es)[cnt m i]? = some ⟨mkW 0 (i : Int), e.1, e.2⟩ := by
    unfold runsV
    rw [List.getElem?_zipWith, h1, he]
  rw [List.take_add_one, h2]; rfl
theorem cnt_skip (m : List (BitVec 32)) (p : Nat) : ∀ n, (∀ j, p ≤ j → j < p + n → plc m j = false) → cnt m (p + n) = cnt m p
  | 0, _ => rfl
  | n + 1, h => by
    have ih := cnt_skip m p n (fun j a b => h j a (by omega))
    show cnt m (p + n) + (plc m (p + n)).toNat = _
    rw [ih, h (p + n) (by omega) (by omega)]; rfl
theorem cnt_map (m : List (BitVec 32)) (n : Nat) (h : isMapB m n = true) : cnt m (2 ^ n) = sumW m m.length ∧ 2 ^ n ≤ 32 * m.length := by
  unfold isMapB at h
  simp only [Bool.and_eq_true, decide_eq_true_eq] at h
  obtain ⟨h1, h2⟩ := h
  unfold mwN at h1
  by_cases c : n < 5
  · rw [if_pos c] at h1
    obtain ⟨x, rfl⟩ : ∃ x, m = [x] := List.length_eq_one_iff.mp h1
    have hp : 2 ^ n ≤ 2 ^ 4 := Nat.pow_le_pow_right (by decide) (by omega)
    refine ⟨?_, by simp; omega⟩
    rw [← cnt_words]
    have := cnt_skip [x] (2 ^ n) (32 - 2 ^ n) (fun j a b => by
      unfold plc
      rw [show j / 32 = 0 by omega, show j % 32 = j by omega]
      unfold topB at h2
      simp only [Bool.and_eq_true, beq_iff_eq] at h2
      have h3 : (x <<< 2 ^ n).getLsbD (31 - j + 2 ^ n) = false := by
        have h4 : (x <<< 2 ^ n) = 0#32 := h2.2
        rw [h4]; simp
      rw [BitVec.getLsbD_shiftLeft] at h3
      unfold bt
      show x.getLsbD (31 - j) = false
      have e1 : decide (31 - j + 2 ^ n < 32) = true := decide_eq_true (by omega)
      have e2 : decide (31 - j + 2 ^ n < 2 ^ n) = false := decide_eq_false (by omega)
      rw [e1, e2] at h3
      simpa using h3)
    rw [show 2 ^ n + (32 - 2 ^ n) = 32 * [x].length by simp; omega] at this
    exact this.symm
  · rw [if_neg c] at h1
    have e : 32 * m.length = 2 ^ n := by
      rw [h1, show (32 : Nat) = 2 ^ 5 by decide, ← Nat.pow_add, show 5 + (n - 5) = n by omega]
    rw [← cnt_words, e]
    exact ⟨rfl, Nat.le_refl _⟩
theorem chk_isMap {n : Int} {m : List (BitVec 32)} (h : chkE 2 n m = 0) : isMapB m n.toNat = true := by
  unfold chkE at h
  split at h
  · split at h
    · rw [if_pos rfl] at h
      split at h
      · assumption
      · cases h
    · cases h
  · cases h
theorem bsG_map (l : List Nat) (hx : ∀ b ∈ l, b < 256) : ∀ (f : Nat) (a : Int) (P : List PB), (∀ b ∈ P, isMapB b.m b.t.toNat = true) → (bsG l f a P).2.2 = 0 → ∀ b ∈ (bsG l f a P).1, isMapB b.m b.t.toNat = true
  | 0, a, P, hP, h => by unfold bsG; intro b hb; cases hb
  | f + 1, a, P, hP, h => by
    by_cases c : (bkE l a).1 = 0
    · rw [bs_ok c] at h ⊢
      obtain ⟨c1, c2, c3, c4, c5, c6⟩ := bk_okd c
      have hP2 : ∀ b ∈ P ++ [(blkD l a).pb], isMapB b.m b.t.toNat = true := by
        intro b hb
        rcases List.mem_append.mp hb with q | q
        · exact hP b q
        · simp at q
          subst q
          show isMapB (dcI l (a + 1)).m (dcI l a).n.toNat = true
          have h1 := (enc_dec l (a + 1) hx c3).1
          rw [c4, c5] at h1
          exact chk_isMap h1
      by_cases d : a + 1 + dcZ l (a + 1) + ((sumW (dcI l (a + 1)).m (dcI l (a + 1)).m.length : Nat) : Int) < wds l
      · rw [if_pos d] at h ⊢
        exact bsG_map l hx f _ _ hP2 h
      · rw [if_neg d]
        exact hP2
    · rw [bs_err c] at h
      exact absurd h c
theorem vfP_map {F : Int} {l : List Nat} (hx : ∀ b ∈ l, b < 256) (h : (vfR F l).2.2 = 0) (hn : ¬ (dcE l 0 = 0 ∧ (dcI l 0).op = 4)) : ∀ b ∈ vfP l, isMapB b.m b.t.toNat = true := by
  unfold vfR at h
  by_cases c1 : F ≠ 32 ∧ F ≠ 128
  · rw [if_pos c1] at h; exact absurd h (by simp)
  rw [if_neg c1] at h
  by_cases c2 : l.length = 0 ∨ l.length % 4 ≠ 0
  · rw [if_pos c2] at h; exact absurd h (by simp)
  rw [if_neg c2, if_neg hn] at h
  unfold vfB at h
  by_cases c3 : (bsG l (l.length / 4) 0 []).2.2 ≠ 0
  · rw [if_pos c3] at h; exact absurd h c3
  have c4 : (bsG l (l.length / 4) 0 []).2.2 = 0 := by simpa using c3
  have h3 := bsG_map l hx (l.length / 4) 0 [] (fun b hb => (by simp at hb)) c4
  unfold vfP
  intro b hb
  obtain ⟨b', hb', rfl⟩ := List.mem_map.mp hb
  exact h3 b' hb'
end Go.Proofs.Ytjgpbahglkaijaa
