/-
  Part 21 of the proof: 5 texts, one behind the other.
-/
import Derived.Test.YtjgpbahglkaijaaPart20
import Derived.Test.YtjgpbahglkaijaaPart7
import Derived.Test.YtjgpbahglkaijaaPart19
namespace Go.Proofs.Ytjgpbahglkaijaa
open Go.RowKit Go.Shelf
set_option linter.unusedSimpArgs false
set_option linter.unusedVariables false
attribute [local go_sem] Oper.semAt_some

theorem own_row18 (w : World) (base e size n : Nat) (xs : List Value) (hb : base ≤ w.heap.size) (hs : xs.length = n * size) (hm : n ≤ maxLen) : (w.alloc (.cells xs.toArray e)).ownsRow base e size (.slice (some ⟨w.heap.size, 0, none⟩) n n) n xs :=
  ⟨hs, .inr ⟨w.heap.size, n, xs.toArray, rfl, hb, World.alloc_heap_new w _, Nat.le_refl _, hm, by simpa using hs, by rw [← hs]; simp⟩⟩
def oneN (an : Int) : List Nde := [⟨0, [⟨0#128, false, an⟩]⟩]
set_option maxRecDepth 20000 in
set_option maxHeartbeats 16000000 in
theorem nodes0_18 (w : World) (Q : Nat) (dp an : Int) (hq : w.heap[Q]? = some (.cells #[.slice none 0 0, .int .i64 dp, .int .i64 an] 86)) :
    Calls Try.prog 34 #[.pointer (some ⟨Q, 0, none⟩)] w fun e w' => ∃ v V, e = .returned v ∧ NdO w' w.heap.size v V (oneN an) ∧ Below w.heap.size w w' := by
  have c0 := at_16 hq 0 _ rfl
  have c2 := at_16 hq 2 _ rfl
  have q1 := bl1 w (.cells #[.int .u64 0, .int .u64 0, .bool false, .int .i64 an] 58)
  have q2 := bl1 (w.alloc (.cells #[.int .u64 0, .int .u64 0, .bool false, .int .i64 an] 58)) (.cells #[.int .i64 0, .slice (some ⟨w.heap.size, 0, none⟩) 1 1] 61)
  have o1 := own_row18 w w.heap.size 58 4 1 [.int .u64 0, .int .u64 0, .bool false, .int .i64 an] (Nat.le_refl _) rfl (by decide)
  have o2 := own_row18 (w.alloc (.cells #[.int .u64 0, .int .u64 0, .bool false, .int .i64 an] 58)) w.heap.size 61 2 1 [.int .i64 0, .slice (some ⟨w.heap.size, 0, none⟩) 1 1] (by simp) rfl (by decide)
  have e1 : rowN [⟨0#128, false, an⟩] = [.int .u64 0, .int .u64 0, .bool false, .int .i64 an] := by
    unfold rowN
    rw [List.flatMap_cons, hI_zero, lI_zero]; rfl
  have s1 : (w.alloc (.cells #[.int .u64 0, .int .u64 0, .bool false, .int .i64 an] 58)).heap.size = w.heap.size + 1 := World.size_alloc ..
  have HF : Hid (NdO ((w.alloc (.cells #[.int .u64 0, .int .u64 0, .bool false, .int .i64 an] 58)).alloc (.cells #[.int .i64 0, .slice (some ⟨w.heap.size, 0, none⟩) 1 1] 61)) w.heap.size (.slice (some ⟨w.heap.size + 1, 0, none⟩) 1 1) [.slice (some ⟨w.heap.size, 0, none⟩) 1 1] (oneN an) ∧ Below w.heap.size w ((w.alloc (.cells #[.int .u64 0, .int .u64 0, .bool false, .int .i64 an] 58)).alloc (.cells #[.int .i64 0, .slice (some ⟨w.heap.size, 0, none⟩) 1 1] 61))) := hid13 (by
    refine ⟨⟨?_, rfl, fun j d u h1 h2 => ?_, fun j k x y z h1 h2 _ _ => ?_⟩, keepb q2 q1⟩
    · rw [← s1]; exact o2
    · match j, h1, h2 with
      | 0, h1, h2 =>
        unfold oneN at h1
        simp at h1 h2
        subst h1 h2
        dsimp only
        rw [e1]
        exact own_b13 q2 o1
      | j + 1, h1, h2 => simp at h2
    · match j, k, h1, h2 with
      | 0, 0, _, _ => rfl
      | 0, k + 1, _, h2 => simp at h2
      | j + 1, _, h1, _ => simp at h1)
  clear hq q1 q2 o1 o2 e1 s1
  go_enter Try.func34, Try.ntmps34
  go_wp2
  exact bodyPost_ret (v := .slice (some ⟨w.heap.size + 1, 0, none⟩) 1 1) (by simp [results, Try.results34, go_sem]) rfl ⟨_, _, rfl, HF.out.1, HF.out.2⟩
noncomputable def trL (l : List Nat) : List Nde := if dcE l 0 = 0 ∧ (dcI l 0).op = 4 then oneN (dcI l 0).n else ndsL (vfP l)
theorem vfP_ok {F : Int} {l : List Nat} (h : (vfR F l).2.2 = 0) (hn : ¬ (dcE l 0 = 0 ∧ (dcI l 0).op = 4)) : ((vfP l).length : Int) ≤ wds l ∧ ∀ b ∈ vfP l, b.es.length = sumW b.m b.m.length ∧ (b.m.length : Int) ≤ wds l ∧ (b.es.length : Int) ≤ wds l ∧ 1 ≤ b.t ∧ b.t ≤ 24 ∧ 1 ≤ b.es.length := by
  unfold vfR at h
  by_cases c1 : F ≠ 32 ∧ F ≠ 128
  · rw [if_pos c1] at h; exact absurd h (by simp)
  rw [if_neg c1] at h
  by_cases c2 : l.length = 0 ∨ l.length % 4 ≠ 0
  · rw [if_pos c2] at h; exact absurd h (by simp)
  rw [if_neg c2, if_neg hn] at h
  unfold vfB at h
  have hw : (0 : Int) < wds l := by unfold wds; omega
  by_cases c3 : (bsG l (l.length / 4) 0 []).2.2 ≠ 0
  · rw [if_pos c3] at h; exact absurd h c3
  have c4 : (bsG l (l.length / 4) 0 []).2.2 = 0 := by simpa using c3
  obtain ⟨h1, h2⟩ := bsG_ok l (l.length / 4) 0 [] (by omega) hw (by unfold wds; omega) ⟨by simp, fun b hb => (by simp at hb)⟩ (fun b hb => (by simp at hb)) c4
  have h3 := bsG_es l (l.length / 4) 0 [] (fun b hb => (by simp at hb)) c4
  unfold vfP
  refine ⟨by rw [List.length_map]; exact h1.len, fun b hb => ?_⟩
  obtain ⟨b', hb', rfl⟩ := List.mem_map.mp hb
  have a1 := h1.b b' hb'
  have a2 := h3 b' hb'
  unfold lkB
  dsimp only
  rw [List.length_map]
  exact ⟨a2.1, a1.2.2.1, a1.2.2.2.1, a1.2.2.2.2.1, a1.2.2.2.2.2, a2.2⟩
def TrQ (w : World) (F : Int) (lb : List Nat) (e : Ending) (w' : World) : Prop := ∃ v V, e = .returned (.tuple #[v, .int .i64 (vfR F lb).2.2]) ∧ ((vfR F lb).2.2 ≠ 0 → v = .slice none 0 0) ∧ ((vfR F lb).2.2 = 0 → NdO w' w.heap.size v V (trL lb)) ∧ Below w.heap.size w w'
theorem NdO.base {W : World} {b b' : Nat} {v : Value} {V : List Value} {L : List Nde} (h : NdO W b v V L) (hb : b' ≤ b) : NdO W b' v V L := ⟨own_base16 h.o hb, h.l, fun j d u h1 h2 => own_base16 (h.r j d u h1 h2) hb, h.d⟩
set_option maxRecDepth 20000 in
set_option maxHeartbeats 16000000 in
theorem tree18 (w : World) (F : Int) (co : Option Addr) (cc : Nat) (lb : List Nat) (hcode : RwX cB w (.slice co lb.length cc) lb) (hlb : lb.length ≤ 4194304) (hxb : ∀ b ∈ lb, b < 256) :
    Calls Try.prog 18 #[.int .i64 F, .slice co lb.length cc] w (TrQ w F lb) := by
  have KR := read18 w F co cc lb hcode hlb hxb
  have HW : Hid (wds lb ≤ 4194304) := by show _ ≤ _; unfold wds; omega
  obtain ⟨n, hn⟩ : ∃ n, n = lb.length := ⟨_, rfl⟩
  rw [← hn] at KR ⊢
  unfold ReQ at KR
  have HOk := hid13 (fun h hn => vfP_ok (F := F) (l := lb) h hn)
  have HNn : Hid (dcE lb 0 = 0 ∧ (dcI lb 0).op = 4 → (vfR F lb).2.2 = 0 → vfN F lb = (dcI lb 0).n) := hid13 (fun h h2 => by unfold vfN; rw [if_pos ⟨h.1, h.2, h2⟩])
  clear hcode hlb hxb hn
  go_enter Try.func18, Try.ntmps18
  go_wp2_with fail
  refine KR.mono ?_
  rintro e w1 ⟨vb, rfl, hb1, h1, h2⟩
  have HB1 := hid13 hb1
  have q1 := bl1 w1 (.cells #[vb, .int .i64 (vfR F lb).1, .int .i64 (vfN F lb)] 86)
  have n1 := new_16 w1 (.cells #[vb, .int .i64 (vfR F lb).1, .int .i64 (vfN F lb)] 86)
  have HQ : Hid (Below w.heap.size w (w1.alloc (.cells #[vb, .int .i64 (vfR F lb).1, .int .i64 (vfN F lb)] 86)) ∧ (w1.alloc (.cells #[vb, .int .i64 (vfR F lb).1, .int .i64 (vfN F lb)] 86)).heap[w1.heap.size]? = some (.cells #[vb, .int .i64 (vfR F lb).1, .int .i64 (vfN F lb)] 86)) := ⟨keepb q1 hb1, n1⟩
  by_cases hE : (vfR F lb).2.2 = 0
  · by_cases hR : dcE lb 0 = 0 ∧ (dcI lb 0).op = 4
    · have hvb := h1 (.inr hR)
      subst hvb
      have KN := nodes0_18 _ w1.heap.size (vfR F lb).1 (vfN F lb) HQ.out.2
      have HT : Hid (trL lb = oneN (vfN F lb)) := hid13 (by unfold trL; rw [if_pos hR, HNn.out hR hE])
      have HEq : Hid ((vfR F lb).2.2 = 0) := hE
      rw [hE]
      generalize (vfR F lb).1 = x1 at *
      generalize (vfR F lb).2.1 = x2 at *
      generalize vfN F lb = x3 at *
      clear h1 h2 hb1 q1 n1 KR hE hR
      go_wp2_with fail
      revert KN HQ
      generalize w1.alloc (.cells #[.slice none 0 0, .int .i64 x1, .int .i64 x3] 86) = W2
      intro HQ KN
      refine KN.mono ?_
      rintro e w3 ⟨v, V, rfl, hN, hb3⟩
      have HF : Hid (TrQ w F lb (.returned (.tuple #[v, .int .i64 0])) w3) := hid13 ⟨v, V, by rw [HEq.out], fun q => absurd HEq.out q, fun _ => by rw [HT.out]; exact hN.base HQ.out.1.size, keepb hb3 HQ.out.1⟩
      clear KN hN hb3
      go_wp2
      exact bodyPost_ret (v := .tuple #[v, .int .i64 0]) (by simp [results, Try.results18, go_sem]) rfl HF.out
    · obtain ⟨L, hL, hl0⟩ := h2 hE hR
      obtain ⟨ok1, ok2⟩ := HOk.out hE hR
      have KN := nodes18 (w1.alloc (.cells #[vb, .int .i64 (vfR F lb).1, .int .i64 (vfN F lb)] 86)) w1.heap.size w.heap.size vb (vfR F lb).1 (vfN F lb) L (vfP lb) HQ.out.2 (hL.below q1) hl0 (by have := HW.out; omega) (fun b hb => by have h9 := ok2 b hb; have := HW.out; exact ⟨h9.1, by omega, by omega⟩)
      have HT : Hid (trL lb = ndsL (vfP lb)) := hid13 (by unfold trL; rw [if_neg hR])
      have HEq : Hid ((vfR F lb).2.2 = 0) := hE
      rw [hE]
      generalize (vfR F lb).1 = x1 at *
      generalize (vfR F lb).2.1 = x2 at *
      generalize vfN F lb = x3 at *
      obtain ⟨ao, ac, hvb⟩ := own_form hL.o
      generalize L.length = ll at *
      subst hvb
      clear h1 h2 hb1 q1 n1 KR hE hR hL hl0 ok1 ok2
      go_wp2_with fail
      revert KN HQ
      generalize w1.alloc (.cells #[.slice ao ll ac, .int .i64 x1, .int .i64 x3] 86) = W2
      intro HQ KN
      refine KN.mono ?_
      rintro e w3 ⟨v, V, rfl, hN, hb3⟩
      have HF : Hid (TrQ w F lb (.returned (.tuple #[v, .int .i64 0])) w3) := hid13 ⟨v, V, by rw [HEq.out], fun q => absurd HEq.out q, fun _ => by rw [HT.out]; exact hN.base HQ.out.1.size, keepb hb3 HQ.out.1⟩
      clear KN hN hb3
      go_wp2
      exact bodyPost_ret (v := .tuple #[v, .int .i64 0]) (by simp [results, Try.results18, go_sem]) rfl HF.out
  · have hvb := h1 (.inl hE)
    subst hvb
    have HF : Hid (∀ X, Below w.heap.size w X → TrQ w F lb (.returned (.tuple #[.slice none 0 0, .int .i64 (vfR F lb).2.2])) X) := hid13 (fun X hX => ⟨_, [], rfl, fun _ => rfl, fun q => absurd q hE, hX⟩)
    have hne : ((vfR F lb).2.2 != 0) = true := by simpa using hE
    generalize (vfR F lb).1 = x1 at *
    generalize (vfR F lb).2.1 = x2 at *
    generalize (vfR F lb).2.2 = x4 at *
    generalize vfN F lb = x3 at *
    clear h1 h2 hb1 q1 n1 KR
    go_wp2
    exact bodyPost_ret (v := .tuple #[.slice none 0 0, .int .i64 x4]) (by simp [results, Try.results18, go_sem]) rfl (HF.out _ HQ.out.1)
end Go.Proofs.Ytjgpbahglkaijaa
namespace Go.Proofs.Ytjgpbahglkaijaa
open Go.RowKit
set_option linter.unusedSimpArgs false
set_option linter.unusedVariables false

structure DB where
  a : Int
  t : Int
  m : List (BitVec 32)
  en : Int
  es : List (Int × Int)
def DB.pb (d : DB) : PB := ⟨d.a, d.t, d.m, prE d.en d.es⟩
noncomputable def blkD (l : List Nat) (a : Int) : DB := ⟨a, (dcI l a).n, (dcI l (a + 1)).m, a + 1 + dcZ l (a + 1), (enG l (a + 1 + dcZ l (a + 1)) (sumW (dcI l (a + 1)).m (dcI l (a + 1)).m.length) 0 []).1⟩
theorem bs_err {l : List Nat} {f : Nat} {a : Int} {P : List PB} (h : (bkE l a).1 ≠ 0) : bsG l (f + 1) a P = ([], (bkE l a).2, (bkE l a).1) := by
  rw [bsG_succ]
  unfold bkE at h ⊢
  by_cases c1 : dcE l a ≠ 0
  · rw [if_pos c1, if_pos c1]
  rw [if_neg c1] at h
  rw [if_neg c1, if_neg c1]
  by_cases c2 : (dcI l a).op ≠ 1
  · rw [if_pos c2, if_pos c2]
  rw [if_neg c2] at h
  rw [if_neg c2, if_neg c2]
  by_cases c3 : dcE l (a + 1) ≠ 0
  · rw [if_pos c3, if_pos c3]
  rw [if_neg c3] at h
  rw [if_neg c3, if_neg c3]
  by_cases c4 : (dcI l (a + 1)).op ≠ 2
  · rw [if_pos c4, if_pos c4]
  rw [if_neg c4] at h
  rw [if_neg c4, if_neg c4]
  by_cases c5 : (dcI l (a + 1)).n ≠ (dcI l a).n
  · rw [if_pos c5, if_pos c5]
  rw [if_neg c5] at h
  rw [if_neg c5, if_neg c5]
  unfold bsF
  rw [if_pos h]
theorem bk_okd {l : List Nat} {a : Int} (h : (bkE l a).1 = 0) : dcE l a = 0 ∧ (dcI l a).op = 1 ∧ dcE l (a + 1) = 0 ∧ (dcI l (a + 1)).op = 2 ∧ (dcI l (a + 1)).n = (dcI l a).n ∧ (enG l (a + 1 + dcZ l (a + 1)) (sumW (dcI l (a + 1)).m (dcI l (a + 1)).m.length) 0 []).2.1 = 0 := by
  unfold bkE at h
  by_cases c1 : dcE l a ≠ 0
  · rw [if_pos c1] at h; exact absurd h c1
  rw [if_neg c1] at h
  by_cases c2 : (dcI l a).op ≠ 1
  · rw [if_pos c2] at h; exact absurd h (by simp)
  rw [if_neg c2] at h
  by_cases c3 : dcE l (a + 1) ≠ 0
  · rw [if_pos c3] at h; exact absurd h c3
  rw [if_neg c3] at h
  by_cases c4 : (dcI l (a + 1)).op ≠ 2
  · rw [if_pos c4] at h; exact absurd h (by simp)
  rw [if_neg c4] at h
  by_cases c5 : (dcI l (a + 1)).n ≠ (dcI l a).n
  · rw [if_pos c5] at h; exact absurd h (by simp)
  rw [if_neg c5] at h
  exact ⟨by simpa using c1, by simpa using c2, by simpa using c3, by simpa using c4, by simpa using c5, h⟩
theorem bs_ok {l : List Nat} {f : Nat} {a : Int} {P : List PB} (h : (bkE l a).1 = 0) : bsG l (f + 1) a P = if a + 1 + dcZ l (a + 1) + (sumW (dcI l (a + 1)).m (dcI l (a + 1)).m.length : Nat) < wds l then bsG l f (a + 1 + dcZ l (a + 1) + (sumW (dcI l (a + 1)).m (dcI l (a + 1)).m.length : Nat)) (P ++ [(blkD l a).pb]) else (P ++ [(blkD l a).pb], 0, 0) := by
  obtain ⟨c1, c2, c3, c4, c5, c6⟩ := bk_okd h
  rw [bsG_succ, if_neg (by simp [c1]), if_neg (by simp [c2]), if_neg (by simp [c3]), if_neg (by simp [c4]), if_neg (by simp [c5])]
  unfold bsF
  rw [if_neg (by simp [c6])]
  rfl
structure DbF (d : DB) : Prop where
  e : d.en = d.a + 2 + (d.m.length : Int)
  n : ∀ e ∈ d.es, 0 ≤ e.2 ∧ e.2 ≤ 16777215
theorem prE_get : ∀ (p : Int) (A : List (Int × Int)) (j : Nat) (e : Int × Int), A[j]? = some e → (prE p A)[j]? = some (prX (p + j) e)
  | p, [], j, e, h => by simp at h
  | p, x :: A, 0, e, h => by
    simp at h; subst h
    show some (prX p x) = _
    simp
  | p, x :: A, j + 1, e, h => by
    have := prE_get (p + 1) A j e (by simpa using h)
    show (prE (p + 1) A)[j]? = _
    rw [this]
    congr 2
    push_cast
    omega
theorem mkX18_set0 (s : List Bool) (e : Bool × Int) : mkX (s.set 0 true) e = (mkX s e).set 0 true := by
  unfold mkX
  split
  · by_cases c : e.2.toNat = 0
    · rw [c]
    · rw [List.set_comm _ _ (by omega)]
  · rfl
theorem mkF18_set0 : ∀ (es : List (Bool × Int)) (s : List Bool), es.foldl mkX (s.set 0 true) = (es.foldl mkX s).set 0 true
  | [], s => rfl
  | e :: t, s => by rw [List.foldl_cons, List.foldl_cons, mkX18_set0, mkF18_set0 t]
theorem mkA18_set0 : ∀ (P : List PB) (s : List Bool), P.foldl mkB (s.set 0 true) = (P.foldl mkB s).set 0 true
  | [], s => rfl
  | b :: t, s => by
    rw [List.foldl_cons, List.foldl_cons]
    show t.foldl mkB (b.es.foldl mkX (s.set 0 true)) = _
    rw [mkF18_set0, mkA18_set0 t]; rfl
theorem usR_at {P : List PB} {k : Nat} {b : PB} (h1 : 1 ≤ k) (hb : P[k]? = some b) (h0 : ((P.foldl mkB (List.replicate P.length false)).getD k false) = false) (h : ∀ j, 1 ≤ j → j < k → ((P.foldl mkB (List.replicate P.length false)).getD j false) = true) : usR P = (b.a, 31) := by
  unfold usR
  have hm : mkA P = (P.foldl mkB (List.replicate P.length false)).set 0 true := by unfold mkA mk0; exact mkA18_set0 P _
  have hl : (P.foldl mkB (List.replicate P.length false)).length = P.length := by rw [mkA_len]; simp
  have hkl := (List.getElem?_eq_some_iff.mp hb).1
  have hx : ixB (mkA P) = (k : Int) := by
    unfold ixB
    have : (mkA P).findIdx? (· == false) = some k := by
      rw [List.findIdx?_eq_some_iff_getElem]
      rw [hm]
      refine ⟨by rw [List.length_set, hl]; exact hkl, ?_, fun j hj => ?_⟩
      · rw [List.getElem_set_ne (by omega)]
        rw [List.getD_eq_getElem?_getD, List.getElem?_eq_getElem (by rw [hl]; exact hkl)] at h0
        simp at h0
        simp [h0]
      · by_cases c : j = 0
        · subst c; simp
        · rw [List.getElem_set_ne (by omega)]
          have := h j (by omega) hj
          rw [List.getD_eq_getElem?_getD, List.getElem?_eq_getElem (by rw [hl]; omega)] at this
          simp at this
          simp [this]
    rw [this]
  rw [hx, if_pos (by omega), Int.toNat_natCast, List.getD_eq_getElem?_getD, hb]
  rfl
end Go.Proofs.Ytjgpbahglkaijaa
namespace Go.Proofs.Ytjgpbahglkaijaa
open Go.RowKit
set_option linter.unusedSimpArgs false
set_option linter.unusedVariables false

theorem cnt_skip (m : List (BitVec 32)) (p : Nat) : ∀ n, (∀ j, p ≤ j → j < p + n → plc m j = false) → cnt m (p + n) = cnt m p
  | 0, _ => rfl
  | n + 1, h => by
    have ih := cnt_skip m p n (fun j a b => h j a (by omega))
    show cnt m (p + n) + (plc m (p + n)).toNat = _
    rw [ih, h (p + n) (by omega) (by omega)]; rfl
theorem cnt_map (m : List (BitVec 32)) (n : Nat) (h : isMapB m n = true) : cnt m (2 ^ n) = sumW m m.length ∧ 2 ^ n ≤ 32 * m.length := by
  unfold isMapB at h
  simp only [Bool.and_eq_true, decide_eq_true_eq] at h
  obtain ⟨h1, h2⟩ := h
  unfold mwN at h1
  by_cases c : n < 5
  · rw [if_pos c] at h1
    obtain ⟨x, rfl⟩ : ∃ x, m = [x] := List.length_eq_one_iff.mp h1
    have hp : 2 ^ n ≤ 2 ^ 4 := Nat.pow_le_pow_right (by decide) (by omega)
    refine ⟨?_, by simp; omega⟩
    rw [← cnt_words]
    have := cnt_skip [x] (2 ^ n) (32 - 2 ^ n) (fun j a b => by
      unfold plc
      rw [show j / 32 = 0 by omega, show j % 32 = j by omega]
      unfold topB at h2
      simp only [Bool.and_eq_true, beq_iff_eq] at h2
      have h3 : (x <<< 2 ^ n).getLsbD (31 - j + 2 ^ n) = false := by
        have h4 : (x <<< 2 ^ n) = 0#32 := h2.2
        rw [h4]; simp
      rw [BitVec.getLsbD_shiftLeft] at h3
      unfold bt
      show x.getLsbD (31 - j) = false
      have e1 : decide (31 - j + 2 ^ n < 32) = true := decide_eq_true (by omega)
      have e2 : decide (31 - j + 2 ^ n < 2 ^ n) = false := decide_eq_false (by omega)
      rw [e1, e2] at h3
      simpa using h3)
    rw [show 2 ^ n + (32 - 2 ^ n) = 32 * [x].length by simp; omega] at this
    exact this.symm
  · rw [if_neg c] at h1
    have e : 32 * m.length = 2 ^ n := by
      rw [h1, show (32 : Nat) = 2 ^ 5 by decide, ← Nat.pow_add, show 5 + (n - 5) = n by omega]
    rw [← cnt_words, e]
    exact ⟨rfl, Nat.le_refl _⟩
theorem chk_isMap {n : Int} {m : List (BitVec 32)} (h : chkE 2 n m = 0) : isMapB m n.toNat = true := by
  unfold chkE at h
  split at h
  · split at h
    · rw [if_pos rfl] at h
      split at h
      · assumption
      · cases h
    · cases h
  · cases h
end Go.Proofs.Ytjgpbahglkaijaa
namespace Go.Proofs.Ytjgpbahglkaijaa
open Go.RowKit Go.Shelf
set_option linter.unusedSimpArgs false
set_option linter.unusedVariables false

def mkK (m : List Bool) (k : Int) : List Bool := m.set k.toNat true
def mkN (m : List Bool) (d : Nde) : List Bool := (kidL d.r).foldl mkK m
def mkL (L : List Nde) (i : Nat) : List Bool := (L.take i).foldl mkN (List.replicate L.length false)
theorem usK_fst (s : List Bool × Nat) (k : Int) : (usK s k).1 = mkK s.1 k := by
  unfold usK mkK
  split
  · rename_i h
    apply List.ext_getElem?
    intro i
    rw [List.getElem?_set]
    split
    · rename_i e
      subst e
      rw [List.getD_eq_getElem?_getD] at h
      cases hx : s.1[k.toNat]? with
      | none => rw [hx] at h; simp at h
      | some x =>
        rw [hx] at h
        simp at h
        subst h
        have := (List.getElem?_eq_some_iff.mp hx).1
        simp [this]
    · rfl
  · rfl
theorem usF_fst : ∀ (ks : List Int) (s : List Bool × Nat), (ks.foldl usK s).1 = ks.foldl mkK s.1
  | [], s => rfl
  | k :: ks, s => by
    show (ks.foldl usK (usK s k)).1 = ks.foldl mkK (mkK s.1 k)
    rw [usF_fst ks, usK_fst]
theorem usL_fst : ∀ (L : List Nde) (s : List Bool × Nat), (L.foldl usN s).1 = L.foldl mkN s.1
  | [], s => rfl
  | d :: L, s => by
    show (L.foldl usN (usN s d)).1 = L.foldl mkN (mkN s.1 d)
    rw [usL_fst L]
    unfold usN mkN
    rw [usF_fst]
theorem mkK_set0 (m : List Bool) (k : Int) : mkK (m.set 0 true) k = (mkK m k).set 0 true := by
  unfold mkK
  by_cases h : k.toNat = 0
  · rw [h, List.set_set]
  · exact List.set_comm _ _ (fun e => h e.symm)
theorem mkF_set0 : ∀ (ks : List Int) (m : List Bool), ks.foldl mkK (m.set 0 true) = (ks.foldl mkK m).set 0 true
  | [], m => rfl
  | k :: ks, m => by
    show ks.foldl mkK (mkK (m.set 0 true) k) = (ks.foldl mkK (mkK m k)).set 0 true
    rw [mkK_set0, mkF_set0 ks]
theorem mkL_set0 : ∀ (L : List Nde) (m : List Bool), L.foldl mkN (m.set 0 true) = (L.foldl mkN m).set 0 true
  | [], m => rfl
  | d :: L, m => by
    show L.foldl mkN (mkN (m.set 0 true) d) = (L.foldl mkN (mkN m d)).set 0 true
    have : mkN (m.set 0 true) d = (mkN m d).set 0 true := mkF_set0 _ _
    rw [this, mkL_set0 L]
theorem mkF_len : ∀ (ks : List Int) (m : List Bool), (ks.foldl mkK m).length = m.length
  | [], m => rfl
  | k :: ks, m => by
    show (ks.foldl mkK (mkK m k)).length = _
    rw [mkF_len ks]; unfold mkK; simp
theorem mkL_len : ∀ (L : List Nde) (m : List Bool), (L.foldl mkN m).length = m.length
  | [], m => rfl
  | d :: L, m => by
    show (L.foldl mkN (mkN m d)).length = _
    rw [mkL_len L]; exact mkF_len _ _
theorem mkL_size (L : List Nde) (i : Nat) : (mkL L i).length = L.length := by unfold mkL; rw [mkL_len]; simp
theorem mkL_step (L : List Nde) (i : Nat) (d : Nde) (h : L[i]? = some d) : mkL L (i + 1) = (kidL d.r).foldl mkK (mkL L i) := by
  unfold mkL
  rw [List.take_add_one, h, List.foldl_append]; rfl
theorem used_iff (L : List Nde) (h0 : 0 < L.length) (hk : ∀ d ∈ L, ∀ x ∈ kidL d.r, 0 ≤ x ∧ x < (L.length : Int)) : usedB L = true ↔ ∀ i, 1 ≤ i → i < L.length → (mkL L L.length).getD i false = true := by
  have h1 := us0_so L.length h0
  have h2 := usL_so L (us0 L.length) h1.1 (fun d hd x hx => by have := hk d hd x hx; rw [h1.2]; omega)
  have h3 : (L.foldl usN (us0 L.length)).1 = (mkL L L.length).set 0 true := by
    rw [usL_fst]
    unfold us0 mkL
    rw [List.take_length, mkL_set0]
  have h4 : (L.foldl usN (us0 L.length)).2 = ((mkL L L.length).set 0 true).count true := by rw [← h3]; exact h2.1
  have h5 := mkL_size L L.length
  unfold usedB
  rw [h4]
  generalize mkL L L.length = M at *
  constructor
  · intro h i hi1 hi2
    have hc : (M.set 0 true).count true = (M.set 0 true).length := by rw [List.length_set, h5]; simpa using h
    have hm : true = (M.set 0 true)[i]'(by simp; omega) := List.count_eq_length.mp hc _ (List.getElem_mem _)
    rw [List.getElem_set_ne (by omega)] at hm
    rw [List.getD_eq_getElem?_getD, List.getElem?_eq_getElem (by omega)]
    exact hm.symm
  · intro h
    have hc : (M.set 0 true).count true = (M.set 0 true).length := by
      rw [List.count_eq_length]
      intro b hb
      obtain ⟨i, hi, rfl⟩ := List.getElem_of_mem hb
      by_cases h0' : i = 0
      · subst h0'; simp
      · rw [List.getElem_set_ne (by omega)]
        have := h i (by omega) (by rw [← h5]; simpa using hi)
        rw [List.getD_eq_getElem?_getD, List.getElem?_eq_getElem (by simpa using hi)] at this
        exact this.symm
    rw [hc, List.length_set, h5]
    simp
theorem deep_zero {F : Int} (hF : 0 ≤ F) {r : List Rn} (hk : kidL r = []) : deepR F [⟨0, r⟩] = (0, 0) := by
  have h := dp_drop F [⟨0, r⟩] 0 ⟨0, r⟩ rfl (List.replicate 1 (0, 0)) 0
  unfold deepR
  show dpG F [⟨0, r⟩] 0 (List.replicate 1 (0, 0)) 0 = _
  refine h.trans ?_
  rw [if_neg (by show ¬ F < 0 + 0; omega)]
  rfl
theorem NdsOk.one {L : List Nde} (ok : NdsOk L) : (∀ d ∈ L, 1 ≤ d.b) ∨ ∃ r, L = [⟨0, r⟩] ∧ kidL r = [] := by
  by_cases h : ∀ d ∈ L, 1 ≤ d.b
  · exact .inl h
  · right
    have : ∃ d ∈ L, ¬ 1 ≤ d.b := by
      apply Classical.byContradiction
      intro hn
      exact h (fun d hd => Classical.byContradiction fun hc => hn ⟨d, hd, hc⟩)
    obtain ⟨d, hd, hb⟩ := this
    obtain ⟨k, hk⟩ := List.getElem?_of_mem hd
    have o := ok.2 k d hk
    have hb0 : d.b = 0 := by have := o.b0; omega
    have hl := o.bz hb0
    have h0 := ok.1
    match L, hl, h0, hk with
    | [e], hl, h0, hk =>
      have hk0 : k = 0 := by have := (List.getElem?_eq_some_iff.mp hk).1; simpa using this
      subst hk0
      simp at hk
      subst hk
      obtain ⟨eb, er⟩ := e
      dsimp only at hb0
      subst hb0
      refine ⟨er, rfl, ?_⟩
      cases hx : kidL er with
      | nil => rfl
      | cons x t =>
        have hm : x ∈ kidL er := by rw [hx]; exact List.mem_cons_self ..
        obtain ⟨r, h1, h2, h3⟩ := mem_kidL hm
        have := o.kid r h1 h2
        simp at this
        omega
    | a :: b :: t, hl, h0, hk => simp at hl; omega
def fsV (P : Prs) : List Value := P.map fun p => .int .i64 p.1
def snV (P : Prs) : List Value := P.map fun p => .int .i64 p.2
theorem up_fs (b m : Int) (P : Prs) (k : Nat) : fsV (upR b m P (k : Int)) = (fsV P).set k (.int .i64 (max (P.getD k (0, 0)).1 b)) := by
  unfold fsV upR; rw [List.map_set, Int.toNat_natCast]
theorem up_sn (b m : Int) (P : Prs) (k : Nat) : snV (upR b m P (k : Int)) = (snV P).set k (.int .i64 (max (P.getD k (0, 0)).2 m)) := by
  unfold snV upR; rw [List.map_set, Int.toNat_natCast]
theorem fs_at {P : Prs} {k : Nat} (h : k < P.length) : (fsV P).toArray[k]? = some (.int .i64 (P.getD k (0, 0)).1) := by
  unfold fsV; rw [List.getElem?_toArray, List.getElem?_map, List.getElem?_eq_getElem h, List.getD_eq_getElem?_getD, List.getElem?_eq_getElem h]; rfl
theorem sn_at {P : Prs} {k : Nat} (h : k < P.length) : (snV P).toArray[k]? = some (.int .i64 (P.getD k (0, 0)).2) := by
  unfold snV; rw [List.getElem?_toArray, List.getElem?_map, List.getElem?_eq_getElem h, List.getD_eq_getElem?_getD, List.getElem?_eq_getElem h]; rfl
theorem fs_rep (n : Nat) : fsV (List.replicate n (0, 0)) = List.replicate n (.int .i64 0) := by unfold fsV; rw [List.map_replicate]
theorem sn_rep (n : Nat) : snV (List.replicate n (0, 0)) = List.replicate n (.int .i64 0) := by unfold snV; rw [List.map_replicate]
end Go.Proofs.Ytjgpbahglkaijaa
namespace Go.Proofs.Ytjgpbahglkaijaa
open Go.RowKit
set_option linter.unusedSimpArgs false
set_option linter.unusedVariables false

def jmpL (es : List (Bool × Int)) : List Int := (es.filter (·.1)).map (·.2)
theorem jmp_yes (n : Int) (t : List (Bool × Int)) : jmpL ((true, n) :: t) = n :: jmpL t := rfl
theorem jmp_no (n : Int) (t : List (Bool × Int)) : jmpL ((false, n) :: t) = jmpL t := rfl
theorem mem_jmp {es : List (Bool × Int)} {x : Int} (h : x ∈ jmpL es) : ∃ e ∈ es, e.1 = true ∧ e.2 = x := by
  unfold jmpL at h
  obtain ⟨e, he, rfl⟩ := List.mem_map.mp h
  obtain ⟨h1, h2⟩ := List.mem_filter.mp he
  exact ⟨e, h1, h2, rfl⟩
def rnZ (i : Int) (e : Bool × Int) : Rn := ⟨mkW 0 i, e.1, e.2⟩
theorem runsV_eq (m : List (BitVec 32)) (es : List (Bool × Int)) : runsV m es = (setL m 0).zipWith rnZ es := rfl
theorem kid_zip : ∀ (S : List Int) (es : List (Bool × Int)), S.length = es.length → kidL (S.zipWith rnZ es) = jmpL es
  | [], [], _ => rfl
  | x :: S, (true, n) :: es, h => by
    have ih := kid_zip S es (by simpa using h)
    rw [jmp_yes, ← ih]; rfl
  | x :: S, (false, n) :: es, h => by
    have ih := kid_zip S es (by simpa using h)
    rw [jmp_no, ← ih]; rfl
  | [], e :: es, h => by simp at h
  | x :: S, [], h => by simp at h
theorem kid_runs (m : List (BitVec 32)) (es : List (Bool × Int)) (h : es.length = sumW m m.length) : kidL (runsV m es) = jmpL es := by
  rw [runsV_eq]
  exact kid_zip _ _ (by rw [setL_all, h])
theorem getD_swap (A : List (Int × Int)) (k : Nat) : (A.map Prod.swap).getD k (0, 0) = ((A.getD k (0, 0)).2, (A.getD k (0, 0)).1) := by
  rw [List.getD_eq_getElem?_getD, List.getD_eq_getElem?_getD, List.getElem?_map]
  cases A[k]? <;> rfl
theorem up_swap (B M : Int) : ∀ (es : List (Bool × Int)) (A : List (Int × Int)), (jmpL es).foldl (upR M B) (A.map Prod.swap) = (es.foldl (upX B M) A).map Prod.swap
  | [], A => rfl
  | (false, n) :: t, A => by
    rw [jmp_no, List.foldl_cons]
    have : upX B M A (false, n) = A := rfl
    rw [this]
    exact up_swap B M t A
  | (true, n) :: t, A => by
    rw [jmp_yes, List.foldl_cons, List.foldl_cons]
    have h1 : upX B M A (true, n) = A.set n.toNat (max (A.getD n.toNat (0, 0)).1 B, max (A.getD n.toNat (0, 0)).2 M) := rfl
    have h2 : upR M B (A.map Prod.swap) n = (A.set n.toNat (max (A.getD n.toNat (0, 0)).1 B, max (A.getD n.toNat (0, 0)).2 M)).map Prod.swap := by
      unfold upR
      rw [getD_swap, List.map_set]; rfl
    rw [h1, h2]
    exact up_swap B M t _
theorem dp_ms (F : Int) : ∀ (t : List PB) (k : Nat) (A : List (Int × Int)) (dp : Int), (∀ b ∈ t, 1 ≤ b.t ∧ b.es.length = sumW b.m b.m.length) → (msG F t k A dp).2.2 = 0 → dpG F (ndsL t) k (A.map Prod.swap) dp = ((msG F t k A dp).1, 0)
  | [], k, A, dp, _, _ => rfl
  | b :: t, k, A, dp, hb, h => by
    have hb1 := hb b (by simp)
    show dpG F (⟨b.t, runsV b.m b.es⟩ :: ndsL t) k (A.map Prod.swap) dp = _
    unfold msG at h ⊢
    unfold dpG
    rw [getD_swap]
    dsimp only
    by_cases c : F < (A.getD k (0, 0)).2 + b.t
    · rw [if_pos c] at h
      exact absurd h (by simp)
    · rw [if_neg c] at h ⊢
      have hm : min 1 b.t = 1 := by omega
      rw [if_neg c, kid_runs _ _ hb1.2, hm, up_swap]
      exact dp_ms F t (k + 1) _ _ (fun x hx => hb x (by simp [hx])) h
theorem deep_ms (F : Int) (P : List PB) (hb : ∀ b ∈ P, 1 ≤ b.t ∧ b.es.length = sumW b.m b.m.length) (h : (msR F P).2.2 = 0) : deepR F (ndsL P) = ((msR F P).1, 0) := by
  have := dp_ms F P 0 (List.replicate P.length (0, 0)) 0 hb h
  rw [List.map_replicate] at this
  unfold deepR
  rw [show (ndsL P).length = P.length by unfold ndsL; rw [List.length_map]]
  exact this
theorem mk_jmp : ∀ (es : List (Bool × Int)) (s : List Bool), (jmpL es).foldl mkK s = es.foldl mkX s
  | [], s => rfl
  | (false, n) :: t, s => by
    rw [jmp_no, List.foldl_cons]
    exact mk_jmp t s
  | (true, n) :: t, s => by
    rw [jmp_yes, List.foldl_cons, List.foldl_cons]
    exact mk_jmp t _
theorem mkN_all : ∀ (t : List PB) (s : List Bool), (∀ b ∈ t, b.es.length = sumW b.m b.m.length) → (ndsL t).foldl mkN s = t.foldl mkB s
  | [], s, _ => rfl
  | b :: t, s, h => by
    show (ndsL t).foldl mkN (mkN s ⟨b.t, runsV b.m b.es⟩) = t.foldl mkB (mkB s b)
    have : mkN s ⟨b.t, runsV b.m b.es⟩ = mkB s b := by
      unfold mkN mkB
      dsimp only
      rw [kid_runs _ _ (h b (by simp)), mk_jmp]
    rw [this]
    exact mkN_all t _ (fun x hx => h x (by simp [hx]))
theorem used_ok (P : List PB) (h0 : 0 < P.length) (hl : ∀ b ∈ P, b.es.length = sumW b.m b.m.length) (hk : ∀ b ∈ P, ∀ e ∈ b.es, e.1 = true → 0 ≤ e.2 ∧ e.2 < (P.length : Int)) (h : (usR P).2 = 0) : usedB (ndsL P) = true := by
  have hln : (ndsL P).length = P.length := by unfold ndsL; rw [List.length_map]
  rw [used_iff (ndsL P) (by omega) (fun d hd x hx => by
    unfold ndsL at hd
    obtain ⟨b, hb, rfl⟩ := List.mem_map.mp hd
    dsimp only at hx
    rw [kid_runs _ _ (hl b hb)] at hx
    obtain ⟨e, he, h1, rfl⟩ := mem_jmp hx
    rw [hln]
    exact hk b hb e he h1)]
  have e : mkL (ndsL P) (ndsL P).length = P.foldl mkB (List.replicate P.length false) := by
    unfold mkL
    rw [List.take_length, hln, mkN_all P _ hl]
  rw [e, hln]
  intro i
  induction i using Nat.strongRecOn with
  | ind i ih =>
    intro h1 h2
    cases hg : (P.foldl mkB (List.replicate P.length false)).getD i false with
    | true => rfl
    | false =>
      have := usR_at h1 (List.getElem?_eq_getElem h2) hg (fun j a b => ih j b a (by omega))
      rw [this] at h
      exact absurd h (by simp)
def Adj (L : List (Bool × Int)) : Prop := ∀ (j : Nat) (x y : Bool × Int), L[j]? = some x → L[j + 1]? = some y → x ≠ y
theorem adj_app {L : List (Bool × Int)} {e : Bool × Int} (h : Adj L) (hl : L.getLast? ≠ some e) : Adj (L ++ [e]) := by
  intro j x y hx hy
  by_cases c : j + 1 < L.length
  · rw [List.getElem?_append_left c] at hy
    rw [List.getElem?_append_left (by omega)] at hx
    exact h j x y hx hy
  · have hj := (List.getElem?_eq_some_iff.mp hy).1
    rw [List.length_append, List.length_singleton] at hj
    have hj2 : j + 1 = L.length := by omega
    rw [List.getElem?_append_right (by omega), show j + 1 - L.length = 0 by omega] at hy
    simp at hy
    subst hy
    rw [List.getElem?_append_left (by omega)] at hx
    rintro rfl
    refine hl ?_
    rw [List.getLast?_eq_getElem?, show L.length - 1 = j by omega]
    exact hx
theorem adj_tail {e : Bool × Int} {L : List (Bool × Int)} (h : Adj (e :: L)) : Adj L := fun j x y h1 h2 => h (j + 1) x y (by simpa using h1) (by simpa using h2)
theorem chk_rng {o n : Int} {m : List (BitVec 32)} (h : chkE o n m = 0) : kLo o ≤ n ∧ n ≤ kHi o := by
  unfold chkE at h
  split at h
  · split at h
    · rename_i h2
      simp only [Bool.and_eq_true, decide_eq_true_eq] at h2
      exact h2
    · cases h
  · cases h
structure EnF (en : Int) (es : List (Int × Int)) : Prop where
  o : ∀ e ∈ es, e.1 = 3 ∧ 1 ≤ e.2 ∨ e.1 = 4 ∧ 0 ≤ e.2 ∧ e.2 ≤ 65535
  a : Adj (prE en es)
theorem enG_f (l : List Nat) (hx : ∀ b ∈ l, b < 256) (en : Int) : ∀ (r : Nat) (es : List (Int × Int)), EnF en es → (enG l en r es.length es).2.1 = 0 → EnF en (enG l en r es.length es).1
  | 0, es, h, _ => h
  | r + 1, es, h, h0 => by
    rw [enG_succ] at h0 ⊢
    by_cases c : enE l (en + (es.length : Int)) es = 0
    · rw [if_pos c] at h0 ⊢
      have c1 : dcE l (en + (es.length : Int)) = 0 := by
        by_cases q : dcE l (en + (es.length : Int)) = 0
        · exact q
        · have c' := c
          unfold enE at c'
          rw [if_pos q] at c'
          exact c'
      have c2 : ¬ (dcI l (en + (es.length : Int))).op < 3 := by
        intro q
        have c' := c
        unfold enE at c'
        rw [if_neg (by simp [c1]), if_pos q] at c'
        exact absurd c' (by decide)
      have hk := chk_rng (enc_dec l (en + (es.length : Int)) hx c1).1
      have ho : (dcI l (en + (es.length : Int))).op = 3 ∨ (dcI l (en + (es.length : Int))).op = 4 := by have := (dcF c1).op; omega
      have hE := enE_pr l en es c1 ho (fun e he => by rcases h.o e he with q | q; exact .inl q.1; exact .inr q.1)
      rw [c] at hE
      have hlast : (prE en es).getLast? ≠ some (prX (en + (es.length : Int)) ((dcI l (en + (es.length : Int))).op, (dcI l (en + (es.length : Int))).n)) := fun q => by
        rw [if_pos q] at hE
        exact absurd hE (by decide)
      have := enG_f l hx en r (es ++ [((dcI l (en + (es.length : Int))).op, (dcI l (en + (es.length : Int))).n)]) ⟨fun e he => by
        rcases List.mem_append.mp he with q | q
        · exact h.o e q
        · simp at q
          subst q
          rcases ho with q | q
          · left
            rw [q] at hk
            exact ⟨q, hk.1⟩
          · right
            rw [q] at hk
            exact ⟨q, hk.1, hk.2⟩, by rw [prE_app]; exact adj_app h.a hlast⟩ (by rw [List.length_append, List.length_singleton]; exact h0)
      rw [List.length_append, List.length_singleton] at this
      exact this
    · rw [if_neg c] at h0
      exact absurd h0 c
def PbR (b : PB) : Prop := isMapB b.m b.t.toNat = true ∧ Adj b.es ∧ ∀ e ∈ b.es, (e.1 = true → b.a < e.2) ∧ (e.1 = false → 0 ≤ e.2 ∧ e.2 ≤ 65535)
theorem blk_r (l : List Nat) (hx : ∀ b ∈ l, b < 256) (a : Int) (h : (bkE l a).1 = 0) : PbR (blkD l a).pb := by
  obtain ⟨c1, c2, c3, c4, c5, c6⟩ := bk_okd h
  have hf : EnF (a + 1 + dcZ l (a + 1)) (enG l (a + 1 + dcZ l (a + 1)) (sumW (dcI l (a + 1)).m (dcI l (a + 1)).m.length) 0 []).1 := enG_f l hx (a + 1 + dcZ l (a + 1)) (sumW (dcI l (a + 1)).m (dcI l (a + 1)).m.length) [] ⟨fun e he => (by cases he), fun j x y h1 => (by simp [prE] at h1)⟩ c6
  refine ⟨?_, hf.a, fun e he => ?_⟩
  · show isMapB (dcI l (a + 1)).m (dcI l a).n.toNat = true
    have h1 := (enc_dec l (a + 1) hx c3).1
    rw [c4, c5] at h1
    exact chk_isMap h1
  · have he' : e ∈ prE (a + 1 + dcZ l (a + 1)) (enG l (a + 1 + dcZ l (a + 1)) (sumW (dcI l (a + 1)).m (dcI l (a + 1)).m.length) 0 []).1 := he
    show (e.1 = true → a < e.2) ∧ _
    have hz := dcZ_zero c3
    obtain ⟨es, hes⟩ : ∃ es, es = (enG l (a + 1 + dcZ l (a + 1)) (sumW (dcI l (a + 1)).m (dcI l (a + 1)).m.length) 0 []).1 := ⟨_, rfl⟩
    rw [← hes] at he' hf
    obtain ⟨j, hj⟩ := List.getElem?_of_mem he'
    have hjl : j < es.length := by have := (List.getElem?_eq_some_iff.mp hj).1; rwa [prE_len] at this
    have hg := prE_get (a + 1 + dcZ l (a + 1)) es j es[j] (List.getElem?_eq_getElem hjl)
    rw [hj] at hg
    injection hg with hg
    have ho := hf.o es[j] (List.getElem_mem hjl)
    generalize es[j] = x at *
    obtain ⟨o, n⟩ := x
    subst hg
    unfold prX
    dsimp only at ho ⊢
    rcases ho with ⟨rfl, q⟩ | ⟨rfl, q1, q2⟩
    · refine ⟨fun _ => ?_, fun z => ?_⟩
      · show a < a + 1 + dcZ l (a + 1) + (j : Int) + n
        omega
      · exact absurd z (by decide)
    · exact ⟨fun z => absurd z (by decide), fun _ => ⟨q1, q2⟩⟩
theorem bsG_all (l : List Nat) (Q : PB → Prop) (hQ : ∀ a, (bkE l a).1 = 0 → Q (blkD l a).pb) : ∀ (f : Nat) (a : Int) (P : List PB), (∀ b ∈ P, Q b) → (bsG l f a P).2.2 = 0 → ∀ b ∈ (bsG l f a P).1, Q b
  | 0, a, P, hP, h => by unfold bsG; intro b hb; cases hb
  | f + 1, a, P, hP, h => by
    by_cases c : (bkE l a).1 = 0
    · rw [bs_ok c] at h ⊢
      have hP2 : ∀ b ∈ P ++ [(blkD l a).pb], Q b := by
        intro b hb
        rcases List.mem_append.mp hb with q | q
        · exact hP b q
        · simp at q
          subst q
          exact hQ a c
      by_cases d : a + 1 + dcZ l (a + 1) + ((sumW (dcI l (a + 1)).m (dcI l (a + 1)).m.length : Nat) : Int) < wds l
      · rw [if_pos d] at h ⊢
        exact bsG_all l Q hQ f _ _ hP2 h
      · rw [if_neg d]
        exact hP2
    · rw [bs_err c] at h
      exact absurd h c
theorem fn_some {qs : List Int} (hs : qs.Pairwise (· < ·)) {x : Int} (h : fnB qs x ≠ -1) : ∃ i : Nat, qs[i]? = some x ∧ fnB qs x = (i : Int) := by
  by_cases c : ∃ (i : Nat) (y : Int), qs[i]? = some y ∧ y = x
  · obtain ⟨i, y, h1, rfl⟩ := c
    exact ⟨i, h1, fnB_at hs h1⟩
  · exact absurd (fnB_no (fun i y h1 h2 => c ⟨i, y, h1, h2⟩)) h
theorem lk_adj {qs : List Int} (hs : qs.Pairwise (· < ·)) {es : List (Bool × Int)} (h : Adj es) (hn : ∀ e ∈ es, e.1 = true → fnB qs e.2 ≠ -1) : Adj (es.map (lkX qs)) := by
  intro j x y hx hy
  rw [List.getElem?_map] at hx hy
  cases hx0 : es[j]? with
  | none => rw [hx0] at hx; cases hx
  | some x0 =>
    cases hy0 : es[j + 1]? with
    | none => rw [hy0] at hy; cases hy
    | some y0 =>
      rw [hx0] at hx
      rw [hy0] at hy
      injection hx with hx
      injection hy with hy
      subst hx hy
      have hne := h j x0 y0 hx0 hy0
      have n1 := hn x0 (List.mem_of_getElem? hx0)
      have n2 := hn y0 (List.mem_of_getElem? hy0)
      obtain ⟨xb, xn⟩ := x0
      obtain ⟨yb, yn⟩ := y0
      unfold lkX
      cases xb <;> cases yb <;> dsimp only at * <;> simp only [if_true, Bool.false_eq_true, if_false]
      · exact hne
      · intro q; injection q with q; cases q
      · intro q; injection q with q; cases q
      · intro q
        injection q with _ q
        obtain ⟨i1, a1, a2⟩ := fn_some hs (n1 rfl)
        obtain ⟨i2, b1, b2⟩ := fn_some hs (n2 rfl)
        rw [a2, b2] at q
        have : i1 = i2 := by omega
        subst this
        rw [a1] at b1
        injection b1 with b1
        exact hne (by rw [b1])
end Go.Proofs.Ytjgpbahglkaijaa
