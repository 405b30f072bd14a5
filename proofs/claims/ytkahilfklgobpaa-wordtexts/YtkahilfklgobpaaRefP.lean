/-
  What the calls of the reference's Parse do.
-/
import Derived.Test.YtkahilfklgobpaaTxt
import Derived.Test.YtkahilfklgobpaaRefW
namespace Go.Proofs.Ytkahilfklgobpaa
open Go.RowKit
set_option linter.unusedSimpArgs false
set_option linter.unusedVariables false

theorem orL (x : BitVec 128) (v : Int) (h0 : 0 ≤ v) (h1 : v ≤ 15) : bits .or .u64 (lI x) v = lI (x ||| mkW 0 v) := by
  have h := or_l x (mkW 0 v)
  rw [lI_mk 0 v (by omega) (by omega)] at h
  exact h
theorem orH (x : BitVec 128) (v : Int) : hI (x ||| mkW 0 v) = hI x := by
  unfold hI
  rw [hv_or, hv_mk]
  simp
theorem At.setLo {w : World} {B : Nat} {x : BitVec 128} (y : BitVec 128) (h : At w B x) (e : hI y = hI x) : At (w.setCell ⟨B, 1, none⟩ (.int .u64 (lI y))) B y := by
  obtain ⟨h0, h1, h2, h3, h4⟩ := h
  refine ⟨?_, ?_, ?_, ?_, ?_⟩ <;> simp [go_sem, *]

theorem At.otherLo {w : World} {B C : Nat} {x : BitVec 128} (v : Value) (h : At w B x) (hn : B ≠ C) : At (w.setCell ⟨C, 1, none⟩ v) B x := by
  have hn' : ¬ C = B := fun e => hn e.symm
  obtain ⟨h0, h1, h2, h3, h4⟩ := h
  refine ⟨?_, ?_, ?_, ?_, ?_⟩ <;> simp [go_sem, hn, hn', h0, h1, h2, h3, h4]

set_option maxHeartbeats 2000000 in
theorem rparse_len (s : ByteArray) (w : World) (hs : s.size ≤ maxLen) (h : ¬ s.size = 32) :
    Calls Try.prog 36 #[.string s] w fun e w' => e = .returned (.tuple #[.agg #[.int .u64 0, .int .u64 0], .int .i64 12]) ∧ Below w.heap.size w w' := by
  unfold maxLen at hs
  have h2 : ((s.size : Int) == 32) = false := by simp; omega
  have h3 : ¬ (s.size : Int) = 32 := by omega
  go_enter Try.func36, Try.ntmps36
  go_wp2
  exact bodyPost_ret (v := .tuple #[.agg #[.int .u64 0, .int .u64 0], .int .i64 12]) (by simp [results, Try.results36, go_sem]) rfl ⟨rfl, bl1 _ _⟩

set_option maxHeartbeats 2000000 in
theorem rparse_32 (s : ByteArray) (w : World) (h : s.size = 32) :
    Calls Try.prog 36 #[.string s] w fun e w' => e = .returned (.tuple #[.agg #[.int .u64 (hI (pOut s)), .int .u64 (lI (pOut s))], .int .i64 (pErr s)]) ∧ Below w.heap.size w w' := by
  have HS : Hid (s.size = 32) := h
  have h3 : (s.size : Int) = 32 := by omega
  clear h
  go_enter Try.func36, Try.ntmps36
  go_wp2
  go_loopw [5] (fun i wr => ∃ k : Nat, k ≤ 32 ∧ i = .int .i64 k ∧ Hid (pAll s k = true) ∧ At wr (w.heap.size + 1) (pW s k) ∧ At wr w.heap.size 0#128 ∧ Below w.heap.size w wr)
    (fun i _ => 32 - (intOf i).toNat)
  case atStart =>
    refine ⟨0, by omega, rfl, rfl, ?_, ?_, bl2 _ _ _⟩
    · show At _ _ 0#128
      refine ⟨?_, ?_, ?_, ?_, ?_⟩ <;> simp [go_sem, hI_zero, lI_zero]
    · refine ⟨?_, ?_, ?_, ?_, ?_⟩ <;> simp [go_sem, hI_zero, lI_zero]
  case round =>
    obtain ⟨k, hk, rfl, hp, hA, hR, hB⟩ := hrel
    by_cases hlt : (k : Int) < 32
    · have hks : k < s.size := by rw [HS.out]; omega
      have hbt := byteAt_in s k hks
      have bd := byteAt_bd s k
      have HW : Hid (pW s (k + 1) = (pW s k <<< 4) ||| mkW 0 (digV (byteAt s k))) := rfl
      have HP : Hid (pAll s (k + 1) = (pAll s k && digB (byteAt s k))) := rfl
      have HF : Hid (digB (byteAt s k) = false → pOut s = 0#128 ∧ pErr s = 12) := by
        intro hd
        have q : pAll s (k + 1) = false := by rw [HP.out, hd]; simp
        have q2 : ¬ pAll s 32 = true := fun e => by have := pAll_le s (k + 1) 32 (by omega) e; rw [q] at this; cases this
        unfold pOut pErr; rw [if_neg q2, if_neg q2]; exact ⟨rfl, rfl⟩
      have vd := digV_bd (byteAt s k)
      generalize byteAt s k = c at *
      obtain ⟨b0, b1⟩ := bd
      have hd := dig_ways c
      by_cases hB1 : digB c = false
      · have HQ : Hid (pOut s = 0#128 ∧ pErr s = 12) := HF.out hB1
        rw [hB1] at hd
        clear HF HW HP vd
        obtain ⟨a0, a1, a2, a3, a4⟩ := id hA
        obtain ⟨r0, r1, r2, r3, r4⟩ := id hR
        have hd' : c < 48 ∨ (57 < c ∧ c < 97) ∨ 102 < c := by
          rcases hd with ⟨a, p, q⟩ | ⟨a, b, p, q⟩ | ⟨a, b, p, q⟩ | ⟨a, b, p, q⟩ | ⟨a, p, q⟩
          · exact Or.inl a
          · cases p
          · exact Or.inr (Or.inl ⟨a, b⟩)
          · cases p
          · exact Or.inr (Or.inr a)
        clear hd hB1
        rcases hd' with h | ⟨h, h'⟩ | h
        all_goals
          go_wp2
          exact bodyPost_ret (v := .tuple #[.agg #[.int .u64 0, .int .u64 0], .int .i64 12]) (by simp [results, Try.results36, go_sem, *]) rfl ⟨by rw [HQ.out.1, HQ.out.2, hI_zero, lI_zero], (hB.setCell (by simp) _).setCell (by simp) _⟩
      · have hB2 : digB c = true := by cases h : digB c with | true => rfl | false => exact absurd h hB1
        have hp' : Hid (pAll s (k + 1) = true) := by show _ = _; rw [HP.out, hp.out, hB2]; rfl
        have hd' : (48 ≤ c ∧ c ≤ 57 ∧ c - 48 = digV c) ∨ (97 ≤ c ∧ c ≤ 102 ∧ c - 97 + 10 = digV c) := by
          rcases hd with ⟨a, p, q⟩ | ⟨a, b, p, q⟩ | ⟨a, b, p, q⟩ | ⟨a, b, p, q⟩ | ⟨a, p, q⟩
          · rw [p] at hB2; cases hB2
          · exact Or.inl ⟨a, b, q.symm⟩
          · rw [p] at hB2; cases hB2
          · exact Or.inr ⟨a, b, q.symm⟩
          · rw [p] at hB2; cases hB2
        have ho := orL (pW s k <<< 4) (digV c) vd.1 vd.2
        have HH : Hid (hI (pW s k <<< 4 ||| mkW 0 (digV c)) = hI (pW s k <<< 4)) := orH _ _
        clear hd hB1 hB2 HF HP hp
        have CS : ∀ W, Calls Try.prog 22 #[.agg #[.int .u64 (hI (pW s k)), .int .u64 (lI (pW s k))], .int .i64 4] W fun e w' => e = .returned (.agg #[.int .u64 (hI (pW s k <<< 4)), .int .u64 (lI (pW s k <<< 4))]) ∧ Below W.heap.size W w' := fun W => rshl_any (pW s k) 4 W
        generalize hv : digV c = v at *
        clear hv
        rcases hd' with ⟨h, h', he⟩ | ⟨h, h', he⟩
        all_goals
          obtain ⟨a0, a1, a2, a3, a4⟩ := id hA
          obtain ⟨r0, r1, r2, r3, r4⟩ := id hR
          go_wp2_with fail
          refine (CS _).mono ?_
          rintro e w1 ⟨rfl, hb1⟩
          have A1 := (hA.below hb1).set (pW s k <<< 4)
          have R1 := (hR.below hb1).other (.int .u64 (hI (pW s k <<< 4))) (.int .u64 (lI (pW s k <<< 4))) (show w.heap.size ≠ w.heap.size + 1 by omega)
          have kB := keepb hb1 hB
          have c0 := keepc hb1 a0
          have c1 := keepc hb1 a1
          have c2 := keepf hb1 a0 a2
          have c3 := keepf hb1 a1 a3
          clear hA hR hB hb1 a0 a1 a2 a3 a4 r0 r1 r2 r3 r4 CS
          go_wp2
          go_roundw
          case rel =>
            refine ⟨k + 1, by omega, by go_num, hp', ?_, ?_, ((kB.setCell (by simp) _).setCell (by simp) _).setCell (by simp) _⟩
            · rw [HW.out]; exact A1.setLo _ HH.out
            · exact R1.otherLo _ (by omega)
          case measure => simp [intOf]; omega
    · have hk8 : k = 32 := by omega
      subst hk8
      have HF : Hid (pOut s = pW s 32 ∧ pErr s = 0) := by show _ ∧ _; unfold pOut pErr; rw [if_pos hp.out, if_pos hp.out]; exact ⟨rfl, rfl⟩
      obtain ⟨a0, a1, a2, a3, a4⟩ := hA
      obtain ⟨r0, r1, r2, r3, r4⟩ := hR
      clear hlt hp
      go_wp2
      exact bodyPost_ret (v := .tuple #[.agg #[.int .u64 (hI (pW s 32)), .int .u64 (lI (pW s 32))], .int .i64 0]) (by simp [results, Try.results36, go_sem, *]) rfl ⟨by rw [HF.out.1, HF.out.2], (hB.setCell (by simp) _).setCell (by simp) _⟩
end Go.Proofs.Ytkahilfklgobpaa
