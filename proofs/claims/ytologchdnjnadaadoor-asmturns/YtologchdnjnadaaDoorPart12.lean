/-
  Part 12 of the proof: 2 texts, one behind the other.
-/
import Derived.Test.YtologchdnjnadaaDoorPart11
/-
  The document's number.
-/
namespace Go.Proofs.YtologchdnjnadaaDoor
open Go.RowKit
set_option linter.unusedSimpArgs false
set_option linter.unusedVariables false

/-- All digits: their number. -/
def dgA : Nat → List UInt8 → Option Nat
  | n, [] => some n
  | n, c :: L => if isD c = true then dgA (10 * n + (c.toNat - 48)) L else none
theorem dgA_dg : ∀ (y : List UInt8) (f a : Nat), y.length ≤ f → (if (dgP f a y).2 = y.length then some (dgP f a y).1 else none) = dgA a y
  | [], f, a, _ => by cases f <;> rfl
  | c :: y, 0, a, h => by simp at h
  | c :: y, f + 1, a, h => by
    by_cases hc : isD c = true
    · have e : dgP (f + 1) a (c :: y) = ((dgP f (10 * a + (c.toNat - 48)) y).1, (dgP f (10 * a + (c.toNat - 48)) y).2 + 1) := by
        show (if isD c = true then _ else _) = _
        rw [if_pos hc]
      have e2 : dgA a (c :: y) = dgA (10 * a + (c.toNat - 48)) y := by show (if isD c = true then _ else _) = _; rw [if_pos hc]
      rw [e, e2, ← dgA_dg y f _ (by simp at h; omega)]
      simp only [List.length_cons, Nat.add_right_cancel_iff]
    · have e : dgP (f + 1) a (c :: y) = (a, 0) := by
        show (if isD c = true then _ else _) = _
        rw [if_neg hc]
      have e2 : dgA a (c :: y) = none := by show (if isD c = true then _ else _) = _; rw [if_neg hc]
      rw [e, e2]
      simp
theorem w64_sum (n d : Nat) (hn : n < 100000000) (hd : d < 10) : wrap64 (10 * (n : Int) + (d : Int)) = ((10 * n + d : Nat) : Int) := by
  unfold wrap64; omega
def nuI (o : Option Nat) : Int := match o with | some n => (n : Int) | none => -1
set_option maxRecDepth 20000 in
set_option maxHeartbeats 4000000 in
theorem rdnumber_any (s : ByteArray) (w : World) :
    Calls Tryd.prog 40 #[.string s] w fun e w' => e = .returned (.int .i64 (nuI (numD (fr s 0)))) ∧ w' = w := by
  have hln : (fr s 0).length = s.size := by rw [fr_len]; omega
  obtain ⟨r, hr⟩ : ∃ r, r = numD (fr s 0) := ⟨_, rfl⟩
  rw [← hr]
  by_cases h1 : s.size < 1
  · have HR : Hid (r = none) := hid13 (by rw [hr]; unfold numD; rw [hln, if_pos (.inl h1)])
    have h1i : (s.size : Int) < 1 := by omega
    clear hln hr h1
    go_enter Tryd.func40, Tryd.ntmps40
    go_wp2
    go_ret
    exact ⟨by rw [HR.out]; rfl, rfl⟩
  have h1i : ¬ (s.size : Int) < 1 := by omega
  by_cases h9 : 9 < s.size
  · have HR : Hid (r = none) := hid13 (by rw [hr]; unfold numD; rw [hln, if_pos (.inr (.inl h9))])
    have h9i : (9 : Int) < (s.size : Int) := by omega
    clear hln hr h9 h1
    go_enter Tryd.func40, Tryd.ntmps40
    go_wp2
    go_ret
    exact ⟨by rw [HR.out]; rfl, rfl⟩
  have h9i : ¬ (9 : Int) < (s.size : Int) := by omega
  have hlt0 : 0 < s.size := by omega
  have hb0 := byteAt_in s 0 hlt0
  obtain ⟨c0, hc01, hc02⟩ := fr_cons (s := s) (k := 0) hlt0
  have hhd : (fr s 0).head? = some c0 := by rw [hc01]; rfl
  have h0i : (0 : Int) < (s.size : Int) := by omega
  have tail : ∀ (W : Prop), W → W := fun _ h => h
  by_cases hz : 1 < s.size ∧ c0 = 48
  · have HR : Hid (r = none) := hid13 (by rw [hr]; unfold numD; rw [hln, hhd, if_pos (.inr (.inr ⟨hz.1, by rw [hz.2]⟩))])
    have hzi : (1 : Int) < (s.size : Int) := by omega
    have hb1 : (s[0].toNat : Int) = 48 := by rw [hb0, hc02, hz.2]; rfl
    clear hln hr h9 h1 hz hb0 hc01 hc02 hhd tail
    go_enter Tryd.func40, Tryd.ntmps40
    go_wp2
    go_ret
    exact ⟨by rw [HR.out]; rfl, rfl⟩
  have HE : Hid (dgA 0 (fr s 0) = r) := hid13 (by
    rw [hr]
    unfold numD
    rw [if_neg (by rw [hln, hhd]; intro h; rcases h with h | h | h; exact h1 h; exact h9 h; exact hz ⟨h.1, by simpa using h.2⟩), dgA_dg _ 9 0 (by omega)])
  have HS9 : Hid (s.size ≤ 9) := hid13 (by omega)
  by_cases hz1 : 1 < s.size
  · have hzi : (1 : Int) < (s.size : Int) := by omega
    have hb1 : ((s[0].toNat : Int) == 48) = false := by
      rw [beq_eq_false_iff_ne, hb0, hc02]
      intro e
      exact hz ⟨hz1, UInt8.toNat_inj.1 (by have : (48 : UInt8).toNat = 48 := rfl; omega)⟩
    clear hln hr h9 h1 hz hb0 hc01 hc02 hhd tail hz1
    go_enter Tryd.func40, Tryd.ntmps40
    go_wp2
    go_loopg [3, 4] s.size (fun g x3 x4 wr => ∃ (j n : Nat), j + g = s.size ∧ x3 = .int .i64 (n : Int) ∧ x4 = .int .i64 (j : Int) ∧ Hid (dgA n (fr s j) = r ∧ n < 10 ^ j) ∧ wr = w)
    case atStart => exact ⟨0, 0, by omega, rfl, rfl, hid13 ⟨HE.out, by simp⟩, rfl⟩
    case round =>
      obtain ⟨j, n, hj, rfl, rfl, HS, rfl⟩ := hrel
      by_cases hlt : j < s.size
      · have hli : (j : Int) < (s.size : Int) := by omega
        have hb := byteAt_in s j hlt
        obtain ⟨c, hc1, hc2⟩ := fr_cons (s := s) (k := j) hlt
        rw [hc2] at hb
        obtain ⟨cc, hcc⟩ : ∃ cc : Int, cc = (c.toNat : Int) := ⟨_, rfl⟩
        rw [← hcc] at hb
        have hE := HS.out.1
        rw [hc1] at hE
        have hnb : n < 100000000 := by
          have h1 := HS.out.2
          have h2 : 10 ^ j ≤ 10 ^ 8 := Nat.pow_le_pow_right (by decide) (by have := HS9.out; omega)
          have : 10 ^ 8 = 100000000 := by decide
          omega
        have HJ : Hid (j + gk = s.size ∧ n < 10 ^ j) := ⟨hj, HS.out.2⟩
        have mj : IntKind.i64.wrap ((j : Int) + 1) = (j : Int) + 1 := by rw [IntKind.wrap_i64]; have := HS9.out; omega
        by_cases d1 : cc < 48
        · have HR : Hid (r = none) := hid13 (by rw [← hE]; show (if isD c = true then _ else _) = _; rw [if_neg (by unfold isD; simp; omega)])
          clear hc1 hc2 hE HS hnb hj hcc
          go_wp2
          go_ret
          exact ⟨by rw [HR.out]; rfl, rfl⟩
        by_cases d2 : 57 < cc
        · have HR : Hid (r = none) := hid13 (by rw [← hE]; show (if isD c = true then _ else _) = _; rw [if_neg (by unfold isD; simp; omega)])
          clear hc1 hc2 hE HS hnb hj hcc
          go_wp2
          go_ret
          exact ⟨by rw [HR.out]; rfl, rfl⟩
        · obtain ⟨d, hd⟩ : ∃ d : Nat, cc - 48 = (d : Int) := ⟨(cc - 48).toNat, by omega⟩
          have hd10 : d < 10 := by omega
          have HP : Hid (10 * n + d < 10 ^ (j + 1)) := hid13 (by have := HJ.out.2; clear hnb; rw [Nat.pow_succ]; omega)
          have HE2 : Hid (dgA (10 * n + d) (fr s (j + 1)) = r) := hid13 (by rw [← hE]; symm; show (if isD c = true then _ else _) = _; rw [if_pos (by unfold isD; simp; omega), show c.toNat - 48 = d by omega])
          have m4 : IntKind.u8.wrap (cc - 48) = (d : Int) := by rw [hd]; simp [IntKind.wrap, IntKind.bits, IntKind.signed]; omega
          have m5 : wrap64 (d : Int) = (d : Int) := by unfold wrap64; omega
          have m6 : IntKind.i64.wrap (10 * (n : Int)) = 10 * (n : Int) := by rw [IntKind.wrap_i64]; omega
          have m7 := w64_sum n d hnb hd10
          have HD : Hid (wrap64 (10 * (n : Int) + (d : Int)) = ((10 * n + d : Nat) : Int)) := hid13 m7
          clear hc1 hc2 hE HS hnb hj hcc hd10 hd m7
          go_wp2
          go_roundg (gk - 1)
          case measure => have := HJ.out; omega
          case rel => exact ⟨j + 1, 10 * n + d, by have := HJ.out; omega, by first | (rw [HD.out]) | (push_cast; rfl), rfl, hid13 ⟨HE2.out, HP.out⟩, rfl⟩
      · have hli : ¬ (j : Int) < (s.size : Int) := by omega
        have HR : Hid (r = some n) := hid13 (by rw [← HS.out.1, fr_nil (by omega)]; rfl)
        clear hj hlt
        go_wp2
        go_ret
        exact ⟨by rw [HR.out]; rfl, rfl⟩
  · have hzi : ¬ (1 : Int) < (s.size : Int) := by omega
    clear hln hr h9 h1 hz hb0 hc01 hc02 hhd tail hz1
    go_enter Tryd.func40, Tryd.ntmps40
    go_wp2
    go_loopg [3, 4] s.size (fun g x3 x4 wr => ∃ (j n : Nat), j + g = s.size ∧ x3 = .int .i64 (n : Int) ∧ x4 = .int .i64 (j : Int) ∧ Hid (dgA n (fr s j) = r ∧ n < 10 ^ j) ∧ wr = w)
    case atStart => exact ⟨0, 0, by omega, rfl, rfl, hid13 ⟨HE.out, by simp⟩, rfl⟩
    case round =>
      obtain ⟨j, n, hj, rfl, rfl, HS, rfl⟩ := hrel
      by_cases hlt : j < s.size
      · have hli : (j : Int) < (s.size : Int) := by omega
        have hb := byteAt_in s j hlt
        obtain ⟨c, hc1, hc2⟩ := fr_cons (s := s) (k := j) hlt
        rw [hc2] at hb
        obtain ⟨cc, hcc⟩ : ∃ cc : Int, cc = (c.toNat : Int) := ⟨_, rfl⟩
        rw [← hcc] at hb
        have hE := HS.out.1
        rw [hc1] at hE
        have hnb : n < 100000000 := by
          have h1 := HS.out.2
          have h2 : 10 ^ j ≤ 10 ^ 8 := Nat.pow_le_pow_right (by decide) (by have := HS9.out; omega)
          have : 10 ^ 8 = 100000000 := by decide
          omega
        have HJ : Hid (j + gk = s.size ∧ n < 10 ^ j) := ⟨hj, HS.out.2⟩
        have mj : IntKind.i64.wrap ((j : Int) + 1) = (j : Int) + 1 := by rw [IntKind.wrap_i64]; have := HS9.out; omega
        by_cases d1 : cc < 48
        · have HR : Hid (r = none) := hid13 (by rw [← hE]; show (if isD c = true then _ else _) = _; rw [if_neg (by unfold isD; simp; omega)])
          clear hc1 hc2 hE HS hnb hj hcc
          go_wp2
          go_ret
          exact ⟨by rw [HR.out]; rfl, rfl⟩
        by_cases d2 : 57 < cc
        · have HR : Hid (r = none) := hid13 (by rw [← hE]; show (if isD c = true then _ else _) = _; rw [if_neg (by unfold isD; simp; omega)])
          clear hc1 hc2 hE HS hnb hj hcc
          go_wp2
          go_ret
          exact ⟨by rw [HR.out]; rfl, rfl⟩
        · obtain ⟨d, hd⟩ : ∃ d : Nat, cc - 48 = (d : Int) := ⟨(cc - 48).toNat, by omega⟩
          have hd10 : d < 10 := by omega
          have HP : Hid (10 * n + d < 10 ^ (j + 1)) := hid13 (by have := HJ.out.2; clear hnb; rw [Nat.pow_succ]; omega)
          have HE2 : Hid (dgA (10 * n + d) (fr s (j + 1)) = r) := hid13 (by rw [← hE]; symm; show (if isD c = true then _ else _) = _; rw [if_pos (by unfold isD; simp; omega), show c.toNat - 48 = d by omega])
          have m4 : IntKind.u8.wrap (cc - 48) = (d : Int) := by rw [hd]; simp [IntKind.wrap, IntKind.bits, IntKind.signed]; omega
          have m5 : wrap64 (d : Int) = (d : Int) := by unfold wrap64; omega
          have m6 : IntKind.i64.wrap (10 * (n : Int)) = 10 * (n : Int) := by rw [IntKind.wrap_i64]; omega
          have m7 := w64_sum n d hnb hd10
          have HD : Hid (wrap64 (10 * (n : Int) + (d : Int)) = ((10 * n + d : Nat) : Int)) := hid13 m7
          clear hc1 hc2 hE HS hnb hj hcc hd10 hd m7
          go_wp2
          go_roundg (gk - 1)
          case measure => have := HJ.out; omega
          case rel => exact ⟨j + 1, 10 * n + d, by have := HJ.out; omega, by first | (rw [HD.out]) | (push_cast; rfl), rfl, hid13 ⟨HE2.out, HP.out⟩, rfl⟩
      · have hli : ¬ (j : Int) < (s.size : Int) := by omega
        have HR : Hid (r = some n) := hid13 (by rw [← HS.out.1, fr_nil (by omega)]; rfl)
        clear hj hlt
        go_wp2
        go_ret
        exact ⟨by rw [HR.out]; rfl, rfl⟩
end Go.Proofs.YtologchdnjnadaaDoor
/-
  The document's pieces.
-/
namespace Go.Proofs.YtologchdnjnadaaDoor
open Go.RowKit
set_option linter.unusedSimpArgs false
set_option linter.unusedVariables false

def cS (x : ByteArray) : Value := .string x
theorem Tryd.infoS15 : (Tryd.prog.info? 9).map (fun i => (i.zero, i.size, i.bytes)) = some (some (.string ⟨#[]⟩), 1, 16) := by kernel_rfl
theorem fr_sub (s : ByteArray) (a b : Nat) (h : b ≤ s.size) : fr (s.extract a b) 0 = (fr s a).take (b - a) := by
  unfold fr
  rw [List.drop_zero, ByteArray.data_extract, Array.toList_extract, List.extract_eq_take_drop]
theorem take_blank {s : ByteArray} {a i : Nat} {c : UInt8} (ha : a ≤ i) (h1 : fr s i = c :: fr s (i + 1)) : fr s a = (fr s a).take (i - a) ++ c :: fr s (i + 1) := by
  have e : (fr s a).drop (i - a) = fr s i := by rw [fr_drop]; congr 1; omega
  calc fr s a = (fr s a).take (i - a) ++ (fr s a).drop (i - a) := (List.take_append_drop _ _).symm
    _ = _ := by rw [e, h1]
theorem take_next {s : ByteArray} {a i : Nat} {c : UInt8} (ha : a ≤ i) (h1 : fr s i = c :: fr s (i + 1)) : (fr s a).take (i + 1 - a) = (fr s a).take (i - a) ++ [c] := by
  have e : (fr s a).drop (i - a) = c :: fr s (i + 1) := by rw [fr_drop, ← h1]; congr 1; omega
  rw [show i + 1 - a = (i - a) + 1 by omega, List.take_add_one]
  congr 1
  rw [← List.head?_drop, e]
  rfl
/-- What is known ahead of a round: the pieces so far, and from where on the next one goes. -/
def PcS (s : ByteArray) (i a : Nat) (P : List ByteArray) : Prop :=
  (i ≤ s.size ∧ a ≤ i ∧ (∀ c ∈ (fr s a).take (i - a), c ≠ 32) ∧ P.map (fun x => fr x 0) ++ spl (fr s a) = spl (fr s 0)) ∨ (i = s.size + 1 ∧ P.map (fun x => fr x 0) = spl (fr s 0))
theorem PcS.piece {s : ByteArray} {i a : Nat} {P : List ByteArray} (h : PcS s i a P) (hi : i < s.size) (hb : byteAt s i = 32) : PcS s (i + 1) (i + 1) (P ++ [s.extract a i]) := by
  rcases h with ⟨h1, h2, h3, h4⟩ | ⟨h1, -⟩
  · obtain ⟨c, e1, e2⟩ := fr_cons hi
    have hc : c = 32 := UInt8.toNat_inj.1 (by have : (32 : UInt8).toNat = 32 := rfl; omega)
    subst hc
    refine .inl ⟨by omega, Nat.le_refl _, by simp, ?_⟩
    rw [← h4, take_blank h2 e1, spl_app _ _ h3]
    simp [fr_sub s a i (by omega)]
  · omega
theorem PcS.skip {s : ByteArray} {i a : Nat} {P : List ByteArray} (h : PcS s i a P) (hi : i < s.size) (hb : ¬ byteAt s i = 32) : PcS s (i + 1) a P := by
  rcases h with ⟨h1, h2, h3, h4⟩ | ⟨h1, -⟩
  · obtain ⟨c, e1, e2⟩ := fr_cons hi
    refine .inl ⟨by omega, by omega, fun x hx => ?_, h4⟩
    rw [take_next h2 e1] at hx
    rcases List.mem_append.1 hx with hx | hx
    · exact h3 x hx
    · rw [List.mem_singleton] at hx
      subst hx
      rintro rfl
      exact hb e2
  · omega
theorem PcS.last {s : ByteArray} {a : Nat} {P : List ByteArray} (h : PcS s s.size a P) : PcS s (s.size + 1) (s.size + 1) (P ++ [s.extract a s.size]) ∧ a ≤ s.size := by
  rcases h with ⟨h1, h2, h3, h4⟩ | ⟨h1, -⟩
  · refine ⟨.inr ⟨rfl, ?_⟩, h2⟩
    have e : (fr s a).take (s.size - a) = fr s a := by rw [← fr_len]; exact List.take_length
    rw [← h4, List.map_append, List.map_cons, List.map_nil, fr_sub s a s.size (Nat.le_refl _), e]
    rw [e] at h3
    rw [spl_own _ h3]
  · omega
theorem PcS.from {s : ByteArray} {i a : Nat} {P : List ByteArray} (h : PcS s i a P) (hi : i ≤ s.size) : a ≤ i := by
  rcases h with ⟨-, h2, -⟩ | ⟨h1, -⟩
  · exact h2
  · omega
set_option maxRecDepth 20000 in
set_option maxHeartbeats 4000000 in
theorem rpieces_any (s : ByteArray) (w : World) (hs : s.size ≤ 1000000) :
    Calls Tryd.prog 37 #[.string s] w fun e w' => ∃ (v : Value) (P : List ByteArray), e = .returned v ∧ w'.ownsRow w.heap.size 9 1 v P.length (P.map cS) ∧ Below w.heap.size w w' ∧ P.map (fun x => fr x 0) = spl (fr s 0) := by
  obtain ⟨i0, hi, hz0, hz1, hz2⟩ := info13 Tryd.infoS15
  have HS0 : Hid (w.ownsRow w.heap.size 9 1 (.slice none 0 0) ([] : List ByteArray).length (([] : List ByteArray).map cS) ∧ Below w.heap.size w w ∧ PcS s 0 0 [] ∧ ([] : List ByteArray).length ≤ 0) := hid13 ⟨World.ownsRow_nil _ _ _ _, Below.refl _ _, .inl ⟨Nat.zero_le _, Nat.le_refl _, by simp, by simp⟩, by simp⟩
  have HSZ := hid13 hs
  clear hs
  go_enter Tryd.func37, Tryd.ntmps37
  go_wp2
  go_loopg [3, 4, 5] (s.size + 1) (fun g x3 x4 x5 wr => ∃ (i a : Nat) (P : List ByteArray), i + g = s.size + 1 ∧ x4 = .int .i64 (a : Int) ∧ x5 = .int .i64 (i : Int) ∧ Hid (wr.ownsRow w.heap.size 9 1 x3 P.length (P.map cS) ∧ Below w.heap.size w wr ∧ PcS s i a P ∧ P.length ≤ i))
  case atStart => exact ⟨0, 0, [], by omega, rfl, rfl, HS0⟩
  case round =>
    clear HS0
    obtain ⟨i, a, P, hj, rfl, rfl, HS⟩ := hrel
    obtain ⟨xo, xc, hxf⟩ := own_form HS.out.1
    subst hxf
    have mi : IntKind.i64.wrap ((i : Int) + 1) = (i : Int) + 1 := by rw [IntKind.wrap_i64]; have := HSZ.out; omega
    by_cases hle : i ≤ s.size
    · have hli : (i : Int) ≤ (s.size : Int) := by omega
      have hai := HS.out.2.2.1.from hle
      have haii : (a : Int) ≤ (i : Int) := by omega
      have hPl := HS.out.2.2.2
      have h63 : P.length + 1 ≤ maxLen := by unfold maxLen; have := HSZ.out; omega
      have h47 : (P.length + 1) * 16 ≤ 140737488355328 := by have := HSZ.out; omega
      have HJ : Hid (i + gk = s.size + 1 ∧ i ≤ s.size ∧ a ≤ i ∧ P.length ≤ i) := ⟨hj, hle, hai, hPl⟩
      have H47 : Hid (P.length + 1 ≤ maxLen ∧ (P.length + 1) * 16 ≤ 140737488355328) := ⟨h63, h47⟩
      have q9 := bl1 wr (.cells #[.string (s.extract a i)] 9)
      have HO := hid13 (own_b13 q9 HS.out.1)
      have HSZ9 : Hid (w.heap.size ≤ (wr.alloc (.cells #[.string (s.extract a i)] 9)).heap.size) := hid13 (Nat.le_trans HS.out.2.1.size q9.size)
      have HB9 := hid13 (keepb q9 HS.out.2.1)
      clear q9 h63 h47 hPl hai
      by_cases he : i = s.size
      · subst he
        have HN := hid13 HS.out.2.2.1.last
        clear hj hle HS
        go_wp2_with (at_builtin; apply stopHere9)
        refine (show wpList _ _ _ _ _ _ from ?_)
        refine wpList_append_lies _ rfl _ _ 80 rfl w.heap.size 9 i0 (.string ⟨#[]⟩) 1 16 Tryd.underlying80 hi hz0 hz1 hz2 rfl (by decide) _ _ _ rfl HO.out ⟨wr.heap.size, 0, none⟩ 1 1 [.string (s.extract a s.size)] rfl rfl (news13 (by simp [go_sem])) (by intro u hu; simp at hu; subst hu; rfl) (by decide) H47.out.1 H47.out.2 HSZ9.out _ rfl ?_
        intro g4 cap4 w4 hown4 hgrow hat hlt4
        have HZ : Hid (w4.ownsRow w.heap.size 9 1 (.slice (some ⟨g4, 0, none⟩) (P.length + 1) cap4) (P ++ [s.extract a s.size]).length ((P ++ [s.extract a s.size]).map cS) ∧ Below w.heap.size w w4) := hid13 ⟨by rw [List.length_append, List.map_append]; exact hown4, HB9.out.grown hgrow HSZ9.out (fun z e => (HO.out.lt z e).1)⟩
        clear hown4 hgrow hat hlt4 HO H47 HSZ9 HB9
        go_wp2
        go_roundg (gk - 1)
        case measure => have := HJ.out; omega
        case rel => exact ⟨s.size + 1, s.size + 1, P ++ [s.extract a s.size], by have := HJ.out; omega, rfl, rfl, hid13 ⟨HZ.out.1, HZ.out.2, HN.out.1, by have := HJ.out; rw [List.length_append, List.length_singleton]; omega⟩⟩
      · have hlt : i < s.size := by omega
        have hlti : (i : Int) < (s.size : Int) := by omega
        have hne : ((i : Int) == (s.size : Int)) = false := by rw [beq_eq_false_iff_ne]; omega
        have hb := byteAt_in s i hlt
        by_cases hc : byteAt s i = 32
        · have HN := hid13 (HS.out.2.2.1.piece hlt hc)
          rw [hc] at hb
          clear hj hle HS hc he
          go_wp2_with (at_builtin; apply stopHere9)
          refine (show wpList _ _ _ _ _ _ from ?_)
          refine wpList_append_lies _ rfl _ _ 80 rfl w.heap.size 9 i0 (.string ⟨#[]⟩) 1 16 Tryd.underlying80 hi hz0 hz1 hz2 rfl (by decide) _ _ _ rfl HO.out ⟨wr.heap.size, 0, none⟩ 1 1 [.string (s.extract a i)] rfl rfl (news13 (by simp [go_sem])) (by intro u hu; simp at hu; subst hu; rfl) (by decide) H47.out.1 H47.out.2 HSZ9.out _ rfl ?_
          intro g4 cap4 w4 hown4 hgrow hat hlt4
          have HZ : Hid (w4.ownsRow w.heap.size 9 1 (.slice (some ⟨g4, 0, none⟩) (P.length + 1) cap4) (P ++ [s.extract a i]).length ((P ++ [s.extract a i]).map cS) ∧ Below w.heap.size w w4) := hid13 ⟨by rw [List.length_append, List.map_append]; exact hown4, HB9.out.grown hgrow HSZ9.out (fun z e => (HO.out.lt z e).1)⟩
          clear hown4 hgrow hat hlt4 HO H47 HSZ9 HB9
          go_wp2
          go_roundg (gk - 1)
          case measure => have := HJ.out; omega
          case rel => exact ⟨i + 1, i + 1, P ++ [s.extract a i], by have := HJ.out; omega, rfl, rfl, hid13 ⟨HZ.out.1, HZ.out.2, HN.out, by have := HJ.out; rw [List.length_append, List.length_singleton]; omega⟩⟩
        · have HN := hid13 (HS.out.2.2.1.skip hlt hc)
          have hc2 : (byteAt s i == 32) = false := by rw [beq_eq_false_iff_ne]; exact hc
          have HR := hid13 HS.out.1
          have HRb := hid13 HS.out.2.1
          generalize byteAt s i = bb at *
          clear hj hle HS hc he HO H47 HSZ9 HB9
          go_wp2
          go_roundg (gk - 1)
          case measure => have := HJ.out; omega
          case rel => exact ⟨i + 1, a, P, by have := HJ.out; omega, rfl, rfl, hid13 ⟨HR.out, HRb.out, HN.out, by have := HJ.out; omega⟩⟩
    · have hli : ¬ (i : Int) ≤ (s.size : Int) := by omega
      have HF : Hid (P.map (fun x => fr x 0) = spl (fr s 0)) := hid13 (by
        rcases HS.out.2.2.1 with ⟨h, -⟩ | ⟨-, h⟩
        · exact absurd h hle
        · exact h)
      clear hj hle
      go_wp2
      go_ret
      first | exact ⟨_, P, rfl, HS.out.1, HS.out.2.1, HF.out⟩ | exact ⟨_, rfl, P, HS.out.1, HS.out.2.1, HF.out⟩
end Go.Proofs.YtologchdnjnadaaDoor
