/-
  The law WordFields, walked.
-/
import Derived.Test.YtkahilfklgobpaaKnown
import Derived.Test.YtkahilfklgobpaaFld3
namespace Go.Proofs.Ytkahilfklgobpaa
open Go.RowKit
set_option linter.unusedSimpArgs false
set_option linter.unusedVariables false

/-- What Field tells: the number, the error. -/
def fldW (x : BitVec 128) (f n : Int) : BitVec 128 := if fitB f n = true then readW x f n else 0#128
def fldE (f n : Int) : Int := if fitB f n = true then 0 else 1
/-- What With tells. -/
def wthW (x : BitVec 128) (f n : Int) (v : BitVec 128) : BitVec 128 := if fitB f n = true then (if v >>> n.toNat = 0#128 then withW x f n v else 0#128) else 0#128
def wthE (f n : Int) (v : BitVec 128) : Int := if fitB f n = true then (if v >>> n.toNat = 0#128 then 0 else 6) else 1

theorem field_all (x : BitVec 128) (f n : Int) (w : World) :
    Calls Try.prog 31 #[.agg #[.int .u64 (hI x), .int .u64 (lI x)], .int .i64 f, .int .i64 n] w fun e w' => e = .returned (.tuple #[.agg #[.int .u64 (hI (fldW x f n)), .int .u64 (lI (fldW x f n))], .int .i64 (fldE f n)]) ∧ Below w.heap.size w w' := by
  unfold fldW fldE
  cases h : fitB f n
  · rw [if_neg (by simp), if_neg (by simp), hI_zero, lI_zero]; exact field_out x f n w h
  · rw [if_pos rfl, if_pos rfl]
    obtain ⟨h0, h1, h2, h3⟩ := fitB_t h
    exact field_in x f n w h0 h1 h2 h3
theorem rfield_all (x : BitVec 128) (f n : Int) (w : World) (hf : -9223372036854775808 ≤ f) (hf' : f ≤ 9223372036854775807) :
    Calls Try.prog 33 #[.agg #[.int .u64 (hI x), .int .u64 (lI x)], .int .i64 f, .int .i64 n] w fun e w' => e = .returned (.tuple #[.agg #[.int .u64 (hI (fldW x f n)), .int .u64 (lI (fldW x f n))], .int .i64 (fldE f n)]) ∧ Below w.heap.size w w' := by
  unfold fldW fldE
  cases h : fitB f n
  · rw [if_neg (by simp), if_neg (by simp), hI_zero, lI_zero]; exact rfield_out x f n w hf hf' h
  · rw [if_pos rfl, if_pos rfl]; exact rfield_in x f n w h
theorem with_all (x v : BitVec 128) (f n : Int) (w : World) :
    Calls Try.prog 32 #[.agg #[.int .u64 (hI x), .int .u64 (lI x)], .int .i64 f, .int .i64 n, .agg #[.int .u64 (hI v), .int .u64 (lI v)]] w fun e w' => e = .returned (.tuple #[.agg #[.int .u64 (hI (wthW x f n v)), .int .u64 (lI (wthW x f n v))], .int .i64 (wthE f n v)]) ∧ Below w.heap.size w w' := by
  unfold wthW wthE
  cases h : fitB f n
  · rw [if_neg (by simp), if_neg (by simp), hI_zero, lI_zero]; exact with_out x v f n w h
  · rw [if_pos rfl, if_pos rfl]
    by_cases hv : v >>> n.toNat = 0#128
    · rw [if_pos hv, if_pos hv]; exact with_in x v f n w h hv
    · rw [if_neg hv, if_neg hv, hI_zero, lI_zero]; exact with_wide x v f n w h hv
theorem rwith_all (x v : BitVec 128) (f n : Int) (w : World) (hf : -9223372036854775808 ≤ f) (hf' : f ≤ 9223372036854775807) :
    Calls Try.prog 34 #[.agg #[.int .u64 (hI x), .int .u64 (lI x)], .int .i64 f, .int .i64 n, .agg #[.int .u64 (hI v), .int .u64 (lI v)]] w fun e w' => e = .returned (.tuple #[.agg #[.int .u64 (hI (wthW x f n v)), .int .u64 (lI (wthW x f n v))], .int .i64 (wthE f n v)]) ∧ Below w.heap.size w w' := by
  unfold wthW wthE
  cases h : fitB f n
  · rw [if_neg (by simp), if_neg (by simp), hI_zero, lI_zero]; exact rwith_out x v f n w hf hf' h
  · rw [if_pos rfl, if_pos rfl]
    by_cases hv : v >>> n.toNat = 0#128
    · rw [if_pos hv, if_pos hv]; exact rwith_in x v f n w h hv
    · rw [if_neg hv, if_neg hv, hI_zero, lI_zero]; exact rwith_wide x v f n w h hv

set_option maxHeartbeats 4000000 in
theorem wordFields_any (x : BitVec 128) (f n : Int) (v : BitVec 128) (w : World) (hf : -9223372036854775808 ≤ f) (hf' : f ≤ 9223372036854775807) :
    Calls Try.prog 6 #[.agg #[.int .u64 (hI x), .int .u64 (lI x)], .int .i64 f, .int .i64 n, .agg #[.int .u64 (hI v), .int .u64 (lI v)]] w fun e w' => e = .returned (.bool true) ∧ Below w.heap.size w w' := by
  have C1 := fun w => field_all x f n w
  have C2 := fun w => with_all x v f n w
  have C3 := fun w => rfield_all x f n w hf hf'
  have C4 := fun w => rwith_all x v f n w hf hf'
  clear hf hf'
  revert C1 C2 C3 C4
  generalize fldW x f n = a
  generalize fldE f n = ae
  generalize wthW x f n v = b
  generalize wthE f n v = be
  intro C1 C2 C3 C4
  go_enter Try.func6, Try.ntmps6
  go_wp2_with fail
  refine (C1 _).mono ?_
  rintro e w1 ⟨rfl, hb1⟩
  have X := ((Rd.new w x 24).alloc (.cells #[.int .u64 (hI v), .int .u64 (lI v)] 24)).keep hb1
  have Y : Rd w1 (w.heap.size + 1) v := by
    have := (Rd.new (w.alloc (.cells #[.int .u64 (hI x), .int .u64 (lI x)] 24)) v 24).keep hb1
    simpa using this
  have kB := keepb hb1 (bl2 w _ _)
  clear hb1 C1
  have X1 := X.alloc (.cells #[.int .u64 (hI a), .int .u64 (lI a)] 24)
  have Y1 := Y.alloc (.cells #[.int .u64 (hI a), .int .u64 (lI a)] 24)
  have A1 := Rd.new w1 a 24
  have x0 := X1.1
  have x1 := X1.2
  have y0 := Y1.1
  have y1 := Y1.2
  go_wp2_with fail
  refine (C2 _).mono ?_
  rintro e w2 ⟨rfl, hb2⟩
  clear x0 x1 y0 y1 C2
  have kB2 := keepb hb2 (kB.alloc kB.size _)
  have X2 := (X1.keep hb2).alloc (.cells #[.int .u64 (hI b), .int .u64 (lI b)] 24)
  have Y2 := (Y1.keep hb2).alloc (.cells #[.int .u64 (hI b), .int .u64 (lI b)] 24)
  have A2 := (A1.keep hb2).alloc (.cells #[.int .u64 (hI b), .int .u64 (lI b)] 24)
  have D2 := Rd.new w2 b 24
  clear X Y X1 Y1 A1 kB hb2
  have x0 := X2.1
  have x1 := X2.2
  have y0 := Y2.1
  have y1 := Y2.2
  go_wp2_with fail
  refine (C3 _).mono ?_
  rintro e w3 ⟨rfl, hb3⟩
  clear x0 x1 y0 y1 C3
  have kB3 := keepb hb3 (kB2.alloc kB2.size _)
  have X3 := (X2.keep hb3).alloc (.cells #[.int .u64 (hI a), .int .u64 (lI a)] 24)
  have Y3 := (Y2.keep hb3).alloc (.cells #[.int .u64 (hI a), .int .u64 (lI a)] 24)
  have A3 := (A2.keep hb3).alloc (.cells #[.int .u64 (hI a), .int .u64 (lI a)] 24)
  have D3 := (D2.keep hb3).alloc (.cells #[.int .u64 (hI a), .int .u64 (lI a)] 24)
  have B3 := Rd.new w3 a 24
  clear X2 Y2 A2 D2 kB2 hb3
  have x0 := X3.1
  have x1 := X3.2
  have y0 := Y3.1
  have y1 := Y3.2
  go_wp2_with fail
  refine (C4 _).mono ?_
  rintro e w4 ⟨rfl, hb4⟩
  clear x0 x1 y0 y1 C4
  have kB4 := (keepb hb4 (kB3.alloc kB3.size _))
  have A4 := (A3.keep hb4).alloc (.cells #[.int .u64 (hI b), .int .u64 (lI b)] 24)
  have D4 := (D3.keep hb4).alloc (.cells #[.int .u64 (hI b), .int .u64 (lI b)] 24)
  have B4 := (B3.keep hb4).alloc (.cells #[.int .u64 (hI b), .int .u64 (lI b)] 24)
  have E4 := Rd.new w4 b 24
  have kB5 := kB4.alloc kB4.size (.cells #[.int .u64 (hI b), .int .u64 (lI b)] 24)
  clear X3 Y3 A3 D3 B3 kB3 hb4 kB4
  obtain ⟨a0, a1⟩ := A4
  obtain ⟨b0, b1⟩ := B4
  obtain ⟨d0, d1⟩ := D4
  obtain ⟨f0, f1⟩ := E4
  go_wp2_with fail
  refine (known_any _).mono ?_
  rintro e w7 ⟨rfl, hb7⟩
  have a0' := keepc hb7 a0
  have a1' := keepc hb7 a1
  have b0' := keepc hb7 b0
  have b1' := keepc hb7 b1
  have d0' := keepc hb7 d0
  have d1' := keepc hb7 d1
  have f0' := keepc hb7 f0
  have f1' := keepc hb7 f1
  have kB := keepb hb7 kB5
  clear a0 a1 b0 b1 d0 d1 f0 f1 hb7 kB5
  go_wp2
  go_ret
  exact ⟨rfl, kB⟩
end Go.Proofs.Ytkahilfklgobpaa
