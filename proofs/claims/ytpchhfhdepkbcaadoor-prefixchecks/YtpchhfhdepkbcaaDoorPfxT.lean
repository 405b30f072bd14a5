/-
  What the calls of package addr's Text (family 32, errors) and package prefix's Text do, and the law's first example.
-/
import Derived.Test.YtpchhfhdepkbcaaDoorPfxR
import Derived.Test.YtpchhfhdepkbcaaDoorW4
import Derived.Lib.ItoaLen
namespace Go.Proofs.YtpchhfhdepkbcaaDoor
open Go.RowKit
set_option linter.unusedSimpArgs false
set_option linter.unusedVariables false

set_option maxHeartbeats 1000000 in
theorem atext_four (x : BitVec 128) (w : World) (hP : Pow w) (h : rightE 32 x = 0) :
    Calls Tryd.prog 9 #[.int .i64 32, .agg #[.int .u64 (hI x), .int .u64 (lI x)]] w fun e w' => e = .returned (.tuple #[.string (text4 x), .int .i64 0]) ∧ Below w.heap.size w w' := by
  have KR := fun w => aright_any 32 x w
  rw [h] at KR
  go_enter Tryd.func9, Tryd.ntmps9
  go_wp2_with fail
  refine (KR _).mono ?_
  rintro e w1 ⟨rfl, hb1⟩
  have kB := keepb hb1 (bl1 w _)
  obtain ⟨x0, x1, -, -, -⟩ := (at_new w w.heap.size x 24 rfl).below hb1
  clear hb1 KR
  go_wp2_with fail
  refine (writeFour_any x _ (hP.keep kB)).mono ?_
  rintro e w2 ⟨rfl, hb2⟩
  have kB2 := keepb hb2 kB
  clear hb2 x0 x1
  go_wp2
  go_ret2
  exact ⟨rfl, kB2⟩
set_option maxHeartbeats 1000000 in
theorem atext_err (F : Int) (x : BitVec 128) (w : World) (h : ¬ rightE F x = 0) :
    Calls Tryd.prog 9 #[.int .i64 F, .agg #[.int .u64 (hI x), .int .u64 (lI x)]] w fun e w' => e = .returned (.tuple #[.string ⟨#[]⟩, .int .i64 (rightE F x)]) ∧ Below w.heap.size w w' := by
  have KR := fun w => aright_any F x w
  have hb : (rightE F x != 0) = true := by simp [h]
  generalize rightE F x = r at *
  go_enter Tryd.func9, Tryd.ntmps9
  go_wp2_with fail
  refine (KR _).mono ?_
  rintro e w1 ⟨rfl, hb1⟩
  have kB := keepb hb1 (bl1 w _)
  clear hb1 KR
  go_wp2
  go_ret2
  exact ⟨rfl, kB⟩

/-- The text of a prefix: an address's, a slash, the length. -/
def slashed (t : ByteArray) (n : Int) : ByteArray := t ++ ⟨#[47]⟩ ++ ⟨(Lib.itoa n).toArray⟩
set_option maxHeartbeats 2000000 in
theorem ptext_of (F : Int) (x : BitVec 128) (n : Int) (t : ByteArray) (e0 : Int) (w : World) (hP : Pow w) (hc : checkE F x n = 0) (h0 : 0 ≤ n) (h1 : n ≤ 128) (ht : t.size ≤ 1000)
    (KT : ∀ w, Pow w → Calls Tryd.prog 9 #[.int .i64 F, .agg #[.int .u64 (hI x), .int .u64 (lI x)]] w fun e w' => e = .returned (.tuple #[.string t, .int .i64 e0]) ∧ Below w.heap.size w w') :
    Calls Tryd.prog 59 #[.int .i64 F, .agg #[.int .u64 (hI x), .int .u64 (lI x), .int .i64 n]] w fun e w' => e = .returned (.tuple #[.string (slashed t n), .int .i64 0]) ∧ Below w.heap.size w w' := by
  have KC := fun w => pcheck_any F x n w
  rw [hc] at KC
  clear hc
  have KI := fun w hP => itoa_any n (by omega) (by omega) w hP
  have hl := Lib.itoa_length_le n (by omega) (by omega)
  unfold slashed
  generalize hd : (⟨(Lib.itoa n).toArray⟩ : ByteArray) = d at *
  have hds : d.size ≤ 21 := by rw [← hd]; exact hl
  have hts : (t ++ ⟨#[47]⟩).size = t.size + 1 := by rw [ByteArray.size_append]; rfl
  have hlen1 : ¬ 9223372036854775807 < t.size + 1 := by omega
  have hlen2 : ¬ 9223372036854775807 < t.size + 1 + d.size := by omega
  have HS : Hid ((t ++ ⟨#[47]⟩).size = t.size + 1) := hts
  clear hd hl hts
  go_enter Tryd.func59, Tryd.ntmps59
  go_wp2_with fail
  refine (KC _).mono ?_
  rintro e w1 ⟨rfl, hb1⟩
  have P1 := (atp_new w w.heap.size x n 41 rfl).below hb1
  have kB1 := keepb hb1 (bl1 w _)
  clear hb1 KC
  obtain ⟨p0, p1, p2, -, -, -⟩ := id P1
  go_wp2_with fail
  refine (KT _ (hP.keep kB1)).mono ?_
  rintro e w2 ⟨rfl, hb2⟩
  have kB2 := keepb hb2 kB1
  clear p0 p1 p2
  obtain ⟨p0, p1, p2, -, -, -⟩ := P1.below hb2
  clear hb2 KT kB1 P1
  go_wp2_with fail
  refine (KI _ (hP.keep kB2)).mono ?_
  rintro e w3 ⟨rfl, hb3⟩
  have kB3 := keepb hb3 kB2
  clear hb3 KI kB2
  go_wp2
  go_ret2
  exact ⟨rfl, kB3⟩
set_option maxHeartbeats 2000000 in
theorem ptext_err (F : Int) (x : BitVec 128) (n : Int) (w : World) (hc : ¬ checkE F x n = 0) :
    Calls Tryd.prog 59 #[.int .i64 F, .agg #[.int .u64 (hI x), .int .u64 (lI x), .int .i64 n]] w fun e w' => e = .returned (.tuple #[.string ⟨#[]⟩, .int .i64 (checkE F x n)]) ∧ Below w.heap.size w w' := by
  have KC := fun w => pcheck_any F x n w
  have hb : (checkE F x n != 0) = true := by simp [hc]
  generalize checkE F x n = c at *
  go_enter Tryd.func59, Tryd.ntmps59
  go_wp2_with fail
  refine (KC _).mono ?_
  rintro e w1 ⟨rfl, hb1⟩
  have kB1 := keepb hb1 (bl1 w _)
  clear hb1 KC
  go_wp2
  go_ret2
  exact ⟨rfl, kB1⟩

def s108 : ByteArray := ⟨#[49, 48, 46, 48, 46, 48, 46, 48, 47, 56]⟩
def x10 : BitVec 128 := 0x0a000000000000000000000000000000#128
theorem k3_e : ppE 32 s108 = 0 := by decide +kernel
theorem k3_v : ppV 32 s108 = x10 := by decide +kernel
theorem k3_n : ppN 32 s108 = 8 := by decide +kernel
theorem k3_c : checkE 32 x10 8 = 0 := by decide +kernel
theorem k3_r : rightE 32 x10 = 0 := by decide +kernel
theorem k3_h : hI x10 = 720575940379279360 := by decide +kernel
theorem k3_l : lI x10 = 0 := by decide +kernel
theorem k3_z : (text4 x10).size ≤ 1000 := by decide +kernel
theorem k3_t : slashed (text4 x10) 8 = s108 := by decide +kernel
set_option maxHeartbeats 2000000 in
theorem known3_any (w : World) (hP : Pow w) :
    Calls Tryd.prog 20 #[] w fun e w' => e = .returned (.bool true) ∧ Below w.heap.size w w' := by
  have KP := fun w => pparse_any 32 s108 w (by unfold maxLen; decide)
  rw [k3_v, k3_n, k3_e, k3_h, k3_l] at KP
  have KT := fun w hP => ptext_of 32 x10 8 (text4 x10) 0 w hP k3_c (by decide) (by decide) k3_z (fun w hP => atext_four x10 w hP k3_r)
  rw [k3_t, k3_h, k3_l] at KT
  unfold s108 at KP KT
  go_enter Tryd.func20, Tryd.ntmps20
  go_wp2_with fail
  refine (KP _).mono ?_
  rintro e w1 ⟨rfl, hb1⟩
  have hA := bl1 w1 (.cells #[.int .u64 720575940379279360, .int .u64 0, .int .i64 8] 41)
  have kB1 := keepb hA hb1
  clear hA hb1 KP
  go_wp2_with fail
  refine (KT _ (hP.keep kB1)).mono ?_
  rintro e w2 ⟨rfl, hb2⟩
  have p0 : w2.cell? ⟨w1.heap.size, 0, none⟩ = some (.int .u64 720575940379279360) := keepc hb2 (by simp [go_sem])
  have p1 : w2.cell? ⟨w1.heap.size, 1, none⟩ = some (.int .u64 0) := keepc hb2 (by simp [go_sem])
  have p2 : w2.cell? ⟨w1.heap.size, 2, none⟩ = some (.int .i64 8) := keepc hb2 (by simp [go_sem])
  have kB2 := keepb hb2 kB1
  clear hb2 KT kB1
  go_wp2
  go_ret
  exact ⟨rfl, kB2⟩
end Go.Proofs.YtpchhfhdepkbcaaDoor
