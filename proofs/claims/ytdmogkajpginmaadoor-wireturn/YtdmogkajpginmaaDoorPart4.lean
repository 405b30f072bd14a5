/-
  Part 4 of the proof: 3 texts, one behind the other.
-/
import Derived.Test.YtdmogkajpginmaaDoorPart3
import Derived.Laws.IdiomStrings
import Derived.Test.YtdmogkajpginmaaDoorPart2
/-
  What package wire's Put16, Put32, Get16 and Get32 do.
-/
namespace Go.Proofs.YtdmogkajpginmaaDoor
open Go.RowKit
set_option linter.unusedSimpArgs false
set_option linter.unusedVariables false

/-- The bytes of a number, the highest first. -/
def by2 (n : Nat) : List Nat := [n / 256, n % 256]
def by4 (n : Nat) : List Nat := [n / 16777216, n / 65536 % 256, n / 256 % 256, n % 256]
theorem own_wide13 {w : World} {base base' e size n : Nat} {v : Value} {xs : List Value} (h : w.ownsRow base e size v n xs) (hb : base' ≤ base) : w.ownsRow base' e size v n xs := by
  refine ⟨h.1, ?_⟩
  rcases h.2 with hn | ⟨g, cap, cur, hv, h1, h2⟩
  · exact .inl hn
  · exact .inr ⟨g, cap, cur, hv, by omega, h2⟩
set_option maxRecDepth 100000 in
set_option maxHeartbeats 4000000 in
theorem put16_any (v : Value) (l : List Nat) (n : Nat) (w : World) (hA : RowA w 1 v l.length (l.map cB)) (hl : l.length ≤ 140737488355000) (hn : n < 65536) :
    Calls Tryd.prog 22 #[v, .int .u16 (n : Int)] w fun e w' => ∃ v', e = .returned v' ∧ w'.ownsRow w.heap.size 5 1 v' (l ++ by2 n).length ((l ++ by2 n).map cB) ∧ Below w.heap.size w w' := by
  have hn1 : (n : Int) < 65536 := by omega
  obtain ⟨-, vo, vc, hvf, -⟩ := id hA
  have q1 := bl1 w (.cells #[.int .u8 ((n : Int) / 256), .int .u8 ((n : Int) % 256)] 5)
  have r1 := World.ownsRow_lit (base := w.heap.size) (e := 5) (size := 1) w #[.int .u8 ((n : Int) / 256), .int .u8 ((n : Int) % 256)] 2 (Nat.le_refl _) (by unfold maxLen; omega) rfl
  obtain ⟨w1, hw1⟩ : ∃ w1, w1 = w.alloc (.cells #[.int .u8 ((n : Int) / 256), .int .u8 ((n : Int) % 256)] 5) := ⟨_, rfl⟩
  have e1 : w1.heap.size = w.heap.size + 1 := by rw [hw1]; simp
  rw [← hw1] at q1 r1
  have r1' : RowA w1 1 (.slice (some ⟨w.heap.size, 0, none⟩) 2 2) (by2 n).length ((by2 n).map cB) := by
    obtain ⟨h1, ao, c, h2, h3, h4⟩ := own_row r1
    have e : (#[.int .u8 ((n : Int) / 256), .int .u8 ((n : Int) % 256)] : Array Value).toList = (by2 n).map cB := by unfold by2 cB; simp
    rw [e] at h1 h4
    refine ⟨h1, ao, c, h2, h3, ?_⟩
    rcases h4 with h4 | ⟨b, off, h5, h6⟩
    · exact .inl h4
    · exact .inr ⟨_, h5, fun j u hj => by rw [addA]; exact h6 j u hj⟩
  have q2 := bl1 w1 (.cells #[v, .slice (some ⟨w.heap.size, 0, none⟩) 2 2] 24)
  have r2 := lit_rwx (f := fun p : Value × List Nat => p.1) w1 #[v, .slice (some ⟨w.heap.size, 0, none⟩) 2 2] 24 (0, 0) [(v, l), (.slice (some ⟨w.heap.size, 0, none⟩) 2 2, by2 n)] rfl
  rw [e1] at r2
  have HC := concat13 _ _ _ r2 (by
    intro p hp
    simp only [List.mem_cons, List.mem_nil_iff, or_false] at hp
    rcases hp with rfl | rfl
    · exact (hA.below q1).below q2
    · exact r1'.below q2) (by show 2 ≤ 1000; decide) (by
      show (l ++ (by2 n ++ [])).length ≤ _
      rw [List.append_nil, List.length_append]
      show l.length + 2 ≤ _
      omega)
  have ha : allB [(v, l), (.slice (some ⟨w.heap.size, 0, none⟩) 2 2, by2 n)] = l ++ by2 n := by
    show l ++ (by2 n ++ []) = _
    rw [List.append_nil]
  rw [ha] at HC
  have hb2 := keepb q2 q1
  rw [hw1] at HC hb2
  obtain ⟨Z, hZ⟩ : ∃ Z, Z = l ++ by2 n := ⟨_, rfl⟩
  rw [← hZ] at HC ⊢
  have HC' := hid13 HC
  have HB2 := hid13 hb2
  have hsz : Hid (w.heap.size ≤ ((w.alloc (.cells #[.int .u8 ((n : Int) / 256), .int .u8 ((n : Int) % 256)] 5)).alloc (.cells #[v, .slice (some ⟨w.heap.size, 0, none⟩) 2 2] 24)).heap.size) := hb2.size
  clear q1 q2 r1 r1' r2 HC ha hb2 hw1 e1 hA w1 hZ hn
  obtain ⟨N, hN⟩ : ∃ N : Int, N = (n : Int) := ⟨_, rfl⟩
  have hN0 : 0 ≤ N := by omega
  rw [← hN] at HC' HB2 hsz hn1 ⊢
  have hq : N / 256 < 256 := by omega
  have hq0 : 0 ≤ N / 256 := by omega
  clear hN
  rw [hvf] at HC' HB2 hsz ⊢
  clear hvf
  go_enter Tryd.func22, Tryd.ntmps22
  go_wp2_with fail
  refine HC'.out.mono ?_
  rintro e w3 ⟨v3, rfl, hown, hb3⟩
  have HO := hid13 (own_wide13 hown hsz.out)
  have HB3 := hid13 (keepb hb3 HB2.out)
  clear hown hb3 HC'
  go_wp2
  go_ret
  exact ⟨_, rfl, HO.out, HB3.out⟩
set_option maxRecDepth 100000 in
set_option maxHeartbeats 4000000 in
theorem put32_any (v : Value) (l : List Nat) (n : Nat) (w : World) (hA : RowA w 1 v l.length (l.map cB)) (hl : l.length ≤ 140737488355000) (hn : n < 4294967296) :
    Calls Tryd.prog 21 #[v, .int .u32 (n : Int)] w fun e w' => ∃ v', e = .returned v' ∧ w'.ownsRow w.heap.size 5 1 v' (l ++ by4 n).length ((l ++ by4 n).map cB) ∧ Below w.heap.size w w' := by
  have hn1 : (n : Int) < 4294967296 := by omega
  obtain ⟨-, vo, vc, hvf, -⟩ := id hA
  have q1 := bl1 w (.cells #[.int .u8 ((n : Int) / 16777216), .int .u8 ((n : Int) / 65536 % 256), .int .u8 ((n : Int) / 256 % 256), .int .u8 ((n : Int) % 256)] 5)
  have r1 := World.ownsRow_lit (base := w.heap.size) (e := 5) (size := 1) w #[.int .u8 ((n : Int) / 16777216), .int .u8 ((n : Int) / 65536 % 256), .int .u8 ((n : Int) / 256 % 256), .int .u8 ((n : Int) % 256)] 4 (Nat.le_refl _) (by unfold maxLen; omega) rfl
  obtain ⟨w1, hw1⟩ : ∃ w1, w1 = w.alloc (.cells #[.int .u8 ((n : Int) / 16777216), .int .u8 ((n : Int) / 65536 % 256), .int .u8 ((n : Int) / 256 % 256), .int .u8 ((n : Int) % 256)] 5) := ⟨_, rfl⟩
  have e1 : w1.heap.size = w.heap.size + 1 := by rw [hw1]; simp
  rw [← hw1] at q1 r1
  have r1' : RowA w1 1 (.slice (some ⟨w.heap.size, 0, none⟩) 4 4) (by4 n).length ((by4 n).map cB) := by
    obtain ⟨h1, ao, c, h2, h3, h4⟩ := own_row r1
    have e : (#[.int .u8 ((n : Int) / 16777216), .int .u8 ((n : Int) / 65536 % 256), .int .u8 ((n : Int) / 256 % 256), .int .u8 ((n : Int) % 256)] : Array Value).toList = (by4 n).map cB := by unfold by4 cB; simp
    rw [e] at h1 h4
    refine ⟨h1, ao, c, h2, h3, ?_⟩
    rcases h4 with h4 | ⟨b, off, h5, h6⟩
    · exact .inl h4
    · exact .inr ⟨_, h5, fun j u hj => by rw [addA]; exact h6 j u hj⟩
  have q2 := bl1 w1 (.cells #[v, .slice (some ⟨w.heap.size, 0, none⟩) 4 4] 24)
  have r2 := lit_rwx (f := fun p : Value × List Nat => p.1) w1 #[v, .slice (some ⟨w.heap.size, 0, none⟩) 4 4] 24 (0, 0) [(v, l), (.slice (some ⟨w.heap.size, 0, none⟩) 4 4, by4 n)] rfl
  rw [e1] at r2
  have HC := concat13 _ _ _ r2 (by
    intro p hp
    simp only [List.mem_cons, List.mem_nil_iff, or_false] at hp
    rcases hp with rfl | rfl
    · exact (hA.below q1).below q2
    · exact r1'.below q2) (by show 2 ≤ 1000; decide) (by
      show (l ++ (by4 n ++ [])).length ≤ _
      rw [List.append_nil, List.length_append]
      show l.length + 4 ≤ _
      omega)
  have ha : allB [(v, l), (.slice (some ⟨w.heap.size, 0, none⟩) 4 4, by4 n)] = l ++ by4 n := by
    show l ++ (by4 n ++ []) = _
    rw [List.append_nil]
  rw [ha] at HC
  have hb2 := keepb q2 q1
  rw [hw1] at HC hb2
  obtain ⟨Z, hZ⟩ : ∃ Z, Z = l ++ by4 n := ⟨_, rfl⟩
  rw [← hZ] at HC ⊢
  have HC' := hid13 HC
  have HB2 := hid13 hb2
  have hsz : Hid (w.heap.size ≤ ((w.alloc (.cells #[.int .u8 ((n : Int) / 16777216), .int .u8 ((n : Int) / 65536 % 256), .int .u8 ((n : Int) / 256 % 256), .int .u8 ((n : Int) % 256)] 5)).alloc (.cells #[v, .slice (some ⟨w.heap.size, 0, none⟩) 4 4] 24)).heap.size) := hb2.size
  clear q1 q2 r1 r1' r2 HC ha hb2 hw1 e1 hA w1 hZ hn
  obtain ⟨N, hN⟩ : ∃ N : Int, N = (n : Int) := ⟨_, rfl⟩
  have hN0 : 0 ≤ N := by omega
  rw [← hN] at HC' HB2 hsz hn1 ⊢
  have hq : N / 16777216 < 256 := by omega
  have hq0 : 0 ≤ N / 16777216 := by omega
  clear hN
  rw [hvf] at HC' HB2 hsz ⊢
  clear hvf
  go_enter Tryd.func21, Tryd.ntmps21
  go_wp2_with fail
  refine HC'.out.mono ?_
  rintro e w3 ⟨v3, rfl, hown, hb3⟩
  have HO := hid13 (own_wide13 hown hsz.out)
  have HB3 := hid13 (keepb hb3 HB2.out)
  clear hown hb3 HC'
  go_wp2
  go_ret
  exact ⟨_, rfl, HO.out, HB3.out⟩
/-- What so many bytes of a place come to. -/
def numN (l : List Nat) : Nat := l.foldl (fun v b => v * 256 + b) 0
def gtN (l : List Nat) (n : Int) (k : Nat) : Nat := if 0 ≤ n ∧ n ≤ (l.length : Int) - k then numN ((l.drop n.toNat).take k) else 0
def gtE (l : List Nat) (n : Int) (k : Nat) : Int := if 0 ≤ n ∧ n ≤ (l.length : Int) - k then 0 else 30
theorem take2_of {l : List Nat} {j a b : Nat} (h0 : l[j + 0]? = some a) (h1 : l[j + 1]? = some b) : (l.drop j).take 2 = [a, b] := by
  apply List.ext_getElem?
  intro i
  rw [List.getElem?_take]
  match i with
  | 0 => simpa using h0
  | 1 => simpa using h1
  | i + 2 => rw [if_neg (by omega)]; rfl
theorem take4_of {l : List Nat} {j a b c d : Nat} (h0 : l[j + 0]? = some a) (h1 : l[j + 1]? = some b) (h2 : l[j + 2]? = some c) (h3 : l[j + 3]? = some d) : (l.drop j).take 4 = [a, b, c, d] := by
  apply List.ext_getElem?
  intro i
  rw [List.getElem?_take]
  match i with
  | 0 => simpa using h0
  | 1 => simpa using h1
  | 2 => simpa using h2
  | 3 => simpa using h3
  | i + 4 => rw [if_neg (by omega)]; rfl
theorem orN16 (A B i : Nat) (hA : A % 2 ^ i = 0) (hB : B < 2 ^ i) (h : A + B < 65536) (x y : Int) (hx : x = (A : Int)) (hy : y = (B : Int)) : bits .or .u16 x y = ((A + B : Nat) : Int) := by
  subst hx hy
  unfold bits
  simp only [IntKind.bits]
  have e : (BitVec.ofInt 16 (A : Int) ||| BitVec.ofInt 16 (B : Int)).toNat = A + B := by
    rw [BitVec.toNat_or]
    have e1 : (BitVec.ofInt 16 (A : Int)).toNat = A := by rw [BitVec.toNat_ofInt]; omega
    have e2 : (BitVec.ofInt 16 (B : Int)).toNat = B := by rw [BitVec.toNat_ofInt]; omega
    rw [e1, e2]
    have e3 : A = (A / 2 ^ i) <<< i := by
      rw [Nat.shiftLeft_eq]
      have := Nat.div_add_mod A (2 ^ i)
      rw [hA, Nat.mul_comm] at this
      omega
    rw [e3, ← Nat.shiftLeft_add_eq_or_of_lt hB]
  show IntKind.wrap .u16 (((BitVec.ofInt 16 (A : Int) ||| BitVec.ofInt 16 (B : Int)).toNat : Nat) : Int) = _
  rw [e]
  simp [IntKind.wrap, IntKind.bits, IntKind.signed]
  omega
theorem orN32 (A B i : Nat) (hA : A % 2 ^ i = 0) (hB : B < 2 ^ i) (h : A + B < 4294967296) (x y : Int) (hx : x = (A : Int)) (hy : y = (B : Int)) : bits .or .u32 x y = ((A + B : Nat) : Int) := by
  subst hx hy
  unfold bits
  simp only [IntKind.bits]
  have e : (BitVec.ofInt 32 (A : Int) ||| BitVec.ofInt 32 (B : Int)).toNat = A + B := by
    rw [BitVec.toNat_or]
    have e1 : (BitVec.ofInt 32 (A : Int)).toNat = A := by rw [BitVec.toNat_ofInt]; omega
    have e2 : (BitVec.ofInt 32 (B : Int)).toNat = B := by rw [BitVec.toNat_ofInt]; omega
    rw [e1, e2]
    have e3 : A = (A / 2 ^ i) <<< i := by
      rw [Nat.shiftLeft_eq]
      have := Nat.div_add_mod A (2 ^ i)
      rw [hA, Nat.mul_comm] at this
      omega
    rw [e3, ← Nat.shiftLeft_add_eq_or_of_lt hB]
  show IntKind.wrap .u32 (((BitVec.ofInt 32 (A : Int) ||| BitVec.ofInt 32 (B : Int)).toNat : Nat) : Int) = _
  rw [e]
  simp [IntKind.wrap, IntKind.bits, IntKind.signed]
  omega
end Go.Proofs.YtdmogkajpginmaaDoor
/-
  string(b) of a row of bytes; numbers out of their bytes.
-/
namespace Go.Proofs.YtdmogkajpginmaaDoor
open Go.RowKit
set_option linter.unusedSimpArgs false
set_option linter.unusedVariables false

def bsA (l : List Nat) : ByteArray := ⟨(l.map UInt8.ofNat).toArray⟩
theorem conv13 {W : World} {v : Value} {l : List Nat} (h : RwX cB W v l) (hb : ∀ b ∈ l, b < 256) : (convert 24 9 v).run Tryd.prog W = .ok (.string (bsA l)) W := by
  obtain ⟨ao, c, rfl, -, h⟩ := h
  by_cases hz : l = []
  · subst hz
    cases ao with
    | none =>
      rw [run_convert_bytes_string W 24 9 5 none _ _ Tryd.underlying24 Tryd.underlying5 Tryd.underlying9]
      rfl
    | some a =>
      exact run_convert_bytes_back W 24 9 5 a c [] Tryd.underlying24 Tryd.underlying5 Tryd.underlying9 (fun j hj => absurd hj (Nat.not_lt_zero _))
  · rcases h with h | ⟨b, off, rfl, h⟩
    · exact absurd h hz
    · have := run_convert_bytes_back (P := Tryd.prog) W 24 9 5 ⟨b, off, none⟩ c (l.map UInt8.ofNat) Tryd.underlying24 Tryd.underlying5 Tryd.underlying9 (fun j hj => by
        have hj' : j < l.length := by simpa using hj
        rw [addA, h j l[j] (by simp [hj'])]
        have hlt := hb l[j] (List.getElem_mem hj')
        rw [List.getElem_map]
        unfold cB
        rw [UInt8.toNat_ofNat', Nat.mod_eq_of_lt hlt])
      rw [List.length_map] at this
      exact this
theorem num2 (p : Nat) (h : p < 65536) : numN (by2 p) = p := by unfold numN by2; simp; omega
theorem num4 (n : Nat) (h : n < 4294967296) : numN (by4 n) = n := by
  have e : numN (by4 n) = ((((0 * 256 + n / 16777216) * 256 + n / 65536 % 256) * 256 + n / 256 % 256) * 256 + n % 256) := rfl
  rw [e]; omega
theorem by2_lt (p : Nat) (h : p < 65536) : ∀ b ∈ by2 p, b < 256 := by
  intro b hb
  unfold by2 at hb
  simp only [List.mem_cons, List.mem_nil_iff, or_false] at hb
  omega
theorem by4_lt (n : Nat) (h : n < 4294967296) : ∀ b ∈ by4 n, b < 256 := by
  intro b hb
  unfold by4 at hb
  simp only [List.mem_cons, List.mem_nil_iff, or_false] at hb
  omega
theorem rwx_take {α : Type} {f : α → Value} {W : World} {ao : Option Addr} {n c : Nat} {l m : List α} (h : RwX f W (.slice ao n c) (l ++ m)) : RwX f W (.slice ao l.length c) l := by
  obtain ⟨ao', c', e, hc, h⟩ := h
  injection e with e1 e2 e3
  subst e1 e3
  refine ⟨ao, c, rfl, by rw [List.length_append] at hc; omega, ?_⟩
  by_cases hz : l = []
  · exact .inl hz
  rcases h with h | ⟨b, off, e, h⟩
  · exact absurd (List.append_eq_nil_iff.1 h).1 hz
  · refine .inr ⟨b, off, e, fun j x hj => h j x ?_⟩
    rw [List.getElem?_append_left (List.getElem?_eq_some_iff.1 hj).1]; exact hj
end Go.Proofs.YtdmogkajpginmaaDoor
/-
  What WireTurn asks: sums of one row and of two, a bit turned, within.
-/
namespace Go.Proofs.YtdmogkajpginmaaDoor
open Go.RowKit
set_option linter.unusedSimpArgs false
set_option linter.unusedVariables false

/-- A number from 0 to n - 1. -/
def wthT (a n : Int) : Int := if a.tmod n < 0 then a.tmod n + n else a.tmod n
theorem wthT_in (a n : Int) (hn : 0 < n) : 0 ≤ wthT a n ∧ wthT a n < n := by
  unfold wthT
  have h1 := Int.tmod_lt_of_pos a hn
  have h2 := Int.lt_tmod_of_pos a hn
  split <;> constructor <;> omega
theorem within13T (a n : Int) (hn : 0 < n) (hm : n ≤ 1000000000000000000) (w : World) :
    Calls Tryd.prog 12 #[.int .i64 a, .int .i64 n] w fun e w' => e = .returned (.int .i64 (wthT a n)) ∧ w' = w := by
  have h1 := Int.tmod_lt_of_pos a hn
  have h2 := Int.lt_tmod_of_pos a hn
  have hne : ¬ n = 0 := by omega
  have hne1 : ¬ n = -1 := by omega
  obtain ⟨r, hr⟩ : ∃ r, r = a.tmod n := ⟨_, rfl⟩
  have HR := hid13 hr
  rw [← hr] at h1 h2
  have hr' := hr.symm
  clear hr
  by_cases c : r < 0
  · have w2 : IntKind.i64.wrap (r + n) = r + n := by rw [IntKind.wrap_i64]; omega
    have HE : Hid (wthT a n = r + n) := by show _ = _; unfold wthT; rw [← HR.out, if_pos c]
    go_enter Tryd.func12, Tryd.ntmps12
    go_wp2
    go_ret
    exact ⟨by rw [HE.out]; rfl, rfl⟩
  · have HE : Hid (wthT a n = r) := by show _ = _; unfold wthT; rw [← HR.out, if_neg c]
    go_enter Tryd.func12, Tryd.ntmps12
    go_wp2
    go_ret
    exact ⟨by rw [HE.out]; rfl, rfl⟩
theorem turn8 (a t : Nat) (ha : a < 256) (ht : t < 8) : bits .xor .u8 (a : Int) ((2 ^ t : Nat) : Int) = ((a ^^^ 2 ^ t : Nat) : Int) ∧ a ^^^ 2 ^ t < 256 ∧ a ^^^ 2 ^ t ≠ a := by
  have h : ∀ (x : Fin 256) (y : Fin 8), bits .xor .u8 (x.val : Int) ((2 ^ y.val : Nat) : Int) = ((x.val ^^^ 2 ^ y.val : Nat) : Int) ∧ x.val ^^^ 2 ^ y.val < 256 ∧ x.val ^^^ 2 ^ y.val ≠ x.val := by decide +kernel
  exact h ⟨a, ha⟩ ⟨t, ht⟩
theorem sh8u (n : Nat) (h : n < 8) : Op.shift .shl .u8 1 .i64 (n : Int) = pure (.int .u8 ((2 ^ n : Nat) : Int)) := by
  rw [shift_shl_any .u8 .i64 1 _ (by omega)]
  have : ∀ m : Fin 8, IntKind.u8.wrap (1 * 2 ^ min ((m.val : Nat) : Int).toNat IntKind.u8.bits) = ((2 ^ m.val : Nat) : Int) := by decide +kernel
  exact congrArg (fun z => pure (Value.int .u8 z)) (this ⟨n, h⟩)
theorem sum_one {W : World} {N : Nat} {v : Value} {l : List Nat} (hc : W.cell? ⟨N, 0, none⟩ = some v) (hr : RwX cB W v l) (hl : l.length ≤ 9223372036854775806) (hx : ∀ b ∈ l, b < 256) (hT : Hf W) :
    Calls Tryd.prog 9 #[.slice (some ⟨N, 0, none⟩) 1 1] W fun e w' => e = .returned (.int .u32 (uI (crS l))) ∧ w' = W := by
  have h := sum_any (.slice (some ⟨N, 0, none⟩) 1 1) [(v, l)] W ⟨_, _, rfl, Nat.le_refl _, .inr ⟨N, 0, rfl, fun j x hj => by
    match j, hj with
    | 0, hj => cases hj; exact hc
    | j + 1, hj => cases hj⟩⟩ (fun p hp => by
      simp only [List.mem_cons, List.mem_nil_iff, or_false] at hp
      subst hp
      exact ⟨hr, hl, hx⟩) (by show 1 ≤ _; decide) hT
  simp only [List.map_cons, List.map_nil, List.flatten_cons, List.flatten_nil, List.append_nil] at h
  exact h
theorem sum_two {W : World} {N : Nat} {v u : Value} {l m : List Nat} (hc : W.cell? ⟨N, 0, none⟩ = some v) (hd : W.cell? ⟨N, 1, none⟩ = some u) (hr : RwX cB W v l) (hs : RwX cB W u m) (hl : l.length ≤ 9223372036854775806) (hm : m.length ≤ 9223372036854775806) (hx : ∀ b ∈ l, b < 256) (hy : ∀ b ∈ m, b < 256) (hT : Hf W) :
    Calls Tryd.prog 9 #[.slice (some ⟨N, 0, none⟩) 2 2] W fun e w' => e = .returned (.int .u32 (uI (crS (l ++ m)))) ∧ w' = W := by
  have h := sum_any (.slice (some ⟨N, 0, none⟩) 2 2) [(v, l), (u, m)] W ⟨_, _, rfl, Nat.le_refl _, .inr ⟨N, 0, rfl, fun j x hj => by
    match j, hj with
    | 0, hj => cases hj; exact hc
    | 1, hj => cases hj; exact hd
    | j + 2, hj => cases hj⟩⟩ (fun p hp => by
      simp only [List.mem_cons, List.mem_nil_iff, or_false] at hp
      rcases hp with rfl | rfl
      · exact ⟨hr, hl, hx⟩
      · exact ⟨hs, hm, hy⟩) (by show 2 ≤ _; decide) hT
  simp only [List.map_cons, List.map_nil, List.flatten_cons, List.flatten_nil, List.append_nil] at h
  exact h
theorem rwx_from {W : World} {ao : Option Addr} {n c k : Nat} {l : List Nat} (h : RwX cB W (.slice ao n c) l) (hk : k ≤ l.length) : RwX cB W (.slice (if c = k then ao else ao.map (·.add (k * 1))) (l.length - k) (c - k)) (l.drop k) := by
  obtain ⟨ao', c', e, hc, h⟩ := h
  injection e with e1 e2 e3
  subst e1 e3
  refine ⟨_, _, by rw [List.length_drop], by rw [List.length_drop]; omega, ?_⟩
  rcases h with h | ⟨b, off, e, h⟩
  · left; rw [h]; exact List.drop_nil
  · by_cases hck : c = k
    · left; exact List.drop_eq_nil_of_le (by omega)
    · right
      rw [if_neg hck, e]
      refine ⟨b, off + k, by simp [addA], fun j x hj => ?_⟩
      rw [List.getElem?_drop] at hj
      rw [Nat.add_assoc]
      exact h _ _ hj
theorem set_apart (l : List Nat) (i a y : Nat) (h : l[i]? = some a) : l = l.take i ++ a :: l.drop (i + 1) ∧ l.set i y = l.take i ++ y :: l.drop (i + 1) := by
  have hi := (List.getElem?_eq_some_iff.1 h).1
  have e : l[i] = a := (List.getElem?_eq_some_iff.1 h).2
  constructor
  · rw [← e, List.getElem_cons_drop, List.take_append_drop]
  · rw [List.set_eq_take_append_cons_drop, if_pos hi]
end Go.Proofs.YtdmogkajpginmaaDoor
