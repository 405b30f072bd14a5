/-
  Part 3 of the proof: 2 texts, one behind the other.
-/
import Derived.Test.YthbdmdafldombaaDoorPart1
import Derived.Test.YthbdmdafldombaaDoorPart2
import Derived.ArgAppend
namespace Go.Proofs.YthbdmdafldombaaDoor
open Go.RowKit
set_option linter.unusedSimpArgs false
set_option linter.unusedVariables false

def by2 (n : Nat) : List Nat := [n / 256, n % 256]
def by4 (n : Nat) : List Nat := [n / 16777216, n / 65536 % 256, n / 256 % 256, n % 256]
theorem own_wide13 {w : World} {base base' e size n : Nat} {v : Value} {xs : List Value} (h : w.ownsRow base e size v n xs) (hb : base' ≤ base) : w.ownsRow base' e size v n xs := by
  refine ⟨h.1, ?_⟩
  rcases h.2 with hn | ⟨g, cap, cur, hv, h1, h2⟩
  · exact .inl hn
  · exact .inr ⟨g, cap, cur, hv, by omega, h2⟩
set_option maxRecDepth 100000 in
set_option maxHeartbeats 4000000 in
theorem put16_any (v : Value) (l : List Nat) (n : Nat) (w : World) (hA : RowA w 1 v l.length (l.map cB)) (hl : l.length ≤ 140737488355000) (hn : n < 65536) :
    Calls Tryd.prog 10 #[v, .int .u16 (n : Int)] w fun e w' => ∃ v', e = .returned v' ∧ w'.ownsRow w.heap.size 5 1 v' (l ++ by2 n).length ((l ++ by2 n).map cB) ∧ Below w.heap.size w w' := by
  have hn1 : (n : Int) < 65536 := by omega
  obtain ⟨-, vo, vc, hvf, -⟩ := id hA
  have q1 := bl1 w (.cells #[.int .u8 ((n : Int) / 256), .int .u8 ((n : Int) % 256)] 5)
  have r1 := World.ownsRow_lit (base := w.heap.size) (e := 5) (size := 1) w #[.int .u8 ((n : Int) / 256), .int .u8 ((n : Int) % 256)] 2 (Nat.le_refl _) (by unfold maxLen; omega) rfl
  obtain ⟨w1, hw1⟩ : ∃ w1, w1 = w.alloc (.cells #[.int .u8 ((n : Int) / 256), .int .u8 ((n : Int) % 256)] 5) := ⟨_, rfl⟩
  have e1 : w1.heap.size = w.heap.size + 1 := by rw [hw1]; simp
  rw [← hw1] at q1 r1
  have r1' : RowA w1 1 (.slice (some ⟨w.heap.size, 0, none⟩) 2 2) (by2 n).length ((by2 n).map cB) := by
    obtain ⟨h1, ao, c, h2, h3, h4⟩ := own_row r1
    have e : (#[.int .u8 ((n : Int) / 256), .int .u8 ((n : Int) % 256)] : Array Value).toList = (by2 n).map cB := by unfold by2 cB; simp
    rw [e] at h1 h4
    refine ⟨h1, ao, c, h2, h3, ?_⟩
    rcases h4 with h4 | ⟨b, off, h5, h6⟩
    · exact .inl h4
    · exact .inr ⟨_, h5, fun j u hj => by rw [addA]; exact h6 j u hj⟩
  have q2 := bl1 w1 (.cells #[v, .slice (some ⟨w.heap.size, 0, none⟩) 2 2] 22)
  have r2 := lit_rwx (f := fun p : Value × List Nat => p.1) w1 #[v, .slice (some ⟨w.heap.size, 0, none⟩) 2 2] 22 (0, 0) [(v, l), (.slice (some ⟨w.heap.size, 0, none⟩) 2 2, by2 n)] rfl
  rw [e1] at r2
  have HC := concat13 _ _ _ r2 (by
    intro p hp
    simp only [List.mem_cons, List.mem_nil_iff, or_false] at hp
    rcases hp with rfl | rfl
    · exact (hA.below q1).below q2
    · exact r1'.below q2) (by show 2 ≤ 1000; decide) (by
      show (l ++ (by2 n ++ [])).length ≤ _
      rw [List.append_nil, List.length_append]
      show l.length + 2 ≤ _
      omega)
  have ha : allB [(v, l), (.slice (some ⟨w.heap.size, 0, none⟩) 2 2, by2 n)] = l ++ by2 n := by
    show l ++ (by2 n ++ []) = _
    rw [List.append_nil]
  rw [ha] at HC
  have hb2 := keepb q2 q1
  rw [hw1] at HC hb2
  obtain ⟨Z, hZ⟩ : ∃ Z, Z = l ++ by2 n := ⟨_, rfl⟩
  rw [← hZ] at HC ⊢
  have HC' := hid13 HC
  have HB2 := hid13 hb2
  have hsz : Hid (w.heap.size ≤ ((w.alloc (.cells #[.int .u8 ((n : Int) / 256), .int .u8 ((n : Int) % 256)] 5)).alloc (.cells #[v, .slice (some ⟨w.heap.size, 0, none⟩) 2 2] 22)).heap.size) := hb2.size
  clear q1 q2 r1 r1' r2 HC ha hb2 hw1 e1 hA w1 hZ hn
  obtain ⟨N, hN⟩ : ∃ N : Int, N = (n : Int) := ⟨_, rfl⟩
  have hN0 : 0 ≤ N := by omega
  rw [← hN] at HC' HB2 hsz hn1 ⊢
  have hq : N / 256 < 256 := by omega
  have hq0 : 0 ≤ N / 256 := by omega
  clear hN
  rw [hvf] at HC' HB2 hsz ⊢
  clear hvf
  go_enter Tryd.func10, Tryd.ntmps10
  go_wp2_with fail
  refine HC'.out.mono ?_
  rintro e w3 ⟨v3, rfl, hown, hb3⟩
  have HO := hid13 (own_wide13 hown hsz.out)
  have HB3 := hid13 (keepb hb3 HB2.out)
  clear hown hb3 HC'
  go_wp2
  go_ret
  exact ⟨_, rfl, HO.out, HB3.out⟩
set_option maxRecDepth 100000 in
set_option maxHeartbeats 4000000 in
theorem put32_any (v : Value) (l : List Nat) (n : Nat) (w : World) (hA : RowA w 1 v l.length (l.map cB)) (hl : l.length ≤ 140737488355000) (hn : n < 4294967296) :
    Calls Tryd.prog 11 #[v, .int .u32 (n : Int)] w fun e w' => ∃ v', e = .returned v' ∧ w'.ownsRow w.heap.size 5 1 v' (l ++ by4 n).length ((l ++ by4 n).map cB) ∧ Below w.heap.size w w' := by
  have hn1 : (n : Int) < 4294967296 := by omega
  obtain ⟨-, vo, vc, hvf, -⟩ := id hA
  have q1 := bl1 w (.cells #[.int .u8 ((n : Int) / 16777216), .int .u8 ((n : Int) / 65536 % 256), .int .u8 ((n : Int) / 256 % 256), .int .u8 ((n : Int) % 256)] 5)
  have r1 := World.ownsRow_lit (base := w.heap.size) (e := 5) (size := 1) w #[.int .u8 ((n : Int) / 16777216), .int .u8 ((n : Int) / 65536 % 256), .int .u8 ((n : Int) / 256 % 256), .int .u8 ((n : Int) % 256)] 4 (Nat.le_refl _) (by unfold maxLen; omega) rfl
  obtain ⟨w1, hw1⟩ : ∃ w1, w1 = w.alloc (.cells #[.int .u8 ((n : Int) / 16777216), .int .u8 ((n : Int) / 65536 % 256), .int .u8 ((n : Int) / 256 % 256), .int .u8 ((n : Int) % 256)] 5) := ⟨_, rfl⟩
  have e1 : w1.heap.size = w.heap.size + 1 := by rw [hw1]; simp
  rw [← hw1] at q1 r1
  have r1' : RowA w1 1 (.slice (some ⟨w.heap.size, 0, none⟩) 4 4) (by4 n).length ((by4 n).map cB) := by
    obtain ⟨h1, ao, c, h2, h3, h4⟩ := own_row r1
    have e : (#[.int .u8 ((n : Int) / 16777216), .int .u8 ((n : Int) / 65536 % 256), .int .u8 ((n : Int) / 256 % 256), .int .u8 ((n : Int) % 256)] : Array Value).toList = (by4 n).map cB := by unfold by4 cB; simp
    rw [e] at h1 h4
    refine ⟨h1, ao, c, h2, h3, ?_⟩
    rcases h4 with h4 | ⟨b, off, h5, h6⟩
    · exact .inl h4
    · exact .inr ⟨_, h5, fun j u hj => by rw [addA]; exact h6 j u hj⟩
  have q2 := bl1 w1 (.cells #[v, .slice (some ⟨w.heap.size, 0, none⟩) 4 4] 22)
  have r2 := lit_rwx (f := fun p : Value × List Nat => p.1) w1 #[v, .slice (some ⟨w.heap.size, 0, none⟩) 4 4] 22 (0, 0) [(v, l), (.slice (some ⟨w.heap.size, 0, none⟩) 4 4, by4 n)] rfl
  rw [e1] at r2
  have HC := concat13 _ _ _ r2 (by
    intro p hp
    simp only [List.mem_cons, List.mem_nil_iff, or_false] at hp
    rcases hp with rfl | rfl
    · exact (hA.below q1).below q2
    · exact r1'.below q2) (by show 2 ≤ 1000; decide) (by
      show (l ++ (by4 n ++ [])).length ≤ _
      rw [List.append_nil, List.length_append]
      show l.length + 4 ≤ _
      omega)
  have ha : allB [(v, l), (.slice (some ⟨w.heap.size, 0, none⟩) 4 4, by4 n)] = l ++ by4 n := by
    show l ++ (by4 n ++ []) = _
    rw [List.append_nil]
  rw [ha] at HC
  have hb2 := keepb q2 q1
  rw [hw1] at HC hb2
  obtain ⟨Z, hZ⟩ : ∃ Z, Z = l ++ by4 n := ⟨_, rfl⟩
  rw [← hZ] at HC ⊢
  have HC' := hid13 HC
  have HB2 := hid13 hb2
  have hsz : Hid (w.heap.size ≤ ((w.alloc (.cells #[.int .u8 ((n : Int) / 16777216), .int .u8 ((n : Int) / 65536 % 256), .int .u8 ((n : Int) / 256 % 256), .int .u8 ((n : Int) % 256)] 5)).alloc (.cells #[v, .slice (some ⟨w.heap.size, 0, none⟩) 4 4] 22)).heap.size) := hb2.size
  clear q1 q2 r1 r1' r2 HC ha hb2 hw1 e1 hA w1 hZ hn
  obtain ⟨N, hN⟩ : ∃ N : Int, N = (n : Int) := ⟨_, rfl⟩
  have hN0 : 0 ≤ N := by omega
  rw [← hN] at HC' HB2 hsz hn1 ⊢
  have hq : N / 16777216 < 256 := by omega
  have hq0 : 0 ≤ N / 16777216 := by omega
  clear hN
  rw [hvf] at HC' HB2 hsz ⊢
  clear hvf
  go_enter Tryd.func11, Tryd.ntmps11
  go_wp2_with fail
  refine HC'.out.mono ?_
  rintro e w3 ⟨v3, rfl, hown, hb3⟩
  have HO := hid13 (own_wide13 hown hsz.out)
  have HB3 := hid13 (keepb hb3 HB2.out)
  clear hown hb3 HC'
  go_wp2
  go_ret
  exact ⟨_, rfl, HO.out, HB3.out⟩
def numN (l : List Nat) : Nat := l.foldl (fun v b => v * 256 + b) 0
def gtN (l : List Nat) (n : Int) (k : Nat) : Nat := if 0 ≤ n ∧ n ≤ (l.length : Int) - k then numN ((l.drop n.toNat).take k) else 0
def gtE (l : List Nat) (n : Int) (k : Nat) : Int := if 0 ≤ n ∧ n ≤ (l.length : Int) - k then 0 else 30
theorem take2_of {l : List Nat} {j a b : Nat} (h0 : l[j + 0]? = some a) (h1 : l[j + 1]? = some b) : (l.drop j).take 2 = [a, b] := by
  apply List.ext_getElem?
  intro i
  rw [List.getElem?_take]
  match i with
  | 0 => simpa using h0
  | 1 => simpa using h1
  | i + 2 => rw [if_neg (by omega)]; rfl
theorem take4_of {l : List Nat} {j a b c d : Nat} (h0 : l[j + 0]? = some a) (h1 : l[j + 1]? = some b) (h2 : l[j + 2]? = some c) (h3 : l[j + 3]? = some d) : (l.drop j).take 4 = [a, b, c, d] := by
  apply List.ext_getElem?
  intro i
  rw [List.getElem?_take]
  match i with
  | 0 => simpa using h0
  | 1 => simpa using h1
  | 2 => simpa using h2
  | 3 => simpa using h3
  | i + 4 => rw [if_neg (by omega)]; rfl
theorem stand_any (ao : Option Addr) (m cc : Nat) (n k : Int) (w : World) (hk : 0 ≤ k ∧ k ≤ 100) (hm : m ≤ 140737488355328) :
    Calls Tryd.prog 35 #[.slice ao m cc, .int .i64 n, .int .i64 k] w fun e w' => e = .returned (.bool (decide (0 ≤ n) && decide (n ≤ (m : Int) - k))) ∧ w' = w := by
  have hw : IntKind.i64.wrap ((m : Int) - k) = (m : Int) - k := by rw [IntKind.wrap_i64]; omega
  by_cases h : 0 ≤ n
  · go_enter Tryd.func35, Tryd.ntmps35
    go_wp2
    go_ret
    exact ⟨by rw [decide_eq_true h]; rfl, rfl⟩
  · go_enter Tryd.func35, Tryd.ntmps35
    go_wp2
    go_ret
    exact ⟨by rw [decide_eq_false (by omega : ¬ 0 ≤ n)]; rfl, rfl⟩
theorem orN16 (A B i : Nat) (hA : A % 2 ^ i = 0) (hB : B < 2 ^ i) (h : A + B < 65536) (x y : Int) (hx : x = (A : Int)) (hy : y = (B : Int)) : bits .or .u16 x y = ((A + B : Nat) : Int) := by
  subst hx hy
  unfold bits
  simp only [IntKind.bits]
  have e : (BitVec.ofInt 16 (A : Int) ||| BitVec.ofInt 16 (B : Int)).toNat = A + B := by
    rw [BitVec.toNat_or]
    have e1 : (BitVec.ofInt 16 (A : Int)).toNat = A := by rw [BitVec.toNat_ofInt]; omega
    have e2 : (BitVec.ofInt 16 (B : Int)).toNat = B := by rw [BitVec.toNat_ofInt]; omega
    rw [e1, e2]
    have e3 : A = (A / 2 ^ i) <<< i := by
      rw [Nat.shiftLeft_eq]
      have := Nat.div_add_mod A (2 ^ i)
      rw [hA, Nat.mul_comm] at this
      omega
    rw [e3, ← Nat.shiftLeft_add_eq_or_of_lt hB]
  show IntKind.wrap .u16 (((BitVec.ofInt 16 (A : Int) ||| BitVec.ofInt 16 (B : Int)).toNat : Nat) : Int) = _
  rw [e]
  simp [IntKind.wrap, IntKind.bits, IntKind.signed]
  omega
theorem orN32 (A B i : Nat) (hA : A % 2 ^ i = 0) (hB : B < 2 ^ i) (h : A + B < 4294967296) (x y : Int) (hx : x = (A : Int)) (hy : y = (B : Int)) : bits .or .u32 x y = ((A + B : Nat) : Int) := by
  subst hx hy
  unfold bits
  simp only [IntKind.bits]
  have e : (BitVec.ofInt 32 (A : Int) ||| BitVec.ofInt 32 (B : Int)).toNat = A + B := by
    rw [BitVec.toNat_or]
    have e1 : (BitVec.ofInt 32 (A : Int)).toNat = A := by rw [BitVec.toNat_ofInt]; omega
    have e2 : (BitVec.ofInt 32 (B : Int)).toNat = B := by rw [BitVec.toNat_ofInt]; omega
    rw [e1, e2]
    have e3 : A = (A / 2 ^ i) <<< i := by
      rw [Nat.shiftLeft_eq]
      have := Nat.div_add_mod A (2 ^ i)
      rw [hA, Nat.mul_comm] at this
      omega
    rw [e3, ← Nat.shiftLeft_add_eq_or_of_lt hB]
  show IntKind.wrap .u32 (((BitVec.ofInt 32 (A : Int) ||| BitVec.ofInt 32 (B : Int)).toNat : Nat) : Int) = _
  rw [e]
  simp [IntKind.wrap, IntKind.bits, IntKind.signed]
  omega
set_option maxRecDepth 100000 in
set_option maxHeartbeats 8000000 in
theorem get16_any (v : Value) (l : List Nat) (n : Int) (w : World) (hv : RwX cB w v l) (hl : l.length ≤ 140737488355328) (hx : ∀ b ∈ l, b < 256) (h0 : -9223372036854775808 ≤ n) (h1 : n ≤ 9223372036854775807) :
    Calls Tryd.prog 12 #[v, .int .i64 n] w fun e w' => e = .returned (.tuple #[.int .u16 ((gtN l n 2 : Nat) : Int), .int .i64 (gtE l n 2)]) ∧ Below w.heap.size w w' := by
  obtain ⟨ao, cc, rfl, hc, hv⟩ := hv
  by_cases h : 0 ≤ n ∧ n ≤ (l.length : Int) - ((2 : Nat) : Int)
  · unfold gtN gtE
    rw [if_pos h, if_pos h]
    obtain ⟨j, rfl⟩ : ∃ j : Nat, n = (j : Int) := ⟨n.toNat, by omega⟩
    have hj : j + 2 ≤ l.length := by omega
    obtain ⟨bo, off, rfl, hcell⟩ : ∃ bo off, ao = some ⟨bo, off, none⟩ ∧ ∀ j x, l[j]? = some x → w.cell? ⟨bo, off + j, none⟩ = some (cB x) := by
      rcases hv with h | h
      · rw [h] at hj; simp at hj
      · exact h
    obtain ⟨b0, g0⟩ : ∃ x, l[j + 0]? = some x := ⟨l[j + 0]'(by omega), by simp [show j + 0 < l.length by omega]⟩
    obtain ⟨b1, g1⟩ : ∃ x, l[j + 1]? = some x := ⟨l[j + 1]'(by omega), by simp [show j + 1 < l.length by omega]⟩
    have HN : Hid (numN ((l.drop (j : Int).toNat).take 2) = (b0 * 256 + b1)) := by
      show _ = _
      rw [Int.toNat_natCast, take2_of g0 g1]
      unfold numN
      simp
    have r0 : w.cell? ⟨bo, off + j, none⟩ = some (.int .u8 (b0 : Int)) := hcell (j + 0) b0 g0
    have s0 : ((b0 : Nat) : Int) < 256 := by have := hx b0 (List.mem_of_getElem? g0); omega
    have r1 : w.cell? ⟨bo, off + (j + 1), none⟩ = some (.int .u8 (b1 : Int)) := hcell (j + 1) b1 g1
    have s1 : ((b1 : Nat) : Int) < 256 := by have := hx b1 (List.mem_of_getElem? g1); omega
    have l1 : (j : Int) + 1 < (l.length : Int) := by omega
    have lj : (j : Int) < (l.length : Int) := by omega
    have hdt : (decide (0 ≤ (j : Int)) && decide ((j : Int) ≤ (l.length : Int) - 2)) = true := by simp; omega
    have hle : (j : Int) ≤ (l.length : Int) - 2 := by omega
    have hst : (0 : Int) ≤ (j : Int) := by omega
    have HS : Hid (Below w.heap.size w w) := Below.refl _ _
    clear hv h hcell hx hc
    go_enter Tryd.func12, Tryd.ntmps12
    go_wp2_with (go_at_call 35; refine (stand_any _ l.length cc (j : Int) 2 _ (by omega) hl).mono ?_; rw [hdt]; rintro e w1 ⟨rfl, hw1⟩; replace hw1 := hw1.symm; subst hw1)
    go_quiet (fail)
    have HB : Hid (Below w.heap.size w (w.drewN nq)) := below_drewN (Below.refl _ _) nq
    have o1 : bits .or .u16 ((b0 : Int) * 256) (b1 : Int) = ((b0 * 256 + b1 : Nat) : Int) := orN16 (b0 * 256) b1 8 (by omega) (by omega) (by omega) _ _ (by omega) rfl
    rw [o1]
    go_wp2
    exact bodyPost_ret (v := .tuple #[.int .u16 (((b0 * 256 + b1) : Nat) : Int), .int .i64 0]) (by simp [results, Tryd.results12, go_sem]) rfl ⟨by rw [HN.out], HB.out⟩
  · unfold gtN gtE
    rw [if_neg h, if_neg h]
    replace h : ¬ (0 ≤ n ∧ n ≤ (l.length : Int) - 2) := h
    have hd : (decide (0 ≤ n) && decide (n ≤ (l.length : Int) - 2)) = false := by
      rw [← Bool.decide_and]; exact decide_eq_false h
    go_enter Tryd.func12, Tryd.ntmps12
    go_wp2_with (go_at_call 35; refine (stand_any ao l.length cc n 2 _ (by omega) (by omega)).mono ?_; rintro e w1 ⟨rfl, hw1⟩; replace hw1 := hw1.symm; subst hw1)
    exact bodyPost_ret (v := .tuple #[.int .u16 0, .int .i64 30]) (by simp [results, Tryd.results12, go_sem]) rfl ⟨rfl, Below.refl _ _⟩
set_option maxRecDepth 100000 in
set_option maxHeartbeats 8000000 in
theorem get32_any (v : Value) (l : List Nat) (n : Int) (w : World) (hv : RwX cB w v l) (hl : l.length ≤ 140737488355328) (hx : ∀ b ∈ l, b < 256) (h0 : -9223372036854775808 ≤ n) (h1 : n ≤ 9223372036854775807) :
    Calls Tryd.prog 13 #[v, .int .i64 n] w fun e w' => e = .returned (.tuple #[.int .u32 ((gtN l n 4 : Nat) : Int), .int .i64 (gtE l n 4)]) ∧ Below w.heap.size w w' := by
  obtain ⟨ao, cc, rfl, hc, hv⟩ := hv
  by_cases h : 0 ≤ n ∧ n ≤ (l.length : Int) - ((4 : Nat) : Int)
  · unfold gtN gtE
    rw [if_pos h, if_pos h]
    obtain ⟨j, rfl⟩ : ∃ j : Nat, n = (j : Int) := ⟨n.toNat, by omega⟩
    have hj : j + 4 ≤ l.length := by omega
    obtain ⟨bo, off, rfl, hcell⟩ : ∃ bo off, ao = some ⟨bo, off, none⟩ ∧ ∀ j x, l[j]? = some x → w.cell? ⟨bo, off + j, none⟩ = some (cB x) := by
      rcases hv with h | h
      · rw [h] at hj; simp at hj
      · exact h
    obtain ⟨b0, g0⟩ : ∃ x, l[j + 0]? = some x := ⟨l[j + 0]'(by omega), by simp [show j + 0 < l.length by omega]⟩
    obtain ⟨b1, g1⟩ : ∃ x, l[j + 1]? = some x := ⟨l[j + 1]'(by omega), by simp [show j + 1 < l.length by omega]⟩
    obtain ⟨b2, g2⟩ : ∃ x, l[j + 2]? = some x := ⟨l[j + 2]'(by omega), by simp [show j + 2 < l.length by omega]⟩
    obtain ⟨b3, g3⟩ : ∃ x, l[j + 3]? = some x := ⟨l[j + 3]'(by omega), by simp [show j + 3 < l.length by omega]⟩
    have HN : Hid (numN ((l.drop (j : Int).toNat).take 4) = (((b0 * 256 + b1) * 256 + b2) * 256 + b3)) := by
      show _ = _
      rw [Int.toNat_natCast, take4_of g0 g1 g2 g3]
      unfold numN
      simp
    have r0 : w.cell? ⟨bo, off + j, none⟩ = some (.int .u8 (b0 : Int)) := hcell (j + 0) b0 g0
    have s0 : ((b0 : Nat) : Int) < 256 := by have := hx b0 (List.mem_of_getElem? g0); omega
    have r1 : w.cell? ⟨bo, off + (j + 1), none⟩ = some (.int .u8 (b1 : Int)) := hcell (j + 1) b1 g1
    have s1 : ((b1 : Nat) : Int) < 256 := by have := hx b1 (List.mem_of_getElem? g1); omega
    have r2 : w.cell? ⟨bo, off + (j + 2), none⟩ = some (.int .u8 (b2 : Int)) := hcell (j + 2) b2 g2
    have s2 : ((b2 : Nat) : Int) < 256 := by have := hx b2 (List.mem_of_getElem? g2); omega
    have r3 : w.cell? ⟨bo, off + (j + 3), none⟩ = some (.int .u8 (b3 : Int)) := hcell (j + 3) b3 g3
    have s3 : ((b3 : Nat) : Int) < 256 := by have := hx b3 (List.mem_of_getElem? g3); omega
    have l1 : (j : Int) + 1 < (l.length : Int) := by omega
    have l2 : (j : Int) + 2 < (l.length : Int) := by omega
    have l3 : (j : Int) + 3 < (l.length : Int) := by omega
    have lj : (j : Int) < (l.length : Int) := by omega
    have hdt : (decide (0 ≤ (j : Int)) && decide ((j : Int) ≤ (l.length : Int) - 4)) = true := by simp; omega
    have hle : (j : Int) ≤ (l.length : Int) - 4 := by omega
    have hst : (0 : Int) ≤ (j : Int) := by omega
    have HS : Hid (Below w.heap.size w w) := Below.refl _ _
    clear hv h hcell hx hc
    go_enter Tryd.func13, Tryd.ntmps13
    go_wp2_with (go_at_call 35; refine (stand_any _ l.length cc (j : Int) 4 _ (by omega) hl).mono ?_; rw [hdt]; rintro e w1 ⟨rfl, hw1⟩; replace hw1 := hw1.symm; subst hw1)
    go_quiet (fail)
    have HB : Hid (Below w.heap.size w (w.drewN nq)) := below_drewN (Below.refl _ _) nq
    have o1 : bits .or .u32 ((b0 : Int) * 16777216) ((b1 : Int) * 65536) = ((b0 * 16777216 + b1 * 65536 : Nat) : Int) := orN32 (b0 * 16777216) (b1 * 65536) 24 (by omega) (by omega) (by omega) _ _ (by omega) (by omega)
    have o2 : bits .or .u32 ((b0 * 16777216 + b1 * 65536 : Nat) : Int) ((b2 : Int) * 256) = ((b0 * 16777216 + b1 * 65536 + b2 * 256 : Nat) : Int) := orN32 (b0 * 16777216 + b1 * 65536) (b2 * 256) 16 (by omega) (by omega) (by omega) _ _ rfl (by omega)
    have o3 : bits .or .u32 ((b0 * 16777216 + b1 * 65536 + b2 * 256 : Nat) : Int) (b3 : Int) = ((((b0 * 256 + b1) * 256 + b2) * 256 + b3 : Nat) : Int) := by
      rw [orN32 (b0 * 16777216 + b1 * 65536 + b2 * 256) b3 8 (by omega) (by omega) (by omega) _ _ rfl rfl]
      omega
    rw [o1, o2, o3]
    clear o1 o2 o3
    go_wp2
    exact bodyPost_ret (v := .tuple #[.int .u32 (((((b0 * 256 + b1) * 256 + b2) * 256 + b3) : Nat) : Int), .int .i64 0]) (by simp [results, Tryd.results13, go_sem]) rfl ⟨by rw [HN.out], HB.out⟩
  · unfold gtN gtE
    rw [if_neg h, if_neg h]
    replace h : ¬ (0 ≤ n ∧ n ≤ (l.length : Int) - 4) := h
    have hd : (decide (0 ≤ n) && decide (n ≤ (l.length : Int) - 4)) = false := by
      rw [← Bool.decide_and]; exact decide_eq_false h
    go_enter Tryd.func13, Tryd.ntmps13
    go_wp2_with (go_at_call 35; refine (stand_any ao l.length cc n 4 _ (by omega) (by omega)).mono ?_; rintro e w1 ⟨rfl, hw1⟩; replace hw1 := hw1.symm; subst hw1)
    exact bodyPost_ret (v := .tuple #[.int .u32 0, .int .i64 30]) (by simp [results, Tryd.results13, go_sem]) rfl ⟨rfl, Below.refl _ _⟩
end Go.Proofs.YthbdmdafldombaaDoor
namespace Go.Proofs.YthbdmdafldombaaDoor
open Go.RowKit
set_option linter.unusedSimpArgs false
set_option linter.unusedVariables false

theorem numN_snoc (l : List Nat) (b : Nat) : numN (l ++ [b]) = numN l * 256 + b := by unfold numN; rw [List.foldl_append]; rfl
theorem fold_lt (l : List Nat) (h : ∀ b ∈ l, b < 256) : ∀ v, l.foldl (fun v b => v * 256 + b) v < (v + 1) * 256 ^ l.length := by
  induction l with
  | nil => intro v; simp
  | cons b l ih =>
    intro v
    have h1 := ih (fun x hx => h x (by simp [hx])) (v * 256 + b)
    have h2 := h b (by simp)
    rw [List.foldl_cons, List.length_cons, Nat.pow_succ]
    refine Nat.lt_of_lt_of_le h1 ?_
    rw [Nat.mul_comm (256 ^ l.length) 256, ← Nat.mul_assoc]
    exact Nat.mul_le_mul_right _ (by omega)
theorem numN_lt (l : List Nat) (h : ∀ b ∈ l, b < 256) : numN l < 256 ^ l.length := by
  have := fold_lt l h 0
  unfold numN
  omega
set_option maxRecDepth 100000 in
set_option maxHeartbeats 8000000 in
theorem rget13 (v : Value) (l : List Nat) (n K : Int) (k : Nat) (hK : K = (k : Int)) (hk0 : 0 < k) (hk : k ≤ 4) (w : World) (hv : RwX cB w v l) (hl : l.length ≤ 140737488355328) (hx : ∀ b ∈ l, b < 256) (h0 : -9223372036854775808 ≤ n) (h1 : n ≤ 9223372036854775807) :
    Calls Tryd.prog 14 #[v, .int .i64 n, .int .i64 K] w fun e w' => e = .returned (.tuple #[.int .u32 ((gtN l n k : Nat) : Int), .bool (decide (0 ≤ n ∧ n ≤ (l.length : Int) - k))]) ∧ w' = w := by
  subst hK
  obtain ⟨ao, cc, rfl, hc, hv⟩ := hv
  have hli : (l.length : Int) ≤ 140737488355328 := by omega
  have hki : (k : Int) ≤ 4 := by omega
  unfold gtN
  by_cases h : 0 ≤ n ∧ n ≤ (l.length : Int) - (k : Int)
  · rw [if_pos h, decide_eq_true h]
    obtain ⟨p, rfl⟩ : ∃ p : Nat, n = (p : Int) := ⟨n.toNat, by omega⟩
    rw [Int.toNat_natCast]
    have hp : p + k ≤ l.length := by omega
    obtain ⟨bo, off, rfl, hcell⟩ : ∃ bo off, ao = some ⟨bo, off, none⟩ ∧ ∀ j x, l[j]? = some x → w.cell? ⟨bo, off + j, none⟩ = some (cB x) := by
      rcases hv with h | h
      · rw [h] at hp; simp at hp; omega
      · exact h
    have hpk : wrap64 ((p : Int) + (k : Int)) = (p : Int) + (k : Int) := by unfold wrap64; omega
    have c1 : ¬ (l.length : Int) < (p : Int) := by omega
    have c2 : ¬ (l.length : Int) - (p : Int) < (k : Int) := by omega
    have HX := hid13 hx
    have HC := hid13 hcell
    have HP := hid13 hp
    have HK4 := hid13 hk
    clear h hv hcell hx hc h0 h1 hp hk hk0
    go_enter Tryd.func14, Tryd.ntmps14
    go_wp2_with fail
    clear c1 c2
    go_loopg [8, 9] k (fun g a i wr => wr = w ∧ ∃ (q : Nat) (M : Int), q + g = p + k ∧ g ≤ k ∧ i = .int .i64 (q : Int) ∧ a = .int .u32 M ∧ Hid (M = ((numN ((l.drop p).take (k - g)) : Nat) : Int)))
    case atStart => exact ⟨rfl, p, 0, rfl, Nat.le_refl _, rfl, rfl, by show _ = _; rw [Nat.sub_self, List.take_zero]; rfl⟩
    case round =>
      obtain ⟨hw, q, M, hq, hgk, rfl, rfl, HM⟩ := hrel
      replace hw := hw.symm
      subst hw
      by_cases hlt : q < p + k
      · have hqi : (q : Int) < (p : Int) + (k : Int) := by omega
        have hql : q < l.length := by have := HP.out; omega
        obtain ⟨b, hb⟩ : ∃ b, l[q]? = some b := ⟨l[q], by simp [hql]⟩
        obtain ⟨B, hB⟩ : ∃ B : Int, B = (b : Int) := ⟨_, rfl⟩
        obtain ⟨m, hm⟩ : ∃ m, m = numN ((l.drop p).take (k - gk)) := ⟨_, rfl⟩
        have hMm : M = (m : Int) := by rw [hm]; exact HM.out
        have r1 : w.cell? ⟨bo, off + q, none⟩ = some (.int .u8 B) := by rw [hB]; exact HC.out q b hb
        have hql2 : (q : Int) < (l.length : Int) := by omega
        have hb8 : b < 256 := HX.out b (List.mem_of_getElem? hb)
        have hm3 : m < 16777216 := by
          have h2 := numN_lt ((l.drop p).take (k - gk)) (fun x hx => HX.out x (List.mem_of_mem_drop (List.mem_of_mem_take hx)))
          have h3 : ((l.drop p).take (k - gk)).length ≤ 3 := by rw [List.length_take]; have := HK4.out; omega
          have h4 := Nat.pow_le_pow_right (n := 256) (by omega) h3
          have : 256 ^ 3 = 16777216 := by decide
          omega
        obtain ⟨M2, hM2⟩ : ∃ M2 : Int, M2 = ((m * 256 + b : Nat) : Int) := ⟨_, rfl⟩
        have O1 : bits .or .u32 (M * 256) B = M2 := by rw [hM2]; exact orN32 (m * 256) b 8 (by omega) (by omega) (by omega) _ _ (by omega) hB
        have HM2 : Hid (M2 = ((numN ((l.drop p).take (k - (gk - 1))) : Nat) : Int)) := by
          show _ = _
          have e : k - (gk - 1) = (k - gk) + 1 := by omega
          have e2 : (l.drop p)[k - gk]? = some b := by rw [List.getElem?_drop]; rw [← hb]; congr 1; omega
          rw [e, List.take_add_one, e2, Option.toList_some, numN_snoc, ← hm, hM2]
        have hM0 : 0 ≤ M := by omega
        have hM1 : M < 16777216 := by omega
        have hB0 : 0 ≤ B := by omega
        have hB1 : B < 256 := by omega
        have mk : IntKind.i64.wrap ((q : Int) + 1) = (q : Int) + 1 := by rw [IntKind.wrap_i64]; omega
        have HK2 : Hid (gk - 1 < gk ∧ q + 1 + (gk - 1) = p + k ∧ gk - 1 ≤ k) := ⟨by omega, by omega, by omega⟩
        clear hb hm3 HM hq hgk hlt hql hM2 hMm hm hb8 hB
        go_wp2
        go_roundg (gk - 1)
        case measure => exact HK2.out.1
        case rel => exact ⟨rfl, q + 1, M2, HK2.out.2.1, HK2.out.2.2, rfl, rfl, HM2.out⟩
      · have hqi : ¬ (q : Int) < (p : Int) + (k : Int) := by omega
        have HF : Hid (M = ((numN ((l.drop p).take k) : Nat) : Int)) := by
          obtain rfl : gk = 0 := by omega
          exact HM.out
        go_wp2_with fail
        exact bodyPost_ret (v := .tuple #[.int .u32 M, .bool true]) (by simp [results, Tryd.results14, go_sem]) rfl ⟨by rw [HF.out], rfl⟩
  · rw [if_neg h, decide_eq_false h]
    by_cases d0 : n < 0
    · clear h
      go_enter Tryd.func14, Tryd.ntmps14
      go_wp2_with fail
      exact bodyPost_ret (v := .tuple #[.int .u32 0, .bool false]) (by simp [results, Tryd.results14, go_sem]) rfl ⟨rfl, rfl⟩
    · by_cases d1 : (l.length : Int) < n
      · clear h
        go_enter Tryd.func14, Tryd.ntmps14
        go_wp2_with fail
        exact bodyPost_ret (v := .tuple #[.int .u32 0, .bool false]) (by simp [results, Tryd.results14, go_sem]) rfl ⟨rfl, rfl⟩
      · have d2 : (l.length : Int) - n < (k : Int) := by omega
        have mw : IntKind.i64.wrap ((l.length : Int) - n) = (l.length : Int) - n := by rw [IntKind.wrap_i64]; omega
        clear h
        go_enter Tryd.func14, Tryd.ntmps14
        go_wp2_with fail
        exact bodyPost_ret (v := .tuple #[.int .u32 0, .bool false]) (by simp [results, Tryd.results14, go_sem]) rfl ⟨rfl, rfl⟩
def PS13 (w wr : World) (vb : Value) (R : List Nat) : Prop :=
  Below w.heap.size w wr ∧ (wr.ownsRow w.heap.size 5 1 vb R.length (R.map cB) ∨ (RowA wr 1 vb R.length (R.map cB) ∧ ∃ ao, vb = .slice ao R.length R.length))
theorem wpList_put13 {ops : Array Oper} {rest : List Oper} {o : Oper} {a : Act} {Q : Exit → Act → World → Prop} (hgd : o.guard = none) (s x : Operand)
    (ho : o.op = .call { callee := .builtin .append, args := #[s, x], argTypes := #[22, 22] }) (w wr : World) (vb : Value) (R : List Nat) (hS : PS13 w wr vb R) (b : Nat) (hl : R.length ≤ 140737488355200) (hs : a.eval s = vb) (hx : a.eval x = .slice (some ⟨wr.heap.size, 0, none⟩) 1 1)
    (h : ∀ v' w', w'.ownsRow w.heap.size 5 1 v' (R ++ [b]).length ((R ++ [b]).map cB) → Below w.heap.size w w' → wpList Tryd.prog ops Q rest (a.put o.dst v') w') : wpList Tryd.prog ops Q (o :: rest) a (wr.alloc (.cells #[.int .u8 (b : Int)] 5)) := by
  obtain ⟨i0, hi, hz0, hz1, hz2⟩ := info13 Tryd.infoB13
  obtain ⟨hB, hS⟩ := hS
  have q9 := bl1 wr (.cells #[.int .u8 (b : Int)] 5)
  have h63 : R.length + 1 ≤ maxLen := by unfold maxLen; omega
  have h47 : (R.length + 1) * 1 ≤ 140737488355328 := by omega
  have hsz : w.heap.size ≤ (wr.alloc (.cells #[.int .u8 (b : Int)] 5)).heap.size := Nat.le_trans hB.size q9.size
  have hB9 := keepb q9 hB
  have hmap : R.map cB ++ [.int .u8 (b : Int)] = (R ++ [b]).map cB := by rw [List.map_append]; rfl
  have hlen : (R ++ [b]).length = R.length + 1 := by simp
  rcases hS with hS | ⟨hS, ao, hv⟩
  · have hO := own_b13 q9 hS
    refine wpList_append_lies _ hgd s x 22 ho w.heap.size 5 i0 (.int .u8 0) 1 1 Tryd.underlying22 hi hz0 hz1 hz2 rfl (by decide) vb R.length (R.map cB) hs hO ⟨wr.heap.size, 0, none⟩ 1 1 [.int .u8 (b : Int)] hx rfl (news13 (by simp [go_sem])) (by intro u hu; simp at hu; subst hu; rfl) (by decide) h63 h47 hsz _ rfl ?_
    intro g cap w' h1 h2 _ _
    refine h _ w' ?_ (hB9.grown h2 hB9.size (fun z e => (hO.lt z e).1))
    rw [hlen, ← hmap]; exact h1
  · subst hv
    obtain ⟨hl0, ao', c', e, hc, hr⟩ := hS.below q9
    injection e with e1 e2 e3
    subst e1
    refine wpList_append_grows _ hgd s x 22 ho 5 i0 (.int .u8 0) 1 1 Tryd.underlying22 hi hz0 hz1 hz2 rfl (by decide) ao R.length R.length (R.map cB) hs ?_ hl0 ?_ ⟨wr.heap.size, 0, none⟩ 1 1 [.int .u8 (b : Int)] hx rfl (news13 (by simp [go_sem])) (by intro u hu; simp at hu; subst hu; rfl) (by omega) h63 h47 ?_
    · intro hn
      rcases hr with ⟨-, -, h⟩ | ⟨ad, h, -⟩
      · exact ⟨h, h⟩
      · rw [hn] at h; cases h
    · intro bb hb j u hj
      rcases hr with ⟨h, -, -⟩ | ⟨ad, h, hr⟩
      · rw [hb] at h; cases h
      · rw [hb] at h; injection h with h; subst h; exact hr j u hj
    · intro v' w' h1 h2
      refine h v' w' ?_ (hB9.grown h2 hB9.size (fun z e => by cases e))
      have := own_wide13 h1 hsz
      rw [hlen, ← hmap]; exact this
def lastB (x : Nat) : Nat → List Nat
  | 0 => []
  | c + 1 => x / 256 ^ c % 256 :: lastB x c
theorem lastB_two (x : Nat) : lastB x 2 = by2 (x % 65536) := by
  unfold by2
  simp only [lastB]
  congr 1
  · omega
  · congr 1; omega
theorem lastB_four (x : Nat) (h : x < 4294967296) : lastB x 4 = by4 x := by
  unfold by4
  simp only [lastB]
  congr 1
  · omega
  · congr 1; congr 1; congr 1; omega
set_option maxRecDepth 100000 in
set_option maxHeartbeats 8000000 in
theorem rput13 (ao : Option Addr) (l : List Nat) (x : Nat) (K : Int) (k : Nat) (hK : K = (k : Int)) (hk0 : 0 < k) (hk : k ≤ 4) (w : World) (hA : RowA w 1 (.slice ao l.length l.length) l.length (l.map cB)) (hl : l.length ≤ 140737488355000) (hx : x < 4294967296) :
    Calls Tryd.prog 16 #[.slice ao l.length l.length, .int .u32 (x : Int), .int .i64 K] w fun e w' => ∃ v', e = .returned v' ∧ w'.ownsRow w.heap.size 5 1 v' (l ++ lastB x k).length ((l ++ lastB x k).map cB) ∧ Below w.heap.size w w' := by
  subst hK
  have HS0 : Hid (PS13 w w (.slice ao l.length l.length) l) := ⟨Below.refl _ _, .inr ⟨hA, ao, rfl⟩⟩
  obtain ⟨N, hN⟩ : ∃ N : Int, N = (x : Int) := ⟨_, rfl⟩
  have HN := hid13 hN
  have hN0 : 0 ≤ N := by omega
  have hN1 : N < 4294967296 := by omega
  have hq : N / 16777216 < 256 := by omega
  have hq0 : 0 ≤ N / 16777216 := by omega
  rw [← hN]
  have hki : (k : Int) ≤ 4 := by omega
  have HK0 : Hid (0 < k ∧ k ≤ 4 ∧ l.length ≤ 140737488355000) := ⟨hk0, hk, hl⟩
  clear hN hA hx hk0 hk hl
  go_enter Tryd.func16, Tryd.ntmps16
  go_wp2_with fail
  go_loopg [0, 7] k (fun g vb i wr => ∃ (c : Nat) (v : Value) (R : List Nat), c = g ∧ c ≤ k ∧ vb = v ∧ i = .int .i64 ((c : Int) - 1) ∧ Hid (PS13 w wr v R) ∧ (c < k → wr.ownsRow w.heap.size 5 1 v R.length (R.map cB)) ∧ Hid (R ++ lastB x c = l ++ lastB x k))
  case atStart => exact ⟨k, _, l, rfl, Nat.le_refl _, rfl, rfl, HS0, fun h => by omega, rfl⟩
  case round =>
    clear HS0
    obtain ⟨c, vb, R, rfl, hck, hvb, rfl, HS, HO, HR0⟩ := hrel
    subst hvb
    cases c with
    | zero =>
      have HO2 := hid13 (HO HK0.out.1)
      have e : R = l ++ lastB x k := by have := HR0.out; simp only [lastB, List.append_nil] at this; exact this
      subst e
      clear HO
      go_wp2_with fail
      exact bodyPost_ret (v := u0) (by simp [results, Tryd.results16, go_sem]) rfl ⟨_, rfl, HO2.out, HS.out.1⟩
    | succ c =>
      have HR : Hid (R.length ≤ 140737488355200) := by
        have h1 := congrArg List.length HR0.out
        have h2 : ∀ c, (lastB x c).length = c := by intro c; induction c with | zero => rfl | succ c ih => simp [lastB, ih]
        rw [List.length_append, List.length_append, h2, h2] at h1
        have := HK0.out
        show _ ≤ _
        omega
      obtain ⟨b, hb⟩ : ∃ b, b = x / 256 ^ c % 256 := ⟨_, rfl⟩
      have HP : Hid ((R ++ [b]) ++ lastB x c = l ++ lastB x k) := by
        have := HR0.out
        simp only [lastB] at this
        rw [List.append_assoc, hb]; exact this
      obtain ⟨y, hyb⟩ : ∃ y : Int, y = (b : Int) := ⟨_, rfl⟩
      have HY : Hid (N = (x : Int) ∧ x < 4294967296 ∧ y = ((x / 256 ^ c % 256 : Nat) : Int)) := ⟨HN.out, by have := HN.out; omega, by rw [hyb, hb]⟩
      have HK : Hid (c < c + 1 ∧ c ≤ k) := ⟨by omega, by omega⟩
      have hc4 : c < 4 := by have := HK0.out; omega
      have hp1 : ((c + 1 : Nat) : Int) - 1 = (c : Int) := by omega
      rw [hp1]
      clear HO HR0 hb hp1 hck
      rcases c with _ | _ | _ | _ | c
      · have hy : N % 256 = y := by have := HY.out; simp at this; omega
        go_wp2_with (at_builtin; apply stopHere9)
        refine (show wpList _ _ _ _ _ _ from ?_)
        try rw [hyb]
        refine wpList_put13 rfl _ _ rfl w wr u0 R HS.out b HR.out rfl rfl ?_
        intro v5 w5 ho5 hb5
        have HS5 : Hid (PS13 w w5 v5 (R ++ [b])) := ⟨hb5, .inl ho5⟩
        have HW5 := hid13 ho5
        clear ho5 hb5 HS
        go_wp2
        go_roundg 0
        case measure => exact HK.out.1
        case rel => exact ⟨0, v5, R ++ [b], rfl, HK.out.2, rfl, rfl, HS5, fun _ => HW5.out, HP.out⟩
      · have hy : N / 256 % 256 = y := by have := HY.out; simp at this; omega
        go_wp2_with (at_builtin; apply stopHere9)
        refine (show wpList _ _ _ _ _ _ from ?_)
        try rw [hyb]
        refine wpList_put13 rfl _ _ rfl w wr u0 R HS.out b HR.out rfl rfl ?_
        intro v5 w5 ho5 hb5
        have HS5 : Hid (PS13 w w5 v5 (R ++ [b])) := ⟨hb5, .inl ho5⟩
        have HW5 := hid13 ho5
        clear ho5 hb5 HS
        go_wp2
        go_roundg 1
        case measure => exact HK.out.1
        case rel => exact ⟨1, v5, R ++ [b], rfl, HK.out.2, rfl, rfl, HS5, fun _ => HW5.out, HP.out⟩
      · have hy : N / 65536 % 256 = y := by have := HY.out; simp at this; omega
        go_wp2_with (at_builtin; apply stopHere9)
        refine (show wpList _ _ _ _ _ _ from ?_)
        try rw [hyb]
        refine wpList_put13 rfl _ _ rfl w wr u0 R HS.out b HR.out rfl rfl ?_
        intro v5 w5 ho5 hb5
        have HS5 : Hid (PS13 w w5 v5 (R ++ [b])) := ⟨hb5, .inl ho5⟩
        have HW5 := hid13 ho5
        clear ho5 hb5 HS
        go_wp2
        go_roundg 2
        case measure => exact HK.out.1
        case rel => exact ⟨2, v5, R ++ [b], rfl, HK.out.2, rfl, rfl, HS5, fun _ => HW5.out, HP.out⟩
      · have hy : N / 16777216 = y := by have := HY.out; simp at this; omega
        go_wp2_with (at_builtin; apply stopHere9)
        refine (show wpList _ _ _ _ _ _ from ?_)
        try rw [hyb]
        refine wpList_put13 rfl _ _ rfl w wr u0 R HS.out b HR.out rfl rfl ?_
        intro v5 w5 ho5 hb5
        have HS5 : Hid (PS13 w w5 v5 (R ++ [b])) := ⟨hb5, .inl ho5⟩
        have HW5 := hid13 ho5
        clear ho5 hb5 HS
        go_wp2
        go_roundg 3
        case measure => exact HK.out.1
        case rel => exact ⟨3, v5, R ++ [b], rfl, HK.out.2, rfl, rfl, HS5, fun _ => HW5.out, HP.out⟩
      · omega
end Go.Proofs.YthbdmdafldombaaDoor
