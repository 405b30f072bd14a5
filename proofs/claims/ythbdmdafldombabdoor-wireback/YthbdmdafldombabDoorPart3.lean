/-
  Part 3 of the proof: 3 texts, one behind the other.
-/
import Derived.Test.YthbdmdafldombabDoorPart1
import Derived.Test.YthbdmdafldombabDoorPart2
import Derived.Laws.IdiomStrings
namespace Go.Proofs.YthbdmdafldombabDoor
open Go.RowKit
set_option linter.unusedSimpArgs false
set_option linter.unusedVariables false

def by2 (n : Nat) : List Nat := [n / 256, n % 256]
def by4 (n : Nat) : List Nat := [n / 16777216, n / 65536 % 256, n / 256 % 256, n % 256]
theorem own_wide13 {w : World} {base base' e size n : Nat} {v : Value} {xs : List Value} (h : w.ownsRow base e size v n xs) (hb : base' ≤ base) : w.ownsRow base' e size v n xs := by
  refine ⟨h.1, ?_⟩
  rcases h.2 with hn | ⟨g, cap, cur, hv, h1, h2⟩
  · exact .inl hn
  · exact .inr ⟨g, cap, cur, hv, by omega, h2⟩
set_option maxRecDepth 100000 in
set_option maxHeartbeats 4000000 in
theorem put16_any (v : Value) (l : List Nat) (n : Nat) (w : World) (hA : RowA w 1 v l.length (l.map cB)) (hl : l.length ≤ 140737488355000) (hn : n < 65536) :
    Calls Tryd.prog 13 #[v, .int .u16 (n : Int)] w fun e w' => ∃ v', e = .returned v' ∧ w'.ownsRow w.heap.size 5 1 v' (l ++ by2 n).length ((l ++ by2 n).map cB) ∧ Below w.heap.size w w' := by
  have hn1 : (n : Int) < 65536 := by omega
  obtain ⟨-, vo, vc, hvf, -⟩ := id hA
  have q1 := bl1 w (.cells #[.int .u8 ((n : Int) / 256), .int .u8 ((n : Int) % 256)] 5)
  have r1 := World.ownsRow_lit (base := w.heap.size) (e := 5) (size := 1) w #[.int .u8 ((n : Int) / 256), .int .u8 ((n : Int) % 256)] 2 (Nat.le_refl _) (by unfold maxLen; omega) rfl
  obtain ⟨w1, hw1⟩ : ∃ w1, w1 = w.alloc (.cells #[.int .u8 ((n : Int) / 256), .int .u8 ((n : Int) % 256)] 5) := ⟨_, rfl⟩
  have e1 : w1.heap.size = w.heap.size + 1 := by rw [hw1]; simp
  rw [← hw1] at q1 r1
  have r1' : RowA w1 1 (.slice (some ⟨w.heap.size, 0, none⟩) 2 2) (by2 n).length ((by2 n).map cB) := by
    obtain ⟨h1, ao, c, h2, h3, h4⟩ := own_row r1
    have e : (#[.int .u8 ((n : Int) / 256), .int .u8 ((n : Int) % 256)] : Array Value).toList = (by2 n).map cB := by unfold by2 cB; simp
    rw [e] at h1 h4
    refine ⟨h1, ao, c, h2, h3, ?_⟩
    rcases h4 with h4 | ⟨b, off, h5, h6⟩
    · exact .inl h4
    · exact .inr ⟨_, h5, fun j u hj => by rw [addA]; exact h6 j u hj⟩
  have q2 := bl1 w1 (.cells #[v, .slice (some ⟨w.heap.size, 0, none⟩) 2 2] 22)
  have r2 := lit_rwx (f := fun p : Value × List Nat => p.1) w1 #[v, .slice (some ⟨w.heap.size, 0, none⟩) 2 2] 22 (0, 0) [(v, l), (.slice (some ⟨w.heap.size, 0, none⟩) 2 2, by2 n)] rfl
  rw [e1] at r2
  have HC := concat13 _ _ _ r2 (by
    intro p hp
    simp only [List.mem_cons, List.mem_nil_iff, or_false] at hp
    rcases hp with rfl | rfl
    · exact (hA.below q1).below q2
    · exact r1'.below q2) (by show 2 ≤ 1000; decide) (by
      show (l ++ (by2 n ++ [])).length ≤ _
      rw [List.append_nil, List.length_append]
      show l.length + 2 ≤ _
      omega)
  have ha : allB [(v, l), (.slice (some ⟨w.heap.size, 0, none⟩) 2 2, by2 n)] = l ++ by2 n := by
    show l ++ (by2 n ++ []) = _
    rw [List.append_nil]
  rw [ha] at HC
  have hb2 := keepb q2 q1
  rw [hw1] at HC hb2
  obtain ⟨Z, hZ⟩ : ∃ Z, Z = l ++ by2 n := ⟨_, rfl⟩
  rw [← hZ] at HC ⊢
  have HC' := hid13 HC
  have HB2 := hid13 hb2
  have hsz : Hid (w.heap.size ≤ ((w.alloc (.cells #[.int .u8 ((n : Int) / 256), .int .u8 ((n : Int) % 256)] 5)).alloc (.cells #[v, .slice (some ⟨w.heap.size, 0, none⟩) 2 2] 22)).heap.size) := hb2.size
  clear q1 q2 r1 r1' r2 HC ha hb2 hw1 e1 hA w1 hZ hn
  obtain ⟨N, hN⟩ : ∃ N : Int, N = (n : Int) := ⟨_, rfl⟩
  have hN0 : 0 ≤ N := by omega
  rw [← hN] at HC' HB2 hsz hn1 ⊢
  have hq : N / 256 < 256 := by omega
  have hq0 : 0 ≤ N / 256 := by omega
  clear hN
  rw [hvf] at HC' HB2 hsz ⊢
  clear hvf
  go_enter Tryd.func13, Tryd.ntmps13
  go_wp2_with fail
  refine HC'.out.mono ?_
  rintro e w3 ⟨v3, rfl, hown, hb3⟩
  have HO := hid13 (own_wide13 hown hsz.out)
  have HB3 := hid13 (keepb hb3 HB2.out)
  clear hown hb3 HC'
  go_wp2
  go_ret
  exact ⟨_, rfl, HO.out, HB3.out⟩
set_option maxRecDepth 100000 in
set_option maxHeartbeats 4000000 in
theorem put32_any (v : Value) (l : List Nat) (n : Nat) (w : World) (hA : RowA w 1 v l.length (l.map cB)) (hl : l.length ≤ 140737488355000) (hn : n < 4294967296) :
    Calls Tryd.prog 14 #[v, .int .u32 (n : Int)] w fun e w' => ∃ v', e = .returned v' ∧ w'.ownsRow w.heap.size 5 1 v' (l ++ by4 n).length ((l ++ by4 n).map cB) ∧ Below w.heap.size w w' := by
  have hn1 : (n : Int) < 4294967296 := by omega
  obtain ⟨-, vo, vc, hvf, -⟩ := id hA
  have q1 := bl1 w (.cells #[.int .u8 ((n : Int) / 16777216), .int .u8 ((n : Int) / 65536 % 256), .int .u8 ((n : Int) / 256 % 256), .int .u8 ((n : Int) % 256)] 5)
  have r1 := World.ownsRow_lit (base := w.heap.size) (e := 5) (size := 1) w #[.int .u8 ((n : Int) / 16777216), .int .u8 ((n : Int) / 65536 % 256), .int .u8 ((n : Int) / 256 % 256), .int .u8 ((n : Int) % 256)] 4 (Nat.le_refl _) (by unfold maxLen; omega) rfl
  obtain ⟨w1, hw1⟩ : ∃ w1, w1 = w.alloc (.cells #[.int .u8 ((n : Int) / 16777216), .int .u8 ((n : Int) / 65536 % 256), .int .u8 ((n : Int) / 256 % 256), .int .u8 ((n : Int) % 256)] 5) := ⟨_, rfl⟩
  have e1 : w1.heap.size = w.heap.size + 1 := by rw [hw1]; simp
  rw [← hw1] at q1 r1
  have r1' : RowA w1 1 (.slice (some ⟨w.heap.size, 0, none⟩) 4 4) (by4 n).length ((by4 n).map cB) := by
    obtain ⟨h1, ao, c, h2, h3, h4⟩ := own_row r1
    have e : (#[.int .u8 ((n : Int) / 16777216), .int .u8 ((n : Int) / 65536 % 256), .int .u8 ((n : Int) / 256 % 256), .int .u8 ((n : Int) % 256)] : Array Value).toList = (by4 n).map cB := by unfold by4 cB; simp
    rw [e] at h1 h4
    refine ⟨h1, ao, c, h2, h3, ?_⟩
    rcases h4 with h4 | ⟨b, off, h5, h6⟩
    · exact .inl h4
    · exact .inr ⟨_, h5, fun j u hj => by rw [addA]; exact h6 j u hj⟩
  have q2 := bl1 w1 (.cells #[v, .slice (some ⟨w.heap.size, 0, none⟩) 4 4] 22)
  have r2 := lit_rwx (f := fun p : Value × List Nat => p.1) w1 #[v, .slice (some ⟨w.heap.size, 0, none⟩) 4 4] 22 (0, 0) [(v, l), (.slice (some ⟨w.heap.size, 0, none⟩) 4 4, by4 n)] rfl
  rw [e1] at r2
  have HC := concat13 _ _ _ r2 (by
    intro p hp
    simp only [List.mem_cons, List.mem_nil_iff, or_false] at hp
    rcases hp with rfl | rfl
    · exact (hA.below q1).below q2
    · exact r1'.below q2) (by show 2 ≤ 1000; decide) (by
      show (l ++ (by4 n ++ [])).length ≤ _
      rw [List.append_nil, List.length_append]
      show l.length + 4 ≤ _
      omega)
  have ha : allB [(v, l), (.slice (some ⟨w.heap.size, 0, none⟩) 4 4, by4 n)] = l ++ by4 n := by
    show l ++ (by4 n ++ []) = _
    rw [List.append_nil]
  rw [ha] at HC
  have hb2 := keepb q2 q1
  rw [hw1] at HC hb2
  obtain ⟨Z, hZ⟩ : ∃ Z, Z = l ++ by4 n := ⟨_, rfl⟩
  rw [← hZ] at HC ⊢
  have HC' := hid13 HC
  have HB2 := hid13 hb2
  have hsz : Hid (w.heap.size ≤ ((w.alloc (.cells #[.int .u8 ((n : Int) / 16777216), .int .u8 ((n : Int) / 65536 % 256), .int .u8 ((n : Int) / 256 % 256), .int .u8 ((n : Int) % 256)] 5)).alloc (.cells #[v, .slice (some ⟨w.heap.size, 0, none⟩) 4 4] 22)).heap.size) := hb2.size
  clear q1 q2 r1 r1' r2 HC ha hb2 hw1 e1 hA w1 hZ hn
  obtain ⟨N, hN⟩ : ∃ N : Int, N = (n : Int) := ⟨_, rfl⟩
  have hN0 : 0 ≤ N := by omega
  rw [← hN] at HC' HB2 hsz hn1 ⊢
  have hq : N / 16777216 < 256 := by omega
  have hq0 : 0 ≤ N / 16777216 := by omega
  clear hN
  rw [hvf] at HC' HB2 hsz ⊢
  clear hvf
  go_enter Tryd.func14, Tryd.ntmps14
  go_wp2_with fail
  refine HC'.out.mono ?_
  rintro e w3 ⟨v3, rfl, hown, hb3⟩
  have HO := hid13 (own_wide13 hown hsz.out)
  have HB3 := hid13 (keepb hb3 HB2.out)
  clear hown hb3 HC'
  go_wp2
  go_ret
  exact ⟨_, rfl, HO.out, HB3.out⟩
def numN (l : List Nat) : Nat := l.foldl (fun v b => v * 256 + b) 0
def gtN (l : List Nat) (n : Int) (k : Nat) : Nat := if 0 ≤ n ∧ n ≤ (l.length : Int) - k then numN ((l.drop n.toNat).take k) else 0
def gtE (l : List Nat) (n : Int) (k : Nat) : Int := if 0 ≤ n ∧ n ≤ (l.length : Int) - k then 0 else 30
theorem take2_of {l : List Nat} {j a b : Nat} (h0 : l[j + 0]? = some a) (h1 : l[j + 1]? = some b) : (l.drop j).take 2 = [a, b] := by
  apply List.ext_getElem?
  intro i
  rw [List.getElem?_take]
  match i with
  | 0 => simpa using h0
  | 1 => simpa using h1
  | i + 2 => rw [if_neg (by omega)]; rfl
theorem take4_of {l : List Nat} {j a b c d : Nat} (h0 : l[j + 0]? = some a) (h1 : l[j + 1]? = some b) (h2 : l[j + 2]? = some c) (h3 : l[j + 3]? = some d) : (l.drop j).take 4 = [a, b, c, d] := by
  apply List.ext_getElem?
  intro i
  rw [List.getElem?_take]
  match i with
  | 0 => simpa using h0
  | 1 => simpa using h1
  | 2 => simpa using h2
  | 3 => simpa using h3
  | i + 4 => rw [if_neg (by omega)]; rfl
theorem stand_any (ao : Option Addr) (m cc : Nat) (n k : Int) (w : World) (hk : 0 ≤ k ∧ k ≤ 100) (hm : m ≤ 140737488355328) :
    Calls Tryd.prog 30 #[.slice ao m cc, .int .i64 n, .int .i64 k] w fun e w' => e = .returned (.bool (decide (0 ≤ n) && decide (n ≤ (m : Int) - k))) ∧ w' = w := by
  have hw : IntKind.i64.wrap ((m : Int) - k) = (m : Int) - k := by rw [IntKind.wrap_i64]; omega
  by_cases h : 0 ≤ n
  · go_enter Tryd.func30, Tryd.ntmps30
    go_wp2
    go_ret
    exact ⟨by rw [decide_eq_true h]; rfl, rfl⟩
  · go_enter Tryd.func30, Tryd.ntmps30
    go_wp2
    go_ret
    exact ⟨by rw [decide_eq_false (by omega : ¬ 0 ≤ n)]; rfl, rfl⟩
theorem orN16 (A B i : Nat) (hA : A % 2 ^ i = 0) (hB : B < 2 ^ i) (h : A + B < 65536) (x y : Int) (hx : x = (A : Int)) (hy : y = (B : Int)) : bits .or .u16 x y = ((A + B : Nat) : Int) := by
  subst hx hy
  unfold bits
  simp only [IntKind.bits]
  have e : (BitVec.ofInt 16 (A : Int) ||| BitVec.ofInt 16 (B : Int)).toNat = A + B := by
    rw [BitVec.toNat_or]
    have e1 : (BitVec.ofInt 16 (A : Int)).toNat = A := by rw [BitVec.toNat_ofInt]; omega
    have e2 : (BitVec.ofInt 16 (B : Int)).toNat = B := by rw [BitVec.toNat_ofInt]; omega
    rw [e1, e2]
    have e3 : A = (A / 2 ^ i) <<< i := by
      rw [Nat.shiftLeft_eq]
      have := Nat.div_add_mod A (2 ^ i)
      rw [hA, Nat.mul_comm] at this
      omega
    rw [e3, ← Nat.shiftLeft_add_eq_or_of_lt hB]
  show IntKind.wrap .u16 (((BitVec.ofInt 16 (A : Int) ||| BitVec.ofInt 16 (B : Int)).toNat : Nat) : Int) = _
  rw [e]
  simp [IntKind.wrap, IntKind.bits, IntKind.signed]
  omega
theorem orN32 (A B i : Nat) (hA : A % 2 ^ i = 0) (hB : B < 2 ^ i) (h : A + B < 4294967296) (x y : Int) (hx : x = (A : Int)) (hy : y = (B : Int)) : bits .or .u32 x y = ((A + B : Nat) : Int) := by
  subst hx hy
  unfold bits
  simp only [IntKind.bits]
  have e : (BitVec.ofInt 32 (A : Int) ||| BitVec.ofInt 32 (B : Int)).toNat = A + B := by
    rw [BitVec.toNat_or]
    have e1 : (BitVec.ofInt 32 (A : Int)).toNat = A := by rw [BitVec.toNat_ofInt]; omega
    have e2 : (BitVec.ofInt 32 (B : Int)).toNat = B := by rw [BitVec.toNat_ofInt]; omega
    rw [e1, e2]
    have e3 : A = (A / 2 ^ i) <<< i := by
      rw [Nat.shiftLeft_eq]
      have := Nat.div_add_mod A (2 ^ i)
      rw [hA, Nat.mul_comm] at this
      omega
    rw [e3, ← Nat.shiftLeft_add_eq_or_of_lt hB]
  show IntKind.wrap .u32 (((BitVec.ofInt 32 (A : Int) ||| BitVec.ofInt 32 (B : Int)).toNat : Nat) : Int) = _
  rw [e]
  simp [IntKind.wrap, IntKind.bits, IntKind.signed]
  omega
set_option maxRecDepth 100000 in
set_option maxHeartbeats 8000000 in
theorem get16_any (v : Value) (l : List Nat) (n : Int) (w : World) (hv : RwX cB w v l) (hl : l.length ≤ 140737488355328) (hx : ∀ b ∈ l, b < 256) (h0 : -9223372036854775808 ≤ n) (h1 : n ≤ 9223372036854775807) :
    Calls Tryd.prog 15 #[v, .int .i64 n] w fun e w' => e = .returned (.tuple #[.int .u16 ((gtN l n 2 : Nat) : Int), .int .i64 (gtE l n 2)]) ∧ Below w.heap.size w w' := by
  obtain ⟨ao, cc, rfl, hc, hv⟩ := hv
  by_cases h : 0 ≤ n ∧ n ≤ (l.length : Int) - ((2 : Nat) : Int)
  · unfold gtN gtE
    rw [if_pos h, if_pos h]
    obtain ⟨j, rfl⟩ : ∃ j : Nat, n = (j : Int) := ⟨n.toNat, by omega⟩
    have hj : j + 2 ≤ l.length := by omega
    obtain ⟨bo, off, rfl, hcell⟩ : ∃ bo off, ao = some ⟨bo, off, none⟩ ∧ ∀ j x, l[j]? = some x → w.cell? ⟨bo, off + j, none⟩ = some (cB x) := by
      rcases hv with h | h
      · rw [h] at hj; simp at hj
      · exact h
    obtain ⟨b0, g0⟩ : ∃ x, l[j + 0]? = some x := ⟨l[j + 0]'(by omega), by simp [show j + 0 < l.length by omega]⟩
    obtain ⟨b1, g1⟩ : ∃ x, l[j + 1]? = some x := ⟨l[j + 1]'(by omega), by simp [show j + 1 < l.length by omega]⟩
    have HN : Hid (numN ((l.drop (j : Int).toNat).take 2) = (b0 * 256 + b1)) := by
      show _ = _
      rw [Int.toNat_natCast, take2_of g0 g1]
      unfold numN
      simp
    have r0 : w.cell? ⟨bo, off + j, none⟩ = some (.int .u8 (b0 : Int)) := hcell (j + 0) b0 g0
    have s0 : ((b0 : Nat) : Int) < 256 := by have := hx b0 (List.mem_of_getElem? g0); omega
    have r1 : w.cell? ⟨bo, off + (j + 1), none⟩ = some (.int .u8 (b1 : Int)) := hcell (j + 1) b1 g1
    have s1 : ((b1 : Nat) : Int) < 256 := by have := hx b1 (List.mem_of_getElem? g1); omega
    have l1 : (j : Int) + 1 < (l.length : Int) := by omega
    have lj : (j : Int) < (l.length : Int) := by omega
    have hdt : (decide (0 ≤ (j : Int)) && decide ((j : Int) ≤ (l.length : Int) - 2)) = true := by simp; omega
    have hle : (j : Int) ≤ (l.length : Int) - 2 := by omega
    have hst : (0 : Int) ≤ (j : Int) := by omega
    have HS : Hid (Below w.heap.size w w) := Below.refl _ _
    clear hv h hcell hx hc
    go_enter Tryd.func15, Tryd.ntmps15
    go_wp2_with (go_at_call 30; refine (stand_any _ l.length cc (j : Int) 2 _ (by omega) hl).mono ?_; rw [hdt]; rintro e w1 ⟨rfl, hw1⟩; replace hw1 := hw1.symm; subst hw1)
    go_quiet (fail)
    have HB : Hid (Below w.heap.size w (w.drewN nq)) := below_drewN (Below.refl _ _) nq
    have o1 : bits .or .u16 ((b0 : Int) * 256) (b1 : Int) = ((b0 * 256 + b1 : Nat) : Int) := orN16 (b0 * 256) b1 8 (by omega) (by omega) (by omega) _ _ (by omega) rfl
    rw [o1]
    go_wp2
    exact bodyPost_ret (v := .tuple #[.int .u16 (((b0 * 256 + b1) : Nat) : Int), .int .i64 0]) (by simp [results, Tryd.results15, go_sem]) rfl ⟨by rw [HN.out], HB.out⟩
  · unfold gtN gtE
    rw [if_neg h, if_neg h]
    replace h : ¬ (0 ≤ n ∧ n ≤ (l.length : Int) - 2) := h
    have hd : (decide (0 ≤ n) && decide (n ≤ (l.length : Int) - 2)) = false := by
      rw [← Bool.decide_and]; exact decide_eq_false h
    go_enter Tryd.func15, Tryd.ntmps15
    go_wp2_with (go_at_call 30; refine (stand_any ao l.length cc n 2 _ (by omega) (by omega)).mono ?_; rintro e w1 ⟨rfl, hw1⟩; replace hw1 := hw1.symm; subst hw1)
    exact bodyPost_ret (v := .tuple #[.int .u16 0, .int .i64 30]) (by simp [results, Tryd.results15, go_sem]) rfl ⟨rfl, Below.refl _ _⟩
set_option maxRecDepth 100000 in
set_option maxHeartbeats 8000000 in
theorem get32_any (v : Value) (l : List Nat) (n : Int) (w : World) (hv : RwX cB w v l) (hl : l.length ≤ 140737488355328) (hx : ∀ b ∈ l, b < 256) (h0 : -9223372036854775808 ≤ n) (h1 : n ≤ 9223372036854775807) :
    Calls Tryd.prog 16 #[v, .int .i64 n] w fun e w' => e = .returned (.tuple #[.int .u32 ((gtN l n 4 : Nat) : Int), .int .i64 (gtE l n 4)]) ∧ Below w.heap.size w w' := by
  obtain ⟨ao, cc, rfl, hc, hv⟩ := hv
  by_cases h : 0 ≤ n ∧ n ≤ (l.length : Int) - ((4 : Nat) : Int)
  · unfold gtN gtE
    rw [if_pos h, if_pos h]
    obtain ⟨j, rfl⟩ : ∃ j : Nat, n = (j : Int) := ⟨n.toNat, by omega⟩
    have hj : j + 4 ≤ l.length := by omega
    obtain ⟨bo, off, rfl, hcell⟩ : ∃ bo off, ao = some ⟨bo, off, none⟩ ∧ ∀ j x, l[j]? = some x → w.cell? ⟨bo, off + j, none⟩ = some (cB x) := by
      rcases hv with h | h
      · rw [h] at hj; simp at hj
      · exact h
    obtain ⟨b0, g0⟩ : ∃ x, l[j + 0]? = some x := ⟨l[j + 0]'(by omega), by simp [show j + 0 < l.length by omega]⟩
    obtain ⟨b1, g1⟩ : ∃ x, l[j + 1]? = some x := ⟨l[j + 1]'(by omega), by simp [show j + 1 < l.length by omega]⟩
    obtain ⟨b2, g2⟩ : ∃ x, l[j + 2]? = some x := ⟨l[j + 2]'(by omega), by simp [show j + 2 < l.length by omega]⟩
    obtain ⟨b3, g3⟩ : ∃ x, l[j + 3]? = some x := ⟨l[j + 3]'(by omega), by simp [show j + 3 < l.length by omega]⟩
    have HN : Hid (numN ((l.drop (j : Int).toNat).take 4) = (((b0 * 256 + b1) * 256 + b2) * 256 + b3)) := by
      show _ = _
      rw [Int.toNat_natCast, take4_of g0 g1 g2 g3]
      unfold numN
      simp
    have r0 : w.cell? ⟨bo, off + j, none⟩ = some (.int .u8 (b0 : Int)) := hcell (j + 0) b0 g0
    have s0 : ((b0 : Nat) : Int) < 256 := by have := hx b0 (List.mem_of_getElem? g0); omega
    have r1 : w.cell? ⟨bo, off + (j + 1), none⟩ = some (.int .u8 (b1 : Int)) := hcell (j + 1) b1 g1
    have s1 : ((b1 : Nat) : Int) < 256 := by have := hx b1 (List.mem_of_getElem? g1); omega
    have r2 : w.cell? ⟨bo, off + (j + 2), none⟩ = some (.int .u8 (b2 : Int)) := hcell (j + 2) b2 g2
    have s2 : ((b2 : Nat) : Int) < 256 := by have := hx b2 (List.mem_of_getElem? g2); omega
    have r3 : w.cell? ⟨bo, off + (j + 3), none⟩ = some (.int .u8 (b3 : Int)) := hcell (j + 3) b3 g3
    have s3 : ((b3 : Nat) : Int) < 256 := by have := hx b3 (List.mem_of_getElem? g3); omega
    have l1 : (j : Int) + 1 < (l.length : Int) := by omega
    have l2 : (j : Int) + 2 < (l.length : Int) := by omega
    have l3 : (j : Int) + 3 < (l.length : Int) := by omega
    have lj : (j : Int) < (l.length : Int) := by omega
    have hdt : (decide (0 ≤ (j : Int)) && decide ((j : Int) ≤ (l.length : Int) - 4)) = true := by simp; omega
    have hle : (j : Int) ≤ (l.length : Int) - 4 := by omega
    have hst : (0 : Int) ≤ (j : Int) := by omega
    have HS : Hid (Below w.heap.size w w) := Below.refl _ _
    clear hv h hcell hx hc
    go_enter Tryd.func16, Tryd.ntmps16
    go_wp2_with (go_at_call 30; refine (stand_any _ l.length cc (j : Int) 4 _ (by omega) hl).mono ?_; rw [hdt]; rintro e w1 ⟨rfl, hw1⟩; replace hw1 := hw1.symm; subst hw1)
    go_quiet (fail)
    have HB : Hid (Below w.heap.size w (w.drewN nq)) := below_drewN (Below.refl _ _) nq
    have o1 : bits .or .u32 ((b0 : Int) * 16777216) ((b1 : Int) * 65536) = ((b0 * 16777216 + b1 * 65536 : Nat) : Int) := orN32 (b0 * 16777216) (b1 * 65536) 24 (by omega) (by omega) (by omega) _ _ (by omega) (by omega)
    have o2 : bits .or .u32 ((b0 * 16777216 + b1 * 65536 : Nat) : Int) ((b2 : Int) * 256) = ((b0 * 16777216 + b1 * 65536 + b2 * 256 : Nat) : Int) := orN32 (b0 * 16777216 + b1 * 65536) (b2 * 256) 16 (by omega) (by omega) (by omega) _ _ rfl (by omega)
    have o3 : bits .or .u32 ((b0 * 16777216 + b1 * 65536 + b2 * 256 : Nat) : Int) (b3 : Int) = ((((b0 * 256 + b1) * 256 + b2) * 256 + b3 : Nat) : Int) := by
      rw [orN32 (b0 * 16777216 + b1 * 65536 + b2 * 256) b3 8 (by omega) (by omega) (by omega) _ _ rfl rfl]
      omega
    rw [o1, o2, o3]
    clear o1 o2 o3
    go_wp2
    exact bodyPost_ret (v := .tuple #[.int .u32 (((((b0 * 256 + b1) * 256 + b2) * 256 + b3) : Nat) : Int), .int .i64 0]) (by simp [results, Tryd.results16, go_sem]) rfl ⟨by rw [HN.out], HB.out⟩
  · unfold gtN gtE
    rw [if_neg h, if_neg h]
    replace h : ¬ (0 ≤ n ∧ n ≤ (l.length : Int) - 4) := h
    have hd : (decide (0 ≤ n) && decide (n ≤ (l.length : Int) - 4)) = false := by
      rw [← Bool.decide_and]; exact decide_eq_false h
    go_enter Tryd.func16, Tryd.ntmps16
    go_wp2_with (go_at_call 30; refine (stand_any ao l.length cc n 4 _ (by omega) (by omega)).mono ?_; rintro e w1 ⟨rfl, hw1⟩; replace hw1 := hw1.symm; subst hw1)
    exact bodyPost_ret (v := .tuple #[.int .u32 0, .int .i64 30]) (by simp [results, Tryd.results16, go_sem]) rfl ⟨rfl, Below.refl _ _⟩
end Go.Proofs.YthbdmdafldombabDoor
namespace Go.Proofs.YthbdmdafldombabDoor
open Go.RowKit
set_option linter.unusedSimpArgs false
set_option linter.unusedVariables false

def bsA (l : List Nat) : ByteArray := ⟨(l.map UInt8.ofNat).toArray⟩
theorem conv13 {W : World} {v : Value} {l : List Nat} (h : RwX cB W v l) (hb : ∀ b ∈ l, b < 256) : (convert 22 9 v).run Tryd.prog W = .ok (.string (bsA l)) W := by
  obtain ⟨ao, c, rfl, -, h⟩ := h
  by_cases hz : l = []
  · subst hz
    cases ao with
    | none =>
      rw [run_convert_bytes_string W 22 9 5 none _ _ Tryd.underlying22 Tryd.underlying5 Tryd.underlying9]
      rfl
    | some a =>
      exact run_convert_bytes_back W 22 9 5 a c [] Tryd.underlying22 Tryd.underlying5 Tryd.underlying9 (fun j hj => absurd hj (Nat.not_lt_zero _))
  · rcases h with h | ⟨b, off, rfl, h⟩
    · exact absurd h hz
    · have := run_convert_bytes_back (P := Tryd.prog) W 22 9 5 ⟨b, off, none⟩ c (l.map UInt8.ofNat) Tryd.underlying22 Tryd.underlying5 Tryd.underlying9 (fun j hj => by
        have hj' : j < l.length := by simpa using hj
        rw [addA, h j l[j] (by simp [hj'])]
        have hlt := hb l[j] (List.getElem_mem hj')
        rw [List.getElem_map]
        unfold cB
        rw [UInt8.toNat_ofNat', Nat.mod_eq_of_lt hlt])
      rw [List.length_map] at this
      exact this
theorem num2 (p : Nat) (h : p < 65536) : numN (by2 p) = p := by unfold numN by2; simp; omega
theorem num4 (n : Nat) (h : n < 4294967296) : numN (by4 n) = n := by
  have e : numN (by4 n) = ((((0 * 256 + n / 16777216) * 256 + n / 65536 % 256) * 256 + n / 256 % 256) * 256 + n % 256) := rfl
  rw [e]; omega
theorem by2_lt (p : Nat) (h : p < 65536) : ∀ b ∈ by2 p, b < 256 := by
  intro b hb
  unfold by2 at hb
  simp only [List.mem_cons, List.mem_nil_iff, or_false] at hb
  omega
theorem by4_lt (n : Nat) (h : n < 4294967296) : ∀ b ∈ by4 n, b < 256 := by
  intro b hb
  unfold by4 at hb
  simp only [List.mem_cons, List.mem_nil_iff, or_false] at hb
  omega
theorem rwx_take {α : Type} {f : α → Value} {W : World} {ao : Option Addr} {n c : Nat} {l m : List α} (h : RwX f W (.slice ao n c) (l ++ m)) : RwX f W (.slice ao l.length c) l := by
  obtain ⟨ao', c', e, hc, h⟩ := h
  injection e with e1 e2 e3
  subst e1 e3
  refine ⟨ao, c, rfl, by rw [List.length_append] at hc; omega, ?_⟩
  by_cases hz : l = []
  · exact .inl hz
  rcases h with h | ⟨b, off, e, h⟩
  · exact absurd (List.append_eq_nil_iff.1 h).1 hz
  · refine .inr ⟨b, off, e, fun j x hj => h j x ?_⟩
    rw [List.getElem?_append_left (List.getElem?_eq_some_iff.1 hj).1]; exact hj
end Go.Proofs.YthbdmdafldombabDoor
namespace Go.Proofs.YthbdmdafldombabDoor
open Go.RowKit
set_option linter.unusedSimpArgs false
set_option linter.unusedVariables false

theorem ex13b {P : Program} {w : World} {s : Sem Value} {v : Value} (h : s.run P w = .ok v w) : (do pure (Next.value (← s)) : Sem Next).run P w = .ok (.value v) w := by
  simp only [Sem.run_bind, h, Sem.run_pure, Result.andThen_ok]
theorem gt_in {l : List Nat} {a m z : List Nat} {n : Int} {k : Nat} (e : l = a ++ (m ++ z)) (hn : n = (a.length : Int)) (hk : m.length = k) : gtN l n k = numN m ∧ gtE l n k = 0 := by
  have hc : 0 ≤ n ∧ n ≤ (l.length : Int) - (k : Int) := by
    rw [e, List.length_append, List.length_append, hn]
    constructor <;> omega
  unfold gtN gtE
  rw [if_pos hc, if_pos hc, hn, Int.toNat_natCast, e, List.drop_left, ← hk, List.take_left]
  exact ⟨rfl, rfl⟩
theorem gt_out {l : List Nat} {n : Int} {k : Nat} (h : ¬ n ≤ (l.length : Int) - (k : Int)) : gtN l n k = 0 ∧ gtE l n k = 30 := by
  unfold gtN gtE
  rw [if_neg (fun q => h q.2), if_neg (fun q => h q.2)]
  exact ⟨rfl, rfl⟩
set_option maxRecDepth 100000 in
set_option maxHeartbeats 16000000 in
theorem wireBack_any (v : Value) (l : List Nat) (x : BitVec 32) (w : World) (hA : RowA w 1 v l.length (l.map cB)) (hv : RwX cB w v l) (hl : l.length * 1 ≤ 140737488351232) (hx : ∀ b ∈ l, b < 256) (hT : Hf w) :
    Calls Tryd.prog 4 #[v, .int .u32 (uI x)] w fun e w' => e = .returned (.bool true) ∧ Below w.heap.size w w' := by
  have hn := x.isLt
  rw [uI_eq]
  obtain ⟨n, hne⟩ : ∃ n, n = x.toNat := ⟨_, rfl⟩
  rw [← hne] at hn ⊢
  obtain ⟨q, hq⟩ : ∃ q, q = n / 128 % 65536 := ⟨_, rfl⟩
  have hql : q < 65536 := by omega
  obtain ⟨vo, vc, hvf, -⟩ := id hv
  have HT := hid13 hT
  have HA := hid13 hA
  have HV := hid13 hv
  have HL : Hid (l.length ≤ 140737488351232) := by show _ ≤ _; omega
  have HX := hid13 hx
  have HQ : Hid (q < 65536 ∧ n < 4294967296) := ⟨hql, hn⟩
  obtain ⟨N, hN⟩ : ∃ N : Int, N = (n : Int) := ⟨_, rfl⟩
  obtain ⟨p, hp⟩ : ∃ p : Int, p = (q : Int) := ⟨_, rfl⟩
  have hN0 : 0 ≤ N := by omega
  have hN1 : N < 4294967296 := by omega
  have hp0 : 0 ≤ p := by omega
  have hp1 : p < 65536 := by omega
  have hpe : IntKind.u16.wrap (N / 128) = p := by simp [IntKind.wrap, IntKind.bits, IntKind.signed]; omega
  have HK : Hid (N = (n : Int) ∧ p = (q : Int)) := ⟨hN, hp⟩
  rw [← hN]
  subst hvf
  have hl0 : (l.length : Int) ≤ 140737488351232 := by omega
  clear hT hA hv hl hx hn hne hq hql hN hp
  go_enter Tryd.func4, Tryd.ntmps4
  go_wp2_with fail
  refine (known13 _ HT.out).mono ?_
  rintro e w1 ⟨rfl, hb1⟩
  have HB1 := hid13 hb1
  have HA1 := hid13 (HA.out.below hb1)
  have K2 := put16_any _ l q w1 HA1.out (by have := HL.out; omega) HQ.out.1
  rw [← HK.out.2] at K2
  clear hb1
  go_wp2_with fail
  refine K2.mono ?_
  rintro e w2 ⟨vx, rfl, hown2, hb2⟩
  have HB2 := hid13 (keepb hb2 HB1.out)
  have hrow2 : RowA w2 1 vx (l ++ by2 q).length ((l ++ by2 q).map cB) := own_rowA hown2
  have K3 := put32_any _ (l ++ by2 q) n w2 hrow2 (by rw [List.length_append]; have := HL.out; show l.length + 2 ≤ _; omega) HQ.out.2
  rw [← HK.out.1] at K3
  clear K2 hb2 HB1 HA1 hown2 hrow2 HA
  go_wp2_with fail
  refine K3.mono ?_
  rintro e w3 ⟨vy, rfl, hown3, hb3⟩
  have HB3 := hid13 (keepb hb3 HB2.out)
  obtain ⟨Y, hY⟩ : ∃ Y, Y = l ++ by2 q ++ by4 n := ⟨_, rfl⟩
  rw [← hY] at hown3
  have HY := hid13 (own_rwx hown3)
  have hYl : Y.length = l.length + 6 := by rw [hY, List.length_append, List.length_append]; rfl
  have HYb : Hid (∀ b ∈ Y, b < 256) := by
    intro b hb
    rw [hY] at hb
    simp only [List.mem_append] at hb
    rcases hb with (hb | hb) | hb
    · exact HX.out b hb
    · exact by2_lt q HQ.out.1 b hb
    · exact by4_lt n HQ.out.2 b hb
  have g1 := gt_in (l := Y) (a := l) (m := by2 q) (z := by4 n) (n := (l.length : Int)) (k := 2) (by rw [hY, List.append_assoc]) rfl rfl
  have g2 := gt_in (l := Y) (a := l ++ by2 q) (m := by4 n) (z := []) (n := (l.length : Int) + 2) (k := 4) (by rw [hY, List.append_nil]) (by rw [List.length_append]; show _ = ((l.length + 2 : Nat) : Int); omega) rfl
  have g3 := gt_out (l := Y) (n := (l.length : Int) + 3) (k := 4) (by rw [hYl]; omega)
  rw [num2 q HQ.out.1] at g1
  rw [num4 n HQ.out.2] at g2
  have HG := hid13 (And.intro g1 (And.intro g2 g3))
  have HTK := hid13 (show RwX cB w3 vy (l ++ (by2 q ++ by4 n)) by rw [← List.append_assoc, ← hY]; exact HY.out)
  obtain ⟨ao6, cy, hvy, -⟩ := id HY.out
  obtain ⟨M, hM⟩ : ∃ M, M = Y.length := ⟨_, rfl⟩
  rw [← hM] at hvy
  subst hvy
  have HT3 := hid13 (rwx_take HTK.out)
  have hMe : (M : Int) = (l.length : Int) + 6 := by rw [hM, hYl]; omega
  have HM : Hid (Y.length ≤ 140737488355328) := by show _ ≤ _; have := HL.out; omega
  clear K3 hb3 HB2 hown3 hY hYl g1 g2 g3 HTK hM
  go_wp2_with fail
  refine (get16_any _ Y (l.length : Int) w3 HY.out HM.out HYb.out (by omega) (by omega)).mono ?_
  rintro e w4 ⟨rfl, hb4⟩
  rw [HG.out.1.1, HG.out.1.2, ← HK.out.2]
  have HB4 := hid13 (keepb hb4 HB3.out)
  have HY4 := hid13 (HY.out.below hb4)
  have HT4 := hid13 (HT3.out.below hb4)
  clear hb4 HB3 HY HT3
  go_wp2_with fail
  refine (get32_any _ Y ((l.length : Int) + 2) w4 HY4.out HM.out HYb.out (by omega) (by omega)).mono ?_
  rintro e w5 ⟨rfl, hb5⟩
  rw [HG.out.2.1.1, HG.out.2.1.2, ← HK.out.1]
  have HB5 := hid13 (keepb hb5 HB4.out)
  have HY5 := hid13 (HY4.out.below hb5)
  have HT5 := hid13 (HT4.out.below hb5)
  clear hb5 HB4 HY4 HT4
  go_wp2_with fail
  refine (get32_any _ Y ((l.length : Int) + 3) w5 HY5.out HM.out HYb.out (by omega) (by omega)).mono ?_
  rintro e w6 ⟨rfl, hb6⟩
  rw [HG.out.2.2.1, HG.out.2.2.2]
  have HB6 := hid13 (keepb hb6 HB5.out)
  have HT6 := hid13 (HT5.out.below hb6)
  have HV6 := hid13 (HV.out.below HB6.out)
  clear hb6 HB5 HY5 HT5 HG HV HM HYb
  have hcy : ((l.length : Nat) : Int) ≤ ((cy : Nat) : Int) := by
    obtain ⟨ao', c', e, hc, -⟩ := HT6.out
    injection e with e1 e2 e3
    omega
  go_wp2_with fail
  refine qw_region (C := fun W => RwX cB W (.slice vo l.length vc) l ∧ RwX cB W (.slice ao6 l.length cy) l ∧ Below w.heap.size w W) (by kernel_rfl) (by kernel_rfl) ⟨HV6.out.below (below_drewN (Below.refl _ _) 1), HT6.out.below (below_drewN (Below.refl _ _) 1), HB6.out.drew⟩ ?_
  clear HV6 HT6 HB6
  refine qw_run (v := .slice ao6 M cy) (by rfl) ?_ ?_
  · (intro w9 hC; clear hC; go_simp; first | done | (simp; done) | (simp [*]; done) | omega | (simp; omega) | (rw [IntKind.wrap_i64]; omega) | rfl)
  simp only [Act.put, List.setIfInBounds_toArray, List.set_cons_zero, List.set_cons_succ]
  refine qw_run (v := .int .i64 (M : Int)) (by rfl) ?_ ?_
  · (intro w9 hC; clear hC; go_simp; first | done | (simp; done) | (simp [*]; done) | omega | (simp; omega) | (rw [IntKind.wrap_i64]; omega) | rfl)
  simp only [Act.put, List.setIfInBounds_toArray, List.set_cons_zero, List.set_cons_succ]
  refine qw_run (v := .slice vo l.length vc) (by rfl) ?_ ?_
  · (intro w9 hC; clear hC; go_simp; first | done | (simp; done) | (simp [*]; done) | omega | (simp; omega) | (rw [IntKind.wrap_i64]; omega) | rfl)
  simp only [Act.put, List.setIfInBounds_toArray, List.set_cons_zero, List.set_cons_succ]
  refine qw_run (v := .int .i64 (l.length : Int)) (by rfl) ?_ ?_
  · (intro w9 hC; clear hC; go_simp; first | done | (simp; done) | (simp [*]; done) | omega | (simp; omega) | (rw [IntKind.wrap_i64]; omega) | rfl)
  simp only [Act.put, List.setIfInBounds_toArray, List.set_cons_zero, List.set_cons_succ]
  refine qw_run (v := .int .i64 ((l.length : Int) + 6)) (by rfl) ?_ ?_
  · (intro w9 hC; clear hC; go_simp; first | done | (simp; done) | (simp [*]; done) | omega | (simp; omega) | (rw [IntKind.wrap_i64]; omega) | rfl)
  simp only [Act.put, List.setIfInBounds_toArray, List.set_cons_zero, List.set_cons_succ]
  refine qw_run (v := .bool true) (by rfl) ?_ ?_
  · (intro w9 hC; clear hC; go_simp; first | done | (simp; done) | (simp [*]; done) | omega | (simp; omega) | (rw [IntKind.wrap_i64]; omega) | rfl)
  simp only [Act.put, List.setIfInBounds_toArray, List.set_cons_zero, List.set_cons_succ]
  refine qw_run (v := .bool true) (by rfl) ?_ ?_
  · (intro w9 hC; clear hC; go_simp; first | done | (simp; done) | (simp [*]; done) | omega | (simp; omega) | (rw [IntKind.wrap_i64]; omega) | rfl)
  simp only [Act.put, List.setIfInBounds_toArray, List.set_cons_zero, List.set_cons_succ]
  refine qw_run (v := .slice ao6 M cy) (by rfl) ?_ ?_
  · (intro w9 hC; clear hC; go_simp; first | done | (simp; done) | (simp [*]; done) | omega | (simp; omega) | (rw [IntKind.wrap_i64]; omega) | rfl)
  simp only [Act.put, List.setIfInBounds_toArray, List.set_cons_zero, List.set_cons_succ]
  refine qw_run (v := .slice vo l.length vc) (by rfl) ?_ ?_
  · (intro w9 hC; clear hC; go_simp; first | done | (simp; done) | (simp [*]; done) | omega | (simp; omega) | (rw [IntKind.wrap_i64]; omega) | rfl)
  simp only [Act.put, List.setIfInBounds_toArray, List.set_cons_zero, List.set_cons_succ]
  refine qw_run (v := .int .i64 (l.length : Int)) (by rfl) ?_ ?_
  · (intro w9 hC; clear hC; go_simp; first | done | (simp; done) | (simp [*]; done) | omega | (simp; omega) | (rw [IntKind.wrap_i64]; omega) | rfl)
  simp only [Act.put, List.setIfInBounds_toArray, List.set_cons_zero, List.set_cons_succ]
  refine qw_run (v := .slice ao6 l.length cy) (by rfl) ?_ ?_
  · (intro w9 hC; clear hC; go_simp; first | done | (simp; done) | (simp [*]; done) | omega | (simp; omega) | (rw [IntKind.wrap_i64]; omega) | rfl)
  simp only [Act.put, List.setIfInBounds_toArray, List.set_cons_zero, List.set_cons_succ]
  refine qw_run (v := .string (bsA l)) (by rfl) ?_ ?_
  · (intro w9 hC; have r0 := conv13 hC.2.1 HX.out; clear hC; exact ex13b r0)
  simp only [Act.put, List.setIfInBounds_toArray, List.set_cons_zero, List.set_cons_succ]
  refine qw_run (v := .slice vo l.length vc) (by rfl) ?_ ?_
  · (intro w9 hC; clear hC; go_simp; first | done | (simp; done) | (simp [*]; done) | omega | (simp; omega) | (rw [IntKind.wrap_i64]; omega) | rfl)
  simp only [Act.put, List.setIfInBounds_toArray, List.set_cons_zero, List.set_cons_succ]
  refine qw_run (v := .string (bsA l)) (by rfl) ?_ ?_
  · (intro w9 hC; have r0 := conv13 hC.1 HX.out; clear hC; exact ex13b r0)
  simp only [Act.put, List.setIfInBounds_toArray, List.set_cons_zero, List.set_cons_succ]
  refine qw_run (v := .bool true) (by rfl) ?_ ?_
  · (intro w9 hC; clear hC; go_simp; first | done | (simp; done) | (simp [*]; done) | omega | (simp; omega) | (rw [IntKind.wrap_i64]; omega) | rfl)
  simp only [Act.put, List.setIfInBounds_toArray, List.set_cons_zero, List.set_cons_succ]
  refine qw_run (v := .bool true) (by rfl) ?_ ?_
  · (intro w9 hC; clear hC; go_simp; first | done | (simp; done) | (simp [*]; done) | omega | (simp; omega) | (rw [IntKind.wrap_i64]; omega) | rfl)
  simp only [Act.put, List.setIfInBounds_toArray, List.set_cons_zero, List.set_cons_succ]
  refine qw_run (v := .bool true) (by rfl) ?_ ?_
  · (intro w9 hC; clear hC; go_simp; first | done | (simp; done) | (simp [*]; done) | omega | (simp; omega) | (rw [IntKind.wrap_i64]; omega) | rfl)
  simp only [Act.put, List.setIfInBounds_toArray, List.set_cons_zero, List.set_cons_succ]
  refine qw_run (v := .int .i64 0) (by rfl) ?_ ?_
  · (intro w9 hC; clear hC; go_simp; first | done | (simp; done) | (simp [*]; done) | omega | (simp; omega) | (rw [IntKind.wrap_i64]; omega) | rfl)
  simp only [Act.put, List.setIfInBounds_toArray, List.set_cons_zero, List.set_cons_succ]
  refine qw_run (v := .bool true) (by rfl) ?_ ?_
  · (intro w9 hC; clear hC; go_simp; first | done | (simp; done) | (simp [*]; done) | omega | (simp; omega) | (rw [IntKind.wrap_i64]; omega) | rfl)
  simp only [Act.put, List.setIfInBounds_toArray, List.set_cons_zero, List.set_cons_succ]
  refine qw_run (v := .bool true) (by rfl) ?_ ?_
  · (intro w9 hC; clear hC; go_simp; first | done | (simp; done) | (simp [*]; done) | omega | (simp; omega) | (rw [IntKind.wrap_i64]; omega) | rfl)
  simp only [Act.put, List.setIfInBounds_toArray, List.set_cons_zero, List.set_cons_succ]
  refine qw_run (v := .bool true) (by rfl) ?_ ?_
  · (intro w9 hC; clear hC; go_simp; first | done | (simp; done) | (simp [*]; done) | omega | (simp; omega) | (rw [IntKind.wrap_i64]; omega) | rfl)
  simp only [Act.put, List.setIfInBounds_toArray, List.set_cons_zero, List.set_cons_succ]
  refine qw_run (v := .int .i64 0) (by rfl) ?_ ?_
  · (intro w9 hC; clear hC; go_simp; first | done | (simp; done) | (simp [*]; done) | omega | (simp; omega) | (rw [IntKind.wrap_i64]; omega) | rfl)
  simp only [Act.put, List.setIfInBounds_toArray, List.set_cons_zero, List.set_cons_succ]
  refine qw_run (v := .bool true) (by rfl) ?_ ?_
  · (intro w9 hC; clear hC; go_simp; first | done | (simp; done) | (simp [*]; done) | omega | (simp; omega) | (rw [IntKind.wrap_i64]; omega) | rfl)
  simp only [Act.put, List.setIfInBounds_toArray, List.set_cons_zero, List.set_cons_succ]
  refine qw_run (v := .bool true) (by rfl) ?_ ?_
  · (intro w9 hC; clear hC; go_simp; first | done | (simp; done) | (simp [*]; done) | omega | (simp; omega) | (rw [IntKind.wrap_i64]; omega) | rfl)
  simp only [Act.put, List.setIfInBounds_toArray, List.set_cons_zero, List.set_cons_succ]
  refine qw_run (v := .bool true) (by rfl) ?_ ?_
  · (intro w9 hC; clear hC; go_simp; first | done | (simp; done) | (simp [*]; done) | omega | (simp; omega) | (rw [IntKind.wrap_i64]; omega) | rfl)
  simp only [Act.put, List.setIfInBounds_toArray, List.set_cons_zero, List.set_cons_succ]
  refine qw_run (v := .int .u16 p) (by rfl) ?_ ?_
  · (intro w9 hC; clear hC; go_simp; first | done | (simp; done) | (simp [*]; done) | omega | (simp; omega) | (rw [IntKind.wrap_i64]; omega) | rfl)
  simp only [Act.put, List.setIfInBounds_toArray, List.set_cons_zero, List.set_cons_succ]
  refine qw_run (v := .int .u32 N) (by rfl) ?_ ?_
  · (intro w9 hC; clear hC; go_simp; first | done | (simp; done) | (simp [*]; done) | omega | (simp; omega) | (rw [IntKind.wrap_i64]; omega) | rfl)
  simp only [Act.put, List.setIfInBounds_toArray, List.set_cons_zero, List.set_cons_succ]
  refine qw_run (v := .int .u32 (N / 128)) (by rfl) ?_ ?_
  · (intro w9 hC; clear hC; go_simp; first | done | (simp; done) | (simp [*]; done) | omega | (simp; omega) | (rw [IntKind.wrap_i64]; omega) | rfl)
  simp only [Act.put, List.setIfInBounds_toArray, List.set_cons_zero, List.set_cons_succ]
  refine qw_run (v := .int .u16 p) (by rfl) ?_ ?_
  · (intro w9 hC; clear hC; go_simp; first | done | (simp; done) | (simp [*]; done) | omega | (simp; omega) | (rw [IntKind.wrap_i64]; omega) | rfl)
  simp only [Act.put, List.setIfInBounds_toArray, List.set_cons_zero, List.set_cons_succ]
  refine qw_run (v := .bool true) (by rfl) ?_ ?_
  · (intro w9 hC; clear hC; go_simp; first | done | (simp; done) | (simp [*]; done) | omega | (simp; omega) | (rw [IntKind.wrap_i64]; omega) | rfl)
  simp only [Act.put, List.setIfInBounds_toArray, List.set_cons_zero, List.set_cons_succ]
  refine qw_run (v := .bool true) (by rfl) ?_ ?_
  · (intro w9 hC; clear hC; go_simp; first | done | (simp; done) | (simp [*]; done) | omega | (simp; omega) | (rw [IntKind.wrap_i64]; omega) | rfl)
  simp only [Act.put, List.setIfInBounds_toArray, List.set_cons_zero, List.set_cons_succ]
  refine qw_run (v := .bool true) (by rfl) ?_ ?_
  · (intro w9 hC; clear hC; go_simp; first | done | (simp; done) | (simp [*]; done) | omega | (simp; omega) | (rw [IntKind.wrap_i64]; omega) | rfl)
  simp only [Act.put, List.setIfInBounds_toArray, List.set_cons_zero, List.set_cons_succ]
  refine qw_run (v := .int .u32 N) (by rfl) ?_ ?_
  · (intro w9 hC; clear hC; go_simp; first | done | (simp; done) | (simp [*]; done) | omega | (simp; omega) | (rw [IntKind.wrap_i64]; omega) | rfl)
  simp only [Act.put, List.setIfInBounds_toArray, List.set_cons_zero, List.set_cons_succ]
  refine qw_run (v := .int .u32 N) (by rfl) ?_ ?_
  · (intro w9 hC; clear hC; go_simp; first | done | (simp; done) | (simp [*]; done) | omega | (simp; omega) | (rw [IntKind.wrap_i64]; omega) | rfl)
  simp only [Act.put, List.setIfInBounds_toArray, List.set_cons_zero, List.set_cons_succ]
  refine qw_run (v := .bool true) (by rfl) ?_ ?_
  · (intro w9 hC; clear hC; go_simp; first | done | (simp; done) | (simp [*]; done) | omega | (simp; omega) | (rw [IntKind.wrap_i64]; omega) | rfl)
  simp only [Act.put, List.setIfInBounds_toArray, List.set_cons_zero, List.set_cons_succ]
  refine qw_run (v := .bool true) (by rfl) ?_ ?_
  · (intro w9 hC; clear hC; go_simp; first | done | (simp; done) | (simp [*]; done) | omega | (simp; omega) | (rw [IntKind.wrap_i64]; omega) | rfl)
  simp only [Act.put, List.setIfInBounds_toArray, List.set_cons_zero, List.set_cons_succ]
  refine qw_run (v := .bool true) (by rfl) ?_ ?_
  · (intro w9 hC; clear hC; go_simp; first | done | (simp; done) | (simp [*]; done) | omega | (simp; omega) | (rw [IntKind.wrap_i64]; omega) | rfl)
  simp only [Act.put, List.setIfInBounds_toArray, List.set_cons_zero, List.set_cons_succ]
  refine qw_run (v := .int .i64 30) (by rfl) ?_ ?_
  · (intro w9 hC; clear hC; go_simp; first | done | (simp; done) | (simp [*]; done) | omega | (simp; omega) | (rw [IntKind.wrap_i64]; omega) | rfl)
  simp only [Act.put, List.setIfInBounds_toArray, List.set_cons_zero, List.set_cons_succ]
  refine qw_run (v := .bool true) (by rfl) ?_ ?_
  · (intro w9 hC; clear hC; go_simp; first | done | (simp; done) | (simp [*]; done) | omega | (simp; omega) | (rw [IntKind.wrap_i64]; omega) | rfl)
  simp only [Act.put, List.setIfInBounds_toArray, List.set_cons_zero, List.set_cons_succ]
  refine qw_run (v := .bool true) (by rfl) ?_ ?_
  · (intro w9 hC; clear hC; go_simp; first | done | (simp; done) | (simp [*]; done) | omega | (simp; omega) | (rw [IntKind.wrap_i64]; omega) | rfl)
  simp only [Act.put, List.setIfInBounds_toArray, List.set_cons_zero, List.set_cons_succ]
  refine qw_run (v := .bool true) (by rfl) ?_ ?_
  · (intro w9 hC; clear hC; go_simp; first | done | (simp; done) | (simp [*]; done) | omega | (simp; omega) | (rw [IntKind.wrap_i64]; omega) | rfl)
  simp only [Act.put, List.setIfInBounds_toArray, List.set_cons_zero, List.set_cons_succ]
  refine qw_nil ?_
  intro w9 hC
  have HB9 := hid13 hC.2.2
  clear hC
  go_wp2
  go_ret
  exact ⟨rfl, HB9.out⟩
end Go.Proofs.YthbdmdafldombabDoor
