/-
  Part 9 of the proof: 6 texts, one behind the other.
-/
import Derived.Test.YtkgfeegcdohkdaaDoorPart2
import Derived.Deep.AppendLies
import Derived.Deep.RegionHeld3
import Derived.Test.YtkgfeegcdohkdaaDoorPart8
import Derived.Test.YtkgfeegcdohkdaaDoorPart5
import Derived.Test.YtkgfeegcdohkdaaDoorPart6
/-
  What a call of package word's Text does.
-/
namespace Go.Proofs.YtkgfeegcdohkdaaDoor
open Go.RowKit
set_option linter.unusedSimpArgs false
set_option linter.unusedVariables false

/-- The number of the digit at place k, and its sign. -/
def nib (x : BitVec 128) (k : Nat) : Nat := (lv (x >>> (124 - 4 * k))).toNat % 16
def chN (d : Nat) : Nat := if d < 10 then 48 + d else 87 + d
theorem nib_lt (x : BitVec 128) (k : Nat) : nib x k < 16 := Nat.mod_lt _ (by decide)
theorem and15 (x : BitVec 128) (k : Nat) : bits .and .u64 (lI (x >>> (124 - 4 * k))) 15 = ((nib x k : Nat) : Int) := by
  unfold lI nib
  have h : bits .and .u64 ((lv (x >>> (124 - 4 * k))).toNat : Int) 15 = (((lv (x >>> (124 - 4 * k))).toNat &&& 15 : Nat) : Int) := bits_and_u64_nat _ 15 (BitVec.isLt _) (by decide)
  rw [h]
  congr 1
  exact Nat.and_two_pow_sub_one_eq_mod _ 4
theorem dig_tab (d : Nat) (h : d < 16) : ((⟨#[48, 49, 50, 51, 52, 53, 54, 55, 56, 57, 97, 98, 99, 100, 101, 102]⟩ : ByteArray)[d]'h).toNat = chN d := by
  have all : ∀ j : Fin 16, ((⟨#[48, 49, 50, 51, 52, 53, 54, 55, 56, 57, 97, 98, 99, 100, 101, 102]⟩ : ByteArray)[j.val]'j.isLt).toNat = chN j.val := by decide
  exact all ⟨d, h⟩

theorem new_cell (W : World) (o : Obj) (cs : Array Value) (t : TypeId) (j : Nat) : ((W.alloc o).alloc (.cells cs t)).cell? ⟨W.heap.size + 1, j, none⟩ = cs[j]? := by
  have h : ((W.alloc o).alloc (.cells cs t)).heap[W.heap.size + 1]? = some (.cells cs t) := by
    show ((W.heap.push o).push (.cells cs t))[W.heap.size + 1]? = _
    rw [Array.getElem?_push, if_pos (by simp)]
  unfold World.cell?
  rw [h]
  simp
theorem new_frozen (W : World) (o : Obj) (cs : Array Value) (t : TypeId) (j : Nat) : ((W.alloc o).alloc (.cells cs t)).frozen? ⟨W.heap.size + 1, j, none⟩ = false := by
  simp [go_sem]

theorem set_same {W : World} {B k : Nat} {u v : Value} (h : W.cell? ⟨B, k, none⟩ = some u) : (W.setCell ⟨B, k, none⟩ v).cell? ⟨B, k, none⟩ = some v := by
  simp [go_sem, h]
theorem set_other {W : World} {B k j : Nat} {v : Value} (h : ¬ k = j) : (W.setCell ⟨B, k, none⟩ v).cell? ⟨B, j, none⟩ = W.cell? ⟨B, j, none⟩ := by
  simp [go_sem, h]
/-- The text of a word, as bytes. -/
def txtL (x : BitVec 128) : List Int := (List.range 32).map fun j => (chN (nib x j) : Int)
def txtW (x : BitVec 128) : ByteArray := (txtL x).foldl (fun r n => r.push (UInt8.ofNat n.toNat)) ByteArray.empty
theorem txt_conv (x : BitVec 128) (w : World) (B : Nat) (hc : ∀ j, j < 32 → w.cell? ⟨B, j, none⟩ = some (.int .u8 (chN (nib x j) : Int))) :
    (convert 142 9 (.slice (some ⟨B, 0, none⟩) 32 32)).run Tryd.prog w = .ok (.string (txtW x)) w := by
  rw [run_convert_bytes_string w 142 9 5 _ _ _ Tryd.underlying142 Tryd.underlying5 Tryd.underlying9]
  refine run_bytesToString w ⟨B, 0, none⟩ 32 32 (txtL x) ?_
  have h := run_loadCells_list (P := Tryd.prog) (w := w) ⟨B, 0, none⟩ ((txtL x).map (Value.int .u8)) (by
    intro j v hv
    unfold txtL at hv
    simp only [List.map_map, List.getElem?_map] at hv
    by_cases hj : j < 32
    · have e : (List.range 32)[j]? = some j := by simp [hj]
      rw [e] at hv
      simp at hv
      have := hc j hj
      have ea : (⟨B, 0, none⟩ : Addr).add j = ⟨B, j, none⟩ := by cases j <;> simp [Addr.add]
      rw [ea, this, ← hv]
    · have e : (List.range 32)[j]? = none := by simp; omega
      rw [e] at hv; cases hv)
  have hl : ((txtL x).map (Value.int .u8)).length = 32 := by unfold txtL; simp
  rw [hl] at h
  exact h

end Go.Proofs.YtkgfeegcdohkdaaDoor
/-
  What a call of the reference's Text does.
-/
namespace Go.Proofs.YtkgfeegcdohkdaaDoor
open Go.RowKit
set_option linter.unusedSimpArgs false
set_option linter.unusedVariables false

theorem bit_div (x : BitVec 128) (i : Int) (d : Nat) (h : i = 127 - (d : Int)) (hd : d ≤ 127) : bitZ x i = ((x.toNat / 2 ^ d % 2 : Nat) : Int) := by
  unfold bitZ
  rw [bitB_in x i (by omega) (by omega), show (127 - i).toNat = d from by omega]
  unfold BitVec.getLsbD
  rw [Nat.testBit_eq_decide_div_mod_eq]
  have : x.toNat / 2 ^ d % 2 = 0 ∨ x.toNat / 2 ^ d % 2 = 1 := by omega
  rcases this with e | e <;> simp [e]
theorem nib_div (x : BitVec 128) (k : Nat) : nib x k = x.toNat / 2 ^ (124 - 4 * k) % 16 := by
  unfold nib
  rw [lvN, BitVec.toNat_ushiftRight, Nat.shiftRight_eq_div_pow]
  omega
theorem nib_bits (x : BitVec 128) (k : Nat) (h : k < 32) : 8 * bitZ x (4 * (k : Int)) + 4 * bitZ x (4 * (k : Int) + 1) + 2 * bitZ x (4 * (k : Int) + 2) + bitZ x (4 * (k : Int) + 3) = ((nib x k : Nat) : Int) := by
  rw [bit_div x (4 * (k : Int)) (124 - 4 * k + 3) (by omega) (by omega), bit_div x (4 * (k : Int) + 1) (124 - 4 * k + 2) (by omega) (by omega), bit_div x (4 * (k : Int) + 2) (124 - 4 * k + 1) (by omega) (by omega), bit_div x (4 * (k : Int) + 3) (124 - 4 * k) (by omega) (by omega), nib_div]
  rw [Nat.pow_add, Nat.pow_add, Nat.pow_add, ← Nat.div_div_eq_div_mul, ← Nat.div_div_eq_div_mul, ← Nat.div_div_eq_div_mul]
  generalize x.toNat / 2 ^ (124 - 4 * k) = m
  omega

/-- The first k signs, as cells. -/
def cellsT (x : BitVec 128) (k : Nat) : List Value := (List.range k).map fun j => Value.int .u8 (chN (nib x j) : Int)
theorem cellsT_succ (x : BitVec 128) (k : Nat) : cellsT x (k + 1) = cellsT x k ++ [Value.int .u8 (chN (nib x k) : Int)] := by
  unfold cellsT; rw [List.range_succ]; simp
theorem cellsT_get (x : BitVec 128) (k j : Nat) (h : j < k) : (cellsT x k)[j]? = some (.int .u8 (chN (nib x j) : Int)) := by
  unfold cellsT
  simp [h]

theorem own_below {base e size n : Nat} {v : Value} {xs : List Value} {W w' : World} (hb : Below W.heap.size W w') (h : W.ownsRow base e size v n xs) : w'.ownsRow base e size v n xs := by
  refine h.kept (row := none) ⟨hb.os, hb.tape, hb.output, hb.size, fun k hk _ => hb.block k hk⟩ ?_
  cases v.ownBlock with
  | none => exact Or.inl rfl
  | some a => exact Or.inr (by simp)

theorem txt_convR (x : BitVec 128) (w : World) (B c : Nat) (hc : ∀ j, j < 32 → w.cell? ⟨B, j, none⟩ = some (.int .u8 (chN (nib x j) : Int))) :
    (convert 142 9 (.slice (some ⟨B, 0, none⟩) 32 c)).run Tryd.prog w = .ok (.string (txtW x)) w := by
  rw [run_convert_bytes_string w 142 9 5 _ _ _ Tryd.underlying142 Tryd.underlying5 Tryd.underlying9]
  refine run_bytesToString w ⟨B, 0, none⟩ 32 c (txtL x) ?_
  have h := run_loadCells_list (P := Tryd.prog) (w := w) ⟨B, 0, none⟩ ((txtL x).map (Value.int .u8)) (by
    intro j v hv
    unfold txtL at hv
    simp only [List.map_map, List.getElem?_map] at hv
    by_cases hj : j < 32
    · have e : (List.range 32)[j]? = some j := by simp [hj]
      rw [e] at hv
      simp at hv
      have := hc j hj
      have ea : (⟨B, 0, none⟩ : Addr).add j = ⟨B, j, none⟩ := by cases j <;> simp [Addr.add]
      rw [ea, this, ← hv]
    · have e : (List.range 32)[j]? = none := by simp; omega
      rw [e] at hv; cases hv)
  have hl : ((txtL x).map (Value.int .u8)).length = 32 := by unfold txtL; simp
  rw [hl] at h
  exact h

theorem app_keep {w W w1 : World} {x : BitVec 128} {e size n : Nat} {v : Value} {xs : List Value} (o : W.ownsRow (w.heap.size + 1) e size v n xs) (g : W.grownBy w1 v.ownBlock)
    (k1 : W.cell? ⟨w.heap.size, 0, none⟩ = some (.int .u64 (hI x))) (k2 : W.cell? ⟨w.heap.size, 1, none⟩ = some (.int .u64 (lI x))) (k9 : Below w.heap.size w W) :
    w1.cell? ⟨w.heap.size, 0, none⟩ = some (.int .u64 (hI x)) ∧ w1.cell? ⟨w.heap.size, 1, none⟩ = some (.int .u64 (lI x)) ∧ Below w.heap.size w w1 := by
  have hne : some w.heap.size ≠ v.ownBlock := by
    intro h
    have := (o.lt _ h.symm).1
    omega
  refine ⟨g.cell k1 hne, g.cell k2 hne, k9.grown g k9.size ?_⟩
  intro j hj
  have := (o.lt _ hj).1
  omega
theorem al_keep {w W : World} {x : BitVec 128} (o : Obj)
    (k1 : W.cell? ⟨w.heap.size, 0, none⟩ = some (.int .u64 (hI x))) (k2 : W.cell? ⟨w.heap.size, 1, none⟩ = some (.int .u64 (lI x))) (k9 : Below w.heap.size w W) :
    (W.alloc o).cell? ⟨w.heap.size, 0, none⟩ = some (.int .u64 (hI x)) ∧ (W.alloc o).cell? ⟨w.heap.size, 1, none⟩ = some (.int .u64 (lI x)) ∧ Below w.heap.size w (W.alloc o) :=
  ⟨keepc (bl1 W o) k1, keepc (bl1 W o) k2, keepb (bl1 W o) k9⟩
theorem Tryd.infoB : (Tryd.prog.info? 5).map (fun i => (i.zero, i.size, i.bytes)) = some (some (.int .u8 0), 1, 1) := by kernel_rfl
end Go.Proofs.YtkgfeegcdohkdaaDoor
/-
  What a call of the reference's Text does: the walk.
-/
namespace Go.Proofs.YtkgfeegcdohkdaaDoor
open Go.RowKit
set_option linter.unusedSimpArgs false
set_option linter.unusedVariables false

theorem own_belowH {base e size n : Nat} {v : Value} {xs : List Value} {W w' : World} (hb : Below W.heap.size W w') (h : Hid (W.ownsRow base e size v n xs)) : Hid (w'.ownsRow base e size v n xs) := own_below hb h.out

theorem news_al (W : World) (v : Value) (t : TypeId) : ∀ j u, [v][j]? = some u → (W.alloc (.cells #[v] t)).cell? ((⟨W.heap.size, 0, none⟩ : Addr).add j) = some u := by
  intro j u hj
  match j, hj with
  | 0, hj => simp at hj; subst hj; simp [Addr.add, go_sem]
theorem one_al (k : IntKind) (n : Int) : ∀ u ∈ [Value.int k n], u.oneCell' = true := by
  intro u hu; simp at hu; subst hu; rfl

end Go.Proofs.YtkgfeegcdohkdaaDoor
/-
  What the calls of package ranges' checkRange and widest do; rows of prefixes in memory.
-/
namespace Go.Proofs.YtkgfeegcdohkdaaDoor
open Go.RowKit
set_option linter.unusedSimpArgs false
set_option linter.unusedVariables false

theorem At.app {W w1 : World} {B : Nat} {x : BitVec 128} {r : Option Nat} (h : At W B x) (g : W.grownBy w1 r) (hn : some B ≠ r) : At w1 B x := by
  obtain ⟨h0, h1, h2, h3, h4⟩ := h
  exact ⟨g.cell h0 hn, g.cell h1 hn, (g.frozen_far ⟨B, 0, none⟩ h4 hn).trans h2, (g.frozen_far ⟨B, 1, none⟩ h4 hn).trans h3, Nat.lt_of_lt_of_le h4 g.size⟩
theorem AtP.app {W w1 : World} {B : Nat} {x : BitVec 128} {n : Int} {r : Option Nat} (h : AtP W B x n) (g : W.grownBy w1 r) (hn : some B ≠ r) : AtP w1 B x n := by
  obtain ⟨h0, h1, h2, h3, h4, h5⟩ := h
  have lt := cell_in h0
  exact ⟨g.cell h0 hn, g.cell h1 hn, g.cell h2 hn, (g.frozen_far ⟨B, 0, none⟩ lt hn).trans h3, (g.frozen_far ⟨B, 1, none⟩ lt hn).trans h4, (g.frozen_far ⟨B, 2, none⟩ lt hn).trans h5⟩
/-- The cells of a row of prefixes. -/
def rowP : List (BitVec 128 × Int) → List Value
  | [] => []
  | p :: l => .int .u64 (hI p.1) :: .int .u64 (lI p.1) :: .int .i64 p.2 :: rowP l
theorem rowP_app : ∀ l m, rowP (l ++ m) = rowP l ++ rowP m := by
  intro l
  induction l with
  | nil => intro m; rfl
  | cons p l ih => intro m; simp [rowP, ih]
theorem rowP_one (l : List (BitVec 128 × Int)) (x : BitVec 128) (n : Int) : rowP (l ++ [(x, n)]) = rowP l ++ [.int .u64 (hI x), .int .u64 (lI x), .int .i64 n] := by rw [rowP_app]; rfl
theorem Tryd.infoP : (Tryd.prog.info? 26).map (fun i => (i.zero, i.size, i.bytes)) = some (some (.agg #[.int .u64 0, .int .u64 0, .int .i64 0]), 3, 24) := by kernel_rfl
theorem newsP (W : World) (a b c : Value) (t : TypeId) : ∀ j u, [a, b, c][j]? = some u → (W.alloc (.cells #[a, b, c] t)).cell? ((⟨W.heap.size, 0, none⟩ : Addr).add j) = some u := by
  intro j u hj
  match j, hj with
  | 0, hj => simp at hj; subst hj; simp [Addr.add, go_sem]
  | 1, hj => simp at hj; subst hj; simp [Addr.add, go_sem]
  | 2, hj => simp at hj; subst hj; simp [Addr.add, go_sem]
theorem threeP (a b : Int) (c : Int) : ∀ u ∈ [Value.int .u64 a, Value.int .u64 b, Value.int .i64 c], u.oneCell' = true := by
  intro u hu; simp at hu; rcases hu with rfl | rfl | rfl <;> rfl
theorem At.al {W : World} {B : Nat} {x : BitVec 128} (h : At W B x) (o : Obj) : At (W.alloc o) B x := h.below (bl1 W o)
theorem AtP.al {W : World} {B : Nat} {x : BitVec 128} {n : Int} (h : AtP W B x n) (o : Obj) : AtP (W.alloc o) B x n := h.below (bl1 W o)

/-- The error of a range. -/
def covE (F : Int) (a b : BitVec 128) : Int := if rightE F a = 0 then (if rightE F b = 0 then (if cmpZ b a < 0 then 19 else 0) else rightE F b) else rightE F a
theorem rightE_ways (F : Int) (x : BitVec 128) : rightE F x = 0 ∨ rightE F x = 6 ∨ rightE F x = 11 := by
  unfold rightE; split
  · split <;> simp
  · simp
set_option maxHeartbeats 2000000 in
theorem checkRange_any (F : Int) (a b : BitVec 128) (w : World) :
    Calls Tryd.prog 88 #[.int .i64 F, .agg #[.int .u64 (hI a), .int .u64 (lI a)], .agg #[.int .u64 (hI b), .int .u64 (lI b)]] w fun e w' => e = .returned (.int .i64 (covE F a b)) ∧ Below w.heap.size w w' := by
  have KA := fun w => aright_any F a w
  have KB := fun w => aright_any F b w
  have KC := fun w => cmp_any b a w
  unfold covE
  have hx := rightE_ways F a
  have hy := rightE_ways F b
  revert KA KB KC hx hy
  generalize rightE F a = ra
  generalize rightE F b = rb
  generalize cmpZ b a = c
  intro KA KB KC hx hy
  have L0 : ∀ (o p : Obj), Below w.heap.size w ((w.alloc o).alloc p) := fun o p => bl2 w o p
  go_enter Tryd.func88, Tryd.ntmps88
  have hA : At ((w.alloc (.cells #[.int .u64 (hI a), .int .u64 (lI a)] 24)).alloc (.cells #[.int .u64 (hI b), .int .u64 (lI b)] 24)) w.heap.size a := (at_new w w.heap.size a 24 rfl).al _
  have hB : At ((w.alloc (.cells #[.int .u64 (hI a), .int .u64 (lI a)] 24)).alloc (.cells #[.int .u64 (hI b), .int .u64 (lI b)] 24)) (w.heap.size + 1) b := at_new _ (w.heap.size + 1) b 24 (by simp)
  go_wp2_with fail
  refine (KA _).mono ?_
  rintro e w1 ⟨rfl, hb1⟩
  have hA := hA.below hb1
  have hB := hB.below hb1
  have kB := keepb hb1 (L0 _ _)
  clear hb1 KA L0
  by_cases h : ra = 0
  · subst h
    obtain ⟨b0, b1, -, -, -⟩ := id hB
    go_wp2_with fail
    refine (KB _).mono ?_
    rintro e w2 ⟨rfl, hb2⟩
    have hA := hA.below hb2
    have hB := hB.below hb2
    have kB := keepb hb2 kB
    clear hb2 KB b0 b1
    by_cases h : rb = 0
    · subst h
      obtain ⟨a0, a1, -, -, -⟩ := id hA
      obtain ⟨b0, b1, -, -, -⟩ := id hB
      go_wp2_with fail
      refine (KC _).mono ?_
      rintro e w3 ⟨rfl, hb3⟩
      have kB := keepb hb3 kB
      clear hb3 KC b0 b1 a0 a1 hA hB hx hy
      by_cases hc : c < 0
      · go_wp2
        go_ret
        exact ⟨by first | rfl | (simp [*]; done), kB⟩
      · go_wp2
        go_ret
        exact ⟨by first | rfl | (simp [*]; done), kB⟩
    · have hn : (rb != 0) = true := by simp [h]
      go_wp2
      go_ret
      exact ⟨by first | rfl | (simp [*]; done), kB⟩
  · have hn : (ra != 0) = true := by simp [h]
    go_wp2
    go_ret
    exact ⟨by first | rfl | (simp [*]; done), kB⟩
theorem lead_le (z : BitVec 128) : leadN z ≤ 128 := by
  unfold leadN; split <;> omega
set_option maxHeartbeats 4000000 in
theorem widest_any (F : Int) (a b : BitVec 128) (w : World) (hT : Tab w) :
    Calls Tryd.prog 89 #[.int .i64 F, .agg #[.int .u64 (hI a), .int .u64 (lI a)], .agg #[.int .u64 (hI b), .int .u64 (lI b)]] w fun e w' => e = .returned (.agg #[.int .u64 (hI a), .int .u64 (lI a), .int .i64 (widN F a b)]) ∧ Below w.heap.size w w' := by
  have KT := fun w h => trail_any a w h
  have KN := fun w => anext_any F b w
  have KC := fun w => wcommon_any a (nextV F b) w
  unfold widN
  have ht := trail_le a
  have hl := lead_le (a ^^^ nextV F b)
  revert KT KN KC ht hl
  generalize leadN (a ^^^ nextV F b) = ld
  generalize nextV F b = nx
  generalize nextB F b = ok
  generalize trailN a = tr
  intro KT KN KC ht hl
  go_enter Tryd.func89, Tryd.ntmps89
  have g0 : Below w.heap.size w (((w.alloc (.cells #[.int .u64 (hI a), .int .u64 (lI a)] 24)).alloc (.cells #[.int .u64 (hI b), .int .u64 (lI b)] 24)).alloc (.cells #[.int .u64 0, .int .u64 0, .int .i64 0] 26)) := bl3 w _ _ _
  have hT0 := hT.keep g0
  have hA : At (((w.alloc (.cells #[.int .u64 (hI a), .int .u64 (lI a)] 24)).alloc (.cells #[.int .u64 (hI b), .int .u64 (lI b)] 24)).alloc (.cells #[.int .u64 0, .int .u64 0, .int .i64 0] 26)) w.heap.size a := ((at_new w w.heap.size a 24 rfl).al _).al _
  have hB : At (((w.alloc (.cells #[.int .u64 (hI a), .int .u64 (lI a)] 24)).alloc (.cells #[.int .u64 (hI b), .int .u64 (lI b)] 24)).alloc (.cells #[.int .u64 0, .int .u64 0, .int .i64 0] 26)) (w.heap.size + 1) b := (at_new (w.alloc (.cells #[.int .u64 (hI a), .int .u64 (lI a)] 24)) (w.heap.size + 1) b 24 (by simp)).al _
  have hZ : AtP (((w.alloc (.cells #[.int .u64 (hI a), .int .u64 (lI a)] 24)).alloc (.cells #[.int .u64 (hI b), .int .u64 (lI b)] 24)).alloc (.cells #[.int .u64 0, .int .u64 0, .int .i64 0] 26)) (w.heap.size + 2) 0#128 0 := atp_new ((w.alloc (.cells #[.int .u64 (hI a), .int .u64 (lI a)] 24)).alloc (.cells #[.int .u64 (hI b), .int .u64 (lI b)] 24)) (w.heap.size + 2) 0#128 0 26 (by simp)
  go_wp2_with fail
  refine (KT _ hT0).mono ?_
  rintro e w1 ⟨rfl, hb1⟩
  have hA := hA.below hb1
  have hB := hB.below hb1
  have hZ := hZ.below hb1
  have kB := keepb hb1 g0
  clear hb1 KT g0 hT0 hT
  obtain ⟨b0, b1, -, -, -⟩ := id hB
  have t1 : IntKind.i64.wrap (128 - (tr : Int)) = 128 - (tr : Int) := by rw [IntKind.wrap_i64]; omega
  go_wp2_with fail
  refine (KN _).mono ?_
  rintro e w2 ⟨rfl, hb2⟩
  have hA := hA.below hb2
  have hZ := hZ.below hb2
  have kB := keepb hb2 kB
  clear hb2 KN b0 b1 hB
  have hN : At (w2.alloc (.cells #[.int .u64 (hI nx), .int .u64 (lI nx)] 24)) w2.heap.size nx := at_new w2 w2.heap.size nx 24 rfl
  have hA := hA.al (.cells #[.int .u64 (hI nx), .int .u64 (lI nx)] 24)
  have hZ := hZ.al (.cells #[.int .u64 (hI nx), .int .u64 (lI nx)] 24)
  have kB := kB.alloc kB.size (.cells #[.int .u64 (hI nx), .int .u64 (lI nx)] 24)
  obtain ⟨a0, a1, -, -, -⟩ := id hA
  obtain ⟨n0, n1, -, -, -⟩ := id hN
  cases ok
  · obtain ⟨z0, z1, z2, z3, z4, z5⟩ := id hZ
    go_wp2
    exact bodyPost_ret (v := .agg #[.int .u64 (hI a), .int .u64 (lI a), .int .i64 (128 - (tr : Int))]) (by simp [results, Tryd.results89, go_sem, *]) rfl ⟨by first | rfl | (simp [*]; done), bset3 kB (by omega) _ _ _⟩
  · go_wp2_with fail
    refine (KC _).mono ?_
    rintro e w3 ⟨rfl, hb3⟩
    have hA := hA.below hb3
    have hZ := hZ.below hb3
    have kB := keepb hb3 kB
    clear hb3 KC a0 a1 n0 n1 hN
    obtain ⟨a0, a1, -, -, -⟩ := id hA
    obtain ⟨z0, z1, z2, z3, z4, z5⟩ := id hZ
    have t2 : IntKind.i64.wrap ((ld : Int) + 1) = (ld : Int) + 1 := by rw [IntKind.wrap_i64]; omega
    go_wp2
    · exact bodyPost_ret (v := .agg #[.int .u64 (hI a), .int .u64 (lI a), .int .i64 ((ld : Int) + 1)]) (by simp [results, Tryd.results89, go_sem, *]) rfl ⟨by rw [Int.max_eq_right (by omega)], bset3 kB (by omega) _ _ _⟩
    · exact bodyPost_ret (v := .agg #[.int .u64 (hI a), .int .u64 (lI a), .int .i64 (128 - (tr : Int))]) (by simp [results, Tryd.results89, go_sem, *]) rfl ⟨by rw [Int.max_eq_left (by omega)], bset3 kB (by omega) _ _ _⟩
end Go.Proofs.YtkgfeegcdohkdaaDoor
/-
  What the call of package ranges' unite does.
-/
namespace Go.Proofs.YtkgfeegcdohkdaaDoor
open Go.RowKit
set_option linter.unusedSimpArgs false
set_option linter.unusedVariables false

/-- One prefix of two, if there is one that has just what they have. -/
def uniV (p q : BitVec 128 × Int) : Option (BitVec 128 × Int) :=
  if withinB q.1 q.2 p.1 p.2 = true then some p else if 0 < p.2 ∧ sibV p.1 p.2 = q.1 ∧ sibN p.2 = q.2 then some (parentV p.1 p.2, parentN p.2) else none
def uniP (o : Option (BitVec 128 × Int)) : BitVec 128 × Int := o.getD (0#128, 0)
set_option maxHeartbeats 2000000 in
theorem unite_any (x : BitVec 128) (n : Int) (y : BitVec 128) (m : Int) (w : World) (h0 : 0 ≤ n) (h1 : n ≤ 128) :
    Calls Tryd.prog 60 #[.agg #[.int .u64 (hI x), .int .u64 (lI x), .int .i64 n], .agg #[.int .u64 (hI y), .int .u64 (lI y), .int .i64 m]] w fun e w' => e = .returned (.tuple #[.agg #[.int .u64 (hI (uniP (uniV (x, n) (y, m))).1), .int .u64 (lI (uniP (uniV (x, n) (y, m))).1), .int .i64 (uniP (uniV (x, n) (y, m))).2], .bool (uniV (x, n) (y, m)).isSome]) ∧ Below w.heap.size w w' := by
  have KW := fun w => pwithin_any y m x n w
  have KS := fun w => psib_any x n w h0 h1
  have KP := fun w => pparent_any x n w h0 h1
  have hE := fun w => eqP_run (sibV x n) (sibN n) y m w
  have B0 : Below w.heap.size w (((w.alloc (.cells #[.int .u64 (hI x), .int .u64 (lI x), .int .i64 n] 26)).alloc (.cells #[.int .u64 (hI y), .int .u64 (lI y), .int .i64 m] 26)).alloc (.cells #[.int .u64 0, .int .u64 0, .int .i64 0] 26)) := bl3 w _ _ _
  have X0 : AtP (((w.alloc (.cells #[.int .u64 (hI x), .int .u64 (lI x), .int .i64 n] 26)).alloc (.cells #[.int .u64 (hI y), .int .u64 (lI y), .int .i64 m] 26)).alloc (.cells #[.int .u64 0, .int .u64 0, .int .i64 0] 26)) w.heap.size x n := ((atp_new w w.heap.size x n 26 rfl).al _).al _
  have Y0 : AtP (((w.alloc (.cells #[.int .u64 (hI x), .int .u64 (lI x), .int .i64 n] 26)).alloc (.cells #[.int .u64 (hI y), .int .u64 (lI y), .int .i64 m] 26)).alloc (.cells #[.int .u64 0, .int .u64 0, .int .i64 0] 26)) (w.heap.size + 1) y m := (atp_new (w.alloc (.cells #[.int .u64 (hI x), .int .u64 (lI x), .int .i64 n] 26)) (w.heap.size + 1) y m 26 (by simp)).al _
  have Z0 : AtP (((w.alloc (.cells #[.int .u64 (hI x), .int .u64 (lI x), .int .i64 n] 26)).alloc (.cells #[.int .u64 (hI y), .int .u64 (lI y), .int .i64 m] 26)).alloc (.cells #[.int .u64 0, .int .u64 0, .int .i64 0] 26)) (w.heap.size + 1 + 1) 0#128 0 := atp_new ((w.alloc (.cells #[.int .u64 (hI x), .int .u64 (lI x), .int .i64 n] 26)).alloc (.cells #[.int .u64 (hI y), .int .u64 (lI y), .int .i64 m] 26)) (w.heap.size + 1 + 1) 0#128 0 26 (by simp)
  obtain ⟨u, hu⟩ : ∃ u, u = uniV (x, n) (y, m) := ⟨_, rfl⟩
  rw [← hu]
  unfold uniV at hu
  simp only at hu
  cases hw : withinB y m x n
  · rw [hw, if_neg (by simp)] at hu
    rw [hw] at KW
    by_cases hc : 0 < n ∧ sibV x n = y ∧ sibN n = m
    · rw [if_pos hc] at hu
      subst hu
      obtain ⟨c1, c2, c3⟩ := hc
      have e1 : decide (0 < n) = true := by simpa using c1
      rw [e1] at KS KP
      replace hE : ∀ w, (Op.equalIn 10000 26 (.agg #[.int .u64 (hI (sibV x n)), .int .u64 (lI (sibV x n)), .int .i64 (sibN n)]) (.agg #[.int .u64 (hI y), .int .u64 (lI y), .int .i64 m])).run Tryd.prog w = .ok true w := fun w => by rw [hE w]; simp [c2, c3]
      show Calls _ _ _ _ fun e w' => e = .returned (.tuple #[.agg #[.int .u64 (hI (parentV x n)), .int .u64 (lI (parentV x n)), .int .i64 (parentN n)], .bool true]) ∧ _
      clear hw c1 c2 c3 e1
      generalize sibV x n = sv at *
      generalize sibN n = sn at *
      generalize parentV x n = pv at *
      generalize parentN n = pn at *
      go_enter Tryd.func60, Tryd.ntmps60
      go_wp2_with fail
      refine (KW _).mono ?_
      rintro e w1 ⟨rfl, hb⟩
      replace X0 := X0.below hb
      replace Y0 := Y0.below hb
      replace Z0 := Z0.below hb
      replace B0 := keepb hb B0
      clear hb KW
      obtain ⟨x0, x1, x2, -, -, -⟩ := id X0
      go_wp2_with fail
      refine (KS _).mono ?_
      rintro e w2 ⟨rfl, hb⟩
      have hA := keepb (bl1 w2 (.cells #[.int .u64 (hI sv), .int .u64 (lI sv), .int .i64 sn] 26)) hb
      replace X0 := X0.below hA
      replace Y0 := Y0.below hA
      replace Z0 := Z0.below hA
      replace B0 := keepb hA B0
      have S0 := atp_new w2 w2.heap.size sv sn 26 rfl
      clear hb hA KS x0 x1 x2
      obtain ⟨x0, x1, x2, -, -, -⟩ := id X0
      obtain ⟨y0, y1, y2, -, -, -⟩ := id Y0
      obtain ⟨s0, s1, s2, -, -, -⟩ := id S0
      go_wp2_with fail
      refine (KP _).mono ?_
      rintro e w3 ⟨rfl, hb⟩
      replace Z0 := Z0.below hb
      replace B0 := keepb hb B0
      clear hb KP x0 x1 x2 y0 y1 y2 s0 s1 s2 X0 Y0 S0 hE
      obtain ⟨z0, z1, z2, z3, z4, z5⟩ := id Z0
      go_wp2
      exact bodyPost_ret (v := .tuple #[.agg #[.int .u64 (hI pv), .int .u64 (lI pv), .int .i64 pn], .bool true]) (by simp [results, Tryd.results60, go_sem, z0, z1, z2]) rfl ⟨rfl, bset3 B0 (by omega) _ _ _⟩
    · rw [if_neg hc] at hu
      subst hu
      show Calls _ _ _ _ fun e w' => e = .returned (.tuple #[.agg #[.int .u64 0, .int .u64 0, .int .i64 0], .bool false]) ∧ _
      have HC : Hid (decide (0 < n) = true → ((sibV x n == y) && (sibN n == m)) = false) := by
        intro q
        cases e : ((sibV x n == y) && (sibN n == m))
        · rfl
        · simp only [Bool.and_eq_true, beq_iff_eq] at e
          exact absurd ⟨by simpa using q, e.1, e.2⟩ hc
      clear hw hc KP
      generalize sibV x n = sv at *
      generalize sibN n = sn at *
      generalize ((sv == y) && (sn == m)) = eq at *
      generalize decide (0 < n) = pos at *
      go_enter Tryd.func60, Tryd.ntmps60
      go_wp2_with fail
      refine (KW _).mono ?_
      rintro e w1 ⟨rfl, hb⟩
      replace X0 := X0.below hb
      replace Y0 := Y0.below hb
      replace Z0 := Z0.below hb
      replace B0 := keepb hb B0
      clear hb KW
      obtain ⟨x0, x1, x2, -, -, -⟩ := id X0
      go_wp2_with fail
      refine (KS _).mono ?_
      rintro e w2 ⟨rfl, hb⟩
      have hA := keepb (bl1 w2 (.cells #[.int .u64 (hI sv), .int .u64 (lI sv), .int .i64 sn] 26)) hb
      replace Y0 := Y0.below hA
      replace Z0 := Z0.below hA
      replace B0 := keepb hA B0
      have S0 := atp_new w2 w2.heap.size sv sn 26 rfl
      clear hb hA KS x0 x1 x2 X0
      obtain ⟨y0, y1, y2, -, -, -⟩ := id Y0
      obtain ⟨s0, s1, s2, -, -, -⟩ := id S0
      obtain ⟨z0, z1, z2, z3, z4, z5⟩ := id Z0
      cases pos
      · go_wp2
        exact bodyPost_ret (v := .tuple #[.agg #[.int .u64 0, .int .u64 0, .int .i64 0], .bool false]) (by simp [results, Tryd.results60, go_sem, z0, z1, z2]) rfl ⟨rfl, bset3 B0 (by omega) _ _ _⟩
      · have he := HC.out rfl
        rw [he] at hE
        go_wp2
        exact bodyPost_ret (v := .tuple #[.agg #[.int .u64 0, .int .u64 0, .int .i64 0], .bool false]) (by simp [results, Tryd.results60, go_sem, z0, z1, z2]) rfl ⟨rfl, bset3 B0 (by omega) _ _ _⟩
  · rw [hw, if_pos rfl] at hu
    rw [hw] at KW
    subst hu
    show Calls _ _ _ _ fun e w' => e = .returned (.tuple #[.agg #[.int .u64 (hI x), .int .u64 (lI x), .int .i64 n], .bool true]) ∧ _
    clear hw KS KP hE
    go_enter Tryd.func60, Tryd.ntmps60
    go_wp2_with fail
    refine (KW _).mono ?_
    rintro e w1 ⟨rfl, hb⟩
    replace X0 := X0.below hb
    replace Z0 := Z0.below hb
    replace B0 := keepb hb B0
    clear hb KW Y0
    obtain ⟨x0, x1, x2, -, -, -⟩ := id X0
    obtain ⟨z0, z1, z2, z3, z4, z5⟩ := id Z0
    go_wp2
    exact bodyPost_ret (v := .tuple #[.agg #[.int .u64 (hI x), .int .u64 (lI x), .int .i64 n], .bool true]) (by simp [results, Tryd.results60, go_sem, z0, z1, z2]) rfl ⟨rfl, bset3 B0 (by omega) _ _ _⟩
end Go.Proofs.YtkgfeegcdohkdaaDoor
/-
  What the call of package ranges' Cover does.
-/
namespace Go.Proofs.YtkgfeegcdohkdaaDoor
open Go.RowKit
set_option linter.unusedSimpArgs false
set_option linter.unusedVariables false

/-- What Cover tells. -/
def covT (F : Int) (a b : BitVec 128) : List (BitVec 128 × Int) := if covE F a b = 0 then covL F b (b.toNat - a.toNat + 1) a else []
theorem covE_rng (F : Int) (a b : BitVec 128) (h : covE F a b = 0) : Rng F a b := by
  unfold covE at h
  split at h
  · rename_i h1
    split at h
    · rename_i h2
      split at h
      · omega
      · rename_i h3
        rw [cmp_lt0] at h3
        exact ⟨h1, h2, by omega⟩
    · omega
  · omega
theorem covT_len (F : Int) (a b : BitVec 128) : (covT F a b).length ≤ 254 := by
  unfold covT
  split
  · rename_i h
    have r := covE_rng F a b h
    have := cov_len F a b (b.toNat - a.toNat + 1) r (by have := r.2.2; omega)
    obtain ⟨hf, _⟩ := right0 F a r.1
    have := (fam_bd F hf).2
    omega
  · simp
/-- The number that lies in a block of two cells. -/
def natAt (w : World) (B : Nat) : Nat := (intOf (cv w B 0)).toNat * 18446744073709551616 + (intOf (cv w B 1)).toNat
theorem natAt_of {w : World} {B : Nat} {x : BitVec 128} (h : At w B x) : natAt w B = x.toNat := by
  unfold natAt cv
  rw [h.1, h.2.1]
  have := x.isLt
  simp only [Option.getD_some, intOf]
  rw [hIN, lIN]
  omega
theorem own_base {w : World} {base base' e size n : Nat} {v : Value} {xs : List Value} (h : w.ownsRow base e size v n xs) (hb : base' ≤ base) : w.ownsRow base' e size v n xs := by
  refine ⟨h.1, ?_⟩
  rcases h.2 with hn | ⟨g, cap, cur, hv, h1, h2⟩
  · exact .inl hn
  · exact .inr ⟨g, cap, cur, hv, by omega, h2⟩
theorem own_set {w : World} {base e size n : Nat} {v : Value} {xs : List Value} (h : w.ownsRow base e size v n xs) (p : Addr) (u : Value) (hn : v.ownBlock ≠ some p.block) : (w.setCell p u).ownsRow base e size v n xs := by
  refine ⟨h.1, ?_⟩
  rcases h.2 with hn | ⟨g, cap, cur, rfl, hb, hgg, rest⟩
  · exact .inl hn
  · refine .inr ⟨g, cap, cur, rfl, hb, ?_, rest⟩
    rw [← hgg]
    simp only [Value.ownBlock] at hn
    exact Below.heap_setCell w p u g (fun e => hn (by rw [e]))
theorem len_le (T pre l : List (BitVec 128 × Int)) (h : T = pre ++ l) (hl : T.length ≤ 254) : pre.length + l.length ≤ 254 := by
  rw [h, List.length_append] at hl; exact hl
set_option maxRecDepth 20000 in
set_option maxHeartbeats 4000000 in
theorem cover_yes (F : Int) (a b : BitVec 128) (T : List (BitVec 128 × Int)) (k0 : Nat) (HC : T = covL F b (k0 + 1) a) (hk0 : b.toNat < a.toNat + (k0 + 1)) (HR : Rng F a b) (HL : T.length ≤ 254) (w : World) (hT : Tab w)
    (KC : ∀ w, Calls Tryd.prog 88 #[.int .i64 F, .agg #[.int .u64 (hI a), .int .u64 (lI a)], .agg #[.int .u64 (hI b), .int .u64 (lI b)]] w fun e w' => e = .returned (.int .i64 0) ∧ Below w.heap.size w w') :
    Calls Tryd.prog 56 #[.int .i64 F, .agg #[.int .u64 (hI a), .int .u64 (lI a)], .agg #[.int .u64 (hI b), .int .u64 (lI b)]] w fun e w' => (∃ v, e = .returned (.tuple #[v, .int .i64 0]) ∧ w'.ownsRow w.heap.size 26 3 v T.length (rowP T)) ∧ Below w.heap.size w w' := by
  obtain ⟨i0, hi, hz0, hz1, hz2⟩ := info_parts Tryd.infoP
  have HC : Hid (T = covL F b (k0 + 1) a) := HC
  have hk0 : Hid (b.toNat < a.toNat + (k0 + 1)) := hk0
  have HR : Hid (Rng F a b) := HR
  have HL : Hid (T.length ≤ 254) := HL
  have L0 : ∀ (o p : Obj), Below w.heap.size w ((w.alloc o).alloc p) := fun o p => bl2 w o p
  go_enter Tryd.func56, Tryd.ntmps56
  have hA : At ((w.alloc (.cells #[.int .u64 (hI a), .int .u64 (lI a)] 24)).alloc (.cells #[.int .u64 (hI b), .int .u64 (lI b)] 24)) w.heap.size a := (at_new w w.heap.size a 24 rfl).al _
  have hB : At ((w.alloc (.cells #[.int .u64 (hI a), .int .u64 (lI a)] 24)).alloc (.cells #[.int .u64 (hI b), .int .u64 (lI b)] 24)) (w.heap.size + 1) b := at_new _ (w.heap.size + 1) b 24 (by simp)
  go_wp2_with fail
  refine (KC _).mono ?_
  rintro e w1 ⟨rfl, hb1⟩
  have hA := hA.below hb1
  have hB := hB.below hb1
  have kB := keepb hb1 (L0 _ _)
  clear hb1 KC L0
  go_wp2_with fail
  go_loopw [9] (fun l wr => ∃ (pre : List (BitVec 128 × Int)) (k : Nat) (c : BitVec 128), Hid (T = pre ++ covL F b (k + 1) c) ∧ Hid (b.toNat < c.toNat + (k + 1)) ∧ Hid (Rng F c b) ∧ wr.ownsRow (w.heap.size + 2) 26 3 l pre.length (rowP pre) ∧ At wr w.heap.size c ∧ At wr (w.heap.size + 1) b ∧ Below w.heap.size w wr)
    (fun _ wr => b.toNat + 1 - natAt wr w.heap.size)
  case atStart => exact ⟨[], k0, a, HC, hk0, HR, World.ownsRow_nil _ _ _ _, hA, hB, kB⟩
  case round =>
    clear hA hB kB HC hk0 HR
    obtain ⟨pre, k, c, hT1, hk, hr, hown, hA, hB, kB⟩ := hrel
    obtain ⟨a0, a1, -, -, -⟩ := id hA
    obtain ⟨b0, b1, -, -, -⟩ := id hB
    have hAr : At wr w.heap.size c := hA
    have KW := widest_any F c b wr (hT.keep kB)
    have KL := fun w => plast_any F c (widN F c b) w
    have KN := fun w => anext_any F (lastW F c (widN F c b)) w
    have hE := fun w => eqW_run (lastW F c (widN F c b)) b w
    have HW : Hid (∀ q, (lastW F c (widN F c b) == b) = q → (q = true → covL F b (k + 1) c = [(c, widN F c b)]) ∧ (q = false → covL F b (k + 1) c = (c, widN F c b) :: covL F b k (nextV F (lastW F c (widN F c b))) ∧ Rng F (nextV F (lastW F c (widN F c b))) b ∧ c.toNat < (nextV F (lastW F c (widN F c b))).toNat)) := by
      intro q hq
      constructor
      · rintro rfl
        exact cov_end F b k c (by simpa using hq)
      · rintro rfl
        have hn : ¬ lastW F c (widN F c b) = b := by simpa using hq
        obtain ⟨n1, n2, n3⟩ := rng_next F c b hr.out hn
        exact ⟨cov_on F b k c hn, n2, by have := Nat.two_pow_pos (128 - (widN F c b).toNat); omega⟩
    have hlen : Hid (pre.length + 1 ≤ 254) := by
      show _ ≤ _
      have := len_le T pre _ hT1.out HL.out
      simp only [covL, List.length_cons] at this
      omega
    revert KW KL KN hE HW
    generalize nextV F (lastW F c (widN F c b)) = nx
    generalize nextB F (lastW F c (widN F c b)) = nb
    generalize lastW F c (widN F c b) = la
    generalize widN F c b = n
    intro KW KL KN hE HW
    have h63 : pre.length + 1 ≤ maxLen := by have := hlen.out; unfold maxLen; omega
    have h47 : (pre.length + 1) * 24 ≤ 140737488355328 := by have := hlen.out; omega
    go_wp2_with fail
    refine KW.mono ?_
    rintro e w2 ⟨rfl, hb2⟩
    clear KW a0 a1 b0 b1
    have hA2 := (hA.below hb2).al (.cells #[.int .u64 (hI c), .int .u64 (lI c), .int .i64 n] 26)
    have hB2 := (hB.below hb2).al (.cells #[.int .u64 (hI c), .int .u64 (lI c), .int .i64 n] 26)
    have hP2 := atp_new w2 w2.heap.size c n 26 rfl
    have kB2 := keepb hb2 kB
    have kB3 := kB2.alloc kB2.size (.cells #[.int .u64 (hI c), .int .u64 (lI c), .int .i64 n] 26)
    have hown2 := own_below hb2 hown
    have hs2 : w.heap.size + 2 ≤ w2.heap.size := by have := (hB.below hb2).2.2.2.2; omega
    have hgap : some w2.heap.size ≠ u9.ownBlock := by
      intro e
      have := (hown2.lt _ e.symm).2
      omega
    clear hown hA hB kB hb2
    obtain ⟨p0, p1, p2, -, -, -⟩ := id hP2
    go_wp2_with (first | (
          at_builtin
          refine wpList_append_lies _ rfl _ _ 29 rfl (w.heap.size + 2) 26 i0 (.agg #[.int .u64 0, .int .u64 0, .int .i64 0]) 3 24 Tryd.underlying29 hi hz0 hz1 hz2 rfl (by decide) _ _ _ rfl ((hown2.alloc _).alloc _) ⟨w2.heap.size + 1, 0, none⟩ 1 1 [.int .u64 (hI c), .int .u64 (lI c), .int .i64 n] rfl rfl (by simpa using newsP (w2.alloc (.cells #[.int .u64 (hI c), .int .u64 (lI c), .int .i64 n] 26)) (.int .u64 (hI c)) (.int .u64 (lI c)) (.int .i64 n) 26) (threeP _ _ _) (by decide) h63 h47 (by simp; omega) _ rfl ?_
          intro g4 cap4 w4 hown4 hgrow hat hlt4
          have hne0 : some w.heap.size ≠ u9.ownBlock := fun e => by have := (hown2.lt _ e.symm).1; omega
          have hne1 : some (w.heap.size + 1) ≠ u9.ownBlock := fun e => by have := (hown2.lt _ e.symm).1; omega
          have hA4 := (hA2.al _).app hgrow hne0
          have hB4 := (hB2.al _).app hgrow hne1
          have hP4 := (hP2.al _).app hgrow hgap
          have kB4 : Below w.heap.size w w4 := (kB3.alloc kB3.size _).grown hgrow (kB3.alloc kB3.size _).size (fun q hq => by have := (hown2.lt q hq).1; omega)
          have hrow4 : Hid (w4.ownsRow (w.heap.size + 2) 26 3 (.slice (some ⟨g4, 0, none⟩) (pre.length + 1) cap4) (pre ++ [(c, n)]).length (rowP (pre ++ [(c, n)]))) := by
            show World.ownsRow _ _ _ _ _ _ _
            rw [rowP_one, List.length_append]
            exact hown4
          clear hgrow hat hown4 hown2 hA2 hB2 hP2 kB2 kB3 hgap hne0 hne1 hs2 p0 p1 p2 hlt4 h63 h47 hi hz0 hz1 hz2
          obtain ⟨p0, p1, p2, -, -, -⟩ := id hP4))
    refine (KL _).mono ?_
    rintro e w5 ⟨rfl, hb5⟩
    have hA5 := (hA4.below hb5).al (.cells #[.int .u64 (hI la), .int .u64 (lI la)] 24)
    have hB5 := (hB4.below hb5).al (.cells #[.int .u64 (hI la), .int .u64 (lI la)] 24)
    have hL5 := at_new w5 w5.heap.size la 24 rfl
    have kB5 := keepb hb5 kB4
    have kB5 := kB5.alloc kB5.size (.cells #[.int .u64 (hI la), .int .u64 (lI la)] 24)
    have hrow5 : Hid (World.ownsRow _ _ _ _ _ _ _) := (own_below hb5 hrow4.out).alloc (.cells #[.int .u64 (hI la), .int .u64 (lI la)] 24)
    clear hA4 hB4 hP4 kB4 hrow4 hb5 p0 p1 p2 KL
    obtain ⟨b0, b1, -, -, -⟩ := id hB5
    obtain ⟨l0, l1, -, -, -⟩ := id hL5
    cases hq : (la == b)
    · rw [hq] at hE
      go_wp2_with fail
      refine (KN _).mono ?_
      rintro e w6 ⟨rfl, hb6⟩
      have hA6 := hA5.below hb6
      have hB6 := hB5.below hb6
      have kB6 := keepb hb6 kB5
      have hrow6 : Hid (World.ownsRow _ _ _ _ _ _ _) := own_below hb6 hrow5.out
      clear hA5 hB5 hL5 kB5 hrow5 hb6 KN b0 b1 l0 l1 hE
      obtain ⟨a0, a1, a2, a3, -⟩ := id hA6
      go_wp2
      go_roundw
      case rel =>
        obtain ⟨m1, m2, m3⟩ := (HW.out false hq).2 rfl
        cases k with
        | zero => exact absurd m2.2.2 (by have := hk.out; omega)
        | succ k =>
          refine ⟨pre ++ [(c, n)], k, nx, ?_, ?_, m2, own_set (own_set hrow6.out ⟨w.heap.size, 0, none⟩ _ ?_) ⟨w.heap.size, 1, none⟩ _ ?_, hA6.set nx, hB6.other _ _ (by omega), bset2 kB6 (Nat.le_refl _) _ _⟩
          · show T = _
            rw [hT1.out, m1, List.append_assoc]; rfl
          · show b.toNat < nx.toNat + (k + 1)
            have := hk.out; omega
          · intro e
            have := (hrow6.out.lt _ e).1
            simp only at this
            omega
          · intro e
            have := (hrow6.out.lt _ e).1
            simp only at this
            omega
      case measure =>
        obtain ⟨m1, m2, m3⟩ := (HW.out false hq).2 rfl
        rw [natAt_of (hA6.set nx), natAt_of hAr]
        have := m2.2.2
        omega
    · rw [hq] at hE
      go_wp2
      refine bodyPost_ret (v := .tuple #[.slice (some ⟨g4, 0, none⟩) (pre.length + 1) cap4, .int .i64 0]) (by simp [results, Tryd.results56, go_sem, *]) rfl ⟨⟨_, rfl, ?_⟩, kB5⟩
      have e : T = pre ++ [(c, n)] := by rw [hT1.out, (HW.out true hq).1 rfl]
      rw [e]
      exact own_base hrow5.out (by omega)
theorem cover_any (F : Int) (a b : BitVec 128) (w : World) (hT : Tab w) :
    Calls Tryd.prog 56 #[.int .i64 F, .agg #[.int .u64 (hI a), .int .u64 (lI a)], .agg #[.int .u64 (hI b), .int .u64 (lI b)]] w fun e w' => (∃ v, e = .returned (.tuple #[v, .int .i64 (covE F a b)]) ∧ w'.ownsRow w.heap.size 26 3 v (covT F a b).length (rowP (covT F a b))) ∧ Below w.heap.size w w' := by
  have KC := fun w => checkRange_any F a b w
  by_cases he : covE F a b = 0
  · have hr := covE_rng F a b he
    have hct : covT F a b = covL F b (b.toNat - a.toNat + 1) a := by unfold covT; rw [if_pos he]
    rw [he] at KC ⊢
    exact cover_yes F a b _ (b.toNat - a.toNat) hct (by have := hr.2.2; omega) hr (covT_len F a b) w hT KC
  · have ht : covT F a b = [] := by unfold covT; rw [if_neg he]
    rw [ht]
    revert he KC
    generalize covE F a b = r
    intro KC he
    have hn : (r != 0) = true := by simp [he]
    have L0 : ∀ (o p : Obj), Below w.heap.size w ((w.alloc o).alloc p) := fun o p => bl2 w o p
    go_enter Tryd.func56, Tryd.ntmps56
    go_wp2_with fail
    refine (KC _).mono ?_
    rintro e w1 ⟨rfl, hb1⟩
    have kB := keepb hb1 (L0 _ _)
    clear hb1 KC L0
    go_wp2
    exact bodyPost_ret (v := .tuple #[.slice none 0 0, .int .i64 r]) (by simp [results, Tryd.results56, go_sem, *]) rfl ⟨⟨_, rfl, World.ownsRow_nil _ _ _ _⟩, kB⟩
end Go.Proofs.YtkgfeegcdohkdaaDoor
