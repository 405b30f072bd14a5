/-
  Part 8 of the proof: 4 texts, one behind the other.
-/
import Derived.Test.YtddjeplceioenaaDoorPart7
import Derived.Test.YtddjeplceioenaaDoorPart2
import Derived.Test.YtddjeplceioenaaDoorPart3
import Derived.Test.YtddjeplceioenaaDoorPart5
import Derived.Deep.AppendLies
/-
  What the calls of package ranges' checkRange and widest do; rows of prefixes in memory.
-/
namespace Go.Proofs.YtddjeplceioenaaDoor
open Go.RowKit
set_option linter.unusedSimpArgs false
set_option linter.unusedVariables false

theorem At.app {W w1 : World} {B : Nat} {x : BitVec 128} {r : Option Nat} (h : At W B x) (g : W.grownBy w1 r) (hn : some B ≠ r) : At w1 B x := by
  obtain ⟨h0, h1, h2, h3, h4⟩ := h
  exact ⟨g.cell h0 hn, g.cell h1 hn, (g.frozen_far ⟨B, 0, none⟩ h4 hn).trans h2, (g.frozen_far ⟨B, 1, none⟩ h4 hn).trans h3, Nat.lt_of_lt_of_le h4 g.size⟩
theorem AtP.app {W w1 : World} {B : Nat} {x : BitVec 128} {n : Int} {r : Option Nat} (h : AtP W B x n) (g : W.grownBy w1 r) (hn : some B ≠ r) : AtP w1 B x n := by
  obtain ⟨h0, h1, h2, h3, h4, h5⟩ := h
  have lt := cell_in h0
  exact ⟨g.cell h0 hn, g.cell h1 hn, g.cell h2 hn, (g.frozen_far ⟨B, 0, none⟩ lt hn).trans h3, (g.frozen_far ⟨B, 1, none⟩ lt hn).trans h4, (g.frozen_far ⟨B, 2, none⟩ lt hn).trans h5⟩
/-- The cells of a row of prefixes. -/
def rowP : List (BitVec 128 × Int) → List Value
  | [] => []
  | p :: l => .int .u64 (hI p.1) :: .int .u64 (lI p.1) :: .int .i64 p.2 :: rowP l
theorem rowP_app : ∀ l m, rowP (l ++ m) = rowP l ++ rowP m := by
  intro l
  induction l with
  | nil => intro m; rfl
  | cons p l ih => intro m; simp [rowP, ih]
theorem rowP_one (l : List (BitVec 128 × Int)) (x : BitVec 128) (n : Int) : rowP (l ++ [(x, n)]) = rowP l ++ [.int .u64 (hI x), .int .u64 (lI x), .int .i64 n] := by rw [rowP_app]; rfl
theorem Tryd.infoP : (Tryd.prog.info? 40).map (fun i => (i.zero, i.size, i.bytes)) = some (some (.agg #[.int .u64 0, .int .u64 0, .int .i64 0]), 3, 24) := by kernel_rfl
theorem newsP (W : World) (a b c : Value) (t : TypeId) : ∀ j u, [a, b, c][j]? = some u → (W.alloc (.cells #[a, b, c] t)).cell? ((⟨W.heap.size, 0, none⟩ : Addr).add j) = some u := by
  intro j u hj
  match j, hj with
  | 0, hj => simp at hj; subst hj; simp [Addr.add, go_sem]
  | 1, hj => simp at hj; subst hj; simp [Addr.add, go_sem]
  | 2, hj => simp at hj; subst hj; simp [Addr.add, go_sem]
theorem threeP (a b : Int) (c : Int) : ∀ u ∈ [Value.int .u64 a, Value.int .u64 b, Value.int .i64 c], u.oneCell' = true := by
  intro u hu; simp at hu; rcases hu with rfl | rfl | rfl <;> rfl
theorem At.al {W : World} {B : Nat} {x : BitVec 128} (h : At W B x) (o : Obj) : At (W.alloc o) B x := h.below (bl1 W o)
theorem AtP.al {W : World} {B : Nat} {x : BitVec 128} {n : Int} (h : AtP W B x n) (o : Obj) : AtP (W.alloc o) B x n := h.below (bl1 W o)

/-- The error of a range. -/
def covE (F : Int) (a b : BitVec 128) : Int := if rightE F a = 0 then (if rightE F b = 0 then (if cmpZ b a < 0 then 19 else 0) else rightE F b) else rightE F a
theorem rightE_ways (F : Int) (x : BitVec 128) : rightE F x = 0 ∨ rightE F x = 6 ∨ rightE F x = 11 := by
  unfold rightE; split
  · split <;> simp
  · simp
set_option maxHeartbeats 2000000 in
theorem checkRange_any (F : Int) (a b : BitVec 128) (w : World) :
    Calls Tryd.prog 65 #[.int .i64 F, .agg #[.int .u64 (hI a), .int .u64 (lI a)], .agg #[.int .u64 (hI b), .int .u64 (lI b)]] w fun e w' => e = .returned (.int .i64 (covE F a b)) ∧ Below w.heap.size w w' := by
  have KA := fun w => aright_any F a w
  have KB := fun w => aright_any F b w
  have KC := fun w => cmp_any b a w
  unfold covE
  have hx := rightE_ways F a
  have hy := rightE_ways F b
  revert KA KB KC hx hy
  generalize rightE F a = ra
  generalize rightE F b = rb
  generalize cmpZ b a = c
  intro KA KB KC hx hy
  have L0 : ∀ (o p : Obj), Below w.heap.size w ((w.alloc o).alloc p) := fun o p => bl2 w o p
  go_enter Tryd.func65, Tryd.ntmps65
  have hA : At ((w.alloc (.cells #[.int .u64 (hI a), .int .u64 (lI a)] 37)).alloc (.cells #[.int .u64 (hI b), .int .u64 (lI b)] 37)) w.heap.size a := (at_new w w.heap.size a 37 rfl).al _
  have hB : At ((w.alloc (.cells #[.int .u64 (hI a), .int .u64 (lI a)] 37)).alloc (.cells #[.int .u64 (hI b), .int .u64 (lI b)] 37)) (w.heap.size + 1) b := at_new _ (w.heap.size + 1) b 37 (by simp)
  go_wp2_with fail
  refine (KA _).mono ?_
  rintro e w1 ⟨rfl, hb1⟩
  have hA := hA.below hb1
  have hB := hB.below hb1
  have kB := keepb hb1 (L0 _ _)
  clear hb1 KA L0
  by_cases h : ra = 0
  · subst h
    obtain ⟨b0, b1, -, -, -⟩ := id hB
    go_wp2_with fail
    refine (KB _).mono ?_
    rintro e w2 ⟨rfl, hb2⟩
    have hA := hA.below hb2
    have hB := hB.below hb2
    have kB := keepb hb2 kB
    clear hb2 KB b0 b1
    by_cases h : rb = 0
    · subst h
      obtain ⟨a0, a1, -, -, -⟩ := id hA
      obtain ⟨b0, b1, -, -, -⟩ := id hB
      go_wp2_with fail
      refine (KC _).mono ?_
      rintro e w3 ⟨rfl, hb3⟩
      have kB := keepb hb3 kB
      clear hb3 KC b0 b1 a0 a1 hA hB hx hy
      by_cases hc : c < 0
      · go_wp2
        go_ret
        exact ⟨by first | rfl | (simp [*]; done), kB⟩
      · go_wp2
        go_ret
        exact ⟨by first | rfl | (simp [*]; done), kB⟩
    · have hn : (rb != 0) = true := by simp [h]
      go_wp2
      go_ret
      exact ⟨by first | rfl | (simp [*]; done), kB⟩
  · have hn : (ra != 0) = true := by simp [h]
    go_wp2
    go_ret
    exact ⟨by first | rfl | (simp [*]; done), kB⟩
theorem lead_le (z : BitVec 128) : leadN z ≤ 128 := by
  unfold leadN; split <;> omega
set_option maxHeartbeats 4000000 in
theorem widest_any (F : Int) (a b : BitVec 128) (w : World) (hT : Tab w) :
    Calls Tryd.prog 66 #[.int .i64 F, .agg #[.int .u64 (hI a), .int .u64 (lI a)], .agg #[.int .u64 (hI b), .int .u64 (lI b)]] w fun e w' => e = .returned (.agg #[.int .u64 (hI a), .int .u64 (lI a), .int .i64 (widN F a b)]) ∧ Below w.heap.size w w' := by
  have KT := fun w h => trail_any a w h
  have KN := fun w => anext_any F b w
  have KC := fun w => wcommon_any a (nextV F b) w
  unfold widN
  have ht := trail_le a
  have hl := lead_le (a ^^^ nextV F b)
  revert KT KN KC ht hl
  generalize leadN (a ^^^ nextV F b) = ld
  generalize nextV F b = nx
  generalize nextB F b = ok
  generalize trailN a = tr
  intro KT KN KC ht hl
  go_enter Tryd.func66, Tryd.ntmps66
  have g0 : Below w.heap.size w (((w.alloc (.cells #[.int .u64 (hI a), .int .u64 (lI a)] 37)).alloc (.cells #[.int .u64 (hI b), .int .u64 (lI b)] 37)).alloc (.cells #[.int .u64 0, .int .u64 0, .int .i64 0] 40)) := bl3 w _ _ _
  have hT0 := hT.keep g0
  have hA : At (((w.alloc (.cells #[.int .u64 (hI a), .int .u64 (lI a)] 37)).alloc (.cells #[.int .u64 (hI b), .int .u64 (lI b)] 37)).alloc (.cells #[.int .u64 0, .int .u64 0, .int .i64 0] 40)) w.heap.size a := ((at_new w w.heap.size a 37 rfl).al _).al _
  have hB : At (((w.alloc (.cells #[.int .u64 (hI a), .int .u64 (lI a)] 37)).alloc (.cells #[.int .u64 (hI b), .int .u64 (lI b)] 37)).alloc (.cells #[.int .u64 0, .int .u64 0, .int .i64 0] 40)) (w.heap.size + 1) b := (at_new (w.alloc (.cells #[.int .u64 (hI a), .int .u64 (lI a)] 37)) (w.heap.size + 1) b 37 (by simp)).al _
  have hZ : AtP (((w.alloc (.cells #[.int .u64 (hI a), .int .u64 (lI a)] 37)).alloc (.cells #[.int .u64 (hI b), .int .u64 (lI b)] 37)).alloc (.cells #[.int .u64 0, .int .u64 0, .int .i64 0] 40)) (w.heap.size + 2) 0#128 0 := atp_new ((w.alloc (.cells #[.int .u64 (hI a), .int .u64 (lI a)] 37)).alloc (.cells #[.int .u64 (hI b), .int .u64 (lI b)] 37)) (w.heap.size + 2) 0#128 0 40 (by simp)
  go_wp2_with fail
  refine (KT _ hT0).mono ?_
  rintro e w1 ⟨rfl, hb1⟩
  have hA := hA.below hb1
  have hB := hB.below hb1
  have hZ := hZ.below hb1
  have kB := keepb hb1 g0
  clear hb1 KT g0 hT0 hT
  obtain ⟨b0, b1, -, -, -⟩ := id hB
  have t1 : IntKind.i64.wrap (128 - (tr : Int)) = 128 - (tr : Int) := by rw [IntKind.wrap_i64]; omega
  go_wp2_with fail
  refine (KN _).mono ?_
  rintro e w2 ⟨rfl, hb2⟩
  have hA := hA.below hb2
  have hZ := hZ.below hb2
  have kB := keepb hb2 kB
  clear hb2 KN b0 b1 hB
  have hN : At (w2.alloc (.cells #[.int .u64 (hI nx), .int .u64 (lI nx)] 37)) w2.heap.size nx := at_new w2 w2.heap.size nx 37 rfl
  have hA := hA.al (.cells #[.int .u64 (hI nx), .int .u64 (lI nx)] 37)
  have hZ := hZ.al (.cells #[.int .u64 (hI nx), .int .u64 (lI nx)] 37)
  have kB := kB.alloc kB.size (.cells #[.int .u64 (hI nx), .int .u64 (lI nx)] 37)
  obtain ⟨a0, a1, -, -, -⟩ := id hA
  obtain ⟨n0, n1, -, -, -⟩ := id hN
  cases ok
  · obtain ⟨z0, z1, z2, z3, z4, z5⟩ := id hZ
    go_wp2
    exact bodyPost_ret (v := .agg #[.int .u64 (hI a), .int .u64 (lI a), .int .i64 (128 - (tr : Int))]) (by simp [results, Tryd.results66, go_sem, *]) rfl ⟨by first | rfl | (simp [*]; done), bset3 kB (by omega) _ _ _⟩
  · go_wp2_with fail
    refine (KC _).mono ?_
    rintro e w3 ⟨rfl, hb3⟩
    have hA := hA.below hb3
    have hZ := hZ.below hb3
    have kB := keepb hb3 kB
    clear hb3 KC a0 a1 n0 n1 hN
    obtain ⟨a0, a1, -, -, -⟩ := id hA
    obtain ⟨z0, z1, z2, z3, z4, z5⟩ := id hZ
    have t2 : IntKind.i64.wrap ((ld : Int) + 1) = (ld : Int) + 1 := by rw [IntKind.wrap_i64]; omega
    go_wp2
    · exact bodyPost_ret (v := .agg #[.int .u64 (hI a), .int .u64 (lI a), .int .i64 ((ld : Int) + 1)]) (by simp [results, Tryd.results66, go_sem, *]) rfl ⟨by rw [Int.max_eq_right (by omega)], bset3 kB (by omega) _ _ _⟩
    · exact bodyPost_ret (v := .agg #[.int .u64 (hI a), .int .u64 (lI a), .int .i64 (128 - (tr : Int))]) (by simp [results, Tryd.results66, go_sem, *]) rfl ⟨by rw [Int.max_eq_left (by omega)], bset3 kB (by omega) _ _ _⟩
end Go.Proofs.YtddjeplceioenaaDoor
/-
  What the call of package ranges' Cover does.
-/
namespace Go.Proofs.YtddjeplceioenaaDoor
open Go.RowKit
set_option linter.unusedSimpArgs false
set_option linter.unusedVariables false

/-- What Cover tells. -/
def covT (F : Int) (a b : BitVec 128) : List (BitVec 128 × Int) := if covE F a b = 0 then covL F b (b.toNat - a.toNat + 1) a else []
theorem covE_rng (F : Int) (a b : BitVec 128) (h : covE F a b = 0) : Rng F a b := by
  unfold covE at h
  split at h
  · rename_i h1
    split at h
    · rename_i h2
      split at h
      · omega
      · rename_i h3
        rw [cmp_lt0] at h3
        exact ⟨h1, h2, by omega⟩
    · omega
  · omega
theorem covT_len (F : Int) (a b : BitVec 128) : (covT F a b).length ≤ 254 := by
  unfold covT
  split
  · rename_i h
    have r := covE_rng F a b h
    have := cov_len F a b (b.toNat - a.toNat + 1) r (by have := r.2.2; omega)
    obtain ⟨hf, _⟩ := right0 F a r.1
    have := (fam_bd F hf).2
    omega
  · simp
/-- The number that lies in a block of two cells. -/
def natAt (w : World) (B : Nat) : Nat := (intOf (cv w B 0)).toNat * 18446744073709551616 + (intOf (cv w B 1)).toNat
theorem natAt_of {w : World} {B : Nat} {x : BitVec 128} (h : At w B x) : natAt w B = x.toNat := by
  unfold natAt cv
  rw [h.1, h.2.1]
  have := x.isLt
  simp only [Option.getD_some, intOf]
  rw [hIN, lIN]
  omega
theorem own_base {w : World} {base base' e size n : Nat} {v : Value} {xs : List Value} (h : w.ownsRow base e size v n xs) (hb : base' ≤ base) : w.ownsRow base' e size v n xs := by
  refine ⟨h.1, ?_⟩
  rcases h.2 with hn | ⟨g, cap, cur, hv, h1, h2⟩
  · exact .inl hn
  · exact .inr ⟨g, cap, cur, hv, by omega, h2⟩
theorem own_set {w : World} {base e size n : Nat} {v : Value} {xs : List Value} (h : w.ownsRow base e size v n xs) (p : Addr) (u : Value) (hn : v.ownBlock ≠ some p.block) : (w.setCell p u).ownsRow base e size v n xs := by
  refine ⟨h.1, ?_⟩
  rcases h.2 with hn | ⟨g, cap, cur, rfl, hb, hgg, rest⟩
  · exact .inl hn
  · refine .inr ⟨g, cap, cur, rfl, hb, ?_, rest⟩
    rw [← hgg]
    simp only [Value.ownBlock] at hn
    exact Below.heap_setCell w p u g (fun e => hn (by rw [e]))
theorem len_le (T pre l : List (BitVec 128 × Int)) (h : T = pre ++ l) (hl : T.length ≤ 254) : pre.length + l.length ≤ 254 := by
  rw [h, List.length_append] at hl; exact hl
set_option maxRecDepth 20000 in
set_option maxHeartbeats 4000000 in
theorem cover_yes (F : Int) (a b : BitVec 128) (T : List (BitVec 128 × Int)) (k0 : Nat) (HC : T = covL F b (k0 + 1) a) (hk0 : b.toNat < a.toNat + (k0 + 1)) (HR : Rng F a b) (HL : T.length ≤ 254) (w : World) (hT : Tab w)
    (KC : ∀ w, Calls Tryd.prog 65 #[.int .i64 F, .agg #[.int .u64 (hI a), .int .u64 (lI a)], .agg #[.int .u64 (hI b), .int .u64 (lI b)]] w fun e w' => e = .returned (.int .i64 0) ∧ Below w.heap.size w w') :
    Calls Tryd.prog 46 #[.int .i64 F, .agg #[.int .u64 (hI a), .int .u64 (lI a)], .agg #[.int .u64 (hI b), .int .u64 (lI b)]] w fun e w' => (∃ v, e = .returned (.tuple #[v, .int .i64 0]) ∧ w'.ownsRow w.heap.size 40 3 v T.length (rowP T)) ∧ Below w.heap.size w w' := by
  obtain ⟨i0, hi, hz0, hz1, hz2⟩ := info_parts Tryd.infoP
  have HC : Hid (T = covL F b (k0 + 1) a) := HC
  have hk0 : Hid (b.toNat < a.toNat + (k0 + 1)) := hk0
  have HR : Hid (Rng F a b) := HR
  have HL : Hid (T.length ≤ 254) := HL
  have L0 : ∀ (o p : Obj), Below w.heap.size w ((w.alloc o).alloc p) := fun o p => bl2 w o p
  go_enter Tryd.func46, Tryd.ntmps46
  have hA : At ((w.alloc (.cells #[.int .u64 (hI a), .int .u64 (lI a)] 37)).alloc (.cells #[.int .u64 (hI b), .int .u64 (lI b)] 37)) w.heap.size a := (at_new w w.heap.size a 37 rfl).al _
  have hB : At ((w.alloc (.cells #[.int .u64 (hI a), .int .u64 (lI a)] 37)).alloc (.cells #[.int .u64 (hI b), .int .u64 (lI b)] 37)) (w.heap.size + 1) b := at_new _ (w.heap.size + 1) b 37 (by simp)
  go_wp2_with fail
  refine (KC _).mono ?_
  rintro e w1 ⟨rfl, hb1⟩
  have hA := hA.below hb1
  have hB := hB.below hb1
  have kB := keepb hb1 (L0 _ _)
  clear hb1 KC L0
  go_wp2_with fail
  go_loopw [9] (fun l wr => ∃ (pre : List (BitVec 128 × Int)) (k : Nat) (c : BitVec 128), Hid (T = pre ++ covL F b (k + 1) c) ∧ Hid (b.toNat < c.toNat + (k + 1)) ∧ Hid (Rng F c b) ∧ wr.ownsRow (w.heap.size + 2) 40 3 l pre.length (rowP pre) ∧ At wr w.heap.size c ∧ At wr (w.heap.size + 1) b ∧ Below w.heap.size w wr)
    (fun _ wr => b.toNat + 1 - natAt wr w.heap.size)
  case atStart => exact ⟨[], k0, a, HC, hk0, HR, World.ownsRow_nil _ _ _ _, hA, hB, kB⟩
  case round =>
    clear hA hB kB HC hk0 HR
    obtain ⟨pre, k, c, hT1, hk, hr, hown, hA, hB, kB⟩ := hrel
    obtain ⟨a0, a1, -, -, -⟩ := id hA
    obtain ⟨b0, b1, -, -, -⟩ := id hB
    have hAr : At wr w.heap.size c := hA
    have KW := widest_any F c b wr (hT.keep kB)
    have KL := fun w => plast_any F c (widN F c b) w
    have KN := fun w => anext_any F (lastW F c (widN F c b)) w
    have hE := fun w => eqW_run (lastW F c (widN F c b)) b w
    have HW : Hid (∀ q, (lastW F c (widN F c b) == b) = q → (q = true → covL F b (k + 1) c = [(c, widN F c b)]) ∧ (q = false → covL F b (k + 1) c = (c, widN F c b) :: covL F b k (nextV F (lastW F c (widN F c b))) ∧ Rng F (nextV F (lastW F c (widN F c b))) b ∧ c.toNat < (nextV F (lastW F c (widN F c b))).toNat)) := by
      intro q hq
      constructor
      · rintro rfl
        exact cov_end F b k c (by simpa using hq)
      · rintro rfl
        have hn : ¬ lastW F c (widN F c b) = b := by simpa using hq
        obtain ⟨n1, n2, n3⟩ := rng_next F c b hr.out hn
        exact ⟨cov_on F b k c hn, n2, by have := Nat.two_pow_pos (128 - (widN F c b).toNat); omega⟩
    have hlen : Hid (pre.length + 1 ≤ 254) := by
      show _ ≤ _
      have := len_le T pre _ hT1.out HL.out
      simp only [covL, List.length_cons] at this
      omega
    revert KW KL KN hE HW
    generalize nextV F (lastW F c (widN F c b)) = nx
    generalize nextB F (lastW F c (widN F c b)) = nb
    generalize lastW F c (widN F c b) = la
    generalize widN F c b = n
    intro KW KL KN hE HW
    have h63 : pre.length + 1 ≤ maxLen := by have := hlen.out; unfold maxLen; omega
    have h47 : (pre.length + 1) * 24 ≤ 140737488355328 := by have := hlen.out; omega
    go_wp2_with fail
    refine KW.mono ?_
    rintro e w2 ⟨rfl, hb2⟩
    clear KW a0 a1 b0 b1
    have hA2 := (hA.below hb2).al (.cells #[.int .u64 (hI c), .int .u64 (lI c), .int .i64 n] 40)
    have hB2 := (hB.below hb2).al (.cells #[.int .u64 (hI c), .int .u64 (lI c), .int .i64 n] 40)
    have hP2 := atp_new w2 w2.heap.size c n 40 rfl
    have kB2 := keepb hb2 kB
    have kB3 := kB2.alloc kB2.size (.cells #[.int .u64 (hI c), .int .u64 (lI c), .int .i64 n] 40)
    have hown2 := own_below hb2 hown
    have hs2 : w.heap.size + 2 ≤ w2.heap.size := by have := (hB.below hb2).2.2.2.2; omega
    have hgap : some w2.heap.size ≠ u9.ownBlock := by
      intro e
      have := (hown2.lt _ e.symm).2
      omega
    clear hown hA hB kB hb2
    obtain ⟨p0, p1, p2, -, -, -⟩ := id hP2
    go_wp2_with (first | (
          at_builtin
          refine wpList_append_lies _ rfl _ _ 63 rfl (w.heap.size + 2) 40 i0 (.agg #[.int .u64 0, .int .u64 0, .int .i64 0]) 3 24 Tryd.underlying63 hi hz0 hz1 hz2 rfl (by decide) _ _ _ rfl ((hown2.alloc _).alloc _) ⟨w2.heap.size + 1, 0, none⟩ 1 1 [.int .u64 (hI c), .int .u64 (lI c), .int .i64 n] rfl rfl (by simpa using newsP (w2.alloc (.cells #[.int .u64 (hI c), .int .u64 (lI c), .int .i64 n] 40)) (.int .u64 (hI c)) (.int .u64 (lI c)) (.int .i64 n) 40) (threeP _ _ _) (by decide) h63 h47 (by simp; omega) _ rfl ?_
          intro g4 cap4 w4 hown4 hgrow hat hlt4
          have hne0 : some w.heap.size ≠ u9.ownBlock := fun e => by have := (hown2.lt _ e.symm).1; omega
          have hne1 : some (w.heap.size + 1) ≠ u9.ownBlock := fun e => by have := (hown2.lt _ e.symm).1; omega
          have hA4 := (hA2.al _).app hgrow hne0
          have hB4 := (hB2.al _).app hgrow hne1
          have hP4 := (hP2.al _).app hgrow hgap
          have kB4 : Below w.heap.size w w4 := (kB3.alloc kB3.size _).grown hgrow (kB3.alloc kB3.size _).size (fun q hq => by have := (hown2.lt q hq).1; omega)
          have hrow4 : Hid (w4.ownsRow (w.heap.size + 2) 40 3 (.slice (some ⟨g4, 0, none⟩) (pre.length + 1) cap4) (pre ++ [(c, n)]).length (rowP (pre ++ [(c, n)]))) := by
            show World.ownsRow _ _ _ _ _ _ _
            rw [rowP_one, List.length_append]
            exact hown4
          clear hgrow hat hown4 hown2 hA2 hB2 hP2 kB2 kB3 hgap hne0 hne1 hs2 p0 p1 p2 hlt4 h63 h47 hi hz0 hz1 hz2
          obtain ⟨p0, p1, p2, -, -, -⟩ := id hP4))
    refine (KL _).mono ?_
    rintro e w5 ⟨rfl, hb5⟩
    have hA5 := (hA4.below hb5).al (.cells #[.int .u64 (hI la), .int .u64 (lI la)] 37)
    have hB5 := (hB4.below hb5).al (.cells #[.int .u64 (hI la), .int .u64 (lI la)] 37)
    have hL5 := at_new w5 w5.heap.size la 37 rfl
    have kB5 := keepb hb5 kB4
    have kB5 := kB5.alloc kB5.size (.cells #[.int .u64 (hI la), .int .u64 (lI la)] 37)
    have hrow5 : Hid (World.ownsRow _ _ _ _ _ _ _) := (own_below hb5 hrow4.out).alloc (.cells #[.int .u64 (hI la), .int .u64 (lI la)] 37)
    clear hA4 hB4 hP4 kB4 hrow4 hb5 p0 p1 p2 KL
    obtain ⟨b0, b1, -, -, -⟩ := id hB5
    obtain ⟨l0, l1, -, -, -⟩ := id hL5
    cases hq : (la == b)
    · rw [hq] at hE
      go_wp2_with fail
      refine (KN _).mono ?_
      rintro e w6 ⟨rfl, hb6⟩
      have hA6 := hA5.below hb6
      have hB6 := hB5.below hb6
      have kB6 := keepb hb6 kB5
      have hrow6 : Hid (World.ownsRow _ _ _ _ _ _ _) := own_below hb6 hrow5.out
      clear hA5 hB5 hL5 kB5 hrow5 hb6 KN b0 b1 l0 l1 hE
      obtain ⟨a0, a1, a2, a3, -⟩ := id hA6
      go_wp2
      go_roundw
      case rel =>
        obtain ⟨m1, m2, m3⟩ := (HW.out false hq).2 rfl
        cases k with
        | zero => exact absurd m2.2.2 (by have := hk.out; omega)
        | succ k =>
          refine ⟨pre ++ [(c, n)], k, nx, ?_, ?_, m2, own_set (own_set hrow6.out ⟨w.heap.size, 0, none⟩ _ ?_) ⟨w.heap.size, 1, none⟩ _ ?_, hA6.set nx, hB6.other _ _ (by omega), bset2 kB6 (Nat.le_refl _) _ _⟩
          · show T = _
            rw [hT1.out, m1, List.append_assoc]; rfl
          · show b.toNat < nx.toNat + (k + 1)
            have := hk.out; omega
          · intro e
            have := (hrow6.out.lt _ e).1
            simp only at this
            omega
          · intro e
            have := (hrow6.out.lt _ e).1
            simp only at this
            omega
      case measure =>
        obtain ⟨m1, m2, m3⟩ := (HW.out false hq).2 rfl
        rw [natAt_of (hA6.set nx), natAt_of hAr]
        have := m2.2.2
        omega
    · rw [hq] at hE
      go_wp2
      refine bodyPost_ret (v := .tuple #[.slice (some ⟨g4, 0, none⟩) (pre.length + 1) cap4, .int .i64 0]) (by simp [results, Tryd.results46, go_sem, *]) rfl ⟨⟨_, rfl, ?_⟩, kB5⟩
      have e : T = pre ++ [(c, n)] := by rw [hT1.out, (HW.out true hq).1 rfl]
      rw [e]
      exact own_base hrow5.out (by omega)
theorem cover_any (F : Int) (a b : BitVec 128) (w : World) (hT : Tab w) :
    Calls Tryd.prog 46 #[.int .i64 F, .agg #[.int .u64 (hI a), .int .u64 (lI a)], .agg #[.int .u64 (hI b), .int .u64 (lI b)]] w fun e w' => (∃ v, e = .returned (.tuple #[v, .int .i64 (covE F a b)]) ∧ w'.ownsRow w.heap.size 40 3 v (covT F a b).length (rowP (covT F a b))) ∧ Below w.heap.size w w' := by
  have KC := fun w => checkRange_any F a b w
  by_cases he : covE F a b = 0
  · have hr := covE_rng F a b he
    have hct : covT F a b = covL F b (b.toNat - a.toNat + 1) a := by unfold covT; rw [if_pos he]
    rw [he] at KC ⊢
    exact cover_yes F a b _ (b.toNat - a.toNat) hct (by have := hr.2.2; omega) hr (covT_len F a b) w hT KC
  · have ht : covT F a b = [] := by unfold covT; rw [if_neg he]
    rw [ht]
    revert he KC
    generalize covE F a b = r
    intro KC he
    have hn : (r != 0) = true := by simp [he]
    have L0 : ∀ (o p : Obj), Below w.heap.size w ((w.alloc o).alloc p) := fun o p => bl2 w o p
    go_enter Tryd.func46, Tryd.ntmps46
    go_wp2_with fail
    refine (KC _).mono ?_
    rintro e w1 ⟨rfl, hb1⟩
    have kB := keepb hb1 (L0 _ _)
    clear hb1 KC L0
    go_wp2
    exact bodyPost_ret (v := .tuple #[.slice none 0 0, .int .i64 r]) (by simp [results, Tryd.results46, go_sem, *]) rfl ⟨⟨_, rfl, World.ownsRow_nil _ _ _ _⟩, kB⟩
end Go.Proofs.YtddjeplceioenaaDoor
/-
  The routes of a list of segments, as a plain function; rows of routes of one's own.
-/
namespace Go.Proofs.YtddjeplceioenaaDoor
open Go.RowKit
set_option linter.unusedSimpArgs false
set_option linter.unusedVariables false

theorem Tryd.infoR6 : (Tryd.prog.info? 57).map (fun i => (i.zero, i.size, i.bytes)) = some (some (.agg #[.int .u64 0, .int .u64 0, .int .i64 0, .int .i64 0]), 4, 32) := by kernel_rfl
theorem rowR_app : ∀ l m, rowR (l ++ m) = rowR l ++ rowR m := by
  intro l
  induction l with
  | nil => intro m; rfl
  | cons p l ih => intro m; simp [rowR, ih]
theorem rowR_one (l : List Rte) (x : BitVec 128) (n h : Int) : rowR (l ++ [((x, n), h)]) = rowR l ++ [.int .u64 (hI x), .int .u64 (lI x), .int .i64 n, .int .i64 h] := by rw [rowR_app]; rfl
theorem rowR_len6 (l : List Rte) : (rowR l).length = l.length * 4 := by
  induction l with
  | nil => rfl
  | cons r l ih => simp [rowR, ih]; omega
theorem rowR_cell (l : List Rte) : ∀ u ∈ rowR l, u.oneCell' = true := by
  induction l with
  | nil => intro u hu; cases hu
  | cons p l ih =>
    intro u hu
    simp only [rowR, List.mem_cons] at hu
    rcases hu with rfl | rfl | rfl | rfl | hu
    all_goals first | rfl | exact ih u hu
theorem ownR_cells {W : World} {base n g c : Nat} {l : List Rte} (h : W.ownsRow base 57 4 (.slice (some ⟨g, 0, none⟩) n c) n (rowR l)) (j : Nat) (hj : j < l.length) :
    W.cell? ⟨g, j * 4, none⟩ = some (.int .u64 (hI l[j].1.1)) ∧ W.cell? ⟨g, j * 4 + 1, none⟩ = some (.int .u64 (lI l[j].1.1)) ∧ W.cell? ⟨g, j * 4 + 2, none⟩ = some (.int .i64 l[j].1.2) ∧ W.cell? ⟨g, j * 4 + 3, none⟩ = some (.int .i64 l[j].2) := by
  obtain ⟨a0, a1, a2, a3⟩ := rowR_get l j hj
  have f := fun k u => h.cells (g := g) rfl k u
  exact ⟨by have := f _ _ a0; rwa [addA, Nat.zero_add] at this, by have := f _ _ a1; rwa [addA, Nat.zero_add] at this, by have := f _ _ a2; rwa [addA, Nat.zero_add] at this, by have := f _ _ a3; rwa [addA, Nat.zero_add] at this⟩
theorem newsR (W : World) (a b c d : Value) (t : TypeId) : ∀ j u, [a, b, c, d][j]? = some u → (W.alloc (.cells #[a, b, c, d] t)).cell? ((⟨W.heap.size, 0, none⟩ : Addr).add j) = some u := by
  intro j u hj
  match j, hj with
  | 0, hj => simp at hj; subst hj; simp [Addr.add, go_sem]
  | 1, hj => simp at hj; subst hj; simp [Addr.add, go_sem]
  | 2, hj => simp at hj; subst hj; simp [Addr.add, go_sem]
  | 3, hj => simp at hj; subst hj; simp [Addr.add, go_sem]
theorem fourR6 (a b c d : Int) : ∀ u ∈ [Value.int .u64 a, Value.int .u64 b, Value.int .i64 c, Value.int .i64 d], u.oneCell' = true := by
  intro u hu; simp at hu; rcases hu with rfl | rfl | rfl | rfl <;> rfl
theorem row_rwr6 {W : World} {v : Value} {l : List Rte} (h : Row W 4 v l.length (rowR l)) : RwR W v l := by
  obtain ⟨-, ao, c, e, -, h⟩ := h
  refine ⟨ao, c, e, ?_⟩
  rcases h with ⟨-, -, h⟩ | h
  · exact .inl (List.length_eq_zero_iff.mp h)
  · exact .inr h
theorem own_rwr {W : World} {base : Nat} {v : Value} {l : List Rte} (h : W.ownsRow base 57 4 v l.length (rowR l)) : RwR W v l := row_rwr6 (own_row h)
/-- The routes of one segment. -/
def covS (F : Int) (s : Sg) : List Rte := if s.2 = 0 then [] else (covT F s.1.1 s.1.2).map (fun p => (p, s.2))
def covR (F : Int) : List Sg → List Rte
  | [] => []
  | s :: l => covS F s ++ covR F l
theorem covS_len (F : Int) (s : Sg) : (covS F s).length ≤ 254 := by
  unfold covS
  split
  · simp
  · rw [List.length_map]; exact covT_len _ _ _
theorem covR_app (F : Int) : ∀ l m, covR F (l ++ m) = covR F l ++ covR F m := by
  intro l
  induction l with
  | nil => intro m; rfl
  | cons p l ih => intro m; simp [covR, ih]
theorem covR_len (F : Int) (l : List Sg) : (covR F l).length ≤ 254 * l.length := by
  induction l with
  | nil => simp [covR]
  | cons s l ih =>
    have := covS_len F s
    simp only [covR, List.length_append, List.length_cons]
    omega
theorem covR_take (F : Int) (l : List Sg) (k : Nat) (hk : k < l.length) : covR F (l.take (k + 1)) = covR F (l.take k) ++ covS F l[k] := by
  rw [List.take_add_one, List.getElem?_eq_getElem hk, covR_app]
  simp [covR]
end Go.Proofs.YtddjeplceioenaaDoor
/-
  What lies in one block of memory goes by that block alone.
-/
namespace Go.Proofs.YtddjeplceioenaaDoor
open Go.RowKit
set_option linter.unusedSimpArgs false
set_option linter.unusedVariables false

theorem cellH {W W' : World} {B : Nat} (e : W'.heap[B]? = W.heap[B]?) (o : Nat) : W'.cell? ⟨B, o, none⟩ = W.cell? ⟨B, o, none⟩ := World.cell?_of_block (w := W) (a := ⟨B, o, none⟩) e
theorem frozH {W W' : World} {B : Nat} (e : W'.heap[B]? = W.heap[B]?) (o : Nat) : W'.frozen? ⟨B, o, none⟩ = W.frozen? ⟨B, o, none⟩ := World.frozen?_of_block (w := W) (a := ⟨B, o, none⟩) e
theorem AtG.heap {W W' : World} {B : Nat} {x y : BitVec 128} {h : Int} (k : AtG W B x y h) (e : W'.heap[B]? = W.heap[B]?) : AtG W' B x y h := by
  unfold AtG at *
  simpa only [cellH e, frozH e] using k
theorem At.heap {W W' : World} {B : Nat} {x : BitVec 128} (k : At W B x) (e : W'.heap[B]? = W.heap[B]?) (hs : W.heap.size ≤ W'.heap.size) : At W' B x := by
  unfold At at *
  simp only [cellH e, frozH e]
  exact ⟨k.1, k.2.1, k.2.2.1, k.2.2.2.1, by omega⟩
theorem AtR.heap {W W' : World} {B : Nat} {x : BitVec 128} {n h : Int} (k : AtR W B x n h) (e : W'.heap[B]? = W.heap[B]?) : AtR W' B x n h := by
  unfold AtR at *
  simpa only [cellH e] using k
/-- A table in memory, which may be written. -/
def AtU (W : World) (B : Nat) (F : Int) (v : Value) : Prop := W.cell? ⟨B, 0, none⟩ = some (.int .i64 F) ∧ W.cell? ⟨B, 1, none⟩ = some v ∧ W.frozen? ⟨B, 0, none⟩ = false ∧ W.frozen? ⟨B, 1, none⟩ = false
theorem AtU.heap {W W' : World} {B : Nat} {F : Int} {v : Value} (k : AtU W B F v) (e : W'.heap[B]? = W.heap[B]?) : AtU W' B F v := by
  unfold AtU at *
  simpa only [cellH e, frozH e] using k
theorem AtU.lt {W : World} {B : Nat} {F : Int} {v : Value} (k : AtU W B F v) : B < W.heap.size := cell_in k.1
theorem AtU.set1 {W : World} {B : Nat} {F : Int} {v : Value} (k : AtU W B F v) (u : Value) : AtU (W.setCell ⟨B, 1, none⟩ u) B F u := by
  obtain ⟨a, b, c, d⟩ := k
  refine ⟨?_, ?_, ?_, ?_⟩ <;> simp [go_sem, *]
theorem AtU.set2 {W : World} {B : Nat} {F : Int} {v : Value} (k : AtU W B F v) (G : Int) (u : Value) : AtU ((W.setCell ⟨B, 0, none⟩ (.int .i64 G)).setCell ⟨B, 1, none⟩ u) B G u := by
  obtain ⟨a, b, c, d⟩ := k
  refine ⟨?_, ?_, ?_, ?_⟩ <;> simp [go_sem, *]
theorem atu_new (W : World) (B : Nat) (F : Int) (v : Value) (T : TypeId) (e : B = W.heap.size) : AtU (W.alloc (.cells #[.int .i64 F, v] T)) B F v := by
  subst e
  refine ⟨?_, ?_, ?_, ?_⟩ <;> simp [go_sem]
theorem own_heap {W W' : World} {base e size n : Nat} {v : Value} {xs : List Value} (h : W.ownsRow base e size v n xs) (he : ∀ g, v.ownBlock = some g → W'.heap[g]? = W.heap[g]?) : W'.ownsRow base e size v n xs := by
  refine ⟨h.1, ?_⟩
  rcases h.2 with hn | ⟨g, cap, cur, rfl, hb, hg, rest⟩
  · exact .inl hn
  · exact .inr ⟨g, cap, cur, rfl, hb, by rw [he g rfl]; exact hg, rest⟩
theorem hAl {W : World} (o : Obj) {k : Nat} (h : k < W.heap.size) : (W.alloc o).heap[k]? = W.heap[k]? := Below.heap_alloc W o k h
theorem hSet {W : World} {b o : Nat} (u : Value) {k : Nat} (h : ¬ k = b) : (W.setCell ⟨b, o, none⟩ u).heap[k]? = W.heap[k]? := Below.heap_setCell W ⟨b, o, none⟩ u k h
theorem own_lt {W : World} {base e size n : Nat} {v : Value} {xs : List Value} (h : W.ownsRow base e size v n xs) {g : Nat} (e : v.ownBlock = some g) : base ≤ g ∧ g < W.heap.size := h.lt g e
theorem own_wide {w : World} {base base' e size n : Nat} {v : Value} {xs : List Value} (h : w.ownsRow base e size v n xs) (hb : base' ≤ base) : w.ownsRow base' e size v n xs := by
  refine ⟨h.1, ?_⟩
  rcases h.2 with hn | ⟨g, cap, cur, hv, h1, h2⟩
  · exact .inl hn
  · exact .inr ⟨g, cap, cur, hv, by omega, h2⟩
end Go.Proofs.YtddjeplceioenaaDoor
