/-
  Part 27 of the proof: 7 texts, one behind the other.
-/
import Derived.Test.YtonagfmkplbooaaGreatDoorPart26
import Derived.Test.YtonagfmkplbooaaGreatDoorPart3
import Derived.Test.YtonagfmkplbooaaGreatDoorPart7
import Derived.Test.YtonagfmkplbooaaGreatDoorPart9
import Derived.Test.YtonagfmkplbooaaGreatDoorPart21
/-
  What the call of package ranges' Cover does.
-/
namespace Go.Proofs.YtonagfmkplbooaaGreatDoor
open Go.RowKit
set_option linter.unusedSimpArgs false
set_option linter.unusedVariables false

/-- What Cover tells. -/
def covT (F : Int) (a b : BitVec 128) : List (BitVec 128 × Int) := if covE F a b = 0 then covL F b (b.toNat - a.toNat + 1) a else []
theorem covE_rng (F : Int) (a b : BitVec 128) (h : covE F a b = 0) : Rng F a b := by
  unfold covE at h
  split at h
  · rename_i h1
    split at h
    · rename_i h2
      split at h
      · omega
      · rename_i h3
        rw [cmp_lt0] at h3
        exact ⟨h1, h2, by omega⟩
    · omega
  · omega
theorem covT_len (F : Int) (a b : BitVec 128) : (covT F a b).length ≤ 254 := by
  unfold covT
  split
  · rename_i h
    have r := covE_rng F a b h
    have := cov_len F a b (b.toNat - a.toNat + 1) r (by have := r.2.2; omega)
    obtain ⟨hf, _⟩ := right0 F a r.1
    have := (fam_bd F hf).2
    omega
  · simp
/-- The number that lies in a block of two cells. -/
def natAt (w : World) (B : Nat) : Nat := (intOf (cv w B 0)).toNat * 18446744073709551616 + (intOf (cv w B 1)).toNat
theorem natAt_of {w : World} {B : Nat} {x : BitVec 128} (h : At w B x) : natAt w B = x.toNat := by
  unfold natAt cv
  rw [h.1, h.2.1]
  have := x.isLt
  simp only [Option.getD_some, intOf]
  rw [hIN, lIN]
  omega
theorem own_base {w : World} {base base' e size n : Nat} {v : Value} {xs : List Value} (h : w.ownsRow base e size v n xs) (hb : base' ≤ base) : w.ownsRow base' e size v n xs := by
  refine ⟨h.1, ?_⟩
  rcases h.2 with hn | ⟨g, cap, cur, hv, h1, h2⟩
  · exact .inl hn
  · exact .inr ⟨g, cap, cur, hv, by omega, h2⟩
theorem own_set {w : World} {base e size n : Nat} {v : Value} {xs : List Value} (h : w.ownsRow base e size v n xs) (p : Addr) (u : Value) (hn : v.ownBlock ≠ some p.block) : (w.setCell p u).ownsRow base e size v n xs := by
  refine ⟨h.1, ?_⟩
  rcases h.2 with hn | ⟨g, cap, cur, rfl, hb, hgg, rest⟩
  · exact .inl hn
  · refine .inr ⟨g, cap, cur, rfl, hb, ?_, rest⟩
    rw [← hgg]
    simp only [Value.ownBlock] at hn
    exact Below.heap_setCell w p u g (fun e => hn (by rw [e]))
theorem len_le (T pre l : List (BitVec 128 × Int)) (h : T = pre ++ l) (hl : T.length ≤ 254) : pre.length + l.length ≤ 254 := by
  rw [h, List.length_append] at hl; exact hl
set_option maxRecDepth 20000 in
set_option maxHeartbeats 4000000 in
theorem cover_yes (F : Int) (a b : BitVec 128) (T : List (BitVec 128 × Int)) (k0 : Nat) (HC : T = covL F b (k0 + 1) a) (hk0 : b.toNat < a.toNat + (k0 + 1)) (HR : Rng F a b) (HL : T.length ≤ 254) (w : World) (hT : Tab w)
    (KC : ∀ w, Calls Tryz.prog 67 #[.int .i64 F, .agg #[.int .u64 (hI a), .int .u64 (lI a)], .agg #[.int .u64 (hI b), .int .u64 (lI b)]] w fun e w' => e = .returned (.int .i64 0) ∧ Below w.heap.size w w') :
    Calls Tryz.prog 40 #[.int .i64 F, .agg #[.int .u64 (hI a), .int .u64 (lI a)], .agg #[.int .u64 (hI b), .int .u64 (lI b)]] w fun e w' => (∃ v, e = .returned (.tuple #[v, .int .i64 0]) ∧ w'.ownsRow w.heap.size 29 3 v T.length (rowP T)) ∧ Below w.heap.size w w' := by
  obtain ⟨i0, hi, hz0, hz1, hz2⟩ := info_parts Tryz.infoP
  have HC : Hid (T = covL F b (k0 + 1) a) := HC
  have hk0 : Hid (b.toNat < a.toNat + (k0 + 1)) := hk0
  have HR : Hid (Rng F a b) := HR
  have HL : Hid (T.length ≤ 254) := HL
  have L0 : ∀ (o p : Obj), Below w.heap.size w ((w.alloc o).alloc p) := fun o p => bl2 w o p
  go_enter Tryz.func40, Tryz.ntmps40
  have hA : At ((w.alloc (.cells #[.int .u64 (hI a), .int .u64 (lI a)] 27)).alloc (.cells #[.int .u64 (hI b), .int .u64 (lI b)] 27)) w.heap.size a := (at_new w w.heap.size a 27 rfl).al _
  have hB : At ((w.alloc (.cells #[.int .u64 (hI a), .int .u64 (lI a)] 27)).alloc (.cells #[.int .u64 (hI b), .int .u64 (lI b)] 27)) (w.heap.size + 1) b := at_new _ (w.heap.size + 1) b 27 (by simp)
  go_wp2_with fail
  refine (KC _).mono ?_
  rintro e w1 ⟨rfl, hb1⟩
  have hA := hA.below hb1
  have hB := hB.below hb1
  have kB := keepb hb1 (L0 _ _)
  clear hb1 KC L0
  go_wp2_with fail
  go_loopw [9] (fun l wr => ∃ (pre : List (BitVec 128 × Int)) (k : Nat) (c : BitVec 128), Hid (T = pre ++ covL F b (k + 1) c) ∧ Hid (b.toNat < c.toNat + (k + 1)) ∧ Hid (Rng F c b) ∧ wr.ownsRow (w.heap.size + 2) 29 3 l pre.length (rowP pre) ∧ At wr w.heap.size c ∧ At wr (w.heap.size + 1) b ∧ Below w.heap.size w wr)
    (fun _ wr => b.toNat + 1 - natAt wr w.heap.size)
  case atStart => exact ⟨[], k0, a, HC, hk0, HR, World.ownsRow_nil _ _ _ _, hA, hB, kB⟩
  case round =>
    clear hA hB kB HC hk0 HR
    obtain ⟨pre, k, c, hT1, hk, hr, hown, hA, hB, kB⟩ := hrel
    obtain ⟨a0, a1, -, -, -⟩ := id hA
    obtain ⟨b0, b1, -, -, -⟩ := id hB
    have hAr : At wr w.heap.size c := hA
    have KW := widest_any F c b wr (hT.keep kB)
    have KL := fun w => plast_any F c (widN F c b) w
    have KN := fun w => anext_any F (lastW F c (widN F c b)) w
    have hE := fun w => eqW_run (lastW F c (widN F c b)) b w
    have HW : Hid (∀ q, (lastW F c (widN F c b) == b) = q → (q = true → covL F b (k + 1) c = [(c, widN F c b)]) ∧ (q = false → covL F b (k + 1) c = (c, widN F c b) :: covL F b k (nextV F (lastW F c (widN F c b))) ∧ Rng F (nextV F (lastW F c (widN F c b))) b ∧ c.toNat < (nextV F (lastW F c (widN F c b))).toNat)) := by
      intro q hq
      constructor
      · rintro rfl
        exact cov_end F b k c (by simpa using hq)
      · rintro rfl
        have hn : ¬ lastW F c (widN F c b) = b := by simpa using hq
        obtain ⟨n1, n2, n3⟩ := rng_next F c b hr.out hn
        exact ⟨cov_on F b k c hn, n2, by have := Nat.two_pow_pos (128 - (widN F c b).toNat); omega⟩
    have hlen : Hid (pre.length + 1 ≤ 254) := by
      show _ ≤ _
      have := len_le T pre _ hT1.out HL.out
      simp only [covL, List.length_cons] at this
      omega
    revert KW KL KN hE HW
    generalize nextV F (lastW F c (widN F c b)) = nx
    generalize nextB F (lastW F c (widN F c b)) = nb
    generalize lastW F c (widN F c b) = la
    generalize widN F c b = n
    intro KW KL KN hE HW
    have h63 : pre.length + 1 ≤ maxLen := by have := hlen.out; unfold maxLen; omega
    have h47 : (pre.length + 1) * 24 ≤ 140737488355328 := by have := hlen.out; omega
    go_wp2_with fail
    refine KW.mono ?_
    rintro e w2 ⟨rfl, hb2⟩
    clear KW a0 a1 b0 b1
    have hA2 := (hA.below hb2).al (.cells #[.int .u64 (hI c), .int .u64 (lI c), .int .i64 n] 29)
    have hB2 := (hB.below hb2).al (.cells #[.int .u64 (hI c), .int .u64 (lI c), .int .i64 n] 29)
    have hP2 := atp_new w2 w2.heap.size c n 29 rfl
    have kB2 := keepb hb2 kB
    have kB3 := kB2.alloc kB2.size (.cells #[.int .u64 (hI c), .int .u64 (lI c), .int .i64 n] 29)
    have hown2 := own_below hb2 hown
    have hs2 : w.heap.size + 2 ≤ w2.heap.size := by have := (hB.below hb2).2.2.2.2; omega
    have hgap : some w2.heap.size ≠ u9.ownBlock := by
      intro e
      have := (hown2.lt _ e.symm).2
      omega
    clear hown hA hB kB hb2
    obtain ⟨p0, p1, p2, -, -, -⟩ := id hP2
    go_wp2_with (first | (
          at_builtin
          refine wpList_append_lies _ rfl _ _ 76 rfl (w.heap.size + 2) 29 i0 (.agg #[.int .u64 0, .int .u64 0, .int .i64 0]) 3 24 Tryz.underlying76 hi hz0 hz1 hz2 rfl (by decide) _ _ _ rfl ((hown2.alloc _).alloc _) ⟨w2.heap.size + 1, 0, none⟩ 1 1 [.int .u64 (hI c), .int .u64 (lI c), .int .i64 n] rfl rfl (by simpa using newsP (w2.alloc (.cells #[.int .u64 (hI c), .int .u64 (lI c), .int .i64 n] 29)) (.int .u64 (hI c)) (.int .u64 (lI c)) (.int .i64 n) 29) (threeP _ _ _) (by decide) h63 h47 (by simp; omega) _ rfl ?_
          intro g4 cap4 w4 hown4 hgrow hat hlt4
          have hne0 : some w.heap.size ≠ u9.ownBlock := fun e => by have := (hown2.lt _ e.symm).1; omega
          have hne1 : some (w.heap.size + 1) ≠ u9.ownBlock := fun e => by have := (hown2.lt _ e.symm).1; omega
          have hA4 := (hA2.al _).app hgrow hne0
          have hB4 := (hB2.al _).app hgrow hne1
          have hP4 := (hP2.al _).app hgrow hgap
          have kB4 : Below w.heap.size w w4 := (kB3.alloc kB3.size _).grown hgrow (kB3.alloc kB3.size _).size (fun q hq => by have := (hown2.lt q hq).1; omega)
          have hrow4 : Hid (w4.ownsRow (w.heap.size + 2) 29 3 (.slice (some ⟨g4, 0, none⟩) (pre.length + 1) cap4) (pre ++ [(c, n)]).length (rowP (pre ++ [(c, n)]))) := by
            show World.ownsRow _ _ _ _ _ _ _
            rw [rowP_one, List.length_append]
            exact hown4
          clear hgrow hat hown4 hown2 hA2 hB2 hP2 kB2 kB3 hgap hne0 hne1 hs2 p0 p1 p2 hlt4 h63 h47 hi hz0 hz1 hz2
          obtain ⟨p0, p1, p2, -, -, -⟩ := id hP4))
    refine (KL _).mono ?_
    rintro e w5 ⟨rfl, hb5⟩
    have hA5 := (hA4.below hb5).al (.cells #[.int .u64 (hI la), .int .u64 (lI la)] 27)
    have hB5 := (hB4.below hb5).al (.cells #[.int .u64 (hI la), .int .u64 (lI la)] 27)
    have hL5 := at_new w5 w5.heap.size la 27 rfl
    have kB5 := keepb hb5 kB4
    have kB5 := kB5.alloc kB5.size (.cells #[.int .u64 (hI la), .int .u64 (lI la)] 27)
    have hrow5 : Hid (World.ownsRow _ _ _ _ _ _ _) := (own_below hb5 hrow4.out).alloc (.cells #[.int .u64 (hI la), .int .u64 (lI la)] 27)
    clear hA4 hB4 hP4 kB4 hrow4 hb5 p0 p1 p2 KL
    obtain ⟨b0, b1, -, -, -⟩ := id hB5
    obtain ⟨l0, l1, -, -, -⟩ := id hL5
    cases hq : (la == b)
    · rw [hq] at hE
      go_wp2_with fail
      refine (KN _).mono ?_
      rintro e w6 ⟨rfl, hb6⟩
      have hA6 := hA5.below hb6
      have hB6 := hB5.below hb6
      have kB6 := keepb hb6 kB5
      have hrow6 : Hid (World.ownsRow _ _ _ _ _ _ _) := own_below hb6 hrow5.out
      clear hA5 hB5 hL5 kB5 hrow5 hb6 KN b0 b1 l0 l1 hE
      obtain ⟨a0, a1, a2, a3, -⟩ := id hA6
      go_wp2
      go_roundw
      case rel =>
        obtain ⟨m1, m2, m3⟩ := (HW.out false hq).2 rfl
        cases k with
        | zero => exact absurd m2.2.2 (by have := hk.out; omega)
        | succ k =>
          refine ⟨pre ++ [(c, n)], k, nx, ?_, ?_, m2, own_set (own_set hrow6.out ⟨w.heap.size, 0, none⟩ _ ?_) ⟨w.heap.size, 1, none⟩ _ ?_, hA6.set nx, hB6.other _ _ (by omega), bset2 kB6 (Nat.le_refl _) _ _⟩
          · show T = _
            rw [hT1.out, m1, List.append_assoc]; rfl
          · show b.toNat < nx.toNat + (k + 1)
            have := hk.out; omega
          · intro e
            have := (hrow6.out.lt _ e).1
            simp only at this
            omega
          · intro e
            have := (hrow6.out.lt _ e).1
            simp only at this
            omega
      case measure =>
        obtain ⟨m1, m2, m3⟩ := (HW.out false hq).2 rfl
        rw [natAt_of (hA6.set nx), natAt_of hAr]
        have := m2.2.2
        omega
    · rw [hq] at hE
      go_wp2
      refine bodyPost_ret (v := .tuple #[.slice (some ⟨g4, 0, none⟩) (pre.length + 1) cap4, .int .i64 0]) (by simp [results, Tryz.results40, go_sem, *]) rfl ⟨⟨_, rfl, ?_⟩, kB5⟩
      have e : T = pre ++ [(c, n)] := by rw [hT1.out, (HW.out true hq).1 rfl]
      rw [e]
      exact own_base hrow5.out (by omega)
theorem cover_any (F : Int) (a b : BitVec 128) (w : World) (hT : Tab w) :
    Calls Tryz.prog 40 #[.int .i64 F, .agg #[.int .u64 (hI a), .int .u64 (lI a)], .agg #[.int .u64 (hI b), .int .u64 (lI b)]] w fun e w' => (∃ v, e = .returned (.tuple #[v, .int .i64 (covE F a b)]) ∧ w'.ownsRow w.heap.size 29 3 v (covT F a b).length (rowP (covT F a b))) ∧ Below w.heap.size w w' := by
  have KC := fun w => checkRange_any F a b w
  by_cases he : covE F a b = 0
  · have hr := covE_rng F a b he
    have hct : covT F a b = covL F b (b.toNat - a.toNat + 1) a := by unfold covT; rw [if_pos he]
    rw [he] at KC ⊢
    exact cover_yes F a b _ (b.toNat - a.toNat) hct (by have := hr.2.2; omega) hr (covT_len F a b) w hT KC
  · have ht : covT F a b = [] := by unfold covT; rw [if_neg he]
    rw [ht]
    revert he KC
    generalize covE F a b = r
    intro KC he
    have hn : (r != 0) = true := by simp [he]
    have L0 : ∀ (o p : Obj), Below w.heap.size w ((w.alloc o).alloc p) := fun o p => bl2 w o p
    go_enter Tryz.func40, Tryz.ntmps40
    go_wp2_with fail
    refine (KC _).mono ?_
    rintro e w1 ⟨rfl, hb1⟩
    have kB := keepb hb1 (L0 _ _)
    clear hb1 KC L0
    go_wp2
    exact bodyPost_ret (v := .tuple #[.slice none 0 0, .int .i64 r]) (by simp [results, Tryz.results40, go_sem, *]) rfl ⟨⟨_, rfl, World.ownsRow_nil _ _ _ _⟩, kB⟩
end Go.Proofs.YtonagfmkplbooaaGreatDoor
/-
  The routes of a list of segments, as a plain function; rows of routes of one's own.
-/
namespace Go.Proofs.YtonagfmkplbooaaGreatDoor
open Go.RowKit
set_option linter.unusedSimpArgs false
set_option linter.unusedVariables false

theorem Tryz.infoR6 : (Tryz.prog.info? 45).map (fun i => (i.zero, i.size, i.bytes)) = some (some (.agg #[.int .u64 0, .int .u64 0, .int .i64 0, .int .i64 0]), 4, 32) := by kernel_rfl
theorem rowR_app : ∀ l m, rowR (l ++ m) = rowR l ++ rowR m := by
  intro l
  induction l with
  | nil => intro m; rfl
  | cons p l ih => intro m; simp [rowR, ih]
theorem rowR_one (l : List Rte) (x : BitVec 128) (n h : Int) : rowR (l ++ [((x, n), h)]) = rowR l ++ [.int .u64 (hI x), .int .u64 (lI x), .int .i64 n, .int .i64 h] := by rw [rowR_app]; rfl
theorem rowR_len6 (l : List Rte) : (rowR l).length = l.length * 4 := by
  induction l with
  | nil => rfl
  | cons r l ih => simp [rowR, ih]; omega
theorem rowR_cell (l : List Rte) : ∀ u ∈ rowR l, u.oneCell' = true := by
  induction l with
  | nil => intro u hu; cases hu
  | cons p l ih =>
    intro u hu
    simp only [rowR, List.mem_cons] at hu
    rcases hu with rfl | rfl | rfl | rfl | hu
    all_goals first | rfl | exact ih u hu
theorem ownR_cells {W : World} {base n g c : Nat} {l : List Rte} (h : W.ownsRow base 45 4 (.slice (some ⟨g, 0, none⟩) n c) n (rowR l)) (j : Nat) (hj : j < l.length) :
    W.cell? ⟨g, j * 4, none⟩ = some (.int .u64 (hI l[j].1.1)) ∧ W.cell? ⟨g, j * 4 + 1, none⟩ = some (.int .u64 (lI l[j].1.1)) ∧ W.cell? ⟨g, j * 4 + 2, none⟩ = some (.int .i64 l[j].1.2) ∧ W.cell? ⟨g, j * 4 + 3, none⟩ = some (.int .i64 l[j].2) := by
  obtain ⟨a0, a1, a2, a3⟩ := rowR_get l j hj
  have f := fun k u => h.cells (g := g) rfl k u
  exact ⟨by have := f _ _ a0; rwa [addA, Nat.zero_add] at this, by have := f _ _ a1; rwa [addA, Nat.zero_add] at this, by have := f _ _ a2; rwa [addA, Nat.zero_add] at this, by have := f _ _ a3; rwa [addA, Nat.zero_add] at this⟩
theorem newsR (W : World) (a b c d : Value) (t : TypeId) : ∀ j u, [a, b, c, d][j]? = some u → (W.alloc (.cells #[a, b, c, d] t)).cell? ((⟨W.heap.size, 0, none⟩ : Addr).add j) = some u := by
  intro j u hj
  match j, hj with
  | 0, hj => simp at hj; subst hj; simp [Addr.add, go_sem]
  | 1, hj => simp at hj; subst hj; simp [Addr.add, go_sem]
  | 2, hj => simp at hj; subst hj; simp [Addr.add, go_sem]
  | 3, hj => simp at hj; subst hj; simp [Addr.add, go_sem]
theorem fourR6 (a b c d : Int) : ∀ u ∈ [Value.int .u64 a, Value.int .u64 b, Value.int .i64 c, Value.int .i64 d], u.oneCell' = true := by
  intro u hu; simp at hu; rcases hu with rfl | rfl | rfl | rfl <;> rfl
theorem row_rwr6 {W : World} {v : Value} {l : List Rte} (h : Row W 4 v l.length (rowR l)) : RwR W v l := by
  obtain ⟨-, ao, c, e, -, h⟩ := h
  refine ⟨ao, c, e, ?_⟩
  rcases h with ⟨-, -, h⟩ | h
  · exact .inl (List.length_eq_zero_iff.mp h)
  · exact .inr h
theorem own_rwr {W : World} {base : Nat} {v : Value} {l : List Rte} (h : W.ownsRow base 45 4 v l.length (rowR l)) : RwR W v l := row_rwr6 (own_row h)
/-- The routes of one segment. -/
def covS (F : Int) (s : Sg) : List Rte := if s.2 = 0 then [] else (covT F s.1.1 s.1.2).map (fun p => (p, s.2))
def covR (F : Int) : List Sg → List Rte
  | [] => []
  | s :: l => covS F s ++ covR F l
theorem covS_len (F : Int) (s : Sg) : (covS F s).length ≤ 254 := by
  unfold covS
  split
  · simp
  · rw [List.length_map]; exact covT_len _ _ _
theorem covR_app (F : Int) : ∀ l m, covR F (l ++ m) = covR F l ++ covR F m := by
  intro l
  induction l with
  | nil => intro m; rfl
  | cons p l ih => intro m; simp [covR, ih]
theorem covR_len (F : Int) (l : List Sg) : (covR F l).length ≤ 254 * l.length := by
  induction l with
  | nil => simp [covR]
  | cons s l ih =>
    have := covS_len F s
    simp only [covR, List.length_append, List.length_cons]
    omega
theorem covR_take (F : Int) (l : List Sg) (k : Nat) (hk : k < l.length) : covR F (l.take (k + 1)) = covR F (l.take k) ++ covS F l[k] := by
  rw [List.take_add_one, List.getElem?_eq_getElem hk, covR_app]
  simp [covR]
end Go.Proofs.YtonagfmkplbooaaGreatDoor
/-
  What the call of package algebra's covered does.
-/
namespace Go.Proofs.YtonagfmkplbooaaGreatDoor
open Go.RowKit
set_option linter.unusedSimpArgs false
set_option linter.unusedVariables false

/-- What is known while a segment's routes are laid behind the others. -/
structure CvI (w : World) (F : Int) (S0 : Nat) (x y : BitVec 128) (h : Int) (cv : Value) (T : List (BitVec 128 × Int)) (L : List Rte) (dv : Value) (W : World) : Prop where
  t : AtU W (w.heap.size + 1) F dv
  r : AtU W w.heap.size 0 (.slice none 0 0)
  s : AtG W S0 x y h
  own : W.ownsRow (w.heap.size + 2) 45 4 dv L.length (rowR L)
  cov : W.ownsRow (S0 + 1) 29 3 cv T.length (rowP T)
  ne1 : dv.ownBlock ≠ some S0
  ne2 : ∀ z, cv.ownBlock = some z → dv.ownBlock ≠ some z
  bel : Below w.heap.size w W
  s0 : w.heap.size + 2 ≤ S0
theorem CvI.step {w : World} {F : Int} {S0 : Nat} {x y : BitVec 128} {h : Int} {cv : Value} {T : List (BitVec 128 × Int)} {L : List Rte} {dv : Value} {W w4 : World} (k : CvI w F S0 x y h cv T L dv W) (o1 o2 : Obj) (px : BitVec 128) (pn : Int) (g cap : Nat)
    (hown : w4.ownsRow (w.heap.size + 2) 45 4 (.slice (some ⟨g, 0, none⟩) (L.length + 1) cap) (L.length + 1) (rowR L ++ [.int .u64 (hI px), .int .u64 (lI px), .int .i64 pn, .int .i64 h])) (hg : ((W.alloc o1).alloc o2).grownBy w4 dv.ownBlock) (hat : dv.ownBlock = some g ∨ g = ((W.alloc o1).alloc o2).heap.size) :
    CvI w F S0 x y h cv T (L ++ [((px, pn), h)]) (.slice (some ⟨g, 0, none⟩) (L.length + 1) cap) (w4.setCell ⟨w.heap.size + 1, 1, none⟩ (.slice (some ⟨g, 0, none⟩) (L.length + 1) cap)) := by
  have hz : ((W.alloc o1).alloc o2).heap.size = W.heap.size + 2 := by simp
  have hT := k.t.lt
  have hS := k.s.lt
  have hR := k.r.lt
  have ob : ∀ z, dv.ownBlock = some z → w.heap.size + 2 ≤ z ∧ z < W.heap.size := fun z e => k.own.lt z e
  have he : ∀ z, z < W.heap.size → dv.ownBlock ≠ some z → w4.heap[z]? = W.heap[z]? := by
    intro z h1 h2
    rw [hg.block z (by omega) (fun e => h2 e.symm), hAl _ (by simp; omega), hAl _ h1]
  have hT' : w4.heap[w.heap.size + 1]? = W.heap[w.heap.size + 1]? := he _ hT (fun e => by have := (ob _ e).1; omega)
  have gne : ∀ z, z < W.heap.size → dv.ownBlock ≠ some z → g ≠ z := by
    intro z h1 h2 e
    rcases hat with q | q
    · exact h2 (by rw [q, e])
    · omega
  have gT : g ≠ w.heap.size + 1 := gne _ hT (fun e => by have := (ob _ e).1; omega)
  refine ⟨(k.t.heap hT').set1 _, ?_, ?_, ?_, ?_, ?_, ?_, ?_, k.s0⟩
  · exact k.r.heap (by rw [hSet _ (by omega), he _ hR (fun e => by have := (ob _ e).1; omega)])
  · exact k.s.heap (by rw [hSet _ (by have := k.s0; omega), he _ hS k.ne1])
  · rw [show (L ++ [((px, pn), h)]).length = L.length + 1 by simp, rowR_one]
    refine own_heap hown (fun z e => ?_)
    have : z = g := by simpa [Value.ownBlock] using e.symm
    rw [this, hSet _ gT]
  · refine own_heap k.cov (fun z e => ?_)
    have hz' := k.cov.lt z e
    rw [hSet _ (by have := k.s0; omega), he z hz'.2 (k.ne2 z e)]
  · intro e
    have : g = S0 := by simpa [Value.ownBlock] using e
    exact gne S0 hS k.ne1 this
  · intro z e e2
    have hz' := k.cov.lt z e
    have : g = z := by simpa [Value.ownBlock] using e2
    exact gne z hz'.2 (k.ne2 z e) this
  · refine Below.setCell ?_ (by simp) _
    exact ((k.bel.alloc k.bel.size o1).alloc (by simp; have := k.bel.size; omega) o2).grown hg (by have := k.bel.size; omega) (fun z e => by have := (ob z e).1; omega)
def okL (F : Int) (l : List Sg) : Bool := decide ((covR F l).length ≤ 1048576)
/-- The routes of the table of some segments. -/
def tabL (F : Int) (l : List Sg) : List Rte := if okL F l = true then covR F l else []
/-- The family, the error of the table of some segments. -/
def tabW (F : Int) (l : List Sg) : Int := if okL F l = true then F else 0
def tabX (F : Int) (l : List Sg) : Int := if okL F l = true then 0 else 16
theorem tab_yes {F : Int} {l : List Sg} (h : okL F l = true) : tabW F l = F ∧ tabX F l = 0 ∧ tabL F l = covR F l := by
  unfold tabW tabX tabL
  rw [if_pos h, if_pos h, if_pos h]
  exact ⟨rfl, rfl, rfl⟩
theorem tab_no {F : Int} {l : List Sg} (h : okL F l = false) : tabW F l = 0 ∧ tabX F l = 16 ∧ tabL F l = [] := by
  have h : ¬ okL F l = true := by rw [h]; decide
  unfold tabW tabX tabL
  rw [if_neg h, if_neg h, if_neg h]
  exact ⟨rfl, rfl, rfl⟩
theorem rowP_get6 : ∀ (l : List (BitVec 128 × Int)) (j : Nat) (hj : j < l.length), (rowP l)[j * 3]? = some (.int .u64 (hI l[j].1)) ∧ (rowP l)[j * 3 + 1]? = some (.int .u64 (lI l[j].1)) ∧ (rowP l)[j * 3 + 2]? = some (.int .i64 l[j].2) := by
  intro l
  induction l with
  | nil => intro j hj; simp at hj
  | cons p l ih =>
    intro j hj
    cases j with
    | zero => simp [rowP]
    | succ j =>
      have := ih j (by simpa using hj)
      rw [show (j + 1) * 3 = j * 3 + 3 by omega, show j * 3 + 3 + 1 = j * 3 + 1 + 3 by omega, show j * 3 + 3 + 2 = j * 3 + 2 + 3 by omega]
      simpa [rowP] using this
theorem rowP_cells6 {W : World} {base g cap : Nat} {T : List (BitVec 128 × Int)} (h : W.ownsRow base 29 3 (.slice (some ⟨g, 0, none⟩) T.length cap) T.length (rowP T)) (j : Nat) (hj : j < T.length) :
    W.cell? ⟨g, j * 3, none⟩ = some (.int .u64 (hI T[j].1)) ∧ W.cell? ⟨g, j * 3 + 1, none⟩ = some (.int .u64 (lI T[j].1)) ∧ W.cell? ⟨g, j * 3 + 2, none⟩ = some (.int .i64 T[j].2) := by
  obtain ⟨a0, a1, a2⟩ := rowP_get6 T j hj
  have f := fun k u => h.cells (g := g) rfl k u
  exact ⟨by have := f _ _ a0; rwa [addA, Nat.zero_add] at this, by have := f _ _ a1; rwa [addA, Nat.zero_add] at this, by have := f _ _ a2; rwa [addA, Nat.zero_add] at this⟩
theorem cov_part (F : Int) (l : List Sg) (k : Nat) (hk : k < l.length) (h0 : ¬ l[k].2 = 0) : covR F (l.take (k + 1)) = covR F (l.take k) ++ ((covT F l[k].1.1 l[k].1.2).take (covT F l[k].1.1 l[k].1.2).length).map (fun p => (p, l[k].2)) := by
  rw [covR_take F l k hk, covS, if_neg h0, List.take_length]
theorem cov_zero (F : Int) (l : List Sg) (k : Nat) (hk : k < l.length) (h0 : l[k].2 = 0) : covR F (l.take (k + 1)) = covR F (l.take k) := by
  rw [covR_take F l k hk, covS, if_pos h0, List.append_nil]
theorem cov_sub (F : Int) (l : List Sg) (k : Nat) : (covR F (l.take k)).length ≤ (covR F l).length := by
  have : covR F l = covR F (l.take k) ++ covR F (l.drop k) := by rw [← covR_app, List.take_append_drop]
  rw [this, List.length_append]; omega
theorem CvI.mid {w : World} {F : Int} {S0 : Nat} {x y : BitVec 128} {h : Int} {cv : Value} {T : List (BitVec 128 × Int)} {L : List Rte} {dv : Value} {W w4 : World} (k : CvI w F S0 x y h cv T L dv W) (o1 o2 : Obj) (hg : ((W.alloc o1).alloc o2).grownBy w4 dv.ownBlock) : AtU w4 (w.heap.size + 1) F dv := by
  have hT := k.t.lt
  refine k.t.heap ?_
  rw [hg.block _ (by simp; omega) (fun e => by have := (k.own.lt _ e.symm).1; omega), hAl _ (by simp; omega), hAl _ hT]
theorem CvI.start {w : World} {F : Int} {x y : BitVec 128} {h : Int} {cv : Value} {T : List (BitVec 128 × Int)} {L : List Rte} {dv : Value} {wr w2 : World} (kT : AtU wr (w.heap.size + 1) F dv) (kR : AtU wr w.heap.size 0 (.slice none 0 0)) (hown : wr.ownsRow (w.heap.size + 2) 45 4 dv L.length (rowR L)) (kB : Below w.heap.size w wr)
    (hb : Below (wr.alloc (.cells #[.int .u64 (hI x), .int .u64 (lI x), .int .u64 (hI y), .int .u64 (lI y), .int .i64 h] 47)).heap.size (wr.alloc (.cells #[.int .u64 (hI x), .int .u64 (lI x), .int .u64 (hI y), .int .u64 (lI y), .int .i64 h] 47)) w2)
    (hcov : w2.ownsRow (wr.alloc (.cells #[.int .u64 (hI x), .int .u64 (lI x), .int .u64 (hI y), .int .u64 (lI y), .int .i64 h] 47)).heap.size 29 3 cv T.length (rowP T)) : CvI w F wr.heap.size x y h cv T L dv w2 := by
  have hz : (wr.alloc (.cells #[.int .u64 (hI x), .int .u64 (lI x), .int .u64 (hI y), .int .u64 (lI y), .int .i64 h] 47)).heap.size = wr.heap.size + 1 := by simp
  have he : ∀ z, z < wr.heap.size → w2.heap[z]? = wr.heap[z]? := fun z hz' => by rw [hb.block z (by omega), hAl _ hz']
  have hT := kT.lt
  have hR := kR.lt
  rw [hz] at hcov
  refine ⟨kT.heap (he _ hT), kR.heap (he _ hR), (atg_new wr wr.heap.size x y h 47 rfl).below hb, own_heap hown (fun g e => he g (hown.lt g e).2), hcov, fun e => by have := (hown.lt _ e).2; omega, fun z e e2 => ?_, keepb hb (kB.alloc kB.size _), by omega⟩
  have := (hown.lt _ e2).2
  have := (hcov.lt z e).1
  omega
theorem newsB (W : World) (B : Nat) (hB : B = W.heap.size) (a b c d : Value) (t : TypeId) : ∀ j u, [a, b, c, d][j]? = some u → (W.alloc (.cells #[a, b, c, d] t)).cell? ((⟨B, 0, none⟩ : Addr).add j) = some u := by
  subst hB
  intro j u hj
  match j, hj with
  | 0, hj => simp at hj; subst hj; simp [Addr.add, go_sem]
  | 1, hj => simp at hj; subst hj; simp [Addr.add, go_sem]
  | 2, hj => simp at hj; subst hj; simp [Addr.add, go_sem]
  | 3, hj => simp at hj; subst hj; simp [Addr.add, go_sem]
theorem cov_app (T : List (BitVec 128 × Int)) (L : List Rte) (h : Int) (j : Nat) (hj : j < T.length) : L ++ (T.take (j + 1)).map (fun p => (p, h)) = (L ++ (T.take j).map (fun p => (p, h))) ++ [((T[j].1, T[j].2), h)] := by
  rw [List.take_add_one, List.getElem?_eq_getElem hj, List.map_append, ← List.append_assoc]
  rfl
theorem cov_size (T : List (BitVec 128 × Int)) (L : List Rte) (h : Int) (j : Nat) : (L ++ (T.take j).map (fun p => (p, h))).length ≤ L.length + T.length := by
  simp; omega
set_option maxRecDepth 20000 in
set_option maxHeartbeats 8000000 in
theorem covered_any (F : Int) (v : Value) (l : List Sg) (w : World) (hT : Tab w) (hv : RwG w v l) (hll : l.length ≤ 1000000000) :
    Calls Tryz.prog 20 #[.int .i64 F, v] w fun e w' => (∃ v', e = .returned (.tuple #[.agg #[.int .i64 (tabW F l), v'], .int .i64 (tabX F l)]) ∧ w'.ownsRow w.heap.size 45 4 v' (tabL F l).length (rowR (tabL F l))) ∧ Below w.heap.size w w' := by
  obtain ⟨i0, hi, hz0, hz1, hz2⟩ := info_parts Tryz.infoR6
  obtain ⟨ao, c, rfl, hv⟩ := hv
  have HV := hidR hv
  have HT := hidR hT
  clear hv hT
  have kR := atu_new w w.heap.size 0 (.slice none 0 0) 24 rfl
  have kT := hidR (atu_new (w.alloc (.cells #[.int .i64 0, .slice none 0 0] 24)) (w.heap.size + 1) F (.slice none 0 0) 24 (by simp))
  have kR := hidR (kR.heap (hAl (W := w.alloc (.cells #[.int .i64 0, .slice none 0 0] 24)) (.cells #[.int .i64 F, .slice none 0 0] 24) kR.lt))
  have kB := hidR (bl2 w (.cells #[.int .i64 0, .slice none 0 0] 24) (.cells #[.int .i64 F, .slice none 0 0] 24))
  go_enter Tryz.func20, Tryz.ntmps20
  go_wp2_with fail
  go_loopw [17] (fun i wr => ∃ (k : Nat) (dv : Value), k ≤ l.length ∧ i = .int .i64 k ∧ Hid (AtU wr (w.heap.size + 1) F dv) ∧ Hid (AtU wr w.heap.size 0 (.slice none 0 0)) ∧ Hid (wr.ownsRow (w.heap.size + 2) 45 4 dv (covR F (l.take k)).length (rowR (covR F (l.take k)))) ∧ Hid ((covR F (l.take k)).length ≤ 1048576) ∧ Hid (Below w.heap.size w wr)) (fun i _ => l.length - (intOf i).toNat)
  case atStart => exact ⟨0, .slice none 0 0, by omega, rfl, kT, kR, hidR (World.ownsRow_nil _ _ _ _), hidR (by simp [covR]), kB⟩
  case round =>
    clear kT kR kB
    obtain ⟨k, dv, hk, rfl, kT, kR, hown, hsz, kB⟩ := hrel
    by_cases hlt : (k : Int) < (l.length : Int)
    · have hks : k < l.length := by omega
      rcases HV.out with h | ⟨b, off, rfl, hc⟩
      · rw [h] at hks; simp at hks
      · obtain ⟨x0, x1, x2, x3, x4⟩ := rwg_cells hc k hks
        have x0 := keepc kB.out x0
        have x1 := keepc kB.out x1
        have x2 := keepc kB.out x2
        have x3 := keepc kB.out x3
        have x4 := keepc kB.out x4
        have hz := hidR (cov_zero F l k hks)
        have hp := hidR (cov_part F l k hks)
        have hq : Hid (l[k].2 = 0 ∨ (covR F (l.take k)).length + (covT F l[k].1.1 l[k].1.2).length ≤ (covR F l).length) := hidR (by
          by_cases e : l[k].2 = 0
          · exact .inl e
          · right
            have h1 := cov_sub F l (k + 1)
            rw [cov_part F l k hks e] at h1
            simpa using h1)
        have KC := cover_any F l[k].1.1 l[k].1.2 (wr.alloc (.cells #[.int .u64 (hI l[k].1.1), .int .u64 (lI l[k].1.1), .int .u64 (hI l[k].1.2), .int .u64 (lI l[k].1.2), .int .i64 l[k].2] 47)) (HT.out.keep (kB.out.alloc kB.out.size _))
        have hTl := covT_len F l[k].1.1 l[k].1.2
        clear hc HV
        revert hz hp hq KC hTl
        generalize hL1 : covR F (l.take (k + 1)) = L1
        generalize covT F l[k].1.1 l[k].1.2 = T
        generalize covE F l[k].1.1 l[k].1.2 = ce
        generalize l[k].1.1 = px at *
        generalize l[k].1.2 = py at *
        generalize l[k].2 = ph at *
        revert hown hsz
        generalize hL0 : covR F (l.take k) = L0
        intro hown hsz hz hp hq KC hTl
        have HL1 := hidR hL1
        clear hL1 hL0
        have hk2 : IntKind.i64.wrap ((k : Int) + 1) = (k : Int) + 1 := by rw [IntKind.wrap_i64]; omega
        obtain ⟨p0, p1, p2, p3, p4, -⟩ := atg_new wr wr.heap.size px py ph 47 rfl
        by_cases h0 : ph = 0
        · have d0 : (ph == 0) = true := by simp [h0]
          have hz := hidR (hz.out h0)
          clear KC hp hq h0
          go_wp2
          go_roundw
          case rel =>
            refine ⟨k + 1, dv, by omega, by simp, hidR (kT.out.heap (hAl _ kT.out.lt)), hidR (kR.out.heap (hAl _ kR.out.lt)), ?_, ?_, hidR (kB.out.alloc kB.out.size _)⟩
            · show World.ownsRow _ _ _ _ _ _ _
              rw [HL1.out, hz.out]
              exact hown.out.alloc _
            · show _ ≤ _
              rw [HL1.out, hz.out]
              exact hsz.out
          case measure => simp [intOf]; omega
        · have d0 : (ph == 0) = false := by simp [h0]
          have hq : Hid (L0.length + T.length ≤ (covR F l).length) := hidR (by rcases hq.out with e | e; exact absurd e h0; exact e)
          have hp := hidR (hp.out h0)
          clear hz h0
          go_wp2_with fail
          refine KC.mono ?_
          rintro e w2 ⟨⟨cv, rfl, hcov⟩, hb⟩
          have HC := hidR (CvI.start kT.out kR.out hown.out kB.out hb hcov)
          obtain ⟨ac, cc, rfl⟩ := own_form hcov
          obtain ⟨ad, cd, rfl⟩ := own_form hown.out
          obtain ⟨t0, t1, -, -⟩ := HC.out.t
          clear KC hb hcov kT kR hown kB x0 x1 x2 x3 x4 p0 p1 p2 p3 p4
          have hszn := hsz.out
          have ma : IntKind.i64.wrap ((L0.length : Int) + (T.length : Int)) = (L0.length : Int) + (T.length : Int) := by rw [IntKind.wrap_i64]; omega
          by_cases hlim : 1048576 < L0.length + T.length
          · have dl : decide ((1048576 : Int) < (L0.length : Int) + (T.length : Int)) = true := by simp; omega
            have hlo : ¬ okL F l = true := by unfold okL; simp; have := hq.out; omega
            have HLO := hidR (tab_no (F := F) (l := l) (by simpa using hlo))
            obtain ⟨r0, r1, r2, r3⟩ := HC.out.r
            have HB := hidR (bset2 HC.out.bel (Nat.le_refl w.heap.size) (.int .i64 0) (.slice none 0 0))
            obtain ⟨s0, s1, -, -⟩ := HC.out.r.set2 0 (.slice none 0 0)
            clear hlo hlim hq hp HC
            go_wp2
            exact bodyPost_ret (v := .tuple #[.agg #[.int .i64 0, .slice none 0 0], .int .i64 16]) (by simp [results, Tryz.results20, go_sem, s0, s1]) rfl ⟨⟨.slice none 0 0, by rw [HLO.out.1, HLO.out.2.1], by rw [HLO.out.2.2]; exact World.ownsRow_nil _ _ _ _⟩, HB.out⟩
          · have dl : decide ((1048576 : Int) < (L0.length : Int) + (T.length : Int)) = false := by simp; omega
            generalize wr.heap.size = S0 at *
            go_wp2_with fail
            go_loopw [43] (fun jv W => ∃ (j : Nat) (dw : Value), j ≤ T.length ∧ jv = .int .i64 j ∧ Hid (CvI w F S0 px py ph (.slice ac T.length cc) T (L0 ++ (T.take j).map (fun p => (p, ph))) dw W)) (fun jv _ => T.length - (intOf jv).toNat)
            case atStart => exact ⟨0, _, by omega, rfl, by simpa using HC⟩
            case round =>
              clear HC t0 t1
              obtain ⟨j, dw, hj, rfl, HC⟩ := hrel
              by_cases hjl : (j : Int) < (T.length : Int)
              · have hjs : j < T.length := by omega
                have hcv := HC.out.cov
                obtain ⟨g, cc', hcg⟩ : ∃ g, ac = some ⟨g, 0, none⟩ ∧ True := by
                  rcases hcv.2 with ⟨e, e2⟩ | ⟨g, cap, cur, e, _⟩
                  · omega
                  · injection e with e1
                    exact ⟨g, e1, trivial⟩
                subst cc'
                obtain ⟨y0, y1, y2⟩ := rowP_cells6 hcv j hjs
                have hcap : T.length ≤ cc := by
                  rcases hcv.2 with ⟨e, e2⟩ | ⟨g, cap, cur, e, _, _, h1, _⟩
                  · omega
                  · injection e with _ _ e1
                    omega
                have HA := hidR (cov_app T L0 ph j hjs)
                have hsz2 := cov_size T L0 ph j
                obtain ⟨t0, t1, -, -⟩ := HC.out.t
                obtain ⟨-, -, -, -, s4, -⟩ := HC.out.s
                have hows := HC.out.own
                have hbl := HC.out.bel
                revert HC HA hsz2 hows t1
                generalize L0 ++ (T.take j).map (fun p => (p, ph)) = L
                generalize T[j].1 = qx at *
                generalize T[j].2 = qn at *
                intro HC HA hsz2 t1 hows
                obtain ⟨ae, ce2, rfl⟩ := own_form hows
                have h63 : L.length + 1 ≤ maxLen := by unfold maxLen; omega
                have h47 : (L.length + 1) * 32 ≤ 140737488355328 := by omega
                have mj : IntKind.i64.wrap ((j : Int) + 1) = (j : Int) + 1 := by rw [IntKind.wrap_i64]; omega
                obtain ⟨b0, b1, b2, -⟩ := atp_new wr wr.heap.size qx qn 29 rfl
                have hT2 := HC.out.t.lt
                have hS2 := HC.out.s.lt
                have t1' := keepc (bl1 wr (.cells #[.int .u64 (hI qx), .int .u64 (lI qx), .int .i64 qn] 29)) t1
                have s4' := keepc (bl1 wr (.cells #[.int .u64 (hI qx), .int .u64 (lI qx), .int .i64 qn] 29)) s4
                clear hcv
                go_wp2_with (first | (
                    at_builtin
                    refine wpList_append_lies _ rfl _ _ 22 rfl (w.heap.size + 2) 45 i0 (.agg #[.int .u64 0, .int .u64 0, .int .i64 0, .int .i64 0]) 4 32 Tryz.underlying22 hi hz0 hz1 hz2 rfl (by decide) _ _ _ rfl ((hows.alloc _).alloc _) ⟨wr.heap.size + 1, 0, none⟩ 1 1 [.int .u64 (hI qx), .int .u64 (lI qx), .int .i64 qn, .int .i64 ph] rfl rfl (newsB _ _ (by simp) _ _ _ _ _) (fourR6 _ _ _ _) (by decide) h63 h47 (by simp; omega) _ rfl ?_
                    intro g4 cap4 w4 hown4 hgrow hat hlt4
                    have HC4 := hidR (HC.out.step _ _ qx qn g4 cap4 hown4 hgrow hat)
                    obtain ⟨f0, f1, f2, f3⟩ := HC.out.mid _ _ hgrow
                    clear hgrow hat hown4 hlt4 h63 h47 b0 b1 b2 t1' s4' t0 t1 s4 y0 y1 y2))
                go_wp2
                go_roundw
                case rel => exact ⟨j + 1, _, by omega, by simp, by rw [HA.out]; exact HC4⟩
                case measure => simp [intOf]; omega
              · have hd : decide ((j : Int) < (T.length : Int)) = false := by simpa using hjl
                have hje : Hid (j = T.length) := hidR (by omega)
                have HF : Hid (CvI w F S0 px py ph (.slice ac T.length cc) T L1 dw wr) := hidR (by have h9 := HC.out; rw [hje.out] at h9; rw [hp.out]; exact h9)
                have HZ : Hid (L1.length ≤ 1048576) := hidR (by rw [hp.out]; simp; omega)
                clear HC hp
                go_wp2
                go_roundw
                case rel =>
                  refine ⟨k + 1, dw, by omega, by simp, hidR HF.out.t, hidR HF.out.r, ?_, ?_, hidR HF.out.bel⟩
                  · show World.ownsRow _ _ _ _ _ _ _
                    rw [HL1.out]
                    exact HF.out.own
                  · show _ ≤ _
                    rw [HL1.out]
                    exact HZ.out
                case measure => simp [intOf]; omega
    · have hd : decide ((k : Int) < (l.length : Int)) = false := by simpa using hlt
      have hke : l.take k = l := List.take_of_length_le (by omega)
      rw [hke] at hown hsz
      have hlo : okL F l = true := by unfold okL; simpa using hsz.out
      have HLO := hidR (tab_yes hlo)
      obtain ⟨t0, t1, -, -⟩ := kT.out
      obtain ⟨r0, r1, r2, r3⟩ := kR.out
      have hTR : ¬ w.heap.size + 1 = w.heap.size := by omega
      have HB := hidR (bset2 kB.out (Nat.le_refl w.heap.size) (.int .i64 F) dv)
      have HO : Hid ((((wr.setCell ⟨w.heap.size, 0, none⟩ (.int .i64 F)).setCell ⟨w.heap.size, 1, none⟩ dv)).ownsRow w.heap.size 45 4 dv (covR F l).length (rowR (covR F l))) := hidR (own_wide (own_heap hown.out (fun g e => by
        have := (hown.out.lt g e).1
        rw [hSet _ (by omega), hSet _ (by omega)])) (by omega))
      obtain ⟨s0, s1, -, -⟩ := kR.out.set2 F dv
      clear hke hlo
      obtain ⟨ad, cd, rfl⟩ := own_form hown.out
      go_wp2
      exact bodyPost_ret (v := .tuple #[.agg #[.int .i64 F, .slice ad (covR F l).length cd], .int .i64 0]) (by simp [results, Tryz.results20, go_sem, s0, s1]) rfl ⟨⟨.slice ad (covR F l).length cd, by rw [HLO.out.1, HLO.out.2.1], by rw [HLO.out.2.2]; exact HO.out⟩, HB.out⟩
end Go.Proofs.YtonagfmkplbooaaGreatDoor
/-
  What the calls of package algebra's checkSeg and checkSegs do.
-/
namespace Go.Proofs.YtonagfmkplbooaaGreatDoor
open Go.RowKit
set_option linter.unusedSimpArgs false
set_option linter.unusedVariables false

/-- The segment ahead of place k. -/
def prevO (l : List Sg) : Nat → Option Sg
  | 0 => none
  | k + 1 => l[k]?
theorem sgs_drop (F : Int) (l : List Sg) (k : Nat) (hk : k < l.length) (p : Option Sg) : sgsGo F p (l.drop k) = if sgE F l[k] = 0 then (if moO F p = true then (if (l[k].1.1 == nxO F p) = true then (if p.map (·.2) = some l[k].2 then 19 else sgsGo F (some l[k]) (l.drop (k + 1))) else 19) else 19) else sgE F l[k] := by
  rw [List.drop_eq_getElem_cons hk, sgsGo]
end Go.Proofs.YtonagfmkplbooaaGreatDoor
/-
  What the calls of package algebra's Table and of the law's known do.
-/
namespace Go.Proofs.YtonagfmkplbooaaGreatDoor
open Go.RowKit
set_option linter.unusedSimpArgs false
set_option linter.unusedVariables false

/-- What Table tells of some segments. -/
def tW (F : Int) (l : List Sg) : Int := if sgsE F l = 0 then tabW F l else 0
def tX (F : Int) (l : List Sg) : Int := if sgsE F l = 0 then tabX F l else sgsE F l
def tL (F : Int) (l : List Sg) : List Rte := if sgsE F l = 0 then tabL F l else []
theorem t_yes {F : Int} {l : List Sg} (h : sgsE F l = 0) : tW F l = tabW F l ∧ tX F l = tabX F l ∧ tL F l = tabL F l := by
  unfold tW tX tL
  rw [if_pos h, if_pos h, if_pos h]
  exact ⟨rfl, rfl, rfl⟩
theorem t_no {F : Int} {l : List Sg} (h : ¬ sgsE F l = 0) : tW F l = 0 ∧ tX F l = sgsE F l ∧ tL F l = [] := by
  unfold tW tX tL
  rw [if_neg h, if_neg h, if_neg h]
  exact ⟨rfl, rfl, rfl⟩
/-- The chapter's first example, as it is asked. -/
def kn0 : List Rte := [((0x0a000000000000000000000000000000#128, 8), 1)]
theorem kn_swp : swp 32 kn0 = [((0#128, 0x09ffffff000000000000000000000000#128), 0), ((0x0a000000000000000000000000000000#128, 0x0affffff000000000000000000000000#128), 1), ((0x0b000000000000000000000000000000#128, 0xffffffff000000000000000000000000#128), 0)] := by decide +kernel
theorem kn_rts : rtsE 32 kn0 = 0 := by decide +kernel
theorem kn_tab (z : Int) (h : TabE 32 kn0 z) : z = 0 := by
  rcases h.2 kn_rts with ⟨_, h⟩ | ⟨h, _⟩
  · exact h
  · exfalso
    apply h
    intro a ha
    simp [kn0] at ha
theorem kn_rwr (w : World) : RwR (w.alloc (.cells #[.int .u64 720575940379279360, .int .u64 0, .int .i64 8, .int .i64 1] 45)) (.slice (some ⟨w.heap.size, 0, none⟩) 1 1) kn0 := by
  refine ⟨some ⟨w.heap.size, 0, none⟩, 1, rfl, .inr ⟨w.heap.size, 0, rfl, ?_⟩⟩
  intro j u hj
  have h0 : hI 0x0a000000000000000000000000000000#128 = 720575940379279360 := by decide
  have h1 : lI 0x0a000000000000000000000000000000#128 = 0 := by decide
  have e : rowR kn0 = [.int .u64 720575940379279360, .int .u64 0, .int .i64 8, .int .i64 1] := by simp [kn0, rowR, h0, h1]
  rw [e] at hj
  rw [Nat.zero_add]
  match j, hj with
  | 0, hj => simp at hj; subst hj; simp [go_sem]
  | 1, hj => simp at hj; subst hj; simp [go_sem]
  | 2, hj => simp at hj; subst hj; simp [go_sem]
  | 3, hj => simp at hj; subst hj; simp [go_sem]
set_option maxRecDepth 20000 in
set_option maxHeartbeats 8000000 in
theorem known6_any (w : World) : Calls Tryz.prog 4 #[] w fun e w' => e = .returned (.bool true) ∧ Below w.heap.size w w' := by
  have KS := segs_any 32 _ kn0 _ (kn_rwr w)
  have HB := hidR (bl1 w (.cells #[.int .u64 720575940379279360, .int .u64 0, .int .i64 8, .int .i64 1] 45))
  go_enter Tryz.func4, Tryz.ntmps4
  go_wp2_with fail
  refine KS.mono ?_
  rintro e w1 ⟨⟨z, v', hz, rfl, hown, -⟩, hb⟩
  have hz0 := kn_tab z hz
  subst hz0
  have hown := hown rfl
  rw [kn_swp] at hown
  have HB1 := hidR (keepb hb HB.out)
  obtain ⟨g, cap, e, -, -⟩ := hown.form (by simp)
  have e : v' = .slice (some ⟨g, 0, none⟩) 3 cap := e
  subst e
  obtain ⟨c0, c1, -, -, c4⟩ := ownG_cells (g := g) (n := 3) hown 1 (by simp)
  have h0 : hI 0x0a000000000000000000000000000000#128 = 720575940379279360 := by decide
  have h1 : lI 0x0a000000000000000000000000000000#128 = 0 := by decide
  simp only [List.getElem_cons_succ, List.getElem_cons_zero, h0, h1] at c0 c1 c4
  clear KS hb HB hown hz
  go_wp2
  go_ret
  exact ⟨rfl, HB1.out⟩
end Go.Proofs.YtonagfmkplbooaaGreatDoor
/-
  What the call of the law's SameSegs (of two that are the same) does.
-/
namespace Go.Proofs.YtonagfmkplbooaaGreatDoor
open Go.RowKit
set_option linter.unusedSimpArgs false
set_option linter.unusedVariables false

theorem eqG_run (x y : BitVec 128) (h : Int) (w : World) :
    (Op.equalIn 10000 47 (.agg #[.int .u64 (hI x), .int .u64 (lI x), .int .u64 (hI y), .int .u64 (lI y), .int .i64 h]) (.agg #[.int .u64 (hI x), .int .u64 (lI x), .int .u64 (hI y), .int .u64 (lI y), .int .i64 h])).run Tryz.prog w = .ok true w := by
  go_simp
end Go.Proofs.YtonagfmkplbooaaGreatDoor
/-
  How many segments a sweep tells at most.
-/
namespace Go.Proofs.YtonagfmkplbooaaGreatDoor
set_option linter.unusedSimpArgs false
set_option linter.unusedVariables false

theorem endT_len (F : Int) : ∀ (op : List Rte) (t : T3), (endT F op t).2.2.length ≤ op.length + t.2.2.length
  | [], t => by simp [endT]
  | o :: os, t => by
    rw [endT]
    have h1 := endT_len F os (tell3 F (lastW F o.1.1 o.1.2) o.2 t)
    have h2 := tell3_len F (lastW F o.1.1 o.1.2) o.2 t
    simp only [List.length_cons]
    omega
theorem swpGo_len (F : Int) : ∀ (L op : List Rte) (t : T3), (swpGo F op t L).2.2.length ≤ op.length + t.2.2.length + 2 * L.length
  | [], op, t => by rw [swpGo]; have := endT_len F op t; simp only [List.length_nil]; omega
  | r :: L, op, t => by
    rw [swpGo]
    have h1 := swpGo_len F L (r :: popO r op) (entT F r (hopO (popO r op)) (popT F r op t))
    have h2 := entT_len F r (hopO (popO r op)) (popT F r op t)
    have h3 := popT_len F r op t
    simp only [List.length_cons] at h1 ⊢
    omega
theorem swp_len (F : Int) (l : List Rte) : (swp F l).length ≤ 1 + 2 * l.length := by
  have := swpGo_len F l op0 t30
  unfold swp
  rw [List.length_reverse]
  have e : op0.length + t30.2.2.length = 1 := rfl
  omega
end Go.Proofs.YtonagfmkplbooaaGreatDoor
