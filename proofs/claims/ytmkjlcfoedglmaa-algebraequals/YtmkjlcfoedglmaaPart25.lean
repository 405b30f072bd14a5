/-
  Part 25 of the proof: 10 texts, one behind the other.
-/
import Derived.Test.YtmkjlcfoedglmaaPart24
import Derived.Test.YtmkjlcfoedglmaaPart20
import Derived.Test.YtmkjlcfoedglmaaPart6
import Derived.Test.YtmkjlcfoedglmaaPart2
import Derived.Test.YtmkjlcfoedglmaaPart3
import Derived.Test.YtmkjlcfoedglmaaPart7
import Derived.Test.YtmkjlcfoedglmaaPart8
/-
  What the call of the law's Kept of tables does.
-/
namespace Go.Proofs.Ytmkjlcfoedglmaa
open Go.RowKit
set_option linter.unusedSimpArgs false
set_option linter.unusedVariables false

/-- All but one block is as it was. -/
def Sty (g : Nat) (W W' : World) : Prop := W'.os = W.os ∧ W'.tape = W.tape ∧ W'.output = W.output ∧ W.heap.size ≤ W'.heap.size ∧ ∀ z, z < W.heap.size → z ≠ g → W'.heap[z]? = W.heap[z]?
theorem Sty.refl (g : Nat) (W : World) : Sty g W W := ⟨rfl, rfl, rfl, Nat.le_refl _, fun _ _ _ => rfl⟩
theorem Sty.below {g : Nat} {W W' W'' : World} (h : Sty g W W') (hb : Below W'.heap.size W' W'') : Sty g W W'' := ⟨by rw [hb.os, h.1], by rw [hb.tape, h.2.1], by rw [hb.output, h.2.2.1], Nat.le_trans h.2.2.2.1 hb.size, fun z h1 h2 => by rw [hb.block z (by have := h.2.2.2.1; omega), h.2.2.2.2 z h1 h2]⟩
theorem Sty.set {g : Nat} {W W' : World} (h : Sty g W W') (j : Nat) (u : Value) : Sty g W (W'.setCell ⟨g, j, none⟩ u) := by
  have b : Below 0 W' (W'.setCell ⟨g, j, none⟩ u) := (Below.refl _ _).setCell (Nat.zero_le _) u
  exact ⟨by rw [b.os, h.1], by rw [b.tape, h.2.1], by rw [b.output, h.2.2.1], Nat.le_trans h.2.2.2.1 b.size, fun z h1 h2 => by rw [hSet _ h2, h.2.2.2.2 z h1 h2]⟩
theorem Sty.own {g : Nat} {W W' : World} (h : Sty g W W') {base e size n : Nat} {v : Value} {xs : List Value} (ho : W.ownsRow base e size v n xs) (hn : v.ownBlock ≠ some g) : W'.ownsRow base e size v n xs := own_heap ho (fun z e => h.2.2.2.2 z (ho.lt z e).2 (fun q => hn (by rw [e, q])))
theorem Sty.low {g : Nat} {w W W' : World} (h : Sty g W W') (hb : Below w.heap.size w W) (hg : w.heap.size ≤ g) : Below w.heap.size w W' := ⟨by rw [h.1, hb.os], by rw [h.2.1, hb.tape], by rw [h.2.2.1, hb.output], Nat.le_trans hb.size h.2.2.2.1, fun z hz => by rw [h.2.2.2.2 z (by have := hb.size; omega) (by omega), hb.block z hz]⟩
theorem all_get5 (l : List Rte) (k : Nat) (hk : k < l.length) (h : k < (l ++ mkR l.length 3).length) : (l ++ mkR l.length 3)[k] = l[k] := List.getElem_append_left hk
theorem all_mark5 (l : List Rte) (k : Nat) (hk : l.length ≤ k) (h : k < (l ++ mkR l.length 3).length) : (l ++ mkR l.length 3)[k] = ((0#128, 0), -7 - (k : Int)) := by
  rw [List.getElem_append_right hk]
  unfold mkR
  simp
  omega
theorem eqR5_run (w : World) (h : Int) :
    (Op.equalIn 10000 50 (.agg #[.int .u64 0, .int .u64 0, .int .i64 0, .int .i64 h]) (.agg #[.int .u64 0, .int .u64 0, .int .i64 0, .int .i64 h])).run Try.prog w = .ok true w := by
  go_simp
set_option maxRecDepth 20000 in
set_option maxHeartbeats 8000000 in
theorem kept5_any (F : Int) (v : Value) (l : List Rte) (w0 w : World) (hv : RwR w0 v l) (hB : Below w0.heap.size w0 w) (g : Nat) (hown : w.ownsRow w0.heap.size 50 4 (.slice (some ⟨g, 0, none⟩) (l.length + 3) (l.length + 3)) (l.length + 3) (rowR (l ++ mkR l.length 3))) (hl : l.length ≤ 1000000) :
    Calls Try.prog 8 #[.agg #[.int .i64 F, .slice (some ⟨g, 0, none⟩) l.length (l.length + 3)], .agg #[.int .i64 F, v]] w fun e w' => e = .returned (.bool true) ∧ Sty g w w' := by
  obtain ⟨ao, c, rfl, hv⟩ := hv
  have HV : Hid (l = [] ∨ ∃ b off, ao = some ⟨b, off, none⟩ ∧ ∀ j u, (rowR l)[j]? = some u → w0.cell? ⟨b, off + j, none⟩ = some u) := hv
  have hgb : w0.heap.size ≤ g := (hown.lt g (by simp [Value.ownBlock])).1
  have hgw : g < w.heap.size := (hown.lt g (by simp [Value.ownBlock])).2
  have q1 := bl1 w (.cells #[.int .i64 F, .slice (some ⟨g, 0, none⟩) l.length (l.length + 3)] 24)
  have q2 := bl1 (w.alloc (.cells #[.int .i64 F, .slice (some ⟨g, 0, none⟩) l.length (l.length + 3)] 24)) (.cells #[.int .i64 F, .slice ao l.length c] 24)
  have HM := hidR ((att_new w w.heap.size F (.slice (some ⟨g, 0, none⟩) l.length (l.length + 3)) 24 rfl).below q2)
  have HT := hidR (att_new (w.alloc (.cells #[.int .i64 F, .slice (some ⟨g, 0, none⟩) l.length (l.length + 3)] 24)) (w.heap.size + 1) F (.slice ao l.length c) 24 (by simp))
  have HO := hidR (own_below q2 (own_below q1 hown))
  have HS := hidR (((Sty.refl g w).below q1).below q2)
  have HB := hidR (keepb q2 (keepb q1 hB))
  clear hv hown hB q1 q2
  have m1 : IntKind.i64.wrap ((l.length : Int) + 3) = (l.length : Int) + 3 := by rw [IntKind.wrap_i64]; omega
  have hAl' : (l ++ mkR l.length 3).length = l.length + 3 := by rw [List.length_append, mkR_len]
  have ea : ((l.length : Int) + 3).toNat = l.length + 3 := by omega
  have i0 : (l.length : Int) + 3 ≤ ((l.length + 3 : Nat) : Int) := by omega
  have i0' : (0 : Int) ≤ (l.length : Int) + 3 := by omega
  have d1 : ((l.length : Int) != (l.length : Int)) = false := by simp
  have d2 : (F != F) = false := by simp
  obtain ⟨t0, t1⟩ := HT.out
  obtain ⟨y0, y1⟩ := HM.out
  go_enter Try.func8, Try.ntmps8
  go_wp2_with fail
  clear i0 i0' t0 t1 y0 y1 HM
  go_loopw [6, 7] (fun okv i wr => ∃ k : Nat, k ≤ l.length + 3 ∧ i = .int .i64 k ∧ okv = .bool true ∧ ∃ xs : List Value, Hid (xs.drop (k * 4) = (rowR (l ++ mkR l.length 3)).drop (k * 4)) ∧ Hid (wr.ownsRow w0.heap.size 50 4 (.slice (some ⟨g, 0, none⟩) (l.length + 3) (l.length + 3)) (l.length + 3) xs) ∧ Hid (AtT wr (w.heap.size + 1) F (.slice ao l.length c)) ∧ Hid (Below w0.heap.size w0 wr) ∧ Hid (Sty g w wr)) (fun _ i _ => (l.length + 3) - (intOf i).toNat)
  case atStart => exact ⟨0, by omega, rfl, rfl, _, hidR rfl, HO, HT, HB, HS⟩
  case round =>
    clear HO HB HT HS
    obtain ⟨k, hk, rfl, rfl, xs, HX, HO, HT, HB, HS⟩ := hrel
    obtain ⟨t0, t1⟩ := HT.out
    have hset : ∀ (W : World) (u0 u1 u2 u3 : Value), AtT W (w.heap.size + 1) F (.slice ao l.length c) → AtT ((((W.setCell ⟨g, k * 4, none⟩ u0).setCell ⟨g, k * 4 + 1, none⟩ u1).setCell ⟨g, k * 4 + 2, none⟩ u2).setCell ⟨g, k * 4 + 3, none⟩ u3) (w.heap.size + 1) F (.slice ao l.length c) := by
      intro W u0 u1 u2 u3 h
      have e : ((((W.setCell ⟨g, k * 4, none⟩ u0).setCell ⟨g, k * 4 + 1, none⟩ u1).setCell ⟨g, k * 4 + 2, none⟩ u2).setCell ⟨g, k * 4 + 3, none⟩ u3).heap[w.heap.size + 1]? = W.heap[w.heap.size + 1]? := by
        rw [hSet _ (by omega), hSet _ (by omega), hSet _ (by omega), hSet _ (by omega)]
      exact ⟨by rw [cellH e]; exact h.1, by rw [cellH e]; exact h.2⟩
    have HSET := hidR hset
    clear hset
    by_cases hlt : k < l.length + 3
    · have hkA : k < (l ++ mkR l.length 3).length := by omega
      obtain ⟨a0, a1, a2, a3⟩ := rowR_get (l ++ mkR l.length 3) k hkA
      have cc : ∀ r u, (rowR (l ++ mkR l.length 3))[k * 4 + r]? = some u → wr.cell? ⟨g, k * 4 + r, none⟩ = some u := by
        intro r u h
        rw [← drop_get5 xs _ (k * 4) HX.out r] at h
        have := HO.out.cells (g := g) rfl _ _ h
        rw [addA, Nat.zero_add] at this
        exact this
      have x0 := cc 0 _ (by simpa using a0)
      have x1 := cc 1 _ a1
      have x2 := cc 2 _ a2
      have x3 := cc 3 _ a3
      rw [Nat.add_zero] at x0
      obtain ⟨-, s0⟩ := own_cell6 HO.out (k * 4) (by omega)
      obtain ⟨-, s1⟩ := own_cell6 HO.out (k * 4 + 1) (by omega)
      obtain ⟨-, s2⟩ := own_cell6 HO.out (k * 4 + 2) (by omega)
      obtain ⟨-, s3⟩ := own_cell6 HO.out (k * 4 + 3) (by omega)
      clear cc a0 a1 a2 a3
      have i1 : (k : Int) < (l.length : Int) + 3 := by omega
      have mk : IntKind.i64.wrap ((k : Int) + 1) = (k : Int) + 1 := by rw [IntKind.wrap_i64]; omega
      by_cases hkl : k < l.length
      · rw [all_get5 l k hkl hkA] at x0 x1 x2 x3
        have i2 : (k : Int) < (l.length : Int) := by omega
        rcases HV.out with h | ⟨b, off, rfl, hc⟩
        · rw [h] at hkl; simp at hkl
        · obtain ⟨y0, y1, y2, y3⟩ := rwr_cells hc k hkl
          have y0 := keepc HB.out y0
          have y1 := keepc HB.out y1
          have y2 := keepc HB.out y2
          have y3 := keepc HB.out y3
          have hE := fun w => eqR_run l[k].1.1 l[k].1.2 l[k].2 w
          clear hc
          generalize l[k].1.1 = px at *
          generalize l[k].1.2 = pn at *
          generalize l[k].2 = ph at *
          go_wp2_with fail
          go_quiet (fail)
          have HOq := hidR (own_below (below_drewN (Below.refl _ _) nq) HO.out)
          have HBq := hidR (below_drewN HB.out nq)
          have HSq := hidR (HS.out.below (below_drewN (Below.refl _ _) nq))
          have HTq := hidR (HT.out.below (below_drewN (Below.refl _ _) nq))
          clear HO HB HS HT
          go_wp2
          go_roundw
          case rel =>
            refine ⟨k + 1, by omega, by go_num, rfl, _, hidR ?_, hidR ((((HOq.out.stored (k * 4) (.int .u64 0)).1.stored (k * 4 + 1) (.int .u64 0)).1.stored (k * 4 + 2) (.int .i64 0)).1.stored (k * 4 + 3) (.int .i64 77)).1, hidR (HSET.out _ _ _ _ _ HTq.out), hidR ((((HBq.out.setCell (p := ⟨g, _, none⟩) hgb _).setCell (p := ⟨g, _, none⟩) hgb _).setCell (p := ⟨g, _, none⟩) hgb _).setCell (p := ⟨g, _, none⟩) hgb _), hidR ((((HSq.out.set _ _).set _ _).set _ _).set _ _)⟩
            rw [drop4]
            have := congrArg (fun z => z.drop 4) HX.out
            simpa [List.drop_drop, Nat.add_mul] using this
          case measure => simp [intOf]; omega
      · rw [all_mark5 l k (by omega) hkA] at x0 x1 x2 x3
        rw [hI_zero] at x0
        rw [lI_zero] at x1
        have i2 : ¬ k < l.length := hkl
        have ms : IntKind.i64.wrap (-7 - (k : Int)) = -7 - (k : Int) := by rw [IntKind.wrap_i64]; omega
        have hE := fun w => eqR5_run w (-7 - (k : Int))
        simp only at x2 x3
        go_wp2
        go_roundw
        case rel =>
          refine ⟨k + 1, by omega, by go_num, rfl, _, hidR ?_, hidR ((((HO.out.stored (k * 4) (.int .u64 0)).1.stored (k * 4 + 1) (.int .u64 0)).1.stored (k * 4 + 2) (.int .i64 0)).1.stored (k * 4 + 3) (.int .i64 77)).1, hidR (HSET.out _ _ _ _ _ HT.out), hidR ((((HB.out.setCell (p := ⟨g, _, none⟩) hgb _).setCell (p := ⟨g, _, none⟩) hgb _).setCell (p := ⟨g, _, none⟩) hgb _).setCell (p := ⟨g, _, none⟩) hgb _), hidR ((((HS.out.set _ _).set _ _).set _ _).set _ _)⟩
          rw [drop4]
          have := congrArg (fun z => z.drop 4) HX.out
          simpa [List.drop_drop, Nat.add_mul] using this
        case measure => simp [intOf]; omega
    · have hd : ¬ (k : Int) < (l.length : Int) + 3 := by omega
      go_wp2
      go_ret
      exact ⟨rfl, HS.out⟩
end Go.Proofs.Ytmkjlcfoedglmaa
/-
  What a call of the reference's Text does: the walk.
-/
namespace Go.Proofs.Ytmkjlcfoedglmaa
open Go.RowKit
set_option linter.unusedSimpArgs false
set_option linter.unusedVariables false

theorem own_belowH {base e size n : Nat} {v : Value} {xs : List Value} {W w' : World} (hb : Below W.heap.size W w') (h : Hid (W.ownsRow base e size v n xs)) : Hid (w'.ownsRow base e size v n xs) := own_below hb h.out

theorem news_al (W : World) (v : Value) (t : TypeId) : ∀ j u, [v][j]? = some u → (W.alloc (.cells #[v] t)).cell? ((⟨W.heap.size, 0, none⟩ : Addr).add j) = some u := by
  intro j u hj
  match j, hj with
  | 0, hj => simp at hj; subst hj; simp [Addr.add, go_sem]
theorem one_al (k : IntKind) (n : Int) : ∀ u ∈ [Value.int k n], u.oneCell' = true := by
  intro u hu; simp at hu; subst hu; rfl

end Go.Proofs.Ytmkjlcfoedglmaa
/-
  What the calls of package ranges' checkRange and widest do; rows of prefixes in memory.
-/
namespace Go.Proofs.Ytmkjlcfoedglmaa
open Go.RowKit
set_option linter.unusedSimpArgs false
set_option linter.unusedVariables false

theorem At.app {W w1 : World} {B : Nat} {x : BitVec 128} {r : Option Nat} (h : At W B x) (g : W.grownBy w1 r) (hn : some B ≠ r) : At w1 B x := by
  obtain ⟨h0, h1, h2, h3, h4⟩ := h
  exact ⟨g.cell h0 hn, g.cell h1 hn, (g.frozen_far ⟨B, 0, none⟩ h4 hn).trans h2, (g.frozen_far ⟨B, 1, none⟩ h4 hn).trans h3, Nat.lt_of_lt_of_le h4 g.size⟩
theorem AtP.app {W w1 : World} {B : Nat} {x : BitVec 128} {n : Int} {r : Option Nat} (h : AtP W B x n) (g : W.grownBy w1 r) (hn : some B ≠ r) : AtP w1 B x n := by
  obtain ⟨h0, h1, h2, h3, h4, h5⟩ := h
  have lt := cell_in h0
  exact ⟨g.cell h0 hn, g.cell h1 hn, g.cell h2 hn, (g.frozen_far ⟨B, 0, none⟩ lt hn).trans h3, (g.frozen_far ⟨B, 1, none⟩ lt hn).trans h4, (g.frozen_far ⟨B, 2, none⟩ lt hn).trans h5⟩
/-- The cells of a row of prefixes. -/
def rowP : List (BitVec 128 × Int) → List Value
  | [] => []
  | p :: l => .int .u64 (hI p.1) :: .int .u64 (lI p.1) :: .int .i64 p.2 :: rowP l
theorem rowP_app : ∀ l m, rowP (l ++ m) = rowP l ++ rowP m := by
  intro l
  induction l with
  | nil => intro m; rfl
  | cons p l ih => intro m; simp [rowP, ih]
theorem rowP_one (l : List (BitVec 128 × Int)) (x : BitVec 128) (n : Int) : rowP (l ++ [(x, n)]) = rowP l ++ [.int .u64 (hI x), .int .u64 (lI x), .int .i64 n] := by rw [rowP_app]; rfl
theorem Try.infoP : (Try.prog.info? 48).map (fun i => (i.zero, i.size, i.bytes)) = some (some (.agg #[.int .u64 0, .int .u64 0, .int .i64 0]), 3, 24) := by kernel_rfl
theorem newsP (W : World) (a b c : Value) (t : TypeId) : ∀ j u, [a, b, c][j]? = some u → (W.alloc (.cells #[a, b, c] t)).cell? ((⟨W.heap.size, 0, none⟩ : Addr).add j) = some u := by
  intro j u hj
  match j, hj with
  | 0, hj => simp at hj; subst hj; simp [Addr.add, go_sem]
  | 1, hj => simp at hj; subst hj; simp [Addr.add, go_sem]
  | 2, hj => simp at hj; subst hj; simp [Addr.add, go_sem]
theorem threeP (a b : Int) (c : Int) : ∀ u ∈ [Value.int .u64 a, Value.int .u64 b, Value.int .i64 c], u.oneCell' = true := by
  intro u hu; simp at hu; rcases hu with rfl | rfl | rfl <;> rfl
theorem At.al {W : World} {B : Nat} {x : BitVec 128} (h : At W B x) (o : Obj) : At (W.alloc o) B x := h.below (bl1 W o)
theorem AtP.al {W : World} {B : Nat} {x : BitVec 128} {n : Int} (h : AtP W B x n) (o : Obj) : AtP (W.alloc o) B x n := h.below (bl1 W o)

/-- The error of a range. -/
def covE (F : Int) (a b : BitVec 128) : Int := if rightE F a = 0 then (if rightE F b = 0 then (if cmpZ b a < 0 then 19 else 0) else rightE F b) else rightE F a
theorem rightE_ways (F : Int) (x : BitVec 128) : rightE F x = 0 ∨ rightE F x = 6 ∨ rightE F x = 11 := by
  unfold rightE; split
  · split <;> simp
  · simp
theorem lead_le (z : BitVec 128) : leadN z ≤ 128 := by
  unfold leadN; split <;> omega
end Go.Proofs.Ytmkjlcfoedglmaa
/-
  What the call of package ranges' Cover does.
-/
namespace Go.Proofs.Ytmkjlcfoedglmaa
open Go.RowKit
set_option linter.unusedSimpArgs false
set_option linter.unusedVariables false

/-- What Cover tells. -/
def covT (F : Int) (a b : BitVec 128) : List (BitVec 128 × Int) := if covE F a b = 0 then covL F b (b.toNat - a.toNat + 1) a else []
theorem covE_rng (F : Int) (a b : BitVec 128) (h : covE F a b = 0) : Rng F a b := by
  unfold covE at h
  split at h
  · rename_i h1
    split at h
    · rename_i h2
      split at h
      · omega
      · rename_i h3
        rw [cmp_lt0] at h3
        exact ⟨h1, h2, by omega⟩
    · omega
  · omega
theorem covT_len (F : Int) (a b : BitVec 128) : (covT F a b).length ≤ 254 := by
  unfold covT
  split
  · rename_i h
    have r := covE_rng F a b h
    have := cov_len F a b (b.toNat - a.toNat + 1) r (by have := r.2.2; omega)
    obtain ⟨hf, _⟩ := right0 F a r.1
    have := (fam_bd F hf).2
    omega
  · simp
/-- The number that lies in a block of two cells. -/
def natAt (w : World) (B : Nat) : Nat := (intOf (cv w B 0)).toNat * 18446744073709551616 + (intOf (cv w B 1)).toNat
theorem natAt_of {w : World} {B : Nat} {x : BitVec 128} (h : At w B x) : natAt w B = x.toNat := by
  unfold natAt cv
  rw [h.1, h.2.1]
  have := x.isLt
  simp only [Option.getD_some, intOf]
  rw [hIN, lIN]
  omega
theorem own_base {w : World} {base base' e size n : Nat} {v : Value} {xs : List Value} (h : w.ownsRow base e size v n xs) (hb : base' ≤ base) : w.ownsRow base' e size v n xs := by
  refine ⟨h.1, ?_⟩
  rcases h.2 with hn | ⟨g, cap, cur, hv, h1, h2⟩
  · exact .inl hn
  · exact .inr ⟨g, cap, cur, hv, by omega, h2⟩
theorem own_set {w : World} {base e size n : Nat} {v : Value} {xs : List Value} (h : w.ownsRow base e size v n xs) (p : Addr) (u : Value) (hn : v.ownBlock ≠ some p.block) : (w.setCell p u).ownsRow base e size v n xs := by
  refine ⟨h.1, ?_⟩
  rcases h.2 with hn | ⟨g, cap, cur, rfl, hb, hgg, rest⟩
  · exact .inl hn
  · refine .inr ⟨g, cap, cur, rfl, hb, ?_, rest⟩
    rw [← hgg]
    simp only [Value.ownBlock] at hn
    exact Below.heap_setCell w p u g (fun e => hn (by rw [e]))
theorem len_le (T pre l : List (BitVec 128 × Int)) (h : T = pre ++ l) (hl : T.length ≤ 254) : pre.length + l.length ≤ 254 := by
  rw [h, List.length_append] at hl; exact hl
end Go.Proofs.Ytmkjlcfoedglmaa
/-
  The routes of a list of segments, as a plain function; rows of routes of one's own.
-/
namespace Go.Proofs.Ytmkjlcfoedglmaa
open Go.RowKit
set_option linter.unusedSimpArgs false
set_option linter.unusedVariables false

theorem Try.infoR6 : (Try.prog.info? 50).map (fun i => (i.zero, i.size, i.bytes)) = some (some (.agg #[.int .u64 0, .int .u64 0, .int .i64 0, .int .i64 0]), 4, 32) := by kernel_rfl
theorem rowR_app : ∀ l m, rowR (l ++ m) = rowR l ++ rowR m := by
  intro l
  induction l with
  | nil => intro m; rfl
  | cons p l ih => intro m; simp [rowR, ih]
theorem rowR_one (l : List Rte) (x : BitVec 128) (n h : Int) : rowR (l ++ [((x, n), h)]) = rowR l ++ [.int .u64 (hI x), .int .u64 (lI x), .int .i64 n, .int .i64 h] := by rw [rowR_app]; rfl
theorem rowR_len6 (l : List Rte) : (rowR l).length = l.length * 4 := by
  induction l with
  | nil => rfl
  | cons r l ih => simp [rowR, ih]; omega
theorem rowR_cell (l : List Rte) : ∀ u ∈ rowR l, u.oneCell' = true := by
  induction l with
  | nil => intro u hu; cases hu
  | cons p l ih =>
    intro u hu
    simp only [rowR, List.mem_cons] at hu
    rcases hu with rfl | rfl | rfl | rfl | hu
    all_goals first | rfl | exact ih u hu
theorem ownR_cells {W : World} {base n g c : Nat} {l : List Rte} (h : W.ownsRow base 50 4 (.slice (some ⟨g, 0, none⟩) n c) n (rowR l)) (j : Nat) (hj : j < l.length) :
    W.cell? ⟨g, j * 4, none⟩ = some (.int .u64 (hI l[j].1.1)) ∧ W.cell? ⟨g, j * 4 + 1, none⟩ = some (.int .u64 (lI l[j].1.1)) ∧ W.cell? ⟨g, j * 4 + 2, none⟩ = some (.int .i64 l[j].1.2) ∧ W.cell? ⟨g, j * 4 + 3, none⟩ = some (.int .i64 l[j].2) := by
  obtain ⟨a0, a1, a2, a3⟩ := rowR_get l j hj
  have f := fun k u => h.cells (g := g) rfl k u
  exact ⟨by have := f _ _ a0; rwa [addA, Nat.zero_add] at this, by have := f _ _ a1; rwa [addA, Nat.zero_add] at this, by have := f _ _ a2; rwa [addA, Nat.zero_add] at this, by have := f _ _ a3; rwa [addA, Nat.zero_add] at this⟩
theorem newsR (W : World) (a b c d : Value) (t : TypeId) : ∀ j u, [a, b, c, d][j]? = some u → (W.alloc (.cells #[a, b, c, d] t)).cell? ((⟨W.heap.size, 0, none⟩ : Addr).add j) = some u := by
  intro j u hj
  match j, hj with
  | 0, hj => simp at hj; subst hj; simp [Addr.add, go_sem]
  | 1, hj => simp at hj; subst hj; simp [Addr.add, go_sem]
  | 2, hj => simp at hj; subst hj; simp [Addr.add, go_sem]
  | 3, hj => simp at hj; subst hj; simp [Addr.add, go_sem]
theorem fourR6 (a b c d : Int) : ∀ u ∈ [Value.int .u64 a, Value.int .u64 b, Value.int .i64 c, Value.int .i64 d], u.oneCell' = true := by
  intro u hu; simp at hu; rcases hu with rfl | rfl | rfl | rfl <;> rfl
theorem row_rwr6 {W : World} {v : Value} {l : List Rte} (h : Row W 4 v l.length (rowR l)) : RwR W v l := by
  obtain ⟨-, ao, c, e, -, h⟩ := h
  refine ⟨ao, c, e, ?_⟩
  rcases h with ⟨-, -, h⟩ | h
  · exact .inl (List.length_eq_zero_iff.mp h)
  · exact .inr h
theorem own_rwr {W : World} {base : Nat} {v : Value} {l : List Rte} (h : W.ownsRow base 50 4 v l.length (rowR l)) : RwR W v l := row_rwr6 (own_row h)
/-- The routes of one segment. -/
def covS (F : Int) (s : Sg) : List Rte := if s.2 = 0 then [] else (covT F s.1.1 s.1.2).map (fun p => (p, s.2))
def covR (F : Int) : List Sg → List Rte
  | [] => []
  | s :: l => covS F s ++ covR F l
theorem covS_len (F : Int) (s : Sg) : (covS F s).length ≤ 254 := by
  unfold covS
  split
  · simp
  · rw [List.length_map]; exact covT_len _ _ _
theorem covR_app (F : Int) : ∀ l m, covR F (l ++ m) = covR F l ++ covR F m := by
  intro l
  induction l with
  | nil => intro m; rfl
  | cons p l ih => intro m; simp [covR, ih]
theorem covR_len (F : Int) (l : List Sg) : (covR F l).length ≤ 254 * l.length := by
  induction l with
  | nil => simp [covR]
  | cons s l ih =>
    have := covS_len F s
    simp only [covR, List.length_append, List.length_cons]
    omega
theorem covR_take (F : Int) (l : List Sg) (k : Nat) (hk : k < l.length) : covR F (l.take (k + 1)) = covR F (l.take k) ++ covS F l[k] := by
  rw [List.take_add_one, List.getElem?_eq_getElem hk, covR_app]
  simp [covR]
end Go.Proofs.Ytmkjlcfoedglmaa
/-
  What the call of package algebra's covered does.
-/
namespace Go.Proofs.Ytmkjlcfoedglmaa
open Go.RowKit
set_option linter.unusedSimpArgs false
set_option linter.unusedVariables false

/-- What is known while a segment's routes are laid behind the others. -/
structure CvI (w : World) (F : Int) (S0 : Nat) (x y : BitVec 128) (h : Int) (cv : Value) (T : List (BitVec 128 × Int)) (L : List Rte) (dv : Value) (W : World) : Prop where
  t : AtU W (w.heap.size + 1) F dv
  r : AtU W w.heap.size 0 (.slice none 0 0)
  s : AtG W S0 x y h
  own : W.ownsRow (w.heap.size + 2) 50 4 dv L.length (rowR L)
  cov : W.ownsRow (S0 + 1) 48 3 cv T.length (rowP T)
  ne1 : dv.ownBlock ≠ some S0
  ne2 : ∀ z, cv.ownBlock = some z → dv.ownBlock ≠ some z
  bel : Below w.heap.size w W
  s0 : w.heap.size + 2 ≤ S0
theorem CvI.step {w : World} {F : Int} {S0 : Nat} {x y : BitVec 128} {h : Int} {cv : Value} {T : List (BitVec 128 × Int)} {L : List Rte} {dv : Value} {W w4 : World} (k : CvI w F S0 x y h cv T L dv W) (o1 o2 : Obj) (px : BitVec 128) (pn : Int) (g cap : Nat)
    (hown : w4.ownsRow (w.heap.size + 2) 50 4 (.slice (some ⟨g, 0, none⟩) (L.length + 1) cap) (L.length + 1) (rowR L ++ [.int .u64 (hI px), .int .u64 (lI px), .int .i64 pn, .int .i64 h])) (hg : ((W.alloc o1).alloc o2).grownBy w4 dv.ownBlock) (hat : dv.ownBlock = some g ∨ g = ((W.alloc o1).alloc o2).heap.size) :
    CvI w F S0 x y h cv T (L ++ [((px, pn), h)]) (.slice (some ⟨g, 0, none⟩) (L.length + 1) cap) (w4.setCell ⟨w.heap.size + 1, 1, none⟩ (.slice (some ⟨g, 0, none⟩) (L.length + 1) cap)) := by
  have hz : ((W.alloc o1).alloc o2).heap.size = W.heap.size + 2 := by simp
  have hT := k.t.lt
  have hS := k.s.lt
  have hR := k.r.lt
  have ob : ∀ z, dv.ownBlock = some z → w.heap.size + 2 ≤ z ∧ z < W.heap.size := fun z e => k.own.lt z e
  have he : ∀ z, z < W.heap.size → dv.ownBlock ≠ some z → w4.heap[z]? = W.heap[z]? := by
    intro z h1 h2
    rw [hg.block z (by omega) (fun e => h2 e.symm), hAl _ (by simp; omega), hAl _ h1]
  have hT' : w4.heap[w.heap.size + 1]? = W.heap[w.heap.size + 1]? := he _ hT (fun e => by have := (ob _ e).1; omega)
  have gne : ∀ z, z < W.heap.size → dv.ownBlock ≠ some z → g ≠ z := by
    intro z h1 h2 e
    rcases hat with q | q
    · exact h2 (by rw [q, e])
    · omega
  have gT : g ≠ w.heap.size + 1 := gne _ hT (fun e => by have := (ob _ e).1; omega)
  refine ⟨(k.t.heap hT').set1 _, ?_, ?_, ?_, ?_, ?_, ?_, ?_, k.s0⟩
  · exact k.r.heap (by rw [hSet _ (by omega), he _ hR (fun e => by have := (ob _ e).1; omega)])
  · exact k.s.heap (by rw [hSet _ (by have := k.s0; omega), he _ hS k.ne1])
  · rw [show (L ++ [((px, pn), h)]).length = L.length + 1 by simp, rowR_one]
    refine own_heap hown (fun z e => ?_)
    have : z = g := by simpa [Value.ownBlock] using e.symm
    rw [this, hSet _ gT]
  · refine own_heap k.cov (fun z e => ?_)
    have hz' := k.cov.lt z e
    rw [hSet _ (by have := k.s0; omega), he z hz'.2 (k.ne2 z e)]
  · intro e
    have : g = S0 := by simpa [Value.ownBlock] using e
    exact gne S0 hS k.ne1 this
  · intro z e e2
    have hz' := k.cov.lt z e
    have : g = z := by simpa [Value.ownBlock] using e2
    exact gne z hz'.2 (k.ne2 z e) this
  · refine Below.setCell ?_ (by simp) _
    exact ((k.bel.alloc k.bel.size o1).alloc (by simp; have := k.bel.size; omega) o2).grown hg (by have := k.bel.size; omega) (fun z e => by have := (ob z e).1; omega)
def okL (F : Int) (l : List Sg) : Bool := decide ((covR F l).length ≤ 1048576)
/-- The routes of the table of some segments. -/
def tabL (F : Int) (l : List Sg) : List Rte := if okL F l = true then covR F l else []
/-- The family, the error of the table of some segments. -/
def tabW (F : Int) (l : List Sg) : Int := if okL F l = true then F else 0
def tabX (F : Int) (l : List Sg) : Int := if okL F l = true then 0 else 16
theorem tab_yes {F : Int} {l : List Sg} (h : okL F l = true) : tabW F l = F ∧ tabX F l = 0 ∧ tabL F l = covR F l := by
  unfold tabW tabX tabL
  rw [if_pos h, if_pos h, if_pos h]
  exact ⟨rfl, rfl, rfl⟩
theorem tab_no {F : Int} {l : List Sg} (h : okL F l = false) : tabW F l = 0 ∧ tabX F l = 16 ∧ tabL F l = [] := by
  have h : ¬ okL F l = true := by rw [h]; decide
  unfold tabW tabX tabL
  rw [if_neg h, if_neg h, if_neg h]
  exact ⟨rfl, rfl, rfl⟩
theorem rowP_get6 : ∀ (l : List (BitVec 128 × Int)) (j : Nat) (hj : j < l.length), (rowP l)[j * 3]? = some (.int .u64 (hI l[j].1)) ∧ (rowP l)[j * 3 + 1]? = some (.int .u64 (lI l[j].1)) ∧ (rowP l)[j * 3 + 2]? = some (.int .i64 l[j].2) := by
  intro l
  induction l with
  | nil => intro j hj; simp at hj
  | cons p l ih =>
    intro j hj
    cases j with
    | zero => simp [rowP]
    | succ j =>
      have := ih j (by simpa using hj)
      rw [show (j + 1) * 3 = j * 3 + 3 by omega, show j * 3 + 3 + 1 = j * 3 + 1 + 3 by omega, show j * 3 + 3 + 2 = j * 3 + 2 + 3 by omega]
      simpa [rowP] using this
theorem rowP_cells6 {W : World} {base g cap : Nat} {T : List (BitVec 128 × Int)} (h : W.ownsRow base 48 3 (.slice (some ⟨g, 0, none⟩) T.length cap) T.length (rowP T)) (j : Nat) (hj : j < T.length) :
    W.cell? ⟨g, j * 3, none⟩ = some (.int .u64 (hI T[j].1)) ∧ W.cell? ⟨g, j * 3 + 1, none⟩ = some (.int .u64 (lI T[j].1)) ∧ W.cell? ⟨g, j * 3 + 2, none⟩ = some (.int .i64 T[j].2) := by
  obtain ⟨a0, a1, a2⟩ := rowP_get6 T j hj
  have f := fun k u => h.cells (g := g) rfl k u
  exact ⟨by have := f _ _ a0; rwa [addA, Nat.zero_add] at this, by have := f _ _ a1; rwa [addA, Nat.zero_add] at this, by have := f _ _ a2; rwa [addA, Nat.zero_add] at this⟩
theorem cov_part (F : Int) (l : List Sg) (k : Nat) (hk : k < l.length) (h0 : ¬ l[k].2 = 0) : covR F (l.take (k + 1)) = covR F (l.take k) ++ ((covT F l[k].1.1 l[k].1.2).take (covT F l[k].1.1 l[k].1.2).length).map (fun p => (p, l[k].2)) := by
  rw [covR_take F l k hk, covS, if_neg h0, List.take_length]
theorem cov_zero (F : Int) (l : List Sg) (k : Nat) (hk : k < l.length) (h0 : l[k].2 = 0) : covR F (l.take (k + 1)) = covR F (l.take k) := by
  rw [covR_take F l k hk, covS, if_pos h0, List.append_nil]
theorem cov_sub (F : Int) (l : List Sg) (k : Nat) : (covR F (l.take k)).length ≤ (covR F l).length := by
  have : covR F l = covR F (l.take k) ++ covR F (l.drop k) := by rw [← covR_app, List.take_append_drop]
  rw [this, List.length_append]; omega
theorem CvI.mid {w : World} {F : Int} {S0 : Nat} {x y : BitVec 128} {h : Int} {cv : Value} {T : List (BitVec 128 × Int)} {L : List Rte} {dv : Value} {W w4 : World} (k : CvI w F S0 x y h cv T L dv W) (o1 o2 : Obj) (hg : ((W.alloc o1).alloc o2).grownBy w4 dv.ownBlock) : AtU w4 (w.heap.size + 1) F dv := by
  have hT := k.t.lt
  refine k.t.heap ?_
  rw [hg.block _ (by simp; omega) (fun e => by have := (k.own.lt _ e.symm).1; omega), hAl _ (by simp; omega), hAl _ hT]
theorem CvI.start {w : World} {F : Int} {x y : BitVec 128} {h : Int} {cv : Value} {T : List (BitVec 128 × Int)} {L : List Rte} {dv : Value} {wr w2 : World} (kT : AtU wr (w.heap.size + 1) F dv) (kR : AtU wr w.heap.size 0 (.slice none 0 0)) (hown : wr.ownsRow (w.heap.size + 2) 50 4 dv L.length (rowR L)) (kB : Below w.heap.size w wr)
    (hb : Below (wr.alloc (.cells #[.int .u64 (hI x), .int .u64 (lI x), .int .u64 (hI y), .int .u64 (lI y), .int .i64 h] 52)).heap.size (wr.alloc (.cells #[.int .u64 (hI x), .int .u64 (lI x), .int .u64 (hI y), .int .u64 (lI y), .int .i64 h] 52)) w2)
    (hcov : w2.ownsRow (wr.alloc (.cells #[.int .u64 (hI x), .int .u64 (lI x), .int .u64 (hI y), .int .u64 (lI y), .int .i64 h] 52)).heap.size 48 3 cv T.length (rowP T)) : CvI w F wr.heap.size x y h cv T L dv w2 := by
  have hz : (wr.alloc (.cells #[.int .u64 (hI x), .int .u64 (lI x), .int .u64 (hI y), .int .u64 (lI y), .int .i64 h] 52)).heap.size = wr.heap.size + 1 := by simp
  have he : ∀ z, z < wr.heap.size → w2.heap[z]? = wr.heap[z]? := fun z hz' => by rw [hb.block z (by omega), hAl _ hz']
  have hT := kT.lt
  have hR := kR.lt
  rw [hz] at hcov
  refine ⟨kT.heap (he _ hT), kR.heap (he _ hR), (atg_new wr wr.heap.size x y h 52 rfl).below hb, own_heap hown (fun g e => he g (hown.lt g e).2), hcov, fun e => by have := (hown.lt _ e).2; omega, fun z e e2 => ?_, keepb hb (kB.alloc kB.size _), by omega⟩
  have := (hown.lt _ e2).2
  have := (hcov.lt z e).1
  omega
theorem newsB (W : World) (B : Nat) (hB : B = W.heap.size) (a b c d : Value) (t : TypeId) : ∀ j u, [a, b, c, d][j]? = some u → (W.alloc (.cells #[a, b, c, d] t)).cell? ((⟨B, 0, none⟩ : Addr).add j) = some u := by
  subst hB
  intro j u hj
  match j, hj with
  | 0, hj => simp at hj; subst hj; simp [Addr.add, go_sem]
  | 1, hj => simp at hj; subst hj; simp [Addr.add, go_sem]
  | 2, hj => simp at hj; subst hj; simp [Addr.add, go_sem]
  | 3, hj => simp at hj; subst hj; simp [Addr.add, go_sem]
theorem cov_app (T : List (BitVec 128 × Int)) (L : List Rte) (h : Int) (j : Nat) (hj : j < T.length) : L ++ (T.take (j + 1)).map (fun p => (p, h)) = (L ++ (T.take j).map (fun p => (p, h))) ++ [((T[j].1, T[j].2), h)] := by
  rw [List.take_add_one, List.getElem?_eq_getElem hj, List.map_append, ← List.append_assoc]
  rfl
theorem cov_size (T : List (BitVec 128 × Int)) (L : List Rte) (h : Int) (j : Nat) : (L ++ (T.take j).map (fun p => (p, h))).length ≤ L.length + T.length := by
  simp; omega
end Go.Proofs.Ytmkjlcfoedglmaa
/-
  What the calls of package algebra's checkSeg and checkSegs do.
-/
namespace Go.Proofs.Ytmkjlcfoedglmaa
open Go.RowKit
set_option linter.unusedSimpArgs false
set_option linter.unusedVariables false

/-- The segment ahead of place k. -/
def prevO (l : List Sg) : Nat → Option Sg
  | 0 => none
  | k + 1 => l[k]?
theorem sgs_drop (F : Int) (l : List Sg) (k : Nat) (hk : k < l.length) (p : Option Sg) : sgsGo F p (l.drop k) = if sgE F l[k] = 0 then (if moO F p = true then (if (l[k].1.1 == nxO F p) = true then (if p.map (·.2) = some l[k].2 then 19 else sgsGo F (some l[k]) (l.drop (k + 1))) else 19) else 19) else sgE F l[k] := by
  rw [List.drop_eq_getElem_cons hk, sgsGo]
end Go.Proofs.Ytmkjlcfoedglmaa
/-
  What the calls of package algebra's Table and of the law's known do.
-/
namespace Go.Proofs.Ytmkjlcfoedglmaa
open Go.RowKit
set_option linter.unusedSimpArgs false
set_option linter.unusedVariables false

/-- What Table tells of some segments. -/
def tW (F : Int) (l : List Sg) : Int := if sgsE F l = 0 then tabW F l else 0
def tX (F : Int) (l : List Sg) : Int := if sgsE F l = 0 then tabX F l else sgsE F l
def tL (F : Int) (l : List Sg) : List Rte := if sgsE F l = 0 then tabL F l else []
theorem t_yes {F : Int} {l : List Sg} (h : sgsE F l = 0) : tW F l = tabW F l ∧ tX F l = tabX F l ∧ tL F l = tabL F l := by
  unfold tW tX tL
  rw [if_pos h, if_pos h, if_pos h]
  exact ⟨rfl, rfl, rfl⟩
theorem t_no {F : Int} {l : List Sg} (h : ¬ sgsE F l = 0) : tW F l = 0 ∧ tX F l = sgsE F l ∧ tL F l = [] := by
  unfold tW tX tL
  rw [if_neg h, if_neg h, if_neg h]
  exact ⟨rfl, rfl, rfl⟩
/-- The chapter's first example, as it is asked. -/
def kn0 : List Rte := [((0x0a000000000000000000000000000000#128, 8), 1)]
theorem kn_swp : swp 32 kn0 = [((0#128, 0x09ffffff000000000000000000000000#128), 0), ((0x0a000000000000000000000000000000#128, 0x0affffff000000000000000000000000#128), 1), ((0x0b000000000000000000000000000000#128, 0xffffffff000000000000000000000000#128), 0)] := by decide +kernel
theorem kn_rts : rtsE 32 kn0 = 0 := by decide +kernel
theorem kn_tab (z : Int) (h : TabE 32 kn0 z) : z = 0 := by
  rcases h.2 kn_rts with ⟨_, h⟩ | ⟨h, _⟩
  · exact h
  · exfalso
    apply h
    intro a ha
    simp [kn0] at ha
theorem kn_rwr (w : World) : RwR (w.alloc (.cells #[.int .u64 720575940379279360, .int .u64 0, .int .i64 8, .int .i64 1] 50)) (.slice (some ⟨w.heap.size, 0, none⟩) 1 1) kn0 := by
  refine ⟨some ⟨w.heap.size, 0, none⟩, 1, rfl, .inr ⟨w.heap.size, 0, rfl, ?_⟩⟩
  intro j u hj
  have h0 : hI 0x0a000000000000000000000000000000#128 = 720575940379279360 := by decide
  have h1 : lI 0x0a000000000000000000000000000000#128 = 0 := by decide
  have e : rowR kn0 = [.int .u64 720575940379279360, .int .u64 0, .int .i64 8, .int .i64 1] := by simp [kn0, rowR, h0, h1]
  rw [e] at hj
  rw [Nat.zero_add]
  match j, hj with
  | 0, hj => simp at hj; subst hj; simp [go_sem]
  | 1, hj => simp at hj; subst hj; simp [go_sem]
  | 2, hj => simp at hj; subst hj; simp [go_sem]
  | 3, hj => simp at hj; subst hj; simp [go_sem]
set_option maxRecDepth 20000 in
set_option maxHeartbeats 8000000 in
theorem known6_any (w : World) : Calls Try.prog 5 #[] w fun e w' => e = .returned (.bool true) ∧ Below w.heap.size w w' := by
  have KS := segs_any 32 _ kn0 _ (kn_rwr w)
  have HB := hidR (bl1 w (.cells #[.int .u64 720575940379279360, .int .u64 0, .int .i64 8, .int .i64 1] 50))
  go_enter Try.func5, Try.ntmps5
  go_wp2_with fail
  refine KS.mono ?_
  rintro e w1 ⟨⟨z, v', hz, rfl, hown, -⟩, hb⟩
  have hz0 := kn_tab z hz
  subst hz0
  have hown := hown rfl
  rw [kn_swp] at hown
  have HB1 := hidR (keepb hb HB.out)
  obtain ⟨g, cap, e, -, -⟩ := hown.form (by simp)
  have e : v' = .slice (some ⟨g, 0, none⟩) 3 cap := e
  subst e
  obtain ⟨c0, c1, -, -, c4⟩ := ownG_cells (g := g) (n := 3) hown 1 (by simp)
  have h0 : hI 0x0a000000000000000000000000000000#128 = 720575940379279360 := by decide
  have h1 : lI 0x0a000000000000000000000000000000#128 = 0 := by decide
  simp only [List.getElem_cons_succ, List.getElem_cons_zero, h0, h1] at c0 c1 c4
  clear KS hb HB hown hz
  go_wp2
  go_ret
  exact ⟨rfl, HB1.out⟩
end Go.Proofs.Ytmkjlcfoedglmaa
/-
  What the call of the law's SameSegs (of two that are the same) does.
-/
namespace Go.Proofs.Ytmkjlcfoedglmaa
open Go.RowKit
set_option linter.unusedSimpArgs false
set_option linter.unusedVariables false

theorem eqG_run (x y : BitVec 128) (h : Int) (w : World) :
    (Op.equalIn 10000 52 (.agg #[.int .u64 (hI x), .int .u64 (lI x), .int .u64 (hI y), .int .u64 (lI y), .int .i64 h]) (.agg #[.int .u64 (hI x), .int .u64 (lI x), .int .u64 (hI y), .int .u64 (lI y), .int .i64 h])).run Try.prog w = .ok true w := by
  go_simp
set_option maxHeartbeats 4000000 in
theorem sameSegs_any (v u : Value) (l : List Sg) (w : World) (hv : RwG w v l) (hu : RwG w u l) (hl : l.length ≤ 1000000000) :
    Calls Try.prog 10 #[v, u] w fun e w' => e = .returned (.bool true) ∧ Below w.heap.size w w' := by
  obtain ⟨ao, c, rfl, hv⟩ := hv
  obtain ⟨au, d, rfl, hu⟩ := hu
  have HV := hidR hv
  have HU := hidR hu
  clear hv hu
  go_enter Try.func10, Try.ntmps10
  go_wp2_with fail
  go_loopw [5] (fun i wr => ∃ k : Nat, k ≤ l.length ∧ i = .int .i64 k ∧ Below w.heap.size w wr) (fun i _ => l.length - (intOf i).toNat)
  case atStart => exact ⟨0, by omega, rfl, Below.refl _ _⟩
  case round =>
    obtain ⟨k, hk, rfl, hB⟩ := hrel
    by_cases hlt : (k : Int) < (l.length : Int)
    · have hks : k < l.length := by omega
      rcases HV.out with e | ⟨b, off, rfl, hc⟩
      · rw [e] at hks; simp at hks
      · rcases HU.out with e | ⟨b', off', rfl, hc'⟩
        · rw [e] at hks; simp at hks
        · obtain ⟨x0, x1, x2, x3, x4⟩ := rwg_cells hc k hks
          obtain ⟨y0, y1, y2, y3, y4⟩ := rwg_cells hc' k hks
          have x0 := keepc hB x0
          have x1 := keepc hB x1
          have x2 := keepc hB x2
          have x3 := keepc hB x3
          have x4 := keepc hB x4
          have y0 := keepc hB y0
          have y1 := keepc hB y1
          have y2 := keepc hB y2
          have y3 := keepc hB y3
          have y4 := keepc hB y4
          have hE := fun w => eqG_run l[k].1.1 l[k].1.2 l[k].2 w
          generalize l[k].1.1 = px at *
          generalize l[k].1.2 = pn at *
          generalize l[k].2 = ph at *
          have mk : IntKind.i64.wrap ((k : Int) + 1) = (k : Int) + 1 := by rw [IntKind.wrap_i64]; omega
          clear hc hc' HV HU
          go_wp2_with fail
          go_quiet (fail)
          go_wp2
          go_roundw
          case rel => exact ⟨k + 1, by omega, by go_num, below_drewN hB _⟩
          case measure => simp [intOf]; omega
    · have hd : ¬ k < l.length := by omega
      clear HV HU
      go_wp2
      go_ret
      exact ⟨rfl, hB⟩
end Go.Proofs.Ytmkjlcfoedglmaa
/-
  How many segments a sweep tells at most.
-/
namespace Go.Proofs.Ytmkjlcfoedglmaa
set_option linter.unusedSimpArgs false
set_option linter.unusedVariables false

theorem endT_len (F : Int) : ∀ (op : List Rte) (t : T3), (endT F op t).2.2.length ≤ op.length + t.2.2.length
  | [], t => by simp [endT]
  | o :: os, t => by
    rw [endT]
    have h1 := endT_len F os (tell3 F (lastW F o.1.1 o.1.2) o.2 t)
    have h2 := tell3_len F (lastW F o.1.1 o.1.2) o.2 t
    simp only [List.length_cons]
    omega
theorem swpGo_len (F : Int) : ∀ (L op : List Rte) (t : T3), (swpGo F op t L).2.2.length ≤ op.length + t.2.2.length + 2 * L.length
  | [], op, t => by rw [swpGo]; have := endT_len F op t; simp only [List.length_nil]; omega
  | r :: L, op, t => by
    rw [swpGo]
    have h1 := swpGo_len F L (r :: popO r op) (entT F r (hopO (popO r op)) (popT F r op t))
    have h2 := entT_len F r (hopO (popO r op)) (popT F r op t)
    have h3 := popT_len F r op t
    simp only [List.length_cons] at h1 ⊢
    omega
theorem swp_len (F : Int) (l : List Rte) : (swp F l).length ≤ 1 + 2 * l.length := by
  have := swpGo_len F l op0 t30
  unfold swp
  rw [List.length_reverse]
  have e : op0.length + t30.2.2.length = 1 := rfl
  omega
end Go.Proofs.Ytmkjlcfoedglmaa
