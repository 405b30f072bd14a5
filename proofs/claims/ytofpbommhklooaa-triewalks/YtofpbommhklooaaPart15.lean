/-
  Part 15 of the proof: 3 texts, one behind the other.
-/
import Derived.Test.YtofpbommhklooaaPart14
import Derived.Test.YtofpbommhklooaaPart13
import Derived.Test.YtofpbommhklooaaPart12
import Derived.Test.YtofpbommhklooaaPart10
import Derived.Test.YtofpbommhklooaaPart11
/-
  What a tree's Path and Lookup tell.
-/
namespace Go.Proofs.Ytofpbommhklooaa
open Go.RowKit Go.Shelf
set_option linter.unusedSimpArgs false
set_option linter.unusedVariables false
attribute [local go_sem] Oper.semAt_some

theorem wl_nil8 {P : Program} {ops : Array Oper} {Q : Exit → Act → World → Prop} {a : Act} {w : World} (h : wpList P ops Q [] a w) : Q .normal a w := h
theorem tpath_any (B : Nat) (x : BitVec 128) (w : World) :
    Calls Try.prog 7 #[.pointer (some ⟨B, 0, none⟩), .agg #[.int .u64 (hI x), .int .u64 (lI x)]] w fun e w' => e = .returned (.func (.func 24) #[.agg #[.pointer (some ⟨B, 0, none⟩), .int .u64 (hI x), .int .u64 (lI x)]] #[]) ∧ Below w.heap.size w w' := by
  have q := bl1 w (.cells #[.int .u64 (hI x), .int .u64 (lI x)] 27)
  obtain ⟨a0, a1, -⟩ := at_new w w.heap.size x 27 rfl
  go_enter Try.func7, Try.ntmps7
  go_wp2
  exact bodyPost_ret (v := .func (.func 24) #[.agg #[.pointer (some ⟨B, 0, none⟩), .int .u64 (hI x), .int .u64 (lI x)]] #[]) (by simp [results, Try.results7, go_sem, *]) rfl ⟨rfl, q⟩
/-- The last next hop on a way. -/
def lastH (L : List Nd) : List Int → Int → Int
  | [], h => h
  | n :: l, h => lastH L l (if 0 < (ndAt L n).hop then (ndAt L n).hop else h)
theorem lastH_one (L : List Nd) : ∀ (l : List Int) (n h : Int), lastH L (l ++ [n]) h = if 0 < (ndAt L n).hop then (ndAt L n).hop else lastH L l h
  | [], n, h => rfl
  | m :: l, n, h => lastH_one L l n _
theorem AtN.kept {W W' : World} {b o : Nat} {x : Nd} (k : AtN W b o x) {row : Option Nat} (hg : W.grownBy W' row) (hr : ∀ r, row = some r → ∃ o : Obj, W.heap[r]? = some o ∧ o.isCells = false) : AtN W' b o x := ⟨cell_kept k.1 hg hr, cell_kept k.2.1 hg hr, cell_kept k.2.2.1 hg hr, cell_kept k.2.2.2.1 hg hr, cell_kept k.2.2.2.2.1 hg hr, cell_kept k.2.2.2.2.2 hg hr⟩
theorem TrN.kept {W W' : World} {B : Nat} {F : Int} {g cap : Nat} {wv : Value} {L : List Nd} (k : TrN W B F g cap wv L) {row : Option Nat} (hg : W.grownBy W' row) (hr : ∀ r, row = some r → ∃ o : Obj, W.heap[r]? = some o ∧ o.isCells = false) : TrN W' B F g cap wv L := ⟨cell_kept k.w hg hr, cell_kept k.n hg hr, cell_kept k.o hg hr, fun j hj => (k.row j hj).kept hg hr⟩
theorem AtN.heap {W W' : World} {b o : Nat} {x : Nd} (k : AtN W b o x) (e : W'.heap[b]? = W.heap[b]?) : AtN W' b o x := ⟨(World.cell?_of_block (a := ⟨b, o, none⟩) e).trans k.1, (World.cell?_of_block (a := ⟨b, o + 1, none⟩) e).trans k.2.1, (World.cell?_of_block (a := ⟨b, o + 2, none⟩) e).trans k.2.2.1, (World.cell?_of_block (a := ⟨b, o + 3, none⟩) e).trans k.2.2.2.1, (World.cell?_of_block (a := ⟨b, o + 4, none⟩) e).trans k.2.2.2.2.1, (World.cell?_of_block (a := ⟨b, o + 5, none⟩) e).trans k.2.2.2.2.2⟩
theorem TrN.heap {W W' : World} {B : Nat} {F : Int} {g cap : Nat} {wv : Value} {L : List Nd} (k : TrN W B F g cap wv L) (e : W'.heap[B]? = W.heap[B]?) (e2 : W'.heap[g]? = W.heap[g]?) : TrN W' B F g cap wv L := ⟨(World.cell?_of_block (a := ⟨B, 0, none⟩) e).trans k.w, (World.cell?_of_block (a := ⟨B, 1, none⟩) e).trans k.n, (World.cell?_of_block (a := ⟨B, 2, none⟩) e).trans k.o, fun j hj => (k.row j hj).heap e2⟩
set_option maxRecDepth 100000 in
set_option maxHeartbeats 8000000 in
theorem tlook_any (N : Nat) (B : Nat) (F : Int) (g cap : Nat) (wv : Value) (L : List Nd) (x : BitVec 128) (hR : checkE F x F = 0 → WayTo L x N 0) (w : World) (hM : TrN w B F g cap wv L) (hL : 0 < L.length) (ho : ∀ x ∈ L, x.ok) (hl : L.length ≤ 2147483647) :
    Calls Try.prog 8 #[.pointer (some ⟨B, 0, none⟩), .agg #[.int .u64 (hI x), .int .u64 (lI x)]] w fun e w' => e = .returned (.int .i64 (lastH L (pthL L F x N) 0)) ∧ Below w.heap.size w w' := by
  have hBw : B < w.heap.size := cell_in hM.w
  have hgw : g < w.heap.size := cell_in (hM.row 0 hL).1
  have q1 := bl1 w (.cells #[.pointer (some ⟨B, 0, none⟩)] 29)
  have q2 := bl1 (w.alloc (.cells #[.pointer (some ⟨B, 0, none⟩)] 29)) (.cells #[.int .u64 (hI x), .int .u64 (lI x)] 27)
  have q3 := bl1 ((w.alloc (.cells #[.pointer (some ⟨B, 0, none⟩)] 29)).alloc (.cells #[.int .u64 (hI x), .int .u64 (lI x)] 27)) (.cells #[.int .i64 0] 3)
  have HB0 := hidX (keepb q3 (keepb q2 q1))
  have HP0 := hidX (((cl1_new w w.heap.size (.pointer (some ⟨B, 0, none⟩)) 29 rfl).below q2).below q3)
  have HX0 := hidX ((at_new (w.alloc (.cells #[.pointer (some ⟨B, 0, none⟩)] 29)) (w.heap.size + 1) x 27 (by simp)).below q3)
  have HH0 := hidX (cl1_new ((w.alloc (.cells #[.pointer (some ⟨B, 0, none⟩)] 29)).alloc (.cells #[.int .u64 (hI x), .int .u64 (lI x)] 27)) (w.heap.size + 2) (.int .i64 0) 3 (by simp))
  have HM0 := hidX (((hM.below q1).below q2).below q3)
  have KP := fun w => tpath_any B x w
  have HO : Hid ((∀ x ∈ L, x.ok) ∧ L.length ≤ 2147483647) := hidX ⟨ho, hl⟩
  have HR := hidX hR
  obtain ⟨p0, p1⟩ := HP0.out
  obtain ⟨x0, x1, -⟩ := HX0.out
  clear q1 q2 q3 hM ho hl hR hL
  refine (callsIn_wide (n := 9)).1 ?_
  refine callsIn_of_wp_marks Try.func8 rfl trivial ?_ rfl
  simp only [Try.ntmps8, List.size_toArray, List.length_cons, List.length_nil, Nat.reduceAdd, Nat.reduceSub, Array.replicate_succ, Array.replicate_zero, List.push_toArray, List.append_toArray, List.nil_append, List.cons_append]
  refine wpIn_wide.2 ?_
  go_wp2_with fail
  refine (KP _).mono ?_
  rintro e Wl ⟨rfl, hb⟩
  have HB1 := hidX (keepb hb HB0.out)
  have HP1 := hidX (HP0.out.below hb)
  have HH1 := hidX (HH0.out.below hb)
  have HM1 := hidX (HM0.out.below hb)
  have hWl : w.heap.size + 2 < Wl.heap.size := HH1.out.lt
  clear hb HB0 HP0 HX0 HH0 HM0 KP p0 p1 x0 x1
  go_wp2_with fail
  refine (wpIn_wide (n := 9)).1 ?_
  refine rangeY 9 (by decide) (gf := 24) (ba := #[.agg #[.pointer (some ⟨B, 0, none⟩), .int .u64 (hI x), .int .u64 (lI x)]]) (lb := #[]) rfl (enters_of Try.func24 (by kernel_rfl) rfl)
    (way_each (9 - 1) N (fun z => z = B ∨ z = g) (Wl.heap.size + 2) B F g cap wv L x HR.out Wl HM1.out (.inl (.inl rfl)) (.inl (.inr rfl)) HO.out.1 HO.out.2) (Nat.le_refl _) (fun h k => h.trans k) (fun V o o' h1 h2 => kw_put (by rintro (q | q) <;> omega) (by omega) V o o' h1 h2) (Below.refl _ _) (fun _ => rfl)
    (fun pre V => (TrN V B F g cap wv L ∧ Cl1 V w.heap.size (.pointer (some ⟨B, 0, none⟩)) ∧ Cl1 V (w.heap.size + 2) (.int .i64 (lastH L pre 0))) ∧ Below w.heap.size w V)
    (fun c pre V => False)
    (OwnFrom.and (Own.from (fun s A B row hs hg hr => ⟨hs.1.kept hg hr, hs.2.1.kept hg hr, hs.2.2.kept hg hr⟩) _) (ownFrom_below (Nat.le_refl _) (by omega)))
    (fun c s A B row hs hg hr => hs)
    ⟨⟨HM1.out, HP1.out, HH1.out⟩, HB1.out⟩
    (fun y a' V => a' = { tmps := #[.pointer (some ⟨B, 0, none⟩), .agg #[.int .u64 (hI x), .int .u64 (lI x)], .pointer (some ⟨w.heap.size, 0, none⟩), .pointer (some ⟨w.heap.size + 1, 0, none⟩), .int .i64 0, .pointer (some ⟨w.heap.size + 1 + 1, 0, none⟩), .int .i64 y, undef, .pointer (some ⟨B, 0, none⟩), .agg #[.int .u64 (hI x), .int .u64 (lI x)], .func (.func 24) #[.agg #[.pointer (some ⟨B, 0, none⟩), .int .u64 (hI x), .int .u64 (lI x)]] #[], .int .i64 y, undef, undef, undef, undef, undef, undef, undef], defers := [] })
    (fun y a' s A B row hs hg hr => hs) ?assign ?body ?done ?stop
  case assign =>
    rintro lo pre y V K ⟨⟨hi1, hi2, hi3⟩, hi4⟩ hK
    have HK := hidX (hK ({ tmps := #[.pointer (some ⟨B, 0, none⟩), .agg #[.int .u64 (hI x), .int .u64 (lI x)], .pointer (some ⟨w.heap.size, 0, none⟩), .pointer (some ⟨w.heap.size + 1, 0, none⟩), .int .i64 0, .pointer (some ⟨w.heap.size + 1 + 1, 0, none⟩), .int .i64 y, undef, .pointer (some ⟨B, 0, none⟩), .agg #[.int .u64 (hI x), .int .u64 (lI x)], .func (.func 24) #[.agg #[.pointer (some ⟨B, 0, none⟩), .int .u64 (hI x), .int .u64 (lI x)]] #[], .int .i64 y, undef, undef, undef, undef, undef, undef, undef], defers := [] }) V (KeepsFrom.refl _ _) (KW.refl _ _ _) ⟨⟨hi1, hi2, hi3⟩, hi4⟩ rfl)
    clear hK hi1 hi2 hi3 hi4
    unfold encI
    simp only [List.zip_toArray, List.zip_cons_cons, List.zip_nil_left, List.zip_nil_right, List.foldl_toArray, List.foldl_cons, List.foldl_nil, List.setIfInBounds_toArray, List.set_cons_zero, List.set_cons_succ, Array.zip]
    gi_wp2
    exact HK.out
  case body =>
    rintro lo pre y a' V hl - ⟨⟨hi1, hi2, hi3⟩, hi4⟩ rfl hlt
    have KH := thop_any B F g cap wv L y V hi1 HO.out.1
    have HI1 := hidX hi1
    have HI2 := hidX hi2
    have HI3 := hidX hi3
    have HI4 := hidX hi4
    obtain ⟨p0, p1⟩ := hi2
    have HE := hidX (lastH_one L pre y 0)
    have hwV : w.heap.size + 2 < V.heap.size := hi3.lt
    clear hi1 hi3 hi4 p1
    revert KH HE HI3
    generalize (ndAt L y).hop = hp
    generalize lastH L pre 0 = h0
    intro KH HI3 HE
    gi_wp2_with fail
    refine ⟨trivial, ?_⟩
    have KH2 : CallsIn (Fence.wide.inRound lo) 6 Try.prog 16 #[.pointer (some ⟨B, 0, none⟩), .int .i64 y] V _ := (callsIn_wide (n := 6)).2 KH
    refine KH2.mono ?_
    clear KH2
    rintro e V2 ⟨rfl, hb⟩
    have HM2 := hidX (HI1.out.below hb)
    have HP2 := hidX (HI2.out.below hb)
    have hH2 := HI3.out.below hb
    have HB2 := hidX (keepb hb HI4.out)
    have HKF : Hid (KeepsFrom Wl.heap.size V V2) := hidX ⟨hb.size, fun z o h1 h2 _ => (hb.block z (Array.getElem?_eq_some_iff.1 h2).1).trans h2⟩
    have HK2 : Hid (KW (fun z => z = B ∨ z = g) (Wl.heap.size + 2) V V2) := hidX (kw_below hb)
    clear hb HI1 HI2 HI3 HI4 KH p0
    by_cases c : 0 < hp
    · have c' : decide (0 < hp) = true := by simpa using c
      have HE2 : Hid (lastH L (pre ++ [y]) 0 = hp) := hidX (by rw [HE.out, if_pos c])
      have HG : Hid (KeepsFrom Wl.heap.size V (V2.setCell ⟨w.heap.size + 2, 0, none⟩ (.int .i64 hp)) ∧ KW (fun z => z = B ∨ z = g) (Wl.heap.size + 2) V (V2.setCell ⟨w.heap.size + 2, 0, none⟩ (.int .i64 hp)) ∧ (TrN (V2.setCell ⟨w.heap.size + 2, 0, none⟩ (.int .i64 hp)) B F g cap wv L ∧ Cl1 (V2.setCell ⟨w.heap.size + 2, 0, none⟩ (.int .i64 hp)) w.heap.size (.pointer (some ⟨B, 0, none⟩)) ∧ Cl1 (V2.setCell ⟨w.heap.size + 2, 0, none⟩ (.int .i64 hp)) (w.heap.size + 2) (.int .i64 (lastH L (pre ++ [y]) 0))) ∧ Below w.heap.size w (V2.setCell ⟨w.heap.size + 2, 0, none⟩ (.int .i64 hp))) := hidX (by
        have k := HK2.out.trans (kw_set (o := 0) (b := w.heap.size + 2) (by rintro (q | q) <;> omega) (by omega) V2 (.int .i64 hp))
        refine ⟨⟨k.1, fun z o h1 h2 h3 => ?_⟩, k, ⟨HM2.out.heap (hSet6 _ (by omega)) (hSet6 _ (by omega)), HP2.out.heap (hSet6 _ (by omega)), by rw [HE2.out]; exact hH2.set _⟩, HB2.out.setCell (p := ⟨w.heap.size + 2, 0, none⟩) (by simp) _⟩
        exact (hSet6 _ (by omega)).trans (HKF.out.same z o h1 h2 h3))
      obtain ⟨h1, h2⟩ := hH2
      clear c HE HM2 HP2 HB2 HK2 HKF
      gi_wp2
      exact HG.out
    · have c' : decide (0 < hp) = false := by simpa using c
      have HE2 : Hid (lastH L (pre ++ [y]) 0 = h0) := hidX (by rw [HE.out, if_neg c])
      have HH2 := hidX hH2
      clear c hH2
      gi_wp2
      exact ⟨HKF.out, HK2.out, ⟨HM2.out, HP2.out, by rw [HE2.out]; exact HH2.out⟩, HB2.out⟩
  case done =>
    rintro D ys V hD rfl ⟨⟨hi1, hi2, hi3⟩, hi4⟩ hK
    obtain ⟨h0, -⟩ := hi3
    have hc := h0
    have HB := hidX hi4
    clear hi1 hi2 hi4
    refine wl_nil8 (P := Try.prog) (ops := #[]) ?_
    go_wp2
    refine ⟨by simp, .inl ⟨_, _, rfl, run_takeDeferred hK, ?_⟩⟩
    refine ⟨_, ?_, rfl, HB.out.trans (belowK_b (w := w) (Nat.le_refl _) _ D _ _ (by omega) hK rfl rfl)⟩
    simp [results, Try.results8, go_sem]
  case stop =>
    rintro D c pre V hD hpre hi hK
    exact hi.elim
end Go.Proofs.Ytofpbommhklooaa
/-
  What a tree's At tells.
-/
namespace Go.Proofs.Ytofpbommhklooaa
open Go.RowKit Go.Shelf
set_option linter.unusedSimpArgs false
set_option linter.unusedVariables false
attribute [local go_sem] Oper.semAt_some

theorem gh_quiet8 {P : Program} {o : Oper} {a' : Act} {w' : World} {K : Act → World → Prop} {Q' : Exit → Act → World → Prop} {v : Value} (hr : (execOp a'.eval o).run P w' = .ok (.value v) w') (hK : K (a'.put o.dst v) w') : o.wp P a' w' K Q' := by
  unfold Oper.wp
  rw [hr]
  exact hK
theorem gh_same8 {x y : Array Value} {d s : Nat} (h : x.toList.eraseIdx d = y.toList.eraseIdx d) (hs : s ≠ d) : x[s]? = y[s]? := by
  have := erase_get x.toList y.toList d s h hs
  simpa using this
theorem Slt.old8 {l : List Oper} {a A : Act} {lp : Array Bool} {a' : Act} (h : Slt l a A lp a') (s : Nat) (hs : ∀ o ∈ l, o.dst ≠ some s) : a'.tmps[s]? = a.tmps[s]? := h.oth s (fun k o hk _ => hs o (List.mem_of_getElem? hk))
theorem AtP.set8 {W : World} {B : Nat} {px : BitVec 128} {pn : Int} (k : AtP W B px pn) (z : BitVec 128) (n : Int) : AtP (((W.setCell ⟨B, 0, none⟩ (.int .u64 (hI z))).setCell ⟨B, 1, none⟩ (.int .u64 (lI z))).setCell ⟨B, 2, none⟩ (.int .i64 n)) B z n := by
  obtain ⟨c0, c1, c2, f0, f1, f2⟩ := k
  refine ⟨?_, ?_, ?_, ?_, ?_, ?_⟩ <;> simp [go_sem, *]
structure RA (V : World) (cx : BitVec 128) (nn : Int) (b5 b6 : Bool) (g : Nat) (W : World) : Prop where
  bel : Below V.heap.size V W
  a : b5 = true → V.heap.size ≤ g ∧ (if b6 = true then AtP W g cx nn else AtP W g 0#128 0)
  c : b6 = true → b5 = true
theorem RA.below {V : World} {cx : BitVec 128} {nn : Int} {b5 b6 : Bool} {g : Nat} {W W' : World} (k : RA V cx nn b5 b6 g W) (hb : Below W.heap.size W W') : RA V cx nn b5 b6 g W' := ⟨keepb hb k.bel, fun h => ⟨(k.a h).1, by have := (k.a h).2; cases b6 <;> simp at this ⊢ <;> exact this.below hb⟩, k.c⟩
theorem RA.al {V : World} {cx : BitVec 128} {nn : Int} {b6 : Bool} {g : Nat} {W : World} (k : RA V cx nn false b6 g W) : RA V cx nn true b6 W.heap.size (W.alloc (.cells #[.int .u64 0, .int .u64 0, .int .i64 0] 45)) := by
  have h6 : b6 = false := by
    cases h : b6 with
    | false => rfl
    | true => exact absurd (k.c h) (by decide)
  have hb := bl1 W (.cells #[.int .u64 0, .int .u64 0, .int .i64 0] 45)
  have ha := atp_new W W.heap.size 0#128 0 45 rfl
  rw [hI_zero, lI_zero] at ha
  exact ⟨keepb hb k.bel, fun _ => ⟨k.bel.size, by rw [h6, if_neg (by decide)]; exact ha⟩, fun _ => rfl⟩
theorem RA.st {V : World} {cx : BitVec 128} {nn : Int} {b5 : Bool} {g : Nat} {W : World} (k : RA V cx nn b5 false g W) (h5 : b5 = true) : RA V cx nn b5 true g (((W.setCell ⟨g, 0, none⟩ (.int .u64 (hI cx))).setCell ⟨g, 1, none⟩ (.int .u64 (lI cx))).setCell ⟨g, 2, none⟩ (.int .i64 nn)) := by
  obtain ⟨h1, h2⟩ := k.a h5
  rw [if_neg (by decide)] at h2
  exact ⟨((k.bel.setCell (p := ⟨g, 0, none⟩) h1 _).setCell (p := ⟨g, 1, none⟩) h1 _).setCell (p := ⟨g, 2, none⟩) h1 _, fun _ => ⟨h1, by rw [if_pos rfl]; exact h2.set8 cx nn⟩, fun _ => h5⟩

end Go.Proofs.Ytofpbommhklooaa
/-
  The document's tree, once it stands: what it tells of a number.
-/
namespace Go.Proofs.Ytofpbommhklooaa
open Go.RowKit
set_option linter.unusedSimpArgs false
set_option linter.unusedVariables false
attribute [local go_sem] Oper.semAt_some

/-- The document's tree in memory, to be read. -/
structure DrT (W : World) (D : Nat) (F : Int) (v : Value) (P : List (BitVec 128 × Int)) (Z : List Int) (gp cp gz cz : Nat) : Prop where
  f : W.cell? ⟨D, 0, none⟩ = some (.int .i64 F)
  ps : W.cell? ⟨D, 1, none⟩ = some (.slice (some ⟨gp, 0, none⟩) P.length cp)
  zs : W.cell? ⟨D, 2, none⟩ = some (.slice (some ⟨gz, 0, none⟩) Z.length cz)
  tf : W.cell? ⟨D, 3, none⟩ = some (.int .i64 F)
  tv : W.cell? ⟨D, 4, none⟩ = some v
  p : ∀ j x m, P[j]? = some (x, m) → W.cell? ⟨gp, j * 3, none⟩ = some (.int .u64 (hI x)) ∧ W.cell? ⟨gp, j * 3 + 1, none⟩ = some (.int .u64 (lI x)) ∧ W.cell? ⟨gp, j * 3 + 2, none⟩ = some (.int .i64 m)
  z : ∀ j k, Z[j]? = some k → W.cell? ⟨gz, j, none⟩ = some (.int .i64 k)
section
variable {W W' : World} {D : Nat} {F : Int} {v : Value} {P : List (BitVec 128 × Int)} {Z : List Int} {gp cp gz cz : Nat}
theorem DrT.below (k : DrT W D F v P Z gp cp gz cz) (hb : Below W.heap.size W W') : DrT W' D F v P Z gp cp gz cz :=
  ⟨keepc hb k.f, keepc hb k.ps, keepc hb k.zs, keepc hb k.tf, keepc hb k.tv, fun j x m h => ⟨keepc hb (k.p j x m h).1, keepc hb (k.p j x m h).2.1, keepc hb (k.p j x m h).2.2⟩, fun j q h => keepc hb (k.z j q h)⟩
/-- What New has made. -/
theorem DwV.read {base : Nat} {vp vh : Value} (k : DwV W base D F v P Z vp vh) (hP : P ≠ []) (hZ : Z ≠ []) : ∃ gp cp gz cz, DrT W D F v P Z gp cp gz cz := by
  have hs : ∀ {e size : Nat} {u : Value} {n : Nat} {xs : List Value}, W.ownsRow base e size u n xs → 0 < n → ∃ g c, u = .slice (some ⟨g, 0, none⟩) n c := by
    intro e size u n xs h hn
    rcases h.2 with ⟨e0, e1, _⟩ | ⟨g', cap', cur, e0, hb, hg, hnc, hm, hs, ht⟩
    · omega
    · exact ⟨_, _, e0⟩
  obtain ⟨gp, cp, rfl⟩ := hs k.op (List.length_pos_iff.mpr hP)
  obtain ⟨gz, cz, rfl⟩ := hs k.oz (List.length_pos_iff.mpr hZ)
  refine ⟨gp, cp, gz, cz, at_block k.d 0 _ rfl, at_block k.d 1 _ rfl, at_block k.d 2 _ rfl, at_block k.d 3 _ rfl, at_block k.d 4 _ rfl, ?_, ?_⟩
  · intro j x m h
    obtain ⟨hj, e⟩ := List.getElem?_eq_some_iff.mp h
    have := rowPf_get P j hj
    rw [e] at this
    exact ⟨(cells8 k.op this.1).1, (cells8 k.op this.2.1).1, (cells8 k.op this.2.2).1⟩
  · intro j q h
    obtain ⟨hj, e⟩ := List.getElem?_eq_some_iff.mp h
    have := rowZ_get Z j hj
    rw [e] at this
    exact (cells8 k.oz this).1
end
theorem ris8_any (D : Nat) (F : Int) (v : Value) (P : List (BitVec 128 × Int)) (Z : List Int) (gp cp gz cz : Nat) (n : Int) (w : World) (h : DrT w D F v P Z gp cp gz cz) :
    Calls Try.prog 44 #[.pointer (some ⟨D, 0, none⟩), .int .i64 n] w fun e w' => e = .returned (.bool (decide (0 ≤ n) && decide (n < P.length))) ∧ w' = w := by
  have n0 := h.ps
  clear h
  go_enter Try.func44, Try.ntmps44
  by_cases c : 0 ≤ n
  · have c' : decide (0 ≤ n) = true := by simpa using c
    rw [c']
    go_wp2
    exact bodyPost_ret (v := .bool (decide (n < P.length))) (by simp [results, Try.results44, go_sem, *]) rfl ⟨by simp, rfl⟩
  · have c' : decide (0 ≤ n) = false := by simpa using c
    rw [c']
    go_wp2
    exact bodyPost_ret (v := .bool false) (by simp [results, Try.results44, go_sem, *]) rfl ⟨by simp, rfl⟩
/-- Where the nodes within a node end, by the prefixes alone. -/
def EndP (P : List (BitVec 128 × Int)) (n e : Nat) : Prop := n < e ∧ e ≤ P.length ∧ ∀ k x m y u, n < k → k ≤ e → P[k]? = some (x, m) → P[n]? = some (y, u) → rwithinB x m y u = decide (k < e)
end Go.Proofs.Ytofpbommhklooaa
