/-
  Part 15 of the proof: 2 texts, one behind the other.
-/
import Derived.Test.YtoejhhoniflpeaaPart14
import Derived.Test.YtoejhhoniflpeaaPart13
/-
  What a tree's Path and Lookup tell.
-/
namespace Go.Proofs.Ytoejhhoniflpeaa
open Go.RowKit Go.Shelf
set_option linter.unusedSimpArgs false
set_option linter.unusedVariables false
attribute [local go_sem] Oper.semAt_some

theorem wl_nil8 {P : Program} {ops : Array Oper} {Q : Exit → Act → World → Prop} {a : Act} {w : World} (h : wpList P ops Q [] a w) : Q .normal a w := h
theorem tpath_any (B : Nat) (x : BitVec 128) (w : World) :
    Calls Try.prog 26 #[.pointer (some ⟨B, 0, none⟩), .agg #[.int .u64 (hI x), .int .u64 (lI x)]] w fun e w' => e = .returned (.func (.func 51) #[.agg #[.pointer (some ⟨B, 0, none⟩), .int .u64 (hI x), .int .u64 (lI x)]] #[]) ∧ Below w.heap.size w w' := by
  have q := bl1 w (.cells #[.int .u64 (hI x), .int .u64 (lI x)] 37)
  obtain ⟨a0, a1, -⟩ := at_new w w.heap.size x 37 rfl
  go_enter Try.func26, Try.ntmps26
  go_wp2
  exact bodyPost_ret (v := .func (.func 51) #[.agg #[.pointer (some ⟨B, 0, none⟩), .int .u64 (hI x), .int .u64 (lI x)]] #[]) (by simp [results, Try.results26, go_sem, *]) rfl ⟨rfl, q⟩
/-- The last next hop on a way. -/
def lastH (L : List Nd) : List Int → Int → Int
  | [], h => h
  | n :: l, h => lastH L l (if 0 < (ndAt L n).hop then (ndAt L n).hop else h)
theorem lastH_one (L : List Nd) : ∀ (l : List Int) (n h : Int), lastH L (l ++ [n]) h = if 0 < (ndAt L n).hop then (ndAt L n).hop else lastH L l h
  | [], n, h => rfl
  | m :: l, n, h => lastH_one L l n _
theorem AtN.kept {W W' : World} {b o : Nat} {x : Nd} (k : AtN W b o x) {row : Option Nat} (hg : W.grownBy W' row) (hr : ∀ r, row = some r → ∃ o : Obj, W.heap[r]? = some o ∧ o.isCells = false) : AtN W' b o x := ⟨cell_kept k.1 hg hr, cell_kept k.2.1 hg hr, cell_kept k.2.2.1 hg hr, cell_kept k.2.2.2.1 hg hr, cell_kept k.2.2.2.2.1 hg hr, cell_kept k.2.2.2.2.2 hg hr⟩
theorem TrN.kept {W W' : World} {B : Nat} {F : Int} {g cap : Nat} {wv : Value} {L : List Nd} (k : TrN W B F g cap wv L) {row : Option Nat} (hg : W.grownBy W' row) (hr : ∀ r, row = some r → ∃ o : Obj, W.heap[r]? = some o ∧ o.isCells = false) : TrN W' B F g cap wv L := ⟨cell_kept k.w hg hr, cell_kept k.n hg hr, cell_kept k.o hg hr, fun j hj => (k.row j hj).kept hg hr⟩
theorem AtN.heap {W W' : World} {b o : Nat} {x : Nd} (k : AtN W b o x) (e : W'.heap[b]? = W.heap[b]?) : AtN W' b o x := ⟨(World.cell?_of_block (a := ⟨b, o, none⟩) e).trans k.1, (World.cell?_of_block (a := ⟨b, o + 1, none⟩) e).trans k.2.1, (World.cell?_of_block (a := ⟨b, o + 2, none⟩) e).trans k.2.2.1, (World.cell?_of_block (a := ⟨b, o + 3, none⟩) e).trans k.2.2.2.1, (World.cell?_of_block (a := ⟨b, o + 4, none⟩) e).trans k.2.2.2.2.1, (World.cell?_of_block (a := ⟨b, o + 5, none⟩) e).trans k.2.2.2.2.2⟩
theorem TrN.heap {W W' : World} {B : Nat} {F : Int} {g cap : Nat} {wv : Value} {L : List Nd} (k : TrN W B F g cap wv L) (e : W'.heap[B]? = W.heap[B]?) (e2 : W'.heap[g]? = W.heap[g]?) : TrN W' B F g cap wv L := ⟨(World.cell?_of_block (a := ⟨B, 0, none⟩) e).trans k.w, (World.cell?_of_block (a := ⟨B, 1, none⟩) e).trans k.n, (World.cell?_of_block (a := ⟨B, 2, none⟩) e).trans k.o, fun j hj => (k.row j hj).heap e2⟩
set_option maxRecDepth 100000 in
set_option maxHeartbeats 8000000 in
theorem tlook_any (N : Nat) (B : Nat) (F : Int) (g cap : Nat) (wv : Value) (L : List Nd) (x : BitVec 128) (hR : checkE F x F = 0 → WayTo L x N 0) (w : World) (hM : TrN w B F g cap wv L) (hL : 0 < L.length) (ho : ∀ x ∈ L, x.ok) (hl : L.length ≤ 2147483647) :
    Calls Try.prog 27 #[.pointer (some ⟨B, 0, none⟩), .agg #[.int .u64 (hI x), .int .u64 (lI x)]] w fun e w' => e = .returned (.int .i64 (lastH L (pthL L F x N) 0)) ∧ Below w.heap.size w w' := by
  have hBw : B < w.heap.size := cell_in hM.w
  have hgw : g < w.heap.size := cell_in (hM.row 0 hL).1
  have q1 := bl1 w (.cells #[.pointer (some ⟨B, 0, none⟩)] 26)
  have q2 := bl1 (w.alloc (.cells #[.pointer (some ⟨B, 0, none⟩)] 26)) (.cells #[.int .u64 (hI x), .int .u64 (lI x)] 37)
  have q3 := bl1 ((w.alloc (.cells #[.pointer (some ⟨B, 0, none⟩)] 26)).alloc (.cells #[.int .u64 (hI x), .int .u64 (lI x)] 37)) (.cells #[.int .i64 0] 3)
  have HB0 := hidX (keepb q3 (keepb q2 q1))
  have HP0 := hidX (((cl1_new w w.heap.size (.pointer (some ⟨B, 0, none⟩)) 26 rfl).below q2).below q3)
  have HX0 := hidX ((at_new (w.alloc (.cells #[.pointer (some ⟨B, 0, none⟩)] 26)) (w.heap.size + 1) x 37 (by simp)).below q3)
  have HH0 := hidX (cl1_new ((w.alloc (.cells #[.pointer (some ⟨B, 0, none⟩)] 26)).alloc (.cells #[.int .u64 (hI x), .int .u64 (lI x)] 37)) (w.heap.size + 2) (.int .i64 0) 3 (by simp))
  have HM0 := hidX (((hM.below q1).below q2).below q3)
  have KP := fun w => tpath_any B x w
  have HO : Hid ((∀ x ∈ L, x.ok) ∧ L.length ≤ 2147483647) := hidX ⟨ho, hl⟩
  have HR := hidX hR
  obtain ⟨p0, p1⟩ := HP0.out
  obtain ⟨x0, x1, -⟩ := HX0.out
  clear q1 q2 q3 hM ho hl hR hL
  refine (callsIn_wide (n := 9)).1 ?_
  refine callsIn_of_wp_marks Try.func27 rfl trivial ?_ rfl
  simp only [Try.ntmps27, List.size_toArray, List.length_cons, List.length_nil, Nat.reduceAdd, Nat.reduceSub, Array.replicate_succ, Array.replicate_zero, List.push_toArray, List.append_toArray, List.nil_append, List.cons_append]
  refine wpIn_wide.2 ?_
  go_wp2_with fail
  refine (KP _).mono ?_
  rintro e Wl ⟨rfl, hb⟩
  have HB1 := hidX (keepb hb HB0.out)
  have HP1 := hidX (HP0.out.below hb)
  have HH1 := hidX (HH0.out.below hb)
  have HM1 := hidX (HM0.out.below hb)
  have hWl : w.heap.size + 2 < Wl.heap.size := HH1.out.lt
  clear hb HB0 HP0 HX0 HH0 HM0 KP p0 p1 x0 x1
  go_wp2_with fail
  refine (wpIn_wide (n := 9)).1 ?_
  refine rangeY 9 (by decide) (gf := 51) (ba := #[.agg #[.pointer (some ⟨B, 0, none⟩), .int .u64 (hI x), .int .u64 (lI x)]]) (lb := #[]) rfl (enters_of Try.func51 (by kernel_rfl) rfl)
    (way_each (9 - 1) N (fun z => z = B ∨ z = g) (Wl.heap.size + 2) B F g cap wv L x HR.out Wl HM1.out (.inl (.inl rfl)) (.inl (.inr rfl)) HO.out.1 HO.out.2) (Nat.le_refl _) (fun h k => h.trans k) (fun V o o' h1 h2 => kw_put (by rintro (q | q) <;> omega) (by omega) V o o' h1 h2) (Below.refl _ _) (fun _ => rfl)
    (fun pre V => (TrN V B F g cap wv L ∧ Cl1 V w.heap.size (.pointer (some ⟨B, 0, none⟩)) ∧ Cl1 V (w.heap.size + 2) (.int .i64 (lastH L pre 0))) ∧ Below w.heap.size w V)
    (fun c pre V => False)
    (OwnFrom.and (Own.from (fun s A B row hs hg hr => ⟨hs.1.kept hg hr, hs.2.1.kept hg hr, hs.2.2.kept hg hr⟩) _) (ownFrom_below (Nat.le_refl _) (by omega)))
    (fun c s A B row hs hg hr => hs)
    ⟨⟨HM1.out, HP1.out, HH1.out⟩, HB1.out⟩
    (fun y a' V => a' = { tmps := #[.pointer (some ⟨B, 0, none⟩), .agg #[.int .u64 (hI x), .int .u64 (lI x)], .pointer (some ⟨w.heap.size, 0, none⟩), .pointer (some ⟨w.heap.size + 1, 0, none⟩), .int .i64 0, .pointer (some ⟨w.heap.size + 1 + 1, 0, none⟩), .int .i64 y, undef, .pointer (some ⟨B, 0, none⟩), .agg #[.int .u64 (hI x), .int .u64 (lI x)], .func (.func 51) #[.agg #[.pointer (some ⟨B, 0, none⟩), .int .u64 (hI x), .int .u64 (lI x)]] #[], .int .i64 y, undef, undef, undef, undef, undef, undef, undef], defers := [] })
    (fun y a' s A B row hs hg hr => hs) ?assign ?body ?done ?stop
  case assign =>
    rintro lo pre y V K ⟨⟨hi1, hi2, hi3⟩, hi4⟩ hK
    have HK := hidX (hK ({ tmps := #[.pointer (some ⟨B, 0, none⟩), .agg #[.int .u64 (hI x), .int .u64 (lI x)], .pointer (some ⟨w.heap.size, 0, none⟩), .pointer (some ⟨w.heap.size + 1, 0, none⟩), .int .i64 0, .pointer (some ⟨w.heap.size + 1 + 1, 0, none⟩), .int .i64 y, undef, .pointer (some ⟨B, 0, none⟩), .agg #[.int .u64 (hI x), .int .u64 (lI x)], .func (.func 51) #[.agg #[.pointer (some ⟨B, 0, none⟩), .int .u64 (hI x), .int .u64 (lI x)]] #[], .int .i64 y, undef, undef, undef, undef, undef, undef, undef], defers := [] }) V (KeepsFrom.refl _ _) (KW.refl _ _ _) ⟨⟨hi1, hi2, hi3⟩, hi4⟩ rfl)
    clear hK hi1 hi2 hi3 hi4
    unfold encI
    simp only [List.zip_toArray, List.zip_cons_cons, List.zip_nil_left, List.zip_nil_right, List.foldl_toArray, List.foldl_cons, List.foldl_nil, List.setIfInBounds_toArray, List.set_cons_zero, List.set_cons_succ, Array.zip]
    gi_wp2
    exact HK.out
  case body =>
    rintro lo pre y a' V hl - ⟨⟨hi1, hi2, hi3⟩, hi4⟩ rfl hlt
    have KH := thop_any B F g cap wv L y V hi1 HO.out.1
    have HI1 := hidX hi1
    have HI2 := hidX hi2
    have HI3 := hidX hi3
    have HI4 := hidX hi4
    obtain ⟨p0, p1⟩ := hi2
    have HE := hidX (lastH_one L pre y 0)
    have hwV : w.heap.size + 2 < V.heap.size := hi3.lt
    clear hi1 hi3 hi4 p1
    revert KH HE HI3
    generalize (ndAt L y).hop = hp
    generalize lastH L pre 0 = h0
    intro KH HI3 HE
    gi_wp2_with fail
    refine ⟨trivial, ?_⟩
    have KH2 : CallsIn (Fence.wide.inRound lo) 6 Try.prog 14 #[.pointer (some ⟨B, 0, none⟩), .int .i64 y] V _ := (callsIn_wide (n := 6)).2 KH
    refine KH2.mono ?_
    clear KH2
    rintro e V2 ⟨rfl, hb⟩
    have HM2 := hidX (HI1.out.below hb)
    have HP2 := hidX (HI2.out.below hb)
    have hH2 := HI3.out.below hb
    have HB2 := hidX (keepb hb HI4.out)
    have HKF : Hid (KeepsFrom Wl.heap.size V V2) := hidX ⟨hb.size, fun z o h1 h2 _ => (hb.block z (Array.getElem?_eq_some_iff.1 h2).1).trans h2⟩
    have HK2 : Hid (KW (fun z => z = B ∨ z = g) (Wl.heap.size + 2) V V2) := hidX (kw_below hb)
    clear hb HI1 HI2 HI3 HI4 KH p0
    by_cases c : 0 < hp
    · have c' : decide (0 < hp) = true := by simpa using c
      have HE2 : Hid (lastH L (pre ++ [y]) 0 = hp) := hidX (by rw [HE.out, if_pos c])
      have HG : Hid (KeepsFrom Wl.heap.size V (V2.setCell ⟨w.heap.size + 2, 0, none⟩ (.int .i64 hp)) ∧ KW (fun z => z = B ∨ z = g) (Wl.heap.size + 2) V (V2.setCell ⟨w.heap.size + 2, 0, none⟩ (.int .i64 hp)) ∧ (TrN (V2.setCell ⟨w.heap.size + 2, 0, none⟩ (.int .i64 hp)) B F g cap wv L ∧ Cl1 (V2.setCell ⟨w.heap.size + 2, 0, none⟩ (.int .i64 hp)) w.heap.size (.pointer (some ⟨B, 0, none⟩)) ∧ Cl1 (V2.setCell ⟨w.heap.size + 2, 0, none⟩ (.int .i64 hp)) (w.heap.size + 2) (.int .i64 (lastH L (pre ++ [y]) 0))) ∧ Below w.heap.size w (V2.setCell ⟨w.heap.size + 2, 0, none⟩ (.int .i64 hp))) := hidX (by
        have k := HK2.out.trans (kw_set (o := 0) (b := w.heap.size + 2) (by rintro (q | q) <;> omega) (by omega) V2 (.int .i64 hp))
        refine ⟨⟨k.1, fun z o h1 h2 h3 => ?_⟩, k, ⟨HM2.out.heap (hSet6 _ (by omega)) (hSet6 _ (by omega)), HP2.out.heap (hSet6 _ (by omega)), by rw [HE2.out]; exact hH2.set _⟩, HB2.out.setCell (p := ⟨w.heap.size + 2, 0, none⟩) (by simp) _⟩
        exact (hSet6 _ (by omega)).trans (HKF.out.same z o h1 h2 h3))
      obtain ⟨h1, h2⟩ := hH2
      clear c HE HM2 HP2 HB2 HK2 HKF
      gi_wp2
      exact HG.out
    · have c' : decide (0 < hp) = false := by simpa using c
      have HE2 : Hid (lastH L (pre ++ [y]) 0 = h0) := hidX (by rw [HE.out, if_neg c])
      have HH2 := hidX hH2
      clear c hH2
      gi_wp2
      exact ⟨HKF.out, HK2.out, ⟨HM2.out, HP2.out, by rw [HE2.out]; exact HH2.out⟩, HB2.out⟩
  case done =>
    rintro D ys V hD rfl ⟨⟨hi1, hi2, hi3⟩, hi4⟩ hK
    obtain ⟨h0, -⟩ := hi3
    have hc := h0
    have HB := hidX hi4
    clear hi1 hi2 hi4
    refine wl_nil8 (P := Try.prog) (ops := #[]) ?_
    go_wp2
    refine ⟨by simp, .inl ⟨_, _, rfl, run_takeDeferred hK, ?_⟩⟩
    refine ⟨_, ?_, rfl, HB.out.trans (belowK_b (w := w) (Nat.le_refl _) _ D _ _ (by omega) hK rfl rfl)⟩
    simp [results, Try.results27, go_sem]
  case stop =>
    rintro D c pre V hD hpre hi hK
    exact hi.elim
end Go.Proofs.Ytoejhhoniflpeaa
/-
  What a tree's At tells.
-/
namespace Go.Proofs.Ytoejhhoniflpeaa
open Go.RowKit Go.Shelf
set_option linter.unusedSimpArgs false
set_option linter.unusedVariables false
attribute [local go_sem] Oper.semAt_some

theorem gh_quiet8 {P : Program} {o : Oper} {a' : Act} {w' : World} {K : Act → World → Prop} {Q' : Exit → Act → World → Prop} {v : Value} (hr : (execOp a'.eval o).run P w' = .ok (.value v) w') (hK : K (a'.put o.dst v) w') : o.wp P a' w' K Q' := by
  unfold Oper.wp
  rw [hr]
  exact hK
theorem gh_same8 {x y : Array Value} {d s : Nat} (h : x.toList.eraseIdx d = y.toList.eraseIdx d) (hs : s ≠ d) : x[s]? = y[s]? := by
  have := erase_get x.toList y.toList d s h hs
  simpa using this
theorem Slt.old8 {l : List Oper} {a A : Act} {lp : Array Bool} {a' : Act} (h : Slt l a A lp a') (s : Nat) (hs : ∀ o ∈ l, o.dst ≠ some s) : a'.tmps[s]? = a.tmps[s]? := h.oth s (fun k o hk _ => hs o (List.mem_of_getElem? hk))
theorem AtP.set8 {W : World} {B : Nat} {px : BitVec 128} {pn : Int} (k : AtP W B px pn) (z : BitVec 128) (n : Int) : AtP (((W.setCell ⟨B, 0, none⟩ (.int .u64 (hI z))).setCell ⟨B, 1, none⟩ (.int .u64 (lI z))).setCell ⟨B, 2, none⟩ (.int .i64 n)) B z n := by
  obtain ⟨c0, c1, c2, f0, f1, f2⟩ := k
  refine ⟨?_, ?_, ?_, ?_, ?_, ?_⟩ <;> simp [go_sem, *]
structure RA (V : World) (cx : BitVec 128) (nn : Int) (b5 b6 : Bool) (g : Nat) (W : World) : Prop where
  bel : Below V.heap.size V W
  a : b5 = true → V.heap.size ≤ g ∧ (if b6 = true then AtP W g cx nn else AtP W g 0#128 0)
  c : b6 = true → b5 = true
theorem RA.below {V : World} {cx : BitVec 128} {nn : Int} {b5 b6 : Bool} {g : Nat} {W W' : World} (k : RA V cx nn b5 b6 g W) (hb : Below W.heap.size W W') : RA V cx nn b5 b6 g W' := ⟨keepb hb k.bel, fun h => ⟨(k.a h).1, by have := (k.a h).2; cases b6 <;> simp at this ⊢ <;> exact this.below hb⟩, k.c⟩
theorem RA.al {V : World} {cx : BitVec 128} {nn : Int} {b6 : Bool} {g : Nat} {W : World} (k : RA V cx nn false b6 g W) : RA V cx nn true b6 W.heap.size (W.alloc (.cells #[.int .u64 0, .int .u64 0, .int .i64 0] 39)) := by
  have h6 : b6 = false := by
    cases h : b6 with
    | false => rfl
    | true => exact absurd (k.c h) (by decide)
  have hb := bl1 W (.cells #[.int .u64 0, .int .u64 0, .int .i64 0] 39)
  have ha := atp_new W W.heap.size 0#128 0 39 rfl
  rw [hI_zero, lI_zero] at ha
  exact ⟨keepb hb k.bel, fun _ => ⟨k.bel.size, by rw [h6, if_neg (by decide)]; exact ha⟩, fun _ => rfl⟩
theorem RA.st {V : World} {cx : BitVec 128} {nn : Int} {b5 : Bool} {g : Nat} {W : World} (k : RA V cx nn b5 false g W) (h5 : b5 = true) : RA V cx nn b5 true g (((W.setCell ⟨g, 0, none⟩ (.int .u64 (hI cx))).setCell ⟨g, 1, none⟩ (.int .u64 (lI cx))).setCell ⟨g, 2, none⟩ (.int .i64 nn)) := by
  obtain ⟨h1, h2⟩ := k.a h5
  rw [if_neg (by decide)] at h2
  exact ⟨((k.bel.setCell (p := ⟨g, 0, none⟩) h1 _).setCell (p := ⟨g, 1, none⟩) h1 _).setCell (p := ⟨g, 2, none⟩) h1 _, fun _ => ⟨h1, by rw [if_pos rfl]; exact h2.set8 cx nn⟩, fun _ => h5⟩

set_option maxRecDepth 100000 in
set_option maxHeartbeats 16000000 in
theorem tat_any (B : Nat) (F : Int) (g cap wg wl wc : Nat) (L : List Nd) (k j : Nat) (x : BitVec 128) (w : World) (h : TrN w B F g cap (.slice (some ⟨wg, 0, none⟩) wl wc) L) (hk : k < L.length) (hok : L[k].ok) (hj : L[k].word = j) (hjl : j < wl) (hc0 : w.cell? ⟨wg, j * 2, none⟩ = some (.int .u64 (hI x))) (hc1 : w.cell? ⟨wg, j * 2 + 1, none⟩ = some (.int .u64 (lI x))) :
    Calls Try.prog 13 #[.pointer (some ⟨B, 0, none⟩), .int .i64 (k : Int)] w fun e w' => e = .returned (.tuple #[.agg #[.int .u64 (hI (ofV F x L[k].length)), .int .u64 (lI (ofV F x L[k].length)), .int .i64 (ofN F x L[k].length)], .bool true]) ∧ Below w.heap.size w w' := by
  have q0 := bl1 w (.cells #[.int .u64 0, .int .u64 0, .int .i64 0] 39)
  have KH := thas_any B F g cap (.slice (some ⟨wg, 0, none⟩) wl wc) L (k : Int) _ (h.below q0)
  have hin : isN L (k : Int) = true := by unfold isN; simp; omega
  rw [hin] at KH
  have HM0 := hidX (h.below q0)
  have HR0 := hidX (((atp_new w w.heap.size 0#128 0 39 rfl)))
  rw [hI_zero, lI_zero] at HR0
  have HB0 := hidX q0
  have HCw := hidX (And.intro (keepc q0 hc0) (keepc q0 hc1))
  clear h q0 hin hc0 hc1
  have hrow := HM0.out.row k hk
  have KO := fun w => pof_any F x L[k].length w
  revert hrow hok hj KO
  generalize L[k] = nd
  obtain ⟨nw, nh, nc, np, ln, nt⟩ := nd
  intro hok hj hrow KO
  dsimp only at hj KO
  subst hj
  have hwl : IntKind.i64.wrap ln = ln := by unfold Nd.ok at hok; dsimp only at hok; rw [IntKind.wrap_i64]; omega
  have hkm : (k : Int) < L.length := by omega
  revert KO
  generalize ofV F x ln = cx
  generalize ofN F x ln = nn
  generalize ofE F x ln = oe
  intro KO
  have hn := HM0.out.n
  obtain ⟨r0, r1, r2, r3, r4, r5⟩ := hrow
  dsimp only at r0 r1 r2 r3 r4 r5
  go_enter Try.func13, Try.ntmps13
  go_wp2_with fail
  refine KH.mono ?_
  rintro e w1' ⟨rfl, rfl⟩
  clear KH
  generalize w.alloc (.cells #[.int .u64 0, .int .u64 0, .int .i64 0] 39) = w1 at *
  have q6 := bl1 w1 (.cells #[.int .i32 (j : Int), .int .i32 nh, .int .i32 nc, .int .u16 np, .int .u8 ln, .int .u8 nt] 80)
  have HM1 := hidX (HM0.out.below q6)
  have HR1 := hidX (HR0.out.below q6)
  have HB1 := hidX (keepb q6 HB0.out)
  have HC1 := hidX (And.intro (keepc q6 HCw.out.1) (keepc q6 HCw.out.2))
  have HN1 := hidX (AtN.new w1 w1.heap.size (⟨(j : Int), nh, nc, np, ln, nt⟩ : Nd) 80 rfl)
  clear q6 HM0 HR0 HB0 HCw
  go_wp2_with fail
  clear r0 r1 r2 r3 r4 r5 hn
  revert HM1 HR1 HB1 HC1 HN1
  generalize w1.alloc (.cells #[.int .i32 (j : Int), .int .i32 nh, .int .i32 nc, .int .u16 np, .int .u8 ln, .int .u8 nt] 80) = V1
  generalize w1.heap.size = N6
  intro HM1 HR1 HB1 HC1 HN1
  have HC : Hid (∀ X, Below V1.heap.size V1 X → TrN X B F g cap (.slice (some ⟨wg, 0, none⟩) wl wc) L ∧ AtN X N6 0 (⟨(j : Int), nh, nc, np, ln, nt⟩ : Nd) ∧ X.cell? ⟨wg, j * 2, none⟩ = some (.int .u64 (hI x)) ∧ X.cell? ⟨wg, j * 2 + 1, none⟩ = some (.int .u64 (lI x))) := hidX (fun X hb => ⟨HM1.out.below hb, HN1.out.below hb, keepc hb HC1.out.1, keepc hb HC1.out.2⟩)
  clear HM1 HC1 HN1 hok
  refine gh_region (γ := Nat) (qpOk 22 22 (by decide) (fun N => by kernel_rfl) (by kernel_rfl) (by kernel_rfl) (by kernel_rfl) (by kernel_rfl)) (by kernel_rfl) (by kernel_rfl) [some 22, some 23, some 24, some 25, some 26, some 27, some 28, some 29, some 30, some 31, some 32, some 33, some 34, some 35, some 36, some 37, some 21, some 38, some 39, some 7, none, some 8] (fun g => [.pointer (some ⟨B, 0, none⟩), .pointer (some ⟨B, 0, none⟩), .pointer (some ⟨B, 0, none⟩), .int .i64 F, .pointer (some ⟨B, 0, none⟩), .pointer (some ⟨B, 0, none⟩), .pointer (some ⟨B, 2, none⟩), .slice (some ⟨wg, 0, none⟩) wl wc, .pointer (some ⟨N6, 0, none⟩), .int .i32 (j : Int), .pointer (some ⟨wg, j * 2, none⟩), .agg #[.int .u64 (hI x), .int .u64 (lI x)], .pointer (some ⟨N6, 4, none⟩), .int .u8 ln, .int .i64 ln, .tuple #[.agg #[.int .u64 (hI cx), .int .u64 (lI cx), .int .i64 nn], .int .i64 oe], .tuple #[.agg #[.int .u64 (hI cx), .int .u64 (lI cx), .int .i64 nn], .int .i64 oe], .agg #[.int .u64 (hI cx), .int .u64 (lI cx), .int .i64 nn], .int .i64 oe, .pointer (some ⟨g, 0, none⟩), undef, .int .i64 oe]) (by kernel_rfl) (by simp) (fun lp g V => RA V1 cx nn (lp.getD 19 false) (lp.getD 20 false) g V) 0 ⟨below_drewN (Below.refl _ _) 1, fun h => (by simp at h), fun h => (by simp at h)⟩ ?step ?fin
  case step =>
    intro q o lp g w' a' ho hsz hun hdep hR hS K Q' hK
    have hfl : ∀ j, j ≠ q → (lp.setIfInBounds q true).getD j false = lp.getD j false := fun j hj => by rw [Array.getD_eq_getD_getElem?, Array.getD_eq_getD_getElem?, Array.getElem?_setIfInBounds_ne (by omega)]
    have hq : q < 22 := (List.getElem?_eq_some_iff.mp ho).1
    obtain ⟨⟨t0, t1, t2, -⟩, ⟨r0, r1, r2, r3, r4, r5⟩, c0, c1⟩ := HC.out w' hR.bel
    match q, ho, hun, hdep, hK, hfl, hq with
    | 0, ho, hun, hdep, hK, hfl, _ =>
      obtain rfl := Option.some.inj ho
      have o0 : a'.tmps[0]? = some (.pointer (some ⟨B, 0, none⟩)) := (hS.old8 0 (by simp)).trans rfl
      have hK' := hK g w' (fun _ _ _ _ _ _ => rfl) (by rw [hfl 19 (by decide), hfl 20 (by decide)]; exact hR) (.pointer (some ⟨B, 0, none⟩)) (by simp only [valO, Option.bind_some]; simp only [putAll, Act.put, List.setIfInBounds_toArray, List.set_cons_zero, List.set_cons_succ]; rfl)
      clear hS hdep hR
      refine gh_quiet8 (v := .pointer (some ⟨B, 0, none⟩)) ?_ ?_
      · (simp only [execOp, Act.eval, o0]; go_simp; first | done | (simp; done) | (simp [*]; done) | omega | (simp; omega) | (simp [*]; omega))
      · exact hK'
    | 1, ho, hun, hdep, hK, hfl, _ =>
      obtain rfl := Option.some.inj ho
      have d0 : lp.getD 0 false = true := hdep { on := 0, ground := .data } (by simp) rfl
      have e22 : a'.tmps[22]? = some (.pointer (some ⟨B, 0, none⟩)) := (hS.don 0 _ 22 rfl d0 rfl).trans (by simp only [putAll, Act.put, List.setIfInBounds_toArray, List.set_cons_zero, List.set_cons_succ]; rfl)
      have hK' := hK g w' (fun _ _ _ _ _ _ => rfl) (by rw [hfl 19 (by decide), hfl 20 (by decide)]; exact hR) (.pointer (some ⟨B, 0, none⟩)) (by simp only [valO, Option.bind_some]; simp only [putAll, Act.put, List.setIfInBounds_toArray, List.set_cons_zero, List.set_cons_succ]; rfl)
      clear hS hdep hR
      refine gh_quiet8 (v := .pointer (some ⟨B, 0, none⟩)) ?_ ?_
      · (simp only [execOp, Act.eval, e22]; go_simp; first | done | (simp; done) | (simp [*]; done) | omega | (simp; omega) | (simp [*]; omega))
      · exact hK'
    | 2, ho, hun, hdep, hK, hfl, _ =>
      obtain rfl := Option.some.inj ho
      have d1 : lp.getD 1 false = true := hdep { on := 1, ground := .data } (by simp) rfl
      have e23 : a'.tmps[23]? = some (.pointer (some ⟨B, 0, none⟩)) := (hS.don 1 _ 23 rfl d1 rfl).trans (by simp only [putAll, Act.put, List.setIfInBounds_toArray, List.set_cons_zero, List.set_cons_succ]; rfl)
      have hK' := hK g w' (fun _ _ _ _ _ _ => rfl) (by rw [hfl 19 (by decide), hfl 20 (by decide)]; exact hR) (.pointer (some ⟨B, 0, none⟩)) (by simp only [valO, Option.bind_some]; simp only [putAll, Act.put, List.setIfInBounds_toArray, List.set_cons_zero, List.set_cons_succ]; rfl)
      clear hS hdep hR
      refine gh_quiet8 (v := .pointer (some ⟨B, 0, none⟩)) ?_ ?_
      · (simp only [execOp, Act.eval, e23]; go_simp; first | done | (simp; done) | (simp [*]; done) | omega | (simp; omega) | (simp [*]; omega))
      · exact hK'
    | 3, ho, hun, hdep, hK, hfl, _ =>
      obtain rfl := Option.some.inj ho
      have d2 : lp.getD 2 false = true := hdep { on := 2, ground := .data } (by simp) rfl
      have e24 : a'.tmps[24]? = some (.pointer (some ⟨B, 0, none⟩)) := (hS.don 2 _ 24 rfl d2 rfl).trans (by simp only [putAll, Act.put, List.setIfInBounds_toArray, List.set_cons_zero, List.set_cons_succ]; rfl)
      have hK' := hK g w' (fun _ _ _ _ _ _ => rfl) (by rw [hfl 19 (by decide), hfl 20 (by decide)]; exact hR) (.int .i64 F) (by simp only [valO, Option.bind_some]; simp only [putAll, Act.put, List.setIfInBounds_toArray, List.set_cons_zero, List.set_cons_succ]; rfl)
      clear hS hdep hR
      refine gh_quiet8 (v := .int .i64 F) ?_ ?_
      · (simp only [execOp, Act.eval, e24]; go_simp; first | done | (simp; done) | (simp [*]; done) | omega | (simp; omega) | (simp [*]; omega))
      · exact hK'
    | 4, ho, hun, hdep, hK, hfl, _ =>
      obtain rfl := Option.some.inj ho
      have o0 : a'.tmps[0]? = some (.pointer (some ⟨B, 0, none⟩)) := (hS.old8 0 (by simp)).trans rfl
      have hK' := hK g w' (fun _ _ _ _ _ _ => rfl) (by rw [hfl 19 (by decide), hfl 20 (by decide)]; exact hR) (.pointer (some ⟨B, 0, none⟩)) (by simp only [valO, Option.bind_some]; simp only [putAll, Act.put, List.setIfInBounds_toArray, List.set_cons_zero, List.set_cons_succ]; rfl)
      clear hS hdep hR
      refine gh_quiet8 (v := .pointer (some ⟨B, 0, none⟩)) ?_ ?_
      · (simp only [execOp, Act.eval, o0]; go_simp; first | done | (simp; done) | (simp [*]; done) | omega | (simp; omega) | (simp [*]; omega))
      · exact hK'
    | 5, ho, hun, hdep, hK, hfl, _ =>
      obtain rfl := Option.some.inj ho
      have d4 : lp.getD 4 false = true := hdep { on := 4, ground := .data } (by simp) rfl
      have e26 : a'.tmps[26]? = some (.pointer (some ⟨B, 0, none⟩)) := (hS.don 4 _ 26 rfl d4 rfl).trans (by simp only [putAll, Act.put, List.setIfInBounds_toArray, List.set_cons_zero, List.set_cons_succ]; rfl)
      have hK' := hK g w' (fun _ _ _ _ _ _ => rfl) (by rw [hfl 19 (by decide), hfl 20 (by decide)]; exact hR) (.pointer (some ⟨B, 0, none⟩)) (by simp only [valO, Option.bind_some]; simp only [putAll, Act.put, List.setIfInBounds_toArray, List.set_cons_zero, List.set_cons_succ]; rfl)
      clear hS hdep hR
      refine gh_quiet8 (v := .pointer (some ⟨B, 0, none⟩)) ?_ ?_
      · (simp only [execOp, Act.eval, e26]; go_simp; first | done | (simp; done) | (simp [*]; done) | omega | (simp; omega) | (simp [*]; omega))
      · exact hK'
    | 6, ho, hun, hdep, hK, hfl, _ =>
      obtain rfl := Option.some.inj ho
      have d5 : lp.getD 5 false = true := hdep { on := 5, ground := .data } (by simp) rfl
      have e27 : a'.tmps[27]? = some (.pointer (some ⟨B, 0, none⟩)) := (hS.don 5 _ 27 rfl d5 rfl).trans (by simp only [putAll, Act.put, List.setIfInBounds_toArray, List.set_cons_zero, List.set_cons_succ]; rfl)
      have hK' := hK g w' (fun _ _ _ _ _ _ => rfl) (by rw [hfl 19 (by decide), hfl 20 (by decide)]; exact hR) (.pointer (some ⟨B, 2, none⟩)) (by simp only [valO, Option.bind_some]; simp only [putAll, Act.put, List.setIfInBounds_toArray, List.set_cons_zero, List.set_cons_succ]; rfl)
      clear hS hdep hR
      refine gh_quiet8 (v := .pointer (some ⟨B, 2, none⟩)) ?_ ?_
      · (simp only [execOp, Act.eval, e27]; go_simp; first | done | (simp; done) | (simp [*]; done) | omega | (simp; omega) | (simp [*]; omega))
      · exact hK'
    | 7, ho, hun, hdep, hK, hfl, _ =>
      obtain rfl := Option.some.inj ho
      have d6 : lp.getD 6 false = true := hdep { on := 6, ground := .data } (by simp) rfl
      have e28 : a'.tmps[28]? = some (.pointer (some ⟨B, 2, none⟩)) := (hS.don 6 _ 28 rfl d6 rfl).trans (by simp only [putAll, Act.put, List.setIfInBounds_toArray, List.set_cons_zero, List.set_cons_succ]; rfl)
      have hK' := hK g w' (fun _ _ _ _ _ _ => rfl) (by rw [hfl 19 (by decide), hfl 20 (by decide)]; exact hR) (.slice (some ⟨wg, 0, none⟩) wl wc) (by simp only [valO, Option.bind_some]; simp only [putAll, Act.put, List.setIfInBounds_toArray, List.set_cons_zero, List.set_cons_succ]; rfl)
      clear hS hdep hR
      refine gh_quiet8 (v := .slice (some ⟨wg, 0, none⟩) wl wc) ?_ ?_
      · (simp only [execOp, Act.eval, e28]; go_simp; first | done | (simp; done) | (simp [*]; done) | omega | (simp; omega) | (simp [*]; omega))
      · exact hK'
    | 8, ho, hun, hdep, hK, hfl, _ =>
      obtain rfl := Option.some.inj ho
      have o6 : a'.tmps[6]? = some (.pointer (some ⟨N6, 0, none⟩)) := (hS.old8 6 (by simp)).trans rfl
      have hK' := hK g w' (fun _ _ _ _ _ _ => rfl) (by rw [hfl 19 (by decide), hfl 20 (by decide)]; exact hR) (.pointer (some ⟨N6, 0, none⟩)) (by simp only [valO, Option.bind_some]; simp only [putAll, Act.put, List.setIfInBounds_toArray, List.set_cons_zero, List.set_cons_succ]; rfl)
      clear hS hdep hR
      refine gh_quiet8 (v := .pointer (some ⟨N6, 0, none⟩)) ?_ ?_
      · (simp only [execOp, Act.eval, o6]; go_simp; first | done | (simp; done) | (simp [*]; done) | omega | (simp; omega) | (simp [*]; omega))
      · exact hK'
    | 9, ho, hun, hdep, hK, hfl, _ =>
      obtain rfl := Option.some.inj ho
      have d8 : lp.getD 8 false = true := hdep { on := 8, ground := .data } (by simp) rfl
      have e30 : a'.tmps[30]? = some (.pointer (some ⟨N6, 0, none⟩)) := (hS.don 8 _ 30 rfl d8 rfl).trans (by simp only [putAll, Act.put, List.setIfInBounds_toArray, List.set_cons_zero, List.set_cons_succ]; rfl)
      have hK' := hK g w' (fun _ _ _ _ _ _ => rfl) (by rw [hfl 19 (by decide), hfl 20 (by decide)]; exact hR) (.int .i32 (j : Int)) (by simp only [valO, Option.bind_some]; simp only [putAll, Act.put, List.setIfInBounds_toArray, List.set_cons_zero, List.set_cons_succ]; rfl)
      clear hS hdep hR
      refine gh_quiet8 (v := .int .i32 (j : Int)) ?_ ?_
      · (simp only [execOp, Act.eval, e30]; go_simp; first | done | (simp; done) | (simp [*]; done) | omega | (simp; omega) | (simp [*]; omega))
      · exact hK'
    | 10, ho, hun, hdep, hK, hfl, _ =>
      obtain rfl := Option.some.inj ho
      have d7 : lp.getD 7 false = true := hdep { on := 7, ground := .data } (by simp) rfl
      have e29 : a'.tmps[29]? = some (.slice (some ⟨wg, 0, none⟩) wl wc) := (hS.don 7 _ 29 rfl d7 rfl).trans (by simp only [putAll, Act.put, List.setIfInBounds_toArray, List.set_cons_zero, List.set_cons_succ]; rfl)
      have d9 : lp.getD 9 false = true := hdep { on := 9, ground := .data } (by simp) rfl
      have e31 : a'.tmps[31]? = some (.int .i32 (j : Int)) := (hS.don 9 _ 31 rfl d9 rfl).trans (by simp only [putAll, Act.put, List.setIfInBounds_toArray, List.set_cons_zero, List.set_cons_succ]; rfl)
      have hK' := hK g w' (fun _ _ _ _ _ _ => rfl) (by rw [hfl 19 (by decide), hfl 20 (by decide)]; exact hR) (.pointer (some ⟨wg, j * 2, none⟩)) (by simp only [valO, Option.bind_some]; simp only [putAll, Act.put, List.setIfInBounds_toArray, List.set_cons_zero, List.set_cons_succ]; rfl)
      clear hS hdep hR
      refine gh_quiet8 (v := .pointer (some ⟨wg, j * 2, none⟩)) ?_ ?_
      · (simp only [execOp, Act.eval, e29, e31]; go_simp; first | done | (simp; done) | (simp [*]; done) | omega | (simp; omega) | (simp [*]; omega))
      · exact hK'
    | 11, ho, hun, hdep, hK, hfl, _ =>
      obtain rfl := Option.some.inj ho
      have d10 : lp.getD 10 false = true := hdep { on := 10, ground := .data } (by simp) rfl
      have e32 : a'.tmps[32]? = some (.pointer (some ⟨wg, j * 2, none⟩)) := (hS.don 10 _ 32 rfl d10 rfl).trans (by simp only [putAll, Act.put, List.setIfInBounds_toArray, List.set_cons_zero, List.set_cons_succ]; rfl)
      have hK' := hK g w' (fun _ _ _ _ _ _ => rfl) (by rw [hfl 19 (by decide), hfl 20 (by decide)]; exact hR) (.agg #[.int .u64 (hI x), .int .u64 (lI x)]) (by simp only [valO, Option.bind_some]; simp only [putAll, Act.put, List.setIfInBounds_toArray, List.set_cons_zero, List.set_cons_succ]; rfl)
      clear hS hdep hR
      refine gh_quiet8 (v := .agg #[.int .u64 (hI x), .int .u64 (lI x)]) ?_ ?_
      · (simp only [execOp, Act.eval, e32]; go_simp; first | done | (simp; done) | (simp [*]; done) | omega | (simp; omega) | (simp [*]; omega))
      · exact hK'
    | 12, ho, hun, hdep, hK, hfl, _ =>
      obtain rfl := Option.some.inj ho
      have o6 : a'.tmps[6]? = some (.pointer (some ⟨N6, 0, none⟩)) := (hS.old8 6 (by simp)).trans rfl
      have hK' := hK g w' (fun _ _ _ _ _ _ => rfl) (by rw [hfl 19 (by decide), hfl 20 (by decide)]; exact hR) (.pointer (some ⟨N6, 4, none⟩)) (by simp only [valO, Option.bind_some]; simp only [putAll, Act.put, List.setIfInBounds_toArray, List.set_cons_zero, List.set_cons_succ]; rfl)
      clear hS hdep hR
      refine gh_quiet8 (v := .pointer (some ⟨N6, 4, none⟩)) ?_ ?_
      · (simp only [execOp, Act.eval, o6]; go_simp; first | done | (simp; done) | (simp [*]; done) | omega | (simp; omega) | (simp [*]; omega))
      · exact hK'
    | 13, ho, hun, hdep, hK, hfl, _ =>
      obtain rfl := Option.some.inj ho
      have d12 : lp.getD 12 false = true := hdep { on := 12, ground := .data } (by simp) rfl
      have e34 : a'.tmps[34]? = some (.pointer (some ⟨N6, 4, none⟩)) := (hS.don 12 _ 34 rfl d12 rfl).trans (by simp only [putAll, Act.put, List.setIfInBounds_toArray, List.set_cons_zero, List.set_cons_succ]; rfl)
      have hK' := hK g w' (fun _ _ _ _ _ _ => rfl) (by rw [hfl 19 (by decide), hfl 20 (by decide)]; exact hR) (.int .u8 ln) (by simp only [valO, Option.bind_some]; simp only [putAll, Act.put, List.setIfInBounds_toArray, List.set_cons_zero, List.set_cons_succ]; rfl)
      clear hS hdep hR
      refine gh_quiet8 (v := .int .u8 ln) ?_ ?_
      · (simp only [execOp, Act.eval, e34]; go_simp; first | done | (simp; done) | (simp [*]; done) | omega | (simp; omega) | (simp [*]; omega))
      · exact hK'
    | 14, ho, hun, hdep, hK, hfl, _ =>
      obtain rfl := Option.some.inj ho
      have d13 : lp.getD 13 false = true := hdep { on := 13, ground := .data } (by simp) rfl
      have e35 : a'.tmps[35]? = some (.int .u8 ln) := (hS.don 13 _ 35 rfl d13 rfl).trans (by simp only [putAll, Act.put, List.setIfInBounds_toArray, List.set_cons_zero, List.set_cons_succ]; rfl)
      have hK' := hK g w' (fun _ _ _ _ _ _ => rfl) (by rw [hfl 19 (by decide), hfl 20 (by decide)]; exact hR) (.int .i64 ln) (by simp only [valO, Option.bind_some]; simp only [putAll, Act.put, List.setIfInBounds_toArray, List.set_cons_zero, List.set_cons_succ]; rfl)
      clear hS hdep hR
      refine gh_quiet8 (v := .int .i64 ln) ?_ ?_
      · (simp only [execOp, Act.eval, e35]; go_simp; first | done | (simp; done) | (simp [*]; done) | omega | (simp; omega) | (simp [*]; omega))
      · exact hK'
    | 15, ho, hun, hdep, hK, hfl, _ =>
      obtain rfl := Option.some.inj ho
      have d3 : lp.getD 3 false = true := hdep { on := 3, ground := .data } (by simp) rfl
      have e25 : a'.tmps[25]? = some (.int .i64 F) := (hS.don 3 _ 25 rfl d3 rfl).trans (by simp only [putAll, Act.put, List.setIfInBounds_toArray, List.set_cons_zero, List.set_cons_succ]; rfl)
      have d11 : lp.getD 11 false = true := hdep { on := 11, ground := .data } (by simp) rfl
      have e33 : a'.tmps[33]? = some (.agg #[.int .u64 (hI x), .int .u64 (lI x)]) := (hS.don 11 _ 33 rfl d11 rfl).trans (by simp only [putAll, Act.put, List.setIfInBounds_toArray, List.set_cons_zero, List.set_cons_succ]; rfl)
      have d14 : lp.getD 14 false = true := hdep { on := 14, ground := .data } (by simp) rfl
      have e36 : a'.tmps[36]? = some (.int .i64 ln) := (hS.don 14 _ 36 rfl d14 rfl).trans (by simp only [putAll, Act.put, List.setIfInBounds_toArray, List.set_cons_zero, List.set_cons_succ]; rfl)
      have KE := KO w'
      clear hdep
      unfold Oper.wp
      simp only [execOp, Act.eval]
      simp [go_sem, e25, e33, e36, Oper.upon]
      refine KE.mono ?_
      rintro e W2 ⟨rfl, hb2⟩
      exact hK g W2 (fun _ _ _ _ _ _ => rfl) (by rw [hfl 19 (by decide), hfl 20 (by decide)]; exact hR.below hb2) _ (by simp only [valO, Option.bind_some]; simp only [putAll, Act.put, List.setIfInBounds_toArray, List.set_cons_zero, List.set_cons_succ]; rfl)
    | 16, ho, hun, hdep, hK, hfl, _ =>
      obtain rfl := Option.some.inj ho
      have d15 : lp.getD 15 false = true := hdep { on := 15, ground := .data } (by simp) rfl
      have e37 : a'.tmps[37]? = some (.tuple #[.agg #[.int .u64 (hI cx), .int .u64 (lI cx), .int .i64 nn], .int .i64 oe]) := (hS.don 15 _ 37 rfl d15 rfl).trans (by simp only [putAll, Act.put, List.setIfInBounds_toArray, List.set_cons_zero, List.set_cons_succ]; rfl)
      have hK' := hK g w' (fun _ _ _ _ _ _ => rfl) (by rw [hfl 19 (by decide), hfl 20 (by decide)]; exact hR) (.tuple #[.agg #[.int .u64 (hI cx), .int .u64 (lI cx), .int .i64 nn], .int .i64 oe]) (by simp only [valO, Option.bind_some]; simp only [putAll, Act.put, List.setIfInBounds_toArray, List.set_cons_zero, List.set_cons_succ]; rfl)
      clear hS hdep hR
      refine gh_quiet8 (v := .tuple #[.agg #[.int .u64 (hI cx), .int .u64 (lI cx), .int .i64 nn], .int .i64 oe]) ?_ ?_
      · (simp only [execOp, Act.eval, e37]; go_simp; first | done | (simp; done) | (simp [*]; done) | omega | (simp; omega) | (simp [*]; omega))
      · exact hK'
    | 17, ho, hun, hdep, hK, hfl, _ =>
      obtain rfl := Option.some.inj ho
      have d16 : lp.getD 16 false = true := hdep { on := 16, ground := .data } (by simp) rfl
      have e21 : a'.tmps[21]? = some (.tuple #[.agg #[.int .u64 (hI cx), .int .u64 (lI cx), .int .i64 nn], .int .i64 oe]) := (hS.don 16 _ 21 rfl d16 rfl).trans (by simp only [putAll, Act.put, List.setIfInBounds_toArray, List.set_cons_zero, List.set_cons_succ]; rfl)
      have hK' := hK g w' (fun _ _ _ _ _ _ => rfl) (by rw [hfl 19 (by decide), hfl 20 (by decide)]; exact hR) (.agg #[.int .u64 (hI cx), .int .u64 (lI cx), .int .i64 nn]) (by simp only [valO, Option.bind_some]; simp only [putAll, Act.put, List.setIfInBounds_toArray, List.set_cons_zero, List.set_cons_succ]; rfl)
      clear hS hdep hR
      refine gh_quiet8 (v := .agg #[.int .u64 (hI cx), .int .u64 (lI cx), .int .i64 nn]) ?_ ?_
      · (simp only [execOp, Act.eval, e21]; go_simp; first | done | (simp; done) | (simp [*]; done) | omega | (simp; omega) | (simp [*]; omega))
      · exact hK'
    | 18, ho, hun, hdep, hK, hfl, _ =>
      obtain rfl := Option.some.inj ho
      have d16 : lp.getD 16 false = true := hdep { on := 16, ground := .data } (by simp) rfl
      have e21 : a'.tmps[21]? = some (.tuple #[.agg #[.int .u64 (hI cx), .int .u64 (lI cx), .int .i64 nn], .int .i64 oe]) := (hS.don 16 _ 21 rfl d16 rfl).trans (by simp only [putAll, Act.put, List.setIfInBounds_toArray, List.set_cons_zero, List.set_cons_succ]; rfl)
      have hK' := hK g w' (fun _ _ _ _ _ _ => rfl) (by rw [hfl 19 (by decide), hfl 20 (by decide)]; exact hR) (.int .i64 oe) (by simp only [valO, Option.bind_some]; simp only [putAll, Act.put, List.setIfInBounds_toArray, List.set_cons_zero, List.set_cons_succ]; rfl)
      clear hS hdep hR
      refine gh_quiet8 (v := .int .i64 oe) ?_ ?_
      · (simp only [execOp, Act.eval, e21]; go_simp; first | done | (simp; done) | (simp [*]; done) | omega | (simp; omega) | (simp [*]; omega))
      · exact hK'
    | 19, ho, hun, hdep, hK, hfl, _ =>
      obtain rfl := Option.some.inj ho
      rw [hun] at hR
      have hK' := hK w'.heap.size (w'.alloc (.cells #[.int .u64 0, .int .u64 0, .int .i64 0] 39)) (fun k ok s hk hl hd => gh_same8 (d := 7) (s := s) (by simp only [putAll, Act.put, List.setIfInBounds_toArray, List.set_cons_zero, List.set_cons_succ]; rfl) (by rintro rfl; have := dstG_of (by kernel_rfl) k 19 ok _ 7 hk rfl hd rfl; subst this; rw [hun] at hl; cases hl)) (by rw [hfl 20 (by decide), getD_set_same (by rw [hsz]; decide)]; exact hR.al) (.pointer (some ⟨w'.heap.size, 0, none⟩)) (by simp only [valO, Option.bind_some]; simp only [putAll, Act.put, List.setIfInBounds_toArray, List.set_cons_zero, List.set_cons_succ]; rfl)
      clear hS hdep hR
      unfold Oper.wp
      simp only [execOp]
      go_simp
      exact hK'
    | 20, ho, hun, hdep, hK, hfl, _ =>
      obtain rfl := Option.some.inj ho
      have d17 : lp.getD 17 false = true := hdep { on := 17, ground := .data } (by simp) rfl
      have e38 : a'.tmps[38]? = some (.agg #[.int .u64 (hI cx), .int .u64 (lI cx), .int .i64 nn]) := (hS.don 17 _ 38 rfl d17 rfl).trans (by simp only [putAll, Act.put, List.setIfInBounds_toArray, List.set_cons_zero, List.set_cons_succ]; rfl)
      have d19 : lp.getD 19 false = true := hdep { on := 19, ground := .data } (by simp) rfl
      have e7 : a'.tmps[7]? = some (.pointer (some ⟨g, 0, none⟩)) := (hS.don 19 _ 7 rfl d19 rfl).trans (by simp only [putAll, Act.put, List.setIfInBounds_toArray, List.set_cons_zero, List.set_cons_succ]; rfl)
      rw [hun] at hR
      have hz := (hR.a d19).2
      simp only [Bool.false_eq_true, if_false] at hz
      obtain ⟨z0, z1, z2, k0, k1, k2⟩ := hz
      have hK' := hK g _ (fun _ _ _ _ _ _ => rfl) (by rw [hfl 19 (by decide), getD_set_same (by rw [hsz]; decide)]; exact hR.st d19) undef rfl
      clear hS hdep hR
      unfold Oper.wp
      simp [execOp, Act.eval, e38, e7, go_sem, z0, z1, z2, k0, k1, k2, Oper.upon]
      exact hK'
    | 21, ho, hun, hdep, hK, hfl, _ =>
      obtain rfl := Option.some.inj ho
      have d18 : lp.getD 18 false = true := hdep { on := 18, ground := .data } (by simp) rfl
      have e39 : a'.tmps[39]? = some (.int .i64 oe) := (hS.don 18 _ 39 rfl d18 rfl).trans (by simp only [putAll, Act.put, List.setIfInBounds_toArray, List.set_cons_zero, List.set_cons_succ]; rfl)
      have hK' := hK g w' (fun _ _ _ _ _ _ => rfl) (by rw [hfl 19 (by decide), hfl 20 (by decide)]; exact hR) (.int .i64 oe) (by simp only [valO, Option.bind_some]; simp only [putAll, Act.put, List.setIfInBounds_toArray, List.set_cons_zero, List.set_cons_succ]; rfl)
      clear hS hdep hR
      refine gh_quiet8 (v := .int .i64 oe) ?_ ?_
      · (simp only [execOp, Act.eval, e39]; go_simp; first | done | (simp; done) | (simp [*]; done) | omega | (simp; omega) | (simp [*]; omega))
      · exact hK'
    | n + 22, ho, hun, hdep, hK, hfl, hq => exact absurd hq (by omega)
  case fin =>
    intro N1 V2 hR
    have hR : RA V1 cx nn true true N1 V2 := by simpa using hR
    have hz := (hR.a rfl).2
    simp only [if_true] at hz
    have HLa := hidX hz
    have HV2 := hidX hR.bel
    have HN1 := hidX (hR.a rfl).1
    simp only [putAll, Act.put, List.setIfInBounds_toArray, List.set_cons_zero, List.set_cons_succ]
    clear hR hz
    refine wl_nil8 (P := Try.prog) (ops := #[]) ?_
    clear HC
    have HB2 := hidX (keepb HV2.out HB1.out)
    have HR2 := hidX (HR1.out.below HV2.out)
    obtain ⟨l0, l1, l2, -, -, -⟩ := HLa.out
    obtain ⟨u0, u1, u2, v0, v1, v2⟩ := HR2.out
    have HF := hidX (HR2.out.set8 cx nn)
    have HBs := hidX (((HB2.out.setCell (p := ⟨w.heap.size, 0, none⟩) (Nat.le_refl _) (.int .u64 (hI cx))).setCell (p := ⟨w.heap.size, 1, none⟩) (Nat.le_refl _) (.int .u64 (lI cx))).setCell (p := ⟨w.heap.size, 2, none⟩) (Nat.le_refl _) (.int .i64 nn))
    clear HB1 HR1 HB2 HR2 HLa HV2
    go_wp2
    obtain ⟨f0, f1, f2, -, -, -⟩ := HF.out
    exact bodyPost_ret (v := .tuple #[.agg #[.int .u64 (hI cx), .int .u64 (lI cx), .int .i64 nn], .bool true]) (by simp [results, Try.results13, go_sem, f0, f1, f2]) rfl ⟨rfl, HBs.out⟩
set_option maxRecDepth 20000 in
set_option maxHeartbeats 2000000 in
theorem tat_out (B : Nat) (F : Int) (g cap : Nat) (wv : Value) (L : List Nd) (n : Int) (w : World) (h : TrN w B F g cap wv L) (hn : isN L n = false) :
    Calls Try.prog 13 #[.pointer (some ⟨B, 0, none⟩), .int .i64 n] w fun e w' => e = .returned (.tuple #[.agg #[.int .u64 0, .int .u64 0, .int .i64 0], .bool false]) ∧ Below w.heap.size w w' := by
  have q0 := bl1 w (.cells #[.int .u64 0, .int .u64 0, .int .i64 0] 39)
  have KH := thas_any B F g cap wv L n _ (h.below q0)
  rw [hn] at KH
  clear h hn q0
  go_enter Try.func13, Try.ntmps13
  go_wp2_with fail
  refine KH.mono ?_
  rintro e w1 ⟨rfl, rfl⟩
  go_wp2
  exact bodyPost_ret (v := .tuple #[.agg #[.int .u64 0, .int .u64 0, .int .i64 0], .bool false]) (by simp [results, Try.results13, go_sem, *]) rfl ⟨rfl, bl1 _ _⟩
end Go.Proofs.Ytoejhhoniflpeaa
