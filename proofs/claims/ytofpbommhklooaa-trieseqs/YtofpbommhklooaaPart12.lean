/-
  Part 12 of the proof: 6 texts, one behind the other.
-/
import Derived.Test.YtofpbommhklooaaPart8
import Derived.Test.YtofpbommhklooaaPart10
import Derived.Test.YtofpbommhklooaaPart11
import Derived.Test.YtofpbommhklooaaPart9
/-
  Variables of one cell, and what keeps them.
-/
namespace Go.Proofs.Ytofpbommhklooaa
open Go.RowKit Go.Shelf
set_option linter.unusedSimpArgs false
set_option linter.unusedVariables false

/-- A variable of one cell. -/
def Cl1 (W : World) (B : Nat) (v : Value) : Prop := W.cell? ⟨B, 0, none⟩ = some v ∧ W.frozen? ⟨B, 0, none⟩ = false
theorem Cl1.below {W W' : World} {B : Nat} {v : Value} (k : Cl1 W B v) (hb : Below W.heap.size W W') : Cl1 W' B v := ⟨keepc hb k.1, keepf hb k.1 k.2⟩
theorem Cl1.heap {W W' : World} {B : Nat} {v : Value} (k : Cl1 W B v) (e : W'.heap[B]? = W.heap[B]?) : Cl1 W' B v := ⟨(World.cell?_of_block (a := ⟨B, 0, none⟩) e).trans k.1, (World.frozen?_of_block (a := ⟨B, 0, none⟩) e).trans k.2⟩
theorem cl1_new (W : World) (B : Nat) (v : Value) (t : TypeId) (h : B = W.heap.size) : Cl1 (W.alloc (.cells #[v] t)) B v := by
  subst h
  refine ⟨?_, ?_⟩ <;> simp [go_sem]
theorem Cl1.set {W : World} {B : Nat} {v : Value} (k : Cl1 W B v) (u : Value) : Cl1 (W.setCell ⟨B, 0, none⟩ u) B u := ⟨World.cell?_setCell_same' _ _ _ (by rw [k.1]; rfl), by rw [World.frozen?_setCell]; exact k.2⟩
theorem Cl1.lt {W : World} {B : Nat} {v : Value} (k : Cl1 W B v) : B < W.heap.size := cell_in k.1
theorem hSet6 {W : World} {b o : Nat} (u : Value) {k : Nat} (h : ¬ k = b) : (W.setCell ⟨b, o, none⟩ u).heap[k]? = W.heap[k]? := Below.heap_setCell W ⟨b, o, none⟩ u k h
theorem At.heap6 {W W' : World} {B : Nat} {x : BitVec 128} (k : At W B x) (e : W'.heap[B]? = W.heap[B]?) (hs : W.heap.size ≤ W'.heap.size) : At W' B x := ⟨(World.cell?_of_block (a := ⟨B, 0, none⟩) e).trans k.1, (World.cell?_of_block (a := ⟨B, 1, none⟩) e).trans k.2.1, (World.frozen?_of_block (a := ⟨B, 0, none⟩) e).trans k.2.2.1, (World.frozen?_of_block (a := ⟨B, 1, none⟩) e).trans k.2.2.2.1, Nat.lt_of_lt_of_le k.2.2.2.2 hs⟩
theorem AtP.heap6 {W W' : World} {B : Nat} {x : BitVec 128} {n : Int} (k : AtP W B x n) (e : W'.heap[B]? = W.heap[B]?) : AtP W' B x n := ⟨(World.cell?_of_block (a := ⟨B, 0, none⟩) e).trans k.1, (World.cell?_of_block (a := ⟨B, 1, none⟩) e).trans k.2.1, (World.cell?_of_block (a := ⟨B, 2, none⟩) e).trans k.2.2.1, (World.frozen?_of_block (a := ⟨B, 0, none⟩) e).trans k.2.2.2.1, (World.frozen?_of_block (a := ⟨B, 1, none⟩) e).trans k.2.2.2.2.1, (World.frozen?_of_block (a := ⟨B, 2, none⟩) e).trans k.2.2.2.2.2⟩
theorem Cl1.kept {W W' : World} {B : Nat} {v : Value} (k : Cl1 W B v) {row : Option Nat} (hg : W.grownBy W' row) (hr : ∀ r, row = some r → ∃ o : Obj, W.heap[r]? = some o ∧ o.isCells = false) : Cl1 W' B v := ⟨cell_kept k.1 hg hr, (frozen_kept k.1 hg hr).trans k.2⟩
theorem At.kept6 {W W' : World} {B : Nat} {x : BitVec 128} (k : At W B x) {row : Option Nat} (hg : W.grownBy W' row) (hr : ∀ r, row = some r → ∃ o : Obj, W.heap[r]? = some o ∧ o.isCells = false) : At W' B x := ⟨cell_kept k.1 hg hr, cell_kept k.2.1 hg hr, (frozen_kept k.1 hg hr).trans k.2.2.1, (frozen_kept k.2.1 hg hr).trans k.2.2.2.1, Nat.lt_of_lt_of_le k.2.2.2.2 hg.size⟩
theorem AtP.kept6 {W W' : World} {B : Nat} {x : BitVec 128} {n : Int} (k : AtP W B x n) {row : Option Nat} (hg : W.grownBy W' row) (hr : ∀ r, row = some r → ∃ o : Obj, W.heap[r]? = some o ∧ o.isCells = false) : AtP W' B x n := ⟨cell_kept k.1 hg hr, cell_kept k.2.1 hg hr, cell_kept k.2.2.1 hg hr, (frozen_kept k.1 hg hr).trans k.2.2.2.1, (frozen_kept k.2.1 hg hr).trans k.2.2.2.2.1, (frozen_kept k.2.2.1 hg hr).trans k.2.2.2.2.2⟩
theorem kw_set {Z : Nat → Prop} {B b o : Nat} (hZ : ¬ Z b) (hB : b < B) (W : World) (u : Value) : KW Z B W (W.setCell ⟨b, o, none⟩ u) := ⟨by simp, fun z x hz hx => by
  have hne : ¬ z = b := by
    rintro rfl
    rcases hx with q | q
    · exact hZ q
    · omega
  rw [hSet6 u hne]; exact hz⟩
theorem kw_keeps {Z : Nat → Prop} {B C : Nat} {W W' : World} (h : KW Z B W W') (hc : ∀ z, C ≤ z → Z z) : KeepsFrom C W W' := ⟨h.1, fun k o h1 h2 _ => h.2 k o h2 (.inl (hc k h1))⟩
end Go.Proofs.Ytofpbommhklooaa
/-
  What a tree's Path and Lookup tell.
-/
namespace Go.Proofs.Ytofpbommhklooaa
open Go.RowKit Go.Shelf
set_option linter.unusedSimpArgs false
set_option linter.unusedVariables false
attribute [local go_sem] Oper.semAt_some

theorem wl_nil8 {P : Program} {ops : Array Oper} {Q : Exit → Act → World → Prop} {a : Act} {w : World} (h : wpList P ops Q [] a w) : Q .normal a w := h
theorem tpath_any (B : Nat) (x : BitVec 128) (w : World) :
    Calls Try.prog 7 #[.pointer (some ⟨B, 0, none⟩), .agg #[.int .u64 (hI x), .int .u64 (lI x)]] w fun e w' => e = .returned (.func (.func 24) #[.agg #[.pointer (some ⟨B, 0, none⟩), .int .u64 (hI x), .int .u64 (lI x)]] #[]) ∧ Below w.heap.size w w' := by
  have q := bl1 w (.cells #[.int .u64 (hI x), .int .u64 (lI x)] 27)
  obtain ⟨a0, a1, -⟩ := at_new w w.heap.size x 27 rfl
  go_enter Try.func7, Try.ntmps7
  go_wp2
  exact bodyPost_ret (v := .func (.func 24) #[.agg #[.pointer (some ⟨B, 0, none⟩), .int .u64 (hI x), .int .u64 (lI x)]] #[]) (by simp [results, Try.results7, go_sem, *]) rfl ⟨rfl, q⟩
/-- The last next hop on a way. -/
def lastH (L : List Nd) : List Int → Int → Int
  | [], h => h
  | n :: l, h => lastH L l (if 0 < (ndAt L n).hop then (ndAt L n).hop else h)
theorem lastH_one (L : List Nd) : ∀ (l : List Int) (n h : Int), lastH L (l ++ [n]) h = if 0 < (ndAt L n).hop then (ndAt L n).hop else lastH L l h
  | [], n, h => rfl
  | m :: l, n, h => lastH_one L l n _
theorem AtN.kept {W W' : World} {b o : Nat} {x : Nd} (k : AtN W b o x) {row : Option Nat} (hg : W.grownBy W' row) (hr : ∀ r, row = some r → ∃ o : Obj, W.heap[r]? = some o ∧ o.isCells = false) : AtN W' b o x := ⟨cell_kept k.1 hg hr, cell_kept k.2.1 hg hr, cell_kept k.2.2.1 hg hr, cell_kept k.2.2.2.1 hg hr, cell_kept k.2.2.2.2.1 hg hr, cell_kept k.2.2.2.2.2 hg hr⟩
theorem TrN.kept {W W' : World} {B : Nat} {F : Int} {g cap : Nat} {wv : Value} {L : List Nd} (k : TrN W B F g cap wv L) {row : Option Nat} (hg : W.grownBy W' row) (hr : ∀ r, row = some r → ∃ o : Obj, W.heap[r]? = some o ∧ o.isCells = false) : TrN W' B F g cap wv L := ⟨cell_kept k.w hg hr, cell_kept k.n hg hr, cell_kept k.o hg hr, fun j hj => (k.row j hj).kept hg hr⟩
theorem AtN.heap {W W' : World} {b o : Nat} {x : Nd} (k : AtN W b o x) (e : W'.heap[b]? = W.heap[b]?) : AtN W' b o x := ⟨(World.cell?_of_block (a := ⟨b, o, none⟩) e).trans k.1, (World.cell?_of_block (a := ⟨b, o + 1, none⟩) e).trans k.2.1, (World.cell?_of_block (a := ⟨b, o + 2, none⟩) e).trans k.2.2.1, (World.cell?_of_block (a := ⟨b, o + 3, none⟩) e).trans k.2.2.2.1, (World.cell?_of_block (a := ⟨b, o + 4, none⟩) e).trans k.2.2.2.2.1, (World.cell?_of_block (a := ⟨b, o + 5, none⟩) e).trans k.2.2.2.2.2⟩
theorem TrN.heap {W W' : World} {B : Nat} {F : Int} {g cap : Nat} {wv : Value} {L : List Nd} (k : TrN W B F g cap wv L) (e : W'.heap[B]? = W.heap[B]?) (e2 : W'.heap[g]? = W.heap[g]?) : TrN W' B F g cap wv L := ⟨(World.cell?_of_block (a := ⟨B, 0, none⟩) e).trans k.w, (World.cell?_of_block (a := ⟨B, 1, none⟩) e).trans k.n, (World.cell?_of_block (a := ⟨B, 2, none⟩) e).trans k.o, fun j hj => (k.row j hj).heap e2⟩
set_option maxRecDepth 100000 in
set_option maxHeartbeats 8000000 in
theorem tlook_any (N : Nat) (B : Nat) (F : Int) (g cap : Nat) (wv : Value) (L : List Nd) (x : BitVec 128) (hR : checkE F x F = 0 → WayTo L x N 0) (w : World) (hM : TrN w B F g cap wv L) (hL : 0 < L.length) (ho : ∀ x ∈ L, x.ok) (hl : L.length ≤ 2147483647) :
    Calls Try.prog 8 #[.pointer (some ⟨B, 0, none⟩), .agg #[.int .u64 (hI x), .int .u64 (lI x)]] w fun e w' => e = .returned (.int .i64 (lastH L (pthL L F x N) 0)) ∧ Below w.heap.size w w' := by
  have hBw : B < w.heap.size := cell_in hM.w
  have hgw : g < w.heap.size := cell_in (hM.row 0 hL).1
  have q1 := bl1 w (.cells #[.pointer (some ⟨B, 0, none⟩)] 29)
  have q2 := bl1 (w.alloc (.cells #[.pointer (some ⟨B, 0, none⟩)] 29)) (.cells #[.int .u64 (hI x), .int .u64 (lI x)] 27)
  have q3 := bl1 ((w.alloc (.cells #[.pointer (some ⟨B, 0, none⟩)] 29)).alloc (.cells #[.int .u64 (hI x), .int .u64 (lI x)] 27)) (.cells #[.int .i64 0] 3)
  have HB0 := hidX (keepb q3 (keepb q2 q1))
  have HP0 := hidX (((cl1_new w w.heap.size (.pointer (some ⟨B, 0, none⟩)) 29 rfl).below q2).below q3)
  have HX0 := hidX ((at_new (w.alloc (.cells #[.pointer (some ⟨B, 0, none⟩)] 29)) (w.heap.size + 1) x 27 (by simp)).below q3)
  have HH0 := hidX (cl1_new ((w.alloc (.cells #[.pointer (some ⟨B, 0, none⟩)] 29)).alloc (.cells #[.int .u64 (hI x), .int .u64 (lI x)] 27)) (w.heap.size + 2) (.int .i64 0) 3 (by simp))
  have HM0 := hidX (((hM.below q1).below q2).below q3)
  have KP := fun w => tpath_any B x w
  have HO : Hid ((∀ x ∈ L, x.ok) ∧ L.length ≤ 2147483647) := hidX ⟨ho, hl⟩
  have HR := hidX hR
  obtain ⟨p0, p1⟩ := HP0.out
  obtain ⟨x0, x1, -⟩ := HX0.out
  clear q1 q2 q3 hM ho hl hR hL
  refine (callsIn_wide (n := 9)).1 ?_
  refine callsIn_of_wp_marks Try.func8 rfl trivial ?_ rfl
  simp only [Try.ntmps8, List.size_toArray, List.length_cons, List.length_nil, Nat.reduceAdd, Nat.reduceSub, Array.replicate_succ, Array.replicate_zero, List.push_toArray, List.append_toArray, List.nil_append, List.cons_append]
  refine wpIn_wide.2 ?_
  go_wp2_with fail
  refine (KP _).mono ?_
  rintro e Wl ⟨rfl, hb⟩
  have HB1 := hidX (keepb hb HB0.out)
  have HP1 := hidX (HP0.out.below hb)
  have HH1 := hidX (HH0.out.below hb)
  have HM1 := hidX (HM0.out.below hb)
  have hWl : w.heap.size + 2 < Wl.heap.size := HH1.out.lt
  clear hb HB0 HP0 HX0 HH0 HM0 KP p0 p1 x0 x1
  go_wp2_with fail
  refine (wpIn_wide (n := 9)).1 ?_
  refine rangeY 9 (by decide) (gf := 24) (ba := #[.agg #[.pointer (some ⟨B, 0, none⟩), .int .u64 (hI x), .int .u64 (lI x)]]) (lb := #[]) rfl (enters_of Try.func24 (by kernel_rfl) rfl)
    (way_each (9 - 1) N (fun z => z = B ∨ z = g) (Wl.heap.size + 2) B F g cap wv L x HR.out Wl HM1.out (.inl (.inl rfl)) (.inl (.inr rfl)) HO.out.1 HO.out.2) (Nat.le_refl _) (fun h k => h.trans k) (fun V o o' h1 h2 => kw_put (by rintro (q | q) <;> omega) (by omega) V o o' h1 h2) (Below.refl _ _) (fun _ => rfl)
    (fun pre V => (TrN V B F g cap wv L ∧ Cl1 V w.heap.size (.pointer (some ⟨B, 0, none⟩)) ∧ Cl1 V (w.heap.size + 2) (.int .i64 (lastH L pre 0))) ∧ Below w.heap.size w V)
    (fun c pre V => False)
    (OwnFrom.and (Own.from (fun s A B row hs hg hr => ⟨hs.1.kept hg hr, hs.2.1.kept hg hr, hs.2.2.kept hg hr⟩) _) (ownFrom_below (Nat.le_refl _) (by omega)))
    (fun c s A B row hs hg hr => hs)
    ⟨⟨HM1.out, HP1.out, HH1.out⟩, HB1.out⟩
    (fun y a' V => a' = { tmps := #[.pointer (some ⟨B, 0, none⟩), .agg #[.int .u64 (hI x), .int .u64 (lI x)], .pointer (some ⟨w.heap.size, 0, none⟩), .pointer (some ⟨w.heap.size + 1, 0, none⟩), .int .i64 0, .pointer (some ⟨w.heap.size + 1 + 1, 0, none⟩), .int .i64 y, undef, .pointer (some ⟨B, 0, none⟩), .agg #[.int .u64 (hI x), .int .u64 (lI x)], .func (.func 24) #[.agg #[.pointer (some ⟨B, 0, none⟩), .int .u64 (hI x), .int .u64 (lI x)]] #[], .int .i64 y, undef, undef, undef, undef, undef, undef, undef], defers := [] })
    (fun y a' s A B row hs hg hr => hs) ?assign ?body ?done ?stop
  case assign =>
    rintro lo pre y V K ⟨⟨hi1, hi2, hi3⟩, hi4⟩ hK
    have HK := hidX (hK ({ tmps := #[.pointer (some ⟨B, 0, none⟩), .agg #[.int .u64 (hI x), .int .u64 (lI x)], .pointer (some ⟨w.heap.size, 0, none⟩), .pointer (some ⟨w.heap.size + 1, 0, none⟩), .int .i64 0, .pointer (some ⟨w.heap.size + 1 + 1, 0, none⟩), .int .i64 y, undef, .pointer (some ⟨B, 0, none⟩), .agg #[.int .u64 (hI x), .int .u64 (lI x)], .func (.func 24) #[.agg #[.pointer (some ⟨B, 0, none⟩), .int .u64 (hI x), .int .u64 (lI x)]] #[], .int .i64 y, undef, undef, undef, undef, undef, undef, undef], defers := [] }) V (KeepsFrom.refl _ _) (KW.refl _ _ _) ⟨⟨hi1, hi2, hi3⟩, hi4⟩ rfl)
    clear hK hi1 hi2 hi3 hi4
    unfold encI
    simp only [List.zip_toArray, List.zip_cons_cons, List.zip_nil_left, List.zip_nil_right, List.foldl_toArray, List.foldl_cons, List.foldl_nil, List.setIfInBounds_toArray, List.set_cons_zero, List.set_cons_succ, Array.zip]
    gi_wp2
    exact HK.out
  case body =>
    rintro lo pre y a' V hl - ⟨⟨hi1, hi2, hi3⟩, hi4⟩ rfl hlt
    have KH := thop_any B F g cap wv L y V hi1 HO.out.1
    have HI1 := hidX hi1
    have HI2 := hidX hi2
    have HI3 := hidX hi3
    have HI4 := hidX hi4
    obtain ⟨p0, p1⟩ := hi2
    have HE := hidX (lastH_one L pre y 0)
    have hwV : w.heap.size + 2 < V.heap.size := hi3.lt
    clear hi1 hi3 hi4 p1
    revert KH HE HI3
    generalize (ndAt L y).hop = hp
    generalize lastH L pre 0 = h0
    intro KH HI3 HE
    gi_wp2_with fail
    refine ⟨trivial, ?_⟩
    have KH2 : CallsIn (Fence.wide.inRound lo) 6 Try.prog 16 #[.pointer (some ⟨B, 0, none⟩), .int .i64 y] V _ := (callsIn_wide (n := 6)).2 KH
    refine KH2.mono ?_
    clear KH2
    rintro e V2 ⟨rfl, hb⟩
    have HM2 := hidX (HI1.out.below hb)
    have HP2 := hidX (HI2.out.below hb)
    have hH2 := HI3.out.below hb
    have HB2 := hidX (keepb hb HI4.out)
    have HKF : Hid (KeepsFrom Wl.heap.size V V2) := hidX ⟨hb.size, fun z o h1 h2 _ => (hb.block z (Array.getElem?_eq_some_iff.1 h2).1).trans h2⟩
    have HK2 : Hid (KW (fun z => z = B ∨ z = g) (Wl.heap.size + 2) V V2) := hidX (kw_below hb)
    clear hb HI1 HI2 HI3 HI4 KH p0
    by_cases c : 0 < hp
    · have c' : decide (0 < hp) = true := by simpa using c
      have HE2 : Hid (lastH L (pre ++ [y]) 0 = hp) := hidX (by rw [HE.out, if_pos c])
      have HG : Hid (KeepsFrom Wl.heap.size V (V2.setCell ⟨w.heap.size + 2, 0, none⟩ (.int .i64 hp)) ∧ KW (fun z => z = B ∨ z = g) (Wl.heap.size + 2) V (V2.setCell ⟨w.heap.size + 2, 0, none⟩ (.int .i64 hp)) ∧ (TrN (V2.setCell ⟨w.heap.size + 2, 0, none⟩ (.int .i64 hp)) B F g cap wv L ∧ Cl1 (V2.setCell ⟨w.heap.size + 2, 0, none⟩ (.int .i64 hp)) w.heap.size (.pointer (some ⟨B, 0, none⟩)) ∧ Cl1 (V2.setCell ⟨w.heap.size + 2, 0, none⟩ (.int .i64 hp)) (w.heap.size + 2) (.int .i64 (lastH L (pre ++ [y]) 0))) ∧ Below w.heap.size w (V2.setCell ⟨w.heap.size + 2, 0, none⟩ (.int .i64 hp))) := hidX (by
        have k := HK2.out.trans (kw_set (o := 0) (b := w.heap.size + 2) (by rintro (q | q) <;> omega) (by omega) V2 (.int .i64 hp))
        refine ⟨⟨k.1, fun z o h1 h2 h3 => ?_⟩, k, ⟨HM2.out.heap (hSet6 _ (by omega)) (hSet6 _ (by omega)), HP2.out.heap (hSet6 _ (by omega)), by rw [HE2.out]; exact hH2.set _⟩, HB2.out.setCell (p := ⟨w.heap.size + 2, 0, none⟩) (by simp) _⟩
        exact (hSet6 _ (by omega)).trans (HKF.out.same z o h1 h2 h3))
      obtain ⟨h1, h2⟩ := hH2
      clear c HE HM2 HP2 HB2 HK2 HKF
      gi_wp2
      exact HG.out
    · have c' : decide (0 < hp) = false := by simpa using c
      have HE2 : Hid (lastH L (pre ++ [y]) 0 = h0) := hidX (by rw [HE.out, if_neg c])
      have HH2 := hidX hH2
      clear c hH2
      gi_wp2
      exact ⟨HKF.out, HK2.out, ⟨HM2.out, HP2.out, by rw [HE2.out]; exact HH2.out⟩, HB2.out⟩
  case done =>
    rintro D ys V hD rfl ⟨⟨hi1, hi2, hi3⟩, hi4⟩ hK
    obtain ⟨h0, -⟩ := hi3
    have hc := h0
    have HB := hidX hi4
    clear hi1 hi2 hi4
    refine wl_nil8 (P := Try.prog) (ops := #[]) ?_
    go_wp2
    refine ⟨by simp, .inl ⟨_, _, rfl, run_takeDeferred hK, ?_⟩⟩
    refine ⟨_, ?_, rfl, HB.out.trans (belowK_b (w := w) (Nat.le_refl _) _ D _ _ (by omega) hK rfl rfl)⟩
    simp [results, Try.results8, go_sem]
  case stop =>
    rintro D c pre V hD hpre hi hK
    exact hi.elim
end Go.Proofs.Ytofpbommhklooaa
/-
  What a tree's At tells.
-/
namespace Go.Proofs.Ytofpbommhklooaa
open Go.RowKit Go.Shelf
set_option linter.unusedSimpArgs false
set_option linter.unusedVariables false
attribute [local go_sem] Oper.semAt_some

theorem gh_quiet8 {P : Program} {o : Oper} {a' : Act} {w' : World} {K : Act → World → Prop} {Q' : Exit → Act → World → Prop} {v : Value} (hr : (execOp a'.eval o).run P w' = .ok (.value v) w') (hK : K (a'.put o.dst v) w') : o.wp P a' w' K Q' := by
  unfold Oper.wp
  rw [hr]
  exact hK
theorem gh_same8 {x y : Array Value} {d s : Nat} (h : x.toList.eraseIdx d = y.toList.eraseIdx d) (hs : s ≠ d) : x[s]? = y[s]? := by
  have := erase_get x.toList y.toList d s h hs
  simpa using this
theorem Slt.old8 {l : List Oper} {a A : Act} {lp : Array Bool} {a' : Act} (h : Slt l a A lp a') (s : Nat) (hs : ∀ o ∈ l, o.dst ≠ some s) : a'.tmps[s]? = a.tmps[s]? := h.oth s (fun k o hk _ => hs o (List.mem_of_getElem? hk))
theorem AtP.set8 {W : World} {B : Nat} {px : BitVec 128} {pn : Int} (k : AtP W B px pn) (z : BitVec 128) (n : Int) : AtP (((W.setCell ⟨B, 0, none⟩ (.int .u64 (hI z))).setCell ⟨B, 1, none⟩ (.int .u64 (lI z))).setCell ⟨B, 2, none⟩ (.int .i64 n)) B z n := by
  obtain ⟨c0, c1, c2, f0, f1, f2⟩ := k
  refine ⟨?_, ?_, ?_, ?_, ?_, ?_⟩ <;> simp [go_sem, *]
structure RA (V : World) (cx : BitVec 128) (nn : Int) (b5 b6 : Bool) (g : Nat) (W : World) : Prop where
  bel : Below V.heap.size V W
  a : b5 = true → V.heap.size ≤ g ∧ (if b6 = true then AtP W g cx nn else AtP W g 0#128 0)
  c : b6 = true → b5 = true
theorem RA.below {V : World} {cx : BitVec 128} {nn : Int} {b5 b6 : Bool} {g : Nat} {W W' : World} (k : RA V cx nn b5 b6 g W) (hb : Below W.heap.size W W') : RA V cx nn b5 b6 g W' := ⟨keepb hb k.bel, fun h => ⟨(k.a h).1, by have := (k.a h).2; cases b6 <;> simp at this ⊢ <;> exact this.below hb⟩, k.c⟩
theorem RA.al {V : World} {cx : BitVec 128} {nn : Int} {b6 : Bool} {g : Nat} {W : World} (k : RA V cx nn false b6 g W) : RA V cx nn true b6 W.heap.size (W.alloc (.cells #[.int .u64 0, .int .u64 0, .int .i64 0] 45)) := by
  have h6 : b6 = false := by
    cases h : b6 with
    | false => rfl
    | true => exact absurd (k.c h) (by decide)
  have hb := bl1 W (.cells #[.int .u64 0, .int .u64 0, .int .i64 0] 45)
  have ha := atp_new W W.heap.size 0#128 0 45 rfl
  rw [hI_zero, lI_zero] at ha
  exact ⟨keepb hb k.bel, fun _ => ⟨k.bel.size, by rw [h6, if_neg (by decide)]; exact ha⟩, fun _ => rfl⟩
theorem RA.st {V : World} {cx : BitVec 128} {nn : Int} {b5 : Bool} {g : Nat} {W : World} (k : RA V cx nn b5 false g W) (h5 : b5 = true) : RA V cx nn b5 true g (((W.setCell ⟨g, 0, none⟩ (.int .u64 (hI cx))).setCell ⟨g, 1, none⟩ (.int .u64 (lI cx))).setCell ⟨g, 2, none⟩ (.int .i64 nn)) := by
  obtain ⟨h1, h2⟩ := k.a h5
  rw [if_neg (by decide)] at h2
  exact ⟨((k.bel.setCell (p := ⟨g, 0, none⟩) h1 _).setCell (p := ⟨g, 1, none⟩) h1 _).setCell (p := ⟨g, 2, none⟩) h1 _, fun _ => ⟨h1, by rw [if_pos rfl]; exact h2.set8 cx nn⟩, fun _ => h5⟩

end Go.Proofs.Ytofpbommhklooaa
/-
  What the calls of package prefix's Parent, Sibling, Cmp, Meet do, of right prefixes.
-/
namespace Go.Proofs.Ytofpbommhklooaa
open Go.RowKit
set_option linter.unusedSimpArgs false
set_option linter.unusedVariables false

def parentV (x : BitVec 128) (n : Int) : BitVec 128 := if n ≤ 0 then 0#128 else cutW x (n - 1)
def parentN (n : Int) : Int := if n ≤ 0 then 0 else n - 1
def sibV (x : BitVec 128) (n : Int) : BitVec 128 := if n ≤ 0 then 0#128 else x ^^^ bit1 (n - 1)
def sibN (n : Int) : Int := if n ≤ 0 then 0 else n
def cmpI (a b : Int) : Int := if a < b then -1 else if b < a then 1 else 0
theorem compare_any (a b : Int) (w : World) :
    Calls Try.prog 73 #[.int .i64 a, .int .i64 b] w fun e w' => e = .returned (.int .i64 (cmpI a b)) ∧ w' = w := by
  unfold cmpI
  have haa : (a != a) = false := by simp
  have hbb : (b != b) = false := by simp
  by_cases h : a < b
  · rw [if_pos h]
    go_enter Try.func73, Try.ntmps73
    go_wp2_with go_in
    go_ret
    exact ⟨rfl, rfl⟩
  · rw [if_neg h]
    by_cases h2 : b < a
    · rw [if_pos h2]
      go_enter Try.func73, Try.ntmps73
      go_wp2_with go_in
      go_ret
      exact ⟨rfl, rfl⟩
    · rw [if_neg h2]
      go_enter Try.func73, Try.ntmps73
      go_wp2_with go_in
      go_ret
      exact ⟨rfl, rfl⟩
def pcmpZ (x : BitVec 128) (n : Int) (y : BitVec 128) (m : Int) : Int := if cmpZ x y = 0 then cmpI n m else cmpZ x y
set_option maxHeartbeats 1000000 in
theorem pcmp_any (x : BitVec 128) (n : Int) (y : BitVec 128) (m : Int) (w : World) :
    Calls Try.prog 67 #[.agg #[.int .u64 (hI x), .int .u64 (lI x), .int .i64 n], .agg #[.int .u64 (hI y), .int .u64 (lI y), .int .i64 m]] w fun e w' => e = .returned (.int .i64 (pcmpZ x n y m)) ∧ Below w.heap.size w w' := by
  have KC := fun w => cmp_any x y w
  have KM := fun w => compare_any n m w
  unfold pcmpZ
  generalize cmpZ x y = c at *
  generalize cmpI n m = d at *
  by_cases h : c = 0
  · subst h
    rw [if_pos rfl]
    go_enter Try.func67, Try.ntmps67
    go_wp2_with fail
    refine (KC _).mono ?_
    rintro e w1 ⟨rfl, hb1⟩
    have kB := keepb hb1 (bl2 w _ _)
    obtain ⟨p0, p1, p2, -, -, -⟩ := ((atp_new w w.heap.size x n 45 rfl).below (bl1 _ (.cells #[.int .u64 (hI y), .int .u64 (lI y), .int .i64 m] 45))).below hb1
    obtain ⟨r0, r1, r2, -, -, -⟩ := (atp_new (w.alloc (.cells #[.int .u64 (hI x), .int .u64 (lI x), .int .i64 n] 45)) (w.heap.size + 1) y m 45 (by simp)).below hb1
    clear hb1 KC
    go_wp2_with fail
    refine (KM _).mono ?_
    rintro e w2 ⟨rfl, rfl⟩
    go_wp2
    go_ret
    exact ⟨rfl, kB⟩
  · have hb : (c != 0) = true := by simp [h]
    rw [if_neg h]
    go_enter Try.func67, Try.ntmps67
    go_wp2_with fail
    refine (KC _).mono ?_
    rintro e w1 ⟨rfl, hb1⟩
    have kB := keepb hb1 (bl2 w _ _)
    clear hb1 KC
    go_wp2
    go_ret
    exact ⟨rfl, kB⟩
end Go.Proofs.Ytofpbommhklooaa
/-
  What the calls of package table's isHop, byPrefix, checkRoute and checkRoutes do.
-/
namespace Go.Proofs.Ytofpbommhklooaa
open Go.RowKit
set_option linter.unusedSimpArgs false
set_option linter.unusedVariables false

/-- A route: its prefix, its next hop. -/
abbrev Rte := (BitVec 128 × Int) × Int
def AtR (w : World) (B : Nat) (x : BitVec 128) (n h : Int) : Prop := w.cell? ⟨B, 0, none⟩ = some (.int .u64 (hI x)) ∧ w.cell? ⟨B, 1, none⟩ = some (.int .u64 (lI x)) ∧ w.cell? ⟨B, 2, none⟩ = some (.int .i64 n) ∧ w.cell? ⟨B, 3, none⟩ = some (.int .i64 h)
theorem AtR.below {w w' : World} {B : Nat} {x : BitVec 128} {n h : Int} (g : AtR w B x n h) (hb : Below w.heap.size w w') : AtR w' B x n h := by
  obtain ⟨h0, h1, h2, h3⟩ := g
  exact ⟨keepc hb h0, keepc hb h1, keepc hb h2, keepc hb h3⟩
theorem atr_new (w : World) (B : Nat) (x : BitVec 128) (n h : Int) (T : TypeId) (e : B = w.heap.size) : AtR (w.alloc (.cells #[.int .u64 (hI x), .int .u64 (lI x), .int .i64 n, .int .i64 h] T)) B x n h := by
  subst e
  refine ⟨?_, ?_, ?_, ?_⟩ <;> simp [go_sem]
/-- A row of routes. -/
def rowR : List Rte → List Value
  | [] => []
  | r :: l => .int .u64 (hI r.1.1) :: .int .u64 (lI r.1.1) :: .int .i64 r.1.2 :: .int .i64 r.2 :: rowR l
theorem rowR_get : ∀ (l : List Rte) (j : Nat) (hj : j < l.length), (rowR l)[j * 4]? = some (.int .u64 (hI l[j].1.1)) ∧ (rowR l)[j * 4 + 1]? = some (.int .u64 (lI l[j].1.1)) ∧ (rowR l)[j * 4 + 2]? = some (.int .i64 l[j].1.2) ∧ (rowR l)[j * 4 + 3]? = some (.int .i64 l[j].2) := by
  intro l
  induction l with
  | nil => intro j hj; simp at hj
  | cons p l ih =>
    intro j hj
    cases j with
    | zero => simp [rowR]
    | succ j =>
      have := ih j (by simpa using hj)
      rw [show (j + 1) * 4 = j * 4 + 4 by omega, show j * 4 + 4 + 1 = j * 4 + 1 + 4 by omega, show j * 4 + 4 + 2 = j * 4 + 2 + 4 by omega, show j * 4 + 4 + 3 = j * 4 + 3 + 4 by omega]
      simpa [rowR] using this
/-- A list of routes in memory, whosever it is. -/
def RwR (W : World) (v : Value) (l : List Rte) : Prop := ∃ ao c, v = .slice ao l.length c ∧ (l = [] ∨ ∃ b off, ao = some ⟨b, off, none⟩ ∧ ∀ j u, (rowR l)[j]? = some u → W.cell? ⟨b, off + j, none⟩ = some u)
theorem RwR.below {W W' : World} {v : Value} {l : List Rte} (h : RwR W v l) (hb : Below W.heap.size W W') : RwR W' v l := by
  obtain ⟨ao, c, e, h⟩ := h
  refine ⟨ao, c, e, h.imp id ?_⟩
  rintro ⟨b, off, e', hc⟩
  exact ⟨b, off, e', fun j u hj => keepc hb (hc j u hj)⟩
theorem rwr_cells {W : World} {b off : Nat} {l : List Rte} (h : ∀ j u, (rowR l)[j]? = some u → W.cell? ⟨b, off + j, none⟩ = some u) (k : Nat) (hk : k < l.length) :
    W.cell? ⟨b, off + k * 4, none⟩ = some (.int .u64 (hI l[k].1.1)) ∧ W.cell? ⟨b, off + k * 4 + 1, none⟩ = some (.int .u64 (lI l[k].1.1)) ∧ W.cell? ⟨b, off + k * 4 + 2, none⟩ = some (.int .i64 l[k].1.2) ∧ W.cell? ⟨b, off + k * 4 + 3, none⟩ = some (.int .i64 l[k].2) := by
  obtain ⟨a, c, d, e⟩ := rowR_get l k hk
  exact ⟨h _ _ a, h _ _ c, h _ _ d, h _ _ e⟩
def hopB (n : Int) : Bool := decide (1 ≤ n) && decide (n ≤ 65535)
theorem isHop_any (n : Int) (w : World) : Calls Try.prog 71 #[.int .i64 n] w fun e w' => e = .returned (.bool (hopB n)) ∧ w' = w := by
  unfold hopB
  go_enter Try.func71, Try.ntmps71
  by_cases h1 : 1 ≤ n
  · by_cases h2 : n ≤ 65535
    · go_wp2
      go_ret
      exact ⟨by simp [h1, h2], rfl⟩
    · go_wp2
      go_ret
      exact ⟨by simp [h1, h2], rfl⟩
  · go_wp2
    go_ret
    exact ⟨by rw [decide_eq_false (by omega : ¬ 1 ≤ n)]; rfl, rfl⟩
theorem hidR {p : Prop} (h : p) : Hid p := h
theorem byPrefix_any (x : BitVec 128) (n h : Int) (y : BitVec 128) (m g : Int) (w : World) :
    Calls Try.prog 50 #[.agg #[.int .u64 (hI x), .int .u64 (lI x), .int .i64 n, .int .i64 h], .agg #[.int .u64 (hI y), .int .u64 (lI y), .int .i64 m, .int .i64 g]] w fun e w' => e = .returned (.int .i64 (pcmpZ x n y m)) ∧ Below w.heap.size w w' := by
  have KC := fun w => pcmp_any x n y m w
  generalize pcmpZ x n y m = z at *
  have A1 := atr_new w w.heap.size x n h 47 rfl
  have b1 := bl1 w (.cells #[.int .u64 (hI x), .int .u64 (lI x), .int .i64 n, .int .i64 h] 47)
  have b2 := bl1 (w.alloc (.cells #[.int .u64 (hI x), .int .u64 (lI x), .int .i64 n, .int .i64 h] 47)) (.cells #[.int .u64 (hI y), .int .u64 (lI y), .int .i64 m, .int .i64 g] 47)
  obtain ⟨p0, p1, p2, -⟩ := A1.below b2
  obtain ⟨q0, q1, q2, -⟩ := atr_new (w.alloc (.cells #[.int .u64 (hI x), .int .u64 (lI x), .int .i64 n, .int .i64 h] 47)) (w.heap.size + 1) y m g 47 (by simp)
  have HB := hidR (keepb b2 b1)
  clear A1 b1 b2
  go_enter Try.func50, Try.ntmps50
  go_wp2_with fail
  refine (KC _).mono ?_
  rintro e w1 ⟨rfl, hb⟩
  have kB := keepb hb HB.out
  clear KC hb HB p0 p1 p2 q0 q1 q2
  go_wp2
  go_ret
  exact ⟨rfl, kB⟩
/-- The error of one route. -/
def rteE (F : Int) (r : Rte) : Int := if checkE F r.1.1 r.1.2 = 0 then (if hopB r.2 = true then 0 else 15) else checkE F r.1.1 r.1.2
set_option maxHeartbeats 2000000 in
theorem checkRoute_any (F : Int) (x : BitVec 128) (n h : Int) (w : World) :
    Calls Try.prog 66 #[.int .i64 F, .agg #[.int .u64 (hI x), .int .u64 (lI x), .int .i64 n, .int .i64 h]] w fun e w' => e = .returned (.int .i64 (rteE F ((x, n), h))) ∧ Below w.heap.size w w' := by
  have KC := fun w => pcheck_any F x n w
  have KH := fun w => isHop_any h w
  unfold rteE
  dsimp only
  revert KC KH
  generalize checkE F x n = ce
  generalize hopB h = hp
  intro KC KH
  obtain ⟨p0, p1, p2, p3⟩ := atr_new w w.heap.size x n h 47 rfl
  have A1 := hidR (atr_new w w.heap.size x n h 47 rfl)
  have b1 := hidR (bl1 w (.cells #[.int .u64 (hI x), .int .u64 (lI x), .int .i64 n, .int .i64 h] 47))
  go_enter Try.func66, Try.ntmps66
  go_wp2_with fail
  refine (KC _).mono ?_
  rintro e w1 ⟨rfl, hb⟩
  have kB := keepb hb b1.out
  obtain ⟨q0, q1, q2, q3⟩ := A1.out.below hb
  clear KC hb A1 b1 p0 p1 p2 p3
  by_cases hc : ce = 0
  · subst hc
    go_wp2_with fail
    refine (KH _).mono ?_
    rintro e w2 ⟨rfl, rfl⟩
    clear KH q0 q1 q2 q3
    cases hp
    · go_wp2
      go_ret
      exact ⟨by simp, kB⟩
    · go_wp2
      go_ret
      exact ⟨by simp, kB⟩
  · have hn : (ce != 0) = true := by simp [hc]
    go_wp2
    go_ret
    exact ⟨by first | rfl | rw [if_neg hc], kB⟩
/-- The first error of a list of routes. -/
def rtsG (F : Int) : List Rte → Int
  | [] => 0
  | r :: l => if rteE F r = 0 then rtsG F l else rteE F r
def rtsE (F : Int) (l : List Rte) : Int := if fam F = true then (if 1048576 < l.length then 16 else rtsG F l) else 11
theorem rts_drop (F : Int) (l : List Rte) (k : Nat) (hk : k < l.length) : rtsG F (l.drop k) = if rteE F l[k] = 0 then rtsG F (l.drop (k + 1)) else rteE F l[k] := by
  rw [List.drop_eq_getElem_cons hk]
  rfl
set_option maxHeartbeats 2000000 in
theorem checkRoutes_any (F : Int) (v : Value) (l : List Rte) (w : World) (hv : RwR w v l) :
    Calls Try.prog 49 #[.int .i64 F, v] w fun e w' => e = .returned (.int .i64 (rtsE F l)) ∧ Below w.heap.size w w' := by
  obtain ⟨ao, c, rfl, hv⟩ := hv
  have KL := fun w => alast_any F w
  unfold lastV lastE at KL
  unfold rtsE
  cases hf : fam F
  · rw [hf, if_neg (by simp), if_neg (by simp), hI_zero, lI_zero] at KL
    rw [if_neg (by simp)]
    clear hf hv
    go_enter Try.func49, Try.ntmps49
    go_wp2_with fail
    refine (KL _).mono ?_
    rintro e w1 ⟨rfl, hb⟩
    clear KL
    go_wp2
    go_ret
    exact ⟨rfl, hb.alloc hb.size _⟩
  · rw [hf, if_pos rfl, if_pos rfl] at KL
    rw [if_pos rfl]
    have HV := hidR hv
    clear hf hv
    generalize maskW F = mk at *
    by_cases hl : 1048576 < l.length
    · rw [if_pos hl]
      have h1 : (1048576 : Int) < (l.length : Int) := by omega
      go_enter Try.func49, Try.ntmps49
      go_wp2_with fail
      refine (KL _).mono ?_
      rintro e w1 ⟨rfl, hb⟩
      clear KL
      go_wp2
      go_ret
      exact ⟨rfl, hb.alloc hb.size _⟩
    · rw [if_neg hl]
      have h1 : ¬ (1048576 : Int) < (l.length : Int) := by omega
      go_enter Try.func49, Try.ntmps49
      go_wp2_with fail
      refine (KL _).mono ?_
      rintro e w1 ⟨rfl, hb⟩
      have kB := hb.alloc hb.size (.cells #[.int .u64 (hI mk), .int .u64 (lI mk)] 27)
      clear KL hb
      go_wp2_with fail
      go_loopw [23] (fun i wr => ∃ k : Nat, k ≤ l.length ∧ i = .int .i64 k ∧ Hid (rtsG F (l.drop k) = rtsG F l) ∧ Below w.heap.size w wr) (fun i _ => l.length - (intOf i).toNat)
      case atStart => exact ⟨0, by omega, rfl, (rfl : rtsG F (l.drop 0) = rtsG F l), kB⟩
      case round =>
        clear kB
        obtain ⟨k, hk, rfl, hG, hB⟩ := hrel
        by_cases hlt : (k : Int) < (l.length : Int)
        · have hks : k < l.length := by omega
          rcases HV.out with h | ⟨b, off, rfl, hc⟩
          · rw [h] at hks; simp at hks
          · obtain ⟨x0, x1, x2, x3⟩ := rwr_cells hc k hks
            have x0 := keepc hB x0
            have x1 := keepc hB x1
            have x2 := keepc hB x2
            have x3 := keepc hB x3
            have KC := fun w => checkRoute_any F l[k].1.1 l[k].1.2 l[k].2 w
            have HD := hidR (rts_drop F l k hks)
            have eR : ((l[k].1.1, l[k].1.2), l[k].2) = l[k] := rfl
            rw [eR] at KC
            clear hc HV eR
            revert KC HD
            generalize rteE F l[k] = ce
            generalize l[k].1.1 = px at *
            generalize l[k].1.2 = pn at *
            generalize l[k].2 = ph at *
            intro KC HD
            have P0 := atr_new wr wr.heap.size px pn ph 47 rfl
            obtain ⟨p0, p1, p2, p3⟩ := id P0
            go_wp2_with fail
            refine (KC _).mono ?_
            rintro e w2 ⟨rfl, hb⟩
            have kB2 := keepb hb (hB.alloc hB.size (.cells #[.int .u64 (hI px), .int .u64 (lI px), .int .i64 pn, .int .i64 ph] 47))
            clear hb KC x0 x1 x2 x3 p0 p1 p2 p3 P0
            by_cases hce : ce = 0
            · subst hce
              have hk2 : IntKind.i64.wrap ((k : Int) + 1) = (k : Int) + 1 := by rw [IntKind.wrap_i64]; omega
              go_wp2
              go_roundw
              case rel =>
                refine ⟨k + 1, by omega, by simp, ?_, kB2⟩
                show rtsG F (l.drop (k + 1)) = rtsG F l
                rw [← hG.out, HD.out]; simp
              case measure => simp [intOf]; omega
            · have hn : (ce != 0) = true := by simp [hce]
              have HE : Hid (rtsG F l = ce) := by show _ = _; rw [← hG.out, HD.out, if_neg hce]
              go_wp2
              go_ret
              exact ⟨by rw [HE.out]; rfl, kB2⟩
        · have hd : decide ((k : Int) < (l.length : Int)) = false := by simpa using hlt
          have HE : Hid (rtsG F l = 0) := by
            show _ = _
            rw [← hG.out, List.drop_eq_nil_of_le (by omega)]; rfl
          go_wp2
          go_ret
          exact ⟨by rw [HE.out]; rfl, hB⟩
end Go.Proofs.Ytofpbommhklooaa
/-
  What the calls of package prefix's Meet, Last, Kids do, of right prefixes.
-/
namespace Go.Proofs.Ytofpbommhklooaa
open Go.RowKit
set_option linter.unusedSimpArgs false
set_option linter.unusedVariables false

theorem run_min3 {P : Program} (w : World) (ts : Array TypeId) (t : TypeId) (x y z : Int) :
    (Builtin.min_ ts t #[.int .i64 x, .int .i64 y, .int .i64 z]).run P w = .ok (.int .i64 (min (min x y) z)) w := by
  have e : ∀ x y : Int, (if y < x then y else x) = min x y := fun x y => by
    rw [Int.min_def]
    split <;> split <;> omega
  simp [Builtin.min_, Builtin.min2, e]
def meetN (x : BitVec 128) (n : Int) (y : BitVec 128) (m : Int) : Int := min (min n m) ((leadN (x ^^^ y) : Nat) : Int)
set_option maxHeartbeats 1000000 in
set_option maxRecDepth 20000 in
theorem pmeet_any (x : BitVec 128) (n : Int) (y : BitVec 128) (m : Int) (w : World) :
    Calls Try.prog 54 #[.agg #[.int .u64 (hI x), .int .u64 (lI x), .int .i64 n], .agg #[.int .u64 (hI y), .int .u64 (lI y), .int .i64 m]] w fun e w' => e = .returned (.agg #[.int .u64 (hI (cutW x (meetN x n y m))), .int .u64 (lI (cutW x (meetN x n y m))), .int .i64 (meetN x n y m)]) ∧ Below w.heap.size w w' := by
  have KC := fun w => wcommon_any x y w
  unfold meetN
  generalize ((leadN (x ^^^ y) : Nat) : Int) = l at *
  have KM := fun w => cut_any x (min (min n m) l) w
  revert KM
  generalize hv : min (min n m) l = v
  generalize cutW x v = c
  intro KM
  have hmin : ∀ (w : World) (ts : Array TypeId) (t : TypeId), (Builtin.min_ ts t #[.int .i64 n, .int .i64 m, .int .i64 l]).run Try.prog w = .ok (.int .i64 v) w := fun w ts t => by rw [run_min3, hv]
  clear hv
  have hbl := fun o p q => (bl3 w o p q).drew
  go_enter Try.func54, Try.ntmps54
  go_wp2
  go_region_held3 (fun w' => w'.cell? ⟨w.heap.size, 0, none⟩ = some (.int .u64 (hI x)) ∧ w'.cell? ⟨w.heap.size, 1, none⟩ = some (.int .u64 (lI x)) ∧ w'.cell? ⟨w.heap.size, 2, none⟩ = some (.int .i64 n) ∧ w'.cell? ⟨w.heap.size + 1, 0, none⟩ = some (.int .u64 (hI y)) ∧ w'.cell? ⟨w.heap.size + 1, 1, none⟩ = some (.int .u64 (lI y)) ∧ w'.cell? ⟨w.heap.size + 1, 2, none⟩ = some (.int .i64 m) ∧ w'.cell? ⟨w.heap.size + 1 + 1, 0, none⟩ = some (cv w' (w.heap.size + 1 + 1) 0) ∧ w'.cell? ⟨w.heap.size + 1 + 1, 1, none⟩ = some (cv w' (w.heap.size + 1 + 1) 1) ∧ w'.cell? ⟨w.heap.size + 1 + 1, 2, none⟩ = some (cv w' (w.heap.size + 1 + 1) 2) ∧ w'.frozen? ⟨w.heap.size + 1 + 1, 0, none⟩ = false ∧ w'.frozen? ⟨w.heap.size + 1 + 1, 1, none⟩ = false ∧ w'.frozen? ⟨w.heap.size + 1 + 1, 2, none⟩ = false ∧ Below w.heap.size w w')
    (first
      | (obtain ⟨k1, k2, k0, j1, j2, j0, k3, k4, k5, k6, k7, k8, k9⟩ := ‹_ ∧ _›; exact ⟨keepc hb2 k1, keepc hb2 k2, keepc hb2 k0, keepc hb2 j1, keepc hb2 j2, keepc hb2 j0, cv_of (keepc hb2 k3), cv_of (keepc hb2 k4), cv_of (keepc hb2 k5), keepf hb2 k3 k6, keepf hb2 k4 k7, keepf hb2 k5 k8, keepb hb2 k9⟩)
      | (obtain ⟨k1, k2, k0, j1, j2, j0, k3, k4, k5, k6, k7, k8, k9⟩ := ‹_ ∧ _›; exact ⟨keepc hb1 k1, keepc hb1 k2, keepc hb1 k0, keepc hb1 j1, keepc hb1 j2, keepc hb1 j0, cv_of (keepc hb1 k3), cv_of (keepc hb1 k4), cv_of (keepc hb1 k5), keepf hb1 k3 k6, keepf hb1 k4 k7, keepf hb1 k5 k8, keepb hb1 k9⟩)
      | (refine ⟨?_, ?_, ?_, ?_, ?_, ?_, cv_new ?_, cv_new ?_, cv_new ?_, ?_, ?_, ?_, ?_⟩ <;> first | (simp [go_sem, *]; done) | exact bset3 (by simp [*]) (by omega) _ _ _))
    (first | (go_at_call 68; refine (KC _).mono ?_; rintro e w1 ⟨rfl, hb1⟩) | (go_at_call 61; refine (KM _).mono ?_; rintro e w2 ⟨rfl, hb2⟩))
  obtain ⟨-, -, -, -, -, -, -, -, -, -, -, -, kB⟩ := ‹_ ∧ _›
  have e0 : w2.cell? ⟨w.heap.size + 1 + 1, 0, none⟩ = some (.int .u64 0) := keepc hb2 (keepc hb1 (by simp [go_sem]))
  have e1 : w2.cell? ⟨w.heap.size + 1 + 1, 1, none⟩ = some (.int .u64 0) := keepc hb2 (keepc hb1 (by simp [go_sem]))
  have e2 : w2.cell? ⟨w.heap.size + 1 + 1, 2, none⟩ = some (.int .i64 0) := keepc hb2 (keepc hb1 (by simp [go_sem]))
  go_wp2
  exact bodyPost_ret (v := .agg #[.int .u64 (hI c), .int .u64 (lI c), .int .i64 v]) (by simp [results, Try.results54, go_sem, e0, e1, e2]) rfl ⟨rfl, kB⟩

end Go.Proofs.Ytofpbommhklooaa
