/-
  Part 15 of the proof: 4 texts, one behind the other.
-/
import Derived.Test.YtonagfmkplbooaaGreatDoorPart7
import Derived.Test.YtonagfmkplbooaaGreatDoorPart9
import Derived.Test.YtonagfmkplbooaaGreatDoorPart12
/-
  What the call of package algebra's behind does.
-/
namespace Go.Proofs.YtonagfmkplbooaaGreatDoor
open Go.RowKit
set_option linter.unusedSimpArgs false
set_option linter.unusedVariables false

theorem setG (A : List Value) (n : Nat) (hA : A.length = n * 5) (a b c d e u v : Value) : ((A ++ [a, b, c, d, e]).set (n * 5 + 2) u).set (n * 5 + 3) v = A ++ [a, b, u, v, e] := by
  rw [List.set_append, if_neg (by omega), hA, show n * 5 + 2 - n * 5 = 2 by omega, List.set_append, if_neg (by omega), hA, show n * 5 + 3 - n * 5 = 3 by omega]
  rfl
theorem ownG_last {W : World} {base n g c : Nat} {s : List Sg} {a : Sg} (h : W.ownsRow base 47 5 (.slice (some ⟨g, 0, none⟩) (n + 1) c) (n + 1) (rowG (s ++ [a]))) (hn : s.length = n) :
    W.cell? ⟨g, n * 5, none⟩ = some (.int .u64 (hI a.1.1)) ∧ W.cell? ⟨g, n * 5 + 1, none⟩ = some (.int .u64 (lI a.1.1)) ∧ W.cell? ⟨g, n * 5 + 2, none⟩ = some (.int .u64 (hI a.1.2)) ∧ W.cell? ⟨g, n * 5 + 3, none⟩ = some (.int .u64 (lI a.1.2)) ∧ W.cell? ⟨g, n * 5 + 4, none⟩ = some (.int .i64 a.2) := by
  have t := ownG_cells h n (by simp [hn])
  have e : (s ++ [a])[n]'(by simp [hn]) = a := by subst hn; simp
  rwa [e] at t
theorem own_cap6 {W : World} {base e size n g c : Nat} {xs : List Value} (h : W.ownsRow base e size (.slice (some ⟨g, 0, none⟩) n c) n xs) : n ≤ c := by
  rcases h.2 with ⟨e0, _⟩ | ⟨g', cap', cur, e0, hb, hg, hnc, hm, hs, ht⟩
  · cases e0
  · injection e0 with e1 _ e3
    omega
theorem ownR_cells6 {W : World} {base n g c : Nat} {l : List Rte} (h : W.ownsRow base 45 4 (.slice (some ⟨g, 0, none⟩) n c) n (rowR l)) (j : Nat) (hj : j < l.length) :
    W.cell? ⟨g, j * 4, none⟩ = some (.int .u64 (hI l[j].1.1)) ∧ W.cell? ⟨g, j * 4 + 1, none⟩ = some (.int .u64 (lI l[j].1.1)) ∧ W.cell? ⟨g, j * 4 + 2, none⟩ = some (.int .i64 l[j].1.2) ∧ W.cell? ⟨g, j * 4 + 3, none⟩ = some (.int .i64 l[j].2) := by
  obtain ⟨a0, a1, a2, a3⟩ := rowR_get l j hj
  have f := fun k u => h.cells (g := g) rfl k u
  exact ⟨by have := f _ _ a0; rwa [addA, Nat.zero_add] at this, by have := f _ _ a1; rwa [addA, Nat.zero_add] at this, by have := f _ _ a2; rwa [addA, Nat.zero_add] at this, by have := f _ _ a3; rwa [addA, Nat.zero_add] at this⟩
theorem grown_drew6 (W : World) (n : Nat) (r : Option Nat) : W.grownBy (W.drewN n) r := ⟨rfl, rfl, rfl, Nat.le_refl _, fun _ _ _ => rfl⟩
/-- What behind leaves of memory: the row is laid on in its own place, or anew. -/
def BhO (base : Nat) (v : Value) (st : List Sg) (w : World) (v' : Value) (w' : World) : Prop := w'.ownsRow base 47 5 v' st.length (rowG st.reverse) ∧ w.grownBy w' v.ownBlock ∧ (∀ z, v'.ownBlock = some z → v.ownBlock = some z ∨ w.heap.size ≤ z)
theorem bhO_app {base : Nat} {v : Value} {st : List Sg} {x y : BitVec 128} {h : Int} {w w4 : World} {g cap n : Nat} (o1 o2 : Obj) (nq : Nat) (hn : st.length = n)
    (hown4 : w4.ownsRow base 47 5 (.slice (some ⟨g, 0, none⟩) (n + 1) cap) (n + 1) (rowG st.reverse ++ [.int .u64 (hI x), .int .u64 (lI x), .int .u64 (hI y), .int .u64 (lI y), .int .i64 h])) (hgrow : (((w.alloc o1).drewN nq).alloc o2).grownBy w4 v.ownBlock) (hat : v.ownBlock = some g ∨ g = (((w.alloc o1).drewN nq).alloc o2).heap.size) :
    BhO base v (((x, y), h) :: st) w (.slice (some ⟨g, 0, none⟩) (n + 1) cap) w4 := by
  refine ⟨?_, (((World.grownBy_alloc w o1 _).trans (grown_drew6 _ nq _)).trans (World.grownBy_alloc _ o2 _)).trans hgrow, ?_⟩
  · rw [List.length_cons, hn, List.reverse_cons, rowG_one]
    exact hown4
  · intro z hz
    have e : g = z := by simpa [Value.ownBlock] using hz
    rcases hat with q | q
    · exact .inl (by rw [q, e])
    · right
      simp at q
      omega
theorem bhO_set {base : Nat} {st : List Sg} {ax ay y : BitVec 128} {ah : Int} {w : World} {g cap n : Nat} (o1 : Obj) (nq : Nat) (hn : st.length = n)
    (hown : w.ownsRow base 47 5 (.slice (some ⟨g, 0, none⟩) (n + 1) cap) (n + 1) (rowG (st.reverse ++ [((ax, ay), ah)]))) :
    BhO base (.slice (some ⟨g, 0, none⟩) (n + 1) cap) (((ax, y), ah) :: st) w (.slice (some ⟨g, 0, none⟩) (n + 1) cap) ((((w.alloc o1).drewN nq).setCell ⟨g, n * 5 + 2, none⟩ (.int .u64 (hI y))).setCell ⟨g, n * 5 + 3, none⟩ (.int .u64 (lI y))) := by
  have h0 : ((w.alloc o1).drewN nq).ownsRow base 47 5 (.slice (some ⟨g, 0, none⟩) (n + 1) cap) (n + 1) (rowG (st.reverse ++ [((ax, ay), ah)])) := own_heap (hown.alloc o1) (fun _ _ => rfl)
  obtain ⟨h1, g1⟩ := h0.stored (n * 5 + 2) (.int .u64 (hI y))
  obtain ⟨h2, g2⟩ := h1.stored (n * 5 + 3) (.int .u64 (lI y))
  refine ⟨?_, (((World.grownBy_alloc w o1 _).trans (grown_drew6 _ nq _)).trans g1).trans g2, fun z hz => .inl hz⟩
  rw [List.length_cons, hn, List.reverse_cons, rowG_one]
  rw [rowG_one, setG (rowG st.reverse) n (by rw [rowG_len, List.length_reverse, hn])] at h2
  exact h2
theorem newsGB (W : World) (B : Nat) (hB : B = W.heap.size) (a b c d e : Value) (t : TypeId) : ∀ j u, [a, b, c, d, e][j]? = some u → (W.alloc (.cells #[a, b, c, d, e] t)).cell? ((⟨B, 0, none⟩ : Addr).add j) = some u := by
  subst hB
  exact newsG W a b c d e t
set_option maxRecDepth 20000 in
set_option maxHeartbeats 8000000 in
theorem behind_any (base : Nat) (v : Value) (st : List Sg) (x y : BitVec 128) (h : Int) (w : World) (hown : w.ownsRow base 47 5 v st.length (rowG st.reverse)) (hb : base ≤ w.heap.size) (hl : st.length ≤ 1000000000) :
    Calls Tryz.prog 42 #[v, .agg #[.int .u64 (hI x), .int .u64 (lI x), .int .u64 (hI y), .int .u64 (lI y), .int .i64 h]] w fun e w' => ∃ v', e = .returned v' ∧ BhO base v (behS st ((x, y), h)) w v' w' := by
  obtain ⟨i0, hi, hz0, hz1, hz2⟩ := info_parts Tryz.infoG
  obtain ⟨p0, p1, p2, p3, p4, -⟩ := atg_new w w.heap.size x y h 47 rfl
  cases st with
  | nil =>
    obtain ⟨ao, c, rfl⟩ := own_form hown
    have HN : Hid (([] : List Sg).length = 0) := hidR rfl
    have HO : Hid (w.ownsRow base 47 5 (.slice ao 0 c) 0 (rowG ([] : List Sg).reverse)) := hidR hown
    have ms : IntKind.i64.wrap (0 - 1) = -1 := by rw [IntKind.wrap_i64]; omega
    have h63 : 0 + 1 ≤ maxLen := by unfold maxLen; omega
    have h47 : (0 + 1) * 40 ≤ 140737488355328 := by omega
    clear hown
    go_enter Tryz.func42, Tryz.ntmps42
    go_wp2_with fail
    go_quiet (fail)
    go_wp2_with (first | (
        at_builtin
        refine wpList_append_lies _ rfl _ _ 41 rfl base 47 i0 (.agg #[.int .u64 0, .int .u64 0, .int .u64 0, .int .u64 0, .int .i64 0]) 5 40 Tryz.underlying41 hi hz0 hz1 hz2 rfl (by decide) _ _ _ rfl (own_heap (W' := ((w.alloc (.cells #[.int .u64 (hI x), .int .u64 (lI x), .int .u64 (hI y), .int .u64 (lI y), .int .i64 h] 47)).drewN nq)) (HO.out.alloc _) (fun _ _ => rfl) |>.alloc _) ⟨w.heap.size + 1, 0, none⟩ 1 1 [.int .u64 (hI x), .int .u64 (lI x), .int .u64 (hI y), .int .u64 (lI y), .int .i64 h] rfl rfl (newsGB _ _ (by simp) _ _ _ _ _ _) (fiveG _ _ _ _ _) (by decide) h63 h47 (by simp; omega) _ rfl ?_
        intro g4 cap4 w4 hown4 hgrow hat hlt4
        have HR := hidR (bhO_app _ _ _ HN.out hown4 hgrow hat)
        clear hgrow hat hown4 hlt4 h63 h47 p0 p1 p2 p3 p4))
    go_wp2
    go_ret
    exact ⟨_, rfl, HR.out⟩
  | cons a st =>
    obtain ⟨⟨ax, ay⟩, ah⟩ := a
    obtain ⟨g, cap, rfl, -, -⟩ := hown.form (by simp)
    obtain ⟨n, HN⟩ : ∃ n, Hid (st.length = n) := ⟨_, rfl⟩
    have hlen : (((ax, ay), ah) :: st).length = n + 1 := by have := HN.out; simp [this]
    have hn : n + 1 ≤ 1000000000 := by rw [← hlen]; exact hl
    rw [hlen] at hown
    rw [hlen]
    have HO := hidR hown
    have hrev : (((ax, ay), ah) :: st).reverse = st.reverse ++ [((ax, ay), ah)] := by simp
    rw [hrev] at hown
    obtain ⟨c0, c1, c2, c3, c4⟩ := ownG_last hown (by rw [List.length_reverse]; exact HN.out)
    have f2 := hown.frozenAt (n * 5 + 2)
    have f3 := hown.frozenAt (n * 5 + 3)
    have hcap := own_cap6 hown
    have HS := hidR hown
    have hgl := cell_in c0
    have c4' := keepc (bl1 w (.cells #[.int .u64 (hI x), .int .u64 (lI x), .int .u64 (hI y), .int .u64 (lI y), .int .i64 h] 47)) c4
    have c2' := keepc (bl1 w (.cells #[.int .u64 (hI x), .int .u64 (lI x), .int .u64 (hI y), .int .u64 (lI y), .int .i64 h] 47)) c2
    have c3' := keepc (bl1 w (.cells #[.int .u64 (hI x), .int .u64 (lI x), .int .u64 (hI y), .int .u64 (lI y), .int .i64 h] 47)) c3
    have f2' := keepf (bl1 w (.cells #[.int .u64 (hI x), .int .u64 (lI x), .int .u64 (hI y), .int .u64 (lI y), .int .i64 h] 47)) c2 f2
    have f3' := keepf (bl1 w (.cells #[.int .u64 (hI x), .int .u64 (lI x), .int .u64 (hI y), .int .u64 (lI y), .int .i64 h] 47)) c3 f3
    have m1 : IntKind.i64.wrap ((n : Int) + 1 - 1) = (n : Int) := by rw [IntKind.wrap_i64]; omega
    have i1 : (0 : Int) ≤ (n : Int) := by omega
    have i2 : (n : Int) < (n : Int) + 1 := by omega
    clear c0 c1 c2 c3 c4 f2 f3 hlen hrev hown
    go_enter Tryz.func42, Tryz.ntmps42
    by_cases hh : ah = h
    · have d1 : (ah == h) = true := by simp [hh]
      have HE : Hid (behS (((ax, ay), ah) :: st) ((x, y), h) = ((ax, y), ah) :: st) := hidR (by rw [behS, if_pos hh])
      clear hh
      go_wp2_with fail
      go_quiet (fail)
      go_wp2
      go_ret
      exact ⟨_, rfl, by rw [HE.out]; exact bhO_set _ _ HN.out HS.out⟩
    · have d1 : (ah == h) = false := by simp [hh]
      have HE : Hid (behS (((ax, ay), ah) :: st) ((x, y), h) = ((x, y), h) :: ((ax, ay), ah) :: st) := hidR (by rw [behS, if_neg hh])
      have HN : Hid ((((ax, ay), ah) :: st).length = n + 1) := hidR (by have := HN.out; simp [this])
      have h63 : n + 1 + 1 ≤ maxLen := by unfold maxLen; omega
      have h47 : (n + 1 + 1) * 40 ≤ 140737488355328 := by omega
      clear hh HS f2' f3' c2' c3'
      go_wp2_with fail
      go_quiet (fail)
      go_wp2_with (first | (
          at_builtin
          refine wpList_append_lies _ rfl _ _ 41 rfl base 47 i0 (.agg #[.int .u64 0, .int .u64 0, .int .u64 0, .int .u64 0, .int .i64 0]) 5 40 Tryz.underlying41 hi hz0 hz1 hz2 rfl (by decide) _ _ _ rfl (own_heap (W' := ((w.alloc (.cells #[.int .u64 (hI x), .int .u64 (lI x), .int .u64 (hI y), .int .u64 (lI y), .int .i64 h] 47)).drewN nq)) (HO.out.alloc _) (fun _ _ => rfl) |>.alloc _) ⟨w.heap.size + 1, 0, none⟩ 1 1 [.int .u64 (hI x), .int .u64 (lI x), .int .u64 (hI y), .int .u64 (lI y), .int .i64 h] rfl rfl (newsGB _ _ (by simp) _ _ _ _ _ _) (fiveG _ _ _ _ _) (by decide) h63 h47 (by simp; omega) _ rfl ?_
          intro g4 cap4 w4 hown4 hgrow hat hlt4
          have HR := hidR (bhO_app _ _ _ HN.out hown4 hgrow hat)
          clear hgrow hat hown4 hlt4 h63 h47 p0 p1 p2 p3 p4))
      go_wp2
      go_ret
      exact ⟨_, rfl, by rw [HE.out]; exact HR.out⟩
end Go.Proofs.YtonagfmkplbooaaGreatDoor
/-
  What the calls of the sweeper's methods do: the innermost one of the open routes.
-/
namespace Go.Proofs.YtonagfmkplbooaaGreatDoor
open Go.RowKit
set_option linter.unusedSimpArgs false
set_option linter.unusedVariables false

/-- The open routes as they lie in memory: the innermost one. -/
def InR (W : World) (B g n cap : Nat) (x : BitVec 128) (m h : Int) : Prop := W.cell? ⟨B, 1, none⟩ = some (.slice (some ⟨g, 0, none⟩) (n + 1) cap) ∧ W.cell? ⟨g, n * 4, none⟩ = some (.int .u64 (hI x)) ∧ W.cell? ⟨g, n * 4 + 1, none⟩ = some (.int .u64 (lI x)) ∧ W.cell? ⟨g, n * 4 + 2, none⟩ = some (.int .i64 m) ∧ W.cell? ⟨g, n * 4 + 3, none⟩ = some (.int .i64 h)
theorem InR.below {W W' : World} {B g n cap : Nat} {x : BitVec 128} {m h : Int} (k : InR W B g n cap x m h) (hb : Below W.heap.size W W') : InR W' B g n cap x m h := ⟨keepc hb k.1, keepc hb k.2.1, keepc hb k.2.2.1, keepc hb k.2.2.2.1, keepc hb k.2.2.2.2⟩
/-- A block of four cells that may be written. -/
def AtQ (W : World) (N : Nat) : Prop := W.cell? ⟨N, 0, none⟩ = some (.int .u64 0) ∧ W.cell? ⟨N, 1, none⟩ = some (.int .u64 0) ∧ W.cell? ⟨N, 2, none⟩ = some (.int .i64 0) ∧ W.cell? ⟨N, 3, none⟩ = some (.int .i64 0) ∧ W.frozen? ⟨N, 0, none⟩ = false ∧ W.frozen? ⟨N, 1, none⟩ = false ∧ W.frozen? ⟨N, 2, none⟩ = false ∧ W.frozen? ⟨N, 3, none⟩ = false
theorem atq_new (w : World) (N : Nat) (T : TypeId) (e : N = w.heap.size) : AtQ (w.alloc (.cells #[.int .u64 0, .int .u64 0, .int .i64 0, .int .i64 0] T)) N := by
  subst e
  refine ⟨?_, ?_, ?_, ?_, ?_, ?_, ?_, ?_⟩ <;> simp [go_sem]
def set4 (W : World) (N : Nat) (a b c d : Value) : World := (((W.setCell ⟨N, 0, none⟩ a).setCell ⟨N, 1, none⟩ b).setCell ⟨N, 2, none⟩ c).setCell ⟨N, 3, none⟩ d
theorem bset4 {n C : Nat} {w W : World} (h : Below n w W) (hp : n ≤ C) (a b c d : Value) : Below n w (set4 W C a b c d) := (((h.setCell hp _).setCell hp _).setCell hp _).setCell hp _
theorem set4_at (W : World) (N : Nat) (a b c d : Value) {p q r s : Value} (z0 : W.cell? ⟨N, 0, none⟩ = some p) (z1 : W.cell? ⟨N, 1, none⟩ = some q) (z2 : W.cell? ⟨N, 2, none⟩ = some r) (z3 : W.cell? ⟨N, 3, none⟩ = some s) :
    (set4 W N a b c d).cell? ⟨N, 0, none⟩ = some a ∧ (set4 W N a b c d).cell? ⟨N, 1, none⟩ = some b ∧ (set4 W N a b c d).cell? ⟨N, 2, none⟩ = some c ∧ (set4 W N a b c d).cell? ⟨N, 3, none⟩ = some d := by
  unfold set4
  refine ⟨?_, ?_, ?_, ?_⟩ <;> simp [go_sem, *]
/-- What inner reads while it makes its answer. -/
def CI (w : World) (B g n cap : Nat) (x : BitVec 128) (m h : Int) (W : World) : Prop := InR W B g n cap x m h ∧ AtQ W w.heap.size ∧ Below w.heap.size w W
theorem CI.drew {w W : World} {B g n cap : Nat} {x : BitVec 128} {m h : Int} (k : CI w B g n cap x m h W) : CI w B g n cap x m h W.drew := ⟨k.1, k.2.1, k.2.2.drew⟩
set_option maxHeartbeats 4000000 in
theorem inner_any (B g n cap : Nat) (x : BitVec 128) (m h : Int) (w : World) (hI' : InR w B g n cap x m h) (hn : n ≤ 1000000000) :
    Calls Tryz.prog 37 #[.pointer (some ⟨B, 0, none⟩)] w fun e w' => e = .returned (.agg #[.int .u64 (hI x), .int .u64 (lI x), .int .i64 m, .int .i64 h]) ∧ Below w.heap.size w w' := by
  have HC := hidR (⟨hI'.below (bl1 w (.cells #[.int .u64 0, .int .u64 0, .int .i64 0, .int .i64 0] 45)), atq_new w w.heap.size 45 rfl, bl1 w _⟩ : CI w B g n cap x m h (w.alloc (.cells #[.int .u64 0, .int .u64 0, .int .i64 0, .int .i64 0] 45)))
  have m1 : IntKind.i64.wrap ((n : Int) + 1 - 1) = (n : Int) := by rw [IntKind.wrap_i64]; omega
  have i1 : (0 : Int) ≤ (n : Int) := by omega
  have i2 : (n : Int) < (n : Int) + 1 := by omega
  clear hI'
  go_enter Tryz.func37, Tryz.ntmps37
  go_wp2_with fail
  refine qp_region2 12 (qpOk 12 12 (by decide) (fun N => by kernel_rfl) (by kernel_rfl) (by kernel_rfl) (by kernel_rfl) (by kernel_rfl)) (C := CI w B g n cap x m h) [some 3, some 4, some 5, some 6, some 7, some 8, some 9, some 10, some 11, some 12, some 13, some 14] [.pointer (some ⟨B, 0, none⟩), .pointer (some ⟨B, 0, none⟩), .pointer (some ⟨B, 1, none⟩), .slice (some ⟨g, 0, none⟩) (n + 1) cap, .pointer (some ⟨B, 0, none⟩), .pointer (some ⟨B, 0, none⟩), .pointer (some ⟨B, 1, none⟩), .slice (some ⟨g, 0, none⟩) (n + 1) cap, .int .i64 ((n : Int) + 1), .int .i64 (n : Int), .pointer (some ⟨g, n * 4, none⟩), .agg #[.int .u64 (hI x), .int .u64 (lI x), .int .i64 m, .int .i64 h]] (by kernel_rfl) (CI.drew HC.out) ?walk ?fin
  case walk =>
    dsimp only [List.take]
    clear HC
    refine q_run (v := .pointer (some ⟨B, 0, none⟩)) (by rfl) ?_ ?_
    · (intro w1 hC; obtain ⟨⟨c0, c1, c2, c3, c4⟩, -, -⟩ := hC; go_simp; first | done | (simp; done) | (simp [*]; done) | omega | (simp; omega) | (rw [IntKind.wrap_i64]; omega) | (intro hx; omega) | rfl)
    simp only [Act.put, List.setIfInBounds_toArray, List.set_cons_zero, List.set_cons_succ]
    refine q_run (v := .pointer (some ⟨B, 0, none⟩)) (by rfl) ?_ ?_
    · (intro w1 hC; obtain ⟨⟨c0, c1, c2, c3, c4⟩, -, -⟩ := hC; go_simp; first | done | (simp; done) | (simp [*]; done) | omega | (simp; omega) | (rw [IntKind.wrap_i64]; omega) | (intro hx; omega) | rfl)
    simp only [Act.put, List.setIfInBounds_toArray, List.set_cons_zero, List.set_cons_succ]
    refine q_run (v := .pointer (some ⟨B, 1, none⟩)) (by rfl) ?_ ?_
    · (intro w1 hC; obtain ⟨⟨c0, c1, c2, c3, c4⟩, -, -⟩ := hC; go_simp; first | done | (simp; done) | (simp [*]; done) | omega | (simp; omega) | (rw [IntKind.wrap_i64]; omega) | (intro hx; omega) | rfl)
    simp only [Act.put, List.setIfInBounds_toArray, List.set_cons_zero, List.set_cons_succ]
    refine q_run (v := .slice (some ⟨g, 0, none⟩) (n + 1) cap) (by rfl) ?_ ?_
    · (intro w1 hC; obtain ⟨⟨c0, c1, c2, c3, c4⟩, -, -⟩ := hC; go_simp; first | done | (simp; done) | (simp [*]; done) | omega | (simp; omega) | (rw [IntKind.wrap_i64]; omega) | (intro hx; omega) | rfl)
    simp only [Act.put, List.setIfInBounds_toArray, List.set_cons_zero, List.set_cons_succ]
    refine q_run (v := .pointer (some ⟨B, 0, none⟩)) (by rfl) ?_ ?_
    · (intro w1 hC; obtain ⟨⟨c0, c1, c2, c3, c4⟩, -, -⟩ := hC; go_simp; first | done | (simp; done) | (simp [*]; done) | omega | (simp; omega) | (rw [IntKind.wrap_i64]; omega) | (intro hx; omega) | rfl)
    simp only [Act.put, List.setIfInBounds_toArray, List.set_cons_zero, List.set_cons_succ]
    refine q_run (v := .pointer (some ⟨B, 0, none⟩)) (by rfl) ?_ ?_
    · (intro w1 hC; obtain ⟨⟨c0, c1, c2, c3, c4⟩, -, -⟩ := hC; go_simp; first | done | (simp; done) | (simp [*]; done) | omega | (simp; omega) | (rw [IntKind.wrap_i64]; omega) | (intro hx; omega) | rfl)
    simp only [Act.put, List.setIfInBounds_toArray, List.set_cons_zero, List.set_cons_succ]
    refine q_run (v := .pointer (some ⟨B, 1, none⟩)) (by rfl) ?_ ?_
    · (intro w1 hC; obtain ⟨⟨c0, c1, c2, c3, c4⟩, -, -⟩ := hC; go_simp; first | done | (simp; done) | (simp [*]; done) | omega | (simp; omega) | (rw [IntKind.wrap_i64]; omega) | (intro hx; omega) | rfl)
    simp only [Act.put, List.setIfInBounds_toArray, List.set_cons_zero, List.set_cons_succ]
    refine q_run (v := .slice (some ⟨g, 0, none⟩) (n + 1) cap) (by rfl) ?_ ?_
    · (intro w1 hC; obtain ⟨⟨c0, c1, c2, c3, c4⟩, -, -⟩ := hC; go_simp; first | done | (simp; done) | (simp [*]; done) | omega | (simp; omega) | (rw [IntKind.wrap_i64]; omega) | (intro hx; omega) | rfl)
    simp only [Act.put, List.setIfInBounds_toArray, List.set_cons_zero, List.set_cons_succ]
    refine q_run (v := .int .i64 ((n : Int) + 1)) (by rfl) ?_ ?_
    · (intro w1 hC; obtain ⟨⟨c0, c1, c2, c3, c4⟩, -, -⟩ := hC; go_simp; first | done | (simp; done) | (simp [*]; done) | omega | (simp; omega) | (rw [IntKind.wrap_i64]; omega) | (intro hx; omega) | rfl)
    simp only [Act.put, List.setIfInBounds_toArray, List.set_cons_zero, List.set_cons_succ]
    refine q_run (v := .int .i64 (n : Int)) (by rfl) ?_ ?_
    · (intro w1 hC; obtain ⟨⟨c0, c1, c2, c3, c4⟩, -, -⟩ := hC; go_simp; first | done | (simp; done) | (simp [*]; done) | omega | (simp; omega) | (rw [IntKind.wrap_i64]; omega) | (intro hx; omega) | rfl)
    simp only [Act.put, List.setIfInBounds_toArray, List.set_cons_zero, List.set_cons_succ]
    refine q_run (v := .pointer (some ⟨g, n * 4, none⟩)) (by rfl) ?_ ?_
    · (intro w1 hC; obtain ⟨⟨c0, c1, c2, c3, c4⟩, -, -⟩ := hC; go_simp; first | done | (simp; done) | (simp [*]; done) | omega | (simp; omega) | (rw [IntKind.wrap_i64]; omega) | (intro hx; omega) | rfl)
    simp only [Act.put, List.setIfInBounds_toArray, List.set_cons_zero, List.set_cons_succ]
    refine q_run (v := .agg #[.int .u64 (hI x), .int .u64 (lI x), .int .i64 m, .int .i64 h]) (by rfl) ?_ ?_
    · (intro w1 hC; obtain ⟨⟨c0, c1, c2, c3, c4⟩, -, -⟩ := hC; go_simp; first | done | (simp; done) | (simp [*]; done) | omega | (simp; omega) | (rw [IntKind.wrap_i64]; omega) | (intro hx; omega) | rfl)
    simp only [Act.put, List.setIfInBounds_toArray, List.set_cons_zero, List.set_cons_succ]
    refine wpQuiet_nil ?_
    simp only [putAll, Act.put, List.setIfInBounds_toArray, List.set_cons_zero, List.set_cons_succ]
  case fin =>
    intro W hC
    obtain ⟨-, ⟨z0, z1, z2, z3, z4, z5, z6, z7⟩, kB⟩ := hC
    simp only [putAll, Act.put, List.setIfInBounds_toArray, List.set_cons_zero, List.set_cons_succ]
    dsimp only [List.drop]
    clear HC
    have kB2 := bset4 kB (Nat.le_refl w.heap.size) (.int .u64 (hI x)) (.int .u64 (lI x)) (.int .i64 m) (.int .i64 h)
    obtain ⟨s0, s1, s2, s3⟩ := set4_at W w.heap.size (.int .u64 (hI x)) (.int .u64 (lI x)) (.int .i64 m) (.int .i64 h) z0 z1 z2 z3
    unfold set4 at kB2 s0 s1 s2 s3
    go_wp2
    exact bodyPost_ret (v := .agg #[.int .u64 (hI x), .int .u64 (lI x), .int .i64 m, .int .i64 h]) (by simp [results, Tryz.results37, go_sem, s0, s1, s2, s3]) rfl ⟨rfl, kB2⟩
end Go.Proofs.YtonagfmkplbooaaGreatDoor
/-
  A drawn region with one call in its midst that changes memory: one walk of the text's order, the call's answer a letter.
-/
namespace Go.Proofs.YtonagfmkplbooaaGreatDoor
open Go.RowKit
set_option linter.unusedSimpArgs false
set_option linter.unusedVariables false
section
variable {P : Program}
theorem cl_region {id : Nat} {l : List Oper} (m j : Nat) {oj : Oper} (ok : AlOk l m j oj) {D : World → Prop} {C1 : Nat → World → Prop} {Q : Exit → Act → World → Prop} {a : Act} {w : World} (ds : List (Option Tmp)) (vals : Nat → List Value) (val : Nat → Value) (d : Nat) (rd : List Nat) (hm : P.follows .mixedOrders = true)
    (hd : oj.dst = some d) (hA : ∀ N, (putAll a ds (vals N)).tmps.toList.eraseIdx d = (putAll a ds (vals 0)).tmps.toList.eraseIdx d) (hrd : readB l m oj rd = true)
    (hal : ∀ w (a' : Act), D w → (∀ s ∈ rd, a'.tmps[s]? = (putAll a ds (vals 0)).tmps[s]?) → ∀ (K : Act → World → Prop) Q', (∀ N w', C1 N w' → K (a'.put oj.dst (val N)) w') → oj.wp P a' w K Q')
    (hD : D w.drew)
    (hwalk : ∀ N (X : World → Prop), (X = D ∨ X = C1 N) → wpQuiet P (rep (l.take m) j (val N)).toArray X (fun a' => a' = putAll a ds (vals N)) (rep (l.take m) j (val N)) a)
    (hpost : ∀ N w, C1 N w → wpList P l.toArray Q (l.drop m) (putAll a ds (vals N)) w) : (Code.region id l.toArray true).wp P Q a w :=
  sp_region m j ok (A := fun N => putAll a ds (vals N)) val rd hm (alA ok d hd hA) (read_of hrd) hal hD hwalk hpost
end
/-- All pairs of numbers, one behind the other. -/
def decN : Nat → Nat × Nat
  | 0 => (0, 0)
  | n + 1 => if (decN n).2 = 0 then (0, (decN n).1 + 1) else ((decN n).1 + 1, (decN n).2 - 1)
theorem decN_all (s : Nat) : ∀ a b : Nat, a + b = s → ∃ n, decN n = (a, b) := by
  induction s with
  | zero =>
    intro a b h
    have ha : a = 0 := by omega
    have hb : b = 0 := by omega
    subst ha; subst hb
    exact ⟨0, rfl⟩
  | succ s ih =>
    intro a
    induction a with
    | zero =>
      intro b h
      obtain ⟨n, hn⟩ := ih s 0 (by omega)
      refine ⟨n + 1, ?_⟩
      rw [decN, hn, if_pos rfl]
      simp; omega
    | succ a iha =>
      intro b h
      obtain ⟨n, hn⟩ := iha (b + 1) (by omega)
      refine ⟨n + 1, ?_⟩
      rw [decN, hn, if_neg (by simp)]
      simp
theorem decN_ex (a b : Nat) : ∃ n, decN n = (a, b) := decN_all (a + b) a b rfl
end Go.Proofs.YtonagfmkplbooaaGreatDoor
/-
  The sweeper in memory, and what becomes of it.
-/
namespace Go.Proofs.YtonagfmkplbooaaGreatDoor
open Go.RowKit
set_option linter.unusedSimpArgs false
set_option linter.unusedVariables false

def SwC (W : World) (B : Nat) (F : Int) (vo : Value) (nx : BitVec 128) (en : Bool) (vt : Value) : Prop := (W.cell? ⟨B, 0, none⟩ = some (.int .i64 F) ∧ W.cell? ⟨B, 1, none⟩ = some vo ∧ W.cell? ⟨B, 2, none⟩ = some (.int .u64 (hI nx)) ∧ W.cell? ⟨B, 3, none⟩ = some (.int .u64 (lI nx)) ∧ W.cell? ⟨B, 4, none⟩ = some (.bool en) ∧ W.cell? ⟨B, 5, none⟩ = some vt) ∧ W.frozen? ⟨B, 1, none⟩ = false ∧ W.frozen? ⟨B, 2, none⟩ = false ∧ W.frozen? ⟨B, 3, none⟩ = false ∧ W.frozen? ⟨B, 4, none⟩ = false ∧ W.frozen? ⟨B, 5, none⟩ = false
theorem SwC.heap {W W' : World} {B : Nat} {F : Int} {vo : Value} {nx : BitVec 128} {en : Bool} {vt : Value} (k : SwC W B F vo nx en vt) (e : W'.heap[B]? = W.heap[B]?) : SwC W' B F vo nx en vt := by
  unfold SwC at *
  simpa only [cellH e, frozH e] using k
theorem SwC.set1 {W : World} {B : Nat} {F : Int} {vo : Value} {nx : BitVec 128} {en : Bool} {vt : Value} (k : SwC W B F vo nx en vt) (u : Value) : SwC (W.setCell ⟨B, 1, none⟩ u) B F u nx en vt := by
  obtain ⟨⟨a0, a1, a2, a3, a4, a5⟩, f1, f2, f3, f4, f5⟩ := k
  refine ⟨⟨?_, ?_, ?_, ?_, ?_, ?_⟩, ?_, ?_, ?_, ?_, ?_⟩ <;> simp [go_sem, *]
theorem SwC.set5 {W : World} {B : Nat} {F : Int} {vo : Value} {nx : BitVec 128} {en : Bool} {vt : Value} (k : SwC W B F vo nx en vt) (u : Value) : SwC (W.setCell ⟨B, 5, none⟩ u) B F vo nx en u := by
  obtain ⟨⟨a0, a1, a2, a3, a4, a5⟩, f1, f2, f3, f4, f5⟩ := k
  refine ⟨⟨?_, ?_, ?_, ?_, ?_, ?_⟩, ?_, ?_, ?_, ?_, ?_⟩ <;> simp [go_sem, *]
theorem SwC.set3 {W : World} {B : Nat} {F : Int} {vo : Value} {nx : BitVec 128} {en : Bool} {vt : Value} (k : SwC W B F vo nx en vt) (y : BitVec 128) (b : Bool) : SwC (((W.setCell ⟨B, 2, none⟩ (.int .u64 (hI y))).setCell ⟨B, 3, none⟩ (.int .u64 (lI y))).setCell ⟨B, 4, none⟩ (.bool b)) B F vo y b vt := by
  obtain ⟨⟨a0, a1, a2, a3, a4, a5⟩, f1, f2, f3, f4, f5⟩ := k
  refine ⟨⟨?_, ?_, ?_, ?_, ?_, ?_⟩, ?_, ?_, ?_, ?_, ?_⟩ <;> simp [go_sem, *]
theorem SwC.lt {W : World} {B : Nat} {F : Int} {vo : Value} {nx : BitVec 128} {en : Bool} {vt : Value} (k : SwC W B F vo nx en vt) : B < W.heap.size := cell_in k.1.1
/-- The sweeper, its rows, and a block Z that is not its own. -/
structure SwV (W : World) (base B : Nat) (F : Int) (op : List Rte) (t : T3) (Z : Nat → Prop) (ob : Nat → Option Obj) (vo vc vt : Value) : Prop where
  c : SwC W B F vo t.1 t.2.1 vc
  oo : W.ownsRow base 45 4 vo op.length (rowR op.reverse)
  ot : W.ownsRow base 47 5 vt t.2.2.length (rowG t.2.2.reverse)
  n1 : vo.ownBlock ≠ some B
  n2 : vt.ownBlock ≠ some B
  n3 : ∀ z, vo.ownBlock = some z → vt.ownBlock ≠ some z
  bB : base ≤ B
  z : ∀ k, Z k → W.heap[k]? = ob k
  zB : ∀ k, Z k → k ≠ B
  zl : ∀ k, Z k → k < W.heap.size
  z1 : ∀ k, Z k → vo.ownBlock ≠ some k
  z2 : ∀ k, Z k → vt.ownBlock ≠ some k
theorem SwV.below {W W' : World} {base B : Nat} {F : Int} {op : List Rte} {t : T3} {Z : Nat → Prop} {ob : Nat → Option Obj} {vo vc vt : Value} (k : SwV W base B F op t Z ob vo vc vt) (hb : Below W.heap.size W W') : SwV W' base B F op t Z ob vo vc vt :=
  ⟨k.c.heap (hb.block _ k.c.lt), own_heap k.oo (fun g e => hb.block g (k.oo.lt g e).2), own_heap k.ot (fun g e => hb.block g (k.ot.lt g e).2), k.n1, k.n2, k.n3, k.bB, fun z hz => by rw [hb.block _ (k.zl z hz)]; exact k.z z hz, k.zB, fun z hz => by have := hb.size; have := k.zl z hz; omega, k.z1, k.z2⟩
/-- One more block is watched: a new one. -/
theorem SwV.more {W : World} {base B : Nat} {F : Int} {op : List Rte} {t : T3} {Z : Nat → Prop} {ob : Nat → Option Obj} {vo vc vt : Value} (k : SwV W base B F op t Z ob vo vc vt) (o : Obj) : SwV (W.alloc o) base B F op t (fun z => Z z ∨ z = W.heap.size) (fun z => (W.alloc o).heap[z]?) vo vc vt := by
  have k' := k.below (bl1 W o)
  refine ⟨k'.c, k'.oo, k'.ot, k'.n1, k'.n2, k'.n3, k'.bB, fun z _ => rfl, ?_, ?_, ?_, ?_⟩
  · intro z hz
    rcases hz with q | q
    · exact k.zB z q
    · have := k.c.lt; omega
  · intro z hz
    rcases hz with q | q
    · exact k'.zl z q
    · simp [q]
  · intro z hz
    rcases hz with q | q
    · exact k.z1 z q
    · intro e; have := (k.oo.lt _ e).2; omega
  · intro z hz
    rcases hz with q | q
    · exact k.z2 z q
    · intro e; have := (k.ot.lt _ e).2; omega
/-- Fewer blocks are watched, or told in other words. -/
theorem SwV.fewer {W : World} {base B : Nat} {F : Int} {op : List Rte} {t : T3} {Z Y : Nat → Prop} {ob od : Nat → Option Obj} {vo vc vt : Value} (k : SwV W base B F op t Z ob vo vc vt) (h : ∀ z, Y z → Z z) (hd : ∀ z, Y z → ob z = od z) : SwV W base B F op t Y od vo vc vt :=
  ⟨k.c, k.oo, k.ot, k.n1, k.n2, k.n3, k.bB, fun z hz => by rw [← hd z hz]; exact k.z z (h z hz), fun z hz => k.zB z (h z hz), fun z hz => k.zl z (h z hz), fun z hz => k.z1 z (h z hz), fun z hz => k.z2 z (h z hz)⟩
theorem SwV.base {W : World} {base B : Nat} {F : Int} {op : List Rte} {t : T3} {Z : Nat → Prop} {ob : Nat → Option Obj} {vo vc vt : Value} (k : SwV W base B F op t Z ob vo vc vt) : base ≤ W.heap.size := by
  have := k.bB
  have := k.c.lt
  omega
/-- The innermost one of the open routes. -/
theorem SwV.inner {W : World} {base B : Nat} {F : Int} {o : Rte} {os : List Rte} {t : T3} {Z : Nat → Prop} {ob : Nat → Option Obj} {vo vc vt : Value} (k : SwV W base B F (o :: os) t Z ob vo vc vt) : ∃ g cap, vo = .slice (some ⟨g, 0, none⟩) (os.length + 1) cap ∧ InR W B g os.length cap o.1.1 o.1.2 o.2 ∧ os.length + 1 ≤ cap := by
  obtain ⟨g, cap, e, -, -⟩ := k.oo.form (by simp)
  have e : vo = .slice (some ⟨g, 0, none⟩) (os.length + 1) cap := e
  have h := k.oo
  rw [e, List.length_cons, List.reverse_cons] at h
  have h2 := k.c.1.2.1
  rw [e] at h2
  have q : (os.reverse ++ [o])[os.length]'(by simp) = o := by simp [List.getElem_append]
  obtain ⟨c0, c1, c2, c3⟩ := ownR_cells6 h os.length (by simp)
  rw [q] at c0 c1 c2 c3
  exact ⟨g, cap, e, ⟨h2, c0, c1, c2, c3⟩, own_cap6 h⟩
/-- A segment is told: behind has answered. -/
theorem SwV.told {W W' : World} {base B : Nat} {F : Int} {op : List Rte} {nx : BitVec 128} {en : Bool} {to st : List Sg} {Z : Nat → Prop} {ob : Nat → Option Obj} {vo vc vt v' : Value} (k : SwV W base B F op (nx, en, to) Z ob vo vc vt) (h : BhO base vt st W v' W') : SwV W' base B F op (nx, en, st) Z ob vo vc v' := by
  obtain ⟨h1, h2, h3⟩ := h
  have hB := k.c.lt
  have he : ∀ z, z < W.heap.size → vt.ownBlock ≠ some z → W'.heap[z]? = W.heap[z]? := fun z q1 q2 => h2.block z q1 (fun e => q2 e.symm)
  have nv : ∀ z, z < W.heap.size → vt.ownBlock ≠ some z → v'.ownBlock ≠ some z := by
    intro z q1 q2 e
    rcases h3 z e with q | q
    · exact q2 q
    · omega
  refine ⟨k.c.heap (he B hB k.n2), own_heap k.oo (fun g e => he g (k.oo.lt g e).2 (k.n3 g e)), h1, k.n1, nv B hB k.n2, fun z e => nv z (k.oo.lt z e).2 (k.n3 z e), k.bB, fun z hz => by rw [he z (k.zl z hz) (k.z2 z hz)]; exact k.z z hz, k.zB, fun z hz => ?_, k.z1, fun z hz => nv z (k.zl z hz) (k.z2 z hz)⟩
  have := h2.size
  have := k.zl z hz
  omega
/-- The row's new place is laid into the sweeper. -/
theorem SwV.put5 {W : World} {base B : Nat} {F : Int} {op : List Rte} {t : T3} {Z : Nat → Prop} {ob : Nat → Option Obj} {vo vc vt : Value} (k : SwV W base B F op t Z ob vo vc vt) : SwV (W.setCell ⟨B, 5, none⟩ vt) base B F op t Z ob vo vt vt := by
  refine ⟨k.c.set5 vt, own_heap k.oo (fun g e => hSet _ (fun q => k.n1 (by rw [e, q]))), own_heap k.ot (fun g e => hSet _ (fun q => k.n2 (by rw [e, q]))), k.n1, k.n2, k.n3, k.bB, fun z hz => by rw [hSet _ (k.zB z hz)]; exact k.z z hz, k.zB, fun z hz => ?_, k.z1, k.z2⟩
  have := k.zl z hz
  simp
  omega
/-- What comes next is laid into the sweeper. -/
theorem SwV.next {W : World} {base B : Nat} {F : Int} {op : List Rte} {nx : BitVec 128} {en : Bool} {to : List Sg} {Z : Nat → Prop} {ob : Nat → Option Obj} {vo vc vt : Value} (k : SwV W base B F op (nx, en, to) Z ob vo vc vt) (y : BitVec 128) (b : Bool) :
    SwV (((W.setCell ⟨B, 2, none⟩ (.int .u64 (hI y))).setCell ⟨B, 3, none⟩ (.int .u64 (lI y))).setCell ⟨B, 4, none⟩ (.bool b)) base B F op (y, b, to) Z ob vo vc vt := by
  have he : ∀ z, ¬ z = B → (((W.setCell ⟨B, 2, none⟩ (.int .u64 (hI y))).setCell ⟨B, 3, none⟩ (.int .u64 (lI y))).setCell ⟨B, 4, none⟩ (.bool b)).heap[z]? = W.heap[z]? := fun z q => by rw [hSet _ q, hSet _ q, hSet _ q]
  refine ⟨k.c.set3 y b, own_heap k.oo (fun g e => he g (fun q => k.n1 (by rw [e, q]))), own_heap k.ot (fun g e => he g (fun q => k.n2 (by rw [e, q]))), k.n1, k.n2, k.n3, k.bB, fun z hz => by rw [he z (k.zB z hz)]; exact k.z z hz, k.zB, fun z hz => ?_, k.z1, k.z2⟩
  have := k.zl z hz
  simp
  omega
theorem ownR_cut {w : World} {base n g cap : Nat} {s : List Rte} {a : Rte} (h : w.ownsRow base 45 4 (.slice (some ⟨g, 0, none⟩) (n + 1) cap) (n + 1) (rowR (s ++ [a]))) (hn : s.length = n) : w.ownsRow base 45 4 (.slice (some ⟨g, 0, none⟩) n cap) n (rowR s) := by
  have hl : ∀ l : List Rte, (rowR l).length = l.length * 4 := by
    intro l
    induction l with
    | nil => rfl
    | cons r l ih => simp [rowR, ih]; omega
  have ha : ∀ l m : List Rte, rowR (l ++ m) = rowR l ++ rowR m := by
    intro l
    induction l with
    | nil => intro m; rfl
    | cons p l ih => intro m; simp [rowR, ih]
  rcases h.2 with ⟨e0, _⟩ | ⟨g', cap', cur, e0, hb, hg, hnc, hm, hs, ht⟩
  · cases e0
  · injection e0 with e1 _ e3
    injection e1 with e1
    injection e1 with e1
    subst e1; subst e3
    refine ⟨by rw [hl]; omega, .inr ⟨g, cap, cur, rfl, hb, hg, by omega, hm, hs, ?_⟩⟩
    have e : rowR s = (rowR (s ++ [a])).take (n * 4) := by
      rw [ha, List.take_append_of_le_length (by rw [hl]; omega), List.take_of_length_le (by rw [hl]; omega)]
    rw [e, ← ht, List.take_take, Nat.min_eq_left (by omega)]
/-- The innermost route is shut. -/
theorem SwV.pop {W : World} {base B : Nat} {F : Int} {o : Rte} {os : List Rte} {t : T3} {Z : Nat → Prop} {ob : Nat → Option Obj} {g cap : Nat} {vc vt : Value} (k : SwV W base B F (o :: os) t Z ob (.slice (some ⟨g, 0, none⟩) (os.length + 1) cap) vc vt) : SwV (W.setCell ⟨B, 1, none⟩ (.slice (some ⟨g, 0, none⟩) os.length cap)) base B F os t Z ob (.slice (some ⟨g, 0, none⟩) os.length cap) vc vt := by
  have h0 := k.oo
  rw [List.length_cons, List.reverse_cons] at h0
  have hc := ownR_cut h0 (by simp)
  have n1 := k.n1
  refine ⟨k.c.set1 _, own_heap hc (fun g' e => hSet _ (fun q => ?_)), own_heap k.ot (fun g e => hSet _ (fun q => k.n2 (by rw [e, q]))), n1, k.n2, k.n3, k.bB, fun z hz => by rw [hSet _ (k.zB z hz)]; exact k.z z hz, k.zB, fun z hz => ?_, k.z1, k.z2⟩
  · have e : g = g' := by simpa [Value.ownBlock] using e
    apply n1
    simp [Value.ownBlock, e, q]
  · have := k.zl z hz
    simp
    omega
/-- A route is opened: the row is laid on, its place laid into the sweeper. -/
theorem SwV.push {W w4 : World} {base B : Nat} {F : Int} {op : List Rte} {t : T3} {Z : Nat → Prop} {ob : Nat → Option Obj} {vo vc vt : Value} {x : BitVec 128} {m h : Int} {g cap : Nat} (k : SwV W base B F op t Z ob vo vc vt)
    (hown : w4.ownsRow base 45 4 (.slice (some ⟨g, 0, none⟩) (op.length + 1) cap) (op.length + 1) (rowR op.reverse ++ [.int .u64 (hI x), .int .u64 (lI x), .int .i64 m, .int .i64 h])) (hg : W.grownBy w4 vo.ownBlock) (hat : vo.ownBlock = some g ∨ g = W.heap.size) :
    SwC w4 B F vo t.1 t.2.1 vc ∧ SwV (w4.setCell ⟨B, 1, none⟩ (.slice (some ⟨g, 0, none⟩) (op.length + 1) cap)) base B F (((x, m), h) :: op) t Z ob (.slice (some ⟨g, 0, none⟩) (op.length + 1) cap) vc vt := by
  have hB := k.c.lt
  have he : ∀ z, z < W.heap.size → vo.ownBlock ≠ some z → w4.heap[z]? = W.heap[z]? := fun z q1 q2 => hg.block z q1 (fun e => q2 e.symm)
  have gne : ∀ z, z < W.heap.size → vo.ownBlock ≠ some z → g ≠ z := by
    intro z h1 h2 e
    rcases hat with q | q
    · exact h2 (by rw [q, e])
    · omega
  have ob' : ∀ z, Value.ownBlock (.slice (some ⟨g, 0, none⟩) (op.length + 1) cap) = some z → g = z := fun z e => by simpa [Value.ownBlock] using e
  have hc := k.c.heap (he B hB k.n1)
  have ha : rowR (op.reverse ++ [((x, m), h)]) = rowR op.reverse ++ [.int .u64 (hI x), .int .u64 (lI x), .int .i64 m, .int .i64 h] := by
    generalize op.reverse = l
    induction l with
    | nil => rfl
    | cons p l ih => simp [rowR, ih]
  refine ⟨hc, hc.set1 _, ?_, ?_, fun e => gne B hB k.n1 (ob' B e), k.n2, ?_, k.bB, ?_, k.zB, ?_, ?_, k.z2⟩
  · rw [List.length_cons, List.reverse_cons, ha]
    refine own_heap hown (fun z e => hSet _ ?_)
    rw [← ob' z e]
    exact gne B hB k.n1
  · refine own_heap k.ot (fun z e => ?_)
    rw [hSet _ (fun q => k.n2 (by rw [e, q])), he z (k.ot.lt z e).2 (fun q => k.n3 z q e)]
  · intro z e e2
    rw [← ob' z e] at e2
    exact gne g (k.ot.lt g e2).2 (fun q => k.n3 g q e2) rfl
  · intro z q
    rw [hSet _ (k.zB z q), he z (k.zl z q) (k.z1 z q)]
    exact k.z z q
  · intro z q
    have := k.zl z q
    have := hg.size
    simp
    omega
  · intro z q e
    exact gne z (k.zl z q) (k.z1 z q) (ob' z e)
end Go.Proofs.YtonagfmkplbooaaGreatDoor
