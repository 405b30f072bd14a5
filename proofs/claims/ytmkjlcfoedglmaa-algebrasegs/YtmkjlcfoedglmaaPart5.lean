/-
  Part 5 of the proof: 8 texts, one behind the other.
-/
import Derived.Test.YtmkjlcfoedglmaaPart3
import Derived.Test.YtmkjlcfoedglmaaPart4
import Derived.Test.YtmkjlcfoedglmaaPart1
import Derived.Deep.QuietTactic
import Derived.BigQuiet
import Derived.Test.YtmkjlcfoedglmaaPart2
/-
  What a sweep through a table's routes tells, as a plain function.
-/
namespace Go.Proofs.Ytmkjlcfoedglmaa
set_option linter.unusedSimpArgs false
set_option linter.unusedVariables false

/-- A segment behind those that are told; the last one stands first. -/
def behS : List Sg → Sg → List Sg
  | [], s => [s]
  | a :: st, s => if a.2 = s.2 then ((a.1.1, s.1.2), a.2) :: st else s :: a :: st
/-- The first address of which nothing is told, whether there is none, what is told. -/
abbrev T3 := BitVec 128 × Bool × List Sg
def tell3 (F : Int) (la : BitVec 128) (h : Int) (t : T3) : T3 := if t.2.1 = true then t else if cmpZ la t.1 < 0 then t else (nextV F la, !nextB F la, behS t.2.2 ((t.1, la), h))
def popO (r : Rte) : List Rte → List Rte
  | [] => []
  | o :: os => if withinB r.1.1 r.1.2 o.1.1 o.1.2 = true then o :: os else popO r os
def popT (F : Int) (r : Rte) : List Rte → T3 → T3
  | [], t => t
  | o :: os, t => if withinB r.1.1 r.1.2 o.1.1 o.1.2 = true then t else popT F r os (tell3 F (lastW F o.1.1 o.1.2) o.2 t)
def entT (F : Int) (r : Rte) (h : Int) (t : T3) : T3 := if prevB F r.1.1 = true then tell3 F (prevV F r.1.1) h t else t
def endT (F : Int) : List Rte → T3 → T3
  | [], t => t
  | o :: os, t => endT F os (tell3 F (lastW F o.1.1 o.1.2) o.2 t)
def hopO : List Rte → Int
  | [] => 0
  | o :: _ => o.2
def swpGo (F : Int) : List Rte → T3 → List Rte → T3
  | op, t, [] => endT F op t
  | op, t, r :: l => swpGo F (r :: popO r op) (entT F r (hopO (popO r op)) (popT F r op t)) l
def op0 : List Rte := [((0#128, 0), 0)]
def t30 : T3 := (0#128, false, [])
def swp (F : Int) (l : List Rte) : List Sg := (swpGo F op0 t30 l).2.2.reverse
/-- The list of open routes ends with the one that has all addresses. -/
def Bot (op : List Rte) : Prop := ∃ os, op = os ++ op0
theorem Bot.ne {op : List Rte} (h : Bot op) : op ≠ [] := by obtain ⟨os, rfl⟩ := h; simp [op0]
theorem Bot.tl {o : Rte} {os : List Rte} (h : Bot (o :: os)) (r : Rte) (hr : 0 ≤ r.1.2) (hw : ¬ withinB r.1.1 r.1.2 o.1.1 o.1.2 = true) : Bot os := by
  obtain ⟨l, e⟩ := h
  cases l with
  | nil =>
    exfalso
    have e : o = ((0#128, 0), 0) := by have := List.cons.inj e; exact this.1
    subst e
    apply hw
    unfold withinB
    simp [hr, cutW, show maskW 0 = 0#128 by decide]
  | cons a l =>
    have := List.cons.inj e
    exact ⟨l, this.2⟩
theorem Bot.pop (r : Rte) (hr : 0 ≤ r.1.2) : ∀ op : List Rte, Bot op → Bot (popO r op)
  | [], h => h
  | o :: os, h => by
    rw [popO]
    split
    · exact h
    · rename_i hw; exact Bot.pop r hr os (h.tl r hr hw)
theorem behS_len (st : List Sg) (s : Sg) : (behS st s).length ≤ st.length + 1 := by
  cases st with
  | nil => simp [behS]
  | cons a st => simp only [behS]; split <;> simp
theorem tell3_len (F : Int) (la : BitVec 128) (h : Int) (t : T3) : (tell3 F la h t).2.2.length ≤ t.2.2.length + 1 := by
  unfold tell3
  split
  · omega
  · split
    · omega
    · exact behS_len _ _
theorem popT_len (F : Int) (r : Rte) : ∀ (op : List Rte) (t : T3), (popT F r op t).2.2.length + (popO r op).length ≤ t.2.2.length + op.length
  | [], t => by simp [popT, popO]
  | o :: os, t => by
    rw [popT, popO]
    split
    · simp
    · have h1 := popT_len F r os (tell3 F (lastW F o.1.1 o.1.2) o.2 t)
      have h2 := tell3_len F (lastW F o.1.1 o.1.2) o.2 t
      simp only [List.length_cons]
      omega
theorem entT_len (F : Int) (r : Rte) (h : Int) (t : T3) : (entT F r h t).2.2.length ≤ t.2.2.length + 1 := by
  unfold entT
  split
  · exact tell3_len _ _ _ _
  · omega
end Go.Proofs.Ytmkjlcfoedglmaa
/-
  What the call of package algebra's behind does.
-/
namespace Go.Proofs.Ytmkjlcfoedglmaa
open Go.RowKit
set_option linter.unusedSimpArgs false
set_option linter.unusedVariables false

theorem setG (A : List Value) (n : Nat) (hA : A.length = n * 5) (a b c d e u v : Value) : ((A ++ [a, b, c, d, e]).set (n * 5 + 2) u).set (n * 5 + 3) v = A ++ [a, b, u, v, e] := by
  rw [List.set_append, if_neg (by omega), hA, show n * 5 + 2 - n * 5 = 2 by omega, List.set_append, if_neg (by omega), hA, show n * 5 + 3 - n * 5 = 3 by omega]
  rfl
theorem ownG_last {W : World} {base n g c : Nat} {s : List Sg} {a : Sg} (h : W.ownsRow base 52 5 (.slice (some ⟨g, 0, none⟩) (n + 1) c) (n + 1) (rowG (s ++ [a]))) (hn : s.length = n) :
    W.cell? ⟨g, n * 5, none⟩ = some (.int .u64 (hI a.1.1)) ∧ W.cell? ⟨g, n * 5 + 1, none⟩ = some (.int .u64 (lI a.1.1)) ∧ W.cell? ⟨g, n * 5 + 2, none⟩ = some (.int .u64 (hI a.1.2)) ∧ W.cell? ⟨g, n * 5 + 3, none⟩ = some (.int .u64 (lI a.1.2)) ∧ W.cell? ⟨g, n * 5 + 4, none⟩ = some (.int .i64 a.2) := by
  have t := ownG_cells h n (by simp [hn])
  have e : (s ++ [a])[n]'(by simp [hn]) = a := by subst hn; simp
  rwa [e] at t
theorem own_cap6 {W : World} {base e size n g c : Nat} {xs : List Value} (h : W.ownsRow base e size (.slice (some ⟨g, 0, none⟩) n c) n xs) : n ≤ c := by
  rcases h.2 with ⟨e0, _⟩ | ⟨g', cap', cur, e0, hb, hg, hnc, hm, hs, ht⟩
  · cases e0
  · injection e0 with e1 _ e3
    omega
theorem ownR_cells6 {W : World} {base n g c : Nat} {l : List Rte} (h : W.ownsRow base 50 4 (.slice (some ⟨g, 0, none⟩) n c) n (rowR l)) (j : Nat) (hj : j < l.length) :
    W.cell? ⟨g, j * 4, none⟩ = some (.int .u64 (hI l[j].1.1)) ∧ W.cell? ⟨g, j * 4 + 1, none⟩ = some (.int .u64 (lI l[j].1.1)) ∧ W.cell? ⟨g, j * 4 + 2, none⟩ = some (.int .i64 l[j].1.2) ∧ W.cell? ⟨g, j * 4 + 3, none⟩ = some (.int .i64 l[j].2) := by
  obtain ⟨a0, a1, a2, a3⟩ := rowR_get l j hj
  have f := fun k u => h.cells (g := g) rfl k u
  exact ⟨by have := f _ _ a0; rwa [addA, Nat.zero_add] at this, by have := f _ _ a1; rwa [addA, Nat.zero_add] at this, by have := f _ _ a2; rwa [addA, Nat.zero_add] at this, by have := f _ _ a3; rwa [addA, Nat.zero_add] at this⟩
theorem grown_drew6 (W : World) (n : Nat) (r : Option Nat) : W.grownBy (W.drewN n) r := ⟨rfl, rfl, rfl, Nat.le_refl _, fun _ _ _ => rfl⟩
/-- What behind leaves of memory: the row is laid on in its own place, or anew. -/
def BhO (base : Nat) (v : Value) (st : List Sg) (w : World) (v' : Value) (w' : World) : Prop := w'.ownsRow base 52 5 v' st.length (rowG st.reverse) ∧ w.grownBy w' v.ownBlock ∧ (∀ z, v'.ownBlock = some z → v.ownBlock = some z ∨ w.heap.size ≤ z)
theorem bhO_app {base : Nat} {v : Value} {st : List Sg} {x y : BitVec 128} {h : Int} {w w4 : World} {g cap n : Nat} (o1 o2 : Obj) (nq : Nat) (hn : st.length = n)
    (hown4 : w4.ownsRow base 52 5 (.slice (some ⟨g, 0, none⟩) (n + 1) cap) (n + 1) (rowG st.reverse ++ [.int .u64 (hI x), .int .u64 (lI x), .int .u64 (hI y), .int .u64 (lI y), .int .i64 h])) (hgrow : (((w.alloc o1).drewN nq).alloc o2).grownBy w4 v.ownBlock) (hat : v.ownBlock = some g ∨ g = (((w.alloc o1).drewN nq).alloc o2).heap.size) :
    BhO base v (((x, y), h) :: st) w (.slice (some ⟨g, 0, none⟩) (n + 1) cap) w4 := by
  refine ⟨?_, (((World.grownBy_alloc w o1 _).trans (grown_drew6 _ nq _)).trans (World.grownBy_alloc _ o2 _)).trans hgrow, ?_⟩
  · rw [List.length_cons, hn, List.reverse_cons, rowG_one]
    exact hown4
  · intro z hz
    have e : g = z := by simpa [Value.ownBlock] using hz
    rcases hat with q | q
    · exact .inl (by rw [q, e])
    · right
      simp at q
      omega
theorem bhO_set {base : Nat} {st : List Sg} {ax ay y : BitVec 128} {ah : Int} {w : World} {g cap n : Nat} (o1 : Obj) (nq : Nat) (hn : st.length = n)
    (hown : w.ownsRow base 52 5 (.slice (some ⟨g, 0, none⟩) (n + 1) cap) (n + 1) (rowG (st.reverse ++ [((ax, ay), ah)]))) :
    BhO base (.slice (some ⟨g, 0, none⟩) (n + 1) cap) (((ax, y), ah) :: st) w (.slice (some ⟨g, 0, none⟩) (n + 1) cap) ((((w.alloc o1).drewN nq).setCell ⟨g, n * 5 + 2, none⟩ (.int .u64 (hI y))).setCell ⟨g, n * 5 + 3, none⟩ (.int .u64 (lI y))) := by
  have h0 : ((w.alloc o1).drewN nq).ownsRow base 52 5 (.slice (some ⟨g, 0, none⟩) (n + 1) cap) (n + 1) (rowG (st.reverse ++ [((ax, ay), ah)])) := own_heap (hown.alloc o1) (fun _ _ => rfl)
  obtain ⟨h1, g1⟩ := h0.stored (n * 5 + 2) (.int .u64 (hI y))
  obtain ⟨h2, g2⟩ := h1.stored (n * 5 + 3) (.int .u64 (lI y))
  refine ⟨?_, (((World.grownBy_alloc w o1 _).trans (grown_drew6 _ nq _)).trans g1).trans g2, fun z hz => .inl hz⟩
  rw [List.length_cons, hn, List.reverse_cons, rowG_one]
  rw [rowG_one, setG (rowG st.reverse) n (by rw [rowG_len, List.length_reverse, hn])] at h2
  exact h2
theorem newsGB (W : World) (B : Nat) (hB : B = W.heap.size) (a b c d e : Value) (t : TypeId) : ∀ j u, [a, b, c, d, e][j]? = some u → (W.alloc (.cells #[a, b, c, d, e] t)).cell? ((⟨B, 0, none⟩ : Addr).add j) = some u := by
  subst hB
  exact newsG W a b c d e t
set_option maxRecDepth 20000 in
set_option maxHeartbeats 8000000 in
theorem behind_any (base : Nat) (v : Value) (st : List Sg) (x y : BitVec 128) (h : Int) (w : World) (hown : w.ownsRow base 52 5 v st.length (rowG st.reverse)) (hb : base ≤ w.heap.size) (hl : st.length ≤ 1000000000) :
    Calls Try.prog 67 #[v, .agg #[.int .u64 (hI x), .int .u64 (lI x), .int .u64 (hI y), .int .u64 (lI y), .int .i64 h]] w fun e w' => ∃ v', e = .returned v' ∧ BhO base v (behS st ((x, y), h)) w v' w' := by
  obtain ⟨i0, hi, hz0, hz1, hz2⟩ := info_parts Try.infoG
  obtain ⟨p0, p1, p2, p3, p4, -⟩ := atg_new w w.heap.size x y h 52 rfl
  cases st with
  | nil =>
    obtain ⟨ao, c, rfl⟩ := own_form hown
    have HN : Hid (([] : List Sg).length = 0) := hidR rfl
    have HO : Hid (w.ownsRow base 52 5 (.slice ao 0 c) 0 (rowG ([] : List Sg).reverse)) := hidR hown
    have ms : IntKind.i64.wrap (0 - 1) = -1 := by rw [IntKind.wrap_i64]; omega
    have h63 : 0 + 1 ≤ maxLen := by unfold maxLen; omega
    have h47 : (0 + 1) * 40 ≤ 140737488355328 := by omega
    clear hown
    go_enter Try.func67, Try.ntmps67
    go_wp2_with fail
    go_quiet (fail)
    go_wp2_with (first | (
        at_builtin
        refine wpList_append_lies _ rfl _ _ 27 rfl base 52 i0 (.agg #[.int .u64 0, .int .u64 0, .int .u64 0, .int .u64 0, .int .i64 0]) 5 40 Try.underlying27 hi hz0 hz1 hz2 rfl (by decide) _ _ _ rfl (own_heap (W' := ((w.alloc (.cells #[.int .u64 (hI x), .int .u64 (lI x), .int .u64 (hI y), .int .u64 (lI y), .int .i64 h] 52)).drewN nq)) (HO.out.alloc _) (fun _ _ => rfl) |>.alloc _) ⟨w.heap.size + 1, 0, none⟩ 1 1 [.int .u64 (hI x), .int .u64 (lI x), .int .u64 (hI y), .int .u64 (lI y), .int .i64 h] rfl rfl (newsGB _ _ (by simp) _ _ _ _ _ _) (fiveG _ _ _ _ _) (by decide) h63 h47 (by simp; omega) _ rfl ?_
        intro g4 cap4 w4 hown4 hgrow hat hlt4
        have HR := hidR (bhO_app _ _ _ HN.out hown4 hgrow hat)
        clear hgrow hat hown4 hlt4 h63 h47 p0 p1 p2 p3 p4))
    go_wp2
    go_ret
    exact ⟨_, rfl, HR.out⟩
  | cons a st =>
    obtain ⟨⟨ax, ay⟩, ah⟩ := a
    obtain ⟨g, cap, rfl, -, -⟩ := hown.form (by simp)
    obtain ⟨n, HN⟩ : ∃ n, Hid (st.length = n) := ⟨_, rfl⟩
    have hlen : (((ax, ay), ah) :: st).length = n + 1 := by have := HN.out; simp [this]
    have hn : n + 1 ≤ 1000000000 := by rw [← hlen]; exact hl
    rw [hlen] at hown
    rw [hlen]
    have HO := hidR hown
    have hrev : (((ax, ay), ah) :: st).reverse = st.reverse ++ [((ax, ay), ah)] := by simp
    rw [hrev] at hown
    obtain ⟨c0, c1, c2, c3, c4⟩ := ownG_last hown (by rw [List.length_reverse]; exact HN.out)
    have f2 := hown.frozenAt (n * 5 + 2)
    have f3 := hown.frozenAt (n * 5 + 3)
    have hcap := own_cap6 hown
    have HS := hidR hown
    have hgl := cell_in c0
    have c4' := keepc (bl1 w (.cells #[.int .u64 (hI x), .int .u64 (lI x), .int .u64 (hI y), .int .u64 (lI y), .int .i64 h] 52)) c4
    have c2' := keepc (bl1 w (.cells #[.int .u64 (hI x), .int .u64 (lI x), .int .u64 (hI y), .int .u64 (lI y), .int .i64 h] 52)) c2
    have c3' := keepc (bl1 w (.cells #[.int .u64 (hI x), .int .u64 (lI x), .int .u64 (hI y), .int .u64 (lI y), .int .i64 h] 52)) c3
    have f2' := keepf (bl1 w (.cells #[.int .u64 (hI x), .int .u64 (lI x), .int .u64 (hI y), .int .u64 (lI y), .int .i64 h] 52)) c2 f2
    have f3' := keepf (bl1 w (.cells #[.int .u64 (hI x), .int .u64 (lI x), .int .u64 (hI y), .int .u64 (lI y), .int .i64 h] 52)) c3 f3
    have m1 : IntKind.i64.wrap ((n : Int) + 1 - 1) = (n : Int) := by rw [IntKind.wrap_i64]; omega
    have i1 : (0 : Int) ≤ (n : Int) := by omega
    have i2 : (n : Int) < (n : Int) + 1 := by omega
    clear c0 c1 c2 c3 c4 f2 f3 hlen hrev hown
    go_enter Try.func67, Try.ntmps67
    by_cases hh : ah = h
    · have d1 : (ah == h) = true := by simp [hh]
      have HE : Hid (behS (((ax, ay), ah) :: st) ((x, y), h) = ((ax, y), ah) :: st) := hidR (by rw [behS, if_pos hh])
      clear hh
      go_wp2_with fail
      go_quiet (fail)
      go_wp2
      go_ret
      exact ⟨_, rfl, by rw [HE.out]; exact bhO_set _ _ HN.out HS.out⟩
    · have d1 : (ah == h) = false := by simp [hh]
      have HE : Hid (behS (((ax, ay), ah) :: st) ((x, y), h) = ((x, y), h) :: ((ax, ay), ah) :: st) := hidR (by rw [behS, if_neg hh])
      have HN : Hid ((((ax, ay), ah) :: st).length = n + 1) := hidR (by have := HN.out; simp [this])
      have h63 : n + 1 + 1 ≤ maxLen := by unfold maxLen; omega
      have h47 : (n + 1 + 1) * 40 ≤ 140737488355328 := by omega
      clear hh HS f2' f3' c2' c3'
      go_wp2_with fail
      go_quiet (fail)
      go_wp2_with (first | (
          at_builtin
          refine wpList_append_lies _ rfl _ _ 27 rfl base 52 i0 (.agg #[.int .u64 0, .int .u64 0, .int .u64 0, .int .u64 0, .int .i64 0]) 5 40 Try.underlying27 hi hz0 hz1 hz2 rfl (by decide) _ _ _ rfl (own_heap (W' := ((w.alloc (.cells #[.int .u64 (hI x), .int .u64 (lI x), .int .u64 (hI y), .int .u64 (lI y), .int .i64 h] 52)).drewN nq)) (HO.out.alloc _) (fun _ _ => rfl) |>.alloc _) ⟨w.heap.size + 1, 0, none⟩ 1 1 [.int .u64 (hI x), .int .u64 (lI x), .int .u64 (hI y), .int .u64 (lI y), .int .i64 h] rfl rfl (newsGB _ _ (by simp) _ _ _ _ _ _) (fiveG _ _ _ _ _) (by decide) h63 h47 (by simp; omega) _ rfl ?_
          intro g4 cap4 w4 hown4 hgrow hat hlt4
          have HR := hidR (bhO_app _ _ _ HN.out hown4 hgrow hat)
          clear hgrow hat hown4 hlt4 h63 h47 p0 p1 p2 p3 p4))
      go_wp2
      go_ret
      exact ⟨_, rfl, by rw [HE.out]; exact HR.out⟩
end Go.Proofs.Ytmkjlcfoedglmaa
/-
  Rows of words in memory.
-/
namespace Go.Proofs.Ytmkjlcfoedglmaa
open Go.RowKit
set_option linter.unusedSimpArgs false
set_option linter.unusedVariables false

def rowW : List (BitVec 128) → List Value
  | [] => []
  | x :: l => .int .u64 (hI x) :: .int .u64 (lI x) :: rowW l
theorem rowW_app : ∀ l m, rowW (l ++ m) = rowW l ++ rowW m := by
  intro l
  induction l with
  | nil => intro m; rfl
  | cons p l ih => intro m; simp [rowW, ih]
theorem rowW_one (l : List (BitVec 128)) (x : BitVec 128) : rowW (l ++ [x]) = rowW l ++ [.int .u64 (hI x), .int .u64 (lI x)] := by rw [rowW_app]; rfl
theorem rowW_len : ∀ l, (rowW l).length = l.length * 2 := by
  intro l
  induction l with
  | nil => rfl
  | cons p l ih => simp only [rowW, List.length_cons, ih]; omega
theorem rowW_get : ∀ (l : List (BitVec 128)) (j : Nat) (hj : j < l.length), (rowW l)[j * 2]? = some (.int .u64 (hI l[j])) ∧ (rowW l)[j * 2 + 1]? = some (.int .u64 (lI l[j])) := by
  intro l
  induction l with
  | nil => intro j hj; simp at hj
  | cons p l ih =>
    intro j hj
    cases j with
    | zero => simp [rowW]
    | succ j =>
      have := ih j (by simpa using hj)
      rw [show (j + 1) * 2 = j * 2 + 2 by omega, show j * 2 + 2 + 1 = j * 2 + 1 + 2 by omega]
      simpa [rowW] using this
theorem ownW_cells {W : World} {base n g c : Nat} {l : List (BitVec 128)} (h : W.ownsRow base 40 2 (.slice (some ⟨g, 0, none⟩) n c) n (rowW l)) (j : Nat) (hj : j < l.length) :
    W.cell? ⟨g, j * 2, none⟩ = some (.int .u64 (hI l[j])) ∧ W.cell? ⟨g, j * 2 + 1, none⟩ = some (.int .u64 (lI l[j])) := by
  obtain ⟨a, b⟩ := rowW_get l j hj
  have e : ∀ k, (⟨g, 0, none⟩ : Addr).add k = ⟨g, k, none⟩ := fun k => by unfold Addr.add; split <;> simp_all
  have f := fun k u => h.cells (g := g) rfl k u
  exact ⟨by have := f _ _ a; rwa [e] at this, by have := f _ _ b; rwa [e] at this⟩
theorem rowW_set (L : List (BitVec 128)) (k : Nat) (q : BitVec 128) : ((rowW L).set (k * 2) (.int .u64 (hI q))).set (k * 2 + 1) (.int .u64 (lI q)) = if k < L.length then rowW (L.set k q) else rowW L := by
  induction L generalizing k with
  | nil => simp [rowW]
  | cons p L ih =>
    cases k with
    | zero => simp [rowW]
    | succ k =>
      have := ih k
      rw [show (k + 1) * 2 = k * 2 + 1 + 1 by omega, show k * 2 + 1 + 1 + 1 = k * 2 + 1 + 1 + 1 by omega]
      simp only [rowW, List.set_cons_succ, List.length_cons, Nat.add_lt_add_iff_right]
      rw [this]
      split <;> rfl
theorem Try.infoWd : (Try.prog.info? 40).map (fun i => (i.zero, i.size, i.bytes)) = some (some (.agg #[.int .u64 0, .int .u64 0]), 2, 16) := by kernel_rfl
theorem newsWd (W : World) (a b : Value) (t : TypeId) : ∀ j u, [a, b][j]? = some u → (W.alloc (.cells #[a, b] t)).cell? ((⟨W.heap.size, 0, none⟩ : Addr).add j) = some u := by
  intro j u hj
  match j, hj with
  | 0, hj => simp at hj; subst hj; simp [Addr.add, go_sem]
  | 1, hj => simp at hj; subst hj; simp [Addr.add, go_sem]
theorem twoW (a b : Int) : ∀ u ∈ [Value.int .u64 a, Value.int .u64 b], u.oneCell' = true := by
  intro u hu; simp at hu; rcases hu with rfl | rfl <;> rfl
/-- A row's cells are there, and may be written. -/
theorem own_cell6 {W : World} {base e size n g cap : Nat} {xs : List Value} (h : W.ownsRow base e size (.slice (some ⟨g, 0, none⟩) n cap) n xs) (j : Nat) (hj : j < n * size) : (∃ u, W.cell? ⟨g, j, none⟩ = some u) ∧ W.frozen? ⟨g, j, none⟩ = false := by
  rcases h.2 with ⟨h', _⟩ | ⟨g', cap', cur, h', hb, hg, hnc, hcm, hcs, htake⟩
  · cases h'
  · simp only [Value.slice.injEq, Option.some.injEq, Addr.mk.injEq, and_true, true_and] at h'
    obtain ⟨rfl, rfl⟩ := h'
    have hs : j < cur.size := by
      rw [hcs]
      exact Nat.lt_of_lt_of_le hj (Nat.mul_le_mul_right _ hnc)
    refine ⟨⟨cur[j], ?_⟩, ?_⟩
    · simp [World.cell?, hg, hs]
    · simp [World.frozen?, hg]
/-- What put leaves of memory: the row is changed in its own place, or made anew. -/
def PtO (base : Nat) (v : Value) (S : List (BitVec 128)) (w : World) (v' : Value) (w' : World) : Prop := w'.ownsRow base 40 2 v' S.length (rowW S) ∧ w.grownBy w' v.ownBlock ∧ (∀ z, v'.ownBlock = some z → v.ownBlock = some z ∨ w.heap.size ≤ z)
theorem set_midW (S : List (BitVec 128)) (k : Nat) (hk : k ≤ S.length) (d q : BitVec 128) : (S.take k ++ d :: S.drop k).set k q = S.take k ++ q :: S.drop k := by
  rw [List.set_append_right _ _ (by simp; omega)]
  congr 1
  have : k - (S.take k).length = 0 := by simp; omega
  rw [this]
  rfl
theorem mid_backW (S : List (BitVec 128)) (k : Nat) (hk : k < S.length) : S.take (k + 1) ++ S[k] :: S.drop (k + 1) = S.take k ++ S[k] :: S.drop k := by
  rw [List.take_succ_eq_append_getElem hk, List.append_assoc]
  congr 1
  rw [List.drop_eq_getElem_cons hk]
  rfl
theorem mid_getW (S : List (BitVec 128)) (k : Nat) (hk : k < S.length) (d : BitVec 128) (h : k < (S.take (k + 1) ++ d :: S.drop (k + 1)).length) : (S.take (k + 1) ++ d :: S.drop (k + 1))[k] = S[k] := by
  rw [List.getElem_append_left (by simp; omega), List.getElem_take]
/-- Words in order, each once, with another one. -/
def PutS (S : List (BitVec 128)) (x : BitVec 128) (T : List (BitVec 128)) : Prop := T.Pairwise (fun a b => a.toNat < b.toNat) ∧ (∀ y, y ∈ T ↔ (y = x ∨ y ∈ S)) ∧ T.length ≤ S.length + 1
theorem put_there (S : List (BitVec 128)) (x : BitVec 128) (hS : S.Pairwise (fun a b => a.toNat < b.toNat)) (h : x ∈ S) : PutS S x S :=
  ⟨hS, fun y => ⟨.inr, fun q => by rcases q with rfl | q; exact h; exact q⟩, by omega⟩
theorem put_new (S : List (BitVec 128)) (x : BitVec 128) (hS : S.Pairwise (fun a b => a.toNat < b.toNat)) (k : Nat) (hk : k ≤ S.length) (h1 : ∀ q ∈ S.drop k, x.toNat < q.toNat) (h2 : ∀ (h : 0 < k), (S[k - 1]'(by omega)).toNat < x.toNat) : PutS S x (S.take k ++ x :: S.drop k) := by
  refine ⟨?_, ?_, by simp; omega⟩
  · have hs : (S.take k ++ S.drop k).Pairwise (fun a b => a.toNat < b.toNat) := by rw [List.take_append_drop]; exact hS
    obtain ⟨p1, p2, p3⟩ := List.pairwise_append.mp hs
    have h3 : ∀ a ∈ S.take k, a.toNat < x.toNat := by
      intro a ha
      by_cases h0 : 0 < k
      · have h2 := h2 h0
        obtain ⟨i, hi, rfl⟩ := List.mem_iff_getElem.mp ha
        have hi' : i < k := by simp at hi; omega
        rw [List.getElem_take]
        by_cases e : i = k - 1
        · subst e; exact h2
        · have := List.pairwise_iff_getElem.mp hS i (k - 1) (by omega) (by omega) (by omega)
          omega
      · have : k = 0 := by omega
        subst this
        simp at ha
    refine List.pairwise_append.mpr ⟨p1, List.pairwise_cons.mpr ⟨h1, p2⟩, ?_⟩
    intro a ha b hb
    rcases List.mem_cons.mp hb with rfl | q
    · exact h3 a ha
    · exact p3 a ha b q
  · intro y
    have e : y ∈ S ↔ y ∈ S.take k ∨ y ∈ S.drop k := by rw [← List.mem_append, List.take_append_drop]
    rw [List.mem_append, List.mem_cons, e]
    constructor
    · rintro (q | q | q)
      · exact .inr (.inl q)
      · exact .inl q
      · exact .inr (.inr q)
    · rintro (q | q | q)
      · exact .inr (.inl q)
      · exact .inl q
      · exact .inr (.inr q)
end Go.Proofs.Ytmkjlcfoedglmaa
/-
  A region that draws its order and whose calls make memory: one walk of the text's order, in a class of worlds.
-/
namespace Go.Proofs.Ytmkjlcfoedglmaa
open Go.RowKit
set_option linter.unusedSimpArgs false
set_option linter.unusedVariables false

theorem q_run {P : Program} {ops : Array Oper} {C : World → Prop} {Q : Act → Prop} {a : Act} {o : Oper} {rest : List Oper} {v : Value}
    (hw : Region.wanted o (yielded ops a.tmps) = true) (h : ∀ w, C w → (execOp a.eval o).run P w = .ok (.value v) w) (k : wpQuiet P ops C Q rest (a.put o.dst v)) : wpQuiet P ops C Q (o :: rest) a := by
  refine wpQuiet_step (fun K hK => ?_)
  rw [if_pos hw]
  refine ⟨v, fun w hC => ?_, hK _ k⟩
  unfold Oper.quietAt; rw [h w hC]; exact ⟨rfl, rfl⟩
theorem q_skip {P : Program} {ops : Array Oper} {C : World → Prop} {Q : Act → Prop} {a : Act} {o : Oper} {rest : List Oper}
    (hw : Region.wanted o (yielded ops a.tmps) = false) (k : wpQuiet P ops C Q rest (a.put o.dst undef)) : wpQuiet P ops C Q (o :: rest) a := by
  refine wpQuiet_step (fun K hK => ?_)
  rw [if_neg (by rw [hw]; decide)]
  exact hK _ k
theorem q_call {P : Program} {ops : Array Oper} {C : World → Prop} {Q : Act → Prop} {a : Act} {o : Oper} {rest : List Oper} {v : Value} {f : FuncId} {args : Array Value}
    (hw : Region.wanted o (yielded ops a.tmps) = true) (h : ∀ w, C w → (execOp a.eval o).run P w = .ok (.enter f args) w) (hc : ∀ w, C w → Calls P f args w fun e w' => e = .returned v ∧ C w') (k : wpQuiet P ops C Q rest (a.put o.dst v)) : wpQuiet P ops C Q (o :: rest) a := by
  refine wpQuiet_step (fun K hK => ?_)
  rw [if_pos hw]
  refine ⟨v, fun w hC => ?_, hK _ k⟩
  unfold Oper.quietAt; rw [h w hC]; exact ⟨rfl, hc w hC⟩
theorem q_region {P : Program} {C : World → Prop} {id : Nat} {Q : Exit → Act → World → Prop} {a : Act} {w : World} {l : List Oper} (hm : P.follows .mixedOrders = true) (hB : Region.lexB .any l.toArray = true) (hC : C w.drew)
    (h : wpQuiet P l.toArray C (fun a' => ∀ w', C w' → Q .normal a' w') l a) : (Code.region id l.toArray true).wp P Q a w :=
  wp_region_quiet (C := C) hm hB hC (by simpa using h)
end Go.Proofs.Ytmkjlcfoedglmaa
/-
  The walk of Qt under a cover that no reckoning opens: for regions in which operations are passed over.
-/
namespace Go.Proofs.Ytmkjlcfoedglmaa
open Go.RowKit
set_option linter.unusedSimpArgs false
set_option linter.unusedVariables false

structure QW (P : Program) (ops : Array Oper) (C : World → Prop) (Q : Act → Prop) (l : List Oper) (a : Act) : Prop where
  out : wpQuiet P ops C Q l a
theorem qw_run {P : Program} {ops : Array Oper} {C : World → Prop} {Q : Act → Prop} {a : Act} {o : Oper} {rest : List Oper} {v : Value}
    (hw : Region.wanted o (yielded ops a.tmps) = true) (h : ∀ w, C w → (execOp a.eval o).run P w = .ok (.value v) w) (k : QW P ops C Q rest (a.put o.dst v)) : QW P ops C Q (o :: rest) a := ⟨q_run hw h k.out⟩
theorem qw_skip {P : Program} {ops : Array Oper} {C : World → Prop} {Q : Act → Prop} {a : Act} {o : Oper} {rest : List Oper}
    (hw : Region.wanted o (yielded ops a.tmps) = false) (k : QW P ops C Q rest (a.put o.dst undef)) : QW P ops C Q (o :: rest) a := ⟨q_skip hw k.out⟩
theorem qw_call {P : Program} {ops : Array Oper} {C : World → Prop} {Q : Act → Prop} {a : Act} {o : Oper} {rest : List Oper} {v : Value} {f : FuncId} {args : Array Value}
    (hw : Region.wanted o (yielded ops a.tmps) = true) (h : ∀ w, C w → (execOp a.eval o).run P w = .ok (.enter f args) w) (hc : ∀ w, C w → Calls P f args w fun e w' => e = .returned v ∧ C w') (k : QW P ops C Q rest (a.put o.dst v)) : QW P ops C Q (o :: rest) a := ⟨q_call hw h hc k.out⟩
theorem qw_nil {P : Program} {ops : Array Oper} {C : World → Prop} {Q : Act → Prop} {a : Act} (h : Q a) : QW P ops C Q [] a := ⟨wpQuiet_nil h⟩
theorem qw_region {P : Program} {C : World → Prop} {id : Nat} {Q : Exit → Act → World → Prop} {a : Act} {w : World} {l : List Oper} (hm : P.follows .mixedOrders = true) (hB : Region.lexB .any l.toArray = true) (hC : C w.drew)
    (h : QW P l.toArray C (fun a' => ∀ w', C w' → Q .normal a' w') l a) : (Code.region id l.toArray true).wp P Q a w := q_region hm hB hC h.out
end Go.Proofs.Ytmkjlcfoedglmaa
/-
  What the calls of package prefix's Meet, Last, Kids do, of right prefixes.
-/
namespace Go.Proofs.Ytmkjlcfoedglmaa
open Go.RowKit
set_option linter.unusedSimpArgs false
set_option linter.unusedVariables false

theorem run_min3 {P : Program} (w : World) (ts : Array TypeId) (t : TypeId) (x y z : Int) :
    (Builtin.min_ ts t #[.int .i64 x, .int .i64 y, .int .i64 z]).run P w = .ok (.int .i64 (min (min x y) z)) w := by
  have e : ∀ x y : Int, (if y < x then y else x) = min x y := fun x y => by
    rw [Int.min_def]
    split <;> split <;> omega
  simp [Builtin.min_, Builtin.min2, e]
def meetN (x : BitVec 128) (n : Int) (y : BitVec 128) (m : Int) : Int := min (min n m) ((leadN (x ^^^ y) : Nat) : Int)
end Go.Proofs.Ytmkjlcfoedglmaa
/-
  What each call of turnpikeref1's Add and Sub does.
-/
namespace Go.Proofs.Ytmkjlcfoedglmaa
open Go.RowKit
set_option linter.unusedSimpArgs false
set_option linter.unusedVariables false

/-- The sum of the upper halves, as it wraps. -/
def hs (x y : BitVec 128) : Int := IntKind.u64.wrap (hI x + hI y)
theorem wrapu (n : Int) : IntKind.u64.wrap n = n % 18446744073709551616 := by simp [IntKind.wrap, IntKind.bits, IntKind.signed]
theorem lo_sum (x y : BitVec 128) : IntKind.u64.wrap (lI x + lI y) = lI (x + y) := by
  rw [wrapu, lIN, lIN, lIN, BitVec.toNat_add]; omega
theorem hi_sum1 (x y : BitVec 128) (h : lI (x + y) < lI x) : IntKind.u64.wrap (hs x y + 1) = hI (x + y) := by
  unfold hs; rw [wrapu, wrapu]; rw [lIN, lIN, BitVec.toNat_add] at h; rw [hIN, hIN, hIN, BitVec.toNat_add]
  have := x.isLt; have := y.isLt; omega
theorem hi_sum0 (x y : BitVec 128) (h : ¬ lI (x + y) < lI x) : IntKind.u64.wrap (hs x y) = hI (x + y) := by
  unfold hs; rw [wrapu, wrapu]; rw [lIN, lIN, BitVec.toNat_add] at h; rw [hIN, hIN, hIN, BitVec.toNat_add]
  have := x.isLt; have := y.isLt; omega
theorem over_of (x y : BitVec 128) : overB x y = (decide (hs x y < hI x) || decide (hI (x + y) < hs x y)) := by
  rw [Bool.eq_iff_iff]; simp only [Bool.or_eq_true, decide_eq_true_eq]
  unfold overB hs; simp only [decide_eq_true_eq]; rw [wrapu, hIN, hIN, hIN, BitVec.toNat_add]
  have := x.isLt; have := y.isLt; omega

set_option maxHeartbeats 1000000 in
theorem radd_any (x y : BitVec 128) (w : World) :
    Calls Try.prog 54 #[.agg #[.int .u64 (hI x), .int .u64 (lI x)], .agg #[.int .u64 (hI y), .int .u64 (lI y)]] w fun e w' => e = .returned (.tuple #[.agg #[.int .u64 (hI (x + y)), .int .u64 (lI (x + y))], .bool (overB x y)]) ∧ Below w.heap.size w w' := by
  have e1 := lo_sum x y
  have e2 : IntKind.u64.wrap (hI x + hI y) = hs x y := rfl
  have ov : (hs x y < hI x ∧ overB x y = true) ∨ (¬ hs x y < hI x ∧ hI (x + y) < hs x y ∧ overB x y = true) ∨ (¬ hs x y < hI x ∧ ¬ hI (x + y) < hs x y ∧ overB x y = false) := by
    rw [over_of]
    by_cases c : hs x y < hI x
    · exact Or.inl ⟨c, by simp [c]⟩
    · by_cases d : hI (x + y) < hs x y
      · exact Or.inr (Or.inl ⟨c, d, by simp [d]⟩)
      · exact Or.inr (Or.inr ⟨c, d, by simp [c, d]⟩)
  by_cases h : lI (x + y) < lI x
  · have e3 := hi_sum1 x y h
    rcases ov with ⟨c, ov⟩ | ⟨c, d, ov⟩ | ⟨c, d, ov⟩
    · rw [ov]; clear ov
      go_enter Try.func54, Try.ntmps54
      go_wp2
      exact bodyPost_ret (v := .tuple #[.agg #[.int .u64 (hI (x + y)), .int .u64 (lI (x + y))], .bool true]) (by simp [results, Try.results54, go_sem]) rfl ⟨rfl, bl3 _ _ _ _⟩
    · rw [ov]; clear ov
      go_enter Try.func54, Try.ntmps54
      go_wp2
      exact bodyPost_ret (v := .tuple #[.agg #[.int .u64 (hI (x + y)), .int .u64 (lI (x + y))], .bool true]) (by simp [results, Try.results54, go_sem]) rfl ⟨rfl, bl3 _ _ _ _⟩
    · rw [ov]; clear ov
      go_enter Try.func54, Try.ntmps54
      go_wp2
      exact bodyPost_ret (v := .tuple #[.agg #[.int .u64 (hI (x + y)), .int .u64 (lI (x + y))], .bool false]) (by simp [results, Try.results54, go_sem]) rfl ⟨rfl, bl3 _ _ _ _⟩
  · have e3 := hi_sum0 x y h
    rcases ov with ⟨c, ov⟩ | ⟨c, d, ov⟩ | ⟨c, d, ov⟩
    · rw [ov]; clear ov
      go_enter Try.func54, Try.ntmps54
      go_wp2
      exact bodyPost_ret (v := .tuple #[.agg #[.int .u64 (hI (x + y)), .int .u64 (lI (x + y))], .bool true]) (by simp [results, Try.results54, go_sem]) rfl ⟨rfl, bl3 _ _ _ _⟩
    · rw [ov]; clear ov
      go_enter Try.func54, Try.ntmps54
      go_wp2
      exact bodyPost_ret (v := .tuple #[.agg #[.int .u64 (hI (x + y)), .int .u64 (lI (x + y))], .bool true]) (by simp [results, Try.results54, go_sem]) rfl ⟨rfl, bl3 _ _ _ _⟩
    · rw [ov]; clear ov
      go_enter Try.func54, Try.ntmps54
      go_wp2
      exact bodyPost_ret (v := .tuple #[.agg #[.int .u64 (hI (x + y)), .int .u64 (lI (x + y))], .bool false]) (by simp [results, Try.results54, go_sem]) rfl ⟨rfl, bl3 _ _ _ _⟩

/-- The difference of the upper halves, as it wraps. -/
def hd (x y : BitVec 128) : Int := IntKind.u64.wrap (hI x - hI y)
theorem lo_dif (x y : BitVec 128) : IntKind.u64.wrap (lI x - lI y) = lI (x - y) := by
  rw [wrapu, lIN, lIN, lIN, BitVec.toNat_sub]
  have := x.isLt; have := y.isLt; omega
theorem hi_dif1 (x y : BitVec 128) (h : lI x < lI y) : IntKind.u64.wrap (hd x y - 1) = hI (x - y) := by
  unfold hd; rw [wrapu, wrapu]; rw [lIN, lIN] at h; rw [hIN, hIN, hIN, BitVec.toNat_sub]
  have := x.isLt; have := y.isLt; omega
theorem hi_dif0 (x y : BitVec 128) (h : ¬ lI x < lI y) : IntKind.u64.wrap (hd x y) = hI (x - y) := by
  unfold hd; rw [wrapu, wrapu]; rw [lIN, lIN] at h; rw [hIN, hIN, hIN, BitVec.toNat_sub]
  have := x.isLt; have := y.isLt; omega
theorem cmp_under (x y : BitVec 128) : decide (cmpZ x y < 0) = underB x y := by
  rw [Bool.eq_iff_iff]; simp only [decide_eq_true_eq]; exact cmp_lt x y

set_option maxHeartbeats 2000000 in
theorem rsub_any (x y : BitVec 128) (w : World) :
    Calls Try.prog 60 #[.agg #[.int .u64 (hI x), .int .u64 (lI x)], .agg #[.int .u64 (hI y), .int .u64 (lI y)]] w fun e w' => e = .returned (.tuple #[.agg #[.int .u64 (hI (x - y)), .int .u64 (lI (x - y))], .bool (underB x y)]) ∧ Below w.heap.size w w' := by
  have e1 := lo_dif x y
  have e2 : IntKind.u64.wrap (hI x - hI y) = hd x y := rfl
  rw [← cmp_under]
  have hbl := fun o p q => (bl3 w o p q).drew
  by_cases h : lI x < lI y
  · have e3 := hi_dif1 x y h
    go_enter Try.func60, Try.ntmps60
    go_wp2
    go_region_held3 (fun w' => w'.cell? ⟨w.heap.size, 0, none⟩ = some (.int .u64 (hI x)) ∧ w'.cell? ⟨w.heap.size, 1, none⟩ = some (.int .u64 (lI x)) ∧ w'.cell? ⟨w.heap.size + 1, 0, none⟩ = some (.int .u64 (hI y)) ∧ w'.cell? ⟨w.heap.size + 1, 1, none⟩ = some (.int .u64 (lI y)) ∧ w'.cell? ⟨w.heap.size + 1 + 1, 0, none⟩ = some (cv w' (w.heap.size + 1 + 1) 0) ∧ w'.cell? ⟨w.heap.size + 1 + 1, 1, none⟩ = some (cv w' (w.heap.size + 1 + 1) 1) ∧ w'.frozen? ⟨w.heap.size + 1 + 1, 0, none⟩ = false ∧ w'.frozen? ⟨w.heap.size + 1 + 1, 1, none⟩ = false ∧ Below w.heap.size w w')
      (first
        | (obtain ⟨k1, k2, k3, k4, k5, k6, k7, k8, k9⟩ := ‹_ ∧ _›; exact ⟨keepc hb2 k1, keepc hb2 k2, keepc hb2 k3, keepc hb2 k4, cv_of (keepc hb2 k5), cv_of (keepc hb2 k6), keepf hb2 k5 k7, keepf hb2 k6 k8, keepb hb2 k9⟩)
        | (refine ⟨?_, ?_, ?_, ?_, cv_new ?_, cv_new ?_, ?_, ?_, ?_⟩ <;> first | (simp [go_sem, *]; done) | exact Below.setCell (Below.setCell (by simp [*]) (by simp; omega) _) (by simp; omega) _))
      (first | (go_at_call 51; refine (rcmp_any _ _ _).mono ?_; rintro e w2 ⟨rfl, hb2⟩))
    all_goals
      obtain ⟨-, -, -, -, -, -, -, -, kB⟩ := ‹_ ∧ _›
      have f0 : w2.cell? ⟨w.heap.size + 1 + 1, 0, none⟩ = some (.int .u64 0) := keepc hb2 (by simp [go_sem])
      have f1 : w2.cell? ⟨w.heap.size + 1 + 1, 1, none⟩ = some (.int .u64 0) := keepc hb2 (by simp [go_sem])
      go_wp2
      exact bodyPost_ret (v := .tuple #[.agg #[.int .u64 (hI (x - y)), .int .u64 (lI (x - y))], .bool (decide (cmpZ x y < 0))]) (by simp [results, Try.results60, go_sem, f0, f1]) rfl ⟨rfl, kB⟩
  · have e3 := hi_dif0 x y h
    go_enter Try.func60, Try.ntmps60
    go_wp2
    go_region_held3 (fun w' => w'.cell? ⟨w.heap.size, 0, none⟩ = some (.int .u64 (hI x)) ∧ w'.cell? ⟨w.heap.size, 1, none⟩ = some (.int .u64 (lI x)) ∧ w'.cell? ⟨w.heap.size + 1, 0, none⟩ = some (.int .u64 (hI y)) ∧ w'.cell? ⟨w.heap.size + 1, 1, none⟩ = some (.int .u64 (lI y)) ∧ w'.cell? ⟨w.heap.size + 1 + 1, 0, none⟩ = some (cv w' (w.heap.size + 1 + 1) 0) ∧ w'.cell? ⟨w.heap.size + 1 + 1, 1, none⟩ = some (cv w' (w.heap.size + 1 + 1) 1) ∧ w'.frozen? ⟨w.heap.size + 1 + 1, 0, none⟩ = false ∧ w'.frozen? ⟨w.heap.size + 1 + 1, 1, none⟩ = false ∧ Below w.heap.size w w')
      (first
        | (obtain ⟨k1, k2, k3, k4, k5, k6, k7, k8, k9⟩ := ‹_ ∧ _›; exact ⟨keepc hb2 k1, keepc hb2 k2, keepc hb2 k3, keepc hb2 k4, cv_of (keepc hb2 k5), cv_of (keepc hb2 k6), keepf hb2 k5 k7, keepf hb2 k6 k8, keepb hb2 k9⟩)
        | (refine ⟨?_, ?_, ?_, ?_, cv_new ?_, cv_new ?_, ?_, ?_, ?_⟩ <;> first | (simp [go_sem, *]; done) | exact Below.setCell (Below.setCell (by simp [*]) (by simp; omega) _) (by simp; omega) _))
      (first | (go_at_call 51; refine (rcmp_any _ _ _).mono ?_; rintro e w2 ⟨rfl, hb2⟩))
    all_goals
      obtain ⟨-, -, -, -, -, -, -, -, kB⟩ := ‹_ ∧ _›
      have f0 : w2.cell? ⟨w.heap.size + 1 + 1, 0, none⟩ = some (.int .u64 0) := keepc hb2 (by simp [go_sem])
      have f1 : w2.cell? ⟨w.heap.size + 1 + 1, 1, none⟩ = some (.int .u64 0) := keepc hb2 (by simp [go_sem])
      go_wp2
      exact bodyPost_ret (v := .tuple #[.agg #[.int .u64 (hI (x - y)), .int .u64 (lI (x - y))], .bool (decide (cmpZ x y < 0))]) (by simp [results, Try.results60, go_sem, f0, f1]) rfl ⟨rfl, kB⟩
end Go.Proofs.Ytmkjlcfoedglmaa
/-
  What the calls of turnpikeref2's IsFamily, Right, Last, one, Next and Prev do.
-/
namespace Go.Proofs.Ytmkjlcfoedglmaa
open Go.RowKit
set_option linter.unusedSimpArgs false
set_option linter.unusedVariables false

theorem isFamily_any (F : Int) (w : World) :
    Calls Try.prog 31 #[.int .i64 F] w fun e w' => e = .returned (.bool (fam F)) ∧ w' = w := by
  unfold fam
  by_cases h1 : F = 32
  · subst h1
    go_enter Try.func31, Try.ntmps31
    go_wp2
    go_ret
    exact ⟨rfl, rfl⟩
  · have b1 : (F == 32) = false := by simp [h1]
    have b2 : (F == 128) = decide (F = 128) := by rw [Bool.eq_iff_iff]; simp
    rw [show decide (F = 32) = false by simp [h1], Bool.false_or]
    go_enter Try.func31, Try.ntmps31
    go_wp2
    go_ret
    exact ⟨rfl, rfl⟩

set_option maxHeartbeats 1000000 in
theorem rlast_any (F : Int) (w : World) :
    Calls Try.prog 38 #[.int .i64 F] w fun e w' => e = .returned (.tuple #[.agg #[.int .u64 (hI (lastV F)), .int .u64 (lI (lastV F))], .int .i64 (lastE F)]) ∧ Below w.heap.size w w' := by
  have KI := fun w => isFamily_any F w
  unfold lastV lastE
  cases h : fam F
  · rw [if_neg (by simp), if_neg (by simp), hI_zero, lI_zero]
    rw [h] at KI
    go_enter Try.func38, Try.ntmps38
    go_wp2_with fail
    refine (KI _).mono ?_
    rintro e w1 ⟨rfl, rfl⟩
    clear KI
    go_wp2
    exact bodyPost_ret (v := .tuple #[.agg #[.int .u64 0, .int .u64 0], .int .i64 11]) (by simp [results, Try.results38, go_sem]) rfl ⟨rfl, bl1 _ _⟩
  · rw [if_pos rfl, if_pos rfl]
    rw [h] at KI
    go_enter Try.func38, Try.ntmps38
    go_wp2_with fail
    refine (KI _).mono ?_
    rintro e w1 ⟨rfl, rfl⟩
    clear KI
    go_wp2_with fail
    refine (rmask_any _ _).mono ?_
    rintro e w1 ⟨rfl, hb1⟩
    have hZ := (at_new w w.heap.size 0#128 40 rfl).below hb1
    have kB := keepb hb1 (bl1 w _)
    obtain ⟨z0, z1, z2, z3, z4⟩ := hZ
    clear hb1
    go_wp2
    exact bodyPost_ret (v := .tuple #[.agg #[.int .u64 (hI (maskW F)), .int .u64 (lI (maskW F))], .int .i64 0]) (by simp [results, Try.results38, go_sem, *]) rfl ⟨rfl, bset2 kB (Nat.le_refl _) _ _⟩

theorem put0K (i : Int) (w : World) (h0 : 0 ≤ i) (h1 : i ≤ 127) :
    Calls Try.prog 73 #[.agg #[.int .u64 0, .int .u64 0], .int .i64 i, .int .i64 1] w fun e w' => e = .returned (.agg #[.int .u64 (hI (putW 0#128 i 1)), .int .u64 (lI (putW 0#128 i 1))]) ∧ Below w.heap.size w w' := by
  have h := put_any 0#128 i 1 w (Or.inr rfl) h0 h1
  rw [hI_zero, lI_zero] at h
  exact h
set_option maxHeartbeats 1000000 in
theorem rone_any (F : Int) (w : World) (hf : fam F = true) :
    Calls Try.prog 55 #[.int .i64 F] w fun e w' => e = .returned (.agg #[.int .u64 (hI (stepW F)), .int .u64 (lI (stepW F))]) ∧ Below w.heap.size w w' := by
  have hF : 32 ≤ F ∧ F ≤ 128 := by rcases fam_ways F hf with rfl | rfl <;> omega
  have KP := fun w => put0K (F - 1) w (by omega) (by omega)
  rw [put_step F hf] at KP
  have hu : IntKind.i64.wrap (F - 1) = F - 1 := by rw [IntKind.wrap_i64]; omega
  clear hf
  generalize stepW F = y at *
  go_enter Try.func55, Try.ntmps55
  go_wp2_with fail
  refine (KP _).mono ?_
  rintro e w1 ⟨rfl, hb1⟩
  have hZ := (at_new w w.heap.size 0#128 40 rfl).below hb1
  have kB := keepb hb1 (bl1 w _)
  obtain ⟨z0, z1, z2, z3, z4⟩ := hZ
  clear hb1 KP
  go_wp2
  exact bodyPost_ret (v := .agg #[.int .u64 (hI y), .int .u64 (lI y)]) (by simp [results, Try.results55, go_sem, *]) rfl ⟨rfl, bset2 kB (Nat.le_refl _) _ _⟩

theorem three (y x : BitVec 128) : ((hI y == hI x) = true ∧ (lI y == lI x) = true ∧ y = x) ∨ ((hI y == hI x) = false ∧ ¬ y = x) ∨ ((hI y == hI x) = true ∧ (lI y == lI x) = false ∧ ¬ y = x) := by
  by_cases e : y = x
  · exact Or.inl ⟨by simp [e], by simp [e], e⟩
  · by_cases e1 : hI y = hI x
    · exact Or.inr (Or.inr ⟨by simp [e1], by simp; exact fun e2 => e (eq_ints e1 e2), e⟩)
    · exact Or.inr (Or.inl ⟨by simp [e1], e⟩)
theorem three0 (y : BitVec 128) : ((hI y == 0) = true ∧ (lI y == 0) = true ∧ y = 0#128) ∨ ((hI y == 0) = false ∧ ¬ y = 0#128) ∨ ((hI y == 0) = true ∧ (lI y == 0) = false ∧ ¬ y = 0#128) := by
  have h := three y 0#128
  rw [hI_zero, lI_zero] at h; exact h

set_option maxHeartbeats 1000000 in
theorem rright_any (F : Int) (x : BitVec 128) (w : World) :
    Calls Try.prog 52 #[.int .i64 F, .agg #[.int .u64 (hI x), .int .u64 (lI x)]] w fun e w' => e = .returned (.int .i64 (rightE F x)) ∧ Below w.heap.size w w' := by
  have KI := fun w => isFamily_any F w
  unfold rightE
  cases h : fam F
  · rw [if_neg (by simp)]
    rw [h] at KI
    go_enter Try.func52, Try.ntmps52
    go_wp2_with fail
    refine (KI _).mono ?_
    rintro e w1 ⟨rfl, rfl⟩
    clear KI
    go_wp2
    go_ret
    exact ⟨rfl, bl1 _ _⟩
  · rw [if_pos rfl]
    rw [h] at KI
    have ha := and_not_mask F x
    have KA := fun w => rand_any x (~~~(maskW F)) w
    generalize x &&& ~~~(maskW F) = y at *
    have fin : ∀ (v : Int), v = (if x &&& maskW F = x then 0 else 6) → ((hI y == 0) = true ∧ (lI y == 0) = true ∧ v = 0 ∨ (hI y == 0) = false ∧ v = 6 ∨ (hI y == 0) = true ∧ (lI y == 0) = false ∧ v = 6) := by
      intro v hv
      rcases three0 y with ⟨a, b, c⟩ | ⟨a, c⟩ | ⟨a, b, c⟩
      · rw [if_pos (ha.mp c)] at hv; exact Or.inl ⟨a, b, hv⟩
      · rw [if_neg (fun q => c (ha.mpr q))] at hv; exact Or.inr (Or.inl ⟨a, hv⟩)
      · rw [if_neg (fun q => c (ha.mpr q))] at hv; exact Or.inr (Or.inr ⟨a, b, hv⟩)
    clear ha h
    generalize (if x &&& maskW F = x then (0 : Int) else 6) = v at *
    rcases fin v rfl with ⟨q1, q2, rfl⟩ | ⟨q1, rfl⟩ | ⟨q1, q2, rfl⟩
    all_goals
      clear fin
      go_enter Try.func52, Try.ntmps52
      go_wp2_with fail
      refine (KI _).mono ?_
      rintro e w1 ⟨rfl, rfl⟩
      clear KI
      have kB := (bl1 w (.cells #[.int .u64 (hI x), .int .u64 (lI x)] 40)).drew
      go_wp2_with fail
      go_region_held3 (fun w' => w'.cell? ⟨w.heap.size, 0, none⟩ = some (.int .u64 (hI x)) ∧ w'.cell? ⟨w.heap.size, 1, none⟩ = some (.int .u64 (lI x)) ∧ Below w.heap.size w w')
        (first
          | (obtain ⟨k1, k2, k9⟩ := ‹_ ∧ _›; exact ⟨keepc hb4 k1, keepc hb4 k2, keepb hb4 k9⟩)
          | (obtain ⟨k1, k2, k9⟩ := ‹_ ∧ _›; exact ⟨keepc hb3 k1, keepc hb3 k2, keepb hb3 k9⟩)
          | (obtain ⟨k1, k2, k9⟩ := ‹_ ∧ _›; exact ⟨keepc hb2 k1, keepc hb2 k2, keepb hb2 k9⟩)
          | exact ⟨by simp [go_sem], by simp [go_sem], kB⟩)
        (first
          | (go_at_call 53; refine (rmask_any _ _).mono ?_; rintro e w2 ⟨rfl, hb2⟩)
          | (go_at_call 58; refine (rnot_any _ _).mono ?_; rintro e w3 ⟨rfl, hb3⟩)
          | (go_at_call 57; refine (KA _).mono ?_; rintro e w4 ⟨rfl, hb4⟩))
      obtain ⟨-, -, kB3⟩ := ‹_ ∧ _›
      go_wp2
      go_ret
      exact ⟨rfl, kB3⟩
end Go.Proofs.Ytmkjlcfoedglmaa
