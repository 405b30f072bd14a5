/-
  Part 11 of the proof: 16 texts, one behind the other.
-/
import Derived.Test.YtmeaikmmhgmgnaaPart1
import Derived.Test.YtmeaikmmhgmgnaaPart5
import Derived.Test.YtmeaikmmhgmgnaaPart10
import Derived.Test.YtmeaikmmhgmgnaaPart9
import Derived.Test.YtmeaikmmhgmgnaaPart7
import Derived.Test.YtmeaikmmhgmgnaaPart6
import Derived.Test.YtmeaikmmhgmgnaaPart2
import Derived.Deep.QuietTactic
import Derived.BigQuiet
import Derived.Test.YtmeaikmmhgmgnaaPart3
import Derived.Laws.IdiomStrings
/-
  Plain: the bytes of a text.
-/
namespace Go.Proofs.Ytmeaikmmhgmgnaa
open Go.RowKit
set_option linter.unusedSimpArgs false
set_option linter.unusedVariables false

theorem byteAt_sub9 (s : ByteArray) (a b k : Nat) (hb : b ≤ s.size) : byteAt (s.extract a b) k = if a + k < b then byteAt s (a + k) else 0 := by
  unfold byteAt
  by_cases h : a + k < b
  · have h2 : k < (s.extract a b).size := by simp; omega
    rw [if_pos h, dif_pos (show a + k < s.size by omega), dif_pos h2]
    congr 2
    rw [ByteArray.getElem_extract]
  · have h2 : ¬ k < (s.extract a b).size := by simp; omega
    rw [if_neg h, dif_neg h2]
def bL9 (l : List UInt8) : ByteArray := ⟨l.toArray⟩
theorem bL9_size (l : List UInt8) : (bL9 l).size = l.length := rfl
theorem bL9_at (l : List UInt8) (k : Nat) : byteAt (bL9 l) k = ((l.getD k 0).toNat : Int) := by
  unfold byteAt
  by_cases h : k < l.length
  · rw [dif_pos (by rw [bL9_size]; exact h), List.getD_eq_getElem?_getD, List.getElem?_eq_getElem h]
    rfl
  · rw [dif_neg (by rw [bL9_size]; exact h), List.getD_eq_getElem?_getD, List.getElem?_eq_none (by omega)]
    rfl
theorem byteAt_lst9 (s : ByteArray) (k : Nat) : byteAt s k = ((s.data.toList.getD k 0).toNat : Int) := bL9_at s.data.toList k
theorem bL9_ext (l : List UInt8) (a b : Nat) : (bL9 l).extract a b = bL9 ((l.drop a).take (b - a)) := by
  apply ByteArray.ext
  rw [ByteArray.data_extract]
  simp [bL9, List.extract_eq_take_drop]
end Go.Proofs.Ytmeaikmmhgmgnaa
/-
  Plain: a line of a text, and the text.
-/
namespace Go.Proofs.Ytmeaikmmhgmgnaa
open Go.RowKit
set_option linter.unusedSimpArgs false
set_option linter.unusedVariables false

/-- A line of a text, from a place on up to another one. -/
structure Lin (s : ByteArray) (a i : Nat) : Prop where
  ai : a ≤ i
  le : i ≤ s.size
  no : ∀ k, a ≤ k → k < i → byteAt s k ≠ 10
  nd : i = s.size ∨ byteAt s i = 10
section
variable {s : ByteArray} {a i : Nat}
theorem Lin.size (h : Lin s a i) : (s.extract a i).size = i - a := by
  have h1 := h.le
  rw [ByteArray.size_extract]; omega
theorem Lin.byte (h : Lin s a i) {k : Nat} (hk : k < i - a) : byteAt (s.extract a i) k = byteAt s (a + k) := by
  rw [byteAt_sub9 s a i k h.le, if_pos (by omega)]
theorem Lin.kd (h : Lin s a i) {k : Nat} (hk : k ≤ i - a) : kdS s (a + k) = kdS (s.extract a i) k := by
  have h1 := h.ai
  have h2 := h.le
  have h3 := h.size
  by_cases c : k = i - a
  · have e : a + k = i := by omega
    rw [e]
    have : kdS (s.extract a i) k = 2 := by rw [show k = (s.extract a i).size by omega]; exact kdS_end _
    rw [this]
    rcases h.nd with q | q
    · rw [q]; exact kdS_end s
    · unfold kdS
      by_cases c2 : i = s.size
      · rw [if_pos c2]
      · rw [if_neg c2, q]; decide
  · have e1 : ¬ a + k = s.size := by omega
    have e2 : ¬ k = (s.extract a i).size := by omega
    unfold kdS
    simp only [if_neg e1, if_neg e2, h.byte (show k < i - a by omega)]
theorem Lin.sk (h : Lin s a i) : ∀ (d k : Nat), k ≤ i - a → (i - a) - k ≤ d → skS s (a + k) = a + skS (s.extract a i) k
  | d, k, hk, hd => by
    have h1 := h.ai
    have h2 := h.le
    have h3 := h.size
    by_cases c : kdS (s.extract a i) k = 1
    · have hlt := kdS_in (s := s.extract a i) (k := k) (by omega) (by omega)
      rw [skS_go (by omega) (by rw [h.kd hk]; exact c), skS_go (by omega) c]
      match d, hd with
      | 0, hd => omega
      | d + 1, hd =>
        have := Lin.sk h d (k + 1) (by omega) (by omega)
        rw [← this]; rfl
    · rw [skS_here (by rw [h.kd hk]; exact c), skS_here c]
theorem Lin.wd (h : Lin s a i) : ∀ (d k : Nat), k ≤ i - a → (i - a) - k ≤ d → wdS s (a + k) = a + wdS (s.extract a i) k
  | d, k, hk, hd => by
    have h1 := h.ai
    have h2 := h.le
    have h3 := h.size
    by_cases c : kdS (s.extract a i) k = 0
    · have hlt := kdS_in (s := s.extract a i) (k := k) (by omega) (by omega)
      rw [wdS_go (by omega) (by rw [h.kd hk]; exact c), wdS_go (by omega) c]
      match d, hd with
      | 0, hd => omega
      | d + 1, hd =>
        have := Lin.wd h d (k + 1) (by omega) (by omega)
        rw [← this]; rfl
    · rw [wdS_here (by rw [h.kd hk]; exact c), wdS_here c]
theorem Lin.ext (h : Lin s a i) (x y : Nat) (hy : y ≤ i - a) : (s.extract a i).extract x y = s.extract (a + x) (a + y) := by
  have h1 := h.ai
  apply ByteArray.ext
  rw [ByteArray.data_extract, ByteArray.data_extract, ByteArray.data_extract, Array.extract_extract, Nat.min_eq_left (by omega)]
theorem Lin.sa (h : Lin s a i) : ∀ c, skS s (a + bNw (s.extract a i) c) = a + aNw (s.extract a i) c := fun c => by
  have := bNw_le (s.extract a i) c
  rw [h.size] at this
  exact h.sk _ _ this (Nat.le_refl _)
theorem Lin.sb (h : Lin s a i) (c : Nat) : wdS s (a + aNw (s.extract a i) c) = a + bNw (s.extract a i) (c + 1) := by
  have := (aNw_bd (s.extract a i) c).2.2
  rw [h.size] at this
  exact h.wd _ _ this (Nat.le_refl _)
theorem Lin.sc (h : Lin s a i) (c : Nat) : kdS s (a + aNw (s.extract a i) c) = kdS (s.extract a i) (aNw (s.extract a i) c) := by
  have := (aNw_bd (s.extract a i) c).2.2
  rw [h.size] at this
  exact h.kd this
/-- What stands behind. -/
def shO (a : Nat) : (Int × Nat) ⊕ (Rte × Nat) → (Int × Nat) ⊕ (Rte × Nat)
  | .inl (e, p) => .inl (e, a + p)
  | .inr (r, p) => .inr (r, a + p)
theorem Lin.ent (h : Lin s a i) (F : Int) : entO F s (a + aNw (s.extract a i) 0) = shO a (entO F (s.extract a i) (aNw (s.extract a i) 0)) := by
  have e1 : s.extract (a + aNw (s.extract a i) 0) (a + bNw (s.extract a i) 1) = (s.extract a i).extract (aNw (s.extract a i) 0) (bNw (s.extract a i) 1) := (h.ext _ _ (by have := bNw_le (s.extract a i) 1; rwa [h.size] at this)).symm
  have e2 : s.extract (a + aNw (s.extract a i) 1) (a + bNw (s.extract a i) 2) = (s.extract a i).extract (aNw (s.extract a i) 1) (bNw (s.extract a i) 2) := (h.ext _ _ (by have := bNw_le (s.extract a i) 2; rwa [h.size] at this)).symm
  unfold entO
  simp only [h.sb, h.sa, h.sc, bNw_s, aNw_s, Nat.zero_add, Nat.reduceAdd, e1, e2]
  by_cases c1 : ppE F ((s.extract a i).extract (aNw (s.extract a i) 0) (bNw (s.extract a i) 1)) = 0
  · simp only [if_pos c1]
    by_cases c2 : kdS (s.extract a i) (aNw (s.extract a i) 1) = 0
    · simp only [if_pos c2]
      match nhO ((s.extract a i).extract (aNw (s.extract a i) 1) (bNw (s.extract a i) 2)) with
      | none => rfl
      | some hp =>
        by_cases c3 : kdS (s.extract a i) (aNw (s.extract a i) 2) = 0
        · simp only [if_pos c3]; rfl
        · simp only [if_neg c3]; rfl
    · simp only [if_neg c2]; rfl
  · simp only [if_neg c1]; rfl
end
theorem ixg_at (b0 : UInt8) : ∀ (l : List UInt8) (k : Nat), k < l.length → (∀ j, j < k → ¬ l.getD j 0 = b0) → l.getD k 0 = b0 → Lib.indexByte l b0 = (k : Int) := by
  intro l
  induction l with
  | nil => intro k h; simp at h
  | cons b l ih =>
    intro k hk hj hc
    cases k with
    | zero =>
      have : b = b0 := hc
      subst this
      simp [Lib.indexByte]
    | succ k =>
      have hb : ¬ (b == b0) = true := by simp; exact hj 0 (by omega)
      have := ih k (by simpa using hk) (fun j h => by have := hj (j + 1) (by omega); simpa using this) (by simpa using hc)
      show (if (b == b0) = true then (0 : Int) else if (Lib.indexByte l b0 == -1) = true then -1 else Lib.indexByte l b0 + 1) = _
      rw [if_neg hb, this, if_neg (by simp)]
      simp
theorem ixg_none (b0 : UInt8) : ∀ (l : List UInt8), (∀ j, j < l.length → ¬ l.getD j 0 = b0) → Lib.indexByte l b0 = -1 := by
  intro l
  induction l with
  | nil => intro _; rfl
  | cons b l ih =>
    intro hj
    have hb : ¬ (b == b0) = true := by simp; exact hj 0 (by simp)
    have := ih (fun j h => by have := hj (j + 1) (by simp; omega); simpa using this)
    show (if (b == b0) = true then (0 : Int) else if (Lib.indexByte l b0 == -1) = true then -1 else Lib.indexByte l b0 + 1) = _
    rw [if_neg hb, this, if_pos (by simp)]
theorem nl_get (s : ByteArray) (p j : Nat) (hp : p ≤ s.size) : (((s.extract p s.size).data.toList.getD j 0).toNat : Int) = if p + j < s.size then byteAt s (p + j) else 0 := by
  rw [← byteAt_lst9, byteAt_sub9 s p s.size j (Nat.le_refl _)]
theorem nl_len (s : ByteArray) (p : Nat) : (s.extract p s.size).data.toList.length = s.size - p := by
  have q : (s.extract p s.size).size = min s.size s.size - p := ByteArray.size_extract
  rw [Array.length_toList]
  show (s.extract p s.size).size = _
  omega
theorem Lin.nl {s : ByteArray} {a i : Nat} (h : Lin s a i) {p : Nat} (hp : a ≤ p) (hpi : p ≤ i) : nlS s p = if i = s.size then -1 else ((i - p : Nat) : Int) := by
  have h2 := h.le
  unfold nlS
  by_cases c : i = s.size
  · rw [if_pos c]
    refine ixg_none 10 _ (fun j hj e => ?_)
    rw [nl_len] at hj
    have q := nl_get s p j (by omega)
    rw [e, if_pos (by omega)] at q
    exact h.no (p + j) (by omega) (by omega) (by rw [← q]; rfl)
  · rw [if_neg c]
    have hb : byteAt s i = 10 := by rcases h.nd with q | q; exact absurd q c; exact q
    refine ixg_at 10 _ (i - p) (by rw [nl_len]; omega) (fun j hj e => ?_) ?_
    · have q := nl_get s p j (by omega)
      rw [e, if_pos (by omega)] at q
      exact h.no (p + j) (by omega) (by omega) (by rw [← q]; rfl)
    · have q := nl_get s p (i - p) (by omega)
      rw [if_pos (by omega), show p + (i - p) = i by omega, hb] at q
      exact UInt8.toNat_inj.mp (by show _ = 10; omega)
theorem Lin.lnsB {s : ByteArray} {a i : Nat} (h : Lin s a i) (g : Nat → Nat → Nat → List Rte → Nat → ResT) {p : Nat} (hp : a ≤ p) (hpi : p ≤ i) (ln : Nat) (L : List Rte) : lnsB s g p ln L 0 = if i = s.size then ((0, 0, 0), L) else g (i + 1) (ln + 1) (i + 1) L 0 := by
  unfold Go.Proofs.Ytmeaikmmhgmgnaa.lnsB
  rw [h.nl hp hpi]
  by_cases c : i = s.size
  · simp only [if_pos c]; rfl
  · simp only [if_neg c]
    rw [if_neg (by omega), show p + ((i - p : Nat) : Int).toNat + 1 = i + 1 by omega]
end Go.Proofs.Ytmeaikmmhgmgnaa
/-
  Plain: routes put in order one by one.
-/
namespace Go.Proofs.Ytmeaikmmhgmgnaa
open Go.RowKit
set_option linter.unusedSimpArgs false
set_option linter.unusedVariables false

def cmR (x y : Rte) : Int := pcmpZ x.1.1 x.1.2 y.1.1 y.1.2
/-- One more route laid into a list in order, its end first. -/
def revIns : List Rte → Rte → List Rte
  | [], x => [x]
  | y :: P, x => if cmR x y < 0 then y :: revIns P x else x :: y :: P
def isrt (M : List Rte) : List Rte := (M.foldl revIns []).reverse
theorem revIns_len : ∀ (P : List Rte) (x : Rte), (revIns P x).length = P.length + 1
  | [], x => rfl
  | y :: P, x => by
    unfold revIns
    split
    · simp [revIns_len P x]
    · simp
theorem foldl_len : ∀ (M : List Rte) (P : List Rte), (M.foldl revIns P).length = P.length + M.length
  | [], P => rfl
  | x :: M, P => by rw [List.foldl_cons, foldl_len M, revIns_len]; simp; omega
theorem rowR_set : ∀ (D : List Rte) (j : Nat) (r : Rte), j < D.length → rowR (D.set j r) = ((((rowR D).set (j * 4) (.int .u64 (hI r.1.1))).set (j * 4 + 1) (.int .u64 (lI r.1.1))).set (j * 4 + 2) (.int .i64 r.1.2)).set (j * 4 + 3) (.int .i64 r.2)
  | [], j, r, h => by simp at h
  | q :: D, 0, r, h => by simp [rowR]
  | q :: D, j + 1, r, h => by
    have ih := rowR_set D j r (by simpa using h)
    rw [List.set_cons_succ, rowR, ih, rowR, show (j + 1) * 4 = j * 4 + 4 by omega, show j * 4 + 4 + 1 = j * 4 + 1 + 4 by omega, show j * 4 + 4 + 2 = j * 4 + 2 + 4 by omega, show j * 4 + 4 + 3 = j * 4 + 3 + 4 by omega]
    simp
theorem swap_mid (y x : Rte) (T : List Rte) : ∀ (Q : List Rte), (((Q ++ [y]) ++ x :: T).set (Q.length + 1) y).set Q.length x = Q ++ x :: y :: T
  | [] => rfl
  | q :: Q => by
    have ih := swap_mid y x T Q
    simp only [List.cons_append, List.length_cons, List.set_cons_succ] at ih ⊢
    rw [ih]
/-- A row of routes that is one's own. -/
def RwO (W : World) (base g c n : Nat) (D : List Rte) : Prop := D.length = n ∧ W.ownsRow base 40 4 (.slice (some ⟨g, 0, none⟩) n c) n (rowR D)
section
variable {W W' : World} {base g c n : Nat} {D : List Rte}
theorem RwO.cells (h : RwO W base g c n D) {j : Nat} {r : Rte} (hj : D[j]? = some r) : W.cell? ⟨g, j * 4, none⟩ = some (.int .u64 (hI r.1.1)) ∧ W.cell? ⟨g, j * 4 + 1, none⟩ = some (.int .u64 (lI r.1.1)) ∧ W.cell? ⟨g, j * 4 + 2, none⟩ = some (.int .i64 r.1.2) ∧ W.cell? ⟨g, j * 4 + 3, none⟩ = some (.int .i64 r.2) := by
  obtain ⟨hl, e⟩ := List.getElem?_eq_some_iff.mp hj
  obtain ⟨a, b, c', d⟩ := rowR_get D j hl
  rw [e] at a b c' d
  have f := fun j u hj => h.2.cells (g := g) rfl j u hj
  have ad : ∀ j, (⟨g, 0, none⟩ : Addr).add j = ⟨g, j, none⟩ := fun j => by rw [addA, Nat.zero_add]
  exact ⟨by have := f _ _ a; rwa [ad] at this, by have := f _ _ b; rwa [ad] at this, by have := f _ _ c'; rwa [ad] at this, by have := f _ _ d; rwa [ad] at this⟩
theorem RwO.free (h : RwO W base g c n D) {j : Nat} (hj : j < n * 4) : W.frozen? ⟨g, j, none⟩ = false := (own_any h.2 j hj).2
theorem RwO.heap (h : RwO W base g c n D) (e : W'.heap[g]? = W.heap[g]?) : RwO W' base g c n D := ⟨h.1, own_heap h.2 (fun z q => by simp [Value.ownBlock] at q; subst q; exact e)⟩
theorem RwO.lt (h : RwO W base g c n D) : g < W.heap.size ∧ base ≤ g := ⟨(h.2.lt g rfl).2, (h.2.lt g rfl).1⟩
theorem RwO.below (h : RwO W base g c n D) (hb : Below W.heap.size W W') : RwO W' base g c n D := h.heap (hb.block g h.lt.1)
theorem RwO.set (h : RwO W base g c n D) {j : Nat} (hj : j < n) (r : Rte) : RwO ((((W.setCell ⟨g, j * 4, none⟩ (.int .u64 (hI r.1.1))).setCell ⟨g, j * 4 + 1, none⟩ (.int .u64 (lI r.1.1))).setCell ⟨g, j * 4 + 2, none⟩ (.int .i64 r.1.2)).setCell ⟨g, j * 4 + 3, none⟩ (.int .i64 r.2)) base g c n (D.set j r) := by
  refine ⟨by rw [List.length_set]; exact h.1, ?_⟩
  rw [rowR_set D j r (by rw [h.1]; exact hj)]
  exact ((((h.2.stored _ _).1.stored _ _).1.stored _ _).1.stored _ _).1
end
end Go.Proofs.Ytmeaikmmhgmgnaa
/-
  What the call of turnpikeref5's Find does.
-/
namespace Go.Proofs.Ytmeaikmmhgmgnaa
open Go.RowKit
set_option linter.unusedSimpArgs false
set_option linter.unusedVariables false

end Go.Proofs.Ytmeaikmmhgmgnaa
/-
  What the calls of package prefix's Meet, Last, Kids do, of right prefixes.
-/
namespace Go.Proofs.Ytmeaikmmhgmgnaa
open Go.RowKit
set_option linter.unusedSimpArgs false
set_option linter.unusedVariables false

theorem run_min3 {P : Program} (w : World) (ts : Array TypeId) (t : TypeId) (x y z : Int) :
    (Builtin.min_ ts t #[.int .i64 x, .int .i64 y, .int .i64 z]).run P w = .ok (.int .i64 (min (min x y) z)) w := by
  have e : ∀ x y : Int, (if y < x then y else x) = min x y := fun x y => by
    rw [Int.min_def]
    split <;> split <;> omega
  simp [Builtin.min_, Builtin.min2, e]
def meetN (x : BitVec 128) (n : Int) (y : BitVec 128) (m : Int) : Int := min (min n m) ((leadN (x ^^^ y) : Nat) : Int)
set_option maxHeartbeats 1000000 in
set_option maxRecDepth 20000 in
theorem pmeet_any (x : BitVec 128) (n : Int) (y : BitVec 128) (m : Int) (w : World) :
    Calls Try.prog 58 #[.agg #[.int .u64 (hI x), .int .u64 (lI x), .int .i64 n], .agg #[.int .u64 (hI y), .int .u64 (lI y), .int .i64 m]] w fun e w' => e = .returned (.agg #[.int .u64 (hI (cutW x (meetN x n y m))), .int .u64 (lI (cutW x (meetN x n y m))), .int .i64 (meetN x n y m)]) ∧ Below w.heap.size w w' := by
  have KC := fun w => wcommon_any x y w
  unfold meetN
  generalize ((leadN (x ^^^ y) : Nat) : Int) = l at *
  have KM := fun w => cut_any x (min (min n m) l) w
  revert KM
  generalize hv : min (min n m) l = v
  generalize cutW x v = c
  intro KM
  have hmin : ∀ (w : World) (ts : Array TypeId) (t : TypeId), (Builtin.min_ ts t #[.int .i64 n, .int .i64 m, .int .i64 l]).run Try.prog w = .ok (.int .i64 v) w := fun w ts t => by rw [run_min3, hv]
  clear hv
  have hbl := fun o p q => (bl3 w o p q).drew
  go_enter Try.func58, Try.ntmps58
  go_wp2
  go_region_held3 (fun w' => w'.cell? ⟨w.heap.size, 0, none⟩ = some (.int .u64 (hI x)) ∧ w'.cell? ⟨w.heap.size, 1, none⟩ = some (.int .u64 (lI x)) ∧ w'.cell? ⟨w.heap.size, 2, none⟩ = some (.int .i64 n) ∧ w'.cell? ⟨w.heap.size + 1, 0, none⟩ = some (.int .u64 (hI y)) ∧ w'.cell? ⟨w.heap.size + 1, 1, none⟩ = some (.int .u64 (lI y)) ∧ w'.cell? ⟨w.heap.size + 1, 2, none⟩ = some (.int .i64 m) ∧ w'.cell? ⟨w.heap.size + 1 + 1, 0, none⟩ = some (cv w' (w.heap.size + 1 + 1) 0) ∧ w'.cell? ⟨w.heap.size + 1 + 1, 1, none⟩ = some (cv w' (w.heap.size + 1 + 1) 1) ∧ w'.cell? ⟨w.heap.size + 1 + 1, 2, none⟩ = some (cv w' (w.heap.size + 1 + 1) 2) ∧ w'.frozen? ⟨w.heap.size + 1 + 1, 0, none⟩ = false ∧ w'.frozen? ⟨w.heap.size + 1 + 1, 1, none⟩ = false ∧ w'.frozen? ⟨w.heap.size + 1 + 1, 2, none⟩ = false ∧ Below w.heap.size w w')
    (first
      | (obtain ⟨k1, k2, k0, j1, j2, j0, k3, k4, k5, k6, k7, k8, k9⟩ := ‹_ ∧ _›; exact ⟨keepc hb2 k1, keepc hb2 k2, keepc hb2 k0, keepc hb2 j1, keepc hb2 j2, keepc hb2 j0, cv_of (keepc hb2 k3), cv_of (keepc hb2 k4), cv_of (keepc hb2 k5), keepf hb2 k3 k6, keepf hb2 k4 k7, keepf hb2 k5 k8, keepb hb2 k9⟩)
      | (obtain ⟨k1, k2, k0, j1, j2, j0, k3, k4, k5, k6, k7, k8, k9⟩ := ‹_ ∧ _›; exact ⟨keepc hb1 k1, keepc hb1 k2, keepc hb1 k0, keepc hb1 j1, keepc hb1 j2, keepc hb1 j0, cv_of (keepc hb1 k3), cv_of (keepc hb1 k4), cv_of (keepc hb1 k5), keepf hb1 k3 k6, keepf hb1 k4 k7, keepf hb1 k5 k8, keepb hb1 k9⟩)
      | (refine ⟨?_, ?_, ?_, ?_, ?_, ?_, cv_new ?_, cv_new ?_, cv_new ?_, ?_, ?_, ?_, ?_⟩ <;> first | (simp [go_sem, *]; done) | exact bset3 (by simp [*]) (by omega) _ _ _))
    (first | (go_at_call 73; refine (KC _).mono ?_; rintro e w1 ⟨rfl, hb1⟩) | (go_at_call 69; refine (KM _).mono ?_; rintro e w2 ⟨rfl, hb2⟩))
  obtain ⟨-, -, -, -, -, -, -, -, -, -, -, -, kB⟩ := ‹_ ∧ _›
  have e0 : w2.cell? ⟨w.heap.size + 1 + 1, 0, none⟩ = some (.int .u64 0) := keepc hb2 (keepc hb1 (by simp [go_sem]))
  have e1 : w2.cell? ⟨w.heap.size + 1 + 1, 1, none⟩ = some (.int .u64 0) := keepc hb2 (keepc hb1 (by simp [go_sem]))
  have e2 : w2.cell? ⟨w.heap.size + 1 + 1, 2, none⟩ = some (.int .i64 0) := keepc hb2 (keepc hb1 (by simp [go_sem]))
  go_wp2
  exact bodyPost_ret (v := .agg #[.int .u64 (hI c), .int .u64 (lI c), .int .i64 v]) (by simp [results, Try.results58, go_sem, e0, e1, e2]) rfl ⟨rfl, kB⟩

end Go.Proofs.Ytmeaikmmhgmgnaa
/-
  What each call of turnpikeref1's Add and Sub does.
-/
namespace Go.Proofs.Ytmeaikmmhgmgnaa
open Go.RowKit
set_option linter.unusedSimpArgs false
set_option linter.unusedVariables false

/-- The sum of the upper halves, as it wraps. -/
def hs (x y : BitVec 128) : Int := IntKind.u64.wrap (hI x + hI y)
/-- The difference of the upper halves, as it wraps. -/
def hd (x y : BitVec 128) : Int := IntKind.u64.wrap (hI x - hI y)
end Go.Proofs.Ytmeaikmmhgmgnaa
/-
  What the calls of turnpikeref2's IsFamily, Right, Last, one, Next and Prev do.
-/
namespace Go.Proofs.Ytmeaikmmhgmgnaa
open Go.RowKit
set_option linter.unusedSimpArgs false
set_option linter.unusedVariables false

theorem three (y x : BitVec 128) : ((hI y == hI x) = true ∧ (lI y == lI x) = true ∧ y = x) ∨ ((hI y == hI x) = false ∧ ¬ y = x) ∨ ((hI y == hI x) = true ∧ (lI y == lI x) = false ∧ ¬ y = x) := by
  by_cases e : y = x
  · exact Or.inl ⟨by simp [e], by simp [e], e⟩
  · by_cases e1 : hI y = hI x
    · exact Or.inr (Or.inr ⟨by simp [e1], by simp; exact fun e2 => e (eq_ints e1 e2), e⟩)
    · exact Or.inr (Or.inl ⟨by simp [e1], e⟩)
end Go.Proofs.Ytmeaikmmhgmgnaa
/-
  What each call of turnpikeref1's Common, Lead, fits, Field and With does.
-/
namespace Go.Proofs.Ytmeaikmmhgmgnaa
open Go.RowKit
set_option linter.unusedSimpArgs false
set_option linter.unusedVariables false

/-- The variable at block B reads as the word x. -/
def Rd (w : World) (B : Nat) (x : BitVec 128) : Prop := w.cell? ⟨B, 0, none⟩ = some (.int .u64 (hI x)) ∧ w.cell? ⟨B, 1, none⟩ = some (.int .u64 (lI x))
theorem Rd.keep {W w' : World} {B : Nat} {x : BitVec 128} (h : Rd W B x) (hb : Below W.heap.size W w') : Rd w' B x := ⟨keepc hb h.1, keepc hb h.2⟩
theorem Rd.alloc {W : World} {B : Nat} {x : BitVec 128} (h : Rd W B x) (o : Obj) : Rd (W.alloc o) B x := h.keep (bl1 W o)
end Go.Proofs.Ytmeaikmmhgmgnaa
/-
  What the calls of the reference's chapter 3 do: Cut, Check, Of, Has, Within, Last, Parent, Meet, Cmp.
-/
namespace Go.Proofs.Ytmeaikmmhgmgnaa
open Go.RowKit
set_option linter.unusedSimpArgs false
set_option linter.unusedVariables false

end Go.Proofs.Ytmeaikmmhgmgnaa
/-
  What the calls of the reference's chapter 3 do: Check, Of, Last.
-/
namespace Go.Proofs.Ytmeaikmmhgmgnaa
open Go.RowKit
set_option linter.unusedSimpArgs false
set_option linter.unusedVariables false

end Go.Proofs.Ytmeaikmmhgmgnaa
/-
  What the calls of law 2's within and decimal do.
-/
namespace Go.Proofs.Ytmeaikmmhgmgnaa
open Go.RowKit
set_option linter.unusedSimpArgs false
set_option linter.unusedVariables false

theorem tmod_ways (a n : Int) (h : 0 < n) : (a.tmod n < 0 ∧ a.tmod n + n = a % n) ∨ (0 ≤ a.tmod n ∧ a.tmod n = a % n) := by
  by_cases h0 : 0 ≤ a
  · right
    have : a.tmod n = a % n := Int.tmod_eq_emod_of_nonneg h0
    exact ⟨by rw [this]; exact Int.emod_nonneg _ (by omega), this⟩
  · have e := Int.tmod_eq_emod (a := a) (b := n)
    have b1 := Int.emod_nonneg a (b := n) (by omega)
    have b2 := Int.emod_lt_of_pos a h
    split at e
    · right; omega
    · left
      have : (n.natAbs : Int) = n := by omega
      omega
end Go.Proofs.Ytmeaikmmhgmgnaa
/-
  What the calls of the law's own helpers of chapter 3 do.
-/
namespace Go.Proofs.Ytmeaikmmhgmgnaa
open Go.RowKit
set_option linter.unusedSimpArgs false
set_option linter.unusedVariables false

end Go.Proofs.Ytmeaikmmhgmgnaa
/-
  Plain facts on prefixes: what the program tells and what the reference tells is the same.
-/
namespace Go.Proofs.Ytmeaikmmhgmgnaa
open Go.RowKit
set_option linter.unusedSimpArgs false
set_option linter.unusedVariables false

theorem mask_zero (z : BitVec 128) (n : Int) (h0 : 0 ≤ n) (h1 : n ≤ 128) : z &&& maskW n = 0#128 ↔ z >>> (128 - n).toNat = 0#128 := by
  constructor
  · intro h
    apply BitVec.eq_of_getLsbD_eq
    intro j hj
    have := congrArg (fun y => y.getLsbD ((128 - n).toNat + j)) h
    simp only [BitVec.getLsbD_and, BitVec.getLsbD_zero] at this
    by_cases c : (128 - n).toNat + j < 128
    · rw [maskW_bit n _ c] at this
      have d : decide (128 - n.toNat ≤ (128 - n).toNat + j) = true := by simp; omega
      rw [d, Bool.and_true] at this
      rw [BitVec.getLsbD_ushiftRight, this, BitVec.getLsbD_zero]
    · rw [BitVec.getLsbD_ushiftRight, BitVec.getLsbD_of_ge _ _ (by omega), BitVec.getLsbD_zero]
  · intro h
    apply BitVec.eq_of_getLsbD_eq
    intro j hj
    rw [BitVec.getLsbD_and, maskW_bit n j hj, BitVec.getLsbD_zero]
    by_cases c : 128 - n.toNat ≤ j
    · have := congrArg (fun y => y.getLsbD (j - (128 - n).toNat)) h
      simp only [BitVec.getLsbD_ushiftRight, BitVec.getLsbD_zero] at this
      rw [show (128 - n).toNat + (j - (128 - n).toNat) = j by omega] at this
      rw [this, Bool.false_and]
    · simp [c]
theorem lead_mask (z : BitVec 128) (n : Int) (h0 : 0 ≤ n) (h1 : n ≤ 128) : n ≤ ((leadN z : Nat) : Int) ↔ z &&& maskW n = 0#128 := by
  rw [mask_zero z n h0 h1]
  have := lead_wide z (128 - n) (by omega) (by omega)
  constructor
  · intro h
    apply Classical.byContradiction
    intro c
    have := this.mpr c
    omega
  · intro h
    apply Classical.byContradiction
    intro c
    exact this.mp (by omega) h
theorem xor_mask (x y m : BitVec 128) : (x ^^^ y) &&& m = 0#128 ↔ x &&& m = y &&& m := by
  have e : (x ^^^ y) &&& m = (x &&& m) ^^^ (y &&& m) := by
    apply BitVec.eq_of_getLsbD_eq
    intro j hj
    simp only [BitVec.getLsbD_and, BitVec.getLsbD_xor]
    cases x.getLsbD j <;> cases y.getLsbD j <;> cases m.getLsbD j <;> rfl
  rw [e]
  constructor
  · intro h
    have := congrArg (fun z => z ^^^ (y &&& m)) h
    simpa [BitVec.xor_assoc] using this
  · intro h
    rw [h, BitVec.xor_self]
theorem mask_sub (n m : Int) (h0 : 0 ≤ n) (h : n ≤ m) : maskW n &&& maskW m = maskW n := by
  apply BitVec.eq_of_getLsbD_eq
  intro j hj
  rw [BitVec.getLsbD_and, maskW_bit n j hj, maskW_bit m j hj]
  by_cases c : 128 - n.toNat ≤ j
  · have : 128 - m.toNat ≤ j := by omega
    simp [c, this]
  · simp [c]
theorem cut_cut (x : BitVec 128) (n m : Int) (h0 : 0 ≤ n) (h : n ≤ m) : cutW (cutW x m) n = cutW x n := by
  unfold cutW
  rw [BitVec.and_assoc, BitVec.and_comm (maskW m), mask_sub n m h0 h]
theorem cut_cut2 (x : BitVec 128) (n m : Int) (h0 : 0 ≤ n) (h : n ≤ m) : cutW (cutW x n) m = cutW x n := by
  unfold cutW
  rw [BitVec.and_assoc, mask_sub n m h0 h]
/-- A right prefix of a family. -/
def Rt (F : Int) (x : BitVec 128) (n : Int) : Prop := 0 ≤ n ∧ n ≤ F ∧ cutW x n = x
end Go.Proofs.Ytmeaikmmhgmgnaa
/-
  Plain facts on the order of prefixes, and on what lies within what.
-/
namespace Go.Proofs.Ytmeaikmmhgmgnaa
open Go.RowKit
set_option linter.unusedSimpArgs false
set_option linter.unusedVariables false

theorem cut_shift (x : BitVec 128) (n : Int) : cutW x n = (x >>> (128 - n.toNat)) <<< (128 - n.toNat) := by
  apply BitVec.eq_of_getLsbD_eq
  intro j hj
  unfold cutW
  rw [BitVec.getLsbD_and, maskW_bit n j hj, BitVec.getLsbD_shiftLeft, BitVec.getLsbD_ushiftRight]
  by_cases c : 128 - n.toNat ≤ j
  · have e : 128 - n.toNat + (j - (128 - n.toNat)) = j := by omega
    have d : ¬ j < 128 - n.toNat := by omega
    simp [c, d, hj, e]
  · have d : j < 128 - n.toNat := by omega
    simp [c, d]
theorem cut_nat (x : BitVec 128) (n : Int) : (cutW x n).toNat = x.toNat / 2 ^ (128 - n.toNat) * 2 ^ (128 - n.toNat) := by
  rw [cut_shift, BitVec.toNat_shiftLeft, BitVec.toNat_ushiftRight, Nat.shiftLeft_eq, Nat.shiftRight_eq_div_pow]
  apply Nat.mod_eq_of_lt
  exact Nat.lt_of_le_of_lt (Nat.div_mul_le_self _ _) x.isLt
theorem cut_mono (x y : BitVec 128) (n : Int) (h : x.toNat ≤ y.toNat) : (cutW x n).toNat ≤ (cutW y n).toNat := by
  rw [cut_nat, cut_nat]
  exact Nat.mul_le_mul_right _ (Nat.div_le_div_right h)
theorem cmpZ_ways (x y : BitVec 128) : (x.toNat < y.toNat ∧ cmpZ x y = -1) ∨ (x = y ∧ cmpZ x y = 0) ∨ (y.toNat < x.toNat ∧ cmpZ x y = 1) := by
  unfold cmpZ
  by_cases h : x.toNat < y.toNat
  · left; rw [if_pos h]; exact ⟨h, rfl⟩
  · rw [if_neg h]
    by_cases e : x = y
    · right; left; rw [if_pos e]; exact ⟨e, rfl⟩
    · right; right; rw [if_neg e]
      have : ¬ x.toNat = y.toNat := fun q => e (BitVec.eq_of_toNat_eq q)
      exact ⟨by omega, rfl⟩
/-- The order, as plain words. -/
theorem pcmp_ways (x : BitVec 128) (n : Int) (y : BitVec 128) (m : Int) :
    ((x.toNat < y.toNat ∨ (x = y ∧ n < m)) ∧ pcmpZ x n y m = -1) ∨ ((x = y ∧ n = m) ∧ pcmpZ x n y m = 0) ∨ ((y.toNat < x.toNat ∨ (x = y ∧ m < n)) ∧ pcmpZ x n y m = 1) := by
  unfold pcmpZ
  rcases cmpZ_ways x y with ⟨h, e⟩ | ⟨h, e⟩ | ⟨h, e⟩
  · left; rw [e, if_neg (by decide)]; exact ⟨Or.inl h, rfl⟩
  · rw [e, if_pos rfl]
    unfold cmpI
    by_cases h1 : n < m
    · left; rw [if_pos h1]; exact ⟨Or.inr ⟨h, h1⟩, rfl⟩
    · rw [if_neg h1]
      by_cases h2 : m < n
      · right; right; rw [if_pos h2]; exact ⟨Or.inr ⟨h, h2⟩, rfl⟩
      · right; left; rw [if_neg h2]; exact ⟨⟨h, by omega⟩, rfl⟩
  · right; right; rw [e, if_neg (by decide)]; exact ⟨Or.inl h, rfl⟩
theorem pcmp_le (x : BitVec 128) (n : Int) (y : BitVec 128) (m : Int) : pcmpZ x n y m ≤ 0 ↔ (x.toNat < y.toNat ∨ (x = y ∧ n ≤ m)) := by
  rcases pcmp_ways x n y m with ⟨h, e⟩ | ⟨h, e⟩ | ⟨h, e⟩ <;> rw [e]
  · refine ⟨fun _ => ?_, fun _ => by decide⟩
    rcases h with h | ⟨rfl, h⟩
    · exact Or.inl h
    · exact Or.inr ⟨rfl, by omega⟩
  · refine ⟨fun _ => Or.inr ⟨h.1, by omega⟩, fun _ => by decide⟩
  · refine ⟨fun q => absurd q (by decide), fun q => ?_⟩
    exfalso
    rcases h with h | ⟨rfl, h⟩ <;> rcases q with q | ⟨q1, q⟩ <;> (try subst q1) <;> omega
theorem pcmp_eq0 (x : BitVec 128) (n : Int) (y : BitVec 128) (m : Int) : pcmpZ x n y m = 0 ↔ (x = y ∧ n = m) := by
  rcases pcmp_ways x n y m with ⟨h, e⟩ | ⟨h, e⟩ | ⟨h, e⟩ <;> rw [e]
  · refine ⟨fun q => absurd q (by decide), fun q => ?_⟩
    obtain ⟨rfl, rfl⟩ := q; rcases h with h | ⟨_, h⟩ <;> omega
  · exact ⟨fun _ => h, fun _ => rfl⟩
  · refine ⟨fun q => absurd q (by decide), fun q => ?_⟩
    obtain ⟨rfl, rfl⟩ := q; rcases h with h | ⟨_, h⟩ <;> omega
theorem within_iff (x : BitVec 128) (n : Int) (y : BitVec 128) (m : Int) : withinB x n y m = true ↔ (m ≤ n ∧ cutW x m = y) := by
  unfold withinB
  simp
/-- What stands between a prefix and what lies within it lies within it. -/
theorem between (F : Int) (x : BitVec 128) (n : Int) (y : BitVec 128) (m : Int) (z : BitVec 128) (k : Int) (hx : Rt F x n) (hy : Rt F y m) (h1 : pcmpZ x n y m ≤ 0) (h2 : pcmpZ y m z k ≤ 0) (h3 : withinB z k x n = true) : withinB y m x n = true := by
  rw [within_iff] at h3 ⊢
  rw [pcmp_le] at h1 h2
  obtain ⟨h3, h4⟩ := h3
  have hxy : x.toNat ≤ y.toNat := by rcases h1 with h | ⟨rfl, _⟩ <;> omega
  have hyz : y.toNat ≤ z.toNat := by rcases h2 with h | ⟨rfl, _⟩ <;> omega
  have c1 := cut_mono x y n hxy
  have c2 := cut_mono y z n hyz
  rw [hx.2.2] at c1
  rw [h4] at c2
  have hc : cutW y n = x := BitVec.eq_of_toNat_eq (by omega)
  refine ⟨?_, hc⟩
  apply Classical.byContradiction
  intro q
  have := cut_cut2 y m n hy.1 (by omega)
  rw [hy.2.2, hc] at this
  rcases h1 with h | ⟨_, h⟩
  · rw [this] at h; omega
  · omega
theorem meetN_le (x : BitVec 128) (n : Int) (y : BitVec 128) (m : Int) : meetN x n y m ≤ n ∧ meetN x n y m ≤ m ∧ meetN x n y m ≤ ((leadN (x ^^^ y) : Nat) : Int) := by
  unfold meetN; omega
theorem meetN_nn (x : BitVec 128) (n : Int) (y : BitVec 128) (m : Int) (h : 0 ≤ n) (g : 0 ≤ m) : 0 ≤ meetN x n y m := by
  unfold meetN; omega
theorem meet_above (x : BitVec 128) (n : Int) (y : BitVec 128) (m : Int) (z : BitVec 128) (k : Int) (hk : 0 ≤ k) (hn : n ≤ 128) (h1 : withinB x n z k = true) (h2 : withinB y m z k = true) : withinB (cutW x (meetN x n y m)) (meetN x n y m) z k = true := by
  rw [within_iff] at *
  have : k ≤ ((leadN (x ^^^ y) : Nat) : Int) := (lead_mask (x ^^^ y) k hk (by omega)).mpr ((xor_mask x y _).mpr (by
    have e1 := h1.2; have e2 := h2.2
    unfold cutW at e1 e2
    rw [e1, e2]))
  have hm : k ≤ meetN x n y m := by unfold meetN; omega
  exact ⟨hm, by rw [cut_cut x k _ hk hm]; exact h1.2⟩
end Go.Proofs.Ytmeaikmmhgmgnaa
/-
  In a table that is in order the search finds what going over all routes finds.
-/
namespace Go.Proofs.Ytmeaikmmhgmgnaa
open Go.RowKit
set_option linter.unusedSimpArgs false
set_option linter.unusedVariables false

/-- The routes' prefixes are in order, none twice. -/
def OrdR (l : List Rte) : Prop := ∀ (a b : Nat) (hb : b < l.length) (hab : a < b), pcmpZ (l[a]'(by omega)).1.1 (l[a]'(by omega)).1.2 l[b].1.1 l[b].1.2 < 0
theorem pcmp_lt (x : BitVec 128) (n : Int) (y : BitVec 128) (m : Int) : pcmpZ x n y m < 0 ↔ (x.toNat < y.toNat ∨ (x.toNat = y.toNat ∧ n < m)) := by
  have h := pcmp_le x n y m
  have e := pcmp_eq0 x n y m
  constructor
  · intro q
    rcases h.1 (by omega) with r | ⟨r, s⟩
    · exact .inl r
    · refine .inr ⟨by rw [r], ?_⟩
      rcases Int.lt_or_eq_of_le s with t | t
      · exact t
      · have := e.2 ⟨r, t⟩; omega
  · intro q
    have hle : pcmpZ x n y m ≤ 0 := h.2 (q.imp id fun ⟨r, s⟩ => ⟨BitVec.eq_of_toNat_eq r, by omega⟩)
    have hne : pcmpZ x n y m ≠ 0 := fun q0 => by
      obtain ⟨r, s⟩ := e.1 q0
      rcases q with q | ⟨-, q⟩
      · rw [r] at q; omega
      · omega
    omega
theorem ord_mono {l : List Rte} (h : OrdR l) (y : BitVec 128) (m : Int) : Mono y m l := by
  intro a b hb hab hlt
  rcases Nat.lt_or_eq_of_le hab with q | q
  · have h1 := (pcmp_lt _ _ _ _).1 (h a b hb q)
    have h2 := (pcmp_lt _ _ _ _).1 hlt
    refine (pcmp_lt _ _ _ _).2 ?_
    omega
  · subst q; exact hlt
end Go.Proofs.Ytmeaikmmhgmgnaa
/-
  Plain: what a list in order is that keeps those of one prefix as they were told, and how two such lists are made one.
-/
namespace Go.Proofs.Ytmeaikmmhgmgnaa
open Go.RowKit
set_option linter.unusedSimpArgs false
set_option linter.unusedVariables false

/-- A route's prefix is ahead of another one's. -/
def kl (x y : Rte) : Prop := x.1.1.toNat < y.1.1.toNat ∨ (x.1.1.toNat = y.1.1.toNat ∧ x.1.2 < y.1.2)
theorem cm_kl (x y : Rte) : cmR x y < 0 ↔ kl x y := pcmp_lt _ _ _ _
theorem kl_irr (x : Rte) : ¬ kl x x := by unfold kl; omega
theorem kl_le {x y z : Rte} (h : ¬ kl y x) (k : ¬ kl z y) : ¬ kl z x := by unfold kl at *; omega
theorem kl_lt_le {x y z : Rte} (h : kl x y) (k : ¬ kl z y) : kl x z := by unfold kl at *; omega
theorem kl_le_lt {x y z : Rte} (h : ¬ kl y x) (k : kl y z) : kl x z := by unfold kl at *; omega
theorem kl_asym {x y : Rte} (h : kl x y) : ¬ kl y x := by unfold kl at *; omega
/-- In order. -/
def SrtL (l : List Rte) : Prop := l.Pairwise (fun a b => ¬ kl b a)
/-- The routes of one prefix. -/
def ky (k : Nat × Int) (r : Rte) : Bool := decide (r.1.1.toNat = k.1 ∧ r.1.2 = k.2)
/-- Of each prefix the same routes, told in the same order. -/
def SameK (A B : List Rte) : Prop := ∀ k, A.filter (ky k) = B.filter (ky k)
theorem SameK.refl (A : List Rte) : SameK A A := fun _ => rfl
theorem SameK.symm {A B : List Rte} (h : SameK A B) : SameK B A := fun k => (h k).symm
theorem SameK.trans {A B C : List Rte} (h : SameK A B) (g : SameK B C) : SameK A C := fun k => (h k).trans (g k)
theorem SameK.app {A A' B B' : List Rte} (h : SameK A A') (g : SameK B B') : SameK (A ++ B) (A' ++ B') := fun k => by rw [List.filter_append, List.filter_append, h k, g k]
theorem ky_self (r : Rte) : ky (r.1.1.toNat, r.1.2) r = true := by simp [ky]
theorem SameK.mem {A B : List Rte} (h : SameK A B) {r : Rte} (hr : r ∈ A) : r ∈ B := by
  have : r ∈ A.filter (ky (r.1.1.toNat, r.1.2)) := List.mem_filter.mpr ⟨hr, ky_self r⟩
  rw [h] at this
  exact (List.mem_filter.mp this).1
theorem SameK.swap {X Y : List Rte} (h : ∀ x ∈ X, ∀ y ∈ Y, kl y x ∨ kl x y) : SameK (X ++ Y) (Y ++ X) := fun k => by
  rw [List.filter_append, List.filter_append]
  by_cases hx : X.filter (ky k) = []
  · rw [hx]; simp
  · by_cases hy : Y.filter (ky k) = []
    · rw [hy]; simp
    · exfalso
      obtain ⟨x, hx⟩ := List.exists_mem_of_ne_nil _ hx
      obtain ⟨y, hy⟩ := List.exists_mem_of_ne_nil _ hy
      obtain ⟨x1, x2⟩ := List.mem_filter.mp hx
      obtain ⟨y1, y2⟩ := List.mem_filter.mp hy
      have := h x x1 y y1
      simp [ky] at x2 y2
      unfold kl at this
      omega
/-- There is but one such list. -/
theorem srt_one : ∀ (A B : List Rte), SrtL A → SrtL B → SameK A B → A = B
  | [], [], _, _, _ => rfl
  | [], b :: B, _, _, h => by have := h.symm.mem (r := b) (by simp); cases this
  | a :: A, [], _, _, h => by have := h.mem (r := a) (by simp); cases this
  | a :: A, b :: B, hA, hB, h => by
    obtain ⟨a1, a2⟩ := List.pairwise_cons.mp hA
    obtain ⟨b1, b2⟩ := List.pairwise_cons.mp hB
    have hab : ¬ kl b a := by
      rcases List.mem_cons.mp (h.symm.mem (r := b) (by simp)) with q | q
      · rw [q]; exact kl_irr _
      · exact a1 b q
    have hba : ¬ kl a b := by
      rcases List.mem_cons.mp (h.mem (r := a) (by simp)) with q | q
      · rw [q]; exact kl_irr _
      · exact b1 a q
    have hk : b.1.1.toNat = a.1.1.toNat ∧ b.1.2 = a.1.2 := by unfold kl at hab hba; omega
    have hb : ky (a.1.1.toNat, a.1.2) b = true := by simp [ky, hk]
    have e := h (a.1.1.toNat, a.1.2)
    rw [List.filter_cons_of_pos (ky_self a), List.filter_cons_of_pos hb] at e
    injection e with e1 e2
    subst e1
    have h2 : SameK A B := fun k => by
      have := h k
      by_cases q : ky k a = true
      · rw [List.filter_cons_of_pos q, List.filter_cons_of_pos q] at this
        injection this
      · rw [List.filter_cons_of_neg q, List.filter_cons_of_neg q] at this
        exact this
    rw [srt_one A B a2 b2 h2]
theorem srt_app {A B : List Rte} (hA : SrtL A) (hB : SrtL B) (h : ∀ x ∈ A, ∀ y ∈ B, ¬ kl y x) : SrtL (A ++ B) := List.pairwise_append.mpr ⟨hA, hB, h⟩
/-- Two lists in order, cut where the one's end and the other's beginning change places. -/
theorem sym_split {X1 X2 Y1 Y2 S1 S2 : List Rte} (hX : SrtL (X1 ++ X2)) (hY : SrtL (Y1 ++ Y2)) (h1 : ∀ y ∈ Y1, ∀ x ∈ X2, kl y x) (h2 : ∀ x ∈ X1, ∀ y ∈ Y2, ¬ kl y x)
    (s1 : SrtL S1) (k1 : SameK (X1 ++ Y1) S1) (s2 : SrtL S2) (k2 : SameK (X2 ++ Y2) S2) : SrtL (S1 ++ S2) ∧ SameK ((X1 ++ X2) ++ (Y1 ++ Y2)) (S1 ++ S2) := by
  have hx := (List.pairwise_append.mp hX).2.2
  have hy := (List.pairwise_append.mp hY).2.2
  refine ⟨srt_app s1 s2 (fun x hx1 y hy1 => ?_), ?_⟩
  · rcases List.mem_append.mp (k1.symm.mem hx1) with a | a <;> rcases List.mem_append.mp (k2.symm.mem hy1) with b | b
    · exact hx x a y b
    · exact h2 x a y b
    · exact kl_asym (h1 x a y b)
    · exact hy x a y b
  · have e : (X1 ++ X2) ++ (Y1 ++ Y2) = X1 ++ (X2 ++ Y1) ++ Y2 := by simp
    have e2 : X1 ++ (Y1 ++ X2) ++ Y2 = (X1 ++ Y1) ++ (X2 ++ Y2) := by simp
    rw [e]
    refine SameK.trans ?_ (SameK.app k1 k2)
    rw [← e2]
    exact SameK.app (SameK.app (SameK.refl _) (SameK.swap (fun x a y b => .inl (h1 y b x a)))) (SameK.refl _)
/-- One route laid behind those that are not behind it. -/
theorem ins_right {X1 X2 : List Rte} {y : Rte} (hX : SrtL (X1 ++ X2)) (h1 : ∀ x ∈ X2, kl y x) (h2 : ∀ x ∈ X1, ¬ kl y x) : SrtL (X1 ++ y :: X2) ∧ SameK ((X1 ++ X2) ++ [y]) (X1 ++ y :: X2) := by
  obtain ⟨a, b, c⟩ := List.pairwise_append.mp hX
  refine ⟨srt_app a (List.pairwise_cons.mpr ⟨fun x hx => kl_asym (h1 x hx), b⟩) (fun x hx z hz => ?_), ?_⟩
  · rcases List.mem_cons.mp hz with rfl | hz
    · exact h2 x hx
    · exact c x hx z hz
  · rw [List.append_assoc]
    refine SameK.app (SameK.refl _) ?_
    have := SameK.swap (X := X2) (Y := [y]) (fun x hx z hz => .inl (by rw [List.mem_singleton] at hz; subst hz; exact h1 x hx))
    exact this
/-- One route laid ahead of those that are not ahead of it. -/
theorem ins_left {Y1 Y2 : List Rte} {x : Rte} (hY : SrtL (Y1 ++ Y2)) (h1 : ∀ y ∈ Y1, kl y x) (h2 : ∀ y ∈ Y2, ¬ kl y x) : SrtL (Y1 ++ x :: Y2) ∧ SameK ([x] ++ (Y1 ++ Y2)) (Y1 ++ x :: Y2) := by
  obtain ⟨a, b, c⟩ := List.pairwise_append.mp hY
  refine ⟨srt_app a (List.pairwise_cons.mpr ⟨fun y hy => h2 y hy, b⟩) (fun y hy z hz => ?_), ?_⟩
  · rcases List.mem_cons.mp hz with rfl | hz
    · exact kl_asym (h1 y hy)
    · exact c y hy z hz
  · have e : Y1 ++ x :: Y2 = (Y1 ++ [x]) ++ Y2 := by simp
    rw [e, ← List.append_assoc]
    refine SameK.app (SameK.swap (fun z hz y hy => .inl ?_)) (SameK.refl _)
    rw [List.mem_singleton] at hz
    subst hz
    exact h1 y hy
theorem revIns_mem : ∀ (P : List Rte) (x z : Rte), z ∈ revIns P x → z = x ∨ z ∈ P
  | [], x, z, h => by rw [revIns, List.mem_singleton] at h; exact .inl h
  | y :: P, x, z, h => by
    rw [revIns] at h
    split at h
    · rcases List.mem_cons.mp h with h | h
      · exact .inr (by rw [h]; simp)
      · exact (revIns_mem P x z h).imp id (fun q => List.mem_cons_of_mem _ q)
    · rcases List.mem_cons.mp h with h | h
      · exact .inl h
      · exact .inr h
theorem revIns_srt : ∀ (P : List Rte) (x : Rte), SrtL P.reverse → SrtL (revIns P x).reverse ∧ SameK (P.reverse ++ [x]) (revIns P x).reverse
  | [], x, _ => ⟨List.pairwise_singleton _ _, SameK.refl _⟩
  | y :: P, x, h => by
    rw [List.reverse_cons] at h
    obtain ⟨h1, -, h2⟩ := List.pairwise_append.mp h
    rw [revIns]
    split
    · rename_i c
      have c := (cm_kl x y).mp c
      obtain ⟨i1, i2⟩ := revIns_srt P x h1
      rw [List.reverse_cons, List.reverse_cons]
      refine ⟨srt_app i1 (List.pairwise_singleton _ _) (fun z hz u hu => ?_), ?_⟩
      · rw [List.mem_singleton] at hu
        subst hu
        rcases revIns_mem P x z (List.mem_reverse.mp hz) with rfl | q
        · exact kl_asym c
        · exact h2 z (List.mem_reverse.mpr q) u (by simp)
      · refine SameK.trans ?_ (SameK.app i2 (SameK.refl [y]))
        rw [List.append_assoc, List.append_assoc]
        refine SameK.app (SameK.refl _) (SameK.swap (fun a ha b hb => .inl ?_))
        rw [List.mem_singleton] at ha hb
        subst ha hb
        exact c
    · rename_i c
      have c : ¬ kl x y := fun q => c ((cm_kl x y).mpr q)
      rw [List.reverse_cons, List.reverse_cons]
      refine ⟨srt_app h (List.pairwise_singleton _ _) (fun z hz u hu => ?_), SameK.refl _⟩
      rw [List.mem_singleton] at hu
      subst hu
      rcases List.mem_append.mp hz with q | q
      · exact kl_le (h2 z q y (by simp)) c
      · rw [List.mem_singleton] at q; subst q; exact c
theorem isrt_fold : ∀ (M P : List Rte), SrtL P.reverse → SrtL (M.foldl revIns P).reverse ∧ SameK (P.reverse ++ M) (M.foldl revIns P).reverse
  | [], P, h => ⟨h, by rw [List.append_nil]; exact SameK.refl _⟩
  | x :: M, P, h => by
    obtain ⟨a, b⟩ := revIns_srt P x h
    obtain ⟨c, d⟩ := isrt_fold M (revIns P x) a
    refine ⟨c, SameK.trans ?_ d⟩
    have e : P.reverse ++ x :: M = (P.reverse ++ [x]) ++ M := by simp
    rw [e]
    exact SameK.app b (SameK.refl _)
/-- What the sorting by insertion makes is in order, and of each prefix the routes are told as they were. -/
theorem isrt_spec (D : List Rte) : SrtL (isrt D) ∧ SameK D (isrt D) := by
  have := isrt_fold D [] List.Pairwise.nil
  simpa [isrt] using this
theorem isrt_one {D S : List Rte} (h : SrtL S) (k : SameK D S) : S = isrt D := srt_one _ _ h (isrt_spec D).1 (k.symm.trans (isrt_spec D).2)
end Go.Proofs.Ytmeaikmmhgmgnaa
