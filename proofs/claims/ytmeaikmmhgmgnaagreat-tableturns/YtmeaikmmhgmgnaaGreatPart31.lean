/-
  Part 31 of the proof: 3 texts, one behind the other.
-/
import Derived.Test.YtmeaikmmhgmgnaaGreatPart2
import Derived.Test.YtmeaikmmhgmgnaaGreatPart8
import Derived.Test.YtmeaikmmhgmgnaaGreatPart23
import Derived.Test.YtmeaikmmhgmgnaaGreatPart25
import Derived.Test.YtmeaikmmhgmgnaaGreatPart12
namespace Go.Proofs.YtmeaikmmhgmgnaaGreat
open Go.RowKit
set_option linter.unusedSimpArgs false
set_option linter.unusedVariables false

theorem byteAt_sub9 (s : ByteArray) (a b k : Nat) (hb : b ≤ s.size) : byteAt (s.extract a b) k = if a + k < b then byteAt s (a + k) else 0 := by
  unfold byteAt
  by_cases h : a + k < b
  · have h2 : k < (s.extract a b).size := by simp; omega
    rw [if_pos h, dif_pos (show a + k < s.size by omega), dif_pos h2]
    congr 2
    rw [ByteArray.getElem_extract]
  · have h2 : ¬ k < (s.extract a b).size := by simp; omega
    rw [if_neg h, dif_neg h2]
def bL9 (l : List UInt8) : ByteArray := ⟨l.toArray⟩
theorem bL9_size (l : List UInt8) : (bL9 l).size = l.length := rfl
theorem bL9_at (l : List UInt8) (k : Nat) : byteAt (bL9 l) k = ((l.getD k 0).toNat : Int) := by
  unfold byteAt
  by_cases h : k < l.length
  · rw [dif_pos (by rw [bL9_size]; exact h), List.getD_eq_getElem?_getD, List.getElem?_eq_getElem h]
    rfl
  · rw [dif_neg (by rw [bL9_size]; exact h), List.getD_eq_getElem?_getD, List.getElem?_eq_none (by omega)]
    rfl
theorem byteAt_lst9 (s : ByteArray) (k : Nat) : byteAt s k = ((s.data.toList.getD k 0).toNat : Int) := bL9_at s.data.toList k
end Go.Proofs.YtmeaikmmhgmgnaaGreat
namespace Go.Proofs.YtmeaikmmhgmgnaaGreat
open Go.RowKit
set_option linter.unusedSimpArgs false
set_option linter.unusedVariables false

structure Lin (s : ByteArray) (a i : Nat) : Prop where
  ai : a ≤ i
  le : i ≤ s.size
  no : ∀ k, a ≤ k → k < i → byteAt s k ≠ 10
  nd : i = s.size ∨ byteAt s i = 10
section
variable {s : ByteArray} {a i : Nat}
theorem Lin.size (h : Lin s a i) : (s.extract a i).size = i - a := by
  have h1 := h.le
  rw [ByteArray.size_extract]; omega
theorem Lin.byte (h : Lin s a i) {k : Nat} (hk : k < i - a) : byteAt (s.extract a i) k = byteAt s (a + k) := by
  rw [byteAt_sub9 s a i k h.le, if_pos (by omega)]
theorem Lin.kd (h : Lin s a i) {k : Nat} (hk : k ≤ i - a) : kdS s (a + k) = kdS (s.extract a i) k := by
  have h1 := h.ai
  have h2 := h.le
  have h3 := h.size
  by_cases c : k = i - a
  · have e : a + k = i := by omega
    rw [e]
    have : kdS (s.extract a i) k = 2 := by rw [show k = (s.extract a i).size by omega]; exact kdS_end _
    rw [this]
    rcases h.nd with q | q
    · rw [q]; exact kdS_end s
    · unfold kdS
      by_cases c2 : i = s.size
      · rw [if_pos c2]
      · rw [if_neg c2, q]; decide
  · have e1 : ¬ a + k = s.size := by omega
    have e2 : ¬ k = (s.extract a i).size := by omega
    unfold kdS
    simp only [if_neg e1, if_neg e2, h.byte (show k < i - a by omega)]
theorem Lin.sk (h : Lin s a i) : ∀ (d k : Nat), k ≤ i - a → (i - a) - k ≤ d → skS s (a + k) = a + skS (s.extract a i) k
  | d, k, hk, hd => by
    have h1 := h.ai
    have h2 := h.le
    have h3 := h.size
    by_cases c : kdS (s.extract a i) k = 1
    · have hlt := kdS_in (s := s.extract a i) (k := k) (by omega) (by omega)
      rw [skS_go (by omega) (by rw [h.kd hk]; exact c), skS_go (by omega) c]
      match d, hd with
      | 0, hd => omega
      | d + 1, hd =>
        have := Lin.sk h d (k + 1) (by omega) (by omega)
        rw [← this]; rfl
    · rw [skS_here (by rw [h.kd hk]; exact c), skS_here c]
theorem Lin.wd (h : Lin s a i) : ∀ (d k : Nat), k ≤ i - a → (i - a) - k ≤ d → wdS s (a + k) = a + wdS (s.extract a i) k
  | d, k, hk, hd => by
    have h1 := h.ai
    have h2 := h.le
    have h3 := h.size
    by_cases c : kdS (s.extract a i) k = 0
    · have hlt := kdS_in (s := s.extract a i) (k := k) (by omega) (by omega)
      rw [wdS_go (by omega) (by rw [h.kd hk]; exact c), wdS_go (by omega) c]
      match d, hd with
      | 0, hd => omega
      | d + 1, hd =>
        have := Lin.wd h d (k + 1) (by omega) (by omega)
        rw [← this]; rfl
    · rw [wdS_here (by rw [h.kd hk]; exact c), wdS_here c]
theorem Lin.ext (h : Lin s a i) (x y : Nat) (hy : y ≤ i - a) : (s.extract a i).extract x y = s.extract (a + x) (a + y) := by
  have h1 := h.ai
  apply ByteArray.ext
  rw [ByteArray.data_extract, ByteArray.data_extract, ByteArray.data_extract, Array.extract_extract, Nat.min_eq_left (by omega)]
theorem Lin.sa (h : Lin s a i) : ∀ c, skS s (a + bNw (s.extract a i) c) = a + aNw (s.extract a i) c := fun c => by
  have := bNw_le (s.extract a i) c
  rw [h.size] at this
  exact h.sk _ _ this (Nat.le_refl _)
theorem Lin.sb (h : Lin s a i) (c : Nat) : wdS s (a + aNw (s.extract a i) c) = a + bNw (s.extract a i) (c + 1) := by
  have := (aNw_bd (s.extract a i) c).2.2
  rw [h.size] at this
  exact h.wd _ _ this (Nat.le_refl _)
theorem Lin.sc (h : Lin s a i) (c : Nat) : kdS s (a + aNw (s.extract a i) c) = kdS (s.extract a i) (aNw (s.extract a i) c) := by
  have := (aNw_bd (s.extract a i) c).2.2
  rw [h.size] at this
  exact h.kd this
def shO (a : Nat) : (Int × Nat) ⊕ (Rte × Nat) → (Int × Nat) ⊕ (Rte × Nat)
  | .inl (e, p) => .inl (e, a + p)
  | .inr (r, p) => .inr (r, a + p)
theorem Lin.ent (h : Lin s a i) (F : Int) : entO F s (a + aNw (s.extract a i) 0) = shO a (entO F (s.extract a i) (aNw (s.extract a i) 0)) := by
  have e1 : s.extract (a + aNw (s.extract a i) 0) (a + bNw (s.extract a i) 1) = (s.extract a i).extract (aNw (s.extract a i) 0) (bNw (s.extract a i) 1) := (h.ext _ _ (by have := bNw_le (s.extract a i) 1; rwa [h.size] at this)).symm
  have e2 : s.extract (a + aNw (s.extract a i) 1) (a + bNw (s.extract a i) 2) = (s.extract a i).extract (aNw (s.extract a i) 1) (bNw (s.extract a i) 2) := (h.ext _ _ (by have := bNw_le (s.extract a i) 2; rwa [h.size] at this)).symm
  unfold entO
  simp only [h.sb, h.sa, h.sc, bNw_s, aNw_s, Nat.zero_add, Nat.reduceAdd, e1, e2]
  by_cases c1 : ppE F ((s.extract a i).extract (aNw (s.extract a i) 0) (bNw (s.extract a i) 1)) = 0
  · simp only [if_pos c1]
    by_cases c2 : kdS (s.extract a i) (aNw (s.extract a i) 1) = 0
    · simp only [if_pos c2]
      match nhO ((s.extract a i).extract (aNw (s.extract a i) 1) (bNw (s.extract a i) 2)) with
      | none => rfl
      | some hp =>
        by_cases c3 : kdS (s.extract a i) (aNw (s.extract a i) 2) = 0
        · simp only [if_pos c3]; rfl
        · simp only [if_neg c3]; rfl
    · simp only [if_neg c2]; rfl
  · simp only [if_neg c1]; rfl
end
theorem ixg_at (b0 : UInt8) : ∀ (l : List UInt8) (k : Nat), k < l.length → (∀ j, j < k → ¬ l.getD j 0 = b0) → l.getD k 0 = b0 → Lib.indexByte l b0 = (k : Int) := by
  intro l
  induction l with
  | nil => intro k h; simp at h
  | cons b l ih =>
    intro k hk hj hc
    cases k with
    | zero =>
      have : b = b0 := hc
      subst this
      simp [Lib.indexByte]
    | succ k =>
      have hb : ¬ (b == b0) = true := by simp; exact hj 0 (by omega)
      have := ih k (by simpa using hk) (fun j h => by have := hj (j + 1) (by omega); simpa using this) (by simpa using hc)
      show (if (b == b0) = true then (0 : Int) else if (Lib.indexByte l b0 == -1) = true then -1 else Lib.indexByte l b0 + 1) = _
      rw [if_neg hb, this, if_neg (by simp)]
      simp
theorem ixg_none (b0 : UInt8) : ∀ (l : List UInt8), (∀ j, j < l.length → ¬ l.getD j 0 = b0) → Lib.indexByte l b0 = -1 := by
  intro l
  induction l with
  | nil => intro _; rfl
  | cons b l ih =>
    intro hj
    have hb : ¬ (b == b0) = true := by simp; exact hj 0 (by simp)
    have := ih (fun j h => by have := hj (j + 1) (by simp; omega); simpa using this)
    show (if (b == b0) = true then (0 : Int) else if (Lib.indexByte l b0 == -1) = true then -1 else Lib.indexByte l b0 + 1) = _
    rw [if_neg hb, this, if_pos (by simp)]
theorem nl_get (s : ByteArray) (p j : Nat) (hp : p ≤ s.size) : (((s.extract p s.size).data.toList.getD j 0).toNat : Int) = if p + j < s.size then byteAt s (p + j) else 0 := by
  rw [← byteAt_lst9, byteAt_sub9 s p s.size j (Nat.le_refl _)]
theorem nl_len (s : ByteArray) (p : Nat) : (s.extract p s.size).data.toList.length = s.size - p := by
  have q : (s.extract p s.size).size = min s.size s.size - p := ByteArray.size_extract
  rw [Array.length_toList]
  show (s.extract p s.size).size = _
  omega
theorem Lin.nl {s : ByteArray} {a i : Nat} (h : Lin s a i) {p : Nat} (hp : a ≤ p) (hpi : p ≤ i) : nlS s p = if i = s.size then -1 else ((i - p : Nat) : Int) := by
  have h2 := h.le
  unfold nlS
  by_cases c : i = s.size
  · rw [if_pos c]
    refine ixg_none 10 _ (fun j hj e => ?_)
    rw [nl_len] at hj
    have q := nl_get s p j (by omega)
    rw [e, if_pos (by omega)] at q
    exact h.no (p + j) (by omega) (by omega) (by rw [← q]; rfl)
  · rw [if_neg c]
    have hb : byteAt s i = 10 := by rcases h.nd with q | q; exact absurd q c; exact q
    refine ixg_at 10 _ (i - p) (by rw [nl_len]; omega) (fun j hj e => ?_) ?_
    · have q := nl_get s p j (by omega)
      rw [e, if_pos (by omega)] at q
      exact h.no (p + j) (by omega) (by omega) (by rw [← q]; rfl)
    · have q := nl_get s p (i - p) (by omega)
      rw [if_pos (by omega), show p + (i - p) = i by omega, hb] at q
      exact UInt8.toNat_inj.mp (by show _ = 10; omega)
def lnN (F : Int) (s : ByteArray) (g : Nat → Nat → Nat → List Rte → Nat → ResT) (a i ln : Nat) (L : List Rte) : ResT :=
  if (enR F (s.extract a i)).2.2.1 ≠ 0 then (((enR F (s.extract a i)).2.2.1, (ln : Int), (enR F (s.extract a i)).2.2.2), [])
  else if i = s.size then ((0, 0, 0), if (enR F (s.extract a i)).2.1 = true then L ++ [(enR F (s.extract a i)).1] else L)
  else g (i + 1) (ln + 1) (i + 1) (if (enR F (s.extract a i)).2.1 = true then L ++ [(enR F (s.extract a i)).1] else L) 0
theorem Lin.lnsB {s : ByteArray} {a i : Nat} (h : Lin s a i) (g : Nat → Nat → Nat → List Rte → Nat → ResT) {p : Nat} (hp : a ≤ p) (hpi : p ≤ i) (ln : Nat) (L : List Rte) : lnsB s g p ln L 0 = if i = s.size then ((0, 0, 0), L) else g (i + 1) (ln + 1) (i + 1) L 0 := by
  unfold Go.Proofs.YtmeaikmmhgmgnaaGreat.lnsB
  rw [h.nl hp hpi]
  by_cases c : i = s.size
  · simp only [if_pos c]; rfl
  · simp only [if_neg c]
    rw [if_neg (by omega), show p + ((i - p : Nat) : Int).toNat + 1 = i + 1 by omega]
theorem lns_step {s : ByteArray} {a i : Nat} (h : Lin s a i) (F : Int) (f ln : Nat) (L : List Rte) (hL : L.length < 1048576) : lnsR F s (f + 1) a ln a L 0 = lnN F s (lnsR F s f) a i ln L := by
  have hsk : skS s a = a + aNw (s.extract a i) 0 := h.sa 0
  have hle : aNw (s.extract a i) 0 ≤ i - a := by have := (aNw_bd (s.extract a i) 0).2.2; rwa [h.size] at this
  have h1 := h.ai
  show (if kdS s (skS s a) = 0 then (match entO F s (skS s a) with
        | .inl (e, p) => ((e, (ln : Int), (p : Int) - (a : Int) + 1), [])
        | .inr (r, p) => if L.length < 1048576 then Go.Proofs.YtmeaikmmhgmgnaaGreat.lnsB s (lnsR F s f) p ln (L ++ [r]) 0 else Go.Proofs.YtmeaikmmhgmgnaaGreat.lnsB s (lnsR F s f) p ln L (if 0 = 0 then ln else 0))
    else Go.Proofs.YtmeaikmmhgmgnaaGreat.lnsB s (lnsR F s f) (skS s a) ln L 0) = _
  rw [hsk, h.sc, h.ent]
  unfold lnN enR
  by_cases c : kdS (s.extract a i) (aNw (s.extract a i) 0) = 0
  · simp only [if_pos c]
    have hbd : entP (entO F (s.extract a i) (aNw (s.extract a i) 0)) ≤ i - a := by
      have := (entP_bd (F := F) (s := s.extract a i) (a := aNw (s.extract a i) 0) (aNw_bd (s.extract a i) 0).2.2).2
      rwa [h.size] at this
    match he : entO F (s.extract a i) (aNw (s.extract a i) 0) with
    | .inl (e, p) =>
      have hne := entO_ne he
      simp only [shO, ne_eq, hne, not_false_eq_true, if_true]
      rw [show ((a + p : Nat) : Int) - (a : Int) + 1 = (p : Int) + 1 by omega]
    | .inr (r, p) =>
      rw [he] at hbd
      have hbd' : p ≤ i - a := hbd
      simp only [shO, if_pos hL, ne_eq, not_true_eq_false, if_false, if_true]
      exact h.lnsB _ (by omega) (by omega) ln _
  · simp only [if_neg c, ne_eq, not_true_eq_false, if_false, Bool.false_eq_true]
    exact h.lnsB _ (by omega) (by omega) ln L
end Go.Proofs.YtmeaikmmhgmgnaaGreat
namespace Go.Proofs.YtmeaikmmhgmgnaaGreat
open Go.RowKit
set_option linter.unusedSimpArgs false
set_option linter.unusedVariables false
attribute [local go_sem] Oper.semAt_some

theorem wl_nil9 {P : Program} {ops : Array Oper} {Q : Exit → Act → World → Prop} {a : Act} {w : World} (h : wpList P ops Q [] a w) : Q .normal a w := h
theorem Slt.old {l : List Oper} {a A : Act} {lp : Array Bool} {a' : Act} (h : Slt l a A lp a') (s : Nat) (hs : ∀ o ∈ l, o.dst ≠ some s) : a'.tmps[s]? = a.tmps[s]? := h.oth s (fun k o hk _ => hs o (List.mem_of_getElem? hk))
theorem gh_quiet9 {P : Program} {o : Oper} {a' : Act} {w' : World} {K : Act → World → Prop} {Q' : Exit → Act → World → Prop} {v : Value} (hr : (execOp a'.eval o).run P w' = .ok (.value v) w') (hK : K (a'.put o.dst v) w') : o.wp P a' w' K Q' := by
  unfold Oper.wp
  rw [hr]
  exact hK
theorem lnsB_z {s : ByteArray} {g : Nat → Nat → Nat → List Rte → Nat → ResT} (hg : ∀ k ln st L tm, (g k ln st L tm).1.1 = 0 → (g k ln st L tm).1.2 = (0, 0)) (p ln : Nat) (L : List Rte) (tm : Nat) : (lnsB s g p ln L tm).1.1 = 0 → (lnsB s g p ln L tm).1.2 = (0, 0) := by
  unfold lnsB
  split
  · split
    · intro _; rfl
    · intro h; simp at h
  · exact hg _ _ _ _ _
theorem lnsR_z (F : Int) (s : ByteArray) : ∀ f k ln st L tm, (lnsR F s f k ln st L tm).1.1 = 0 → (lnsR F s f k ln st L tm).1.2 = (0, 0)
  | 0, _, _, _, _, _ => fun _ => rfl
  | f + 1, k, ln, st, L, tm => by
    have hb := fun p L tm => lnsB_z (s := s) (lnsR_z F s f) p ln L tm
    unfold lnsR
    split
    · split
      · rename_i e p he
        intro h
        exact absurd h (entO_ne he)
      · split
        · exact hb _ _ _
        · exact hb _ _ _
    · exact hb _ _ _
theorem hz9 {F : Int} {s : ByteArray} {fl fc : Int} {L : List Rte} (h : lnsR F s (s.size + 1) 0 1 0 [] 0 = ((0, fl, fc), L)) : fl = 0 ∧ fc = 0 := by
  have := lnsR_z F s (s.size + 1) 0 1 0 [] 0
  rw [h] at this
  have := this rfl
  simpa using this
def prR (F : Int) (s : ByteArray) : ResT := if fam F = true then lnsR F s (s.size + 1) 0 1 0 [] 0 else ((11, 0, 0), [])
def PrsQ (F : Int) (s : ByteArray) (w : World) (e : Ending) (w' : World) : Prop := (∃ u S, e = .returned (.tuple #[.agg #[.int .i64 (if (prR F s).1.1 = 0 then F else 0), u], .agg #[.int .i64 (prR F s).1.1, .int .i64 (prR F s).1.2.1, .int .i64 (prR F s).1.2.2]]) ∧ S = (if (prR F s).1.1 = 0 then (prR F s).2.foldl setF [] else []) ∧ w'.ownsRow w.heap.size 47 4 u S.length (rowR S)) ∧ Below w.heap.size w w'
structure PzV (w : World) (Fb : Nat) (fe fl fc : Int) (b : Bool) (W : World) : Prop where
  res : W.heap[w.heap.size]? = some (.cells #[.int .i64 0, .slice none 0 0] 25)
  flt : W.heap[w.heap.size + 1]? = some (.cells (if b = true then #[.int .i64 fe, .int .i64 fl, .int .i64 fc] else #[.int .i64 0, .int .i64 0, .int .i64 0]) 28)
  f : W.heap[Fb]? = some (.cells #[.int .i64 fe, .int .i64 fl, .int .i64 fc] 28)
  lt : w.heap.size + 1 < Fb
  low : Below w.heap.size w W
theorem PzV.below {w W W' : World} {Fb : Nat} {fe fl fc : Int} {b : Bool} (h : PzV w Fb fe fl fc b W) (hb : Below W.heap.size W W') : PzV w Fb fe fl fc b W' :=
  ⟨(hb.block _ (blk_lt5 h.res)).trans h.res, (hb.block _ (blk_lt5 h.flt)).trans h.flt, (hb.block _ (blk_lt5 h.f)).trans h.f, h.lt, keepb hb h.low⟩
theorem PzV.zt {w W : World} {Fb : Nat} {fe fl fc : Int} {b : Bool} (h : PzV w Fb fe fl fc b W) : PzV w Fb fe fl fc b ((W.setCell ⟨w.heap.size, 0, none⟩ (.int .i64 0)).setCell ⟨w.heap.size, 1, none⟩ (.slice none 0 0)) := by
  have hl := h.lt
  refine ⟨by simpa using set_blk5 (o := 1) (set_blk5 (o := 0) h.res (.int .i64 0)) (.slice none 0 0), ?_, ?_, h.lt, (h.low.setCell (Nat.le_refl _) _).setCell (Nat.le_refl _) _⟩
  · rw [hSet _ (by omega), hSet _ (by omega)]; exact h.flt
  · rw [hSet _ (by omega), hSet _ (by omega)]; exact h.f
theorem PzV.ft {w W : World} {Fb : Nat} {fe fl fc : Int} (h : PzV w Fb fe fl fc false W) : PzV w Fb fe fl fc true (((W.setCell ⟨w.heap.size + 1, 0, none⟩ (.int .i64 fe)).setCell ⟨w.heap.size + 1, 1, none⟩ (.int .i64 fl)).setCell ⟨w.heap.size + 1, 2, none⟩ (.int .i64 fc)) := by
  have hl := h.lt
  refine ⟨?_, by simpa using set_blk5 (o := 2) (set_blk5 (o := 1) (set_blk5 (o := 0) h.flt (.int .i64 fe)) (.int .i64 fl)) (.int .i64 fc), ?_, h.lt, ((h.low.setCell (p := ⟨w.heap.size + 1, 0, none⟩) (Nat.le_succ _) _).setCell (p := ⟨w.heap.size + 1, 1, none⟩) (Nat.le_succ _) _).setCell (p := ⟨w.heap.size + 1, 2, none⟩) (Nat.le_succ _) _⟩
  · rw [hSet _ (by omega), hSet _ (by omega), hSet _ (by omega)]; exact h.res
  · rw [hSet _ (by omega), hSet _ (by omega), hSet _ (by omega)]; exact h.f
set_option maxRecDepth 20000 in
set_option maxHeartbeats 16000000 in
theorem parse9_any (F : Int) (s : ByteArray) (w : World) (hs : s.size ≤ 1000000000) (hL9 : (lnsR F s (s.size + 1) 0 1 0 [] 0).2.length ≤ 1000000000) :
    Calls Tryz.prog 7 #[.int .i64 F, .string s] w (PrsQ F s w) := by
  have q1 := bl1 w (.cells #[.int .i64 0, .slice none 0 0] 25)
  have q2 := bl1 (w.alloc (.cells #[.int .i64 0, .slice none 0 0] 25)) (.cells #[.int .i64 0, .int .i64 0, .int .i64 0] 28)
  have s1 : (w.alloc (.cells #[.int .i64 0, .slice none 0 0] 25)).heap.size = w.heap.size + 1 := by simp
  have HP : Hid (∀ X, X = (w.alloc (.cells #[.int .i64 0, .slice none 0 0] 25)).alloc (.cells #[.int .i64 0, .int .i64 0, .int .i64 0] 28) → X.heap[w.heap.size]? = some (.cells #[.int .i64 0, .slice none 0 0] 25) ∧ X.heap[w.heap.size + 1]? = some (.cells #[.int .i64 0, .int .i64 0, .int .i64 0] 28) ∧ Below w.heap.size w X) := hidR (by
    rintro X rfl
    refine ⟨?_, ?_, keepb q2 q1⟩
    · rw [q2.block _ (by omega)]
      exact Array.getElem?_push_size
    · rw [← s1]
      exact Array.getElem?_push_size)
  have KA := fun w => alast_any F w
  clear q1 q2 s1
  go_enter Tryz.func7, Tryz.ntmps7
  go_wp2_with fail
  revert HP
  generalize hW0 : (w.alloc (.cells #[.int .i64 0, .slice none 0 0] 25)).alloc (.cells #[.int .i64 0, .int .i64 0, .int .i64 0] 28) = W0
  intro HP
  obtain ⟨hp1, hp2, hp3⟩ := HP.out W0 rfl
  clear HP hW0
  cases hF : fam F with
  | false =>
    have hE : lastE F = 11 := by unfold lastE; rw [hF]; rfl
    rw [hE] at KA
    have HQ : Hid (∀ W, Below w.heap.size w W → PrsQ F s w (.returned (.tuple #[.agg #[.int .i64 0, .slice none 0 0], .agg #[.int .i64 11, .int .i64 0, .int .i64 0]])) W) := hidR (fun W hb => by
      have e : prR F s = ((11, 0, 0), []) := by unfold prR; rw [hF]; rfl
      refine ⟨⟨.slice none 0 0, [], ?_, ?_, ⟨rfl, .inl ⟨rfl, rfl⟩⟩⟩, hb⟩
      · rw [e]; rfl
      · rw [e]; rfl)
    clear hE
    refine (KA W0).mono ?_
    rintro e W1 ⟨rfl, hb⟩
    have b2 := bl1 W1 (.cells #[.int .u64 (hI (lastV F)), .int .u64 (lI (lastV F))] 35)
    have bb := keepb b2 hb
    have hT := (bb.block _ (blk_lt5 hp1)).trans hp1
    have hG := (bb.block _ (blk_lt5 hp2)).trans hp2
    have HB := hidR (keepb bb hp3)
    clear hb b2 bb hp1 hp2 hp3 KA
    generalize lastV F = lv at *
    have c0 := at_blk hT 0 (.int .i64 0) rfl
    have c1 := at_blk hT 1 (.slice none 0 0) rfl
    have c2 := at_blk hG 0 (.int .i64 0) rfl
    have c3 := at_blk hG 1 (.int .i64 0) rfl
    have c4 := at_blk hG 2 (.int .i64 0) rfl
    have d0 := fr_blk5 (j := 0) hT
    have d1 := fr_blk5 (j := 1) hT
    have d2 := fr_blk5 (j := 0) hG
    have d3 := fr_blk5 (j := 1) hG
    have d4 := fr_blk5 (j := 2) hG
    clear hT hG
    go_wp2_with fail
    revert c0 c1 c2 c3 c4 d0 d1 d2 d3 d4 HB
    generalize W1.alloc (.cells #[.int .u64 (hI lv), .int .u64 (lI lv)] 35) = W2
    intro HB c0 c1 c2 c3 c4 d0 d1 d2 d3 d4
    have HF := hidR (HQ.out (((((W2.setCell ⟨w.heap.size, 0, none⟩ (.int .i64 0)).setCell ⟨w.heap.size, 1, none⟩ (.slice none 0 0)).setCell ⟨w.heap.size + 1, 0, none⟩ (.int .i64 11)).setCell ⟨w.heap.size + 1, 1, none⟩ (.int .i64 0)).setCell ⟨w.heap.size + 1, 2, none⟩ (.int .i64 0)) (((((HB.out.setCell (p := ⟨w.heap.size, 0, none⟩) (Nat.le_refl _) _).setCell (p := ⟨w.heap.size, 1, none⟩) (Nat.le_refl _) _).setCell (p := ⟨w.heap.size + 1, 0, none⟩) (Nat.le_succ _) _).setCell (p := ⟨w.heap.size + 1, 1, none⟩) (Nat.le_succ _) _).setCell (p := ⟨w.heap.size + 1, 2, none⟩) (Nat.le_succ _) _))
    clear HB HQ
    go_wp2
    exact bodyPost_ret (v := .tuple #[.agg #[.int .i64 0, .slice none 0 0], .agg #[.int .i64 11, .int .i64 0, .int .i64 0]]) (by simp [results, Tryz.results7, go_sem, c0, c1, c2, c3, c4]) rfl HF.out
  | true =>
    have hE : lastE F = 0 := by unfold lastE; rw [if_pos hF]
    rw [hE] at KA
    have HPR : Hid (prR F s = lnsR F s (s.size + 1) 0 1 0 [] 0) := hidR (by unfold prR; rw [if_pos hF])
    clear hE
    refine (KA W0).mono ?_
    rintro e W1 ⟨rfl, hb⟩
    have b2 := bl1 W1 (.cells #[.int .u64 (hI (lastV F)), .int .u64 (lI (lastV F))] 35)
    have b3 := bl1 (W1.alloc (.cells #[.int .u64 (hI (lastV F)), .int .u64 (lI (lastV F))] 35)) (.cells #[.int .i64 F, .string s, .int .i64 0, .int .i64 1, .int .i64 0] 59)
    have sz1 : (W1.alloc (.cells #[.int .u64 (hI (lastV F)), .int .u64 (lI (lastV F))] 35)).heap.size = W1.heap.size + 1 := by simp
    have bb := keepb b3 (keepb b2 hb)
    have HT : Hid (((W1.alloc (.cells #[.int .u64 (hI (lastV F)), .int .u64 (lI (lastV F))] 35)).alloc (.cells #[.int .i64 F, .string s, .int .i64 0, .int .i64 1, .int .i64 0] 59)).heap[w.heap.size]? = some (.cells #[.int .i64 0, .slice none 0 0] 25)) := hidR ((bb.block _ (blk_lt5 hp1)).trans hp1)
    have HF : Hid (((W1.alloc (.cells #[.int .u64 (hI (lastV F)), .int .u64 (lI (lastV F))] 35)).alloc (.cells #[.int .i64 F, .string s, .int .i64 0, .int .i64 1, .int .i64 0] 59)).heap[w.heap.size + 1]? = some (.cells #[.int .i64 0, .int .i64 0, .int .i64 0] 28)) := hidR ((bb.block _ (blk_lt5 hp2)).trans hp2)
    have HB := hidR (keepb bb hp3)
    have HR : Hid (RdV ((W1.alloc (.cells #[.int .u64 (hI (lastV F)), .int .u64 (lI (lastV F))] 35)).alloc (.cells #[.int .i64 F, .string s, .int .i64 0, .int .i64 1, .int .i64 0] 59)) (W1.heap.size + 1) F s 0 1 0) := hidR (by
      show _ = _
      rw [← sz1]
      exact Array.getElem?_push_size)
    have hlt : w.heap.size + 1 < W1.heap.size := by have := hb.size; have := blk_lt5 hp2; omega
    clear b2 b3 bb hp1 hp2 hp3 hb sz1 KA
    go_wp2_with fail
    revert HT HF HB HR hlt
    generalize (W1.alloc (.cells #[.int .u64 (hI (lastV F)), .int .u64 (lI (lastV F))] 35)).alloc (.cells #[.int .i64 F, .string s, .int .i64 0, .int .i64 1, .int .i64 0] 59) = W2
    generalize W1.heap.size = R1
    intro HT HF HB HR hlt
    obtain ⟨res, hres⟩ : ∃ res, lnsR F s (s.size + 1) 0 1 0 [] 0 = res := ⟨_, rfl⟩
    have HPE := hidR (HPR.out.trans hres)
    rw [hres] at hL9
    refine (entries5_any (R1 + 1) F s W2 HR.out hs res hres).mono ?_
    rintro e W3 ⟨⟨lv, rfl, hO⟩, hb⟩
    have hR2 : R1 + 1 < W2.heap.size := HR.out.lt
    obtain ⟨⟨fe, fl, fc⟩, L⟩ := res
    dsimp only at hO hL9 ⊢
    have q4 := bl1 W3 (.cells #[.int .i64 fe, .int .i64 fl, .int .i64 fc] 28)
    obtain ⟨lo, lc, rfl⟩ := own_form hO
    have HO := hidR (own_below q4 hO)
    have hb3 : R1 + 1 < W3.heap.size := by have := hb.size; omega
    have HT3 := hidR ((q4.block _ (blk_lt5 ((hb.blk _ (blk_lt5 HT.out) (by omega)).trans HT.out))).trans ((hb.blk _ (blk_lt5 HT.out) (by omega)).trans HT.out))
    have HF3 := hidR ((q4.block _ (blk_lt5 ((hb.blk _ (blk_lt5 HF.out) (by omega)).trans HF.out))).trans ((hb.blk _ (blk_lt5 HF.out) (by omega)).trans HF.out))
    have HB3 := hidR (keepb q4 (Bo.low hb HB.out (by have := HB.out.size; omega) (Nat.le_refl _)))
    have HFb : Hid ((W3.alloc (.cells #[.int .i64 fe, .int .i64 fl, .int .i64 fc] 28)).heap[W3.heap.size]? = some (.cells #[.int .i64 fe, .int .i64 fl, .int .i64 fc] 28)) := hidR Array.getElem?_push_size
    clear hO hb q4 HT HF HB HR hres
    have y0 := at_blk HFb.out 0 (.int .i64 fe) rfl
    by_cases hfe : fe = 0
    · subst hfe
      go_wp2_with fail
      clear y0
      revert HO HT3 HF3 HB3 HFb
      generalize W3.alloc (.cells #[.int .i64 0, .int .i64 fl, .int .i64 fc] 28) = W4
      intro HO HT3 HF3 HB3 HFb
      have hlz : fl = 0 ∧ fc = 0 := hz9 (HPR.out.symm.trans HPE.out)
      obtain ⟨rfl, rfl⟩ := hlz
      have HN : Hid (∀ z, z < W2.heap.size → ¬ some z = Value.ownBlock (.slice lo L.length lc)) := hidR (fun z hz e => by have := (HO.out.lt z e.symm).1; omega)
      have hw2 : w.heap.size + 1 < W2.heap.size := by omega
      refine (inOrderA_any F (W2.heap.size + 4) _ L W4 HO.out hL9).mono ?_
      rintro e W5 ⟨u, rfl, ho, hg, hu⟩
      have hT5 := (hg.block _ (blk_lt5 HT3.out) (HN.out _ (by omega))).trans HT3.out
      have hF5 := (hg.block _ (blk_lt5 HF3.out) (HN.out _ (by omega))).trans HF3.out
      have hB5 : Below w.heap.size w W5 := ⟨by rw [hg.os, HB3.out.os], by rw [hg.tape, HB3.out.tape], by rw [hg.output, HB3.out.output], Nat.le_trans HB3.out.size hg.size, fun z hz => by rw [hg.block z (by have := HB3.out.size; omega) (HN.out z (by omega)), HB3.out.block z hz]⟩
      have c0 := at_blk hT5 0 (.int .i64 0) rfl
      have c1 := at_blk hT5 1 (.slice none 0 0) rfl
      have c2 := at_blk hF5 0 (.int .i64 0) rfl
      have c3 := at_blk hF5 1 (.int .i64 0) rfl
      have c4 := at_blk hF5 2 (.int .i64 0) rfl
      have d0 := fr_blk5 (j := 0) hT5
      have d1 := fr_blk5 (j := 1) hT5
      have d2 := fr_blk5 (j := 0) hF5
      have d3 := fr_blk5 (j := 1) hF5
      have d4 := fr_blk5 (j := 2) hF5
      obtain ⟨uo, uc, rfl⟩ := own_form ho
      have HFin : Hid (PrsQ F s w (.returned (.tuple #[.agg #[.int .i64 F, .slice uo (ltL (isrt L)).length uc], .agg #[.int .i64 0, .int .i64 0, .int .i64 0]])) (((((W5.setCell ⟨w.heap.size, 0, none⟩ (.int .i64 F)).setCell ⟨w.heap.size, 1, none⟩ (.slice uo (ltL (isrt L)).length uc)).setCell ⟨w.heap.size + 1, 0, none⟩ (.int .i64 0)).setCell ⟨w.heap.size + 1, 1, none⟩ (.int .i64 0)).setCell ⟨w.heap.size + 1, 2, none⟩ (.int .i64 0))) := hidR ⟨⟨_, _, by rw [HPE.out]; rfl, rfl, by
        rw [HPE.out]
        show World.ownsRow _ _ _ _ _ (L.foldl setF []).length (rowR (L.foldl setF []))
        rw [← canon_eq]
        exact own_wide (own_heap ho (fun z e => by have := (ho.lt z e).1; rw [hSet _ (by omega), hSet _ (by omega), hSet _ (by omega), hSet _ (by omega), hSet _ (by omega)])) (by omega)⟩, ((((hB5.setCell (p := ⟨w.heap.size, 0, none⟩) (Nat.le_refl _) _).setCell (p := ⟨w.heap.size, 1, none⟩) (Nat.le_refl _) _).setCell (p := ⟨w.heap.size + 1, 0, none⟩) (Nat.le_succ _) _).setCell (p := ⟨w.heap.size + 1, 1, none⟩) (Nat.le_succ _) _).setCell (p := ⟨w.heap.size + 1, 2, none⟩) (Nat.le_succ _) _⟩
      clear ho hg hu hT5 hF5 hB5 HO HT3 HF3 HB3 HFb HN
      generalize (ltL (isrt L)).length = sl at *
      go_wp2
      exact bodyPost_ret (v := .tuple #[.agg #[.int .i64 F, .slice uo sl uc], .agg #[.int .i64 0, .int .i64 0, .int .i64 0]]) (by simp [results, Tryz.results7, go_sem, c0, c1, c2, c3, c4]) rfl HFin.out
    · have hfb : (fe == 0) = false := by simpa using hfe
      have HZ : Hid (PzV w W3.heap.size fe fl fc false (W3.alloc (.cells #[.int .i64 fe, .int .i64 fl, .int .i64 fc] 28))) := hidR ⟨HT3.out, HF3.out, HFb.out, by omega, HB3.out⟩
      have HQ : Hid (∀ W, Below w.heap.size w W → PrsQ F s w (.returned (.tuple #[.agg #[.int .i64 0, .slice none 0 0], .agg #[.int .i64 fe, .int .i64 fl, .int .i64 fc]])) W) := hidR (fun W hb => by
        refine ⟨⟨.slice none 0 0, [], ?_, ?_, ⟨rfl, .inl ⟨rfl, rfl⟩⟩⟩, hb⟩
        · rw [HPE.out]
          show _ = Ending.returned (.tuple #[.agg #[.int .i64 (if fe = 0 then F else 0), _], _])
          rw [if_neg hfe]
        · rw [HPE.out]
          show _ = (if fe = 0 then L.foldl setF [] else [])
          rw [if_neg hfe])
      clear HO HT3 HF3 HB3 HFb
      go_wp2_with fail
      clear y0
      revert HZ
      generalize W3.alloc (.cells #[.int .i64 fe, .int .i64 fl, .int .i64 fc] 28) = W4
      generalize W3.heap.size = Fb
      intro HZ
      refine gh_region (γ := Unit) (qpOk 4 4 (by decide) (fun N => by kernel_rfl) (by kernel_rfl) (by kernel_rfl) (by kernel_rfl) (by kernel_rfl)) (by kernel_rfl) (by kernel_rfl) [some 31, some 32, none, none] (fun g => [.agg #[.int .i64 0, .slice none 0 0], .agg #[.int .i64 fe, .int .i64 fl, .int .i64 fc], undef, undef]) (by kernel_rfl) (by simp) (fun lp _ W => PzV w Fb fe fl fc (lp.getD 3 false) W) () (HZ.out.below (below_drewN (Below.refl _ _) 1)) ?step7 ?fin7
      case step7 =>
        intro q o lp g w' a' ho hsz hun hdep hR hS K Q' hK
        have hq : q < 4 := (List.getElem?_eq_some_iff.mp ho).1
        have hfl : ∀ j, j ≠ q → (lp.setIfInBounds q true).getD j false = lp.getD j false := fun j hj => by rw [Array.getD_eq_getD_getElem?, Array.getD_eq_getD_getElem?, Array.getElem?_setIfInBounds_ne (by omega)]
        have hft : (lp.setIfInBounds q true).getD q false = true := getD_set_same (by rw [hsz]; exact hq)
        match q, ho, hun, hdep, hK, hfl, hft, hq with
        | 0, ho, hun, hdep, hK, hfl, hft, _ =>
          obtain rfl := Option.some.inj ho
          have hK' := hK () w' (fun _ _ _ _ _ _ => rfl) (by rw [hfl 3 (by decide)]; exact hR) (.agg #[.int .i64 0, .slice none 0 0]) (by simp only [valO, Option.bind_some]; simp only [putAll, Act.put, List.setIfInBounds_toArray, List.set_cons_zero, List.set_cons_succ]; rfl)
          clear hS hdep hR
          refine gh_quiet9 (v := .agg #[.int .i64 0, .slice none 0 0]) ?_ ?_
          · (simp only [execOp, Act.eval]; go_simp; first | done | (simp; done) | (simp [*]; done))
          · exact hK'
        | 1, ho, hun, hdep, hK, hfl, hft, _ =>
          obtain rfl := Option.some.inj ho
          have o10 : a'.tmps[10]? = some (.pointer (some ⟨Fb, 0, none⟩)) := (hS.old 10 (by simp)).trans rfl
          have x0 := at_blk hR.f 0 (.int .i64 fe) rfl
          have x1 := at_blk hR.f 1 (.int .i64 fl) rfl
          have x2 := at_blk hR.f 2 (.int .i64 fc) rfl
          have hK' := hK () w' (fun _ _ _ _ _ _ => rfl) (by rw [hfl 3 (by decide)]; exact hR) (.agg #[.int .i64 fe, .int .i64 fl, .int .i64 fc]) (by simp only [valO, Option.bind_some]; simp only [putAll, Act.put, List.setIfInBounds_toArray, List.set_cons_zero, List.set_cons_succ]; rfl)
          clear hS hdep hR
          refine gh_quiet9 (v := .agg #[.int .i64 fe, .int .i64 fl, .int .i64 fc]) ?_ ?_
          · (simp only [execOp, Act.eval, o10]; go_simp; first | done | (simp; done) | (simp [*]; done))
          · exact hK'
        | 2, ho, hun, hdep, hK, hfl, hft, _ =>
          obtain rfl := Option.some.inj ho
          have d0 : lp.getD 0 false = true := hdep { on := 0, ground := .data } (by simp) rfl
          have e31 : a'.tmps[31]? = some (.agg #[.int .i64 0, .slice none 0 0]) := (hS.don 0 _ 31 rfl d0 rfl).trans (by simp only [putAll, Act.put, List.setIfInBounds_toArray, List.set_cons_zero, List.set_cons_succ]; rfl)
          have o4 : a'.tmps[4]? = some (.pointer (some ⟨w.heap.size, 0, none⟩)) := (hS.old 4 (by simp)).trans rfl
          have z0 := at_blk hR.res 0 (.int .i64 0) rfl
          have z1 := at_blk hR.res 1 (.slice none 0 0) rfl
          have f0 := fr_blk5 (j := 0) hR.res
          have f1 := fr_blk5 (j := 1) hR.res
          have hK' := hK () _ (fun _ _ _ _ _ _ => rfl) (by rw [hfl 3 (by decide)]; exact hR.zt) undef rfl
          clear hS hdep hR
          unfold Oper.wp
          simp [execOp, Act.eval, e31, o4, go_sem, z0, z1, f0, f1, Oper.upon]
          exact hK'
        | 3, ho, hun, hdep, hK, hfl, hft, _ =>
          obtain rfl := Option.some.inj ho
          have d1 : lp.getD 1 false = true := hdep { on := 1, ground := .data } (by simp) rfl
          have e32 : a'.tmps[32]? = some (.agg #[.int .i64 fe, .int .i64 fl, .int .i64 fc]) := (hS.don 1 _ 32 rfl d1 rfl).trans (by simp only [putAll, Act.put, List.setIfInBounds_toArray, List.set_cons_zero, List.set_cons_succ]; rfl)
          have o5 : a'.tmps[5]? = some (.pointer (some ⟨(w.heap.size + 1), 0, none⟩)) := (hS.old 5 (by simp)).trans rfl
          rw [hun] at hR
          have z0 := at_blk hR.flt 0 (.int .i64 0) rfl
          have z1 := at_blk hR.flt 1 (.int .i64 0) rfl
          have z2 := at_blk hR.flt 2 (.int .i64 0) rfl
          have f0 := fr_blk5 (j := 0) hR.flt
          have f1 := fr_blk5 (j := 1) hR.flt
          have f2 := fr_blk5 (j := 2) hR.flt
          have hK' := hK () _ (fun _ _ _ _ _ _ => rfl) (by rw [hft]; exact hR.ft) undef rfl
          clear hS hdep hR
          unfold Oper.wp
          simp [execOp, Act.eval, e32, o5, go_sem, z0, z1, z2, f0, f1, f2, Oper.upon]
          exact hK'
        | n + 4, ho, hun, hdep, hK, hfl, hft, hq => exact absurd hq (by omega)
      case fin7 =>
        intro g W5 hR
        have hR : PzV w Fb fe fl fc true W5 := by simpa using hR
        have z0 := at_blk hR.res 0 (.int .i64 0) rfl
        have z1 := at_blk hR.res 1 (.slice none 0 0) rfl
        have y0 := at_blk hR.flt 0 (.int .i64 fe) rfl
        have y1 := at_blk hR.flt 1 (.int .i64 fl) rfl
        have y2 := at_blk hR.flt 2 (.int .i64 fc) rfl
        have HF := hidR (HQ.out W5 hR.low)
        simp only [putAll, Act.put, List.setIfInBounds_toArray, List.set_cons_zero, List.set_cons_succ]
        clear hR HZ
        refine wl_nil9 (P := Tryz.prog) (ops := #[]) ?_
        go_wp2
        exact bodyPost_ret (v := .tuple #[.agg #[.int .i64 0, .slice none 0 0], .agg #[.int .i64 fe, .int .i64 fl, .int .i64 fc]]) (by simp [results, Tryz.results7, go_sem, z0, z1, y0, y1, y2]) rfl HF.out
end Go.Proofs.YtmeaikmmhgmgnaaGreat
