/-
  Plain facts: pieces, groups and gaps of a text's end.
-/
import Derived.Test.YtpchhfhdepkbcaaDoorPure2
import Derived.Test.YtpchhfhdepkbcaaDoorRefX
import Derived.Test.YtpchhfhdepkbcaaDoorAdr8
import Derived.Lib.IndexBytes
namespace Go.Proofs.YtpchhfhdepkbcaaDoor
open Go.RowKit
set_option linter.unusedSimpArgs false
set_option linter.unusedVariables false

theorem ext_ext (s : ByteArray) (a p j : Nat) (h : a + j ≤ s.size) : (s.extract a s.size).extract p j = s.extract (a + p) (a + j) := by
  rw [Lib.extract_eq, Lib.extract_to_end, Lib.extract_eq, List.drop_drop]
  congr 3
  omega
theorem ext_end (s : ByteArray) (a p : Nat) (h : a ≤ s.size) : (s.extract a s.size).extract p (s.extract a s.size).size = s.extract (a + p) s.size := by
  rw [size_sub s a s.size (Nat.le_refl _), ext_ext s a p (s.size - a) (by omega), show a + (s.size - a) = s.size by omega]
theorem ext_all (s : ByteArray) : s.extract 0 s.size = s := by
  rw [Lib.extract_eq, List.drop_zero, List.take_of_length_le (by rw [← Lib.size_eq]; omega)]

theorem spl_shift (t : ByteArray) (c : Int) (a : Nat) (ha : a ≤ t.size) : ∀ f p i, i + f = t.size - a → spl t c f (a + p) (a + i) = spl (t.extract a t.size) c f p i := by
  intro f
  induction f with
  | zero =>
    intro p i hi
    show [t.extract (a + p) t.size] = [(t.extract a t.size).extract p (t.extract a t.size).size]
    rw [ext_end t a p ha]
  | succ f ih =>
    intro p i hi
    show (if byteAt t (a + i) = c then t.extract (a + p) (a + i) :: spl t c f (a + i + 1) (a + i + 1) else spl t c f (a + p) (a + i + 1)) = (if byteAt (t.extract a t.size) i = c then (t.extract a t.size).extract p i :: spl (t.extract a t.size) c f (i + 1) (i + 1) else spl (t.extract a t.size) c f p (i + 1))
    rw [byteAt_ext, ext_ext t a p i (by omega), Nat.add_assoc, ih (i + 1) (i + 1) (by omega), ih p (i + 1) (by omega)]
theorem spl_tail (t : ByteArray) (c : Int) (a : Nat) (ha : a ≤ t.size) : spl t c (t.size - a) a a = spl (t.extract a t.size) c (t.extract a t.size).size 0 0 := by
  have := spl_shift t c a ha (t.size - a) 0 0 (by omega)
  rw [Nat.add_zero] at this
  rw [this, size_sub t a t.size (Nat.le_refl _)]
/-- The pieces of a text: the first one, and those of what is left. -/
theorem spl_first (t : ByteArray) (c : Int) :
    ∃ j, j ≤ t.size ∧ (∀ k, k < j → ¬ byteAt t k = c) ∧ ((j = t.size ∧ spl t c t.size 0 0 = [t]) ∨ (j < t.size ∧ byteAt t j = c ∧ spl t c t.size 0 0 = t.extract 0 j :: spl (t.extract (j + 1) t.size) c (t.extract (j + 1) t.size).size 0 0)) := by
  obtain ⟨j, -, h2, h3, h4⟩ := spl_next t c 0 (by omega)
  rw [Nat.sub_zero] at h4
  refine ⟨j, h2, fun k hk => h3 k (by omega) hk, ?_⟩
  rcases h4 with ⟨a, b⟩ | ⟨a, b, d⟩
  · left; rw [ext_all] at b; exact ⟨a, b⟩
  · right; rw [spl_tail t c (j + 1) (by omega)] at d; exact ⟨a, b, d⟩

theorem gsG_acc (last : Bool) : ∀ (l : List ByteArray) (acc : List Int), gsG last l acc = (gsG last l []).map (acc ++ ·) := by
  intro l
  induction l with
  | nil => intro acc; simp [gsG]
  | cons q l ih =>
    intro acc
    unfold gsG
    split
    · simp
    · split
      · rfl
      · rw [ih (acc ++ [grV q]), ih ([] ++ [grV q])]
        cases gsG last l [] <;> simp
/-- The groups of a text, its pieces taken. -/
def gsP (last : Bool) (T : ByteArray) : Option (List Int) := gsG last (spl T 58 T.size 0 0) []
theorem gsP_one (last : Bool) (T : ByteArray) (h : spl T 58 T.size 0 0 = [T]) : gsP last T = if last = true ∧ (dotO T).isSome = true then some [(dotO T).getD 0 / 65536, (dotO T).getD 0 % 65536] else if grV T < 0 then none else some [grV T] := by
  unfold gsP
  rw [h]
  show (if last = true ∧ ([] : List ByteArray) = [] ∧ (dotO T).isSome = true then some ([] ++ [(dotO T).getD 0 / 65536, (dotO T).getD 0 % 65536]) else if grV T < 0 then none else gsG last [] ([] ++ [grV T])) = _
  simp [gsG]
theorem gsP_more (last : Bool) (T : ByteArray) (j : Nat) (h : spl T 58 T.size 0 0 = T.extract 0 j :: spl (T.extract (j + 1) T.size) 58 (T.extract (j + 1) T.size).size 0 0) :
    gsP last T = if grV (T.extract 0 j) < 0 then none else (gsP last (T.extract (j + 1) T.size)).map (grV (T.extract 0 j) :: ·) := by
  unfold gsP
  rw [h]
  have hl := (spl_len (T.extract (j + 1) T.size) 58 (T.extract (j + 1) T.size).size 0 0).1
  generalize spl (T.extract (j + 1) T.size) 58 (T.extract (j + 1) T.size).size 0 0 = l at *
  have hne : ¬ l = [] := fun e => by rw [e] at hl; simp at hl
  show (if last = true ∧ l = [] ∧ (dotO (T.extract 0 j)).isSome = true then _ else if grV (T.extract 0 j) < 0 then none else gsG last l ([] ++ [grV (T.extract 0 j)])) = _
  rw [if_neg (fun q => hne q.2.1)]
  split
  · rfl
  · rw [gsG_acc last l ([] ++ [grV (T.extract 0 j)])]
    rfl

theorem grp_on (T : ByteArray) (j : Nat) (hj : j ≤ T.size) (hend : j = T.size ∨ hexB (byteAt T j) = false) : ∀ f k v, k + f = 4 → k ≤ j → 0 ≤ v →
    ((j ≤ 4 ∧ 0 ≤ grG (T.extract 0 j) (j - k) k v → grpR T f k v = (grG (T.extract 0 j) (j - k) k v, (j : Int))) ∧ (¬ (j ≤ 4 ∧ 0 ≤ grG (T.extract 0 j) (j - k) k v) → ∃ z : Nat, (grpR T f k v).2 = z ∧ z < j)) := by
  intro f
  induction f with
  | zero =>
    intro k v hk hkj hv
    have e : grpR T 0 k v = (v, (k : Int)) := rfl
    rw [e]
    by_cases h : j = k
    · subst h
      rw [Nat.sub_self]
      exact ⟨fun _ => rfl, fun q => absurd ⟨by omega, hv⟩ q⟩
    · exact ⟨fun q => by omega, fun _ => ⟨k, rfl, by omega⟩⟩
  | succ f ih =>
    intro k v hk hkj hv
    by_cases h : j = k
    · subst h
      rw [Nat.sub_self]
      have hb : ¬ (j < T.size ∧ hexB (byteAt T j) = true) := by
        rcases hend with q | q
        · omega
        · rw [q]; simp
      have e : grpR T (f + 1) j v = (v, (j : Int)) := if_neg hb
      rw [e]
      exact ⟨fun _ => rfl, fun q => absurd ⟨by omega, hv⟩ q⟩
    · have hlt : k < j := by omega
      have e1 : byteAt (T.extract 0 j) k = byteAt T k := by rw [byteAt_sub T 0 j k hj, if_pos (by omega), Nat.zero_add]
      have ef : j - k = (j - (k + 1)) + 1 := by omega
      by_cases hx : hexB (byteAt T k) = true
      · have e2 : grpR T (f + 1) k v = grpR T f (k + 1) (16 * v + hexV (byteAt T k)) := if_pos ⟨by omega, hx⟩
        have e3 : grG (T.extract 0 j) (j - k) k v = grG (T.extract 0 j) (j - (k + 1)) (k + 1) (16 * v + hexV (byteAt T k)) := by
          rw [ef]
          have : grG (T.extract 0 j) ((j - (k + 1)) + 1) k v = grG (T.extract 0 j) (j - (k + 1)) (k + 1) (16 * v + hexV (byteAt (T.extract 0 j) k)) := if_pos (by rw [e1]; exact hx)
          rw [e1] at this; exact this
        rw [e2, e3]
        have := hexV_bd (byteAt T k)
        exact ih (k + 1) _ (by omega) (by omega) (by omega)
      · have e2 : grpR T (f + 1) k v = (v, (k : Int)) := if_neg (by simp [hx])
        have e3 : grG (T.extract 0 j) (j - k) k v = -1 := by rw [ef]; exact if_neg (by rw [e1]; exact hx)
        rw [e2, e3]
        exact ⟨fun q => by omega, fun _ => ⟨k, rfl, hlt⟩⟩
/-- What group tells of a text whose first piece ends at j. -/
theorem grp_piece (T : ByteArray) (j : Nat) (hj : j ≤ T.size) (hend : j = T.size ∨ hexB (byteAt T j) = false) :
    (0 ≤ grV (T.extract 0 j) → grpV T = grV (T.extract 0 j) ∧ grpN T = (j : Int) ∧ 1 ≤ j) ∧ (grV (T.extract 0 j) < 0 → ∃ z : Nat, grpN T = z ∧ (z < j ∨ z = 0)) := by
  have h := grp_on T j hj hend 4 0 0 (by omega) (by omega) (by omega)
  rw [Nat.sub_zero] at h
  unfold grpV grpN grV
  rw [size_sub T 0 j hj, Nat.sub_zero]
  by_cases h0 : j < 1 ∨ 4 < j
  · rw [if_pos h0]
    refine ⟨fun q => by omega, fun _ => ?_⟩
    by_cases hz : j = 0
    · have hb := grpR_bd T 4 0 0 (by omega) (by omega) (by omega) (by decide)
      subst hz
      have := h.1 ⟨by omega, by show (0 : Int) ≤ 0; omega⟩
      rw [this]
      exact ⟨0, rfl, Or.inr rfl⟩
    · obtain ⟨z, h1, h2⟩ := h.2 (by omega)
      exact ⟨z, h1, Or.inl h2⟩
  · rw [if_neg h0]
    refine ⟨fun q => ?_, fun q => ?_⟩
    · rw [h.1 ⟨by omega, q⟩]
      exact ⟨rfl, rfl, by omega⟩
    · obtain ⟨z, h1, h2⟩ := h.2 (by omega)
      exact ⟨z, h1, Or.inl h2⟩

theorem oct_hexG (q : ByteArray) : ∀ f k n m, 0 ≤ octG q f k n → 0 ≤ m → 0 ≤ grG q f k m := by
  intro f
  induction f with
  | zero => intro k n m _ h; exact h
  | succ f ih =>
    intro k n m h hm
    by_cases hd : 48 ≤ byteAt q k ∧ byteAt q k ≤ 57
    · have e : octG q (f + 1) k n = octG q f (k + 1) (10 * n + (byteAt q k - 48)) := if_pos hd
      rw [e] at h
      have hx : hexB (byteAt q k) = true := by unfold hexB; simp [hd.1, hd.2]
      have e2 : grG q (f + 1) k m = grG q f (k + 1) (16 * m + hexV (byteAt q k)) := if_pos hx
      rw [e2]
      have := hexV_bd (byteAt q k)
      exact ih _ _ _ h (by omega)
    · have e : octG q (f + 1) k n = -1 := if_neg hd
      rw [e] at h; omega
theorem oct_digG (q : ByteArray) : ∀ f k n, 0 ≤ octG q f k n → ∀ i, k ≤ i → i < k + f → 48 ≤ byteAt q i ∧ byteAt q i ≤ 57 := by
  intro f
  induction f with
  | zero => intro k n _ i h1 h2; omega
  | succ f ih =>
    intro k n h i h1 h2
    by_cases hd : 48 ≤ byteAt q k ∧ byteAt q k ≤ 57
    · have e : octG q (f + 1) k n = octG q f (k + 1) (10 * n + (byteAt q k - 48)) := if_pos hd
      rw [e] at h
      by_cases hi : i = k
      · subst hi; exact hd
      · exact ih _ _ h i (by omega) (by omega)
    · have e : octG q (f + 1) k n = -1 := if_neg hd
      rw [e] at h; omega
theorem oct_facts (q : ByteArray) (h : 0 ≤ octV q) : 1 ≤ q.size ∧ q.size ≤ 3 ∧ 0 ≤ octG q q.size 0 0 := by
  unfold octV at h
  split at h
  · omega
  · split at h
    · omega
    · omega
theorem oct_hex (q : ByteArray) (h : 0 ≤ octV q) : 0 ≤ grV q := by
  obtain ⟨h1, h2, h3⟩ := oct_facts q h
  unfold grV
  rw [if_neg (by omega)]
  exact oct_hexG q _ _ _ _ h3 (by omega)
theorem oct_dig (q : ByteArray) (h : 0 ≤ octV q) : ∀ i, i < q.size → 48 ≤ byteAt q i ∧ byteAt q i ≤ 57 := by
  obtain ⟨h1, h2, h3⟩ := oct_facts q h
  intro i hi
  exact oct_digG q _ _ _ h3 i (by omega) (by omega)
theorem dotO_pieces (T : ByteArray) (h : (dotO T).isSome = true) : (spl T 46 T.size 0 0).length = 4 ∧ ∀ q ∈ spl T 46 T.size 0 0, 0 ≤ octV q := by
  unfold dotO at h
  split at h
  · rename_i hl
    refine ⟨hl, ?_⟩
    apply Classical.byContradiction
    intro hn
    rw [dotG_not _ _ hn] at h; cases h
  · cases h
theorem no_colon (T : ByteArray) : ∀ n p, p ≤ T.size → T.size - p ≤ n → (∀ q ∈ spl T 46 (T.size - p) p p, 0 ≤ octV q) → ∀ k, p ≤ k → k < T.size → ¬ byteAt T k = 58 := by
  intro n
  induction n with
  | zero => intro p hp hn _ k h1 h2; omega
  | succ n ih =>
    intro p hp hn hall k h1 h2
    obtain ⟨j, hpj, hj, hno, hw⟩ := spl_next T 46 p hp
    have hpiece : 0 ≤ octV (T.extract p j) := by
      rcases hw with ⟨rfl, hs⟩ | ⟨_, _, hs⟩
      · exact hall _ (by rw [hs]; simp)
      · exact hall _ (by rw [hs]; simp)
    by_cases hkj : k < j
    · have := oct_dig _ hpiece (k - p) (by rw [size_sub T p j hj]; omega)
      rw [byteAt_sub T p j _ hj, if_pos (by omega), show p + (k - p) = k by omega] at this
      omega
    · rcases hw with ⟨rfl, hs⟩ | ⟨hlt, hc, hs⟩
      · omega
      · by_cases hkj2 : k = j
        · subst hkj2; omega
        · exact ih (j + 1) (by omega) (by omega) (fun q hq => hall q (by rw [hs]; exact List.mem_cons_of_mem _ hq)) k (by omega) h2
/-- A dotted text: its first number is read as a group, and a point follows it. -/
theorem dot_first (T : ByteArray) (h : (dotO T).isSome = true) : byteAt T (grpN T).toNat = 46 := by
  obtain ⟨hl, hall⟩ := dotO_pieces T h
  obtain ⟨j, hj, hno, hw⟩ := spl_first T 46
  rcases hw with ⟨rfl, hs⟩ | ⟨hlt, hc, hs⟩
  · rw [hs] at hl; simp at hl
  · have ho := hall (T.extract 0 j) (by rw [hs]; simp)
    have hg := oct_hex _ ho
    obtain ⟨-, h2, -⟩ := (grp_piece T j hj (Or.inr (by rw [hc]; decide))).1 hg
    rw [h2, Int.toNat_natCast]; exact hc
theorem dot_no_colon (T : ByteArray) (h : (dotO T).isSome = true) (k : Nat) (hk : k < T.size) : ¬ byteAt T k = 58 := by
  obtain ⟨hl, hall⟩ := dotO_pieces T h
  exact no_colon T T.size 0 (by omega) (by omega) (by rw [Nat.sub_zero]; exact hall) k (by omega) hk
end Go.Proofs.YtpchhfhdepkbcaaDoor
