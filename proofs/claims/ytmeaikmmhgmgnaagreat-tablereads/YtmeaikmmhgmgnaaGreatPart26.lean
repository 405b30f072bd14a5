/-
  Part 26 of the proof: 3 texts, one behind the other.
-/
import Derived.Test.YtmeaikmmhgmgnaaGreatPart25
import Derived.Test.YtmeaikmmhgmgnaaGreatPart4
import Derived.Lib.IndexBytes
/-
  Plain facts: pieces, groups and gaps of a text's end.
-/
namespace Go.Proofs.YtmeaikmmhgmgnaaGreat
open Go.RowKit
set_option linter.unusedSimpArgs false
set_option linter.unusedVariables false

theorem ext_ext (s : ByteArray) (a p j : Nat) (h : a + j ≤ s.size) : (s.extract a s.size).extract p j = s.extract (a + p) (a + j) := by
  rw [Lib.extract_eq, Lib.extract_to_end, Lib.extract_eq, List.drop_drop]
  congr 3
  omega
theorem ext_end (s : ByteArray) (a p : Nat) (h : a ≤ s.size) : (s.extract a s.size).extract p (s.extract a s.size).size = s.extract (a + p) s.size := by
  rw [size_sub s a s.size (Nat.le_refl _), ext_ext s a p (s.size - a) (by omega), show a + (s.size - a) = s.size by omega]
theorem ext_all (s : ByteArray) : s.extract 0 s.size = s := by
  rw [Lib.extract_eq, List.drop_zero, List.take_of_length_le (by rw [← Lib.size_eq]; omega)]

theorem spl_shift (t : ByteArray) (c : Int) (a : Nat) (ha : a ≤ t.size) : ∀ f p i, i + f = t.size - a → spl t c f (a + p) (a + i) = spl (t.extract a t.size) c f p i := by
  intro f
  induction f with
  | zero =>
    intro p i hi
    show [t.extract (a + p) t.size] = [(t.extract a t.size).extract p (t.extract a t.size).size]
    rw [ext_end t a p ha]
  | succ f ih =>
    intro p i hi
    show (if byteAt t (a + i) = c then t.extract (a + p) (a + i) :: spl t c f (a + i + 1) (a + i + 1) else spl t c f (a + p) (a + i + 1)) = (if byteAt (t.extract a t.size) i = c then (t.extract a t.size).extract p i :: spl (t.extract a t.size) c f (i + 1) (i + 1) else spl (t.extract a t.size) c f p (i + 1))
    rw [byteAt_ext, ext_ext t a p i (by omega), Nat.add_assoc, ih (i + 1) (i + 1) (by omega), ih p (i + 1) (by omega)]
theorem spl_tail (t : ByteArray) (c : Int) (a : Nat) (ha : a ≤ t.size) : spl t c (t.size - a) a a = spl (t.extract a t.size) c (t.extract a t.size).size 0 0 := by
  have := spl_shift t c a ha (t.size - a) 0 0 (by omega)
  rw [Nat.add_zero] at this
  rw [this, size_sub t a t.size (Nat.le_refl _)]
/-- The pieces of a text: the first one, and those of what is left. -/
theorem spl_first (t : ByteArray) (c : Int) :
    ∃ j, j ≤ t.size ∧ (∀ k, k < j → ¬ byteAt t k = c) ∧ ((j = t.size ∧ spl t c t.size 0 0 = [t]) ∨ (j < t.size ∧ byteAt t j = c ∧ spl t c t.size 0 0 = t.extract 0 j :: spl (t.extract (j + 1) t.size) c (t.extract (j + 1) t.size).size 0 0)) := by
  obtain ⟨j, -, h2, h3, h4⟩ := spl_next t c 0 (by omega)
  rw [Nat.sub_zero] at h4
  refine ⟨j, h2, fun k hk => h3 k (by omega) hk, ?_⟩
  rcases h4 with ⟨a, b⟩ | ⟨a, b, d⟩
  · left; rw [ext_all] at b; exact ⟨a, b⟩
  · right; rw [spl_tail t c (j + 1) (by omega)] at d; exact ⟨a, b, d⟩

theorem gsG_acc (last : Bool) : ∀ (l : List ByteArray) (acc : List Int), gsG last l acc = (gsG last l []).map (acc ++ ·) := by
  intro l
  induction l with
  | nil => intro acc; simp [gsG]
  | cons q l ih =>
    intro acc
    unfold gsG
    split
    · simp
    · split
      · rfl
      · rw [ih (acc ++ [grV q]), ih ([] ++ [grV q])]
        cases gsG last l [] <;> simp
/-- The groups of a text, its pieces taken. -/
def gsP (last : Bool) (T : ByteArray) : Option (List Int) := gsG last (spl T 58 T.size 0 0) []
theorem gsP_one (last : Bool) (T : ByteArray) (h : spl T 58 T.size 0 0 = [T]) : gsP last T = if last = true ∧ (dotO T).isSome = true then some [(dotO T).getD 0 / 65536, (dotO T).getD 0 % 65536] else if grV T < 0 then none else some [grV T] := by
  unfold gsP
  rw [h]
  show (if last = true ∧ ([] : List ByteArray) = [] ∧ (dotO T).isSome = true then some ([] ++ [(dotO T).getD 0 / 65536, (dotO T).getD 0 % 65536]) else if grV T < 0 then none else gsG last [] ([] ++ [grV T])) = _
  simp [gsG]
theorem gsP_more (last : Bool) (T : ByteArray) (j : Nat) (h : spl T 58 T.size 0 0 = T.extract 0 j :: spl (T.extract (j + 1) T.size) 58 (T.extract (j + 1) T.size).size 0 0) :
    gsP last T = if grV (T.extract 0 j) < 0 then none else (gsP last (T.extract (j + 1) T.size)).map (grV (T.extract 0 j) :: ·) := by
  unfold gsP
  rw [h]
  have hl := (spl_len (T.extract (j + 1) T.size) 58 (T.extract (j + 1) T.size).size 0 0).1
  generalize spl (T.extract (j + 1) T.size) 58 (T.extract (j + 1) T.size).size 0 0 = l at *
  have hne : ¬ l = [] := fun e => by rw [e] at hl; simp at hl
  show (if last = true ∧ l = [] ∧ (dotO (T.extract 0 j)).isSome = true then _ else if grV (T.extract 0 j) < 0 then none else gsG last l ([] ++ [grV (T.extract 0 j)])) = _
  rw [if_neg (fun q => hne q.2.1)]
  split
  · rfl
  · rw [gsG_acc last l ([] ++ [grV (T.extract 0 j)])]
    rfl

theorem grp_on (T : ByteArray) (j : Nat) (hj : j ≤ T.size) (hend : j = T.size ∨ hexB (byteAt T j) = false) : ∀ f k v, k + f = 4 → k ≤ j → 0 ≤ v →
    ((j ≤ 4 ∧ 0 ≤ grG (T.extract 0 j) (j - k) k v → grpR T f k v = (grG (T.extract 0 j) (j - k) k v, (j : Int))) ∧ (¬ (j ≤ 4 ∧ 0 ≤ grG (T.extract 0 j) (j - k) k v) → ∃ z : Nat, (grpR T f k v).2 = z ∧ z < j)) := by
  intro f
  induction f with
  | zero =>
    intro k v hk hkj hv
    have e : grpR T 0 k v = (v, (k : Int)) := rfl
    rw [e]
    by_cases h : j = k
    · subst h
      rw [Nat.sub_self]
      exact ⟨fun _ => rfl, fun q => absurd ⟨by omega, hv⟩ q⟩
    · exact ⟨fun q => by omega, fun _ => ⟨k, rfl, by omega⟩⟩
  | succ f ih =>
    intro k v hk hkj hv
    by_cases h : j = k
    · subst h
      rw [Nat.sub_self]
      have hb : ¬ (j < T.size ∧ hexB (byteAt T j) = true) := by
        rcases hend with q | q
        · omega
        · rw [q]; simp
      have e : grpR T (f + 1) j v = (v, (j : Int)) := if_neg hb
      rw [e]
      exact ⟨fun _ => rfl, fun q => absurd ⟨by omega, hv⟩ q⟩
    · have hlt : k < j := by omega
      have e1 : byteAt (T.extract 0 j) k = byteAt T k := by rw [byteAt_sub T 0 j k hj, if_pos (by omega), Nat.zero_add]
      have ef : j - k = (j - (k + 1)) + 1 := by omega
      by_cases hx : hexB (byteAt T k) = true
      · have e2 : grpR T (f + 1) k v = grpR T f (k + 1) (16 * v + hexV (byteAt T k)) := if_pos ⟨by omega, hx⟩
        have e3 : grG (T.extract 0 j) (j - k) k v = grG (T.extract 0 j) (j - (k + 1)) (k + 1) (16 * v + hexV (byteAt T k)) := by
          rw [ef]
          have : grG (T.extract 0 j) ((j - (k + 1)) + 1) k v = grG (T.extract 0 j) (j - (k + 1)) (k + 1) (16 * v + hexV (byteAt (T.extract 0 j) k)) := if_pos (by rw [e1]; exact hx)
          rw [e1] at this; exact this
        rw [e2, e3]
        have := hexV_bd (byteAt T k)
        exact ih (k + 1) _ (by omega) (by omega) (by omega)
      · have e2 : grpR T (f + 1) k v = (v, (k : Int)) := if_neg (by simp [hx])
        have e3 : grG (T.extract 0 j) (j - k) k v = -1 := by rw [ef]; exact if_neg (by rw [e1]; exact hx)
        rw [e2, e3]
        exact ⟨fun q => by omega, fun _ => ⟨k, rfl, hlt⟩⟩
/-- What group tells of a text whose first piece ends at j. -/
theorem grp_piece (T : ByteArray) (j : Nat) (hj : j ≤ T.size) (hend : j = T.size ∨ hexB (byteAt T j) = false) :
    (0 ≤ grV (T.extract 0 j) → grpV T = grV (T.extract 0 j) ∧ grpN T = (j : Int) ∧ 1 ≤ j) ∧ (grV (T.extract 0 j) < 0 → ∃ z : Nat, grpN T = z ∧ (z < j ∨ z = 0)) := by
  have h := grp_on T j hj hend 4 0 0 (by omega) (by omega) (by omega)
  rw [Nat.sub_zero] at h
  unfold grpV grpN grV
  rw [size_sub T 0 j hj, Nat.sub_zero]
  by_cases h0 : j < 1 ∨ 4 < j
  · rw [if_pos h0]
    refine ⟨fun q => by omega, fun _ => ?_⟩
    by_cases hz : j = 0
    · have hb := grpR_bd T 4 0 0 (by omega) (by omega) (by omega) (by decide)
      subst hz
      have := h.1 ⟨by omega, by show (0 : Int) ≤ 0; omega⟩
      rw [this]
      exact ⟨0, rfl, Or.inr rfl⟩
    · obtain ⟨z, h1, h2⟩ := h.2 (by omega)
      exact ⟨z, h1, Or.inl h2⟩
  · rw [if_neg h0]
    refine ⟨fun q => ?_, fun q => ?_⟩
    · rw [h.1 ⟨by omega, q⟩]
      exact ⟨rfl, rfl, by omega⟩
    · obtain ⟨z, h1, h2⟩ := h.2 (by omega)
      exact ⟨z, h1, Or.inl h2⟩

theorem oct_hexG (q : ByteArray) : ∀ f k n m, 0 ≤ octG q f k n → 0 ≤ m → 0 ≤ grG q f k m := by
  intro f
  induction f with
  | zero => intro k n m _ h; exact h
  | succ f ih =>
    intro k n m h hm
    by_cases hd : 48 ≤ byteAt q k ∧ byteAt q k ≤ 57
    · have e : octG q (f + 1) k n = octG q f (k + 1) (10 * n + (byteAt q k - 48)) := if_pos hd
      rw [e] at h
      have hx : hexB (byteAt q k) = true := by unfold hexB; simp [hd.1, hd.2]
      have e2 : grG q (f + 1) k m = grG q f (k + 1) (16 * m + hexV (byteAt q k)) := if_pos hx
      rw [e2]
      have := hexV_bd (byteAt q k)
      exact ih _ _ _ h (by omega)
    · have e : octG q (f + 1) k n = -1 := if_neg hd
      rw [e] at h; omega
theorem oct_digG (q : ByteArray) : ∀ f k n, 0 ≤ octG q f k n → ∀ i, k ≤ i → i < k + f → 48 ≤ byteAt q i ∧ byteAt q i ≤ 57 := by
  intro f
  induction f with
  | zero => intro k n _ i h1 h2; omega
  | succ f ih =>
    intro k n h i h1 h2
    by_cases hd : 48 ≤ byteAt q k ∧ byteAt q k ≤ 57
    · have e : octG q (f + 1) k n = octG q f (k + 1) (10 * n + (byteAt q k - 48)) := if_pos hd
      rw [e] at h
      by_cases hi : i = k
      · subst hi; exact hd
      · exact ih _ _ h i (by omega) (by omega)
    · have e : octG q (f + 1) k n = -1 := if_neg hd
      rw [e] at h; omega
theorem oct_facts (q : ByteArray) (h : 0 ≤ octV q) : 1 ≤ q.size ∧ q.size ≤ 3 ∧ 0 ≤ octG q q.size 0 0 := by
  unfold octV at h
  split at h
  · omega
  · split at h
    · omega
    · omega
theorem oct_hex (q : ByteArray) (h : 0 ≤ octV q) : 0 ≤ grV q := by
  obtain ⟨h1, h2, h3⟩ := oct_facts q h
  unfold grV
  rw [if_neg (by omega)]
  exact oct_hexG q _ _ _ _ h3 (by omega)
theorem oct_dig (q : ByteArray) (h : 0 ≤ octV q) : ∀ i, i < q.size → 48 ≤ byteAt q i ∧ byteAt q i ≤ 57 := by
  obtain ⟨h1, h2, h3⟩ := oct_facts q h
  intro i hi
  exact oct_digG q _ _ _ h3 i (by omega) (by omega)
theorem dotO_pieces (T : ByteArray) (h : (dotO T).isSome = true) : (spl T 46 T.size 0 0).length = 4 ∧ ∀ q ∈ spl T 46 T.size 0 0, 0 ≤ octV q := by
  unfold dotO at h
  split at h
  · rename_i hl
    refine ⟨hl, ?_⟩
    apply Classical.byContradiction
    intro hn
    rw [dotG_not _ _ hn] at h; cases h
  · cases h
theorem no_colon (T : ByteArray) : ∀ n p, p ≤ T.size → T.size - p ≤ n → (∀ q ∈ spl T 46 (T.size - p) p p, 0 ≤ octV q) → ∀ k, p ≤ k → k < T.size → ¬ byteAt T k = 58 := by
  intro n
  induction n with
  | zero => intro p hp hn _ k h1 h2; omega
  | succ n ih =>
    intro p hp hn hall k h1 h2
    obtain ⟨j, hpj, hj, hno, hw⟩ := spl_next T 46 p hp
    have hpiece : 0 ≤ octV (T.extract p j) := by
      rcases hw with ⟨rfl, hs⟩ | ⟨_, _, hs⟩
      · exact hall _ (by rw [hs]; simp)
      · exact hall _ (by rw [hs]; simp)
    by_cases hkj : k < j
    · have := oct_dig _ hpiece (k - p) (by rw [size_sub T p j hj]; omega)
      rw [byteAt_sub T p j _ hj, if_pos (by omega), show p + (k - p) = k by omega] at this
      omega
    · rcases hw with ⟨rfl, hs⟩ | ⟨hlt, hc, hs⟩
      · omega
      · by_cases hkj2 : k = j
        · subst hkj2; omega
        · exact ih (j + 1) (by omega) (by omega) (fun q hq => hall q (by rw [hs]; exact List.mem_cons_of_mem _ hq)) k (by omega) h2
/-- A dotted text: its first number is read as a group, and a point follows it. -/
theorem dot_first (T : ByteArray) (h : (dotO T).isSome = true) : byteAt T (grpN T).toNat = 46 := by
  obtain ⟨hl, hall⟩ := dotO_pieces T h
  obtain ⟨j, hj, hno, hw⟩ := spl_first T 46
  rcases hw with ⟨rfl, hs⟩ | ⟨hlt, hc, hs⟩
  · rw [hs] at hl; simp at hl
  · have ho := hall (T.extract 0 j) (by rw [hs]; simp)
    have hg := oct_hex _ ho
    obtain ⟨-, h2, -⟩ := (grp_piece T j hj (Or.inr (by rw [hc]; decide))).1 hg
    rw [h2, Int.toNat_natCast]; exact hc
theorem dot_no_colon (T : ByteArray) (h : (dotO T).isSome = true) (k : Nat) (hk : k < T.size) : ¬ byteAt T k = 58 := by
  obtain ⟨hl, hall⟩ := dotO_pieces T h
  exact no_colon T T.size 0 (by omega) (by omega) (by rw [Nat.sub_zero]; exact hall) k (by omega) hk
end Go.Proofs.YtmeaikmmhgmgnaaGreat
/-
  Plain facts: readSix behind a gap reads what the reference's groups read.
-/
namespace Go.Proofs.YtmeaikmmhgmgnaaGreat
open Go.RowKit
set_option linter.unusedSimpArgs false
set_option linter.unusedVariables false

theorem sixR_shift (s : ByteArray) (a : Nat) (ha : a ≤ s.size) : ∀ n b f c p, sixR s n (a + b) f c p = sixR (s.extract a s.size) n b f c p := by
  intro n
  induction n with
  | zero => intro b f c p; rfl
  | succ n ih =>
    intro b f c p
    have hT : (s.extract a s.size).size = s.size - a := size_sub s a s.size (Nat.le_refl _)
    have hE := ext_end s a b ha
    have hB : ∀ k, byteAt (s.extract a s.size) k = byteAt s (a + k) := fun k => byteAt_ext s a k
    have c1 : ((s.extract a s.size).size ≤ b) = (s.size ≤ a + b) := propext (by rw [hT]; omega)
    have c2 : ∀ z, (b + z = (s.extract a s.size).size) = (a + b + z = s.size) := fun z => propext (by rw [hT]; omega)
    have c3 : ∀ z, (1 < (s.extract a s.size).size - (b + z)) = (1 < s.size - (a + b + z)) := fun z => propext (by rw [hT]; omega)
    rw [sixR_succ, sixR_succ]
    rw [hE]
    generalize grpN (s.extract (a + b) s.size) = zz
    generalize grpV (s.extract (a + b) s.size) = v
    generalize fourB (s.extract (a + b) s.size) = fb
    generalize quadA (s.extract (a + b) s.size) = qa
    generalize quadB (s.extract (a + b) s.size) = qb
    simp only [hB, c1, c2, c3]
    rw [← ih (b + zz.toNat + 2), ← ih (b + zz.toNat + 1)]
    simp only [Nat.add_assoc]
theorem grpN_nn (T : ByteArray) : 0 ≤ grpN T := (grp_bd T).2.2.1
theorem sixR_fuel (s : ByteArray) : ∀ n m a f c p, s.size - a < n → s.size - a < m → sixR s n a f c p = sixR s m a f c p := by
  intro n
  induction n with
  | zero => intro m a f c p h; omega
  | succ n ih =>
    intro m a f c p hn hm
    obtain ⟨m, rfl⟩ : ∃ k, m = k + 1 := ⟨m - 1, by omega⟩
    rw [sixR_succ, sixR_succ]
    by_cases h0 : s.size ≤ a
    · rw [if_pos h0, if_pos h0]
    rw [if_neg h0, if_neg h0]
    by_cases h1 : byteAt s (a + (grpN (s.extract a s.size)).toNat) = 46
    · rw [if_pos h1, if_pos h1]
    rw [if_neg h1, if_neg h1]
    by_cases h2 : grpN (s.extract a s.size) = 0 ∨ c = 8
    · rw [if_pos h2, if_pos h2]
    rw [if_neg h2, if_neg h2]
    have hz : 1 ≤ (grpN (s.extract a s.size)).toNat := by
      have := grpN_nn (s.extract a s.size)
      omega
    rw [ih m (a + (grpN (s.extract a s.size)).toNat + 2) _ _ _ (by omega) (by omega), ih m (a + (grpN (s.extract a s.size)).toNat + 1) _ _ _ (by omega) (by omega)]

/-- A text read from its beginning, groups being there. -/
def SS (T : ByteArray) (f : Nat → Int) (c : Nat) (p : Int) : BitVec 128 × Bool := sixR T (T.size + 1) 0 f c p
def finP (f : Nat → Int) (c : Nat) (p : Int) : BitVec 128 × Bool := (finV f c p, finB c p)
def addL : (Nat → Int) → Nat → List Int → Nat → Int
  | f, _, [] => f
  | f, c, g :: gs => addL (upd f c g) (c + 1) gs
def outG (o : Option (List Int)) (f : Nat → Int) (c : Nat) (p : Int) : BitVec 128 × Bool := match o with
  | some gs => if c + gs.length ≤ 8 then finP (addL f c gs) (c + gs.length) p else (0#128, false)
  | none => (0#128, false)
theorem SS_tail (T : ByteArray) (a : Nat) (f : Nat → Int) (c : Nat) (p : Int) (h1 : 1 ≤ a) (h2 : a ≤ T.size) : sixR T T.size a f c p = SS (T.extract a T.size) f c p := by
  have h := sixR_shift T a h2 T.size 0 f c p
  rw [Nat.add_zero] at h
  rw [h]
  unfold SS
  have := size_sub T a T.size (Nat.le_refl _)
  exact sixR_fuel _ _ _ _ _ _ _ (by omega) (by omega)
theorem SS_step (T : ByteArray) (f : Nat → Int) (c : Nat) (p : Int) (z : Nat) (h : 0 < T.size) (hz : grpN T = z) :
    SS T f c p = if byteAt T z = 46 then (if fourB T = true ∧ c ≤ 6 then finP (upd (upd f c (quadA T)) (c + 1) (quadB T)) (c + 2) p else (0#128, false))
    else if z = 0 ∨ c = 8 then (0#128, false)
    else if z = T.size then finP (upd f c (grpV T)) (c + 1) p
    else if p = -1 ∧ byteAt T z = 58 ∧ byteAt T (z + 1) = 58 then SS (T.extract (z + 2) T.size) (upd f c (grpV T)) (c + 1) ((c : Int) + 1)
    else if 1 < T.size - z ∧ byteAt T z = 58 then SS (T.extract (z + 1) T.size) (upd f c (grpV T)) (c + 1) p
    else (0#128, false) := by
  conv => lhs; unfold SS
  rw [sixR_succ, if_neg (by omega), ext_all, hz, Int.toNat_natCast, Nat.zero_add]
  split
  · rfl
  · have e : ((z : Int) = 0 ∨ c = 8) = (z = 0 ∨ c = 8) := propext (by omega)
    simp only [e]
    split
    · rfl
    · split
      · rfl
      · split
        · rename_i hg
          have : z + 1 < T.size := by
            apply Classical.byContradiction; intro q
            rw [byteAt_end T (z + 1) (by omega)] at hg; omega
          exact SS_tail T (z + 2) _ _ _ (by omega) (by omega)
        · split
          · exact SS_tail T (z + 1) _ _ _ (by omega) (by omega)
          · rfl
theorem SS_nil (T : ByteArray) (f : Nat → Int) (c : Nat) (p : Int) (h : T.size = 0) : SS T f c p = finP f c p := by
  unfold SS
  rw [h, sixR_succ, if_pos (by omega)]; rfl

theorem quad_val (T : ByteArray) (u : Int) (h : dotO T = some u) : quadA T = u / 65536 ∧ quadB T = u % 65536 := by
  obtain ⟨u0, u1⟩ := dotO_bd T u h
  have hv := (four_eq T).2 u h
  obtain ⟨n, rfl⟩ := Int.eq_ofNat_of_zero_le u0
  have hn : (mkW ((n : Int) * 4294967296) 0).toNat = n * 79228162514264337593543950336 := by
    unfold mkW
    rw [BitVec.toNat_append, BitVec.toNat_ofInt, BitVec.toNat_ofInt]
    have e1 : ((n : Int) * 4294967296 % ((2 ^ 64 : Nat) : Int)).toNat = n * 4294967296 := by
      have : ((2 ^ 64 : Nat) : Int) = 18446744073709551616 := by decide
      rw [this]; omega
    rw [e1]
    simp [Nat.shiftLeft_eq]
    omega
  have lo : ∀ y : BitVec 128, y.toNat < 65536 → lI y = (y.toNat : Int) := by
    intro y hy
    unfold lI lv
    rw [BitVec.extractLsb'_toNat, Nat.shiftRight_zero, Nat.mod_eq_of_lt (by omega)]
  have a1 : ((fourV T <<< (16 * (0 : Int)).toNat) >>> (128 - (16 : Int)).toNat).toNat = n / 65536 := by
    rw [hv, show (16 * (0 : Int)).toNat = 0 by decide, show (128 - (16 : Int)).toNat = 112 by decide, BitVec.toNat_ushiftRight, BitVec.toNat_shiftLeft, hn, Nat.shiftLeft_zero, Nat.shiftRight_eq_div_pow]
    have e : (2 : Nat) ^ 112 = 5192296858534827628530496329220096 := by decide
    have e' : (2 : Nat) ^ 128 = 340282366920938463463374607431768211456 := by decide
    rw [e, e']; omega
  have a2 : ((fourV T <<< (16 * (1 : Int)).toNat) >>> (128 - (16 : Int)).toNat).toNat = n % 65536 := by
    rw [hv, show (16 * (1 : Int)).toNat = 16 by decide, show (128 - (16 : Int)).toNat = 112 by decide, BitVec.toNat_ushiftRight, BitVec.toNat_shiftLeft, hn, Nat.shiftLeft_eq, Nat.shiftRight_eq_div_pow]
    have e : (2 : Nat) ^ 112 = 5192296858534827628530496329220096 := by decide
    have e' : (2 : Nat) ^ 128 = 340282366920938463463374607431768211456 := by decide
    have e'' : (2 : Nat) ^ 16 = 65536 := by decide
    rw [e, e', e'']; omega
  unfold quadA quadB
  rw [lo _ (by rw [a1]; omega), lo _ (by rw [a2]; omega), a1, a2]
  omega

theorem gsP_empty (last : Bool) (T : ByteArray) (h : T.size = 0) : gsP last T = none := by
  have hs : spl T 58 T.size 0 0 = [T] := by
    rw [h]
    show [T.extract 0 T.size] = [T]
    rw [ext_all]
  have hd : (dotO T).isSome = false := by
    cases hx : (dotO T).isSome with
    | false => rfl
    | true =>
      have := dot_first T hx
      rw [byteAt_end T _ (by omega)] at this; omega
  rw [gsP_one last T hs, if_neg (by rw [hd]; simp)]
  rw [if_pos]
  unfold grV; rw [if_pos (Or.inl (by omega))]; omega
theorem outG_map (v : Int) (o : Option (List Int)) (f : Nat → Int) (c : Nat) (p : Int) : outG (o.map (v :: ·)) f c p = outG o (upd f c v) (c + 1) p := by
  cases o with
  | none => rfl
  | some gs =>
    show (if c + (gs.length + 1) ≤ 8 then finP (addL f c (v :: gs)) (c + (gs.length + 1)) p else (0#128, false)) = (if c + 1 + gs.length ≤ 8 then finP (addL (upd f c v) (c + 1) gs) (c + 1 + gs.length) p else (0#128, false))
    rw [show c + (gs.length + 1) = c + 1 + gs.length by omega]; rfl

/-- A text without a colon: one group, or the other family. -/
theorem last_piece (T : ByteArray) (f : Nat → Int) (c : Nat) (p : Int) (h0 : 0 < T.size) (hc : c ≤ 8) (hno : ∀ k, k < T.size → ¬ byteAt T k = 58) (hs : spl T 58 T.size 0 0 = [T]) : SS T f c p = outG (gsP true T) f c p := by
  obtain ⟨z, hz⟩ := Int.eq_ofNat_of_zero_le (grpN_nn T)
  have hgp := grp_piece T T.size (Nat.le_refl _) (Or.inl rfl)
  rw [ext_all] at hgp
  have hzn : ¬ byteAt T z = 58 := by
    by_cases q : z < T.size
    · exact hno z q
    · rw [byteAt_end T z (by omega)]; omega
  rw [SS_step T f c p z h0 hz, gsP_one true T hs]
  by_cases hd : byteAt T z = 46
  · rw [if_pos hd]
    cases hx : dotO T with
    | none =>
      have hf : fourB T = false := by rw [(four_eq T).1, hx]; rfl
      rw [hf, if_neg (by simp), if_neg (by simp)]
      have hg : grV T < 0 := by
        apply Classical.byContradiction; intro q
        have := (hgp.1 (by omega)).2.1
        have e : z = T.size := by omega
        rw [e, byteAt_end T T.size (Nat.le_refl _)] at hd; omega
      rw [if_pos hg]; rfl
    | some u =>
      have hf : fourB T = true := by rw [(four_eq T).1, hx]; rfl
      obtain ⟨q1, q2⟩ := quad_val T u hx
      rw [hf, if_pos (show true = true ∧ (some u).isSome = true from ⟨rfl, rfl⟩), q1, q2]
      show _ = (if c + 2 ≤ 8 then finP _ _ _ else _)
      by_cases h6 : c ≤ 6
      · rw [if_pos ⟨rfl, h6⟩, if_pos (by omega)]; rfl
      · rw [if_neg (by simp [h6]), if_neg (by omega)]
  · rw [if_neg hd]
    have hx : (dotO T).isSome = false := by
      cases hq : (dotO T).isSome with
      | false => rfl
      | true =>
        have := dot_first T hq
        rw [hz, Int.toNat_natCast] at this
        exact absurd this hd
    rw [hx, if_neg (show ¬ (true = true ∧ false = true) by simp)]
    by_cases hg : grV T < 0
    · rw [if_pos hg]
      split
      · rfl
      · rename_i h1
        obtain ⟨z', e1, e2⟩ := hgp.2 hg
        have : z' = z := by omega
        subst this
        rw [if_neg (by omega), if_neg (fun q => hzn q.2.1), if_neg (fun q => hzn q.2)]; rfl
    · rw [if_neg hg]
      obtain ⟨e1, e2, e3⟩ := hgp.1 (by omega)
      have hzT : z = T.size := by omega
      show _ = (if c + 1 ≤ 8 then finP _ _ _ else _)
      by_cases h8 : c = 8
      · rw [if_pos (Or.inr h8), if_neg (by omega)]
      · rw [if_neg (by omega), if_pos hzT, if_pos (by omega), e1]; rfl
/-- A first piece that is no group ends it. -/
theorem bad_piece (T : ByteArray) (f : Nat → Int) (c : Nat) (p : Int) (j : Nat) (hj : j < T.size) (hno : ∀ k, k < j → ¬ byteAt T k = 58) (hc : byteAt T j = 58) (hg : grV (T.extract 0 j) < 0) : SS T f c p = (0#128, false) := by
  obtain ⟨z, hz, hz2⟩ := (grp_piece T j (by omega) (Or.inr (by rw [hc]; decide))).2 hg
  rw [SS_step T f c p z (by omega) hz]
  by_cases hd : byteAt T z = 46
  · rw [if_pos hd]
    have hx : fourB T = false := by
      rw [(four_eq T).1]
      cases hq : (dotO T).isSome with
      | false => rfl
      | true => exact absurd hc (dot_no_colon T hq j hj)
    rw [hx, if_neg (by simp)]
  · rw [if_neg hd]
    split
    · rfl
    · rename_i h1
      have hzj : z < j := by omega
      rw [if_neg (by omega), if_neg (fun q => hno z hzj q.2.1), if_neg (fun q => hno z hzj q.2)]

theorem behind_gap : ∀ n (T : ByteArray) (f : Nat → Int) (c : Nat) (p : Int), T.size ≤ n → c ≤ 8 → ¬ p = -1 → 0 < T.size → SS T f c p = outG (gsP true T) f c p := by
  intro n
  induction n with
  | zero => intro T f c p h _ _ h0; omega
  | succ n ih =>
    intro T f c p hn hc hp h0
    obtain ⟨j, hj, hno, hw⟩ := spl_first T 58
    rcases hw with ⟨rfl, hs⟩ | ⟨hlt, hcol, hs⟩
    · exact last_piece T f c p h0 hc hno hs
    · rw [gsP_more true T j hs]
      by_cases hg : grV (T.extract 0 j) < 0
      · rw [if_pos hg, bad_piece T f c p j hlt hno hcol hg]; rfl
      · rw [if_neg hg]
        obtain ⟨e1, e2, e3⟩ := (grp_piece T j hj (Or.inr (by rw [hcol]; decide))).1 (by omega)
        rw [SS_step T f c p j h0 e2, if_neg (by rw [hcol]; omega), e1, outG_map]
        have hTs := size_sub T (j + 1) T.size (Nat.le_refl _)
        by_cases h8 : c = 8
        · rw [if_pos (Or.inr h8)]
          cases gsP true (T.extract (j + 1) T.size) with
          | none => rfl
          | some gs =>
            show _ = (if c + 1 + gs.length ≤ 8 then _ else _)
            rw [if_neg (by omega)]
        · rw [if_neg (by omega), if_neg (by omega), if_neg (fun q => hp q.1)]
          by_cases h1 : 1 < T.size - j
          · rw [if_pos ⟨h1, hcol⟩]
            exact ih _ _ _ _ (by omega) (by omega) hp (by omega)
          · rw [if_neg (fun q => h1 q.1), gsP_empty true _ (by omega)]; rfl
end Go.Proofs.YtmeaikmmhgmgnaaGreat
/-
  Plain facts: readSix ahead of a gap.
-/
namespace Go.Proofs.YtmeaikmmhgmgnaaGreat
open Go.RowKit
set_option linter.unusedSimpArgs false
set_option linter.unusedVariables false

def both (T : ByteArray) (k : Nat) : Prop := byteAt T k = 58 ∧ byteAt T (k + 1) = 58
theorem both_lt (T : ByteArray) (k : Nat) (h : both T k) : k + 1 < T.size := by
  apply Classical.byContradiction; intro q
  have := h.2
  rw [byteAt_end T (k + 1) (by omega)] at this; omega
theorem gapG_spec (T : ByteArray) : ∀ f i, T.size < i + f → (gapG T f i = -1 ∧ ∀ k, i ≤ k → ¬ both T k) ∨ (∃ k, i ≤ k ∧ gapG T f i = (k : Int) ∧ both T k ∧ ∀ m, i ≤ m → m < k → ¬ both T m) := by
  intro f
  induction f with
  | zero =>
    intro i h
    exact Or.inl ⟨rfl, fun k hk hb => by have := both_lt T k hb; omega⟩
  | succ f ih =>
    intro i h
    by_cases h1 : i + 1 < T.size
    · by_cases h2 : byteAt T i = 58 ∧ byteAt T (i + 1) = 58
      · right
        refine ⟨i, Nat.le_refl _, ?_, h2, fun m h3 h4 => by omega⟩
        show (if _ then _ else _) = _
        rw [if_pos h1, if_pos h2]
      · have e : gapG T (f + 1) i = gapG T f (i + 1) := by
          show (if _ then _ else _) = _
          rw [if_pos h1, if_neg h2]
        rw [e]
        rcases ih (i + 1) (by omega) with ⟨a, b⟩ | ⟨k, a, b, d, g⟩
        · left
          refine ⟨a, fun k hk => ?_⟩
          by_cases q : k = i
          · subst q; exact h2
          · exact b k (by omega)
        · right
          refine ⟨k, by omega, b, d, fun m hm1 hm2 => ?_⟩
          by_cases q : m = i
          · subst q; exact h2
          · exact g m (by omega) hm2
    · left
      exact ⟨if_neg h1, fun k hk hb => by have := both_lt T k hb; omega⟩
theorem gapV_spec (T : ByteArray) : (gapV T = -1 ∧ ∀ k, ¬ both T k) ∨ (∃ k : Nat, gapV T = (k : Int) ∧ both T k ∧ ∀ m, m < k → ¬ both T m) := by
  rcases gapG_spec T (T.size + 1) 0 (by omega) with ⟨a, b⟩ | ⟨k, -, b, d, g⟩
  · exact Or.inl ⟨a, fun k => b k (by omega)⟩
  · exact Or.inr ⟨k, b, d, fun m hm => g m (by omega) hm⟩
theorem gap_none (T : ByteArray) (hno : ∀ k, ¬ both T k) : gapV T = -1 := by
  rcases gapV_spec T with ⟨a, -⟩ | ⟨k, -, b, -⟩
  · exact a
  · exact absurd b (hno k)
theorem gap_at (T : ByteArray) (j : Nat) (hb : both T j) (hno : ∀ m, m < j → ¬ both T m) : gapV T = (j : Int) := by
  rcases gapV_spec T with ⟨-, b⟩ | ⟨k, a, b, d⟩
  · exact absurd hb (b j)
  · have : k = j := by
      rcases Nat.lt_trichotomy k j with h | h | h
      · exact absurd b (hno k h)
      · exact h
      · exact absurd hb (d j h)
    rw [a, this]
theorem both_shift (T : ByteArray) (a k : Nat) : both (T.extract a T.size) k ↔ both T (a + k) := by
  unfold both
  rw [byteAt_ext, byteAt_ext]; rfl
theorem gap_tail (T : ByteArray) (j : Nat) (hj : j < T.size) (hno : ∀ k, k < j → ¬ byteAt T k = 58) (hb : ¬ both T j) :
    (gapV (T.extract (j + 1) T.size) = -1 ∧ gapV T = -1) ∨ (∃ k : Nat, gapV (T.extract (j + 1) T.size) = (k : Int) ∧ gapV T = ((j + 1 + k : Nat) : Int)) := by
  have hlow : ∀ m, m < j + 1 → ¬ both T m := fun m hm q => by
    by_cases h : m = j
    · subst h; exact hb q
    · exact hno m (by omega) q.1
  rcases gapV_spec (T.extract (j + 1) T.size) with ⟨a, b⟩ | ⟨k, a, b, d⟩
  · left
    refine ⟨a, gap_none T (fun k q => ?_)⟩
    by_cases h : k < j + 1
    · exact hlow k h q
    · exact b (k - (j + 1)) ((both_shift T (j + 1) _).mpr (by rw [show j + 1 + (k - (j + 1)) = k by omega]; exact q))
  · right
    refine ⟨k, a, gap_at T (j + 1 + k) ((both_shift T (j + 1) k).mp b) (fun m hm q => ?_)⟩
    by_cases h : m < j + 1
    · exact hlow m h q
    · exact d (m - (j + 1)) (by omega) ((both_shift T (j + 1) _).mpr (by rw [show j + 1 + (m - (j + 1)) = m by omega]; exact q))

/-- The pieces of a text's beginning. -/
theorem pre_one (T : ByteArray) (j : Nat) (hj : j ≤ T.size) (hno : ∀ k, k < j → ¬ byteAt T k = 58) : spl (T.extract 0 j) 58 (T.extract 0 j).size 0 0 = [T.extract 0 j] := by
  obtain ⟨i, hi, -, hw⟩ := spl_first (T.extract 0 j) 58
  have hs := size_sub T 0 j hj
  rcases hw with ⟨-, h⟩ | ⟨hlt, hc, -⟩
  · exact h
  · exfalso
    rw [byteAt_sub T 0 j i hj, if_pos (by omega), Nat.zero_add] at hc
    exact hno i (by omega) hc
theorem pre_more (T : ByteArray) (j k : Nat) (hk : k ≤ T.size) (hjk : j < k) (hno : ∀ m, m < j → ¬ byteAt T m = 58) (hc : byteAt T j = 58) :
    spl (T.extract 0 k) 58 (T.extract 0 k).size 0 0 = (T.extract 0 k).extract 0 j :: spl ((T.extract 0 k).extract (j + 1) (T.extract 0 k).size) 58 ((T.extract 0 k).extract (j + 1) (T.extract 0 k).size).size 0 0 := by
  obtain ⟨i, hi, hn2, hw⟩ := spl_first (T.extract 0 k) 58
  have hs := size_sub T 0 k hk
  have hbj : byteAt (T.extract 0 k) j = 58 := by rw [byteAt_sub T 0 k j hk, if_pos (by omega), Nat.zero_add]; exact hc
  rcases hw with ⟨he, -⟩ | ⟨hlt, hci, h⟩
  · exact absurd hbj (hn2 j (by omega))
  · have : i = j := by
      rcases Nat.lt_trichotomy i j with q | q | q
      · exfalso
        rw [byteAt_sub T 0 k i hk, if_pos (by omega), Nat.zero_add] at hci
        exact hno i q hci
      · exact q
      · exact absurd hbj (hn2 j q)
    subst this
    exact h
theorem sub_sub (T : ByteArray) (a j k : Nat) (hk : k ≤ T.size) (hj : j ≤ k) : (T.extract 0 k).extract a j = T.extract a j := by
  rw [Lib.extract_eq, Lib.extract_data, Lib.extract_eq, List.drop_zero, Nat.sub_zero, List.drop_take, List.take_take]
  congr 3
  omega
theorem sub_tail (T : ByteArray) (a k : Nat) (h : a + k ≤ T.size) : (T.extract a T.size).extract 0 k = T.extract a (a + k) := by
  rw [ext_ext T a 0 k h, Nat.add_zero]

def gapRes (T : ByteArray) (f : Nat → Int) (c : Nat) : BitVec 128 × Bool :=
  if gapV T < 0 then outG (gsP true T) f c (-1) else
  match gsP false (T.extract 0 (gapV T).toNat) with
  | some ag => if c + ag.length ≤ 8 then SS (T.extract ((gapV T).toNat + 2) T.size) (addL f c ag) (c + ag.length) ((c + ag.length : Nat) : Int) else (0#128, false)
  | none => (0#128, false)
theorem gapRes_no (T : ByteArray) (f : Nat → Int) (c : Nat) (h : gapV T = -1) : gapRes T f c = outG (gsP true T) f c (-1) := by
  unfold gapRes; rw [h, if_pos (by omega)]
theorem gapRes_at (T : ByteArray) (f : Nat → Int) (c k : Nat) (h : gapV T = (k : Int)) : gapRes T f c = match gsP false (T.extract 0 k) with
  | some ag => if c + ag.length ≤ 8 then SS (T.extract (k + 2) T.size) (addL f c ag) (c + ag.length) ((c + ag.length : Nat) : Int) else (0#128, false)
  | none => (0#128, false) := by
  unfold gapRes; rw [h, if_neg (by omega), Int.toNat_natCast]
theorem outG_full (o : Option (List Int)) (f : Nat → Int) (p : Int) : outG o f 9 p = (0#128, false) := by
  cases o with
  | none => rfl
  | some gs =>
    show (if 9 + gs.length ≤ 8 then _ else _) = _
    rw [if_neg (by omega)]

theorem ahead_gap : ∀ n (T : ByteArray) (f : Nat → Int) (c : Nat), T.size ≤ n → 0 < T.size → c ≤ 8 → ¬ both T 0 → SS T f c (-1) = gapRes T f c := by
  intro n
  induction n with
  | zero => intro T f c h h0; omega
  | succ n ih =>
    intro T f c hn h0 hc hb0
    obtain ⟨j, hj, hno, hw⟩ := spl_first T 58
    rcases hw with ⟨rfl, hs⟩ | ⟨hlt, hcol, hs⟩
    · rw [gapRes_no T f c (gap_none T (fun k q => by
        have := both_lt T k q
        exact hno k (by omega) q.1))]
      exact last_piece T f c (-1) h0 hc hno hs
    · have hlow : ∀ m, m < j → ¬ both T m := fun m hm q => hno m hm q.1
      by_cases hg : grV (T.extract 0 j) < 0
      · rw [bad_piece T f c (-1) j hlt hno hcol hg]
        rcases gapV_spec T with ⟨a, -⟩ | ⟨k, a, b, d⟩
        · rw [gapRes_no T f c a, gsP_more true T j hs, if_pos hg]; rfl
        · rw [gapRes_at T f c k a]
          have hkj : j ≤ k := by
            apply Classical.byContradiction; intro q
            exact hno k (by omega) b.1
          have hk1 := both_lt T k b
          have : gsP false (T.extract 0 k) = none := by
            by_cases e : k = j
            · subst e
              rw [gsP_one false _ (pre_one T k hj hno), if_neg (by simp), if_pos hg]
            · rw [gsP_more false _ j (pre_more T j k (by omega) (by omega) hno hcol), sub_sub T 0 j k (by omega) (by omega), if_pos hg]
          rw [this]
      · obtain ⟨e1, e2, e3⟩ := (grp_piece T j hj (Or.inr (by rw [hcol]; decide))).1 (by omega)
        have hTs := size_sub T (j + 1) T.size (Nat.le_refl _)
        rw [SS_step T f c (-1) j h0 e2, if_neg (by rw [hcol]; omega), e1]
        by_cases hbj : both T j
        · have hgap := gap_at T j hbj hlow
          rw [gapRes_at T f c j hgap, gsP_one false _ (pre_one T j hj hno), if_neg (show ¬ (false = true ∧ _) by simp), if_neg hg]
          show _ = (if c + 1 ≤ 8 then _ else _)
          by_cases h8 : c = 8
          · rw [if_pos (Or.inr h8), if_neg (by omega)]
          · rw [if_neg (by omega), if_neg (by omega), if_pos ⟨rfl, hbj⟩, if_pos (by omega)]
            rfl
        · have key : gapRes T f c = gapRes (T.extract (j + 1) T.size) (upd f c (grV (T.extract 0 j))) (c + 1) := by
            rcases gap_tail T j hlt hno hbj with ⟨a, b⟩ | ⟨k, a, b⟩
            · rw [gapRes_no _ _ _ a, gapRes_no _ _ _ b, gsP_more true T j hs, if_neg hg, outG_map]
            · have hk1 : both T (j + 1 + k) := by
                rcases gapV_spec T with ⟨q, -⟩ | ⟨m, q, q2, -⟩
                · rw [q] at b; omega
                · have : m = j + 1 + k := by omega
                  subst this; exact q2
              have hk2 := both_lt T _ hk1
              rw [gapRes_at _ _ _ _ a, gapRes_at _ _ _ _ b, gsP_more false _ j (pre_more T j (j + 1 + k) (by omega) (by omega) hno hcol), sub_sub T 0 j _ (by omega) (by omega), if_neg hg, size_sub T 0 (j + 1 + k) (by omega), Nat.sub_zero, sub_sub T (j + 1) (j + 1 + k) _ (by omega) (by omega), sub_tail T (j + 1) k (by omega), ext_end T (j + 1) (k + 2) (by omega)]
              cases gsP false (T.extract (j + 1) (j + 1 + k)) with
              | none => rfl
              | some ag =>
                show (if c + (ag.length + 1) ≤ 8 then SS (T.extract (j + 1 + k + 2) T.size) (addL f c (grV (T.extract 0 j) :: ag)) (c + (ag.length + 1)) ((c + (ag.length + 1) : Nat) : Int) else (0#128, false)) = (if c + 1 + ag.length ≤ 8 then SS (T.extract (j + 1 + (k + 2)) T.size) (addL (upd f c (grV (T.extract 0 j))) (c + 1) ag) (c + 1 + ag.length) ((c + 1 + ag.length : Nat) : Int) else (0#128, false))
                rw [show c + (ag.length + 1) = c + 1 + ag.length by omega, show j + 1 + k + 2 = j + 1 + (k + 2) by omega]; rfl
          rw [key]
          by_cases h8 : c = 8
          · rw [if_pos (Or.inr h8)]
            subst h8
            rcases gapV_spec (T.extract (j + 1) T.size) with ⟨a, -⟩ | ⟨k, a, -, -⟩
            · rw [gapRes_no _ _ _ a, outG_full]
            · rw [gapRes_at _ _ _ _ a]
              cases gsP false ((T.extract (j + 1) T.size).extract 0 k) with
              | none => rfl
              | some ag =>
                show _ = (if 9 + ag.length ≤ 8 then _ else _)
                rw [if_neg (by omega)]
          · rw [if_neg (by omega), if_neg (by omega), if_neg (fun q => hbj q.2)]
            by_cases h1 : 1 < T.size - j
            · rw [if_pos ⟨h1, hcol⟩]
              refine ih _ _ _ (by omega) (by omega) (by omega) (fun q => ?_)
              have := (both_shift T (j + 1) 0).mp q
              exact hbj ⟨hcol, by have := this.1; rw [Nat.add_zero] at this; exact this⟩
            · rw [if_neg (fun q => h1 q.1), gapRes_no _ _ _ (gap_none _ (fun k q => by
                have := both_lt _ k q
                omega)), gsP_empty true _ (by omega)]
              rfl
end Go.Proofs.YtmeaikmmhgmgnaaGreat
