/-
  Part 7 of the proof: 4 texts, one behind the other.
-/
import Derived.Test.YtonagfmkplbooaaDoorPart3
import Derived.Test.YtonagfmkplbooaaDoorPart6
import Derived.Test.YtonagfmkplbooaaDoorPart4
import Derived.Test.YtonagfmkplbooaaDoorPart5
/-
  Right segments, as plain lists: two lists that say the same of each address are one.
-/
namespace Go.Proofs.YtonagfmkplbooaaDoor
set_option linter.unusedSimpArgs false
set_option linter.unusedVariables false

theorem sgE_zero (F : Int) (s : Sg) (h : sgE F s = 0) : rightE F s.1.1 = 0 ∧ rightE F s.1.2 = 0 ∧ 0 ≤ s.2 ∧ s.2 ≤ 65535 ∧ s.1.1.toNat ≤ s.1.2.toNat := by
  unfold sgE at h
  split at h
  · rename_i h1
    split at h
    · rename_i h2
      split at h
      · omega
      · rename_i h3
        split at h
        · omega
        · rename_i h4
          split at h
          · omega
          · rename_i h5
            rw [cmp_lt0] at h5
            exact ⟨h1, h2, by omega, by omega, by omega⟩
    · omega
  · omega
theorem sgE_of (F : Int) (s : Sg) (h1 : rightE F s.1.1 = 0) (h2 : rightE F s.1.2 = 0) (h3 : 0 ≤ s.2) (h4 : s.2 ≤ 65535) (h5 : s.1.1.toNat ≤ s.1.2.toNat) : sgE F s = 0 := by
  unfold sgE
  rw [if_pos h1, if_pos h2, if_neg (by omega), if_neg (by omega), if_neg (by rw [cmp_lt0]; omega)]
/-- What is known where no error is told of segments behind one. -/
theorem sgsGo_cons (F : Int) (p : Option Sg) (s : Sg) (l : List Sg) (h : sgsGo F p (s :: l) = 0) : sgE F s = 0 ∧ moO F p = true ∧ s.1.1 = nxO F p ∧ p.map (·.2) ≠ some s.2 ∧ sgsGo F (some s) l = 0 := by
  rw [sgsGo] at h
  split at h
  · rename_i h1
    split at h
    · rename_i h2
      split at h
      · rename_i h3
        split at h
        · omega
        · rename_i h4
          exact ⟨h1, h2, by simpa using h3, h4, h⟩
      · omega
    · omega
  · rename_i h1; exact absurd h h1
theorem sgsGo_step (F : Int) (p : Option Sg) (s : Sg) (l : List Sg) (h1 : sgE F s = 0) (h2 : moO F p = true) (h3 : s.1.1 = nxO F p) (h4 : p.map (·.2) ≠ some s.2) : sgsGo F p (s :: l) = sgsGo F (some s) l := by
  rw [sgsGo, if_pos h1, if_pos h2, if_pos (by simp [h3]), if_neg h4]
/-- Segments say of each address what f says. -/
def Says (F : Int) (f : BitVec 128 → Int) (l : List Sg) : Prop := ∀ s ∈ l, ∀ x : BitVec 128, rightE F x = 0 → s.1.1.toNat ≤ x.toNat → x.toNat ≤ s.1.2.toNat → s.2 = f x
theorem right_dvd (F : Int) (x : BitVec 128) (h : rightE F x = 0) : 2 ^ (128 - F.toNat) ∣ x.toNat := by
  obtain ⟨hf, hx⟩ := right0 F x h
  exact (cut_dvd x F).mp hx
theorem right_max (F : Int) (x : BitVec 128) (h : rightE F x = 0) : x.toNat ≤ (maskW F).toNat := by
  obtain ⟨hf, hx⟩ := right0 F x h
  rw [← hx, BitVec.and_comm, BitVec.toNat_and]
  exact Nat.and_le_left
theorem next_le (F : Int) (x y : BitVec 128) (hx : rightE F x = 0) (hy : rightE F y = 0) (h : x.toNat < y.toNat) : nextB F x = true ∧ (nextV F x).toNat ≤ y.toNat ∧ rightE F (nextV F x) = 0 ∧ x.toNat < (nextV F x).toNat := by
  have hb : nextB F x = true := by
    cases e : nextB F x with
    | true => rfl
    | false =>
      have := next_none F x hx e
      have h2 := right_max F y hy
      rw [this] at h
      omega
  obtain ⟨h1, hf, _, h3⟩ := next_nat F x hb
  obtain ⟨a, ha⟩ := right_dvd F x hx
  obtain ⟨b, hb'⟩ := right_dvd F y hy
  have hp : 0 < 2 ^ (128 - F.toNat) := Nat.two_pow_pos _
  refine ⟨hb, ?_, right_of F _ hf h3, by omega⟩
  rw [h1, ha, hb']
  rw [ha, hb'] at h
  have hab : a < b := Nat.lt_of_mul_lt_mul_left h
  calc 2 ^ (128 - F.toNat) * a + 2 ^ (128 - F.toNat) = 2 ^ (128 - F.toNat) * (a + 1) := by rw [Nat.mul_add, Nat.mul_one]
    _ ≤ _ := Nat.mul_le_mul_left _ hab
theorem segs_end (F : Int) (f : BitVec 128 → Int) (s t : Sg) (l m : List Sg) (hs : sgE F s = 0) (ht : sgE F t = 0) (h1 : s.1.1 = t.1.1) (hl : sgsGo F (some s) l = 0) (sl : Says F f (s :: l)) (st : Says F f (t :: m)) (hlt : s.1.2.toNat < t.1.2.toNat) : False := by
  obtain ⟨s1, s2, s3, s4, s5⟩ := sgE_zero F s hs
  obtain ⟨t1, t2, t3, t4, t5⟩ := sgE_zero F t ht
  obtain ⟨nb, nl, nr, ng⟩ := next_le F s.1.2 t.1.2 s2 t2 hlt
  cases l with
  | nil =>
    rw [sgsGo] at hl
    unfold moO at hl
    rw [if_pos nb] at hl
    omega
  | cons u l =>
    obtain ⟨u1, u2, u3, u4, u5⟩ := sgsGo_cons F (some s) u l hl
    obtain ⟨v1, v2, v3, v4, v5⟩ := sgE_zero F u u1
    have e : u.1.1 = nextV F s.1.2 := u3
    have a1 := sl u (by simp) (nextV F s.1.2) nr (by rw [e]; exact Nat.le_refl _) (by rw [← e]; exact v5)
    have a2 := st t (by simp) (nextV F s.1.2) nr (by rw [← h1]; omega) nl
    have a3 := sl s (by simp) s.1.1 s1 (Nat.le_refl _) s5
    have a4 := st t (by simp) s.1.1 s1 (by rw [h1]; exact Nat.le_refl _) (by rw [h1]; exact t5)
    apply u4
    simp [a1, ← a2, a4, a3]
theorem segs_unique (F : Int) (f : BitVec 128 → Int) : ∀ (l m : List Sg) (p q : Option Sg), sgsGo F p l = 0 → sgsGo F q m = 0 → moO F p = moO F q → nxO F p = nxO F q → Says F f l → Says F f m → l = m
  | [], [], _, _, _, _, _, _, _, _ => rfl
  | [], t :: m, p, q, h1, h2, h3, h4, h5, h6 => by
    obtain ⟨t1, t2, _⟩ := sgsGo_cons F q t m h2
    rw [sgsGo, h3, if_pos t2] at h1
    omega
  | s :: l, [], p, q, h1, h2, h3, h4, h5, h6 => by
    obtain ⟨t1, t2, _⟩ := sgsGo_cons F p s l h1
    rw [sgsGo, ← h3, if_pos t2] at h2
    omega
  | s :: l, t :: m, p, q, h1, h2, h3, h4, h5, h6 => by
    obtain ⟨s1, s2, s3, s4, s5⟩ := sgsGo_cons F p s l h1
    obtain ⟨t1, t2, t3, t4, t5⟩ := sgsGo_cons F q t m h2
    have e1 : s.1.1 = t.1.1 := by rw [s3, t3, h4]
    obtain ⟨a1, a2, a3, a4, a5⟩ := sgE_zero F s s1
    obtain ⟨b1, b2, b3, b4, b5⟩ := sgE_zero F t t1
    have e2 : s.2 = t.2 := by
      have x1 := h5 s (by simp) s.1.1 a1 (Nat.le_refl _) a5
      have x2 := h6 t (by simp) s.1.1 a1 (by rw [e1]; exact Nat.le_refl _) (by rw [e1]; exact b5)
      rw [x1, x2]
    have e3 : s.1.2 = t.1.2 := by
      apply BitVec.eq_of_toNat_eq
      rcases Nat.lt_trichotomy s.1.2.toNat t.1.2.toNat with h | h | h
      · exact absurd (segs_end F f s t l m s1 t1 e1 s5 h5 h6 h) id
      · exact h
      · exact absurd (segs_end F f t s m l t1 s1 e1.symm t5 h6 h5 h) id
    have e : s = t := by
      obtain ⟨⟨sx, sy⟩, sh⟩ := s
      obtain ⟨⟨tx, ty⟩, th⟩ := t
      simp only at e1 e2 e3
      subst e1; subst e2; subst e3; rfl
    subst e
    rw [segs_unique F f l m (some s) (some s) s5 t5 rfl rfl (fun u hu => h5 u (List.mem_cons_of_mem _ hu)) (fun u hu => h6 u (List.mem_cons_of_mem _ hu))]
/-- What is told so far is right, the last one first. -/
def Good (F : Int) : List Sg → Prop
  | [] => True
  | a :: st => sgE F a = 0 ∧ moO F st.head? = true ∧ a.1.1 = nxO F st.head? ∧ st.head?.map (·.2) ≠ some a.2 ∧ Good F st
theorem good_go (F : Int) : ∀ (st : List Sg) (rest : List Sg), Good F st → sgsGo F none (st.reverse ++ rest) = sgsGo F st.head? rest
  | [], rest, _ => rfl
  | a :: st, rest, h => by
    obtain ⟨h1, h2, h3, h4, h5⟩ := h
    rw [List.reverse_cons, List.append_assoc, List.singleton_append, good_go F st (a :: rest) h5, sgsGo_step F st.head? a rest h1 h2 h3 h4]
    rfl
end Go.Proofs.YtonagfmkplbooaaDoor
/-
  What the calls of package table's isHop, byPrefix, checkRoute and checkRoutes do.
-/
namespace Go.Proofs.YtonagfmkplbooaaDoor
open Go.RowKit
set_option linter.unusedSimpArgs false
set_option linter.unusedVariables false

/-- A route: its prefix, its next hop. -/
abbrev Rte := (BitVec 128 × Int) × Int
def AtR (w : World) (B : Nat) (x : BitVec 128) (n h : Int) : Prop := w.cell? ⟨B, 0, none⟩ = some (.int .u64 (hI x)) ∧ w.cell? ⟨B, 1, none⟩ = some (.int .u64 (lI x)) ∧ w.cell? ⟨B, 2, none⟩ = some (.int .i64 n) ∧ w.cell? ⟨B, 3, none⟩ = some (.int .i64 h)
theorem AtR.below {w w' : World} {B : Nat} {x : BitVec 128} {n h : Int} (g : AtR w B x n h) (hb : Below w.heap.size w w') : AtR w' B x n h := by
  obtain ⟨h0, h1, h2, h3⟩ := g
  exact ⟨keepc hb h0, keepc hb h1, keepc hb h2, keepc hb h3⟩
theorem atr_new (w : World) (B : Nat) (x : BitVec 128) (n h : Int) (T : TypeId) (e : B = w.heap.size) : AtR (w.alloc (.cells #[.int .u64 (hI x), .int .u64 (lI x), .int .i64 n, .int .i64 h] T)) B x n h := by
  subst e
  refine ⟨?_, ?_, ?_, ?_⟩ <;> simp [go_sem]
/-- A row of routes. -/
def rowR : List Rte → List Value
  | [] => []
  | r :: l => .int .u64 (hI r.1.1) :: .int .u64 (lI r.1.1) :: .int .i64 r.1.2 :: .int .i64 r.2 :: rowR l
theorem rowR_get : ∀ (l : List Rte) (j : Nat) (hj : j < l.length), (rowR l)[j * 4]? = some (.int .u64 (hI l[j].1.1)) ∧ (rowR l)[j * 4 + 1]? = some (.int .u64 (lI l[j].1.1)) ∧ (rowR l)[j * 4 + 2]? = some (.int .i64 l[j].1.2) ∧ (rowR l)[j * 4 + 3]? = some (.int .i64 l[j].2) := by
  intro l
  induction l with
  | nil => intro j hj; simp at hj
  | cons p l ih =>
    intro j hj
    cases j with
    | zero => simp [rowR]
    | succ j =>
      have := ih j (by simpa using hj)
      rw [show (j + 1) * 4 = j * 4 + 4 by omega, show j * 4 + 4 + 1 = j * 4 + 1 + 4 by omega, show j * 4 + 4 + 2 = j * 4 + 2 + 4 by omega, show j * 4 + 4 + 3 = j * 4 + 3 + 4 by omega]
      simpa [rowR] using this
/-- A list of routes in memory, whosever it is. -/
def RwR (W : World) (v : Value) (l : List Rte) : Prop := ∃ ao c, v = .slice ao l.length c ∧ (l = [] ∨ ∃ b off, ao = some ⟨b, off, none⟩ ∧ ∀ j u, (rowR l)[j]? = some u → W.cell? ⟨b, off + j, none⟩ = some u)
theorem RwR.below {W W' : World} {v : Value} {l : List Rte} (h : RwR W v l) (hb : Below W.heap.size W W') : RwR W' v l := by
  obtain ⟨ao, c, e, h⟩ := h
  refine ⟨ao, c, e, h.imp id ?_⟩
  rintro ⟨b, off, e', hc⟩
  exact ⟨b, off, e', fun j u hj => keepc hb (hc j u hj)⟩
theorem rwr_cells {W : World} {b off : Nat} {l : List Rte} (h : ∀ j u, (rowR l)[j]? = some u → W.cell? ⟨b, off + j, none⟩ = some u) (k : Nat) (hk : k < l.length) :
    W.cell? ⟨b, off + k * 4, none⟩ = some (.int .u64 (hI l[k].1.1)) ∧ W.cell? ⟨b, off + k * 4 + 1, none⟩ = some (.int .u64 (lI l[k].1.1)) ∧ W.cell? ⟨b, off + k * 4 + 2, none⟩ = some (.int .i64 l[k].1.2) ∧ W.cell? ⟨b, off + k * 4 + 3, none⟩ = some (.int .i64 l[k].2) := by
  obtain ⟨a, c, d, e⟩ := rowR_get l k hk
  exact ⟨h _ _ a, h _ _ c, h _ _ d, h _ _ e⟩
def hopB (n : Int) : Bool := decide (1 ≤ n) && decide (n ≤ 65535)
theorem isHop_any (n : Int) (w : World) : Calls Tryd.prog 83 #[.int .i64 n] w fun e w' => e = .returned (.bool (hopB n)) ∧ w' = w := by
  unfold hopB
  go_enter Tryd.func83, Tryd.ntmps83
  by_cases h1 : 1 ≤ n
  · by_cases h2 : n ≤ 65535
    · go_wp2
      go_ret
      exact ⟨by simp [h1, h2], rfl⟩
    · go_wp2
      go_ret
      exact ⟨by simp [h1, h2], rfl⟩
  · go_wp2
    go_ret
    exact ⟨by rw [decide_eq_false (by omega : ¬ 1 ≤ n)]; rfl, rfl⟩
theorem hidR {p : Prop} (h : p) : Hid p := h
theorem byPrefix_any (x : BitVec 128) (n h : Int) (y : BitVec 128) (m g : Int) (w : World) :
    Calls Tryd.prog 54 #[.agg #[.int .u64 (hI x), .int .u64 (lI x), .int .i64 n, .int .i64 h], .agg #[.int .u64 (hI y), .int .u64 (lI y), .int .i64 m, .int .i64 g]] w fun e w' => e = .returned (.int .i64 (pcmpZ x n y m)) ∧ Below w.heap.size w w' := by
  have KC := fun w => pcmp_any x n y m w
  generalize pcmpZ x n y m = z at *
  have A1 := atr_new w w.heap.size x n h 50 rfl
  have b1 := bl1 w (.cells #[.int .u64 (hI x), .int .u64 (lI x), .int .i64 n, .int .i64 h] 50)
  have b2 := bl1 (w.alloc (.cells #[.int .u64 (hI x), .int .u64 (lI x), .int .i64 n, .int .i64 h] 50)) (.cells #[.int .u64 (hI y), .int .u64 (lI y), .int .i64 m, .int .i64 g] 50)
  obtain ⟨p0, p1, p2, -⟩ := A1.below b2
  obtain ⟨q0, q1, q2, -⟩ := atr_new (w.alloc (.cells #[.int .u64 (hI x), .int .u64 (lI x), .int .i64 n, .int .i64 h] 50)) (w.heap.size + 1) y m g 50 (by simp)
  have HB := hidR (keepb b2 b1)
  clear A1 b1 b2
  go_enter Tryd.func54, Tryd.ntmps54
  go_wp2_with fail
  refine (KC _).mono ?_
  rintro e w1 ⟨rfl, hb⟩
  have kB := keepb hb HB.out
  clear KC hb HB p0 p1 p2 q0 q1 q2
  go_wp2
  go_ret
  exact ⟨rfl, kB⟩
/-- The error of one route. -/
def rteE (F : Int) (r : Rte) : Int := if checkE F r.1.1 r.1.2 = 0 then (if hopB r.2 = true then 0 else 15) else checkE F r.1.1 r.1.2
set_option maxHeartbeats 2000000 in
theorem checkRoute_any (F : Int) (x : BitVec 128) (n h : Int) (w : World) :
    Calls Tryd.prog 70 #[.int .i64 F, .agg #[.int .u64 (hI x), .int .u64 (lI x), .int .i64 n, .int .i64 h]] w fun e w' => e = .returned (.int .i64 (rteE F ((x, n), h))) ∧ Below w.heap.size w w' := by
  have KC := fun w => pcheck_any F x n w
  have KH := fun w => isHop_any h w
  unfold rteE
  dsimp only
  revert KC KH
  generalize checkE F x n = ce
  generalize hopB h = hp
  intro KC KH
  obtain ⟨p0, p1, p2, p3⟩ := atr_new w w.heap.size x n h 50 rfl
  have A1 := hidR (atr_new w w.heap.size x n h 50 rfl)
  have b1 := hidR (bl1 w (.cells #[.int .u64 (hI x), .int .u64 (lI x), .int .i64 n, .int .i64 h] 50))
  go_enter Tryd.func70, Tryd.ntmps70
  go_wp2_with fail
  refine (KC _).mono ?_
  rintro e w1 ⟨rfl, hb⟩
  have kB := keepb hb b1.out
  obtain ⟨q0, q1, q2, q3⟩ := A1.out.below hb
  clear KC hb A1 b1 p0 p1 p2 p3
  by_cases hc : ce = 0
  · subst hc
    go_wp2_with fail
    refine (KH _).mono ?_
    rintro e w2 ⟨rfl, rfl⟩
    clear KH q0 q1 q2 q3
    cases hp
    · go_wp2
      go_ret
      exact ⟨by simp, kB⟩
    · go_wp2
      go_ret
      exact ⟨by simp, kB⟩
  · have hn : (ce != 0) = true := by simp [hc]
    go_wp2
    go_ret
    exact ⟨by first | rfl | rw [if_neg hc], kB⟩
/-- The first error of a list of routes. -/
def rtsG (F : Int) : List Rte → Int
  | [] => 0
  | r :: l => if rteE F r = 0 then rtsG F l else rteE F r
def rtsE (F : Int) (l : List Rte) : Int := if fam F = true then (if 1048576 < l.length then 16 else rtsG F l) else 11
theorem rts_drop (F : Int) (l : List Rte) (k : Nat) (hk : k < l.length) : rtsG F (l.drop k) = if rteE F l[k] = 0 then rtsG F (l.drop (k + 1)) else rteE F l[k] := by
  rw [List.drop_eq_getElem_cons hk]
  rfl
set_option maxHeartbeats 2000000 in
theorem checkRoutes_any (F : Int) (v : Value) (l : List Rte) (w : World) (hv : RwR w v l) :
    Calls Tryd.prog 53 #[.int .i64 F, v] w fun e w' => e = .returned (.int .i64 (rtsE F l)) ∧ Below w.heap.size w w' := by
  obtain ⟨ao, c, rfl, hv⟩ := hv
  have KL := fun w => alast_any F w
  unfold lastV lastE at KL
  unfold rtsE
  cases hf : fam F
  · rw [hf, if_neg (by simp), if_neg (by simp), hI_zero, lI_zero] at KL
    rw [if_neg (by simp)]
    clear hf hv
    go_enter Tryd.func53, Tryd.ntmps53
    go_wp2_with fail
    refine (KL _).mono ?_
    rintro e w1 ⟨rfl, hb⟩
    clear KL
    go_wp2
    go_ret
    exact ⟨rfl, hb.alloc hb.size _⟩
  · rw [hf, if_pos rfl, if_pos rfl] at KL
    rw [if_pos rfl]
    have HV := hidR hv
    clear hf hv
    generalize maskW F = mk at *
    by_cases hl : 1048576 < l.length
    · rw [if_pos hl]
      have h1 : (1048576 : Int) < (l.length : Int) := by omega
      go_enter Tryd.func53, Tryd.ntmps53
      go_wp2_with fail
      refine (KL _).mono ?_
      rintro e w1 ⟨rfl, hb⟩
      clear KL
      go_wp2
      go_ret
      exact ⟨rfl, hb.alloc hb.size _⟩
    · rw [if_neg hl]
      have h1 : ¬ (1048576 : Int) < (l.length : Int) := by omega
      go_enter Tryd.func53, Tryd.ntmps53
      go_wp2_with fail
      refine (KL _).mono ?_
      rintro e w1 ⟨rfl, hb⟩
      have kB := hb.alloc hb.size (.cells #[.int .u64 (hI mk), .int .u64 (lI mk)] 27)
      clear KL hb
      go_wp2_with fail
      go_loopw [23] (fun i wr => ∃ k : Nat, k ≤ l.length ∧ i = .int .i64 k ∧ Hid (rtsG F (l.drop k) = rtsG F l) ∧ Below w.heap.size w wr) (fun i _ => l.length - (intOf i).toNat)
      case atStart => exact ⟨0, by omega, rfl, (rfl : rtsG F (l.drop 0) = rtsG F l), kB⟩
      case round =>
        clear kB
        obtain ⟨k, hk, rfl, hG, hB⟩ := hrel
        by_cases hlt : (k : Int) < (l.length : Int)
        · have hks : k < l.length := by omega
          rcases HV.out with h | ⟨b, off, rfl, hc⟩
          · rw [h] at hks; simp at hks
          · obtain ⟨x0, x1, x2, x3⟩ := rwr_cells hc k hks
            have x0 := keepc hB x0
            have x1 := keepc hB x1
            have x2 := keepc hB x2
            have x3 := keepc hB x3
            have KC := fun w => checkRoute_any F l[k].1.1 l[k].1.2 l[k].2 w
            have HD := hidR (rts_drop F l k hks)
            have eR : ((l[k].1.1, l[k].1.2), l[k].2) = l[k] := rfl
            rw [eR] at KC
            clear hc HV eR
            revert KC HD
            generalize rteE F l[k] = ce
            generalize l[k].1.1 = px at *
            generalize l[k].1.2 = pn at *
            generalize l[k].2 = ph at *
            intro KC HD
            have P0 := atr_new wr wr.heap.size px pn ph 50 rfl
            obtain ⟨p0, p1, p2, p3⟩ := id P0
            go_wp2_with fail
            refine (KC _).mono ?_
            rintro e w2 ⟨rfl, hb⟩
            have kB2 := keepb hb (hB.alloc hB.size (.cells #[.int .u64 (hI px), .int .u64 (lI px), .int .i64 pn, .int .i64 ph] 50))
            clear hb KC x0 x1 x2 x3 p0 p1 p2 p3 P0
            by_cases hce : ce = 0
            · subst hce
              have hk2 : IntKind.i64.wrap ((k : Int) + 1) = (k : Int) + 1 := by rw [IntKind.wrap_i64]; omega
              go_wp2
              go_roundw
              case rel =>
                refine ⟨k + 1, by omega, by simp, ?_, kB2⟩
                show rtsG F (l.drop (k + 1)) = rtsG F l
                rw [← hG.out, HD.out]; simp
              case measure => simp [intOf]; omega
            · have hn : (ce != 0) = true := by simp [hce]
              have HE : Hid (rtsG F l = ce) := by show _ = _; rw [← hG.out, HD.out, if_neg hce]
              go_wp2
              go_ret
              exact ⟨by rw [HE.out]; rfl, kB2⟩
        · have hd : decide ((k : Int) < (l.length : Int)) = false := by simpa using hlt
          have HE : Hid (rtsG F l = 0) := by
            show _ = _
            rw [← hG.out, List.drop_eq_nil_of_le (by omega)]; rfl
          go_wp2
          go_ret
          exact ⟨by rw [HE.out]; rfl, hB⟩
end Go.Proofs.YtonagfmkplbooaaDoor
/-
  What a sweep through a table's routes tells, as a plain function.
-/
namespace Go.Proofs.YtonagfmkplbooaaDoor
set_option linter.unusedSimpArgs false
set_option linter.unusedVariables false

/-- A segment behind those that are told; the last one stands first. -/
def behS : List Sg → Sg → List Sg
  | [], s => [s]
  | a :: st, s => if a.2 = s.2 then ((a.1.1, s.1.2), a.2) :: st else s :: a :: st
/-- The first address of which nothing is told, whether there is none, what is told. -/
abbrev T3 := BitVec 128 × Bool × List Sg
def tell3 (F : Int) (la : BitVec 128) (h : Int) (t : T3) : T3 := if t.2.1 = true then t else if cmpZ la t.1 < 0 then t else (nextV F la, !nextB F la, behS t.2.2 ((t.1, la), h))
def popO (r : Rte) : List Rte → List Rte
  | [] => []
  | o :: os => if withinB r.1.1 r.1.2 o.1.1 o.1.2 = true then o :: os else popO r os
def popT (F : Int) (r : Rte) : List Rte → T3 → T3
  | [], t => t
  | o :: os, t => if withinB r.1.1 r.1.2 o.1.1 o.1.2 = true then t else popT F r os (tell3 F (lastW F o.1.1 o.1.2) o.2 t)
def entT (F : Int) (r : Rte) (h : Int) (t : T3) : T3 := if prevB F r.1.1 = true then tell3 F (prevV F r.1.1) h t else t
def endT (F : Int) : List Rte → T3 → T3
  | [], t => t
  | o :: os, t => endT F os (tell3 F (lastW F o.1.1 o.1.2) o.2 t)
def hopO : List Rte → Int
  | [] => 0
  | o :: _ => o.2
def swpGo (F : Int) : List Rte → T3 → List Rte → T3
  | op, t, [] => endT F op t
  | op, t, r :: l => swpGo F (r :: popO r op) (entT F r (hopO (popO r op)) (popT F r op t)) l
def op0 : List Rte := [((0#128, 0), 0)]
def t30 : T3 := (0#128, false, [])
def swp (F : Int) (l : List Rte) : List Sg := (swpGo F op0 t30 l).2.2.reverse
/-- The list of open routes ends with the one that has all addresses. -/
def Bot (op : List Rte) : Prop := ∃ os, op = os ++ op0
theorem Bot.ne {op : List Rte} (h : Bot op) : op ≠ [] := by obtain ⟨os, rfl⟩ := h; simp [op0]
theorem Bot.tl {o : Rte} {os : List Rte} (h : Bot (o :: os)) (r : Rte) (hr : 0 ≤ r.1.2) (hw : ¬ withinB r.1.1 r.1.2 o.1.1 o.1.2 = true) : Bot os := by
  obtain ⟨l, e⟩ := h
  cases l with
  | nil =>
    exfalso
    have e : o = ((0#128, 0), 0) := by have := List.cons.inj e; exact this.1
    subst e
    apply hw
    unfold withinB
    simp [hr, cutW, show maskW 0 = 0#128 by decide]
  | cons a l =>
    have := List.cons.inj e
    exact ⟨l, this.2⟩
theorem Bot.pop (r : Rte) (hr : 0 ≤ r.1.2) : ∀ op : List Rte, Bot op → Bot (popO r op)
  | [], h => h
  | o :: os, h => by
    rw [popO]
    split
    · exact h
    · rename_i hw; exact Bot.pop r hr os (h.tl r hr hw)
theorem behS_len (st : List Sg) (s : Sg) : (behS st s).length ≤ st.length + 1 := by
  cases st with
  | nil => simp [behS]
  | cons a st => simp only [behS]; split <;> simp
theorem tell3_len (F : Int) (la : BitVec 128) (h : Int) (t : T3) : (tell3 F la h t).2.2.length ≤ t.2.2.length + 1 := by
  unfold tell3
  split
  · omega
  · split
    · omega
    · exact behS_len _ _
theorem popT_len (F : Int) (r : Rte) : ∀ (op : List Rte) (t : T3), (popT F r op t).2.2.length + (popO r op).length ≤ t.2.2.length + op.length
  | [], t => by simp [popT, popO]
  | o :: os, t => by
    rw [popT, popO]
    split
    · simp
    · have h1 := popT_len F r os (tell3 F (lastW F o.1.1 o.1.2) o.2 t)
      have h2 := tell3_len F (lastW F o.1.1 o.1.2) o.2 t
      simp only [List.length_cons]
      omega
theorem entT_len (F : Int) (r : Rte) (h : Int) (t : T3) : (entT F r h t).2.2.length ≤ t.2.2.length + 1 := by
  unfold entT
  split
  · exact tell3_len _ _ _ _
  · omega
end Go.Proofs.YtonagfmkplbooaaDoor
/-
  A sweep through a table's routes tells the right segments that say where each address goes.
-/
namespace Go.Proofs.YtonagfmkplbooaaDoor
set_option linter.unusedSimpArgs false
set_option linter.unusedVariables false

/-- Whether a route has an address. -/
def hasR (o : Rte) (x : BitVec 128) : Bool := cutW x o.1.2 == o.1.1
/-- The next hop of the last route that has an address. -/
def look (x : BitVec 128) : Int → List Rte → Int
  | a, [] => a
  | a, r :: l => look x (if hasR r x = true then r.2 else a) l
theorem look_app (x : BitVec 128) : ∀ (l m : List Rte) (a : Int), look x a (l ++ m) = look x (look x a l) m
  | [], m, a => rfl
  | r :: l, m, a => by rw [List.cons_append, look, look, look_app x l m]
theorem look_none (x : BitVec 128) : ∀ (l : List Rte) (a : Int), (∀ r ∈ l, hasR r x = false) → look x a l = a
  | [], a, _ => rfl
  | r :: l, a, h => by
    rw [look, if_neg (by rw [h r (by simp)]; decide), look_none x l a (fun r hr => h r (List.mem_cons_of_mem _ hr))]
def oh (x : BitVec 128) : List Rte → Int
  | [] => 0
  | o :: os => if hasR o x = true then o.2 else oh x os
/-- A right route of a family, or the one that has all addresses. -/
def Ro (F : Int) (o : Rte) : Prop := Rt F o.1.1 o.1.2 ∧ 0 ≤ o.2 ∧ o.2 ≤ 65535
structure Tol (F : Int) (f : BitVec 128 → Int) (t : T3) : Prop where
  good : Good F t.2.2
  mo : moO F t.2.2.head? = !t.2.1
  nx : t.2.1 = false → nxO F t.2.2.head? = t.1 ∧ rightE F t.1 = 0
  says : Says F f t.2.2
theorem tell_ok (F : Int) (f : BitVec 128 → Int) (la : BitVec 128) (h : Int) (t : T3) (hT : Tol F f t) (hr : rightE F la = 0) (h0 : 0 ≤ h) (h1 : h ≤ 65535)
    (hs : t.2.1 = false → ∀ x, rightE F x = 0 → t.1.toNat ≤ x.toNat → x.toNat ≤ la.toNat → h = f x) : Tol F f (tell3 F la h t) := by
  unfold tell3
  by_cases he : t.2.1 = true
  · rw [if_pos he]; exact hT
  · rw [if_neg he]
    have he : t.2.1 = false := by simpa using he
    by_cases hc : cmpZ la t.1 < 0
    · rw [if_pos hc]; exact hT
    · rw [if_neg hc]
      rw [cmp_lt0] at hc
      obtain ⟨n1, n2⟩ := hT.nx he
      have hm := hT.mo
      rw [he] at hm
      have hs2 := hs he
      clear hs
      have hnr : nextB F la = true → rightE F (nextV F la) = 0 := fun hb => by
        obtain ⟨_, hf, _, h3⟩ := next_nat F la hb
        exact right_of F _ hf h3
      obtain ⟨nx, en, st⟩ := t
      simp only at n1 n2 hm hs2 hc he
      cases st with
      | nil =>
        refine ⟨⟨sgE_of F _ n2 hr h0 h1 (by simpa using hc), rfl, n1.symm, by simp, trivial⟩, ?_, ?_, ?_⟩
        · simp [behS, moO]
        · intro hb
          simp only [Bool.not_eq_false'] at hb
          exact ⟨rfl, hnr hb⟩
        · intro s hs' x hx h3 h4
          simp only [behS, List.mem_singleton] at hs'
          subst hs'
          exact hs2 x hx h3 h4
      | cons a st =>
        obtain ⟨g1, g2, g3, g4, g5⟩ := hT.good
        obtain ⟨a1, a2, a3, a4, a5⟩ := sgE_zero F a g1
        have en1 : nextV F a.1.2 = nx := n1
        have eb : nextB F a.1.2 = true := hm
        have hn := (next_nat F a.1.2 eb).1
        rw [en1] at hn
        have hp : 0 < 2 ^ (128 - F.toNat) := Nat.two_pow_pos _
        by_cases hh : a.2 = h
        · have e : behS (a :: st) ((nx, la), h) = ((a.1.1, la), a.2) :: st := by rw [behS, if_pos hh]
          simp only
          rw [e]
          refine ⟨⟨sgE_of F _ a1 hr a3 a4 (by simp only; omega), g2, g3, g4, g5⟩, ?_, ?_, ?_⟩
          · simp [moO]
          · intro hb
            simp only [Bool.not_eq_false'] at hb
            exact ⟨rfl, hnr hb⟩
          · intro s hs' x hx h3 h4
            rcases List.mem_cons.mp hs' with e | e
            · subst e
              simp only at h3 h4
              by_cases hx2 : x.toNat ≤ a.1.2.toNat
              · exact hT.says a (by simp) x hx h3 hx2
              · obtain ⟨-, k2, -, -⟩ := next_le F a.1.2 x a2 hx (by omega)
                rw [en1] at k2
                rw [← hs2 x hx k2 h4]
                exact hh
            · exact hT.says s (List.mem_cons_of_mem _ e) x hx h3 h4
        · have e : behS (a :: st) ((nx, la), h) = ((nx, la), h) :: a :: st := by rw [behS, if_neg hh]
          simp only
          rw [e]
          refine ⟨⟨sgE_of F _ n2 hr h0 h1 (by simpa using hc), eb, en1.symm, by simpa using hh, hT.good⟩, ?_, ?_, ?_⟩
          · simp [moO]
          · intro hb
            simp only [Bool.not_eq_false'] at hb
            exact ⟨rfl, hnr hb⟩
          · intro s hs' x hx h3 h4
            rcases List.mem_cons.mp hs' with e | e
            · subst e
              exact hs2 x hx h3 h4
            · exact hT.says s e x hx h3 h4
/-- What stands open, and what is told, when some routes are gone through and others are not. -/
structure Inv (F : Int) (f : BitVec 128 → Int) (P op L : List Rte) (t : T3) : Prop where
  tol : Tol F f t
  ro : ∀ o ∈ op, Ro F o
  at0 : t.2.1 = false → ∀ o ∈ op, o.1.1.toNat ≤ t.1.toNat
  oh : t.2.1 = false → ∀ x, rightE F x = 0 → t.1.toNat ≤ x.toNat → look x 0 P = oh x op
  ord : ∀ o ∈ op, ∀ r ∈ L, pcmpZ o.1.1 o.1.2 r.1.1 r.1.2 ≤ 0
theorem last_right (F : Int) (o : Rte) (hf : fam F = true) (h : Ro F o) : rightE F (lastW F o.1.1 o.1.2) = 0 := right_of F _ hf (last_fam F _ _ h.1)
theorem hasR_ends (F : Int) (o : Rte) (hf : fam F = true) (h : Ro F o) (x : BitVec 128) (hx : rightE F x = 0) : hasR o x = true ↔ (o.1.1.toNat ≤ x.toNat ∧ x.toNat ≤ (lastW F o.1.1 o.1.2).toNat) := by
  obtain ⟨_, hc⟩ := right0 F x hx
  rw [← has_ends F _ _ h.1 x hc]
  unfold hasR
  simp
theorem look_ahead (F : Int) (hf : fam F = true) (P L : List Rte) (x : BitVec 128) (hx : rightE F x = 0) (hL : ∀ r ∈ L, Ro F r) (h : ∀ r ∈ L, x.toNat < r.1.1.toNat) : look x 0 (P ++ L) = look x 0 P := by
  rw [look_app, look_none]
  intro r hr
  have := h r hr
  have e := hasR_ends F r hf (hL r hr) x hx
  cases q : hasR r x with
  | false => rfl
  | true => have := e.mp q; omega
/-- The inner route is left: what it has yet is told. -/
theorem inv_leave (F : Int) (hf : fam F = true) (l P L os : List Rte) (o : Rte) (t : T3) (hl : l = P ++ L) (hL : ∀ r ∈ L, Ro F r) (h : Inv F (fun x => look x 0 l) P (o :: os) L t) (hw : ∀ r ∈ L, (lastW F o.1.1 o.1.2).toNat < r.1.1.toNat) :
    Inv F (fun x => look x 0 l) P os L (tell3 F (lastW F o.1.1 o.1.2) o.2 t) := by
  have ro := h.ro o (by simp)
  have lr := last_right F o hf ro
  have key : t.2.1 = false → ∀ x, rightE F x = 0 → t.1.toNat ≤ x.toNat → x.toNat ≤ (lastW F o.1.1 o.1.2).toNat → o.2 = look x 0 l := by
    intro he x hx h1 h2
    rw [hl, look_ahead F hf P L x hx hL (fun r hr => by have := hw r hr; omega), h.oh he x hx h1, oh, if_pos ((hasR_ends F o hf ro x hx).mpr ⟨by have := h.at0 he o (by simp); omega, h2⟩)]
  refine ⟨tell_ok F _ _ _ t h.tol lr ro.2.1 ro.2.2 key, fun q hq => h.ro q (List.mem_cons_of_mem _ hq), ?_, ?_, fun q hq => h.ord q (List.mem_cons_of_mem _ hq)⟩
  · unfold tell3
    by_cases he : t.2.1 = true
    · rw [if_pos he]; intro hc; rw [he] at hc; cases hc
    · rw [if_neg he]
      have he : t.2.1 = false := by simpa using he
      by_cases hc : cmpZ (lastW F o.1.1 o.1.2) t.1 < 0
      · rw [if_pos hc]; exact fun e q hq => h.at0 e q (List.mem_cons_of_mem _ hq)
      · rw [if_neg hc]
        rw [cmp_lt0] at hc
        intro hb q hq
        simp only [Bool.not_eq_false'] at hb
        have := (next_nat F _ hb).1
        have hp : 0 < 2 ^ (128 - F.toNat) := Nat.two_pow_pos _
        have := h.at0 he q (List.mem_cons_of_mem _ hq)
        simp only
        omega
  · have gone : ∀ x, rightE F x = 0 → (lastW F o.1.1 o.1.2).toNat < x.toNat → oh x (o :: os) = oh x os := by
      intro x hx h2
      rw [oh, if_neg]
      intro q
      have := (hasR_ends F o hf ro x hx).mp q
      omega
    unfold tell3
    by_cases he : t.2.1 = true
    · rw [if_pos he]; intro hc; rw [he] at hc; cases hc
    · rw [if_neg he]
      have he : t.2.1 = false := by simpa using he
      by_cases hc : cmpZ (lastW F o.1.1 o.1.2) t.1 < 0
      · rw [if_pos hc]
        rw [cmp_lt0] at hc
        intro e x hx h1
        rw [h.oh e x hx h1, gone x hx (by omega)]
      · rw [if_neg hc]
        rw [cmp_lt0] at hc
        intro hb x hx h1
        simp only [Bool.not_eq_false'] at hb
        have hn := (next_nat F _ hb).1
        have hp : 0 < 2 ^ (128 - F.toNat) := Nat.two_pow_pos _
        simp only at h1
        rw [h.oh he x hx (by omega), gone x hx (by omega)]
/-- A route that another one does not lie within, behind it in order, lies behind its last address. -/
theorem not_in (F : Int) (o r : Rte) (ho : Ro F o) (hr : Ro F r) (h : pcmpZ o.1.1 o.1.2 r.1.1 r.1.2 ≤ 0) (hw : ¬ withinB r.1.1 r.1.2 o.1.1 o.1.2 = true) : (lastW F o.1.1 o.1.2).toNat < r.1.1.toNat := by
  have hw : withinB r.1.1 r.1.2 o.1.1 o.1.2 = false := by simpa using hw
  have h := (pcmp_le _ _ _ _).mp h
  have e1 : r.1.1.toNat ≤ (lastW F r.1.1 r.1.2).toNat := le_last F _ _ hr.1 _ (rt_fam F _ _ hr.1) hr.1.2.2
  have h' : o.1.1.toNat ≤ r.1.1.toNat := by
    rcases h with h | ⟨h, _⟩
    · omega
    · rw [h]; exact Nat.le_refl _
  by_cases hn : o.1.2 ≤ r.1.2
  · rcases apart_of F _ _ _ _ ho.1 hr.1 hn hw with q | q
    · exact q
    · omega
  · have hw2 : withinB o.1.1 o.1.2 r.1.1 r.1.2 = false := by
      cases q : withinB o.1.1 o.1.2 r.1.1 r.1.2 with
      | false => rfl
      | true =>
        obtain ⟨_, q⟩ := (within_iff _ _ _ _).mp q
        have q2 := cut_le o.1.1 r.1.2
        rw [q] at q2
        rcases h with h | ⟨_, h⟩ <;> omega
    rcases apart_of F _ _ _ _ hr.1 ho.1 (by omega) hw2 with q | q
    · omega
    · exact q
theorem pcmp_first (o r : Rte) (h : pcmpZ o.1.1 o.1.2 r.1.1 r.1.2 ≤ 0) : o.1.1.toNat ≤ r.1.1.toNat := by
  rcases (pcmp_le _ _ _ _).mp h with h | ⟨h, _⟩
  · omega
  · rw [h]; exact Nat.le_refl _
theorem inv_pop (F : Int) (hf : fam F = true) (l P L : List Rte) (r : Rte) (hl : l = P ++ r :: L) (hL : ∀ q ∈ r :: L, Ro F q) (hO : ∀ q ∈ L, r.1.1.toNat ≤ q.1.1.toNat) : ∀ (op : List Rte) (t : T3), Bot op → Inv F (fun x => look x 0 l) P op (r :: L) t → t.2.1 = false → t.1.toNat ≤ r.1.1.toNat →
    Inv F (fun x => look x 0 l) P (popO r op) (r :: L) (popT F r op t) ∧ (popT F r op t).2.1 = false ∧ (popT F r op t).1.toNat ≤ r.1.1.toNat ∧ ∃ o os, popO r op = o :: os ∧ withinB r.1.1 r.1.2 o.1.1 o.1.2 = true
  | [], t, hb, h, he, hn => absurd rfl hb.ne
  | o :: os, t, hb, h, he, hn => by
    rw [popO, popT]
    by_cases hw : withinB r.1.1 r.1.2 o.1.1 o.1.2 = true
    · rw [if_pos hw, if_pos hw]
      exact ⟨h, he, hn, o, os, rfl, hw⟩
    · rw [if_neg hw, if_neg hw]
      have ro := h.ro o (by simp)
      have rr := hL r (by simp)
      have hlt := not_in F o r ro rr (h.ord o (by simp) r (by simp)) hw
      have lr := last_right F o hf ro
      obtain ⟨_, frr⟩ := And.intro trivial (right_of F r.1.1 hf (rt_fam F _ _ rr.1))
      obtain ⟨n1, n2, n3, n4⟩ := next_le F _ _ lr frr hlt
      have hi := inv_leave F hf l P (r :: L) os o t hl hL h (fun q hq => by
        rcases List.mem_cons.mp hq with e | e
        · rw [e]; exact hlt
        · have := hO q e; omega)
      refine inv_pop F hf l P L r hl hL hO os _ (hb.tl r rr.1.1 hw) hi ?_ ?_
      · unfold tell3
        rw [if_neg (by rw [he]; decide)]
        split
        · exact he
        · simp [n1]
      · unfold tell3
        rw [if_neg (by rw [he]; decide)]
        split
        · exact hn
        · exact n2
theorem prev_all (F : Int) (x : BitVec 128) (hx : rightE F x = 0) : (prevB F x = true ∧ rightE F (prevV F x) = 0 ∧ (prevV F x).toNat < x.toNat ∧ nextB F (prevV F x) = true ∧ nextV F (prevV F x) = x) ∨ (prevB F x = false ∧ x = 0#128) := by
  obtain ⟨hf, hc⟩ := right0 F x hx
  have hs := step_nat F hf
  have hp : 0 < 2 ^ (128 - F.toNat) := Nat.two_pow_pos _
  cases hb : prevB F x with
  | false =>
    right
    refine ⟨rfl, ?_⟩
    unfold prevB underB at hb
    rw [hx, hs] at hb
    simp at hb
    obtain ⟨a, ha⟩ := right_dvd F x hx
    apply BitVec.eq_of_toNat_eq
    cases a with
    | zero => rw [ha]; rfl
    | succ a =>
      exfalso
      have : 2 ^ (128 - F.toNat) * (a + 1) = 2 ^ (128 - F.toNat) * a + 2 ^ (128 - F.toNat) := by rw [Nat.mul_add, Nat.mul_one]
      omega
  | true =>
    left
    have hu : ¬ x.toNat < 2 ^ (128 - F.toNat) := by
      intro q
      unfold prevB underB at hb
      rw [hx, hs] at hb
      simp at hb
      omega
    have hv : prevV F x = x - stepW F := by unfold prevV; rw [if_pos hb]
    have hn : (prevV F x).toNat = x.toNat - 2 ^ (128 - F.toNat) := by
      rw [hv, BitVec.toNat_sub, hs]
      have := x.isLt
      rw [show 2 ^ 128 - 2 ^ (128 - F.toNat) + x.toNat = 2 ^ 128 + (x.toNat - 2 ^ (128 - F.toNat)) by omega, Nat.add_mod_left]
      exact Nat.mod_eq_of_lt (by omega)
    have hr : rightE F (prevV F x) = 0 := by
      apply right_of F _ hf
      rw [cut_dvd, hn]
      exact Nat.dvd_sub (right_dvd F x hx) (Nat.dvd_refl _)
    obtain ⟨n1, n2, n3, n4⟩ := next_le F _ x hr hx (by omega)
    refine ⟨rfl, hr, by omega, n1, ?_⟩
    apply BitVec.eq_of_toNat_eq
    rw [(next_nat F _ n1).1]
    omega
/-- A route is opened: what lies ahead of it is told. -/
theorem inv_enter (F : Int) (hf : fam F = true) (l P L os : List Rte) (r o : Rte) (t : T3) (hl : l = P ++ r :: L) (hL : ∀ q ∈ r :: L, Ro F q) (hO : ∀ q ∈ L, pcmpZ r.1.1 r.1.2 q.1.1 q.1.2 ≤ 0) (h : Inv F (fun x => look x 0 l) P (o :: os) (r :: L) t) (he : t.2.1 = false) (hn : t.1.toNat ≤ r.1.1.toNat) (hw : withinB r.1.1 r.1.2 o.1.1 o.1.2 = true) :
    Inv F (fun x => look x 0 l) (P ++ [r]) (r :: o :: os) L (entT F r o.2 t) ∧ (entT F r o.2 t).2.1 = false ∧ (entT F r o.2 t).1 = r.1.1 := by
  have rr := hL r (by simp)
  have ro := h.ro o (by simp)
  have fr := right_of F r.1.1 hf (rt_fam F _ _ rr.1)
  obtain ⟨n1, n2⟩ := h.tol.nx he
  have hro : r.1.1.toNat ≤ (lastW F o.1.1 o.1.2).toNat := by
    obtain ⟨_, q⟩ := (within_iff _ _ _ _).mp hw
    exact le_last F _ _ ro.1 _ (rt_fam F _ _ rr.1) q
  have hL0 : ∀ q ∈ r :: L, r.1.1.toNat ≤ q.1.1.toNat := fun q hq => by
    rcases List.mem_cons.mp hq with e | e
    · rw [e]; exact Nat.le_refl _
    · exact pcmp_first r q (hO q e)
  have key : ∀ x, rightE F x = 0 → t.1.toNat ≤ x.toNat → x.toNat < r.1.1.toNat → o.2 = look x 0 l := by
    intro x hx h1 h2
    rw [hl, look_ahead F hf P (r :: L) x hx hL (fun q hq => by have := hL0 q hq; omega), h.oh he x hx h1, oh, if_pos ((hasR_ends F o hf ro x hx).mpr ⟨by have := h.at0 he o (by simp); omega, by omega⟩)]
  have fin : ∀ T : T3, Tol F (fun x => look x 0 l) T → T.2.1 = false → T.1 = r.1.1 → Inv F (fun x => look x 0 l) (P ++ [r]) (r :: o :: os) L T ∧ T.2.1 = false ∧ T.1 = r.1.1 := by
    intro T hT hTe hT1
    refine ⟨⟨hT, ?_, ?_, ?_, ?_⟩, hTe, hT1⟩
    · intro q hq
      rcases List.mem_cons.mp hq with e | e
      · rw [e]; exact rr
      · exact h.ro q e
    · intro _ q hq
      rw [hT1]
      rcases List.mem_cons.mp hq with e | e
      · rw [e]; exact Nat.le_refl _
      · have := h.at0 he q e; omega
    · intro _ x hx h1
      rw [hT1] at h1
      rw [look_app, look, look, Go.Proofs.YtonagfmkplbooaaDoor.oh]
      split
      · rfl
      · exact h.oh he x hx (by omega)
    · intro q hq q' hq'
      rcases List.mem_cons.mp hq with e | e
      · rw [e]; exact hO q' hq'
      · exact h.ord q e q' (List.mem_cons_of_mem _ hq')
  unfold entT
  rcases prev_all F r.1.1 fr with ⟨p1, p2, p3, p4, p5⟩ | ⟨p1, p2⟩
  · rw [if_pos p1]
    refine fin _ (tell_ok F _ _ _ t h.tol p2 ro.2.1 ro.2.2 (fun _ x hx h1 h2 => key x hx h1 (by omega))) ?_ ?_
    · unfold tell3
      rw [if_neg (by rw [he]; decide)]
      split
      · exact he
      · simp [p4]
    · unfold tell3
      rw [if_neg (by rw [he]; decide)]
      split
      · rename_i hc
        rw [cmp_lt0] at hc
        obtain ⟨k1, k2, k3, k4⟩ := next_le F _ t.1 p2 n2 hc
        rw [p5] at k2
        exact BitVec.eq_of_toNat_eq (by omega)
      · exact p5
  · rw [if_neg (by rw [p1]; decide)]
    refine fin t h.tol he ?_
    rw [p2] at hn
    rw [p2]
    exact BitVec.eq_of_toNat_eq (by simpa using hn)
theorem mask_end (F : Int) (hf : fam F = true) : lastW F 0#128 0 = maskW F ∧ nextB F (maskW F) = false := by
  rcases fam_ways F hf with rfl | rfl <;> decide +kernel
theorem end_ok (F : Int) (hf : fam F = true) (l : List Rte) : ∀ (op : List Rte) (t : T3), Bot op → Inv F (fun x => look x 0 l) l op [] t → Tol F (fun x => look x 0 l) (endT F op t) ∧ (endT F op t).2.1 = true
  | [], t, hb, h => absurd rfl hb.ne
  | o :: os, t, hb, h => by
    rw [endT]
    have hi := inv_leave F hf l l [] os o t (by simp) (fun q hq => by cases hq) h (fun q hq => by cases hq)
    cases os with
    | nil =>
      have e : o = ((0#128, 0), 0) := by
        obtain ⟨k, e⟩ := hb
        cases k with
        | nil => exact (List.cons.inj e).1
        | cons a k =>
          have := congrArg List.length e
          simp [op0] at this
      refine ⟨hi.tol, ?_⟩
      subst e
      rw [endT]
      unfold tell3
      by_cases he : t.2.1 = true
      · rw [if_pos he]; exact he
      · rw [if_neg he]
        have he : t.2.1 = false := by simpa using he
        obtain ⟨_, n2⟩ := h.tol.nx he
        simp only
        rw [(mask_end F hf).1, if_neg (by rw [cmp_lt0]; have := right_max F _ n2; omega)]
        simp [(mask_end F hf).2]
    | cons a os =>
      refine end_ok F hf l (a :: os) _ ?_ hi
      obtain ⟨k, e⟩ := hb
      cases k with
      | nil =>
        have := congrArg List.length e
        simp [op0] at this
      | cons b k => exact ⟨k, (List.cons.inj e).2⟩
theorem swp_inv (F : Int) (hf : fam F = true) (l : List Rte) : ∀ (L P op : List Rte) (t : T3), l = P ++ L → (∀ q ∈ L, Ro F q) → L.Pairwise (fun a b => pcmpZ a.1.1 a.1.2 b.1.1 b.1.2 < 0) → Bot op → Inv F (fun x => look x 0 l) P op L t → (L ≠ [] → t.2.1 = false ∧ ∀ r ∈ L, t.1.toNat ≤ r.1.1.toNat) →
    Tol F (fun x => look x 0 l) (swpGo F op t L) ∧ (swpGo F op t L).2.1 = true
  | [], P, op, t, hl, hL, hO, hb, h, hn => by
    rw [swpGo]
    have e : l = P := by simpa using hl
    rw [← e] at h
    exact end_ok F hf l op t hb h
  | r :: L, P, op, t, hl, hL, hO, hb, h, hn => by
    rw [swpGo]
    obtain ⟨he, hn⟩ := hn (by simp)
    obtain ⟨o1, o2⟩ := List.pairwise_cons.mp hO
    have o1' : ∀ q ∈ L, pcmpZ r.1.1 r.1.2 q.1.1 q.1.2 ≤ 0 := fun q hq => Int.le_of_lt (o1 q hq)
    obtain ⟨hi, e1, e2, o, os, e3, hw⟩ := inv_pop F hf l P L r hl hL (fun q hq => pcmp_first r q (o1' q hq)) op t hb h he (hn r (by simp))
    have hb2 := hb.pop r (hL r (by simp)).1.1
    rw [e3] at hi hb2 ⊢
    obtain ⟨j1, j2, j3⟩ := inv_enter F hf l P L os r o _ hl hL o1' hi e1 e2 hw
    refine swp_inv F hf l L (P ++ [r]) (r :: o :: os) _ (by rw [hl]; simp) (fun q hq => hL q (List.mem_cons_of_mem _ hq)) o2 ?_ j1 (fun _ => ⟨j2, fun q hq => ?_⟩)
    · obtain ⟨k, e⟩ := hb2
      exact ⟨r :: k, by rw [e]; rfl⟩
    · show (entT F r o.2 _).1.toNat ≤ _
      rw [j3]
      exact pcmp_first r q (o1' q hq)
/-- The segments of a right table. -/
theorem swp_right (F : Int) (hf : fam F = true) (l : List Rte) (hL : ∀ q ∈ l, Ro F q) (hO : l.Pairwise (fun a b => pcmpZ a.1.1 a.1.2 b.1.1 b.1.2 < 0)) : sgsGo F none (swp F l) = 0 ∧ Says F (fun x => look x 0 l) (swp F l) := by
  have z : rightE F 0#128 = 0 := by unfold rightE; rw [if_pos hf, if_pos BitVec.zero_and]
  have r0 : Ro F ((0#128, 0), 0) := by
    refine ⟨?_, by decide, by decide⟩
    have := fam_bd F hf
    exact ⟨by decide, by simp only; omega, by simp [cutW]⟩
  obtain ⟨hT, he⟩ := swp_inv F hf l l [] op0 t30 (by simp) hL hO ⟨[], rfl⟩
    ⟨⟨trivial, rfl, fun _ => ⟨rfl, z⟩, fun s hs => by cases hs⟩, fun o ho => by
      have : o = ((0#128, 0), 0) := by simpa [op0] using ho
      rw [this]; exact r0, fun _ o ho => by
      have : o = ((0#128, 0), 0) := by simpa [op0] using ho
      rw [this]; exact Nat.zero_le _, fun _ x hx _ => by simp [look, op0, oh], fun o ho r hr => by
      have : o = ((0#128, 0), 0) := by simpa [op0] using ho
      rw [this, pcmp_le]
      by_cases q : r.1.1 = 0#128
      · exact .inr ⟨q.symm, (hL r hr).1.1⟩
      · left
        have : r.1.1.toNat ≠ 0 := fun e => q (BitVec.eq_of_toNat_eq e)
        simp only [BitVec.toNat_zero, BitVec.toNat_ofNat, Nat.zero_mod]
        omega⟩ (fun _ => ⟨rfl, fun r _ => Nat.zero_le _⟩)
  unfold swp
  constructor
  · have := good_go F (swpGo F op0 t30 l).2.2 [] hT.good
    rw [List.append_nil] at this
    rw [this, sgsGo, hT.mo, he]
    rfl
  · intro s hs
    exact hT.says s (List.mem_reverse.mp hs)
end Go.Proofs.YtonagfmkplbooaaDoor
