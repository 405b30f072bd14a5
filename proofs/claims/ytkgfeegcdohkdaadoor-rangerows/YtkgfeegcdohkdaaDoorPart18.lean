/-
  Part 18 of the proof: 4 texts, one behind the other.
-/
import Derived.Test.YtkgfeegcdohkdaaDoorPart17
import Derived.Test.YtkgfeegcdohkdaaDoorPart9
import Derived.Test.YtkgfeegcdohkdaaDoorPart16
import Derived.Test.YtkgfeegcdohkdaaDoorPart7
/-
  What is merged is the covers of the rows, and how many addresses it has: plain facts.
-/
namespace Go.Proofs.YtkgfeegcdohkdaaDoor
set_option linter.unusedSimpArgs false
set_option linter.unusedVariables false

/-- One behind the other, nothing between them, from one address to another one. -/
def Run (F : Int) : List (BitVec 128 × Int) → BitVec 128 → BitVec 128 → Prop
  | [], _, _ => False
  | [p], a, b => p.1 = a ∧ lastW F p.1 p.2 = b
  | p :: q :: r, a, b => p.1 = a ∧ nextB F (lastW F p.1 p.2) = true ∧ nextV F (lastW F p.1 p.2) = q.1 ∧ Run F (q :: r) q.1 b
/-- No neighbours that unite. -/
def NS : List (BitVec 128 × Int) → Prop
  | p :: q :: r => uniV p q = none ∧ NS (q :: r)
  | _ => True
theorem ns_tail {p : BitVec 128 × Int} {r : List (BitVec 128 × Int)} (h : NS (p :: r)) : NS r := by
  cases r with
  | nil => trivial
  | cons q r => exact h.2
theorem ns_right : ∀ (l r : List (BitVec 128 × Int)), NS (l ++ r) → NS r := by
  intro l
  induction l with
  | nil => intro r h; exact h
  | cons p l ih => intro r h; exact ih r (ns_tail h)
theorem ns_left : ∀ (l r : List (BitVec 128 × Int)), NS (l ++ r) → NS l := by
  intro l
  induction l with
  | nil => intro r _; trivial
  | cons p l ih =>
    intro r h
    cases l with
    | nil => trivial
    | cons q l => exact ⟨h.1, ih r h.2⟩
theorem ns_of : ∀ (st acc : List (BitVec 128 × Int)), Stab st → NS acc → (∀ x y, st.head? = some x → acc.head? = some y → uniV x y = none) → NS (st.reverse ++ acc) := by
  intro st
  induction st with
  | nil => intro acc _ h _; exact h
  | cons a st ih =>
    intro acc hs ha hl
    rw [List.reverse_cons, List.append_assoc]
    refine ih (a :: acc) (stab_tail hs) ?_ ?_
    · cases acc with
      | nil => trivial
      | cons y acc => exact ⟨hl a y rfl rfl, ha⟩
    · intro x y hx hy
      cases st with
      | nil => cases hx
      | cons b st =>
        cases hx
        cases hy
        exact hs.1
theorem merge_ns (l : List (BitVec 128 × Int)) : NS (ptAll [] (sortL l)).reverse := by
  have := ns_of (ptAll [] (sortL l)) [] (ptAll_stab _ [] trivial) trivial (fun x y _ h => by cases h)
  rwa [List.append_nil] at this
theorem run_head {F : Int} {p : BitVec 128 × Int} {r : List (BitVec 128 × Int)} {a b : BitVec 128} (h : Run F (p :: r) a b) : p.1 = a := by
  cases r with
  | nil => exact h.1
  | cons q r => exact h.1
theorem run_app {F : Int} {c d : BitVec 128} {r' : List (BitVec 128 × Int)} (h' : Run F r' c d) : ∀ (r : List (BitVec 128 × Int)) (a b : BitVec 128), Run F r a b → nextB F b = true → nextV F b = c → Run F (r ++ r') a d := by
  intro r
  induction r with
  | nil => intro a b h; exact h.elim
  | cons p r ih =>
    intro a b h hn hv
    cases r with
    | nil =>
      cases r' with
      | nil => exact h'.elim
      | cons q s =>
        have hq := run_head h'
        refine ⟨h.1, ?_, ?_, ?_⟩
        · rw [h.2]; exact hn
        · rw [h.2, hv, hq]
        · rw [hq]; exact h'
    | cons q r => exact ⟨h.1, h.2.1, h.2.2.1, ih q.1 b h.2.2.2 hn hv⟩
theorem rp_le {F : Int} {p : BitVec 128 × Int} (h : Rp F p) : p.1.toNat ≤ (lastW F p.1 p.2).toNat := ((has_ends F p.1 p.2 h p.1 (rt_fam F p.1 p.2 h)).mp h.2.2).2
theorem run_rng {F : Int} (hf : fam F = true) : ∀ (r : List (BitVec 128 × Int)) (a b : BitVec 128), Run F r a b → (∀ p ∈ r, Rp F p) → Rng F a b := by
  intro r
  induction r with
  | nil => intro a b h; exact h.elim
  | cons p r ih =>
    intro a b h hr
    have hp := hr p (List.mem_cons_self ..)
    have e := run_head h
    subst e
    have ra := right_of F p.1 hf (rt_fam F p.1 p.2 hp)
    cases r with
    | nil =>
      have e := h.2
      subst e
      exact ⟨ra, right_of F _ hf (last_fam F p.1 p.2 hp), rp_le hp⟩
    | cons q r =>
      obtain ⟨_, h1, h2, h3⟩ := h
      obtain ⟨i1, i2, i3⟩ := ih q.1 b h3 (fun x hx => hr x (List.mem_cons_of_mem _ hx))
      have n1 := (next_nat F _ h1).1
      rw [h2] at n1
      have pos := Nat.two_pow_pos (128 - F.toNat)
      have := rp_le hp
      exact ⟨ra, i2, by omega⟩
/-- The first one of such a row is as wide as can be. -/
theorem run_wide {F : Int} (hf : fam F = true) : ∀ (d : Nat) (n : Int) (r : List (BitVec 128 × Int)) (a b : BitVec 128), (F - n).toNat = d → 0 ≤ n → n ≤ F → Run F r a b → NS r → (∀ p ∈ r, Rp F p) → cutW a n = a → (lastW F a n).toNat ≤ b.toNat → ∀ p s, r = p :: s → p.2 ≤ n := by
  intro d
  have hF := (fam_bd F hf).2
  induction d with
  | zero =>
    intro n r a b hd h0 h1 _ _ hr _ _ p s e
    subst e
    have := (hr p (List.mem_cons_self ..)).2.1
    omega
  | succ d ih =>
    intro n r a b hd h0 h1 hrun hns hr hc hl p s e
    subst e
    have hn : n < F := by omega
    have ha : Rt F a n := ⟨h0, h1, hc⟩
    have kL := kid_rtL F a n ha hn hF
    have l0 := last_nat F a n ha hF
    have l1 := last_nat F a (n + 1) kL hF
    obtain ⟨pw, pe⟩ := kid_pow n h0 (by omega)
    rw [pe] at l1
    have pos := Nat.two_pow_pos (127 - n.toNat)
    have i1 := ih (n + 1) (p :: s) a b (by omega) (by omega) (by omega) hrun hns hr kL.2.2 (by omega) p s rfl
    rcases Int.lt_or_le n p.2 with c | c
    · exfalso
      have e2 : p.2 = n + 1 := by omega
      have e1 := run_head hrun
      cases s with
      | nil =>
        have := hrun.2
        rw [e1, e2] at this
        rw [← this] at hl
        omega
      | cons q s =>
        obtain ⟨_, g1, g2, g3⟩ := hrun
        obtain ⟨n1, -, -, -⟩ := next_nat F _ g1
        rw [g2, e1, e2] at n1
        have kn := kid_nat F a n ha hn hF
        have eq1 : q.1 = a ||| bit1 n := BitVec.eq_of_toNat_eq (by rw [kn, n1]; omega)
        have kH := kid_rtH F a n ha hn hF
        have kl := kid_last F a n ha hn hF
        have hq := hr q (List.mem_cons_of_mem _ (List.mem_cons_self ..))
        rw [eq1] at g3
        have i2 := ih (n + 1) (q :: s) _ b (by omega) (by omega) (by omega) g3 hns.2 (fun x hx => hr x (List.mem_cons_of_mem _ hx)) kH.2.2 (by rw [kl]; exact hl) q s rfl
        by_cases c2 : q.2 = n + 1
        · have hu := hns.1
          obtain ⟨s1, s2⟩ := kid_sibL F a n ha hn hF
          unfold uniV at hu
          split at hu
          · cases hu
          · rw [if_pos ⟨by omega, by rw [e1, e2, s1, eq1], by rw [e2, s2, c2]⟩] at hu
            cases hu
        · have hqc : cutW q.1 q.2 = q.1 := hq.2.2
          have b1 : q.1.getLsbD (127 - n.toNat) = true := by
            rw [eq1, BitVec.getLsbD_or, bit1_bit n h0 _ (by omega)]
            have : decide (((127 - n.toNat : Nat) : Int) = 127 - n) = true := by simp; omega
            rw [this]; simp
          have q0 := hq.1
          rw [← hqc, cut_bit _ _ _ (by omega), decide_eq_false (by omega)] at b1
          simp at b1
    · exact c
theorem run_cov {F : Int} (hf : fam F = true) : ∀ (r : List (BitVec 128 × Int)) (a b : BitVec 128) (k : Nat), Run F r a b → NS r → (∀ p ∈ r, Rp F p) → b.toNat < a.toNat + k → covL F b k a = r := by
  intro r
  induction r with
  | nil => intro a b k h; exact h.elim
  | cons p r ih =>
    intro a b k hrun hns hr hk
    have hg := run_rng hf _ a b hrun hr
    have hab := hg.2.2
    obtain ⟨k, rfl⟩ : ∃ j, k = j + 1 := ⟨k - 1, by omega⟩
    have hp := hr p (List.mem_cons_self ..)
    have e1 := run_head hrun
    have hlast : (lastW F a p.2).toNat ≤ b.toNat := by
      cases r with
      | nil => rw [← e1, hrun.2]; exact Nat.le_refl _
      | cons q r =>
        obtain ⟨_, g1, g2, g3⟩ := hrun
        have n1 := (next_nat F _ g1).1
        rw [g2] at n1
        have := (run_rng hf _ q.1 b g3 (fun x hx => hr x (List.mem_cons_of_mem _ hx))).2.2
        have pos := Nat.two_pow_pos (128 - F.toNat)
        rw [← e1]
        omega
    have w1 : widN F a b ≤ p.2 := (wid_iff F a b hg.1 hg.2.1 hab p.2 hp.1 hp.2.1).mp ⟨by rw [← e1]; exact hp.2.2, hlast⟩
    obtain ⟨w2, w3⟩ := wid_rt F a b hg
    have w4 : p.2 ≤ widN F a b := run_wide hf _ (widN F a b) (p :: r) a b rfl w2.1 w2.2.1 hrun hns hr w2.2.2 w3 p r rfl
    have w5 : widN F a b = p.2 := by omega
    have pe : (a, p.2) = p := by rw [← e1]
    cases r with
    | nil =>
      rw [cov_end F b k a (by rw [w5, ← e1]; exact hrun.2), w5, pe]
    | cons q r =>
      obtain ⟨_, g1, g2, g3⟩ := hrun
      have n1 := (next_nat F _ g1).1
      rw [g2] at n1
      have hr' := fun x hx => hr x (List.mem_cons_of_mem p hx)
      have i3 := (run_rng hf _ q.1 b g3 hr').2.2
      have pos := Nat.two_pow_pos (128 - F.toNat)
      have := rp_le hp
      have e1n : p.1.toNat = a.toNat := by rw [e1]
      rw [cov_on F b k a (by
        rw [w5, ← e1]
        intro e
        rw [e] at n1
        omega), w5, pe, ← e1, g2, ih q.1 b k g3 hns.2 hr' (by omega)]
/-- What a stack of rows is made of. -/
def Runs (F : Int) : List (BitVec 128 × BitVec 128) → List (BitVec 128 × Int) → Prop
  | [], l => l = []
  | s :: st, l => ∃ l1 r, l = l1 ++ r ∧ Runs F st l1 ∧ Run F r s.1 s.2
theorem psIn_runs {F : Int} : ∀ (st : List (BitVec 128 × BitVec 128)) (p : BitVec 128 × BitVec 128) (l r : List (BitVec 128 × Int)), Runs F st l → Run F r p.1 p.2 → Runs F (psIn F st p) (l ++ r) := by
  intro st
  induction st with
  | nil =>
    intro p l r h hr
    have e : l = [] := h
    subst e
    exact ⟨[], r, rfl, rfl, hr⟩
  | cons a st ih =>
    intro p l r h hr
    obtain ⟨l1, r1, rfl, h1, h2⟩ := h
    cases e : besV F a p with
    | none => rw [psIn_none e]; exact ⟨l1 ++ r1, r, rfl, ⟨l1, r1, rfl, h1, h2⟩, hr⟩
    | some s =>
      rw [psIn_some e]
      unfold besV at e
      split at e
      · rename_i c
        cases e
        rw [List.append_assoc]
        exact ih (a.1, p.2) l1 (r1 ++ r) h1 (run_app hr r1 a.1 a.2 h2 c.1 c.2)
      · cases e
theorem psAll_runs {F : Int} : ∀ (m : List (BitVec 128 × Int)) (st : List (BitVec 128 × BitVec 128)) (l : List (BitVec 128 × Int)), Runs F st l → Runs F (psAll F st (segL F m)) (l ++ m) := by
  intro m
  induction m with
  | nil => intro st l h; rw [List.append_nil]; exact h
  | cons p m ih =>
    intro st l h
    have := ih (psIn F st (p.1, lastW F p.1 p.2)) (l ++ [p]) (psIn_runs st _ l [p] h ⟨rfl, rfl⟩)
    rw [List.append_assoc] at this
    exact this
theorem covE_of {F : Int} {a b : BitVec 128} (h : Rng F a b) : covE F a b = 0 := by
  unfold covE
  rw [if_pos h.1, if_pos h.2.1, if_neg]
  intro c
  have := (cmp_lt0 b a).mp c
  have := h.2.2
  omega
theorem runs_flat {F : Int} (hf : fam F = true) : ∀ (st : List (BitVec 128 × BitVec 128)) (l : List (BitVec 128 × Int)), Runs F st l → NS l → (∀ p ∈ l, Rp F p) → (st.reverse.flatMap fun s => covT F s.1 s.2) = l ∧ ∀ s ∈ st, covE F s.1 s.2 = 0 := by
  intro st
  induction st with
  | nil => intro l h _ _; exact ⟨by rw [show l = [] from h]; rfl, fun s hs => by cases hs⟩
  | cons s st ih =>
    intro l h hns hr
    obtain ⟨l1, r, rfl, h1, h2⟩ := h
    obtain ⟨i1, i2⟩ := ih l1 h1 (ns_left _ _ hns) (fun p hp => hr p (List.mem_append_left _ hp))
    have hr2 := fun p hp => hr p (List.mem_append_right l1 hp)
    have hg := run_rng hf r s.1 s.2 h2 hr2
    have hE := covE_of hg
    refine ⟨?_, ?_⟩
    · rw [List.reverse_cons, List.flatMap_append, i1]
      congr 1
      rw [List.flatMap_cons, List.flatMap_nil, List.append_nil]
      unfold covT
      rw [if_pos hE]
      exact run_cov hf r s.1 s.2 _ h2 (ns_right _ _ hns) hr2 (by have := hg.2.2; omega)
    · intro x hx
      rcases List.mem_cons.mp hx with rfl | hx
      · exact hE
      · exact i2 x hx
/-- What is merged is the covers of the rows. -/
theorem whole_covers {F : Int} (hf : fam F = true) (m : List (BitVec 128 × Int)) (hns : NS m) (hm : ∀ p ∈ m, Rp F p) :
    ((psAll F [] (segL F m)).reverse.flatMap fun s => covT F s.1 s.2) = m ∧ ∀ s ∈ (psAll F [] (segL F m)).reverse, covE F s.1 s.2 = 0 := by
  have h := psAll_runs (F := F) m [] [] rfl
  rw [List.nil_append] at h
  obtain ⟨a, b⟩ := runs_flat hf _ m h hns hm
  exact ⟨a, fun s hs => b s (by simpa using hs)⟩
end Go.Proofs.YtkgfeegcdohkdaaDoor
/-
  What the calls of the law's has and some do.
-/
namespace Go.Proofs.YtkgfeegcdohkdaaDoor
open Go.RowKit
set_option linter.unusedSimpArgs false
set_option linter.unusedVariables false

/-- Has one of them the address? -/
def hasL (l : List (BitVec 128 × Int)) (y : BitVec 128) : Bool := l.any fun p => rhasB p.1 p.2 y
theorem has_drop (l : List (BitVec 128 × Int)) (y : BitVec 128) (k : Nat) (hk : k < l.length) : hasL (l.drop k) y = (rhasB l[k].1 l[k].2 y || hasL (l.drop (k + 1)) y) := by
  rw [List.drop_eq_getElem_cons hk]
  rfl
def HS (w : World) (b o : Nat) (px : BitVec 128) (pn : Int) (y : BitVec 128) (W : World) : Prop := (W.cell? ⟨b, o, none⟩ = some (.int .u64 (hI px)) ∧ W.cell? ⟨b, o + 1, none⟩ = some (.int .u64 (lI px)) ∧ W.cell? ⟨b, o + 2, none⟩ = some (.int .i64 pn)) ∧ At W w.heap.size y ∧ Below w.heap.size w W
theorem HS.below {w W W' : World} {b o : Nat} {px y : BitVec 128} {pn : Int} (h : HS w b o px pn y W) (hb : Below W.heap.size W W') : HS w b o px pn y W' := ⟨⟨keepc hb h.1.1, keepc hb h.1.2.1, keepc hb h.1.2.2⟩, h.2.1.below hb, keepb hb h.2.2⟩
theorem HS.all {w W : World} {b o : Nat} {px y : BitVec 128} {pn : Int} (h : HS w b o px pn y W) : W.cell? ⟨b, o, none⟩ = some (.int .u64 (hI px)) ∧ W.cell? ⟨b, o + 1, none⟩ = some (.int .u64 (lI px)) ∧ W.cell? ⟨b, o + 2, none⟩ = some (.int .i64 pn) ∧ W.cell? ⟨w.heap.size, 0, none⟩ = some (.int .u64 (hI y)) ∧ W.cell? ⟨w.heap.size, 1, none⟩ = some (.int .u64 (lI y)) ∧ Hid (HS w b o px pn y W) := ⟨h.1.1, h.1.2.1, h.1.2.2, h.2.1.1, h.2.1.2.1, h⟩
set_option maxHeartbeats 2000000 in
theorem lhas_any (v : Value) (l : List (BitVec 128 × Int)) (y : BitVec 128) (w : World) (hv : Rw w v l) (hl : l.length ≤ 1000000000) :
    Calls Tryd.prog 33 #[v, .agg #[.int .u64 (hI y), .int .u64 (lI y)]] w fun e w' => e = .returned (.bool (hasL l y)) ∧ Below w.heap.size w w' := by
  obtain ⟨ao, c, rfl, hv⟩ := hv
  have HV : Hid ((ao = none ∧ l = []) ∨ ∃ b off, ao = some ⟨b, off, none⟩ ∧ ∀ j u, (rowP l)[j]? = some u → w.cell? ⟨b, off + j, none⟩ = some u) := hv
  clear hv
  go_enter Tryd.func33, Tryd.ntmps33
  go_wp2_with fail
  have Y0 := at_new w w.heap.size y 24 rfl
  go_loopw [5] (fun i wr => ∃ k : Nat, k ≤ l.length ∧ i = .int .i64 k ∧ Hid (hasL (l.drop k) y = hasL l y) ∧ At wr w.heap.size y ∧ Below w.heap.size w wr) (fun i _ => l.length - (intOf i).toNat)
  case atStart => exact ⟨0, by omega, rfl, (rfl : hasL (l.drop 0) y = hasL l y), Y0, (Below.refl _ w).alloc (Nat.le_refl _) _⟩
  case round =>
    clear Y0
    obtain ⟨k, hk, rfl, hG, hY, hB⟩ := hrel
    by_cases hlt : (k : Int) < (l.length : Int)
    · have hks : k < l.length := by omega
      rcases HV.out with ⟨-, h⟩ | ⟨b, off, rfl, hc⟩
      · rw [h] at hks; simp at hks
      · obtain ⟨x0, x1, x2⟩ := rw_cells hc k hks
        have x0 := keepc hB x0
        have x1 := keepc hB x1
        have x2 := keepc hB x2
        have KC := fun w => rhas_any l[k].1 l[k].2 y w
        have hd := has_drop l y k hks
        have HD : Hid (hasL (l.drop k) y = (rhasB l[k].1 l[k].2 y || hasL (l.drop (k + 1)) y)) := hd
        clear hd hc HV
        revert KC HD
        generalize rhasB l[k].1 l[k].2 y = ce
        generalize l[k].1 = px at *
        generalize l[k].2 = pn at *
        intro KC HD
        obtain ⟨y0, y1, -, -, -⟩ := id hY
        go_wp2_with fail
        have hS : HS w b (off + k * 3) px pn y wr.drew := ⟨⟨x0, x1, x2⟩, hY, hB.drew⟩
        go_region_held3 (fun w' => w'.cell? ⟨b, off + k * 3, none⟩ = some (.int .u64 (hI px)) ∧ w'.cell? ⟨b, off + k * 3 + 1, none⟩ = some (.int .u64 (lI px)) ∧ w'.cell? ⟨b, off + k * 3 + 2, none⟩ = some (.int .i64 pn) ∧ w'.cell? ⟨w.heap.size, 0, none⟩ = some (.int .u64 (hI y)) ∧ w'.cell? ⟨w.heap.size, 1, none⟩ = some (.int .u64 (lI y)) ∧ Hid (HS w b (off + k * 3) px pn y w'))
          (first
            | exact hS.all
            | (obtain ⟨-, -, -, -, -, k9⟩ := ‹_ ∧ _ ∧ _ ∧ _ ∧ _ ∧ _›; exact (k9.out.below hb9).all))
          (first | (go_at_call 44; refine (KC _).mono ?_; rintro e w9 ⟨rfl, hb9⟩))
        obtain ⟨-, -, -, -, -, k9⟩ := ‹_ ∧ _ ∧ _ ∧ _ ∧ _ ∧ _›
        have kY := k9.out.2.1
        have kB := k9.out.2.2
        clear k9 hS KC x0 x1 x2 y0 y1
        have mk : IntKind.i64.wrap ((k : Int) + 1) = (k : Int) + 1 := by rw [IntKind.wrap_i64]; omega
        cases ce with
        | true =>
          have HE : Hid (hasL l y = true) := by show _ = _; rw [← hG.out, HD.out]; rfl
          go_wp2
          go_ret
          exact ⟨by rw [HE.out]; rfl, kB⟩
        | false =>
          go_wp2
          go_roundw
          case rel =>
            refine ⟨k + 1, by omega, by simp, ?_, kY, kB⟩
            show hasL (l.drop (k + 1)) y = hasL l y
            rw [← hG.out, HD.out]; simp
          case measure => simp [intOf]; omega
    · have hd : decide ((k : Int) < (l.length : Int)) = false := by simpa using hlt
      have HE : Hid (hasL l y = false) := by
        show _ = _
        rw [← hG.out, List.drop_eq_nil_of_le (by omega)]; rfl
      go_wp2
      go_ret
      exact ⟨by rw [HE.out]; rfl, hB⟩
end Go.Proofs.YtkgfeegcdohkdaaDoor
namespace Go.Proofs.YtkgfeegcdohkdaaDoor
open Go.RowKit
set_option linter.unusedSimpArgs false
set_option linter.unusedVariables false

/-- A number of addresses in memory. -/
def AtC (w : World) (B : Nat) (x y z : Int) : Prop := w.cell? ⟨B, 0, none⟩ = some (.int .u64 x) ∧ w.cell? ⟨B, 1, none⟩ = some (.int .u64 y) ∧ w.cell? ⟨B, 2, none⟩ = some (.int .u64 z) ∧ w.frozen? ⟨B, 0, none⟩ = false ∧ w.frozen? ⟨B, 1, none⟩ = false ∧ w.frozen? ⟨B, 2, none⟩ = false
theorem AtC.below {w w' : World} {B : Nat} {x y z : Int} (h : AtC w B x y z) (hb : Below w.heap.size w w') : AtC w' B x y z := by
  obtain ⟨h0, h1, h2, h3, h4, h5⟩ := h
  exact ⟨keepc hb h0, keepc hb h1, keepc hb h2, keepf hb h0 h3, keepf hb h1 h4, keepf hb h2 h5⟩
theorem atc_new (w : World) (B : Nat) (x y z : Int) (T : TypeId) (h : B = w.heap.size) : AtC (w.alloc (.cells #[.int .u64 x, .int .u64 y, .int .u64 z] T)) B x y z := by
  subst h
  refine ⟨?_, ?_, ?_, ?_, ?_, ?_⟩ <;> simp [go_sem]
theorem AtC.set {W : World} {B : Nat} {x y z : Int} (h : AtC W B x y z) (x' y' z' : Int) : AtC (((W.setCell ⟨B, 0, none⟩ (.int .u64 x')).setCell ⟨B, 1, none⟩ (.int .u64 y')).setCell ⟨B, 2, none⟩ (.int .u64 z')) B x' y' z' := by
  obtain ⟨a0, a1, a2, a3, a4, a5⟩ := h
  refine ⟨?_, ?_, ?_, ?_, ?_, ?_⟩ <;> simp [go_sem, *]
theorem AtC.lt {W : World} {B : Nat} {x y z : Int} (h : AtC W B x y z) : B < W.heap.size := cell_in h.1
set_option maxRecDepth 20000 in
set_option maxHeartbeats 4000000 in
theorem count_any (F : Int) (v : Value) (l m : List (BitVec 128 × Int)) (w : World) (hF : F ≤ 128) (hl : m.length ≤ 1000000000) (hm : ∀ p ∈ m, 0 ≤ p.2 ∧ p.2 ≤ F)
    (KM : ∀ w, Rw w v l → Calls Tryd.prog 22 #[.int .i64 F, v] w fun e w' => (∃ v', e = .returned (.tuple #[v', .int .i64 0]) ∧ Rw w' v' m) ∧ Below w.heap.size w w') (hv : Rw w v l) :
    Calls Tryd.prog 27 #[.int .i64 F, v] w fun e w' => e = .returned (.tuple #[costV (sizN F m), .int .i64 0]) ∧ Below w.heap.size w w' := by
  have HM : Hid (∀ p ∈ m, 0 ≤ p.2 ∧ p.2 ≤ F) := hm
  have HV : Hid (Rw w v l) := hv
  clear hm hv
  go_enter Tryd.func27, Tryd.ntmps27
  go_wp2_with fail
  refine (KM _ (HV.out.below (bl1 _ _))).mono ?_
  rintro e w1 ⟨⟨v1, rfl, hR⟩, hb⟩
  have kB1 := keepb hb (bl1 w (.cells #[.int .u64 0, .int .u64 0, .int .u64 0] 56))
  obtain ⟨ao, c, rfl, hv⟩ := hR
  have HV : Hid ((ao = none ∧ m = []) ∨ ∃ b off, ao = some ⟨b, off, none⟩ ∧ ∀ j u, (rowP m)[j]? = some u → w1.cell? ⟨b, off + j, none⟩ = some u) := hv
  clear hv KM
  have R1 : AtC w1 w.heap.size 0 0 0 := (atc_new w w.heap.size 0 0 0 56 rfl).below hb
  clear hb
  go_wp2_with fail
  go_loopw [23] (fun i wr => ∃ k : Nat, k ≤ m.length ∧ i = .int .i64 k ∧ AtC wr w1.heap.size (cost0 (sizN F (m.take k))) (cost1 (sizN F (m.take k))) (cost2 (sizN F (m.take k))) ∧ Below w1.heap.size w1 wr) (fun i _ => m.length - (intOf i).toNat)
  case atStart => exact ⟨0, by omega, rfl, by simpa [sizN, cost0, cost1, cost2] using atc_new w1 w1.heap.size 0 0 0 56 rfl, bl1 _ _⟩
  case round =>
    obtain ⟨k, hk, rfl, hS, kB⟩ := hrel
    by_cases hlt : (k : Int) < (m.length : Int)
    · have hks : k < m.length := by omega
      rcases HV.out with ⟨-, h⟩ | ⟨b, off, rfl, hc⟩
      · rw [h] at hks; simp at hks
      · obtain ⟨x0, x1, x2⟩ := rw_cells hc k hks
        have x0 := keepc kB x0
        have x1 := keepc kB x1
        have x2 := keepc kB x2
        have bd := HM.out m[k] (List.getElem_mem hks)
        have Ksize := fun w => size_any F m[k].1 m[k].2 w bd.1 bd.2 hF
        have hsum := siz_take F m k hks
        have hup : sizN F (m.take (k + 1)) < 6277101735386680763835789423207666416102355444464034512896 := by
          have := sizN_le F hF (m.take (k + 1)) (fun p hp => (HM.out p (List.mem_of_mem_take hp)).1)
          have : (m.take (k + 1)).length ≤ 1000000000 := by simp; omega
          omega
        have Kplus := fun w => plus_any (sizN F (m.take k)) (2 ^ (F - m[k].2).toNat) w (by omega)
        rw [← hsum] at Kplus
        clear hsum hup hc bd HV
        unfold costV at Ksize Kplus
        revert Ksize Kplus
        generalize 2 ^ (F - m[k].2).toNat = zz
        generalize cost0 zz = z0
        generalize cost1 zz = z1
        generalize cost2 zz = z2
        generalize m[k].1 = px at *
        generalize m[k].2 = pn at *
        intro Ksize Kplus
        obtain ⟨t0, ht0⟩ : ∃ t, t = cost0 (sizN F (m.take (k + 1))) := ⟨_, rfl⟩
        obtain ⟨t1, ht1⟩ : ∃ t, t = cost1 (sizN F (m.take (k + 1))) := ⟨_, rfl⟩
        obtain ⟨t2, ht2⟩ : ∃ t, t = cost2 (sizN F (m.take (k + 1))) := ⟨_, rfl⟩
        rw [← ht0, ← ht1, ← ht2] at Kplus
        have HT : Hid (t0 = cost0 (sizN F (m.take (k + 1))) ∧ t1 = cost1 (sizN F (m.take (k + 1))) ∧ t2 = cost2 (sizN F (m.take (k + 1)))) := ⟨ht0, ht1, ht2⟩
        clear ht0 ht1 ht2
        generalize cost0 (sizN F (m.take k)) = s0 at *
        generalize cost1 (sizN F (m.take k)) = s1 at *
        generalize cost2 (sizN F (m.take k)) = s2 at *
        have hP := atp_new wr wr.heap.size px pn 26 rfl
        have hS' := hS.below (bl1 wr (.cells #[.int .u64 (hI px), .int .u64 (lI px), .int .i64 pn] 26))
        have kB' := keepb (bl1 wr (.cells #[.int .u64 (hI px), .int .u64 (lI px), .int .i64 pn] 26)) kB
        have mk : IntKind.i64.wrap ((k : Int) + 1) = (k : Int) + 1 := by rw [IntKind.wrap_i64]; omega
        go_wp2_with fail
        refine qp_region2 5 (qpOk 5 5 (by decide) (fun N => by kernel_rfl) (by kernel_rfl) (by kernel_rfl) (by kernel_rfl) (by kernel_rfl)) (C := fun W => AtC W w1.heap.size s0 s1 s2 ∧ AtP W wr.heap.size px pn ∧ Below w1.heap.size w1 W) [some 27, some 28, some 29, some 30, some 31] [.agg #[.int .u64 s0, .int .u64 s1, .int .u64 s2], .int .i64 F, .agg #[.int .u64 (hI px), .int .u64 (lI px), .int .i64 pn], .agg #[.int .u64 z0, .int .u64 z1, .int .u64 z2], .agg #[.int .u64 t0, .int .u64 t1, .int .u64 t2]] (by kernel_rfl) ⟨hS', hP, kB'.drew⟩ ?walk ?fin
        case walk =>
         dsimp only [List.take]
         refine q_run (v := .agg #[.int .u64 s0, .int .u64 s1, .int .u64 s2]) (by rfl) ?_ ?_
         · (intro w9 hC; obtain ⟨⟨r0, r1, r2, -, -, -⟩, ⟨q0, q1, q2, -, -, -⟩, -⟩ := hC; go_simp)
         simp only [Act.put, List.setIfInBounds_toArray, List.set_cons_zero, List.set_cons_succ]
         refine q_run (v := .int .i64 F) (by rfl) ?_ ?_
         · (intro w9 hC; obtain ⟨⟨r0, r1, r2, -, -, -⟩, ⟨q0, q1, q2, -, -, -⟩, -⟩ := hC; go_simp)
         simp only [Act.put, List.setIfInBounds_toArray, List.set_cons_zero, List.set_cons_succ]
         refine q_run (v := .agg #[.int .u64 (hI px), .int .u64 (lI px), .int .i64 pn]) (by rfl) ?_ ?_
         · (intro w9 hC; obtain ⟨⟨r0, r1, r2, -, -, -⟩, ⟨q0, q1, q2, -, -, -⟩, -⟩ := hC; go_simp)
         simp only [Act.put, List.setIfInBounds_toArray, List.set_cons_zero, List.set_cons_succ]
         refine q_call (v := .agg #[.int .u64 z0, .int .u64 z1, .int .u64 z2]) (f := 65) (args := #[.int .i64 F, .agg #[.int .u64 (hI px), .int .u64 (lI px), .int .i64 pn]]) (by rfl) ?_ ?_ ?_
         · (intro w9 hC; clear hC; go_simp)
         · exact fun w9 hC => (Ksize w9).mono fun e w' ⟨he, hb⟩ => ⟨he, hC.1.below hb, hC.2.1.below hb, keepb hb hC.2.2⟩
         simp only [Act.put, List.setIfInBounds_toArray, List.set_cons_zero, List.set_cons_succ]
         refine q_call (v := .agg #[.int .u64 t0, .int .u64 t1, .int .u64 t2]) (f := 64) (args := #[.agg #[.int .u64 s0, .int .u64 s1, .int .u64 s2], .agg #[.int .u64 z0, .int .u64 z1, .int .u64 z2]]) (by rfl) ?_ ?_ ?_
         · (intro w9 hC; clear hC; go_simp)
         · exact fun w9 hC => (Kplus w9).mono fun e w' ⟨he, hb⟩ => ⟨he, hC.1.below hb, hC.2.1.below hb, keepb hb hC.2.2⟩
         simp only [Act.put, List.setIfInBounds_toArray, List.set_cons_zero, List.set_cons_succ]
         refine wpQuiet_nil ?_
         simp only [putAll, Act.put, List.setIfInBounds_toArray, List.set_cons_zero, List.set_cons_succ]
        case fin =>
          intro W hC
          obtain ⟨hE, -, kE⟩ := hC
          obtain ⟨r0, r1, r2, r3, r4, r5⟩ := id hE
          simp only [putAll, Act.put, List.setIfInBounds_toArray, List.set_cons_zero, List.set_cons_succ]
          dsimp only [List.drop]
          have hE2 := hE.set t0 t1 t2
          have kE2 := bset3 kE (Nat.le_refl _) (.int .u64 t0) (.int .u64 t1) (.int .u64 t2)
          clear x0 x1 x2 hP hS hS' kB kB' Ksize Kplus
          go_wp2
          go_roundw
          case rel =>
            obtain ⟨e0, e1, e2⟩ := HT.out
            exact ⟨k + 1, by omega, by go_num, by rw [← e0, ← e1, ← e2]; exact hE2, kE2⟩
          case measure => simp [intOf]; omega
    · have hd : decide ((k : Int) < (m.length : Int)) = false := by simpa using hlt
      have HE : Hid (m.take k = m) := List.take_of_length_le (by omega)
      have hR := R1.below kB
      have hne : ¬ w1.heap.size = w.heap.size := by have := R1.lt; omega
      have hne' : ¬ w.heap.size = w1.heap.size := by omega
      rw [HE.out] at hS
      have HC : Hid (costV (sizN F m) = .agg #[.int .u64 (cost0 (sizN F m)), .int .u64 (cost1 (sizN F m)), .int .u64 (cost2 (sizN F m))]) := rfl
      revert hS HC
      generalize cost0 (sizN F m) = s0
      generalize cost1 (sizN F m) = s1
      generalize cost2 (sizN F m) = s2
      intro hS HC
      obtain ⟨r0, r1, r2, r3, r4, r5⟩ := id hR
      obtain ⟨q0, q1, q2, q3, q4, q5⟩ := id hS
      have kE := bset3 (keepb kB kB1) (Nat.le_refl _) (.int .u64 s0) (.int .u64 s1) (.int .u64 s2)
      obtain ⟨v0, v1, v2, -, -, -⟩ := hR.set s0 s1 s2
      clear hR hS kB R1
      go_wp2
      exact bodyPost_ret (v := .tuple #[.agg #[.int .u64 s0, .int .u64 s1, .int .u64 s2], .int .i64 0]) (by simp [results, Tryd.results27, go_sem, v0, v1, v2]) rfl ⟨by rw [HC.out], kE⟩
end Go.Proofs.YtkgfeegcdohkdaaDoor
/-
  What the call of the law's some does.
-/
namespace Go.Proofs.YtkgfeegcdohkdaaDoor
open Go.RowKit
set_option linter.unusedSimpArgs false
set_option linter.unusedVariables false

/-- Right prefixes of a family, of words and lengths. -/
def someP (F : Int) (p : BitVec 128 × Int) : BitVec 128 × Int := (someW F p.1 p.2, p.2 % (F + 1))
def someL (F : Int) (l : List (BitVec 128 × Int)) : List (BitVec 128 × Int) := (l.take 200).map (someP F)
theorem some_take (F : Int) (l : List (BitVec 128 × Int)) (k : Nat) (hk : k < l.length) : (l.take (k + 1)).map (someP F) = (l.take k).map (someP F) ++ [(someW F l[k].1 l[k].2, l[k].2 % (F + 1))] := by
  rw [List.take_succ_eq_append_getElem hk, List.map_append]
  rfl
theorem own_belowP {W W' : World} {base n : Nat} {v : Value} {xs : List Value} (hb : Below W.heap.size W W') (h : Hid (W.ownsRow base 26 3 v n xs)) : Hid (W'.ownsRow base 26 3 v n xs) := own_below hb h.out
theorem some_end (F : Int) (l : List (BitVec 128 × Int)) (k : Nat) (h2 : k ≤ 200) (h : l.length ≤ k ∨ 200 ≤ k) : someL F l = (l.take k).map (someP F) := by
  unfold someL
  rcases h with h | h
  · rw [List.take_of_length_le (by omega), List.take_of_length_le h]
  · rw [show k = 200 by omega]
/-- A list that is handed in, in memory. -/
def Rv (W : World) (v : Value) (l : List (BitVec 128 × Int)) : Prop := ∃ ao c, v = .slice ao l.length c ∧ (l = [] ∨ ∃ b off, ao = some ⟨b, off, none⟩ ∧ ∀ j u, (rowP l)[j]? = some u → W.cell? ⟨b, off + j, none⟩ = some u)
theorem Rv.below {W W' : World} {v : Value} {l : List (BitVec 128 × Int)} (h : Rv W v l) (hb : Below W.heap.size W W') : Rv W' v l := by
  obtain ⟨ao, c, e, h⟩ := h
  refine ⟨ao, c, e, ?_⟩
  rcases h with h | ⟨b, off, e2, h⟩
  · exact .inl h
  · exact .inr ⟨b, off, e2, fun j u hj => keepc hb (h j u hj)⟩
set_option maxRecDepth 20000 in
set_option maxHeartbeats 4000000 in
theorem lsome_any (F : Int) (v : Value) (l : List (BitVec 128 × Int)) (w : World) (hv : Rv w v l) (h0 : 0 ≤ F) (h1 : F ≤ 128) :
    Calls Tryd.prog 30 #[.int .i64 F, v] w fun e w' => (∃ v', e = .returned v' ∧ w'.ownsRow w.heap.size 26 3 v' (someL F l).length (rowP (someL F l))) ∧ Below w.heap.size w w' := by
  obtain ⟨i0, hi, hz0, hz1, hz2⟩ := info_parts Tryd.infoP
  obtain ⟨ao, c, rfl, hv⟩ := hv
  have HV : Hid (l = [] ∨ ∃ b off, ao = some ⟨b, off, none⟩ ∧ ∀ j u, (rowP l)[j]? = some u → w.cell? ⟨b, off + j, none⟩ = some u) := hv
  clear hv
  go_enter Tryd.func30, Tryd.ntmps30
  go_wp2_with fail
  go_loopw [5, 6] (fun dv i wr => ∃ k : Nat, k ≤ l.length ∧ k ≤ 200 ∧ i = .int .i64 k ∧ wr.ownsRow w.heap.size 26 3 dv k (rowP ((l.take k).map (someP F))) ∧ Below w.heap.size w wr) (fun _ i _ => l.length - (intOf i).toNat)
  case atStart => exact ⟨0, by omega, by omega, rfl, by simpa [rowP] using World.ownsRow_nil _ _ _ _, Below.refl _ _⟩
  case round =>
    obtain ⟨k, hk, hk2, rfl, hown, kB⟩ := hrel
    by_cases hlt : (k : Int) < (l.length : Int) ∧ (k : Int) < 200
    · obtain ⟨hlt, hl2⟩ := hlt
      have hks : k < l.length := by omega
      rcases HV.out with h | ⟨b, off, rfl, hc⟩
      · rw [h] at hks; simp at hks
      · obtain ⟨z0, z1, z2⟩ := rw_cells hc k hks
        have KS := fun w => some_any F l[k].1 l[k].2 w h0 h1
        have HT : Hid ((l.take (k + 1)).map (someP F) = (l.take k).map (someP F) ++ [(someW F l[k].1 l[k].2, l[k].2 % (F + 1))]) := some_take F l k hks
        clear HV hc
        revert KS HT
        generalize someW F l[k].1 l[k].2 = sx
        generalize l[k].2 % (F + 1) = sn
        intro KS HT
        generalize l[k].1 = px at *
        generalize l[k].2 = pn at *
        have HA : Hid (∀ W, Below w.heap.size w W → W.cell? ⟨b, off + k * 3, none⟩ = some (.int .u64 (hI px)) ∧ W.cell? ⟨b, off + k * 3 + 1, none⟩ = some (.int .u64 (lI px)) ∧ W.cell? ⟨b, off + k * 3 + 2, none⟩ = some (.int .i64 pn) ∧ Below w.heap.size w W) := fun W hb => ⟨keepc hb z0, keepc hb z1, keepc hb z2, hb⟩
        obtain ⟨x0, x1, x2, -⟩ := HA.out wr kB
        have hown : Hid (wr.drew.ownsRow w.heap.size 26 3 u5 k (rowP ((l.take k).map (someP F)))) := hown.drew
        have h47 : (k + 1) * 24 ≤ 140737488355328 := by omega
        have h63 : k + 1 ≤ maxLen := by unfold maxLen; omega
        clear z0 z1 z2
        go_wp2_with fail
        have hbl := kB.drew
        go_region_held3 (fun w' => w'.cell? ⟨b, off + k * 3, none⟩ = some (.int .u64 (hI px)) ∧ w'.cell? ⟨b, off + k * 3 + 1, none⟩ = some (.int .u64 (lI px)) ∧ w'.cell? ⟨b, off + k * 3 + 2, none⟩ = some (.int .i64 pn) ∧ Below w.heap.size w w')
          (first
            | exact HA.out _ hbl
            | (obtain ⟨-, -, -, k9⟩ := ‹_ ∧ _ ∧ _ ∧ Below _ _ _›; exact HA.out _ (k9.grown hgrow k9.size (fun z hz => (hown.out.lt z hz).1)))
            | (obtain ⟨-, -, -, k9⟩ := ‹_ ∧ _ ∧ _ ∧ Below _ _ _›; exact HA.out _ (k9.alloc k9.size _))
            | (obtain ⟨-, -, -, k9⟩ := ‹_ ∧ _ ∧ _ ∧ Below _ _ _›; exact HA.out _ k9)
            | (obtain ⟨-, -, -, k9⟩ := ‹_ ∧ _ ∧ _ ∧ Below _ _ _›; exact HA.out _ (keepb hb0 k9)))
          (first
            | (go_at_call 14; refine (KS _).mono ?_; rintro e w0 ⟨rfl, hb0⟩; have hown := own_belowP hb0 hown)
            | (refine step_append_lies _ rfl (.tmp 17) (.tmp 30) 29 rfl w.heap.size 26 i0 (.agg #[.int .u64 0, .int .u64 0, .int .i64 0]) 3 24 Tryd.underlying29 hi hz0 hz1 hz2 rfl (by decide) _ _ _ rfl (hown.out.alloc _) _ 1 1 [.int .u64 (hI sx), .int .u64 (lI sx), .int .i64 sn] rfl rfl (newsP _ _ _ _ _) (threeP _ _ _) (by decide) h63 h47 (by have := (‹_ ∧ _ ∧ _ ∧ Below _ _ _›).2.2.2.size; simp at this; simp; omega) _ rfl ?_; intro g cap w4 hown4 hgrow hat hlt4))
        obtain ⟨-, -, -, k9⟩ := ‹_ ∧ _ ∧ _ ∧ Below _ _ _›
        have HO : Hid (w4.ownsRow w.heap.size 26 3 (.slice (some ⟨g, 0, none⟩) (k + 1) cap) (k + 1) (rowP ((l.take (k + 1)).map (someP F)))) := by
          show World.ownsRow _ _ _ _ _ _ _
          rw [HT.out, rowP_one]
          exact hown4
        clear hown4 hgrow hat hlt4 hown HT HA x0 x1 x2 hb0 hbl KS kB
        have mk : IntKind.i64.wrap ((k : Int) + 1) = (k : Int) + 1 := by rw [IntKind.wrap_i64]; omega
        go_wp2
        go_roundw
        case rel => exact ⟨k + 1, by omega, by omega, by go_num, HO.out, k9⟩
        case measure => simp [intOf]; omega
    · have HE : Hid (someL F l = (l.take k).map (someP F)) := some_end F l k hk2 (by omega)
      have HK : Hid ((someL F l).length = k) := by
        show _ = _
        rw [HE.out]; simp; omega
      have hown : Hid (World.ownsRow _ _ _ _ _ _ _) := hown
      by_cases hd : (k : Int) < (l.length : Int)
      · have hd2 : decide ((k : Int) < 200) = false := by simp; omega
        clear hlt
        go_wp2
        go_ret
        refine ⟨⟨_, rfl, ?_⟩, kB⟩
        rw [HK.out, HE.out]
        exact hown.out
      · have hd2 : decide ((k : Int) < (l.length : Int)) = false := by simpa using hd
        clear hlt
        go_wp2
        go_ret
        refine ⟨⟨_, rfl, ?_⟩, kB⟩
        rw [HK.out, HE.out]
        exact hown.out
set_option maxHeartbeats 1000000 in
theorem within4_any (a n : Int) (w : World) (h0 : 0 < n) (h1 : n ≤ 9223372036854775807) :
    Calls Tryd.prog 38 #[.int .i64 a, .int .i64 n] w fun e w' => e = .returned (.int .i64 (a % n)) ∧ w' = w := by
  have b1 := Int.emod_nonneg a (b := n) (by omega)
  have b2 := Int.emod_lt_of_pos a h0
  have hn0 : ¬ n = 0 := by omega
  have hnb : (n == 0) = false := by simp; omega
  rcases tmod_ways a n h0 with ⟨c, e⟩ | ⟨c, e⟩
  · have hw : IntKind.i64.wrap (a.tmod n) = a.tmod n := by rw [IntKind.wrap_i64]; omega
    have hw2 : IntKind.i64.wrap (a.tmod n + n) = a.tmod n + n := by rw [IntKind.wrap_i64]; omega
    rw [← e]
    clear e b1 b2
    go_enter Tryd.func38, Tryd.ntmps38
    go_wp2
    go_ret
    exact ⟨rfl, rfl⟩
  · have hw : IntKind.i64.wrap (a.tmod n) = a.tmod n := by rw [IntKind.wrap_i64]; omega
    rw [← e]
    clear e b1 b2
    go_enter Tryd.func38, Tryd.ntmps38
    go_wp2
    go_ret
    exact ⟨rfl, rfl⟩
end Go.Proofs.YtkgfeegcdohkdaaDoor
