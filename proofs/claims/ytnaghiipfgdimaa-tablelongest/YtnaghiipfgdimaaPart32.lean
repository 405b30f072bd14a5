/-
  Part 32 of the proof: 5 texts, one behind the other.
-/
import Derived.Test.YtnaghiipfgdimaaPart31
import Derived.Test.YtnaghiipfgdimaaPart26
import Derived.Test.YtnaghiipfgdimaaPart23
import Derived.Test.YtnaghiipfgdimaaPart10
import Derived.Test.YtnaghiipfgdimaaPart24
import Derived.Test.YtnaghiipfgdimaaPart12
/-
  What the law's Right, known and made tell.
-/
namespace Go.Proofs.Ytnaghiipfgdimaa
open Go.RowKit Go.Shelf
set_option linter.unusedSimpArgs false
set_option linter.unusedVariables false

set_option maxHeartbeats 2000000 in
theorem rightI_any (F : Int) (v : Value) (l : List Rte) (w : World) (hv : RwR w v l) :
    Calls Try.prog 12 #[.agg #[.int .i64 F, v]] w fun e w' => (∃ r : Bool, (r = true ↔ RightT F l) ∧ e = .returned (.bool r)) ∧ Below w.heap.size w w' := by
  have b1 := bl1 w (.cells #[.int .i64 F, v] 25)
  have KC := rcheckT_any F v l _ (hv.below b1)
  obtain ⟨p0, p1⟩ := att_new w w.heap.size F v 25 rfl
  have HB := hidR b1
  obtain ⟨ao, c, rfl, -⟩ := hv
  clear b1
  by_cases hl : l.length ≤ 3000
  · have h1 : (l.length : Int) ≤ 3000 := by omega
    go_enter Try.func12, Try.ntmps12
    go_wp2_with fail
    refine KC.mono ?_
    rintro e w1 ⟨⟨z, hz, rfl⟩, hb⟩
    have kB := keepb hb HB.out
    have HE : Hid ((z == 0) = true ↔ RightT F l) := hidR (by
      constructor
      · intro h
        have h0 : z = 0 := by simpa using h
        subst h0
        have hr : rtsE F l = 0 := Classical.byContradiction fun hn => hn (hz.1 hn).symm
        refine ⟨hl, hr, ?_⟩
        rcases hz.2 hr with ⟨q, -⟩ | ⟨-, q⟩
        · exact q
        · omega
      · intro ⟨_, h1, h2⟩
        rcases hz.2 h1 with ⟨-, q⟩ | ⟨q, -⟩
        · simp [q]
        · exact absurd h2 q)
    clear KC hb HB p0 p1 hz
    go_wp2
    go_ret
    exact ⟨⟨z == 0, HE.out, rfl⟩, kB⟩
  · have h1 : ¬ (l.length : Int) ≤ 3000 := by omega
    have HN : Hid (¬ RightT F l) := hidR (fun h => hl h.1)
    clear KC
    go_enter Try.func12, Try.ntmps12
    go_wp2
    refine bodyPost_ret (v := .bool false) (by simp [results, Try.results12, go_sem]) rfl ⟨.inl ⟨HN.out, rfl⟩, HB.out⟩
theorem rightTab8 {F : Int} {l : List Rte} (h : RightT F l) {z : Int} (hz : TabE F l z) : z = 0 := by
  rcases hz.2 h.2.1 with ⟨-, q⟩ | ⟨q, -⟩
  · exact q
  · exact absurd h.2.2 q
/-- What made tells. -/
def MadeQ (F : Int) (l : List Rte) (h0 : Nat) (e : Ending) (w' : World) : Prop := (¬ (RightT F l ∧ l.length ≤ 300) ∧ e = .returned (.pointer none)) ∨ ((RightT F l ∧ l.length ≤ 300) ∧ ∃ (B g cap wg wc : Nat) (ws : List (BitVec 128)) (L : List Nd), e = .returned (.pointer (some ⟨B, 0, none⟩)) ∧ TrT w' B F g cap wg wc L ws ∧ Tre l ws L ∧ h0 ≤ B ∧ h0 ≤ g ∧ h0 ≤ wg)
/-- The chapter's first example. -/
def exR : List Rte := [((0#128, 2), 3), ((170141183460469231731687303715884105728#128, 1), 1)]
def exN : List Nd := (bkW 0 (grwG exR (0#128, 0) grO).1 (grwG exR (0#128, 0) grO).2.2).1
theorem ex_len : exN.length = 4 := by decide +kernel
theorem ex_hgt : (ndAt exN 0).height = 2 := by decide +kernel
theorem ex_hop : (ndAt exN 2).hop = 3 := by decide +kernel
theorem ex_kid : kidV exN 0 1 = 3 := by decide +kernel
theorem ex_tab : TabE 32 exR 0 := by
  have h1 : rtsE 32 exR = 0 := by decide +kernel
  refine ⟨fun h => absurd h1 h, fun _ => .inl ⟨?_, rfl⟩⟩
  intro a h
  have : a = 0 := by simp [exR] at h; omega
  subst this
  show pcmpZ 0#128 2 170141183460469231731687303715884105728#128 1 < 0
  decide +kernel
theorem tab_one {F : Int} {l : List Rte} {z y : Int} (h : TabE F l z) (k : TabE F l y) : z = y := by
  by_cases c : rtsE F l = 0
  · rcases h.2 c with ⟨a, b⟩ | ⟨a, b⟩ <;> rcases k.2 c with ⟨a2, b2⟩ | ⟨a2, b2⟩
    · rw [b, b2]
    · exact absurd a a2
    · exact absurd a2 a
    · rw [b, b2]
  · rw [h.1 c, k.1 c]
end Go.Proofs.Ytnaghiipfgdimaa
/-
  Edges: between two of them no route begins or ends, so that a table's lookups stay the same there.
-/
namespace Go.Proofs.Ytnaghiipfgdimaa
set_option linter.unusedSimpArgs false
set_option linter.unusedVariables false

/-- Words in order, each once. -/
def Asc (E : List (BitVec 128)) : Prop := E.Pairwise (fun a b => a.toNat < b.toNat)
/-- The edges have both ends of each route. -/
def Ends (F : Int) (E : List (BitVec 128)) (l : List Rte) : Prop := ∀ r ∈ l, r.1.1 ∈ E ∧ (nextB F (lastW F r.1.1 r.1.2) = true → nextV F (lastW F r.1.1 r.1.2) ∈ E)
/-- No edge lies between two words. -/
def Alk (E : List (BitVec 128)) (x y : BitVec 128) : Prop := ∀ z ∈ E, (z.toNat ≤ x.toNat ↔ z.toNat ≤ y.toNat)
theorem Alk.symm {E : List (BitVec 128)} {x y : BitVec 128} (h : Alk E x y) : Alk E y x := fun z hz => (h z hz).symm
theorem has_alk1 (F : Int) (hf : fam F = true) (E : List (BitVec 128)) (l : List Rte) (hE : Ends F E l) (r : Rte) (hr : r ∈ l) (ho : Ro F r) (x y : BitVec 128) (hx : rightE F x = 0) (hy : rightE F y = 0) (h : Alk E x y) (hh : hasR r x = true) : hasR r y = true := by
  obtain ⟨h1, h2⟩ := (hasR_ends F r hf ho x hx).mp hh
  obtain ⟨e1, e2⟩ := hE r hr
  refine (hasR_ends F r hf ho y hy).mpr ⟨(h _ e1).mp h1, ?_⟩
  apply Decidable.byContradiction
  intro q
  obtain ⟨k1, k2, k3, k4⟩ := next_le F _ y (last_right F r hf ho) hy (by omega)
  have := (h _ (e2 k1)).mpr k2
  omega
theorem has_alk (F : Int) (hf : fam F = true) (E : List (BitVec 128)) (l : List Rte) (hE : Ends F E l) (r : Rte) (hr : r ∈ l) (ho : Ro F r) (x y : BitVec 128) (hx : rightE F x = 0) (hy : rightE F y = 0) (h : Alk E x y) : hasR r x = hasR r y := by
  cases hb : hasR r x with
  | true => exact (has_alk1 F hf E l hE r hr ho x y hx hy h hb).symm
  | false =>
    cases hc : hasR r y with
    | false => rfl
    | true =>
      have := has_alk1 F hf E l hE r hr ho y x hy hx h.symm hc
      rw [hb] at this
      cases this
theorem look_alk (F : Int) (hf : fam F = true) (E : List (BitVec 128)) (x y : BitVec 128) (hx : rightE F x = 0) (hy : rightE F y = 0) (h : Alk E x y) : ∀ (l : List Rte) (a : Int), Ends F E l → (∀ r ∈ l, Ro F r) → look x a l = look y a l
  | [], a, _, _ => rfl
  | r :: l, a, hE, hL => by
    rw [look, look, has_alk F hf E (r :: l) hE r (by simp) (hL r (by simp)) x y hx hy h]
    exact look_alk F hf E x y hx hy h l _ (fun q hq => hE q (List.mem_cons_of_mem _ hq)) (fun q hq => hL q (List.mem_cons_of_mem _ hq))
theorem look_bound (F : Int) (x : BitVec 128) : ∀ (l : List Rte) (a : Int), 0 ≤ a → a ≤ 65535 → (∀ r ∈ l, Ro F r) → 0 ≤ look x a l ∧ look x a l ≤ 65535
  | [], a, h0, h1, _ => ⟨h0, h1⟩
  | r :: l, a, h0, h1, hL => by
    rw [look]
    have hr := hL r (by simp)
    refine look_bound F x l _ ?_ ?_ (fun q hq => hL q (List.mem_cons_of_mem _ hq))
    · split
      · exact hr.2.1
      · exact h0
    · split
      · exact hr.2.2
      · exact h1
theorem edg_of (F : Int) (f : BitVec 128 → Int) (hb : ∀ x, 0 ≤ f x ∧ f x ≤ 65535) : ∀ (E : List (BitVec 128)), Asc E → (∀ e ∈ E, rightE F e = 0) → (∀ e ∈ E, ∀ x, rightE F x = 0 → e.toNat ≤ x.toNat → (∀ z ∈ E, z.toNat ≤ x.toNat → z.toNat ≤ e.toNat) → f e = f x) → Edg F f (E.map fun e => (e, f e))
  | [], _, _, _ => trivial
  | e :: E, hS, hR, hA => by
    obtain ⟨s1, s2⟩ := List.pairwise_cons.mp hS
    refine ⟨hR e (by simp), (hb e).1, (hb e).2, ?_, ?_, edg_of F f hb E s2 (fun z hz => hR z (List.mem_cons_of_mem _ hz)) ?_⟩
    · intro d hd
      cases E with
      | nil => simp at hd
      | cons d' E =>
        simp at hd
        subst hd
        exact s1 d' (by simp)
    · intro x hx h1 h2
      refine hA e (by simp) x hx h1 ?_
      intro z hz hzx
      rcases List.mem_cons.mp hz with q | q
      · rw [q]; exact Nat.le_refl _
      · exfalso
        cases E with
        | nil => cases q
        | cons d E =>
          simp at h2
          rcases List.mem_cons.mp q with q | q
          · subst q; omega
          · have := (List.pairwise_cons.mp s2).1 z q
            omega
    · intro z hz x hx h1 h2
      refine hA z (List.mem_cons_of_mem _ hz) x hx h1 ?_
      intro y hy hyx
      rcases List.mem_cons.mp hy with q | q
      · subst q
        have := s1 z hz
        omega
      · exact h2 y q hyx
/-- A function that no edge changes. -/
def Flat (F : Int) (E : List (BitVec 128)) (f : BitVec 128 → Int) : Prop := ∀ x y, rightE F x = 0 → rightE F y = 0 → Alk E x y → f x = f y
theorem asc_head (E : List (BitVec 128)) (hS : Asc E) (h0 : 0#128 ∈ E) : ∃ L, E = 0#128 :: L := by
  cases E with
  | nil => cases h0
  | cons e L =>
    rcases List.mem_cons.mp h0 with q | q
    · exact ⟨L, by rw [q]⟩
    · have := (List.pairwise_cons.mp hS).1 _ q
      simp at this
theorem jn_flat (F : Int) (hf : fam F = true) (f : BitVec 128 → Int) (hb : ∀ x, 0 ≤ f x ∧ f x ≤ 65535) (E : List (BitVec 128)) (hS : Asc E) (h0 : 0#128 ∈ E) (hR : ∀ e ∈ E, rightE F e = 0) (hF : Flat F E f) :
    sgsGo F none (jn F [] (E.map fun e => (e, f e))).reverse = 0 ∧ Says F f (jn F [] (E.map fun e => (e, f e))).reverse := by
  have h := edg_of F f hb E hS hR (fun e he x hx h1 h2 => hF e x (hR e he) hx (fun z hz => ⟨fun q => by omega, fun q => h2 z hz q⟩))
  obtain ⟨L, rfl⟩ := asc_head E hS h0
  exact jn_right F hf f (f 0#128) (L.map fun e => (e, f e)) h
theorem look_flat (F : Int) (hf : fam F = true) (E : List (BitVec 128)) (l : List Rte) (hE : Ends F E l) (hL : ∀ r ∈ l, Ro F r) : Flat F E (fun x => look x 0 l) := fun x y hx hy h => look_alk F hf E x y hx hy h l 0 hE hL
/-- The document's segments are the sweep's. -/
theorem jn_swp (F : Int) (hf : fam F = true) (l : List Rte) (hL : ∀ q ∈ l, Ro F q) (hO : l.Pairwise (fun a b => pcmpZ a.1.1 a.1.2 b.1.1 b.1.2 < 0)) (E : List (BitVec 128)) (hS : Asc E) (h0 : 0#128 ∈ E) (hR : ∀ e ∈ E, rightE F e = 0) (hE : Ends F E l) :
    (jn F [] (E.map fun e => (e, look e 0 l))).reverse = swp F l := by
  obtain ⟨a1, a2⟩ := jn_flat F hf (fun x => look x 0 l) (fun x => look_bound F x l 0 (by omega) (by omega) hL) E hS h0 hR (look_flat F hf E l hE hL)
  obtain ⟨b1, b2⟩ := swp_right F hf l hL hO
  exact segs_unique F _ _ _ none none a1 b1 rfl rfl a2 b2
end Go.Proofs.Ytnaghiipfgdimaa
/-
  Two lists of segments gone through at a time: the stretches that lie in one segment of each part all addresses.
-/
namespace Go.Proofs.Ytnaghiipfgdimaa
set_option linter.unusedSimpArgs false
set_option linter.unusedVariables false

/-- A stretch of addresses, and its next hops in both. -/
abbrev Str := (BitVec 128 × BitVec 128) × (Int × Int)
def comF (s t : Sg) : BitVec 128 := if cmpZ s.1.1 t.1.1 < 0 then t.1.1 else s.1.1
def comL (s t : Sg) : BitVec 128 := if cmpZ t.1.2 s.1.2 < 0 then t.1.2 else s.1.2
def al : List Sg → List Sg → List Str
  | [], _ => []
  | _ :: _, [] => []
  | s :: l, t :: m => ((comF s t, comL s t), (s.2, t.2)) :: (if t.1.2.toNat < s.1.2.toNat then al (s :: l) m else if s.1.2 = t.1.2 then al l m else al l (t :: m))
termination_by l m => l.length + m.length
decreasing_by all_goals (simp; try omega)
theorem com_ways (s t : Sg) : (t.1.2.toNat < s.1.2.toNat ∧ comL s t = t.1.2 ∧ ¬ s.1.2 = t.1.2) ∨ (s.1.2 = t.1.2 ∧ ¬ t.1.2.toNat < s.1.2.toNat ∧ comL s t = s.1.2) ∨ (s.1.2.toNat < t.1.2.toNat ∧ ¬ t.1.2.toNat < s.1.2.toNat ∧ comL s t = s.1.2 ∧ ¬ s.1.2 = t.1.2) := by
  unfold comL
  rcases cmpZ_ways t.1.2 s.1.2 with ⟨h, e⟩ | ⟨h, e⟩ | ⟨h, e⟩
  · left
    refine ⟨h, ?_, fun q => ?_⟩
    · rw [e]; rfl
    · rw [q] at h; omega
  · right; left
    refine ⟨h.symm, ?_, ?_⟩
    · rw [h]; omega
    · rw [e]; rfl
  · right; right
    refine ⟨h, by omega, ?_, fun q => ?_⟩
    · rw [e]; rfl
    · rw [q] at h; omega
theorem comF_ways (s t : Sg) : (s.1.1.toNat ≤ t.1.1.toNat ∧ comF s t = t.1.1) ∨ (t.1.1.toNat ≤ s.1.1.toNat ∧ comF s t = s.1.1) := by
  unfold comF
  rcases cmpZ_ways s.1.1 t.1.1 with ⟨h, e⟩ | ⟨h, e⟩ | ⟨h, e⟩
  · exact .inl ⟨by omega, by rw [e]; rfl⟩
  · exact .inr ⟨by rw [h]; omega, by rw [e]; rfl⟩
  · exact .inr ⟨by omega, by rw [e]; rfl⟩
def nxt (F : Int) (x : BitVec 128) : Option (BitVec 128) := if nextB F x = true then some (nextV F x) else none
/-- Stretches one behind the other, from an address on to the last one, with what two functions say there. -/
def Chn (F : Int) (f g : BitVec 128 → Int) : Option (BitVec 128) → List Str → Prop
  | none, [] => True
  | some c, e :: L => e.1.1 = c ∧ rightE F c = 0 ∧ rightE F e.1.2 = 0 ∧ c.toNat ≤ e.1.2.toNat ∧ (∀ x, rightE F x = 0 → c.toNat ≤ x.toNat → x.toNat ≤ e.1.2.toNat → e.2.1 = f x ∧ e.2.2 = g x) ∧ Chn F f g (nxt F e.1.2) L
  | none, _ :: _ => False
  | some _, [] => False
theorem go_nil (F : Int) (s : Sg) (h : sgsGo F (some s) [] = 0) : nextB F s.1.2 = false := by
  rw [sgsGo, moO] at h
  cases hb : nextB F s.1.2 with
  | false => rfl
  | true => rw [hb] at h; simp at h
theorem al_chn (F : Int) (f g : BitVec 128 → Int) : ∀ (n : Nat) (l m : List Sg) (s t : Sg) (c : BitVec 128), l.length + m.length ≤ n → sgE F s = 0 → sgE F t = 0 → sgsGo F (some s) l = 0 → sgsGo F (some t) m = 0 → Says F f (s :: l) → Says F g (t :: m) → comF s t = c → c.toNat ≤ s.1.2.toNat → c.toNat ≤ t.1.2.toNat → Chn F f g (some c) (al (s :: l) (t :: m)) := by
  intro n
  induction n with
  | zero =>
    intro l m s t c hn hs ht hl hm sf sg hc h1 h2
    have : l = [] := List.eq_nil_of_length_eq_zero (by omega)
    subst this
    have : m = [] := List.eq_nil_of_length_eq_zero (by omega)
    subst this
    obtain ⟨a1, a2, a3, a4, a5⟩ := sgE_zero F s hs
    obtain ⟨b1, b2, b3, b4, b5⟩ := sgE_zero F t ht
    have e1 := go_nil F s hl
    have e2 := go_nil F t hm
    have hcr : rightE F c = 0 := by
      rcases comF_ways s t with ⟨_, q⟩ | ⟨_, q⟩ <;> rw [← hc, q] <;> assumption
    have hcs : s.1.1.toNat ≤ c.toNat ∧ t.1.1.toNat ≤ c.toNat := by
      rcases comF_ways s t with ⟨k, q⟩ | ⟨k, q⟩ <;> rw [← hc, q] <;> omega
    have heq : s.1.2 = t.1.2 := by
      rcases com_ways s t with ⟨k, q, _⟩ | ⟨k, _, q⟩ | ⟨k, _, q, _⟩
      · have := (next_le F t.1.2 s.1.2 b2 a2 k).1
        rw [e2] at this; cases this
      · exact k
      · have := (next_le F s.1.2 t.1.2 a2 b2 k).1
        rw [e1] at this; cases this
    have hL : comL s t = s.1.2 := by
      rcases com_ways s t with ⟨k, q, r⟩ | ⟨k, _, q⟩ | ⟨k, _, q, _⟩
      · exact absurd heq r
      · exact q
      · exact q
    rw [al]
    refine ⟨hc, hcr, by rw [hL]; exact a2, by rw [hL]; exact h1, ?_, ?_⟩
    · intro x hx k1 k2
      rw [hL] at k2
      exact ⟨sf s (by simp) x hx (by omega) k2, sg t (by simp) x hx (by omega) (by rw [← heq]; exact k2)⟩
    · rw [hL]
      unfold nxt
      rw [e1, if_neg (by decide), if_neg (by rw [heq]; omega), if_pos heq, al]
      trivial
  | succ n ih =>
    intro l m s t c hn hs ht hl hm sf sg hc h1 h2
    obtain ⟨a1, a2, a3, a4, a5⟩ := sgE_zero F s hs
    obtain ⟨b1, b2, b3, b4, b5⟩ := sgE_zero F t ht
    have hcr : rightE F c = 0 := by
      rcases comF_ways s t with ⟨_, q⟩ | ⟨_, q⟩ <;> rw [← hc, q] <;> assumption
    have hcs : s.1.1.toNat ≤ c.toNat ∧ t.1.1.toNat ≤ c.toNat := by
      rcases comF_ways s t with ⟨k, q⟩ | ⟨k, q⟩ <;> rw [← hc, q] <;> omega
    have sf' : ∀ l', (∀ u ∈ l', u ∈ l) → Says F f l' := fun l' h u hu => sf u (List.mem_cons_of_mem _ (h u hu))
    have sg' : ∀ l', (∀ u ∈ l', u ∈ m) → Says F g l' := fun l' h u hu => sg u (List.mem_cons_of_mem _ (h u hu))
    rw [al]
    rcases com_ways s t with ⟨k, q, r⟩ | ⟨k, k', q⟩ | ⟨k, k', q, r⟩
    · refine ⟨hc, hcr, by rw [q]; exact b2, by rw [q]; exact h2, ?_, ?_⟩
      · intro x hx k1 k2
        rw [q] at k2
        replace k2 : x.toNat ≤ t.1.2.toNat := k2
        exact ⟨sf s (by simp) x hx (by omega) (by omega), sg t (by simp) x hx (by omega) k2⟩
      · rw [q, if_pos k]
        obtain ⟨n1, n2, n3, n4⟩ := next_le F t.1.2 s.1.2 b2 a2 k
        cases m with
        | nil => have := go_nil F t hm; rw [n1] at this; cases this
        | cons t' m =>
          obtain ⟨g1, g2, g3, g4, g5⟩ := sgsGo_cons F _ _ _ hm
          have g3 : t'.1.1 = nextV F t.1.2 := g3
          obtain ⟨d1, d2, d3, d4, d5⟩ := sgE_zero F t' g1
          unfold nxt
          rw [if_pos n1]
          refine ih l m s t' _ (by simp at hn; omega) hs g1 hl g5 sf (sg' _ (fun u hu => hu)) ?_ n2 (by rw [← g3]; exact d5)
          rcases comF_ways s t' with ⟨w1, w2⟩ | ⟨w1, w2⟩
          · rw [w2, g3]
          · rw [g3] at w1
            omega
    · refine ⟨hc, hcr, by rw [q]; exact a2, by rw [q]; exact h1, ?_, ?_⟩
      · intro x hx k1 k2
        rw [q] at k2
        replace k2 : x.toNat ≤ s.1.2.toNat := k2
        exact ⟨sf s (by simp) x hx (by omega) k2, sg t (by simp) x hx (by omega) (by rw [← k]; exact k2)⟩
      · rw [q, if_neg k', if_pos k]
        cases l with
        | nil =>
          have e1 := go_nil F s hl
          cases m with
          | nil => unfold nxt; rw [e1, if_neg (by decide), al]; trivial
          | cons t' m =>
            obtain ⟨g1, g2, g3, g4, g5⟩ := sgsGo_cons F _ _ _ hm
            have g2 : nextB F t.1.2 = true := g2
            rw [← k, e1] at g2
            cases g2
        | cons s' l =>
          obtain ⟨f1, f2, f3, f4, f5⟩ := sgsGo_cons F _ _ _ hl
          have f2 : nextB F s.1.2 = true := f2
          have f3 : s'.1.1 = nextV F s.1.2 := f3
          cases m with
          | nil => have := go_nil F t hm; rw [← k, f2] at this; cases this
          | cons t' m =>
            obtain ⟨g1, g2, g3, g4, g5⟩ := sgsGo_cons F _ _ _ hm
            have g3 : t'.1.1 = nextV F t.1.2 := g3
            obtain ⟨d1, d2, d3, d4, d5⟩ := sgE_zero F t' g1
            obtain ⟨c1, c2, c3, c4, c5⟩ := sgE_zero F s' f1
            unfold nxt
            rw [if_pos f2]
            refine ih l m s' t' _ (by simp at hn; omega) f1 g1 f5 g5 (sf' _ (fun u hu => hu)) (sg' _ (fun u hu => hu)) ?_ (by rw [← f3]; exact c5) (by rw [k, ← g3]; exact d5)
            rcases comF_ways s' t' with ⟨w1, w2⟩ | ⟨w1, w2⟩
            · rw [w2, g3, k]
            · rw [w2, f3]
    · refine ⟨hc, hcr, by rw [q]; exact a2, by rw [q]; exact h1, ?_, ?_⟩
      · intro x hx k1 k2
        rw [q] at k2
        replace k2 : x.toNat ≤ s.1.2.toNat := k2
        exact ⟨sf s (by simp) x hx (by omega) k2, sg t (by simp) x hx (by omega) (by omega)⟩
      · rw [q, if_neg k', if_neg r]
        obtain ⟨n1, n2, n3, n4⟩ := next_le F s.1.2 t.1.2 a2 b2 k
        cases l with
        | nil => have := go_nil F s hl; rw [n1] at this; cases this
        | cons s' l =>
          obtain ⟨g1, g2, g3, g4, g5⟩ := sgsGo_cons F _ _ _ hl
          have g3 : s'.1.1 = nextV F s.1.2 := g3
          obtain ⟨d1, d2, d3, d4, d5⟩ := sgE_zero F s' g1
          unfold nxt
          rw [if_pos n1]
          refine ih l m s' t _ (by simp at hn; omega) g1 ht g5 hm (sf' _ (fun u hu => hu)) sg ?_ (by rw [← g3]; exact d5) n2
          rcases comF_ways s' t with ⟨w1, w2⟩ | ⟨w1, w2⟩
          · rw [g3] at w1
            omega
          · rw [w2, g3]
/-- Two whole right lists. -/
theorem al_all (F : Int) (f g : BitVec 128 → Int) (l m : List Sg) (hl : sgsGo F none l = 0) (hm : sgsGo F none m = 0) (sf : Says F f l) (sg : Says F g m) : Chn F f g (some 0#128) (al l m) := by
  cases l with
  | nil => rw [sgsGo, moO] at hl; simp at hl
  | cons s l =>
    cases m with
    | nil => rw [sgsGo, moO] at hm; simp at hm
    | cons t m =>
      obtain ⟨f1, f2, f3, f4, f5⟩ := sgsGo_cons F _ _ _ hl
      obtain ⟨g1, g2, g3, g4, g5⟩ := sgsGo_cons F _ _ _ hm
      have f3 : s.1.1 = 0#128 := f3
      have g3 : t.1.1 = 0#128 := g3
      refine al_chn F f g _ l m s t _ (Nat.le_refl _) f1 g1 f5 g5 sf sg ?_ (by simp) (by simp)
      rcases comF_ways s t with ⟨_, w⟩ | ⟨_, w⟩
      · rw [w, g3]
      · rw [w, f3]
/-- The first address that two functions don't lead alike. -/
def Unl (F : Int) (f g : BitVec 128 → Int) : Option (BitVec 128) → Prop
  | some a => rightE F a = 0 ∧ f a ≠ g a ∧ ∀ z, rightE F z = 0 → z.toNat < a.toNat → f z = g z
  | none => ∀ z, rightE F z = 0 → f z = g z
theorem unl_one (F : Int) (f g : BitVec 128 → Int) (a b : Option (BitVec 128)) (ha : Unl F f g a) (hb : Unl F f g b) : a = b := by
  cases a with
  | none =>
    cases b with
    | none => rfl
    | some b => exact absurd (ha b hb.1) hb.2.1
  | some a =>
    cases b with
    | none => exact absurd (hb a ha.1) ha.2.1
    | some b =>
      congr 1
      apply BitVec.eq_of_toNat_eq
      apply Decidable.byContradiction
      intro q
      by_cases h : a.toNat < b.toNat
      · exact ha.2.1 (hb.2.2 a ha.1 h)
      · exact hb.2.1 (ha.2.2 b hb.1 (by omega))
def frs (L : List Str) : Option (BitVec 128) := (L.find? (fun e => e.2.1 != e.2.2)).map (·.1.1)
theorem chn_unl (F : Int) (f g : BitVec 128 → Int) : ∀ (L : List Str) (c : BitVec 128), Chn F f g (some c) L → (∀ z, rightE F z = 0 → z.toNat < c.toNat → f z = g z) → Unl F f g (frs L)
  | [], c, h, _ => h.elim
  | e :: L, c, h, hz => by
    obtain ⟨h1, h2, h3, h4, h5, h6⟩ := h
    unfold frs
    rw [List.find?_cons]
    cases hb : (e.2.1 != e.2.2) with
    | true =>
      simp only [Option.map_some]
      have hb : e.2.1 ≠ e.2.2 := by simpa using hb
      obtain ⟨k1, k2⟩ := h5 c h2 (Nat.le_refl _) h4
      refine ⟨by rw [h1]; exact h2, ?_, ?_⟩
      · rw [h1, ← k1, ← k2]; exact hb
      · intro z hz1 hz2
        rw [h1] at hz2
        exact hz z hz1 hz2
    | false =>
      have hb : e.2.1 = e.2.2 := by simpa using hb
      have hz' : ∀ z, rightE F z = 0 → z.toNat ≤ e.1.2.toNat → f z = g z := by
        intro z hz1 hz2
        by_cases q : z.toNat < c.toNat
        · exact hz z hz1 q
        · obtain ⟨k1, k2⟩ := h5 z hz1 (by omega) hz2
          rw [← k1, ← k2]; exact hb
      simp only
      unfold nxt at h6
      by_cases hn : nextB F e.1.2 = true
      · rw [if_pos hn] at h6
        refine chn_unl F f g L _ h6 ?_
        intro z hz1 hz2
        refine hz' z hz1 ?_
        apply Decidable.byContradiction
        intro q
        have := (next_le F e.1.2 z h3 hz1 (by omega)).2.1
        omega
      · rw [if_neg hn] at h6
        cases L with
        | nil =>
          intro z hz1
          refine hz' z hz1 ?_
          apply Decidable.byContradiction
          intro q
          exact hn (next_le F e.1.2 z h3 hz1 (by omega)).1
        | cons _ _ => exact h6.elim
theorem greatest (z : BitVec 128) : ∀ (R : List (BitVec 128)), (∃ d ∈ R, d.toNat ≤ z.toNat) → ∃ e ∈ R, e.toNat ≤ z.toNat ∧ ∀ q ∈ R, q.toNat ≤ z.toNat → q.toNat ≤ e.toNat := by
  intro R
  induction R with
  | nil => rintro ⟨d, h, _⟩; cases h
  | cons r R ihR =>
    rintro ⟨d, h1, h2⟩
    by_cases hR' : ∃ d ∈ R, d.toNat ≤ z.toNat
    · obtain ⟨e, e1, e2, e3⟩ := ihR hR'
      by_cases hrz : r.toNat ≤ z.toNat ∧ e.toNat < r.toNat
      · refine ⟨r, by simp, hrz.1, ?_⟩
        intro x hx hxz
        rcases List.mem_cons.mp hx with rfl | hx
        · exact Nat.le_refl _
        · have := e3 x hx hxz; omega
      · refine ⟨e, List.mem_cons_of_mem _ e1, e2, ?_⟩
        intro x hx hxz
        rcases List.mem_cons.mp hx with rfl | hx
        · omega
        · exact e3 x hx hxz
    · have : d = r := by
        rcases List.mem_cons.mp h1 with q | q
        · exact q
        · exact absurd ⟨d, q, h2⟩ hR'
      subst this
      refine ⟨d, by simp, h2, ?_⟩
      intro x hx hxz
      rcases List.mem_cons.mp hx with rfl | hx
      · exact Nat.le_refl _
      · exact absurd ⟨x, hx, hxz⟩ hR'
/-- The first edge at which two functions say otherwise. -/
theorem edge_unl (F : Int) (f g : BitVec 128 → Int) (E : List (BitVec 128)) (hS : Asc E) (h0 : 0#128 ∈ E) (hR : ∀ e ∈ E, rightE F e = 0) (hf : Flat F E f) (hg : Flat F E g) : Unl F f g (E.find? (fun e => f e != g e)) := by
  have key : ∀ (P L : List (BitVec 128)), E = P ++ L → (∀ p ∈ P, f p = g p) → Unl F f g (L.find? (fun e => f e != g e)) := by
    intro P L
    induction L generalizing P with
    | nil =>
      intro hE hP z hz
      obtain ⟨e, e1, e2, e3⟩ := greatest z E ⟨0#128, h0, by simp⟩
      have hA : Alk E e z := fun y hy => ⟨fun q => by omega, fun q => e3 y hy q⟩
      rw [← hf e z (hR e e1) hz hA, ← hg e z (hR e e1) hz hA]
      rw [List.append_nil] at hE
      rw [hE] at e1
      exact hP e e1
    | cons a L ih =>
      intro hE hP
      rw [List.find?_cons]
      cases hb : (f a != g a) with
      | true =>
        have hb : f a ≠ g a := by simpa using hb
        refine ⟨hR a (by rw [hE]; simp), hb, ?_⟩
        intro z hz hza
        have hS' : Asc (P ++ a :: L) := by rw [← hE]; exact hS
        obtain ⟨s1, s2, s3⟩ := List.pairwise_append.mp hS'
        have h0P : 0#128 ∈ P := by
          rw [hE] at h0
          rcases List.mem_append.mp h0 with q | q
          · exact q
          · exfalso
            have : a.toNat = 0 := by
              rcases List.mem_cons.mp q with q | q
              · rw [← q]; rfl
              · have := (List.pairwise_cons.mp s2).1 _ q
                simp at this
            omega
        obtain ⟨e, e1, e2, e3⟩ := greatest z P ⟨0#128, h0P, by simp⟩
        have eE : e ∈ E := by rw [hE]; exact List.mem_append_left _ e1
        have hA : Alk E e z := by
          intro y hy
          refine ⟨fun q => by omega, fun q => ?_⟩
          rw [hE] at hy
          rcases List.mem_append.mp hy with hy | hy
          · exact e3 y hy q
          · exfalso
            rcases List.mem_cons.mp hy with rfl | hy
            · omega
            · have := (List.pairwise_cons.mp s2).1 _ hy
              omega
        rw [← hf e z (hR e eE) hz hA, ← hg e z (hR e eE) hz hA]
        exact hP e e1
      | false =>
        have hb : f a = g a := by simpa using hb
        refine ih (P ++ [a]) (by rw [hE]; simp) ?_
        intro p hp
        rcases List.mem_append.mp hp with q | q
        · exact hP p q
        · simp at q; rw [q]; exact hb
  exact key [] E rfl (fun p hp => by cases hp)
end Go.Proofs.Ytnaghiipfgdimaa
/-
  What the calls of package algebra's common and of Unlike's question do.
-/
namespace Go.Proofs.Ytnaghiipfgdimaa
open Go.RowKit
set_option linter.unusedSimpArgs false
set_option linter.unusedVariables false

/-- A stretch in a block that may be written. -/
def AtY (W : World) (B : Nat) (x y : BitVec 128) : Prop := (W.cell? ⟨B, 0, none⟩ = some (.int .u64 (hI x)) ∧ W.cell? ⟨B, 1, none⟩ = some (.int .u64 (lI x)) ∧ W.cell? ⟨B, 2, none⟩ = some (.int .u64 (hI y)) ∧ W.cell? ⟨B, 3, none⟩ = some (.int .u64 (lI y))) ∧ W.frozen? ⟨B, 0, none⟩ = false ∧ W.frozen? ⟨B, 1, none⟩ = false ∧ W.frozen? ⟨B, 2, none⟩ = false ∧ W.frozen? ⟨B, 3, none⟩ = false
theorem AtY.heap {W W' : World} {B : Nat} {x y : BitVec 128} (k : AtY W B x y) (e : W'.heap[B]? = W.heap[B]?) : AtY W' B x y := by
  obtain ⟨⟨k0, k1, k2, k3⟩, f0, f1, f2, f3⟩ := k
  exact ⟨⟨by rw [cellH e]; exact k0, by rw [cellH e]; exact k1, by rw [cellH e]; exact k2, by rw [cellH e]; exact k3⟩, by rw [frozH e]; exact f0, by rw [frozH e]; exact f1, by rw [frozH e]; exact f2, by rw [frozH e]; exact f3⟩
theorem AtY.lt {W : World} {B : Nat} {x y : BitVec 128} (k : AtY W B x y) : B < W.heap.size := cell_in k.1.1
theorem aty_new (W : World) (B : Nat) (x y : BitVec 128) (T : TypeId) (e : B = W.heap.size) : AtY (W.alloc (.cells #[.int .u64 (hI x), .int .u64 (lI x), .int .u64 (hI y), .int .u64 (lI y)] T)) B x y := by
  subst e
  refine ⟨⟨?_, ?_, ?_, ?_⟩, ?_, ?_, ?_, ?_⟩ <;> simp [go_sem]
theorem AtY.lo {W : World} {B : Nat} {x y : BitVec 128} (k : AtY W B x y) (z : BitVec 128) : AtY ((W.setCell ⟨B, 0, none⟩ (.int .u64 (hI z))).setCell ⟨B, 1, none⟩ (.int .u64 (lI z))) B z y := by
  obtain ⟨⟨k0, k1, k2, k3⟩, f0, f1, f2, f3⟩ := k
  refine ⟨⟨?_, ?_, ?_, ?_⟩, ?_, ?_, ?_, ?_⟩ <;> simp [go_sem, *]
theorem AtY.hi {W : World} {B : Nat} {x y : BitVec 128} (k : AtY W B x y) (z : BitVec 128) : AtY ((W.setCell ⟨B, 2, none⟩ (.int .u64 (hI z))).setCell ⟨B, 3, none⟩ (.int .u64 (lI z))) B x z := by
  obtain ⟨⟨k0, k1, k2, k3⟩, f0, f1, f2, f3⟩ := k
  refine ⟨⟨?_, ?_, ?_, ?_⟩, ?_, ?_, ?_, ?_⟩ <;> simp [go_sem, *]
theorem AtY.all {W : World} {B : Nat} {x y : BitVec 128} (k : AtY W B x y) (u z : BitVec 128) : AtY ((((W.setCell ⟨B, 0, none⟩ (.int .u64 (hI u))).setCell ⟨B, 1, none⟩ (.int .u64 (lI u))).setCell ⟨B, 2, none⟩ (.int .u64 (hI z))).setCell ⟨B, 3, none⟩ (.int .u64 (lI z))) B u z := by
  obtain ⟨⟨k0, k1, k2, k3⟩, f0, f1, f2, f3⟩ := k
  refine ⟨⟨?_, ?_, ?_, ?_⟩, ?_, ?_, ?_, ?_⟩ <;> simp [go_sem, *]
/-- What is known in common. -/
structure CmI (w : World) (sx sy : BitVec 128) (sh : Int) (tx ty : BitVec 128) (th : Int) (u v : BitVec 128) (W : World) : Prop where
  s : AtG W w.heap.size sx sy sh
  t : AtG W (w.heap.size + 1) tx ty th
  r : AtY W (w.heap.size + 2) 0#128 0#128
  a : AtY W (w.heap.size + 3) u v
  bel : Below w.heap.size w W
theorem CmI.below {w : World} {sx sy : BitVec 128} {sh : Int} {tx ty : BitVec 128} {th : Int} {u v : BitVec 128} {W W' : World} (k : CmI w sx sy sh tx ty th u v W) (hb : Below W.heap.size W W') : CmI w sx sy sh tx ty th u v W' :=
  ⟨k.s.below hb, k.t.below hb, k.r.heap (hb.block _ k.r.lt), k.a.heap (hb.block _ k.a.lt), keepb hb k.bel⟩
theorem CmI.lo {w : World} {sx sy : BitVec 128} {sh : Int} {tx ty : BitVec 128} {th : Int} {u v : BitVec 128} {W : World} (k : CmI w sx sy sh tx ty th u v W) (z : BitVec 128) : CmI w sx sy sh tx ty th z v ((W.setCell ⟨w.heap.size + 3, 0, none⟩ (.int .u64 (hI z))).setCell ⟨w.heap.size + 3, 1, none⟩ (.int .u64 (lI z))) :=
  ⟨k.s.heap (by rw [hSet _ (by omega), hSet _ (by omega)]), k.t.heap (by rw [hSet _ (by omega), hSet _ (by omega)]), k.r.heap (by rw [hSet _ (by omega), hSet _ (by omega)]), k.a.lo z, (k.bel.setCell (p := ⟨w.heap.size + 3, 0, none⟩) (by simp) _).setCell (p := ⟨w.heap.size + 3, 1, none⟩) (by simp) _⟩
theorem CmI.hi {w : World} {sx sy : BitVec 128} {sh : Int} {tx ty : BitVec 128} {th : Int} {u v : BitVec 128} {W : World} (k : CmI w sx sy sh tx ty th u v W) (z : BitVec 128) : CmI w sx sy sh tx ty th u z ((W.setCell ⟨w.heap.size + 3, 2, none⟩ (.int .u64 (hI z))).setCell ⟨w.heap.size + 3, 3, none⟩ (.int .u64 (lI z))) :=
  ⟨k.s.heap (by rw [hSet _ (by omega), hSet _ (by omega)]), k.t.heap (by rw [hSet _ (by omega), hSet _ (by omega)]), k.r.heap (by rw [hSet _ (by omega), hSet _ (by omega)]), k.a.hi z, (k.bel.setCell (p := ⟨w.heap.size + 3, 2, none⟩) (by simp) _).setCell (p := ⟨w.heap.size + 3, 3, none⟩) (by simp) _⟩
end Go.Proofs.Ytnaghiipfgdimaa
/-
  A region that draws its order and calls a loop's body, of whatever operations, by what is known when some of them are done.
-/
namespace Go.Proofs.Ytnaghiipfgdimaa
open Go.RowKit
set_option linter.unusedSimpArgs false
set_option linter.unusedVariables false

section
variable {P : Program}

theorem gh_anyIn {n : Nat} {γ : Type} {l : List Oper} (ok : QpOk l l.length l.length) (hgd : ∀ o ∈ l, o.guard = none) (hdst : ∀ (i k : Nat) (oi ok : Oper) (s : Nat), l[i]? = some oi → l[k]? = some ok → oi.dst = some s → ok.dst = some s → i = k) {Q : Exit → Act → World → Prop} {a : Act} (A : γ → Act) (hsz : ∀ g, (A g).tmps.size = a.tmps.size) (hdf : ∀ g, (A g).defers = a.defers) (hA : ∀ g s, (∀ o ∈ l, o.dst ≠ some s) → (A g).tmps[s]? = a.tmps[s]?) (R : Array Bool → γ → World → Prop)
    (hstep : ∀ (i : Nat) (o : Oper) (lp : Array Bool) (g : γ) (w' : World) (a' : Act), l[i]? = some o → lp.size = l.length → lp.getD i false = false → (∀ e ∈ o.after, Region.binds .any e = true → lp.getD e.on false = true) → R lp g w' → Slt l a (A g) lp a' →
      ∀ (K : Act → World → Prop) Q', (∀ g' w'', (∀ (k : Nat) (o : Oper) (s : Nat), l[k]? = some o → lp.getD k false = true → o.dst = some s → (A g').tmps[s]? = (A g).tmps[s]?) → R (lp.setIfInBounds i true) g' w'' → ∀ v, valO (A g') o = v → K (a'.put o.dst v) w'') → o.wpIn Fence.wide n P a' w' K Q')
    (hpost : ∀ g w', R (Array.replicate l.length true) g w' → Q .normal (A g) w') :
    ∀ (fuel : Nat) (lp : Array Bool) (g : γ) (a' : Act) (w : World), lp.size = l.length → unl lp = fuel → R lp g w → Slt l a (A g) lp a' → wpAnyIn Fence.wide n P .any l.toArray Q fuel lp a' w := by
  intro fuel
  have fin : ∀ (lp : Array Bool) (g : γ) (a' : Act) (w : World), lp.size = l.length → unl lp = 0 → R lp g w → Slt l a (A g) lp a' → Q .normal a' w := by
    intro lp g a' w hs hu hR hS
    have e : lp = Array.replicate l.length true := by have := unl_zero lp hu; rwa [hs] at this
    rw [e] at hR hS
    have : a' = A g := by
      have ht : a'.tmps = (A g).tmps := by
        apply Array.ext_getElem?
        intro s
        by_cases h : ∃ (k : Nat) (o : Oper), l[k]? = some o ∧ o.dst = some s
        · obtain ⟨k, o, h1, h2⟩ := h
          have hk : k < l.length := (List.getElem?_eq_some_iff.mp h1).1
          exact hS.don k o s h1 (by simp [Array.getElem?_replicate, hk]) h2
        · have h' : ∀ o ∈ l, o.dst ≠ some s := by
            intro o ho e
            obtain ⟨k, hk, rfl⟩ := List.mem_iff_getElem.mp ho
            exact h ⟨k, l[k], List.getElem?_eq_getElem hk, e⟩
          rw [hA g s h']
          exact hS.oth s (fun k o h1 _ e => h ⟨k, o, h1, e⟩)
      have hd : a'.defers = (A g).defers := by rw [hS.dfr, hdf]
      cases a'
      cases hAg : A g
      rw [hAg] at ht hd
      simp only at ht hd
      rw [ht, hd]
    rw [this]
    exact hpost g w hR
  induction fuel with
  | zero =>
    intro lp g a' w hs hu hR hS
    refine ⟨?_, fin lp g a' w hs hu hR hS⟩
    have e : lp = Array.replicate l.length true := by have := unl_zero lp hu; rwa [hs] at this
    apply List.eq_nil_iff_forall_not_mem.mpr
    intro i hi
    obtain ⟨hun, o, ho, _⟩ := mem_ready.1 hi
    have hk : i < l.length := by
      have := (Array.getElem?_eq_some_iff.mp ho).1
      simpa using this
    rw [e] at hun
    simp [Array.getElem?_replicate, hk] at hun
  | succ fuel ih =>
    intro lp g a' w hs hu hR hS
    refine ⟨fun e => ?_, fun i hi => ?_⟩
    · obtain ⟨k, hk, hf⟩ := unl_some lp fuel hu
      have hne := some_ready ok lp hs k (by omega) hf
      rw [Nat.sub_self] at hne
      exact absurd (by simpa using e) hne
    · obtain ⟨hun, o, ho, hrd⟩ := mem_ready.1 hi
      have ho' : l[i]? = some o := by simpa using ho
      have hil : i < l.length := (List.getElem?_eq_some_iff.mp ho').1
      have hun' : lp.getD i false = false := by
        rw [Array.getD_eq_getD_getElem?] at hun ⊢
        cases q : lp[i]? with
        | none => rfl
        | some b => rw [q] at hun; simpa using hun
      unfold wpOpIn
      simp only [ho]
      rw [if_pos (by simp [Region.wanted, hgd o (List.mem_of_getElem? ho')])]
      refine hstep i o lp g w a' ho' hs hun' (fun e he hb => hrd e he hb) hR hS _ _ ?_
      intro g' w'' hsame hR' v hv
      subst hv
      refine ih _ g' _ w'' (by simp [hs]) (by have := unl_set lp i hun; omega) hR' ⟨?_, ?_, ?_, ?_⟩
      · intro k ok s hk hl hd
        rcases getD_set hl with rfl | hl'
        · have : ok = o := by rw [ho'] at hk; cases hk; rfl
          subst this
          unfold Act.put valO
          rw [hd]
          simp only [Option.bind_some]
          by_cases hlt : s < a'.tmps.size
          · rw [Array.getElem?_setIfInBounds_self_of_lt hlt]
            have h2 : s < (A g').tmps.size := by rw [hsz, ← hS.siz]; exact hlt
            rw [Array.getElem?_eq_getElem h2]
            rfl
          · rw [Array.getElem?_eq_none (by simp; omega), Array.getElem?_eq_none (by rw [hsz, ← hS.siz]; omega)]
        · rw [put_other a' o.dst _ s (fun e => by
            have := hdst k i ok o s hk ho' hd e
            subst this
            rw [hun'] at hl'
            cases hl'), hS.don k ok s hk hl' hd, hsame k ok s hk hl' hd]
      · intro s h
        have hne : o.dst ≠ some s := h i o ho' (getD_set_same (by omega))
        rw [put_other a' o.dst _ s hne]
        exact hS.oth s (fun k ok hk hl => h k ok hk (by
          by_cases e : k = i
          · subst e; exact getD_set_same (by omega)
          · rw [Array.getD_eq_getD_getElem?] at hl ⊢
            rwa [Array.getElem?_setIfInBounds_ne (by omega)]))
      · rw [put_size, hS.siz]
      · unfold Act.put
        cases o.dst <;> exact hS.dfr
theorem gh_regionIn (n : Nat) {γ : Type} {id : Nat} {l : List Oper} (ok : QpOk l l.length l.length) (hgd : (l.all fun o => o.guard.isNone) = true) (hdst : dstG l = true) {Q : Exit → Act → World → Prop} {a : Act} {w : World} (ds : List (Option Tmp)) (vals : γ → List Value) (hm : P.follows .mixedOrders = true) (hds : ∀ d ∈ ds, ∃ o ∈ l, o.dst = d) (R : Array Bool → γ → World → Prop) (g0 : γ) (h0 : R (Array.replicate l.length false) g0 w.drew)
    (hstep : ∀ (i : Nat) (o : Oper) (lp : Array Bool) (g : γ) (w' : World) (a' : Act), l[i]? = some o → lp.size = l.length → lp.getD i false = false → (∀ e ∈ o.after, Region.binds .any e = true → lp.getD e.on false = true) → R lp g w' → Slt l a (putAll a ds (vals g)) lp a' →
      ∀ (K : Act → World → Prop) Q', (∀ g' w'', (∀ (k : Nat) (o : Oper) (s : Nat), l[k]? = some o → lp.getD k false = true → o.dst = some s → (putAll a ds (vals g')).tmps[s]? = (putAll a ds (vals g)).tmps[s]?) → R (lp.setIfInBounds i true) g' w'' → ∀ v, valO (putAll a ds (vals g')) o = v → K (a'.put o.dst v) w'') → o.wpIn Fence.wide n P a' w' K Q')
    (hpost : ∀ g w', R (Array.replicate l.length true) g w' → Q .normal (putAll a ds (vals g)) w') : (Code.region id l.toArray true).wp P Q a w := by
  refine (wpIn_wide (n := n)).1 ?_
  refine wpIn_region_any hm ?_
  have hu : unl (Array.replicate l.length false) = l.length := by unfold unl; simp
  have main := gh_anyIn (n := n) ok (fun o ho => by have := List.all_eq_true.mp hgd o ho; simpa using this) (dstG_of hdst) (A := fun g => putAll a ds (vals g)) (fun g => putAll_size _ _ _) (fun g => putAll_defers _ _ _) (fun g s h => putAll_other _ _ _ _ (fun d hd e => by obtain ⟨o, ho, hod⟩ := hds d hd; exact h o ho (by rw [hod, e]))) R hstep hpost l.length (Array.replicate l.length false) g0 a w.drew (by simp) hu h0 ⟨fun k o s hk hl => (by rw [Array.getD_eq_getD_getElem?, Array.getElem?_replicate] at hl; split at hl <;> simp at hl), fun s _ => rfl, rfl, rfl⟩
  have e1 : l.length = l.toArray.size := by simp
  rw [e1] at main
  simpa using main
theorem yd_wp {n : Nat} {o : Oper} {a : Act} {w : World} {K : Act → World → Prop} {Q : Exit → Act → World → Prop} {l : Nat} {args : Array Value} {R : Ending → World → Prop}
    (hy : YieldAt Fence.wide (n - 1) P l args w R) (hex : ∀ r, (Instr.yield l args).run P w = r → (execOp a.eval o).run P w = r) (hR : ∀ e w', R e w' → (∃ v, e = .returned v ∧ K (a.put o.dst v) w')) : o.wpIn Fence.wide n P a w K Q := by
  obtain ⟨fn, tmps, assign, body, h1, h2⟩ := hy
  have h3 := hex _ h1
  refine ⟨fun _ _ => trivial, ?_⟩
  rw [Fence.wide_round, Oper.semAt_none, h3]
  refine ⟨fun q => (by cases q), h2.mono ?_⟩
  intro e w' hr
  obtain ⟨v, rfl, hv⟩ := hR e w' hr
  exact hv
end
end Go.Proofs.Ytnaghiipfgdimaa
