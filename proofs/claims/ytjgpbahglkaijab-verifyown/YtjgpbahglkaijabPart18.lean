/-
  Part 18 of the proof: 12 texts, one behind the other.
-/
import Derived.Test.YtjgpbahglkaijabPart17
import Derived.Test.YtjgpbahglkaijabPart2
import Derived.Test.YtjgpbahglkaijabPart4
import Derived.Test.YtjgpbahglkaijabPart1
namespace Go.Proofs.Ytjgpbahglkaijab
open Go.RowKit Go.Shelf
set_option linter.unusedSimpArgs false
set_option linter.unusedVariables false
attribute [local go_sem] Oper.semAt_some

def RvI (xs ys : List Int) (i : Nat) : Prop := ys.length = xs.length ∧ ∀ k, k < xs.length → ys[k]? = if k < i ∨ xs.length - i ≤ k then xs[xs.length - 1 - k]? else xs[k]?
theorem rv_end {xs ys : List Int} {i : Nat} (h : RvI xs ys i) (hi : xs.length ≤ 2 * i + 1) : ys = xs.reverse := by
  apply List.ext_getElem?
  intro k
  by_cases hk : k < xs.length
  · rw [h.2 k hk, List.getElem?_reverse hk]
    by_cases hc : k < i ∨ xs.length - i ≤ k
    · rw [if_pos hc]
    · rw [if_neg hc]
      have : xs.length - 1 - k = k := by omega
      rw [this]
  · rw [List.getElem?_eq_none (by rw [h.1]; omega), List.getElem?_eq_none (by simp; omega)]
theorem rv_step {xs ys : List Int} {i : Nat} (h : RvI xs ys i) (hi : 2 * i + 1 < xs.length) (a b : Int) (ha : ys[i]? = some a) (hb : ys[xs.length - 1 - i]? = some b) : RvI xs ((ys.set i b).set (xs.length - 1 - i) a) (i + 1) := by
  refine ⟨by simp [h.1], fun k hk => ?_⟩
  have e1 := h.2 i (by omega)
  have e2 := h.2 (xs.length - 1 - i) (by omega)
  rw [if_neg (by omega)] at e1 e2
  rw [ha] at e1
  rw [hb] at e2
  rw [List.getElem?_set, List.getElem?_set, List.length_set]
  by_cases c1 : xs.length - 1 - i = k
  · subst c1
    rw [if_pos rfl, if_pos (by rw [h.1]; omega), if_pos (by omega), show xs.length - 1 - (xs.length - 1 - i) = i by omega, e1]
  · rw [if_neg c1]
    by_cases c2 : i = k
    · subst c2
      rw [if_pos rfl, if_pos (by rw [h.1]; omega), if_pos (by omega), e2]
    · rw [if_neg c2, h.2 k hk]
      by_cases c3 : k < i ∨ xs.length - i ≤ k
      · rw [if_pos c3, if_pos (by omega)]
      · rw [if_neg c3, if_neg (by omega)]
theorem own_cell16 {W : World} {base e n g cap : Nat} {ys : List Int} (h : W.ownsRow base e 1 (.slice (some ⟨g, 0, none⟩) n cap) n (ys.map cI)) {k : Nat} {a : Int} (hk : ys[k]? = some a) : W.cell? ⟨g, k, none⟩ = some (.int .i64 a) ∧ W.frozen? ⟨g, k, none⟩ = false := by
  constructor
  · have := h.cells (g := g) rfl k (cI a) (by rw [List.getElem?_map, hk]; rfl)
    rwa [addA, Nat.zero_add] at this
  · rcases h.2 with ⟨h1, -⟩ | ⟨g', cap', cur, h1, hb, hg, -⟩
    · cases h1
    · injection h1 with h1 h2 h3
      injection h1 with h1
      injection h1 with h1
      subst h1
      exact fr_16 hg
theorem own_set16 {W : World} {base e n g cap : Nat} {ys : List Int} (h : W.ownsRow base e 1 (.slice (some ⟨g, 0, none⟩) n cap) n (ys.map cI)) (k : Nat) (a : Int) : (W.setCell ⟨g, k, none⟩ (.int .i64 a)).ownsRow base e 1 (.slice (some ⟨g, 0, none⟩) n cap) n ((ys.set k a).map cI) ∧ W.grownBy (W.setCell ⟨g, k, none⟩ (.int .i64 a)) (some g) := by
  constructor
  · have := (h.stored k (.int .i64 a)).1
    rw [List.map_set]
    exact this
  · exact ⟨rfl, rfl, rfl, by simp, fun z _ hz => far_16 (fun e => hz (by rw [e]))⟩
theorem storeF_16 {P : Program} {w : World} {a : Addr} {m : Mode} (f : Fn) (x l : Array Value) : (store a (.func f x l) m).run P w = stored P w a (.func f x l) m := run_store P w a _ m rfl
attribute [local go_sem] storeF_16
def ordL (L : List Nde) : List Int := (dfs L L.length 0 (List.replicate L.length false, [])).2.reverse
end Go.Proofs.Ytjgpbahglkaijab
namespace Go.Proofs.Ytjgpbahglkaijab
open Go.RowKit Go.Shelf
set_option linter.unusedSimpArgs false
set_option linter.unusedVariables false
attribute [local go_sem] Oper.semAt_some

theorem chk_ok {F : Int} {L : List Nde} (h : (chkM F L).2 = 0) : NdsOk L ∧ usedB L = true ∧ fam F = true ∧ chkM F L = deepR F L := by
  unfold chkM at h ⊢
  by_cases hf : fam F = true
  · rw [if_pos hf] at h ⊢
    by_cases hn : nodesE L = 0
    · rw [if_pos hn] at h ⊢
      by_cases hu : usedB L = true
      · rw [if_pos hu]
        exact ⟨nodes_ok hn, hu, hf, rfl⟩
      · rw [if_neg hu] at h; cases h
    · rw [if_neg hn] at h; exact absurd h hn
  · rw [if_neg hf] at h; cases h
def ordR (F : Int) (L : List Nde) : List Int := if (chkM F L).2 = 0 then ordL L else []
end Go.Proofs.Ytjgpbahglkaijab
namespace Go.Proofs.Ytjgpbahglkaijab
open Go.RowKit Go.Shelf
set_option linter.unusedSimpArgs false
set_option linter.unusedVariables false
attribute [local go_sem] Oper.semAt_some

def szN (d : Nde) : Nat := if d.b = 0 then 1 else 2 + mwN d.b.toNat + d.r.length
end Go.Proofs.Ytjgpbahglkaijab
namespace Go.Proofs.Ytjgpbahglkaijab
open Go.RowKit Go.Shelf
set_option linter.unusedSimpArgs false
set_option linter.unusedVariables false
attribute [local go_sem] Oper.semAt_some

def plG (L : List Nde) : List Int → List Int → Nat → Option (List Int × Nat)
  | [], P, n => some (P, n)
  | k :: o, P, n => if (L.getD k.toNat ⟨0, []⟩).b ≤ 24 then plG L o (P.set k.toNat (n : Int)) (n + szN (L.getD k.toNat ⟨0, []⟩)) else none
theorem pl_drop (L : List Nde) (o : List Int) (i k : Nat) (d : Nde) (ho : o[i]? = some (k : Int)) (hd : L[k]? = some d) (P : List Int) (n : Nat) : plG L (o.drop i) P n = if d.b ≤ 24 then plG L (o.drop (i + 1)) (P.set k (n : Int)) (n + szN d) else none := by
  obtain ⟨hi, he⟩ := List.getElem?_eq_some_iff.mp ho
  rw [List.drop_eq_getElem_cons hi, he]
  show (if (L.getD (k : Int).toNat ⟨0, []⟩).b ≤ 24 then _ else _) = _
  rw [Int.toNat_natCast, List.getD_eq_getElem?_getD, hd]; rfl
theorem dfs_in {L : List Nde} (ok : NdsOk L) : ∀ (f n : Nat) (s : DfS), n < L.length → (∀ x ∈ s.2, 0 ≤ x ∧ x < (L.length : Int)) → L.length ≤ n + f → ∀ x ∈ (dfs L f n s).2, 0 ≤ x ∧ x < (L.length : Int)
  | 0, n, s, hn, _, hf => by omega
  | f + 1, n, s, hn, h, hf => by
    obtain ⟨d, hd⟩ : ∃ d, L[n]? = some d := ⟨L[n], by simp [hn]⟩
    rw [dfs_succ L f n s d hd]
    have key := stps_keep (P := fun s => ∀ x ∈ s.2, 0 ≤ x ∧ x < (L.length : Int)) (go := dfs L f) d.r.reverse (s.1.set n true, s.2) h (fun r hr m s' hk hm hf' hs' => by
      obtain ⟨a1, a2, -⟩ := ok.lead hd (List.mem_reverse.mp hr) hk
      exact dfs_in ok f m s' (by omega) hs' (by omega))
    intro x hx
    rcases List.mem_append.mp hx with q | q
    · exact key x q
    · simp at q; subst q; omega
theorem ord_in {L : List Nde} (ok : NdsOk L) : ∀ x ∈ ordL L, 0 ≤ x ∧ x < (L.length : Int) := fun x hx => by
  unfold ordL at hx
  exact dfs_in ok L.length 0 _ ok.1 (fun y hy => by cases hy) (by omega) x (List.mem_reverse.mp hx)
theorem ord_len {L : List Nde} (ok : NdsOk L) : (ordL L).length ≤ L.length := by
  have h0 := ok.1
  have := dfs_cnt ok L.length 0 (List.replicate L.length false, []) 0 h0 (by rw [List.getD_eq_getElem?_getD, List.getElem?_replicate_of_lt h0]; rfl) ⟨by simp, by simp [List.count_replicate]⟩ (by omega)
  unfold ordL
  rw [List.length_reverse]
  have h1 := this.2
  have h2 := this.1
  have h3 : (dfs L L.length 0 (List.replicate L.length false, [])).1.count true ≤ _ := List.count_le_length
  omega
theorem sz_le {d : Nde} (h1 : d.b ≤ 24) (h2 : d.r.length ≤ 1000000000) : szN d ≤ 1000524290 := by
  unfold szN
  split
  · omega
  · have := mwN_hi d.b.toNat (by omega)
    omega
section
variable {w W W' : World} {vo : Value} {Bx Gp N n : Nat} {o P : List Int}
end
def layR (F : Int) (L : List Nde) : (List Int × List Int × Nat) × Int :=
  if (chkM F L).2 = 0 then (match plG L (ordL L) (List.replicate L.length 0) 0 with | some (P, n) => ((ordL L, P, n), 0) | none => (([], [], 0), 18)) else (([], [], 0), (chkM F L).2)
end Go.Proofs.Ytjgpbahglkaijab
namespace Go.Proofs.Ytjgpbahglkaijab
set_option linter.unusedSimpArgs false
set_option linter.unusedVariables false

def Met (s : DfS) (x : Nat) : Prop := s.1.getD x false = true
theorem met_set {s : DfS} {n : Nat} (hn : n < s.1.length) (z : Nat) : Met (s.1.set n true, s.2) z ↔ (z = n ∨ Met s z) := by
  unfold Met
  dsimp only
  rw [List.getD_eq_getElem?_getD, List.getD_eq_getElem?_getD, List.getElem?_set]
  by_cases h : n = z
  · subst h; simp [hn]
  · rw [if_neg h]
    constructor
    · exact .inr
    · rintro (q | q)
      · exact absurd q.symm h
      · exact q
structure DInv (L : List Nde) (s : DfS) : Prop where
  len : s.1.length = L.length
  dm : ∀ x ∈ s.2, 0 ≤ x ∧ Met s x.toNat
  nd : s.2.Nodup
  cl : ∀ A x B, s.2 = A ++ x :: B → ∀ d r, L[x.toNat]? = some d → r ∈ d.r → r.k = true → r.n ∈ A
structure DRel (L : List Nde) (lo m : Nat) (s t : DfS) : Prop where
  inv : DInv L t
  st : ∀ z : Nat, Met t z → (z : Int) ∈ t.2 ∨ z < m
  mono : ∀ z, Met s z → Met t z
  new : ∀ z, Met t z → Met s z ∨ lo ≤ z
  ext : ∃ E, t.2 = s.2 ++ E ∧ ∀ x ∈ E, (lo : Int) ≤ x
theorem dfs_main {L : List Nde} (ok : NdsOk L) : ∀ (f n : Nat) (s : DfS) (m : Nat), n < L.length → ¬ Met s n → L.length ≤ n + f → m ≤ n → DInv L s → (∀ z : Nat, Met s z → (z : Int) ∈ s.2 ∨ z < m) → DRel L n m s (dfs L f n s) ∧ Met (dfs L f n s) n ∧ (n : Int) ∈ (dfs L f n s).2
  | 0, n, s, m, hn, _, hf, _, _, _ => by omega
  | f + 1, n, s, m, hn, hmet, hf, hmn, hI, hst => by
    obtain ⟨d, hd⟩ : ∃ d, L[n]? = some d := ⟨L[n], by simp [hn]⟩
    rw [dfs_succ L f n s d hd]
    have hnl : n < s.1.length := by rw [hI.len]; exact hn
    have ms := fun z => met_set (s := s) hnl z
    have I1 : DInv L (s.1.set n true, s.2) := ⟨by simp [hI.len], fun x hx => ⟨(hI.dm x hx).1, (ms _).2 (.inr (hI.dm x hx).2)⟩, hI.nd, hI.cl⟩
    -- over the runs
    have loop : ∀ (l : List Rn) (u : DfS), (∀ r ∈ l, r ∈ d.r) → DRel L (n + 1) (n + 1) (s.1.set n true, s.2) u → DRel L (n + 1) (n + 1) (s.1.set n true, s.2) (l.foldl (stpR (dfs L f)) u) ∧ (∀ r ∈ l, r.k = true → Met (l.foldl (stpR (dfs L f)) u) r.n.toNat) ∧ (∀ z, Met u z → Met (l.foldl (stpR (dfs L f)) u) z) := by
      intro l
      induction l with
      | nil => intro u _ h; exact ⟨h, fun r hr => (by cases hr), fun z h => h⟩
      | cons r l ih =>
        intro u hl h
        have hr := hl r (List.mem_cons_self ..)
        have step : DRel L (n + 1) (n + 1) (s.1.set n true, s.2) (stpR (dfs L f) u r) ∧ (r.k = true → Met (stpR (dfs L f) u r) r.n.toNat) ∧ (∀ z, Met u z → Met (stpR (dfs L f) u r) z) := by
          unfold stpR
          by_cases hk : r.k = true
          · obtain ⟨a1, a2, a3⟩ := ok.lead hd hr hk
            by_cases hm : Met u r.n.toNat
            · have hm' : u.1.getD r.n.toNat false = true := hm
              rw [hm', hk]
              exact ⟨h, fun _ => hm, fun z q => q⟩
            · have hm' : u.1.getD r.n.toNat false = false := by unfold Met at hm; simpa using hm
              rw [hm', hk]
              simp only [Bool.not_false, Bool.and_true, if_true]
              obtain ⟨b1, b2, b3⟩ := dfs_main ok f r.n.toNat u (n + 1) a2 hm (by omega) (by omega) h.inv h.st
              refine ⟨⟨b1.inv, b1.st, fun z q => b1.mono z (h.mono z q), fun z q => ?_, ?_⟩, fun _ => b2, b1.mono⟩
              · rcases b1.new z q with c | c
                · exact h.new z c
                · exact .inr (by omega)
              · obtain ⟨E, e1, e2⟩ := h.ext
                obtain ⟨E2, e3, e4⟩ := b1.ext
                refine ⟨E ++ E2, by rw [e3, e1, List.append_assoc], fun x hx => ?_⟩
                rcases List.mem_append.mp hx with q | q
                · exact e2 x q
                · have := e4 x q; omega
          · have hk' : r.k = false := by simpa using hk
            rw [hk']
            exact ⟨h, fun q => absurd q (by decide), fun z q => q⟩
        obtain ⟨s1, s2, s3⟩ := step
        obtain ⟨t1, t2, t3⟩ := ih _ (fun r' hr' => hl r' (List.mem_cons_of_mem _ hr')) s1
        rw [List.foldl_cons]
        refine ⟨t1, fun r' hr' hk' => ?_, fun z q => t3 z (s3 z q)⟩
        rcases List.mem_cons.mp hr' with rfl | q
        · exact t3 _ (s2 hk')
        · exact t2 r' q hk'
    have R0 : DRel L (n + 1) (n + 1) (s.1.set n true, s.2) (s.1.set n true, s.2) := ⟨I1, fun z q => by
      rcases (ms z).1 q with c | c
      · exact .inr (by omega)
      · rcases hst z c with k | k
        · exact .inl k
        · exact .inr (by omega), fun z q => q, fun z q => .inl q, [], by simp, fun x hx => by cases hx⟩
    obtain ⟨u1, u2, u3⟩ := loop d.r.reverse _ (fun r hr => List.mem_reverse.mp hr) R0
    generalize d.r.reverse.foldl (stpR (dfs L f)) (s.1.set n true, s.2) = u at *
    have hmn' : Met u n := u1.mono n ((ms n).2 (.inl rfl))
    obtain ⟨E, e1, e2⟩ := u1.ext
    dsimp only at e1
    have hnot : (n : Int) ∉ u.2 := by
      rw [e1]
      intro q
      rcases List.mem_append.mp q with q | q
      · have := (hI.dm _ q).2
        rw [Int.toNat_natCast] at this
        exact hmet this
      · have := e2 _ q; omega
    have hmt : ∀ z, Met (u.1, u.2 ++ [(n : Int)]) z ↔ Met u z := fun z => Iff.rfl
    refine ⟨⟨⟨u1.inv.len, ?_, ?_, ?_⟩, ?_, ?_, ?_, ?_⟩, hmn', by simp⟩
    · intro x hx
      rcases List.mem_append.mp hx with q | q
      · exact u1.inv.dm x q
      · simp at q; subst q; exact ⟨by omega, by rw [Int.toNat_natCast]; exact hmn'⟩
    · rw [List.nodup_append]
      refine ⟨u1.inv.nd, by simp, fun a ha b hb => ?_⟩
      simp at hb
      subst hb
      rintro rfl
      exact hnot ha
    · intro A x B hs d' r hd' hr hk
      dsimp only at hs
      rcases List.eq_nil_or_concat B with rfl | ⟨B', y, rfl⟩
      · have e : u.2 ++ [(n : Int)] = A ++ [x] := hs
        obtain ⟨h1, h2⟩ := List.append_inj' e rfl
        injection h2 with h2
        subst h1 h2
        rw [Int.toNat_natCast, hd] at hd'
        cases hd'
        obtain ⟨a1, a2, a3⟩ := ok.lead hd hr hk
        have hm := u2 r (List.mem_reverse.mpr hr) hk
        rcases u1.st _ hm with q | q
        · rw [← a3] at q; exact q
        · omega
      · have e : u.2 ++ [(n : Int)] = (A ++ x :: B') ++ [y] := by rw [hs]; simp
        obtain ⟨h1, h2⟩ := List.append_inj' e rfl
        exact u1.inv.cl A x B' h1 d' r hd' hr hk
    · intro z q
      have q' : Met u z := q
      rcases u1.st z q' with c | c
      · exact .inl (List.mem_append_left _ c)
      · by_cases hz : z = n
        · subst hz; exact .inl (by simp)
        · rcases u1.new z q' with k | k
          · rcases (ms z).1 k with k | k
            · exact absurd k hz
            · rcases hst z k with k | k
              · exact .inl (by rw [e1]; simp [k])
              · exact .inr k
          · omega
    · intro z q
      exact u1.mono z ((ms z).2 (.inr q))
    · intro z q
      have q' : Met u z := q
      rcases u1.new z q' with k | k
      · rcases (ms z).1 k with k | k
        · exact .inr (by omega)
        · exact .inl k
      · exact .inr (by omega)
    · refine ⟨E ++ [(n : Int)], by dsimp only; rw [e1, List.append_assoc], fun x hx => ?_⟩
      rcases List.mem_append.mp hx with q | q
      · have := e2 x q; omega
      · simp at q; omega
theorem met_rep {N : Nat} {z : Nat} : ¬ Met (List.replicate N false, []) z := by
  unfold Met
  dsimp only
  rw [List.getD_eq_getElem?_getD, List.getElem?_replicate]
  split <;> simp
structure OrdOk (L : List Nde) (o : List Int) : Prop where
  nd : o.Nodup
  kid : ∀ A x B, o = A ++ x :: B → ∀ d r, L[x.toNat]? = some d → r ∈ d.r → r.k = true → r.n ∈ B
  zero : ∃ B, o = 0 :: B
theorem ord_ok {L : List Nde} (ok : NdsOk L) : OrdOk L (ordL L) := by
  obtain ⟨h1, h2, h3⟩ := dfs_main ok L.length 0 (List.replicate L.length false, []) 0 ok.1 met_rep (by omega) (Nat.le_refl _) ⟨by simp, fun x hx => (by cases hx), List.nodup_nil, fun A x B h => (by simp at h)⟩ (fun z q => absurd q met_rep)
  unfold ordL
  have hlast : ∃ A, (dfs L L.length 0 (List.replicate L.length false, [])).2 = A ++ [0] := by
    obtain ⟨d, hd⟩ : ∃ d, L[0]? = some d := ⟨L[0]'ok.1, by simp [ok.1]⟩
    obtain ⟨k, hk⟩ : ∃ k, L.length = k + 1 := ⟨L.length - 1, by have := ok.1; omega⟩
    rw [hk, dfs_succ L k 0 _ d hd]
    exact ⟨_, rfl⟩
  refine ⟨((List.reverse_perm _).nodup_iff).mpr h1.inv.nd, ?_, ?_⟩
  · intro A x B hs d r hd hr hk
    have e : (dfs L L.length 0 (List.replicate L.length false, [])).2 = B.reverse ++ x :: A.reverse := by
      have := congrArg List.reverse hs
      simpa using this
    have := h1.inv.cl _ _ _ e d r hd hr hk
    exact List.mem_reverse.mp this
  · obtain ⟨A, hA⟩ := hlast
    exact ⟨A.reverse, by rw [hA]; simp⟩
end Go.Proofs.Ytjgpbahglkaijab
namespace Go.Proofs.Ytjgpbahglkaijab
open Go.RowKit Go.Shelf
set_option linter.unusedSimpArgs false
set_option linter.unusedVariables false
attribute [local go_sem] Oper.semAt_some

def stM (m : List (BitVec 32)) (s : Nat) : List (BitVec 32) := m.set (s / 32) (m.getD (s / 32) 0#32 ||| (1#32 <<< (31 - s % 32)))
def mapL (n : Nat) (l : List Rn) : List (BitVec 32) := l.foldl (fun m r => stM m r.f.toNat) (List.replicate (mwN n) 0#32)
theorem stM_len (m : List (BitVec 32)) (s : Nat) : (stM m s).length = m.length := by unfold stM; simp
theorem mapL_len (n : Nat) (l : List Rn) : (mapL n l).length = mwN n := by
  unfold mapL
  have : ∀ (l : List Rn) (m : List (BitVec 32)), (l.foldl (fun m r => stM m r.f.toNat) m).length = m.length := by
    intro l
    induction l with
    | nil => intro m; rfl
    | cons r l ih => intro m; rw [List.foldl_cons, ih, stM_len]
  rw [this]; simp
theorem slot_in {n s : Nat} (h : s < 2 ^ n) (hn : n ≤ 24) : s / 32 < mwN n := by
  unfold mwN
  split
  · rename_i c
    have : (2 : Nat) ^ n ≤ 2 ^ 5 := Nat.pow_le_pow_right (by decide) (by omega)
    omega
  · rename_i c
    obtain ⟨k, rfl⟩ : ∃ k, n = k + 5 := ⟨n - 5, by omega⟩
    rw [Nat.add_sub_cancel]
    rw [Nat.pow_add] at h
    exact Nat.div_lt_of_lt_mul (by omega)
theorem lo_small {x : BitVec 128} (h : x.toNat < 16777216) : lI x = (x.toNat : Int) := by rw [lIN]; omega
theorem one_u32 (k : Nat) : Op.shift .shl .u32 1 .u64 (k : Int) = pure (.int .u32 (uI (1#32 <<< k))) := by
  have h := sh32u 1#32 k
  have e : uI 1#32 = 1 := by rw [uI_eq]; rfl
  rwa [e] at h
theorem own_cellU {W : World} {base e n g cap : Nat} {ys : List (BitVec 32)} (h : W.ownsRow base e 1 (.slice (some ⟨g, 0, none⟩) n cap) n (ys.map cU)) {k : Nat} {a : BitVec 32} (hk : ys[k]? = some a) : W.cell? ⟨g, k, none⟩ = some (.int .u32 (uI a)) ∧ W.frozen? ⟨g, k, none⟩ = false := by
  constructor
  · have := h.cells (g := g) rfl k (cU a) (by rw [List.getElem?_map, hk]; rfl)
    rwa [addA, Nat.zero_add] at this
  · rcases h.2 with ⟨h1, -⟩ | ⟨g', cap', cur, h1, hb, hg, -⟩
    · cases h1
    · injection h1 with h1 h2 h3
      injection h1 with h1
      injection h1 with h1
      subst h1
      exact fr_16 hg
end Go.Proofs.Ytjgpbahglkaijab
namespace Go.Proofs.Ytjgpbahglkaijab
open Go.RowKit Go.Shelf
set_option linter.unusedSimpArgs false
set_option linter.unusedVariables false
attribute [local go_sem] Oper.semAt_some

section
variable {w W W' : World} {C G cap : Nat} {code : List Nat} {vp : Value} {P : List Int}
end
end Go.Proofs.Ytjgpbahglkaijab
namespace Go.Proofs.Ytjgpbahglkaijab
open Go.RowKit Go.Shelf
set_option linter.unusedSimpArgs false
set_option linter.unusedVariables false
attribute [local go_sem] Oper.semAt_some

def rnO (r : Rn) : Int := if r.k then 3 else 4
def rnI (P : List Int) (p : Nat) (r : Rn) : Int := if r.k then P.getD r.n.toNat 0 - (p : Int) else r.n
def rnB (P : List Int) : Nat → List Rn → List Nat
  | _, [] => []
  | p, r :: l => wdB (rnO r).toNat (rnI P p r).toNat [] ++ rnB P (p + 1) l
def RnLay (P : List Int) (p : Nat) (l : List Rn) : Prop := ∀ (j : Nat) (r : Rn), l[j]? = some r → chkE (rnO r) (rnI P (p + j) r) [] = 0 ∧ (r.k = true → ∃ (k : Nat) (y : Int), r.n = (k : Int) ∧ P[k]? = some y ∧ 0 ≤ y ∧ y ≤ 1000000000)
def ndB (P : List Int) (a : Nat) (d : Nde) : List Nat := if d.b = 0 then rnB P a d.r else wdB 1 d.b.toNat [] ++ (wdB 2 d.b.toNat (mapL d.b.toNat d.r) ++ rnB P (a + 2 + mwN d.b.toNat) d.r)
structure NdLay (P : List Int) (a : Nat) (d : Nde) : Prop where
  b0 : 0 ≤ d.b
  b1 : d.b ≤ 24
  s : ∀ r ∈ d.r, r.f.toNat < 2 ^ d.b.toNat
  e : d.b ≠ 0 → chkE 1 d.b [] = 0 ∧ chkE 2 d.b (mapL d.b.toNat d.r) = 0
  r : RnLay P (if d.b = 0 then a else a + 2 + mwN d.b.toNat) d.r
  z : d.b = 0 → d.r.length = 1
theorem rnB_len (P : List Int) : ∀ (l : List Rn) (p : Nat), (rnB P p l).length = 4 * l.length
  | [], p => rfl
  | r :: l, p => by
    show (wdB _ _ _ ++ rnB P (p + 1) l).length = _
    rw [List.length_append, wdB_len, rnB_len P l (p + 1), List.length_cons]
    simp; omega
theorem ndB_len {P : List Int} {a : Nat} {d : Nde} (h : NdLay P a d) : (ndB P a d).length = 4 * szN d := by
  unfold ndB szN
  by_cases h0 : d.b = 0
  · rw [if_pos h0, if_pos h0, rnB_len, h.z h0]
  · rw [if_neg h0, if_neg h0, List.length_append, List.length_append, wdB_len, wdB_len, rnB_len, mapL_len]
    simp; omega
theorem rnB_drop (P : List Int) (l : List Rn) (p j : Nat) (r : Rn) (h : l[j]? = some r) : rnB P (p + j) (l.drop j) = wdB (rnO r).toNat (rnI P (p + j) r).toNat [] ++ rnB P (p + (j + 1)) (l.drop (j + 1)) := by
  obtain ⟨h1, h2⟩ := List.getElem?_eq_some_iff.mp h
  rw [List.drop_eq_getElem_cons h1, h2]; rfl
theorem nil_rwx16 (w : World) : RwX cU w (.slice none 0 0) [] := ⟨none, 0, rfl, Nat.le_refl _, .inl rfl⟩
theorem KX.cell {X : Nat → Prop} {V U : World} (h : KX X V U) {z o : Nat} {u : Value} (hz : ¬ X z) (hc : V.cell? ⟨z, o, none⟩ = some u) : U.cell? ⟨z, o, none⟩ = some u := (World.cell?_of_block (a := ⟨z, o, none⟩) (h.2 z (cell_in hc) hz)).trans hc
end Go.Proofs.Ytjgpbahglkaijab
namespace Go.Proofs.Ytjgpbahglkaijab
open Go.RowKit Go.Shelf
set_option linter.unusedSimpArgs false
set_option linter.unusedVariables false
attribute [local go_sem] Oper.semAt_some

def lyB (L : List Nde) (P : List Int) : Nat → List Int → List Nat
  | _, [] => []
  | a, k :: o => ndB P a (L.getD k.toNat ⟨0, []⟩) ++ lyB L P (a + szN (L.getD k.toNat ⟨0, []⟩)) o
def wsum (L : List Nde) : List Int → Nat
  | [] => 0
  | k :: o => szN (L.getD k.toNat ⟨0, []⟩) + wsum L o
def LayOk (L : List Nde) (P : List Int) : Nat → List Int → Prop
  | _, [] => True
  | a, k :: o => (∃ d, L[k.toNat]? = some d ∧ 0 ≤ k ∧ NdLay P a d) ∧ LayOk L P (a + szN (L.getD k.toNat ⟨0, []⟩)) o
theorem ly_drop {L : List Nde} {P : List Int} {o : List Int} {i k : Nat} {d : Nde} (ho : o[i]? = some (k : Int)) (hd : L[k]? = some d) (a : Nat) : lyB L P a (o.drop i) = ndB P a d ++ lyB L P (a + szN d) (o.drop (i + 1)) ∧ wsum L (o.drop i) = szN d + wsum L (o.drop (i + 1)) ∧ (LayOk L P a (o.drop i) → NdLay P a d ∧ LayOk L P (a + szN d) (o.drop (i + 1))) := by
  obtain ⟨hi, he⟩ := List.getElem?_eq_some_iff.mp ho
  have e : L.getD k ⟨0, []⟩ = d := by rw [List.getD_eq_getElem?_getD, hd]; rfl
  rw [List.drop_eq_getElem_cons hi, he]
  refine ⟨?_, ?_, ?_⟩
  · show ndB P a (L.getD (k : Int).toNat ⟨0, []⟩) ++ lyB L P (a + szN (L.getD (k : Int).toNat ⟨0, []⟩)) _ = _
    rw [Int.toNat_natCast, e]
  · show szN (L.getD (k : Int).toNat ⟨0, []⟩) + _ = _
    rw [Int.toNat_natCast, e]
  · rintro ⟨⟨d', h1, -, h2⟩, h3⟩
    rw [Int.toNat_natCast] at h1 h3
    rw [e] at h3
    rw [hd] at h1
    cases h1
    exact ⟨h2, h3⟩
theorem lyB_len {L : List Nde} {P : List Int} : ∀ {o : List Int} {a : Nat}, LayOk L P a o → (lyB L P a o).length = 4 * wsum L o
  | [], a, h => rfl
  | k :: o, a, h => by
    obtain ⟨⟨d, h1, h2, h3⟩, h4⟩ := h
    have e : L.getD k.toNat ⟨0, []⟩ = d := by rw [List.getD_eq_getElem?_getD, h1]; rfl
    show (ndB P a (L.getD k.toNat ⟨0, []⟩) ++ lyB L P _ o).length = 4 * (szN (L.getD k.toNat ⟨0, []⟩) + wsum L o)
    rw [List.length_append, lyB_len h4, e, ndB_len h3]
    omega
end Go.Proofs.Ytjgpbahglkaijab
namespace Go.Proofs.Ytjgpbahglkaijab
set_option linter.unusedSimpArgs false
set_option linter.unusedVariables false

theorem cmp_neg {x y : BitVec 128} : cmpZ x y < 0 ↔ x.toNat < y.toNat := by
  unfold cmpZ
  by_cases h : x.toNat < y.toNat
  · rw [if_pos h]; simp [h]
  · rw [if_neg h]
    constructor
    · intro q; split at q <;> omega
    · intro q; exact absurd q h
theorem adj_rise : ∀ (l : List Rn), adjG l = true → ∀ (i j : Nat) (a b : Rn), i < j → l[i]? = some a → l[j]? = some b → a.f.toNat < b.f.toNat
  | [], _, i, j, a, b, _, ha, _ => by simp at ha
  | [x], _, i, j, a, b, hij, ha, hb => by
    cases j with
    | zero => omega
    | succ j => simp at hb
  | x :: y :: t, h, i, j, a, b, hij, ha, hb => by
    unfold adjG at h
    simp only [Bool.and_eq_true, decide_eq_true_eq] at h
    have hxy := cmp_neg.1 h.1.1
    cases j with
    | zero => omega
    | succ j =>
      have hb' : (y :: t)[j]? = some b := by simpa using hb
      cases i with
      | zero =>
        simp at ha
        subst ha
        cases j with
        | zero => simp at hb'; subst hb'; exact hxy
        | succ j =>
          have := adj_rise (y :: t) h.2 0 (j + 1) y b (by omega) rfl hb'
          omega
      | succ i => exact adj_rise (y :: t) h.2 i j a b (by omega) (by simpa using ha) hb'
structure IoOk (d : Nde) : Prop where
  ne : d.r ≠ []
  z : ∀ r, d.r[0]? = some r → r.f = 0#128
  rise : ∀ (i j : Nat) (a b : Rn), i < j → d.r[i]? = some a → d.r[j]? = some b → a.f.toNat < b.f.toNat
  lt : ∀ r ∈ d.r, r.f.toNat < 2 ^ d.b.toNat
theorem io_ok {d : Nde} (h : ioB d = true) : IoOk d := by
  obtain ⟨b, l⟩ := d
  have hne : l ≠ [] := by rintro rfl; rw [io_nil] at h; cases h
  have hp := List.length_pos_iff.mpr hne
  rw [io_one b l hne] at h
  simp only [Bool.and_eq_true, beq_iff_eq] at h
  obtain ⟨h1, h2, h3⟩ := h
  have hr := adj_rise l h2
  have hlast : (l[l.length - 1]'(by omega)).f.toNat < 2 ^ b.toNat := by
    have e := congrArg BitVec.toNat h3
    rw [BitVec.toNat_ushiftRight, Nat.shiftRight_eq_div_pow] at e
    have e0 : (0#128).toNat = 0 := rfl
    rw [e0] at e
    rcases Nat.div_eq_zero_iff.mp e with q | q
    · have : (0 : Nat) < 2 ^ b.toNat := Nat.two_pow_pos _
      omega
    · exact q
  refine ⟨hne, fun r hr0 => ?_, hr, fun r hrm => ?_⟩
  · dsimp only at hr0
    rw [List.getElem?_eq_getElem hp] at hr0
    cases hr0
    exact h1
  · dsimp only at hrm ⊢
    obtain ⟨i, hi⟩ := List.getElem?_of_mem hrm
    have hil := (List.getElem?_eq_some_iff.mp hi).1
    by_cases hc : i = l.length - 1
    · subst hc
      rw [List.getElem?_eq_getElem hil] at hi
      cases hi
      exact hlast
    · have := hr i (l.length - 1) r _ (by omega) hi (List.getElem?_eq_getElem (by omega))
      omega
theorem io_zero {d : Nde} (h : IoOk d) (hb : d.b = 0) : d.r.length = 1 := by
  have hp := List.length_pos_iff.mpr h.ne
  by_cases hc : d.r.length = 1
  · exact hc
  · have h1 : 1 < d.r.length := by omega
    have := h.rise 0 1 _ _ (by omega) (List.getElem?_eq_getElem hp) (List.getElem?_eq_getElem h1)
    have h2 := h.lt _ (List.getElem_mem h1)
    rw [hb] at h2
    simp at h2
    omega
theorem stM_head (m : List (BitVec 32)) (s : Nat) (hm : m ≠ []) (i : Nat) (hi : i < 32) : ((stM m s).headD 0#32).getLsbD i = ((m.headD 0#32).getLsbD i || decide (s + i = 31)) := by
  obtain ⟨x, t, rfl⟩ := List.exists_cons_of_ne_nil hm
  unfold stM
  by_cases hs : s / 32 = 0
  · rw [hs]
    have h2 : s < 32 := by omega
    simp only [List.set_cons_zero, List.headD_cons, List.getD_cons_zero]
    rw [BitVec.getLsbD_or, BitVec.getLsbD_shiftLeft, Nat.mod_eq_of_lt h2]
    have e1 : (1#32).getLsbD (i - (31 - s)) = decide (i - (31 - s) = 0) := by
      cases hh : i - (31 - s) with
      | zero => rfl
      | succ k =>
        have : (1#32).getLsbD (k + 1) = false := by
          rw [BitVec.getLsbD_ofNat]
          have : Nat.testBit 1 (k + 1) = false := by
            cases hq : Nat.testBit 1 (k + 1) with
            | false => rfl
            | true => exact absurd (Nat.testBit_one_eq_true_iff_self_eq_zero.mp hq) (by omega)
          rw [this]; simp
        rw [this]; simp
    rw [e1]
    congr 1
    by_cases c : s + i = 31
    · rw [decide_eq_true c, decide_eq_true hi, decide_eq_false (by omega : ¬ i < 31 - s), decide_eq_true (by omega : i - (31 - s) = 0)]; rfl
    · rw [decide_eq_false c]
      by_cases c2 : i < 31 - s
      · rw [decide_eq_true c2]; simp
      · rw [decide_eq_false (by omega : ¬ i - (31 - s) = 0)]; simp
  · obtain ⟨k, hk⟩ : ∃ k, s / 32 = k + 1 := ⟨s / 32 - 1, by omega⟩
    rw [hk]
    simp only [List.set_cons_succ, List.headD_cons]
    rw [decide_eq_false (by omega : ¬ s + i = 31), Bool.or_false]
theorem map_head : ∀ (l : List Rn) (m : List (BitVec 32)) (hm : m ≠ []) (i : Nat) (hi : i < 32), ((l.foldl (fun m r => stM m r.f.toNat) m).headD 0#32).getLsbD i = ((m.headD 0#32).getLsbD i || l.any fun r => decide (r.f.toNat + i = 31))
  | [], m, hm, i, hi => by simp
  | r :: l, m, hm, i, hi => by
    rw [List.foldl_cons, map_head l (stM m r.f.toNat) (by intro e; have := congrArg List.length e; rw [stM_len] at this; exact hm (List.eq_nil_of_length_eq_zero this)) i hi, stM_head m _ hm i hi, List.any_cons, Bool.or_assoc]
theorem map_ok {d : Nde} (h : IoOk d) (n : Nat) (hn : d.b = (n : Int)) (h1 : n ≤ 24) : isMapB (mapL n d.r) n = true := by
  have hrep : List.replicate (mwN n) (0#32) ≠ [] := by
    intro e
    have := congrArg List.length e
    simp at this
    have := mwN_lo n
    omega
  have hb : ∀ i, i < 32 → ((mapL n d.r).headD 0#32).getLsbD i = d.r.any fun r => decide (r.f.toNat + i = 31) := by
    intro i hi
    unfold mapL
    rw [map_head d.r _ hrep i hi]
    obtain ⟨k, hk⟩ : ∃ k, mwN n = k + 1 := ⟨mwN n - 1, by have := mwN_lo n; omega⟩
    rw [hk, List.replicate_succ]
    simp
  unfold isMapB
  rw [decide_eq_true (mapL_len n d.r), Bool.true_and]
  unfold topB
  have hp := List.length_pos_iff.mpr h.ne
  rw [Bool.and_eq_true, beq_iff_eq]
  constructor
  · rw [hb 31 (by omega)]
    rw [List.any_eq_true]
    refine ⟨d.r[0], List.getElem_mem hp, ?_⟩
    have := h.z _ (List.getElem?_eq_getElem hp)
    rw [this]; decide
  · apply BitVec.eq_of_getLsbD_eq
    intro i hi
    rw [BitVec.getLsbD_shiftLeft]
    by_cases c : i < 2 ^ n
    · rw [decide_eq_true c]; simp
    · rw [hb (i - 2 ^ n) (Nat.lt_of_le_of_lt (Nat.sub_le _ _) hi)]
      have hlt : ∀ r ∈ d.r, r.f.toNat < 2 ^ n := fun r hr => by have := h.lt r hr; rwa [hn, Int.toNat_natCast] at this
      generalize 2 ^ n = p at *
      have : (d.r.any fun r => decide (r.f.toNat + (i - p) = 31)) = false := by
        rw [List.any_eq_false]
        intro r hr
        have := hlt r hr
        simp only [decide_eq_true_eq]
        omega
      rw [this]; simp
structure PlOk (L : List Nde) (o P0 P : List Int) (n0 n : Nat) : Prop where
  n : n = n0 + wsum L o
  len : P.length = P0.length
  out : ∀ j : Nat, (j : Int) ∉ o → P[j]? = P0[j]?
  at' : ∀ A k B, o = A ++ k :: B → P[k.toNat]? = some ((n0 + wsum L A : Nat) : Int)
  bits : ∀ k ∈ o, (L.getD k.toNat ⟨0, []⟩).b ≤ 24
theorem pl_ok {L : List Nde} : ∀ (o P0 P : List Int) (n0 n : Nat), o.Nodup → (∀ k ∈ o, 0 ≤ k ∧ k.toNat < P0.length) → plG L o P0 n0 = some (P, n) → PlOk L o P0 P n0 n
  | [], P0, P, n0, n, _, _, h => by
    unfold plG at h
    cases h
    exact ⟨rfl, rfl, fun _ _ => rfl, fun A k B e => by simp at e, fun k hk => by cases hk⟩
  | k :: o, P0, P, n0, n, hnd, hin, h => by
    unfold plG at h
    by_cases hb : (L.getD k.toNat ⟨0, []⟩).b ≤ 24
    · rw [if_pos hb] at h
      obtain ⟨hk1, hk2⟩ := List.nodup_cons.mp hnd
      have ih := pl_ok o (P0.set k.toNat (n0 : Int)) P _ n hk2 (fun j hj => by rw [List.length_set]; exact hin j (List.mem_cons_of_mem _ hj)) h
      have h0 := hin k (List.mem_cons_self ..)
      refine ⟨by rw [ih.n]; show _ = n0 + (szN _ + wsum L o); omega, by rw [ih.len]; simp, fun j hj => ?_, fun A x B e => ?_, fun j hj => ?_⟩
      · rw [ih.out j (fun q => hj (List.mem_cons_of_mem _ q)), List.getElem?_set_ne]
        intro q
        apply hj
        rw [show (j : Int) = k by omega]
        exact List.mem_cons_self ..
      · cases A with
        | nil =>
          simp at e
          obtain ⟨e1, e2⟩ := e
          subst e1 e2
          rw [ih.out k.toNat (fun q => hk1 (by rwa [show ((k.toNat : Nat) : Int) = k by omega] at q)), List.getElem?_set_self h0.2]
          rfl
        | cons a A =>
          simp at e
          obtain ⟨e1, e2⟩ := e
          subst e1
          rw [ih.at' A x B e2]
          show some (((n0 + szN _ + wsum L A : Nat)) : Int) = some (((n0 + (szN _ + wsum L A) : Nat)) : Int)
          rw [Nat.add_assoc]
      · rcases List.mem_cons.mp hj with rfl | q
        · exact hb
        · exact ih.bits j q
    · rw [if_neg hb] at h; cases h
theorem wsum_app (L : List Nde) : ∀ (A B : List Int), wsum L (A ++ B) = wsum L A + wsum L B
  | [], B => by simp [wsum]
  | a :: A, B => by show szN _ + wsum L (A ++ B) = szN _ + wsum L A + wsum L B; rw [wsum_app L A B]; omega
theorem sz_pos (d : Nde) : 1 ≤ szN d := by unfold szN; split <;> omega
theorem nd_lay {L : List Nde} {P : List Int} {A B : List Int} {k : Nat} {d : Nde} {n : Nat} (ok : NdsOk L) (ho : OrdOk L (A ++ (k : Int) :: B)) (hd : L[k]? = some d) (hp : PlOk L (A ++ (k : Int) :: B) (List.replicate L.length 0) P 0 n) (hn : n ≤ 1048576) : NdLay P (wsum L A) d := by
  have nd := ok.2 k d hd
  have io := io_ok nd.io
  have hb : d.b ≤ 24 := by
    have := hp.bits (k : Int) (by simp)
    rw [Int.toNat_natCast, List.getD_eq_getElem?_getD, hd] at this
    exact this
  have hsz : L.getD (k : Int).toNat ⟨0, []⟩ = d := by rw [Int.toNat_natCast, List.getD_eq_getElem?_getD, hd]; rfl
  have htot : n = wsum L A + (szN d + wsum L B) := by
    rw [hp.n, Nat.zero_add, wsum_app]
    show _ + (szN (L.getD (k : Int).toNat ⟨0, []⟩) + wsum L B) = _
    rw [hsz]
  refine ⟨nd.b0, hb, io.lt, fun hz => ?_, ?_, fun hz => io_zero io hz⟩
  · obtain ⟨nb, hnb⟩ : ∃ nb : Nat, d.b = (nb : Int) := ⟨d.b.toNat, by have := nd.b0; omega⟩
    have h1 := nd.b0
    constructor
    · rw [chk_plain (by decide) (by unfold kLo kHi; simp; omega) (by decide)]; rfl
    · rw [chk_map (by decide) (by unfold kLo kHi; simp; omega) rfl, hnb, Int.toNat_natCast, map_ok io nb hnb (by omega)]; rfl
  · intro j r hr
    have hrm := List.mem_of_getElem? hr
    have hjl : j < d.r.length := (List.getElem?_eq_some_iff.mp hr).1
    have hpos : (if d.b = 0 then wsum L A else wsum L A + 2 + mwN d.b.toNat) + j < wsum L A + szN d := by
      by_cases hz : d.b = 0
      · rw [if_pos hz]
        have := io_zero io hz
        have := sz_pos d
        omega
      · rw [if_neg hz]
        unfold szN
        rw [if_neg hz]
        omega
    generalize (if d.b = 0 then wsum L A else wsum L A + 2 + mwN d.b.toNat) + j = p at *
    unfold rnO rnI
    cases hk : r.k with
    | false =>
      have := nd.hop r hrm hk
      refine ⟨?_, fun q => by cases q⟩
      simp only [Bool.false_eq_true, if_false]
      rw [chk_plain (by decide) (by unfold kLo kHi; simp; omega) (by decide)]; rfl
    | true =>
      obtain ⟨a1, a2, a3⟩ := ok.lead hd hrm hk
      have hin := ho.kid A (k : Int) B rfl d r (by rw [Int.toNat_natCast]; exact hd) hrm hk
      obtain ⟨B1, B2, hB⟩ := List.append_of_mem hin
      have hat := hp.at' (A ++ (k : Int) :: B1) r.n B2 (by rw [hB]; simp)
      rw [Nat.zero_add, wsum_app] at hat
      have hs1 : wsum L ((k : Int) :: B1) = szN d + wsum L B1 := by
        show szN (L.getD (k : Int).toNat ⟨0, []⟩) + wsum L B1 = _
        rw [hsz]
      rw [hs1] at hat
      have hs2 : wsum L B = wsum L B1 + (szN (L.getD r.n.toNat ⟨0, []⟩) + wsum L B2) := by rw [hB, wsum_app]; rfl
      have hs3 := sz_pos (L.getD r.n.toNat ⟨0, []⟩)
      simp only [if_true]
      rw [List.getD_eq_getElem?_getD, hat]
      refine ⟨?_, fun _ => ⟨r.n.toNat, _, a3, hat, by omega, by omega⟩⟩
      simp only [Option.getD_some]
      rw [chk_plain (by decide) (by unfold kLo kHi; simp; omega) (by decide)]; rfl
theorem lay_ok {L : List Nde} {P : List Int} {n : Nat} (ok : NdsOk L) (hp : plG L (ordL L) (List.replicate L.length 0) 0 = some (P, n)) (hn : n ≤ 1048576) : LayOk L P 0 (ordL L) ∧ wsum L (ordL L) = n := by
  have ho := ord_ok ok
  have hin := ord_in ok
  have pl := pl_ok (ordL L) _ P 0 n ho.nd (fun k hk => by have := hin k hk; simp; omega) hp
  refine ⟨?_, by have := pl.n; omega⟩
  generalize ordL L = o at *
  have key : ∀ (B A : List Int), o = A ++ B → LayOk L P (wsum L A) B := by
    intro B
    induction B with
    | nil => intro A _; trivial
    | cons x B ih =>
      intro A hA
      have hx := hin x (by rw [hA]; simp)
      obtain ⟨k, rfl⟩ : ∃ k : Nat, x = (k : Int) := ⟨x.toNat, by omega⟩
      obtain ⟨d, hd⟩ : ∃ d, L[k]? = some d := ⟨L[k]'(by omega), List.getElem?_eq_getElem _⟩
      subst hA
      refine ⟨⟨d, by rw [Int.toNat_natCast]; exact hd, by omega, nd_lay ok ho hd pl hn⟩, ?_⟩
      have := ih (A ++ [(k : Int)]) (by simp)
      rw [wsum_app] at this
      have e : wsum L [(k : Int)] = szN (L.getD (k : Int).toNat ⟨0, []⟩) := by show szN _ + 0 = _; omega
      rw [e] at this
      exact this
  exact key o [] rfl
end Go.Proofs.Ytjgpbahglkaijab
namespace Go.Proofs.Ytjgpbahglkaijab
open Go.RowKit Go.Shelf
set_option linter.unusedSimpArgs false
set_option linter.unusedVariables false
attribute [local go_sem] Oper.semAt_some

theorem wsum_le {L : List Nde} (hr : ∀ d ∈ L, d.r.length ≤ 1000000000) : ∀ (o : List Int), (∀ k ∈ o, (L.getD k.toNat ⟨0, []⟩).b ≤ 24) → wsum L o ≤ o.length * 1000524290
  | [], _ => by simp [wsum]
  | k :: o, h => by
    have ih := wsum_le hr o (fun j hj => h j (List.mem_cons_of_mem _ hj))
    have h1 : szN (L.getD k.toNat ⟨0, []⟩) ≤ 1000524290 := by
      refine sz_le (h k (List.mem_cons_self ..)) ?_
      rw [List.getD_eq_getElem?_getD]
      cases hk : L[k.toNat]? with
      | none => simp
      | some d => exact hr d (List.mem_of_getElem? hk)
    show szN _ + wsum L o ≤ (o.length + 1) * 1000524290
    omega
theorem lay_words {F : Int} {L : List Nde} (hl : L.length ≤ 1000000000) (hr : ∀ d ∈ L, d.r.length ≤ 1000000000) : (layR F L).1.2.2 ≤ 1000524290000000000 := by
  unfold layR
  split
  · rename_i h
    have ok := (chk_ok h).1
    split
    · rename_i P n hp
      have pl := pl_ok (ordL L) _ P 0 n (ord_ok ok).nd (fun k hk => by have := ord_in ok k hk; simp; omega) hp
      have h1 := wsum_le hr (ordL L) pl.bits
      have h2 := ord_len ok
      have h3 := pl.n
      dsimp only
      have : (ordL L).length * 1000524290 ≤ 1000000000 * 1000524290 := Nat.mul_le_mul_right _ (by omega)
      omega
    · simp
  · simp
def codE (F : Int) (L : List Nde) (most : Int) : Int := if (layR F L).2 = 0 then (if min most 4194304 < 4 * ((layR F L).1.2.2 : Int) then 18 else 0) else (layR F L).2
def codB (F : Int) (L : List Nde) (most : Int) : List Nat := if codE F L most = 0 then lyB L (layR F L).1.2.1 0 (layR F L).1.1 else []
theorem lay_zero {F : Int} {L : List Nde} (h : (layR F L).2 = 0) : NdsOk L ∧ (chkM F L).2 = 0 ∧ plG L (ordL L) (List.replicate L.length 0) 0 = some ((layR F L).1.2.1, (layR F L).1.2.2) ∧ (layR F L).1.1 = ordL L := by
  unfold layR at h ⊢
  by_cases hc : (chkM F L).2 = 0
  · rw [if_pos hc] at h ⊢
    cases hp : plG L (ordL L) (List.replicate L.length 0) 0 with
    | none => rw [hp] at h; cases h
    | some q =>
      obtain ⟨P, n⟩ := q
      exact ⟨(chk_ok hc).1, hc, rfl, rfl⟩
  · rw [if_neg hc] at h
    exact absurd h hc
end Go.Proofs.Ytjgpbahglkaijab
namespace Go.Proofs.Ytjgpbahglkaijab
open Go.RowKit Go.Shelf
set_option linter.unusedSimpArgs false
set_option linter.unusedVariables false
attribute [local go_sem] Oper.semAt_some

end Go.Proofs.Ytjgpbahglkaijab
