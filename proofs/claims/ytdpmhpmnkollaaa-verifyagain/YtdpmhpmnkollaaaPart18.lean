/-
  Part 18 of the proof: 11 texts, one behind the other.
-/
import Derived.Test.YtdpmhpmnkollaaaPart17
import Derived.Test.YtdpmhpmnkollaaaPart2
import Derived.Test.YtdpmhpmnkollaaaPart4
namespace Go.Proofs.Ytdpmhpmnkollaaa
open Go.RowKit Go.Shelf
set_option linter.unusedSimpArgs false
set_option linter.unusedVariables false
attribute [local go_sem] Oper.semAt_some

structure BwM (Z : Nat → Prop) (A : Nat) (ao : Option Addr) (c : Nat) (l : List Rn) (W : World) : Prop where
  a : W.cell? ⟨A, 0, none⟩ = some (.slice ao l.length c)
  za : Z A
  r : RwN W (.slice ao l.length c) l
  zr : l ≠ [] → ∀ ad, ao = some ad → Z ad.block
theorem BwM.kz {Z : Nat → Prop} {A : Nat} {ao : Option Addr} {c : Nat} {l : List Rn} {W W' : World} (h : BwM Z A ao c l W) (g : KZ Z W W') : BwM Z A ao c l W' := by
  refine ⟨kz_cell g h.za h.a, h.za, ?_, h.zr⟩
  obtain ⟨ao', c', e, hc, hr⟩ := h.r
  injection e with e1 e2 e3
  subst e1 e3
  refine ⟨ao, c, rfl, hc, ?_⟩
  rcases hr with hr | ⟨b, off, e, hr⟩
  · exact .inl hr
  · exact .inr ⟨b, off, e, fun j x hj => rn_kz (hr j x hj) g (h.zr (by rintro rfl; cases hj) _ e)⟩
abbrev DfS := List Bool × List Int
def stpR (go : Nat → DfS → DfS) (s : DfS) (r : Rn) : DfS := if r.k && !(s.1.getD r.n.toNat false) then go r.n.toNat s else s
def dfs (L : List Nde) : Nat → Nat → DfS → DfS
  | 0, _, s => s
  | f + 1, n, s => let t := ((L.getD n ⟨0, []⟩).r.reverse).foldl (stpR (dfs L f)) (s.1.set n true, s.2); (t.1, t.2 ++ [(n : Int)])
theorem dfs_succ (L : List Nde) (f n : Nat) (s : DfS) (d : Nde) (h : L[n]? = some d) : dfs L (f + 1) n s = (((d.r.reverse).foldl (stpR (dfs L f)) (s.1.set n true, s.2)).1, ((d.r.reverse).foldl (stpR (dfs L f)) (s.1.set n true, s.2)).2 ++ [(n : Int)]) := by
  unfold dfs
  rw [List.getD_eq_getElem?_getD, h]; rfl
theorem stp_keep {P : DfS → Prop} {go : Nat → DfS → DfS} {s : DfS} {r : Rn} (h : P s) (hg : ∀ n s, r.k = true → r.n.toNat = n → s.1.getD n false = false → P s → P (go n s)) : P (stpR go s r) := by
  unfold stpR
  split
  · rename_i q
    simp only [Bool.and_eq_true, Bool.not_eq_true'] at q
    exact hg _ s q.1 rfl q.2 h
  · exact h
theorem stps_keep {P : DfS → Prop} {go : Nat → DfS → DfS} : ∀ (l : List Rn) (s : DfS), P s → (∀ r ∈ l, ∀ n s, r.k = true → r.n.toNat = n → s.1.getD n false = false → P s → P (go n s)) → P (l.foldl (stpR go) s)
  | [], s, h, _ => h
  | r :: l, s, h, hg => stps_keep l _ (stp_keep h (hg r (List.mem_cons_self ..))) (fun r' hr' => hg r' (List.mem_cons_of_mem _ hr'))
def CntD (N c : Nat) (s : DfS) : Prop := s.1.length = N ∧ s.1.count true = s.2.length + c
theorem cnt_set16 {s : DfS} {N c n : Nat} (h : CntD N c s) (hn : n < N) (hf : s.1.getD n false = false) : CntD N (c + 1) (s.1.set n true, s.2) := by
  refine ⟨by simp [h.1], ?_⟩
  have hn' : n < s.1.length := by rw [h.1]; exact hn
  dsimp only
  rw [List.count_set hn', h.2]
  rw [List.getD_eq_getElem?_getD, List.getElem?_eq_getElem hn'] at hf
  simp only [Option.getD_some] at hf
  simp [hf]; omega
theorem NdsOk.lead {L : List Nde} (h : NdsOk L) {n : Nat} {d : Nde} (hd : L[n]? = some d) {r : Rn} (hr : r ∈ d.r) (hk : r.k = true) : n < r.n.toNat ∧ r.n.toNat < L.length ∧ r.n = (r.n.toNat : Int) := by
  have := (h.2 n d hd).kid r hr hk
  omega
theorem dfs_cnt {L : List Nde} (ok : NdsOk L) : ∀ (f n : Nat) (s : DfS) (c : Nat), n < L.length → s.1.getD n false = false → CntD L.length c s → L.length ≤ n + f → CntD L.length c (dfs L f n s)
  | 0, n, s, c, hn, _, _, hf => by omega
  | f + 1, n, s, c, hn, h0, h, hf => by
    obtain ⟨d, hd⟩ : ∃ d, L[n]? = some d := ⟨L[n], by simp [hn]⟩
    rw [dfs_succ L f n s d hd]
    have key := stps_keep (P := CntD L.length (c + 1)) (go := dfs L f) d.r.reverse _ (cnt_set16 h hn h0) (fun r hr m s' hk hm hf' hs' => by
      obtain ⟨a1, a2, -⟩ := ok.lead hd (List.mem_reverse.mp hr) hk
      exact dfs_cnt ok f m s' (c + 1) (by omega) hf' hs' (by omega))
    refine ⟨key.1, ?_⟩
    rw [key.2, List.length_append]
    simp; omega
end Go.Proofs.Ytdpmhpmnkollaaa
namespace Go.Proofs.Ytdpmhpmnkollaaa
open Go.RowKit Go.Shelf
set_option linter.unusedSimpArgs false
set_option linter.unusedVariables false
attribute [local go_sem] Oper.semAt_some

structure DfV (w : World) (v : Value) (N : Nat) (s : DfS) (W : World) : Prop where
  bl : W.heap[w.heap.size]? = some (.cells #[v] 22)
  gm : W.heap[w.heap.size + 1]? = some (.cells (s.1.map cBo).toArray 4)
  bm : W.heap[w.heap.size + 1 + 1]? = some (.cells #[.slice (some ⟨w.heap.size + 1, 0, none⟩) N N] 55)
  go : W.ownsRow w.heap.size 3 1 (.slice (some ⟨w.heap.size + 1 + 1 + 1, 0, none⟩) s.2.length N) s.2.length (s.2.map cI)
  bo : W.heap[w.heap.size + 1 + 1 + 1 + 1]? = some (.cells #[.slice (some ⟨w.heap.size + 1 + 1 + 1, 0, none⟩) s.2.length N] 37)
  bd : W.heap[w.heap.size + 1 + 1 + 1 + 1 + 1]? = some (.cells #[.func (.func 72) #[] #[.pointer (some ⟨w.heap.size + 1 + 1, 0, none⟩), .pointer (some ⟨w.heap.size, 0, none⟩), .pointer (some ⟨w.heap.size + 1 + 1 + 1 + 1 + 1, 0, none⟩), .pointer (some ⟨w.heap.size + 1 + 1 + 1 + 1, 0, none⟩)]] 141)
  b : Below w.heap.size w W
  l : s.1.length = N
section
variable {w W W' : World} {v : Value} {N : Nat} {s : DfS}
theorem DfV.below (h : DfV w v N s W) (hb : Below W.heap.size W W') : DfV w v N s W' := ⟨(hb.block _ (lt_16 h.bl)).trans h.bl, (hb.block _ (lt_16 h.gm)).trans h.gm, (hb.block _ (lt_16 h.bm)).trans h.bm, own_b13 hb h.go, (hb.block _ (lt_16 h.bo)).trans h.bo, (hb.block _ (lt_16 h.bd)).trans h.bd, keepb hb h.b, h.l⟩
theorem own_16 {W W' : World} {row : Option Nat} (hg : W.grownBy W' row) (hr : ∀ r, row = some r → ∃ o : Obj, W.heap[r]? = some o ∧ o.isCells = false) {base e size n : Nat} {v : Value} {xs : List Value} (h : W.ownsRow base e size v n xs) : W'.ownsRow base e size v n xs := by
  refine h.kept hg ?_
  cases hv : v.ownBlock with
  | none => exact .inl rfl
  | some z =>
    refine .inr fun e => ?_
    obtain ⟨o, h1, h2⟩ := hr z e.symm
    obtain ⟨cs, T, fr, h3⟩ := own_cells14 h hv
    rw [h3] at h1
    cases h1
    cases h2
theorem DfV.kept {row : Option Nat} (h : DfV w v N s W) (hg : W.grownBy W' row) (hr : ∀ r, row = some r → w.heap.size ≤ r ∧ ∃ o : Obj, W.heap[r]? = some o ∧ o.isCells = false) : DfV w v N s W' :=
  ⟨blk_16 hg (fun r e => (hr r e).2) h.bl, blk_16 hg (fun r e => (hr r e).2) h.gm, blk_16 hg (fun r e => (hr r e).2) h.bm, own_16 hg (fun r e => (hr r e).2) h.go, blk_16 hg (fun r e => (hr r e).2) h.bo, blk_16 hg (fun r e => (hr r e).2) h.bd, h.b.grown hg h.b.size (fun r e => (hr r e).1), h.l⟩
theorem own_far16 {W : World} {base e size n : Nat} {v : Value} {xs : List Value} (h : W.ownsRow base e size v n xs) {B o : Nat} (u : Value) (hv : v.ownBlock ≠ some B) : (W.setCell ⟨B, o, none⟩ u).ownsRow base e size v n xs := by
  refine ⟨h.1, ?_⟩
  rcases h.2 with h1 | ⟨g, cap, cur, e, h1, h2, h3⟩
  · exact .inl h1
  · refine .inr ⟨g, cap, cur, e, h1, (far_16 ?_).trans h2, h3⟩
    rintro rfl
    exact hv (by rw [e]; rfl)
theorem DfV.met (h : DfV w v N s W) (k : Nat) : DfV w v N (s.1.set k true, s.2) (W.setCell ⟨w.heap.size + 1, k, none⟩ (.bool true)) := by
  refine ⟨(far_16 (by omega)).trans h.bl, ?_, (far_16 (by omega)).trans h.bm, own_far16 h.go _ (fun e => by have := Option.some.inj (show some (w.heap.size + 1 + 1 + 1) = some (w.heap.size + 1) from e); omega), (far_16 (by omega)).trans h.bo, (far_16 (by omega)).trans h.bd, h.b.setCell (p := ⟨w.heap.size + 1, k, none⟩) (Nat.le_succ _) _, by simp [h.l]⟩
  rw [set_16 h.gm, map_set16]
theorem DfV.cell (h : DfV w v N s W) {k : Nat} (hk : k < N) : W.cell? ⟨w.heap.size + 1, k, none⟩ = some (.bool (s.1.getD k false)) := by
  refine at_16 h.gm k _ ?_
  rw [List.getElem?_toArray, List.getElem?_map, List.getElem?_eq_getElem (by rw [h.l]; exact hk), List.getD_eq_getElem?_getD, List.getElem?_eq_getElem (by rw [h.l]; exact hk)]
  rfl
theorem DfV.app (h : DfV w v N s W) {x : Int} (ho : W'.ownsRow w.heap.size 3 1 (.slice (some ⟨w.heap.size + 1 + 1 + 1, 0, none⟩) (s.2.length + 1) N) (s.2.length + 1) (s.2.map cI ++ [cI x])) (hg : W.grownBy W' (some (w.heap.size + 1 + 1 + 1))) : DfV w v N (s.1, s.2 ++ [x]) (W'.setCell ⟨w.heap.size + 1 + 1 + 1 + 1, 0, none⟩ (.slice (some ⟨w.heap.size + 1 + 1 + 1, 0, none⟩) (s.2.length + 1) N)) := by
  have kp : ∀ {z : Nat} {o : Obj}, W.heap[z]? = some o → z ≠ w.heap.size + 1 + 1 + 1 → W'.heap[z]? = some o := fun h1 h2 => (hg.block _ (lt_16 h1) (fun e => by injection e with e; exact h2 e)).trans h1
  refine ⟨(far_16 (by omega)).trans (kp h.bl (by omega)), (far_16 (by omega)).trans (kp h.gm (by omega)), (far_16 (by omega)).trans (kp h.bm (by omega)), ?_, ?_, (far_16 (by omega)).trans (kp h.bd (by omega)), ?_, h.l⟩
  · refine own_far16 ?_ _ (fun e => by have := Option.some.inj (show some (w.heap.size + 1 + 1 + 1) = some (w.heap.size + 1 + 1 + 1 + 1) from e); omega)
    simp only [List.length_append, List.map_append, List.length_cons, List.length_nil, List.map_cons, List.map_nil]
    exact ho
  · rw [set_16 (kp h.bo (by omega))]
    simp
  · exact (h.b.grown hg h.b.size (fun r e => by injection e with e; omega)).setCell (p := ⟨w.heap.size + 1 + 1 + 1 + 1, 0, none⟩) (by show w.heap.size ≤ w.heap.size + 1 + 1 + 1 + 1; omega) _
end
theorem Try.infoN16 : (Try.prog.info? 3).map (fun i => (i.zero, i.size, i.bytes)) = some (some (.int .i64 0), 1, 8) := by kernel_rfl
end Go.Proofs.Ytdpmhpmnkollaaa
namespace Go.Proofs.Ytdpmhpmnkollaaa
open Go.RowKit Go.Shelf
set_option linter.unusedSimpArgs false
set_option linter.unusedVariables false
attribute [local go_sem] Oper.semAt_some

def RvI (xs ys : List Int) (i : Nat) : Prop := ys.length = xs.length ∧ ∀ k, k < xs.length → ys[k]? = if k < i ∨ xs.length - i ≤ k then xs[xs.length - 1 - k]? else xs[k]?
theorem rv_end {xs ys : List Int} {i : Nat} (h : RvI xs ys i) (hi : xs.length ≤ 2 * i + 1) : ys = xs.reverse := by
  apply List.ext_getElem?
  intro k
  by_cases hk : k < xs.length
  · rw [h.2 k hk, List.getElem?_reverse hk]
    by_cases hc : k < i ∨ xs.length - i ≤ k
    · rw [if_pos hc]
    · rw [if_neg hc]
      have : xs.length - 1 - k = k := by omega
      rw [this]
  · rw [List.getElem?_eq_none (by rw [h.1]; omega), List.getElem?_eq_none (by simp; omega)]
theorem rv_step {xs ys : List Int} {i : Nat} (h : RvI xs ys i) (hi : 2 * i + 1 < xs.length) (a b : Int) (ha : ys[i]? = some a) (hb : ys[xs.length - 1 - i]? = some b) : RvI xs ((ys.set i b).set (xs.length - 1 - i) a) (i + 1) := by
  refine ⟨by simp [h.1], fun k hk => ?_⟩
  have e1 := h.2 i (by omega)
  have e2 := h.2 (xs.length - 1 - i) (by omega)
  rw [if_neg (by omega)] at e1 e2
  rw [ha] at e1
  rw [hb] at e2
  rw [List.getElem?_set, List.getElem?_set, List.length_set]
  by_cases c1 : xs.length - 1 - i = k
  · subst c1
    rw [if_pos rfl, if_pos (by rw [h.1]; omega), if_pos (by omega), show xs.length - 1 - (xs.length - 1 - i) = i by omega, e1]
  · rw [if_neg c1]
    by_cases c2 : i = k
    · subst c2
      rw [if_pos rfl, if_pos (by rw [h.1]; omega), if_pos (by omega), e2]
    · rw [if_neg c2, h.2 k hk]
      by_cases c3 : k < i ∨ xs.length - i ≤ k
      · rw [if_pos c3, if_pos (by omega)]
      · rw [if_neg c3, if_neg (by omega)]
theorem own_cell16 {W : World} {base e n g cap : Nat} {ys : List Int} (h : W.ownsRow base e 1 (.slice (some ⟨g, 0, none⟩) n cap) n (ys.map cI)) {k : Nat} {a : Int} (hk : ys[k]? = some a) : W.cell? ⟨g, k, none⟩ = some (.int .i64 a) ∧ W.frozen? ⟨g, k, none⟩ = false := by
  constructor
  · have := h.cells (g := g) rfl k (cI a) (by rw [List.getElem?_map, hk]; rfl)
    rwa [addA, Nat.zero_add] at this
  · rcases h.2 with ⟨h1, -⟩ | ⟨g', cap', cur, h1, hb, hg, -⟩
    · cases h1
    · injection h1 with h1 h2 h3
      injection h1 with h1
      injection h1 with h1
      subst h1
      exact fr_16 hg
theorem own_set16 {W : World} {base e n g cap : Nat} {ys : List Int} (h : W.ownsRow base e 1 (.slice (some ⟨g, 0, none⟩) n cap) n (ys.map cI)) (k : Nat) (a : Int) : (W.setCell ⟨g, k, none⟩ (.int .i64 a)).ownsRow base e 1 (.slice (some ⟨g, 0, none⟩) n cap) n ((ys.set k a).map cI) ∧ W.grownBy (W.setCell ⟨g, k, none⟩ (.int .i64 a)) (some g) := by
  constructor
  · have := (h.stored k (.int .i64 a)).1
    rw [List.map_set]
    exact this
  · exact ⟨rfl, rfl, rfl, by simp, fun z _ hz => far_16 (fun e => hz (by rw [e]))⟩
theorem storeF_16 {P : Program} {w : World} {a : Addr} {m : Mode} (f : Fn) (x l : Array Value) : (store a (.func f x l) m).run P w = stored P w a (.func f x l) m := run_store P w a _ m rfl
attribute [local go_sem] storeF_16
def ordL (L : List Nde) : List Int := (dfs L L.length 0 (List.replicate L.length false, [])).2.reverse
end Go.Proofs.Ytdpmhpmnkollaaa
namespace Go.Proofs.Ytdpmhpmnkollaaa
open Go.RowKit Go.Shelf
set_option linter.unusedSimpArgs false
set_option linter.unusedVariables false
attribute [local go_sem] Oper.semAt_some

theorem chk_ok {F : Int} {L : List Nde} (h : (chkM F L).2 = 0) : NdsOk L ∧ usedB L = true ∧ fam F = true ∧ chkM F L = deepR F L := by
  unfold chkM at h ⊢
  by_cases hf : fam F = true
  · rw [if_pos hf] at h ⊢
    by_cases hn : nodesE L = 0
    · rw [if_pos hn] at h ⊢
      by_cases hu : usedB L = true
      · rw [if_pos hu]
        exact ⟨nodes_ok hn, hu, hf, rfl⟩
      · rw [if_neg hu] at h; cases h
    · rw [if_neg hn] at h; exact absurd h hn
  · rw [if_neg hf] at h; cases h
def ordR (F : Int) (L : List Nde) : List Int := if (chkM F L).2 = 0 then ordL L else []
end Go.Proofs.Ytdpmhpmnkollaaa
namespace Go.Proofs.Ytdpmhpmnkollaaa
open Go.RowKit Go.Shelf
set_option linter.unusedSimpArgs false
set_option linter.unusedVariables false
attribute [local go_sem] Oper.semAt_some

def szN (d : Nde) : Nat := if d.b = 0 then 1 else 2 + mwN d.b.toNat + d.r.length
end Go.Proofs.Ytdpmhpmnkollaaa
namespace Go.Proofs.Ytdpmhpmnkollaaa
open Go.RowKit Go.Shelf
set_option linter.unusedSimpArgs false
set_option linter.unusedVariables false
attribute [local go_sem] Oper.semAt_some

def plG (L : List Nde) : List Int → List Int → Nat → Option (List Int × Nat)
  | [], P, n => some (P, n)
  | k :: o, P, n => if (L.getD k.toNat ⟨0, []⟩).b ≤ 24 then plG L o (P.set k.toNat (n : Int)) (n + szN (L.getD k.toNat ⟨0, []⟩)) else none
theorem pl_drop (L : List Nde) (o : List Int) (i k : Nat) (d : Nde) (ho : o[i]? = some (k : Int)) (hd : L[k]? = some d) (P : List Int) (n : Nat) : plG L (o.drop i) P n = if d.b ≤ 24 then plG L (o.drop (i + 1)) (P.set k (n : Int)) (n + szN d) else none := by
  obtain ⟨hi, he⟩ := List.getElem?_eq_some_iff.mp ho
  rw [List.drop_eq_getElem_cons hi, he]
  show (if (L.getD (k : Int).toNat ⟨0, []⟩).b ≤ 24 then _ else _) = _
  rw [Int.toNat_natCast, List.getD_eq_getElem?_getD, hd]; rfl
theorem dfs_in {L : List Nde} (ok : NdsOk L) : ∀ (f n : Nat) (s : DfS), n < L.length → (∀ x ∈ s.2, 0 ≤ x ∧ x < (L.length : Int)) → L.length ≤ n + f → ∀ x ∈ (dfs L f n s).2, 0 ≤ x ∧ x < (L.length : Int)
  | 0, n, s, hn, _, hf => by omega
  | f + 1, n, s, hn, h, hf => by
    obtain ⟨d, hd⟩ : ∃ d, L[n]? = some d := ⟨L[n], by simp [hn]⟩
    rw [dfs_succ L f n s d hd]
    have key := stps_keep (P := fun s => ∀ x ∈ s.2, 0 ≤ x ∧ x < (L.length : Int)) (go := dfs L f) d.r.reverse (s.1.set n true, s.2) h (fun r hr m s' hk hm hf' hs' => by
      obtain ⟨a1, a2, -⟩ := ok.lead hd (List.mem_reverse.mp hr) hk
      exact dfs_in ok f m s' (by omega) hs' (by omega))
    intro x hx
    rcases List.mem_append.mp hx with q | q
    · exact key x q
    · simp at q; subst q; omega
theorem ord_in {L : List Nde} (ok : NdsOk L) : ∀ x ∈ ordL L, 0 ≤ x ∧ x < (L.length : Int) := fun x hx => by
  unfold ordL at hx
  exact dfs_in ok L.length 0 _ ok.1 (fun y hy => by cases hy) (by omega) x (List.mem_reverse.mp hx)
theorem ord_len {L : List Nde} (ok : NdsOk L) : (ordL L).length ≤ L.length := by
  have h0 := ok.1
  have := dfs_cnt ok L.length 0 (List.replicate L.length false, []) 0 h0 (by rw [List.getD_eq_getElem?_getD, List.getElem?_replicate_of_lt h0]; rfl) ⟨by simp, by simp [List.count_replicate]⟩ (by omega)
  unfold ordL
  rw [List.length_reverse]
  have h1 := this.2
  have h2 := this.1
  have h3 : (dfs L L.length 0 (List.replicate L.length false, [])).1.count true ≤ _ := List.count_le_length
  omega
theorem sz_le {d : Nde} (h1 : d.b ≤ 24) (h2 : d.r.length ≤ 1000000000) : szN d ≤ 1000524290 := by
  unfold szN
  split
  · omega
  · have := mwN_hi d.b.toNat (by omega)
    omega
structure LyV (w : World) (vo : Value) (Bx Gp N : Nat) (o P : List Int) (n : Nat) (W : World) : Prop where
  rs : W.heap[w.heap.size]? = some (.cells #[.slice none 0 0, .slice none 0 0, .int .i64 0] 58)
  x : W.heap[Bx]? = some (.cells #[vo, .slice (some ⟨Gp, 0, none⟩) N N, .int .i64 (n : Int)] 58)
  g : W.heap[Gp]? = some (.cells (P.map cI).toArray 3)
  o : W.ownsRow w.heap.size 3 1 vo o.length (o.map cI)
  b : Below w.heap.size w W
  l : P.length = N
  nb : w.heap.size < Gp ∧ Gp < Bx ∧ ∀ z, vo.ownBlock = some z → z < Gp ∧ w.heap.size < z
section
variable {w W W' : World} {vo : Value} {Bx Gp N n : Nat} {o P : List Int}
theorem LyV.below (h : LyV w vo Bx Gp N o P n W) (hb : Below W.heap.size W W') : LyV w vo Bx Gp N o P n W' := ⟨(hb.block _ (lt_16 h.rs)).trans h.rs, (hb.block _ (lt_16 h.x)).trans h.x, (hb.block _ (lt_16 h.g)).trans h.g, own_b13 hb h.o, keepb hb h.b, h.l, h.nb⟩
theorem LyV.put (h : LyV w vo Bx Gp N o P n W) (k : Nat) (m : Int) : LyV w vo Bx Gp N o (P.set k m) n (W.setCell ⟨Gp, k, none⟩ (.int .i64 m)) := by
  have hn := h.nb
  refine ⟨(far_16 (by omega)).trans h.rs, (far_16 (by omega)).trans h.x, ?_, own_far16 h.o _ (fun e => by have := (hn.2.2 _ e).1; omega), h.b.setCell (p := ⟨Gp, k, none⟩) (by show w.heap.size ≤ Gp; omega) _, by simp [h.l], hn⟩
  rw [set_16 h.g, List.setIfInBounds_toArray, List.map_set]; rfl
end
def layR (F : Int) (L : List Nde) : (List Int × List Int × Nat) × Int :=
  if (chkM F L).2 = 0 then (match plG L (ordL L) (List.replicate L.length 0) 0 with | some (P, n) => ((ordL L, P, n), 0) | none => (([], [], 0), 18)) else (([], [], 0), (chkM F L).2)
end Go.Proofs.Ytdpmhpmnkollaaa
namespace Go.Proofs.Ytdpmhpmnkollaaa
set_option linter.unusedSimpArgs false
set_option linter.unusedVariables false

def Met (s : DfS) (x : Nat) : Prop := s.1.getD x false = true
theorem met_set {s : DfS} {n : Nat} (hn : n < s.1.length) (z : Nat) : Met (s.1.set n true, s.2) z ↔ (z = n ∨ Met s z) := by
  unfold Met
  dsimp only
  rw [List.getD_eq_getElem?_getD, List.getD_eq_getElem?_getD, List.getElem?_set]
  by_cases h : n = z
  · subst h; simp [hn]
  · rw [if_neg h]
    constructor
    · exact .inr
    · rintro (q | q)
      · exact absurd q.symm h
      · exact q
structure DInv (L : List Nde) (s : DfS) : Prop where
  len : s.1.length = L.length
  dm : ∀ x ∈ s.2, 0 ≤ x ∧ Met s x.toNat
  nd : s.2.Nodup
  cl : ∀ A x B, s.2 = A ++ x :: B → ∀ d r, L[x.toNat]? = some d → r ∈ d.r → r.k = true → r.n ∈ A
structure DRel (L : List Nde) (lo m : Nat) (s t : DfS) : Prop where
  inv : DInv L t
  st : ∀ z : Nat, Met t z → (z : Int) ∈ t.2 ∨ z < m
  mono : ∀ z, Met s z → Met t z
  new : ∀ z, Met t z → Met s z ∨ lo ≤ z
  ext : ∃ E, t.2 = s.2 ++ E ∧ ∀ x ∈ E, (lo : Int) ≤ x
theorem dfs_main {L : List Nde} (ok : NdsOk L) : ∀ (f n : Nat) (s : DfS) (m : Nat), n < L.length → ¬ Met s n → L.length ≤ n + f → m ≤ n → DInv L s → (∀ z : Nat, Met s z → (z : Int) ∈ s.2 ∨ z < m) → DRel L n m s (dfs L f n s) ∧ Met (dfs L f n s) n ∧ (n : Int) ∈ (dfs L f n s).2
  | 0, n, s, m, hn, _, hf, _, _, _ => by omega
  | f + 1, n, s, m, hn, hmet, hf, hmn, hI, hst => by
    obtain ⟨d, hd⟩ : ∃ d, L[n]? = some d := ⟨L[n], by simp [hn]⟩
    rw [dfs_succ L f n s d hd]
    have hnl : n < s.1.length := by rw [hI.len]; exact hn
    have ms := fun z => met_set (s := s) hnl z
    have I1 : DInv L (s.1.set n true, s.2) := ⟨by simp [hI.len], fun x hx => ⟨(hI.dm x hx).1, (ms _).2 (.inr (hI.dm x hx).2)⟩, hI.nd, hI.cl⟩
    -- over the runs
    have loop : ∀ (l : List Rn) (u : DfS), (∀ r ∈ l, r ∈ d.r) → DRel L (n + 1) (n + 1) (s.1.set n true, s.2) u → DRel L (n + 1) (n + 1) (s.1.set n true, s.2) (l.foldl (stpR (dfs L f)) u) ∧ (∀ r ∈ l, r.k = true → Met (l.foldl (stpR (dfs L f)) u) r.n.toNat) ∧ (∀ z, Met u z → Met (l.foldl (stpR (dfs L f)) u) z) := by
      intro l
      induction l with
      | nil => intro u _ h; exact ⟨h, fun r hr => (by cases hr), fun z h => h⟩
      | cons r l ih =>
        intro u hl h
        have hr := hl r (List.mem_cons_self ..)
        have step : DRel L (n + 1) (n + 1) (s.1.set n true, s.2) (stpR (dfs L f) u r) ∧ (r.k = true → Met (stpR (dfs L f) u r) r.n.toNat) ∧ (∀ z, Met u z → Met (stpR (dfs L f) u r) z) := by
          unfold stpR
          by_cases hk : r.k = true
          · obtain ⟨a1, a2, a3⟩ := ok.lead hd hr hk
            by_cases hm : Met u r.n.toNat
            · have hm' : u.1.getD r.n.toNat false = true := hm
              rw [hm', hk]
              exact ⟨h, fun _ => hm, fun z q => q⟩
            · have hm' : u.1.getD r.n.toNat false = false := by unfold Met at hm; simpa using hm
              rw [hm', hk]
              simp only [Bool.not_false, Bool.and_true, if_true]
              obtain ⟨b1, b2, b3⟩ := dfs_main ok f r.n.toNat u (n + 1) a2 hm (by omega) (by omega) h.inv h.st
              refine ⟨⟨b1.inv, b1.st, fun z q => b1.mono z (h.mono z q), fun z q => ?_, ?_⟩, fun _ => b2, b1.mono⟩
              · rcases b1.new z q with c | c
                · exact h.new z c
                · exact .inr (by omega)
              · obtain ⟨E, e1, e2⟩ := h.ext
                obtain ⟨E2, e3, e4⟩ := b1.ext
                refine ⟨E ++ E2, by rw [e3, e1, List.append_assoc], fun x hx => ?_⟩
                rcases List.mem_append.mp hx with q | q
                · exact e2 x q
                · have := e4 x q; omega
          · have hk' : r.k = false := by simpa using hk
            rw [hk']
            exact ⟨h, fun q => absurd q (by decide), fun z q => q⟩
        obtain ⟨s1, s2, s3⟩ := step
        obtain ⟨t1, t2, t3⟩ := ih _ (fun r' hr' => hl r' (List.mem_cons_of_mem _ hr')) s1
        rw [List.foldl_cons]
        refine ⟨t1, fun r' hr' hk' => ?_, fun z q => t3 z (s3 z q)⟩
        rcases List.mem_cons.mp hr' with rfl | q
        · exact t3 _ (s2 hk')
        · exact t2 r' q hk'
    have R0 : DRel L (n + 1) (n + 1) (s.1.set n true, s.2) (s.1.set n true, s.2) := ⟨I1, fun z q => by
      rcases (ms z).1 q with c | c
      · exact .inr (by omega)
      · rcases hst z c with k | k
        · exact .inl k
        · exact .inr (by omega), fun z q => q, fun z q => .inl q, [], by simp, fun x hx => by cases hx⟩
    obtain ⟨u1, u2, u3⟩ := loop d.r.reverse _ (fun r hr => List.mem_reverse.mp hr) R0
    generalize d.r.reverse.foldl (stpR (dfs L f)) (s.1.set n true, s.2) = u at *
    have hmn' : Met u n := u1.mono n ((ms n).2 (.inl rfl))
    obtain ⟨E, e1, e2⟩ := u1.ext
    dsimp only at e1
    have hnot : (n : Int) ∉ u.2 := by
      rw [e1]
      intro q
      rcases List.mem_append.mp q with q | q
      · have := (hI.dm _ q).2
        rw [Int.toNat_natCast] at this
        exact hmet this
      · have := e2 _ q; omega
    have hmt : ∀ z, Met (u.1, u.2 ++ [(n : Int)]) z ↔ Met u z := fun z => Iff.rfl
    refine ⟨⟨⟨u1.inv.len, ?_, ?_, ?_⟩, ?_, ?_, ?_, ?_⟩, hmn', by simp⟩
    · intro x hx
      rcases List.mem_append.mp hx with q | q
      · exact u1.inv.dm x q
      · simp at q; subst q; exact ⟨by omega, by rw [Int.toNat_natCast]; exact hmn'⟩
    · rw [List.nodup_append]
      refine ⟨u1.inv.nd, by simp, fun a ha b hb => ?_⟩
      simp at hb
      subst hb
      rintro rfl
      exact hnot ha
    · intro A x B hs d' r hd' hr hk
      dsimp only at hs
      rcases List.eq_nil_or_concat B with rfl | ⟨B', y, rfl⟩
      · have e : u.2 ++ [(n : Int)] = A ++ [x] := hs
        obtain ⟨h1, h2⟩ := List.append_inj' e rfl
        injection h2 with h2
        subst h1 h2
        rw [Int.toNat_natCast, hd] at hd'
        cases hd'
        obtain ⟨a1, a2, a3⟩ := ok.lead hd hr hk
        have hm := u2 r (List.mem_reverse.mpr hr) hk
        rcases u1.st _ hm with q | q
        · rw [← a3] at q; exact q
        · omega
      · have e : u.2 ++ [(n : Int)] = (A ++ x :: B') ++ [y] := by rw [hs]; simp
        obtain ⟨h1, h2⟩ := List.append_inj' e rfl
        exact u1.inv.cl A x B' h1 d' r hd' hr hk
    · intro z q
      have q' : Met u z := q
      rcases u1.st z q' with c | c
      · exact .inl (List.mem_append_left _ c)
      · by_cases hz : z = n
        · subst hz; exact .inl (by simp)
        · rcases u1.new z q' with k | k
          · rcases (ms z).1 k with k | k
            · exact absurd k hz
            · rcases hst z k with k | k
              · exact .inl (by rw [e1]; simp [k])
              · exact .inr k
          · omega
    · intro z q
      exact u1.mono z ((ms z).2 (.inr q))
    · intro z q
      have q' : Met u z := q
      rcases u1.new z q' with k | k
      · rcases (ms z).1 k with k | k
        · exact .inr (by omega)
        · exact .inl k
      · exact .inr (by omega)
    · refine ⟨E ++ [(n : Int)], by dsimp only; rw [e1, List.append_assoc], fun x hx => ?_⟩
      rcases List.mem_append.mp hx with q | q
      · have := e2 x q; omega
      · simp at q; omega
theorem met_rep {N : Nat} {z : Nat} : ¬ Met (List.replicate N false, []) z := by
  unfold Met
  dsimp only
  rw [List.getD_eq_getElem?_getD, List.getElem?_replicate]
  split <;> simp
structure OrdOk (L : List Nde) (o : List Int) : Prop where
  nd : o.Nodup
  kid : ∀ A x B, o = A ++ x :: B → ∀ d r, L[x.toNat]? = some d → r ∈ d.r → r.k = true → r.n ∈ B
  zero : ∃ B, o = 0 :: B
theorem ord_ok {L : List Nde} (ok : NdsOk L) : OrdOk L (ordL L) := by
  obtain ⟨h1, h2, h3⟩ := dfs_main ok L.length 0 (List.replicate L.length false, []) 0 ok.1 met_rep (by omega) (Nat.le_refl _) ⟨by simp, fun x hx => (by cases hx), List.nodup_nil, fun A x B h => (by simp at h)⟩ (fun z q => absurd q met_rep)
  unfold ordL
  have hlast : ∃ A, (dfs L L.length 0 (List.replicate L.length false, [])).2 = A ++ [0] := by
    obtain ⟨d, hd⟩ : ∃ d, L[0]? = some d := ⟨L[0]'ok.1, by simp [ok.1]⟩
    obtain ⟨k, hk⟩ : ∃ k, L.length = k + 1 := ⟨L.length - 1, by have := ok.1; omega⟩
    rw [hk, dfs_succ L k 0 _ d hd]
    exact ⟨_, rfl⟩
  refine ⟨((List.reverse_perm _).nodup_iff).mpr h1.inv.nd, ?_, ?_⟩
  · intro A x B hs d r hd hr hk
    have e : (dfs L L.length 0 (List.replicate L.length false, [])).2 = B.reverse ++ x :: A.reverse := by
      have := congrArg List.reverse hs
      simpa using this
    have := h1.inv.cl _ _ _ e d r hd hr hk
    exact List.mem_reverse.mp this
  · obtain ⟨A, hA⟩ := hlast
    exact ⟨A.reverse, by rw [hA]; simp⟩
theorem us_fold {N : Nat} : ∀ (ks : List Int) (s : List Bool × Nat) (z : Nat), (ks.foldl usK s).1.getD z false = true → s.1.getD z false = true ∨ ∃ k ∈ ks, k.toNat = z
  | [], s, z, h => .inl h
  | k :: ks, s, z, h => by
    rw [List.foldl_cons] at h
    rcases us_fold (N := N) ks _ z h with q | ⟨j, hj, e⟩
    · unfold usK at q
      split at q
      · exact .inl q
      · dsimp only at q
        rw [List.getD_eq_getElem?_getD, List.getElem?_set] at q
        by_cases c : k.toNat = z
        · exact .inr ⟨k, List.mem_cons_self .., c⟩
        · rw [if_neg c, ← List.getD_eq_getElem?_getD] at q
          exact .inl q
    · exact .inr ⟨j, List.mem_cons_of_mem _ hj, e⟩
theorem us_all {N : Nat} : ∀ (L : List Nde) (s : List Bool × Nat) (z : Nat), (L.foldl usN s).1.getD z false = true → s.1.getD z false = true ∨ ∃ d ∈ L, ∃ k ∈ kidL d.r, k.toNat = z
  | [], s, z, h => .inl h
  | d :: L, s, z, h => by
    rw [List.foldl_cons] at h
    rcases us_all (N := N) L _ z h with q | ⟨e, he, k, hk, hz⟩
    · rcases us_fold (N := N) (kidL d.r) s z q with q | ⟨k, hk, hz⟩
      · exact .inl q
      · exact .inr ⟨d, List.mem_cons_self .., k, hk, hz⟩
    · exact .inr ⟨e, List.mem_cons_of_mem _ he, k, hk, hz⟩
theorem used_lead {L : List Nde} (ok : NdsOk L) (hu : usedB L = true) (z : Nat) (h0 : 0 < z) (hz : z < L.length) : ∃ n d r, L[n]? = some d ∧ r ∈ d.r ∧ r.k = true ∧ r.n = (z : Int) ∧ n < z := by
  obtain ⟨a1, a2⟩ := us0_so L.length ok.1
  obtain ⟨b1, b2⟩ := usL_so L (us0 L.length) a1 (fun d hd k hk => by rw [a2]; have := ok.kids d hd k hk; omega)
  unfold usedB at hu
  have hc : (L.foldl usN (us0 L.length)).1.count true = (L.foldl usN (us0 L.length)).1.length := by
    have h1 : (L.foldl usN (us0 L.length)).2 = L.length := by simpa using hu
    have h2 : (L.foldl usN (us0 L.length)).2 = (L.foldl usN (us0 L.length)).1.count true := b1
    rw [b2, a2, ← h2, h1]
  have hall := List.count_eq_length.mp hc
  have hzl : z < (L.foldl usN (us0 L.length)).1.length := by rw [b2, a2]; exact hz
  have hg : (L.foldl usN (us0 L.length)).1.getD z false = true := by
    rw [List.getD_eq_getElem?_getD, List.getElem?_eq_getElem hzl]
    exact (hall _ (List.getElem_mem hzl)).symm
  rcases us_all (N := L.length) L _ z hg with q | ⟨d, hd, k, hk, e⟩
  · unfold us0 at q
    dsimp only at q
    rw [List.getD_eq_getElem?_getD, List.getElem?_set_ne (by omega), List.getElem?_replicate] at q
    split at q <;> simp at q
  · obtain ⟨n, hn⟩ := List.getElem?_of_mem hd
    obtain ⟨r, h1, h2, h3⟩ := mem_kidL hk
    obtain ⟨c1, c2, c3⟩ := ok.lead hn h1 h2
    exact ⟨n, d, r, hn, h1, h2, by omega, by omega⟩
theorem ord_all {L : List Nde} (ok : NdsOk L) (hu : usedB L = true) : ∀ z : Nat, z < L.length → (z : Int) ∈ ordL L := by
  have ho := ord_ok ok
  intro z
  induction z using Nat.strongRecOn with
  | _ z ih =>
    intro hz
    by_cases h0 : z = 0
    · obtain ⟨B, hB⟩ := ho.zero
      subst h0; rw [hB]; simp
    · obtain ⟨n, d, r, h1, h2, h3, h4, h5⟩ := used_lead ok hu z (by omega) hz
      obtain ⟨A, B, hs⟩ := List.append_of_mem (ih n h5 (by omega))
      have := ho.kid A (n : Int) B hs d r (by rw [Int.toNat_natCast]; exact h1) h2 h3
      rw [h4] at this
      rw [hs]; simp [this]
end Go.Proofs.Ytdpmhpmnkollaaa
namespace Go.Proofs.Ytdpmhpmnkollaaa
open Go.RowKit Go.Shelf
set_option linter.unusedSimpArgs false
set_option linter.unusedVariables false
attribute [local go_sem] Oper.semAt_some

def stM16 (m : List (BitVec 32)) (s : Nat) : List (BitVec 32) := m.set (s / 32) (m.getD (s / 32) 0#32 ||| (1#32 <<< (31 - s % 32)))
def mapL (n : Nat) (l : List Rn) : List (BitVec 32) := l.foldl (fun m r => stM16 m r.f.toNat) (List.replicate (mwN n) 0#32)
theorem stM_len (m : List (BitVec 32)) (s : Nat) : (stM16 m s).length = m.length := by unfold stM16; simp
theorem mapL_len (n : Nat) (l : List Rn) : (mapL n l).length = mwN n := by
  unfold mapL
  have : ∀ (l : List Rn) (m : List (BitVec 32)), (l.foldl (fun m r => stM16 m r.f.toNat) m).length = m.length := by
    intro l
    induction l with
    | nil => intro m; rfl
    | cons r l ih => intro m; rw [List.foldl_cons, ih, stM_len]
  rw [this]; simp
theorem slot_in {n s : Nat} (h : s < 2 ^ n) (hn : n ≤ 24) : s / 32 < mwN n := by
  unfold mwN
  split
  · rename_i c
    have : (2 : Nat) ^ n ≤ 2 ^ 5 := Nat.pow_le_pow_right (by decide) (by omega)
    omega
  · rename_i c
    obtain ⟨k, rfl⟩ : ∃ k, n = k + 5 := ⟨n - 5, by omega⟩
    rw [Nat.add_sub_cancel]
    rw [Nat.pow_add] at h
    exact Nat.div_lt_of_lt_mul (by omega)
theorem lo_small {x : BitVec 128} (h : x.toNat < 16777216) : lI x = (x.toNat : Int) := by rw [lIN]; omega
theorem one_u32 (k : Nat) : Op.shift .shl .u32 1 .u64 (k : Int) = pure (.int .u32 (uI (1#32 <<< k))) := by
  have h := sh32u 1#32 k
  have e : uI 1#32 = 1 := by rw [uI_eq]; rfl
  rwa [e] at h
theorem own_cellU {W : World} {base e n g cap : Nat} {ys : List (BitVec 32)} (h : W.ownsRow base e 1 (.slice (some ⟨g, 0, none⟩) n cap) n (ys.map cU)) {k : Nat} {a : BitVec 32} (hk : ys[k]? = some a) : W.cell? ⟨g, k, none⟩ = some (.int .u32 (uI a)) ∧ W.frozen? ⟨g, k, none⟩ = false := by
  constructor
  · have := h.cells (g := g) rfl k (cU a) (by rw [List.getElem?_map, hk]; rfl)
    rwa [addA, Nat.zero_add] at this
  · rcases h.2 with ⟨h1, -⟩ | ⟨g', cap', cur, h1, hb, hg, -⟩
    · cases h1
    · injection h1 with h1 h2 h3
      injection h1 with h1
      injection h1 with h1
      subst h1
      exact fr_16 hg
end Go.Proofs.Ytdpmhpmnkollaaa
namespace Go.Proofs.Ytdpmhpmnkollaaa
open Go.RowKit Go.Shelf
set_option linter.unusedSimpArgs false
set_option linter.unusedVariables false
attribute [local go_sem] Oper.semAt_some

structure LdV (w : World) (C G cap : Nat) (code : List Nat) (vp : Value) (P : List Int) (W : World) : Prop where
  c : W.heap[C]? = some (.cells #[.slice (some ⟨G, 0, none⟩) code.length cap, vp] 91)
  o : W.ownsRow w.heap.size 5 1 (.slice (some ⟨G, 0, none⟩) code.length cap) code.length (code.map cB)
  p : W.ownsRow w.heap.size 3 1 vp P.length (P.map cI)
  b : Below w.heap.size w W
  nb : w.heap.size ≤ C ∧ w.heap.size ≤ G ∧ C ≠ G ∧ ∀ z, vp.ownBlock = some z → z ≠ C ∧ z ≠ G
section
variable {w W W' : World} {C G cap : Nat} {code : List Nat} {vp : Value} {P : List Int}
theorem LdV.below (h : LdV w C G cap code vp P W) (hb : Below W.heap.size W W') : LdV w C G cap code vp P W' := ⟨(hb.block _ (lt_16 h.c)).trans h.c, own_b13 hb h.o, own_b13 hb h.p, keepb hb h.b, h.nb⟩
theorem LdV.app (h : LdV w C G cap code vp P W) {x : List Nat} (ho : W'.ownsRow w.heap.size 5 1 (.slice (some ⟨G, 0, none⟩) (code.length + x.length) cap) (code.length + x.length) (code.map cB ++ x.map cB)) (hg : W.grownBy W' (some G)) : LdV w C G cap (code ++ x) vp P (W'.setCell ⟨C, 0, none⟩ (.slice (some ⟨G, 0, none⟩) (code.length + x.length) cap)) := by
  obtain ⟨n1, n2, n3, n4⟩ := h.nb
  have kp : W'.heap[C]? = some (.cells #[.slice (some ⟨G, 0, none⟩) code.length cap, vp] 91) := (hg.block _ (lt_16 h.c) (fun e => by injection e with e; exact n3 e)).trans h.c
  refine ⟨?_, ?_, ?_, ?_, n1, n2, n3, n4⟩
  · rw [set_16 kp]; simp
  · refine own_far16 ?_ _ (fun e => n3 (Option.some.inj (show some G = some C from e)).symm)
    rw [List.length_append, List.map_append]; exact ho
  · refine own_far16 (h.p.kept hg ?_) _ (fun e => (n4 _ e).1 rfl)
    cases hv : vp.ownBlock with
    | none => exact .inl rfl
    | some z => exact .inr (fun e => (n4 z hv).2 (Option.some.inj e))
  · exact (h.b.grown hg h.b.size (fun r e => by injection e with e; omega)).setCell (p := ⟨C, 0, none⟩) n1 _
end
end Go.Proofs.Ytdpmhpmnkollaaa
namespace Go.Proofs.Ytdpmhpmnkollaaa
open Go.RowKit Go.Shelf
set_option linter.unusedSimpArgs false
set_option linter.unusedVariables false
attribute [local go_sem] Oper.semAt_some

def rnO (r : Rn) : Int := if r.k then 3 else 4
def rnI (P : List Int) (p : Nat) (r : Rn) : Int := if r.k then P.getD r.n.toNat 0 - (p : Int) else r.n
def rnB (P : List Int) : Nat → List Rn → List Nat
  | _, [] => []
  | p, r :: l => wdB (rnO r).toNat (rnI P p r).toNat [] ++ rnB P (p + 1) l
def RnLay (P : List Int) (p : Nat) (l : List Rn) : Prop := ∀ (j : Nat) (r : Rn), l[j]? = some r → chkE (rnO r) (rnI P (p + j) r) [] = 0 ∧ (r.k = true → ∃ (k : Nat) (y : Int), r.n = (k : Int) ∧ P[k]? = some y ∧ 0 ≤ y ∧ y ≤ 1000000000)
def ndB (P : List Int) (a : Nat) (d : Nde) : List Nat := if d.b = 0 then rnB P a d.r else wdB 1 d.b.toNat [] ++ (wdB 2 d.b.toNat (mapL d.b.toNat d.r) ++ rnB P (a + 2 + mwN d.b.toNat) d.r)
structure NdLay (P : List Int) (a : Nat) (d : Nde) : Prop where
  b0 : 0 ≤ d.b
  b1 : d.b ≤ 24
  s : ∀ r ∈ d.r, r.f.toNat < 2 ^ d.b.toNat
  e : d.b ≠ 0 → chkE 1 d.b [] = 0 ∧ chkE 2 d.b (mapL d.b.toNat d.r) = 0
  r : RnLay P (if d.b = 0 then a else a + 2 + mwN d.b.toNat) d.r
  z : d.b = 0 → d.r.length = 1
theorem rnB_len (P : List Int) : ∀ (l : List Rn) (p : Nat), (rnB P p l).length = 4 * l.length
  | [], p => rfl
  | r :: l, p => by
    show (wdB _ _ _ ++ rnB P (p + 1) l).length = _
    rw [List.length_append, wdB_len, rnB_len P l (p + 1), List.length_cons]
    simp; omega
theorem ndB_len {P : List Int} {a : Nat} {d : Nde} (h : NdLay P a d) : (ndB P a d).length = 4 * szN d := by
  unfold ndB szN
  by_cases h0 : d.b = 0
  · rw [if_pos h0, if_pos h0, rnB_len, h.z h0]
  · rw [if_neg h0, if_neg h0, List.length_append, List.length_append, wdB_len, wdB_len, rnB_len, mapL_len]
    simp; omega
theorem rnB_drop (P : List Int) (l : List Rn) (p j : Nat) (r : Rn) (h : l[j]? = some r) : rnB P (p + j) (l.drop j) = wdB (rnO r).toNat (rnI P (p + j) r).toNat [] ++ rnB P (p + (j + 1)) (l.drop (j + 1)) := by
  obtain ⟨h1, h2⟩ := List.getElem?_eq_some_iff.mp h
  rw [List.drop_eq_getElem_cons h1, h2]; rfl
theorem nil_rwx16 (w : World) : RwX cU w (.slice none 0 0) [] := ⟨none, 0, rfl, Nat.le_refl _, .inl rfl⟩
theorem KX.cell {X : Nat → Prop} {V U : World} (h : KX X V U) {z o : Nat} {u : Value} (hz : ¬ X z) (hc : V.cell? ⟨z, o, none⟩ = some u) : U.cell? ⟨z, o, none⟩ = some u := (World.cell?_of_block (a := ⟨z, o, none⟩) (h.2 z (cell_in hc) hz)).trans hc
end Go.Proofs.Ytdpmhpmnkollaaa
namespace Go.Proofs.Ytdpmhpmnkollaaa
open Go.RowKit Go.Shelf
set_option linter.unusedSimpArgs false
set_option linter.unusedVariables false
attribute [local go_sem] Oper.semAt_some

def lyB (L : List Nde) (P : List Int) : Nat → List Int → List Nat
  | _, [] => []
  | a, k :: o => ndB P a (L.getD k.toNat ⟨0, []⟩) ++ lyB L P (a + szN (L.getD k.toNat ⟨0, []⟩)) o
def wsum (L : List Nde) : List Int → Nat
  | [] => 0
  | k :: o => szN (L.getD k.toNat ⟨0, []⟩) + wsum L o
def LayOk (L : List Nde) (P : List Int) : Nat → List Int → Prop
  | _, [] => True
  | a, k :: o => (∃ d, L[k.toNat]? = some d ∧ 0 ≤ k ∧ NdLay P a d) ∧ LayOk L P (a + szN (L.getD k.toNat ⟨0, []⟩)) o
theorem ly_drop {L : List Nde} {P : List Int} {o : List Int} {i k : Nat} {d : Nde} (ho : o[i]? = some (k : Int)) (hd : L[k]? = some d) (a : Nat) : lyB L P a (o.drop i) = ndB P a d ++ lyB L P (a + szN d) (o.drop (i + 1)) ∧ wsum L (o.drop i) = szN d + wsum L (o.drop (i + 1)) ∧ (LayOk L P a (o.drop i) → NdLay P a d ∧ LayOk L P (a + szN d) (o.drop (i + 1))) := by
  obtain ⟨hi, he⟩ := List.getElem?_eq_some_iff.mp ho
  have e : L.getD k ⟨0, []⟩ = d := by rw [List.getD_eq_getElem?_getD, hd]; rfl
  rw [List.drop_eq_getElem_cons hi, he]
  refine ⟨?_, ?_, ?_⟩
  · show ndB P a (L.getD (k : Int).toNat ⟨0, []⟩) ++ lyB L P (a + szN (L.getD (k : Int).toNat ⟨0, []⟩)) _ = _
    rw [Int.toNat_natCast, e]
  · show szN (L.getD (k : Int).toNat ⟨0, []⟩) + _ = _
    rw [Int.toNat_natCast, e]
  · rintro ⟨⟨d', h1, -, h2⟩, h3⟩
    rw [Int.toNat_natCast] at h1 h3
    rw [e] at h3
    rw [hd] at h1
    cases h1
    exact ⟨h2, h3⟩
theorem lay_in {L : List Nde} {P : List Int} : ∀ {o : List Int} {a : Nat}, LayOk L P a o → ∀ (i : Nat) (x : Int), o[i]? = some x → ∃ k d, x = ((k : Nat) : Int) ∧ L[k]? = some d
  | [], a, h, i, x, hx => by simp at hx
  | k :: o, a, h, i, x, hx => by
    cases i with
    | zero =>
      simp at hx
      subst hx
      obtain ⟨d, h1, h2, -⟩ := h.1
      exact ⟨k.toNat, d, by omega, h1⟩
    | succ i => exact lay_in h.2 i x (by simpa using hx)
theorem lyB_len {L : List Nde} {P : List Int} : ∀ {o : List Int} {a : Nat}, LayOk L P a o → (lyB L P a o).length = 4 * wsum L o
  | [], a, h => rfl
  | k :: o, a, h => by
    obtain ⟨⟨d, h1, h2, h3⟩, h4⟩ := h
    have e : L.getD k.toNat ⟨0, []⟩ = d := by rw [List.getD_eq_getElem?_getD, h1]; rfl
    show (ndB P a (L.getD k.toNat ⟨0, []⟩) ++ lyB L P _ o).length = 4 * (szN (L.getD k.toNat ⟨0, []⟩) + wsum L o)
    rw [List.length_append, lyB_len h4, e, ndB_len h3]
    omega
end Go.Proofs.Ytdpmhpmnkollaaa
