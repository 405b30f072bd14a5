/-
  Part 29 of the proof: 5 texts, one behind the other.
-/
import Derived.Test.YtdpmhpmnkollaaaPart28
import Derived.Test.YtdpmhpmnkollaaaPart26
import Derived.Test.YtdpmhpmnkollaaaPart23
import Derived.Test.YtdpmhpmnkollaaaPart21
namespace Go.Proofs.Ytdpmhpmnkollaaa
open Go.RowKit
set_option linter.unusedSimpArgs false
set_option linter.unusedVariables false

theorem ms_dp (F : Int) : ∀ (t : List PB) (k : Nat) (A : List (Int × Int)) (dp : Int), (∀ b ∈ t, 1 ≤ b.t ∧ b.es.length = sumW b.m b.m.length) → (dpG F (ndsL t) k (A.map Prod.swap) dp).2 = 0 → (msG F t k A dp).2.2 = 0
  | [], k, A, dp, _, _ => rfl
  | b :: t, k, A, dp, hb, h => by
    have hb1 := hb b (by simp)
    have h' : (dpG F (⟨b.t, runsV b.m b.es⟩ :: ndsL t) k (A.map Prod.swap) dp).2 = 0 := h
    unfold msG
    unfold dpG at h'
    rw [getD_swap] at h'
    dsimp only at h'
    by_cases c : F < (A.getD k (0, 0)).2 + b.t
    · rw [if_pos c] at h'
      exact absurd h' (by decide)
    · rw [if_neg c] at h' ⊢
      have hm : min 1 b.t = 1 := by omega
      rw [kid_runs _ _ hb1.2, hm, up_swap] at h'
      exact ms_dp F t (k + 1) _ _ (fun x hx => hb x (by simp [hx])) h'
theorem wsum_len (L : List Nde) : ∀ (o : List Int), o.length ≤ wsum L o
  | [] => Nat.le_refl _
  | k :: o => by
    have := wsum_len L o
    have h2 := sz_pos (L.getD k.toNat ⟨0, []⟩)
    show o.length + 1 ≤ szN _ + wsum L o
    omega
theorem emt_of {F : Int} {L : List Nde} {most : Int} (h : codE F L most = 0) (hb : ∀ d ∈ L, 1 ≤ d.b) : Emt L (layR F L).1.2.1 (ordL L) ∧ (chkM F L).2 = 0 ∧ usedB L = true ∧ fam F = true ∧ codB F L most = lyB L (layR F L).1.2.1 0 (ordL L) ∧ chkM F L = deepR F L := by
  have hl : (layR F L).2 = 0 := by
    unfold codE at h
    by_cases c : (layR F L).2 = 0
    · exact c
    · rw [if_neg c] at h; exact h
  have hm : ¬ min most 4194304 < 4 * ((layR F L).1.2.2 : Int) := by
    intro q
    unfold codE at h
    rw [if_pos hl, if_pos q] at h
    exact absurd h (by decide)
  obtain ⟨ok, hc, hp, ho⟩ := lay_zero hl
  obtain ⟨-, hu, hf, hcd⟩ := chk_ok hc
  have hn : (layR F L).1.2.2 ≤ 1048576 := by omega
  obtain ⟨hlay, hws⟩ := lay_ok ok hp hn
  have od := ord_ok ok
  have hmem : ∀ x ∈ ordL L, 0 ≤ x ∧ x.toNat < L.length := fun x hx => by
    obtain ⟨i, hi⟩ := List.getElem?_of_mem hx
    obtain ⟨k, d, rfl, hd⟩ := lay_in hlay i x hi
    exact ⟨by omega, by rw [Int.toNat_natCast]; exact (List.getElem?_eq_some_iff.mp hd).1⟩
  have pl := pl_ok (ordL L) (List.replicate L.length 0) (layR F L).1.2.1 0 (layR F L).1.2.2 od.nd (fun k hk => by rw [List.length_replicate]; exact hmem k hk) hp
  have hall := ord_all ok hu
  refine ⟨⟨ok, od.nd, hall, hmem, ?_, fun i x hx => ?_, hlay, fun d hd => ⟨hb d hd, ?_⟩, od, ord_full ok hu⟩, hc, hu, hf, ?_, hcd⟩
  · obtain ⟨B, hB⟩ := od.zero
    rw [hB]; rfl
  · have hsp : ordL L = (ordL L).take i ++ x :: (ordL L).drop (i + 1) := by
      obtain ⟨h9a, h9b⟩ := List.getElem?_eq_some_iff.mp hx
      rw [← h9b, ← List.drop_eq_getElem_cons h9a, List.take_append_drop]
    have := pl.at' _ x _ hsp
    rw [Nat.zero_add] at this
    rw [List.getD_eq_getElem?_getD, this]; rfl
  · obtain ⟨z, hz⟩ := List.getElem?_of_mem hd
    have := pl.bits _ (hall z (List.getElem?_eq_some_iff.mp hz).1)
    rw [Int.toNat_natCast, List.getD_eq_getElem?_getD, hz] at this
    exact this
  · unfold codB
    rw [if_pos h, ho]
theorem emit_ok {F : Int} {L : List Nde} {most : Int} (h : codE F L most = 0) (hb : ∀ d ∈ L, 1 ≤ d.b) : vfR F (codB F L most) = ((chkM F L).1, 0, 0) ∧ trL (codB F L most) = numL L (layR F L).1.2.1 (ordL L) := by
  obtain ⟨E, hc, hu, hf, hcb, hcd⟩ := emt_of h hb
  obtain ⟨P, hP⟩ : ∃ P, P = (layR F L).1.2.1 := ⟨_, rfl⟩
  obtain ⟨o, ho⟩ : ∃ o, o = ordL L := ⟨_, rfl⟩
  rw [← hP, ← ho] at E hcb ⊢
  rw [hcb]
  obtain ⟨l, hl⟩ : ∃ l, l = lyB L P 0 o := ⟨_, rfl⟩
  rw [← hl]
  have hlen : l.length = 4 * wsum L o := by rw [hl, lyB_len E.lay]
  have hwl := wsum_len L o
  have ho0 : 0 < o.length := by rw [E.n]; exact E.ok.1
  have hbs : bsG l (l.length / 4) 0 [] = (bksN L P 0 o, 0, 0) := by
    have := bsG_nodes (L := L) (P := P) (fun k d hd => by
      obtain ⟨f1, f2⟩ := E.froms hd
      have := (E.bits d (List.mem_of_getElem? hd)).1
      exact ⟨by omega, sum_map _ _ f1 f2, E.adj hd⟩) o [] 0 (l.length / 4) [] rfl E.lay (List.length_pos_iff.mp ho0) (by omega)
    rw [List.nil_append, ← hl] at this
    exact this
  have hvp : vfP l = lnkP L P o := by
    unfold vfP
    rw [hbs]; rfl
  have hn : ¬ (dcE l 0 = 0 ∧ (dcI l 0).op = 4) := by
    intro q
    obtain ⟨f, hfe⟩ : ∃ f, l.length / 4 = f + 1 := ⟨l.length / 4 - 1, by omega⟩
    rw [hfe] at hbs
    by_cases c : (bkE l 0).1 = 0
    · have := (bk_okd c).2.1
      omega
    · rw [bs_err c] at hbs
      have := congrArg (fun z => z.2.2) hbs
      exact c this
  have hT : ndsL (vfP l) = numL L P o := by rw [hvp]; exact E.tree
  have hdeep : deepR F (ndsL (vfP l)) = chkM F L := by
    rw [hT, hcd]
    exact E.ren.deep F (by rw [← hcd]; exact hc)
  have hbk : ∀ b ∈ vfP l, 1 ≤ b.t ∧ b.es.length = sumW b.m b.m.length := fun b hbm => by
    rw [hvp] at hbm
    obtain ⟨i, hi⟩ := List.getElem?_of_mem hbm
    have hil := (List.getElem?_eq_some_iff.mp hi).1
    rw [lnk_len] at hil
    obtain ⟨d, hd, hd2⟩ := E.nde (List.getElem?_eq_getElem hil)
    rw [E.lnk (List.getElem?_eq_getElem hil) hd2] at hi
    injection hi with hi
    subst hi
    obtain ⟨f1, f2⟩ := E.froms hd
    refine ⟨(E.bits d (List.mem_of_getElem? hd)).1, ?_⟩
    dsimp only
    rw [List.length_map, sum_map _ _ f1 f2]
  have hms : (msR F (vfP l)).2.2 = 0 := by
    have h1 : (deepR F (ndsL (vfP l))).2 = 0 := by rw [hdeep]; exact hc
    refine ms_dp F (vfP l) 0 (List.replicate (vfP l).length (0, 0)) 0 hbk ?_
    rw [List.map_replicate]
    unfold deepR at h1
    rw [show (ndsL (vfP l)).length = (vfP l).length by unfold ndsL; rw [List.length_map]] at h1
    exact h1
  have hd1 := deep_ms F (vfP l) hbk hms
  rw [hdeep] at hd1
  have hF := fam_ways F hf
  refine ⟨?_, by unfold trL; rw [if_neg hn]; exact hT⟩
  unfold vfR
  rw [if_neg (by omega), if_neg (by omega), if_neg hn]
  unfold vfB
  have hlk : lkR ((bsG l (l.length / 4) 0 []).1.map PB.a) (bsG l (l.length / 4) 0 []).1 = (0, 0) := by
    rw [hbs]
    have := E.link
    unfold qsN at this
    unfold lkR
    rw [this]
  rw [if_neg (by rw [hbs]; simp), if_neg (by rw [hlk]; simp), if_neg (by rw [hvp, E.used hu]; simp)]
  have hw := msG_word F (vfP l) 0 (List.replicate (vfP l).length (0, 0)) 0 hms
  have hw2 : (msR F (vfP l)).2.1 = 0 := hw
  rw [hd1]
  exact Prod.ext rfl (Prod.ext hw2 hms)
end Go.Proofs.Ytdpmhpmnkollaaa
namespace Go.Proofs.Ytdpmhpmnkollaaa
open Go.RowKit
set_option linter.unusedSimpArgs false
set_option linter.unusedVariables false

theorem nodes_two {L : List Nde} (ok : NdsOk L) : (∀ d ∈ L, 1 ≤ d.b) ∨ ∃ n : Int, L = oneN n ∧ 0 ≤ n ∧ n ≤ 65535 := by
  by_cases h : ∀ d ∈ L, 1 ≤ d.b
  · exact .inl h
  · right
    have hex : ∃ d ∈ L, ¬ 1 ≤ d.b := by
      by_cases q : ∃ d ∈ L, ¬ 1 ≤ d.b
      · exact q
      · exact absurd (fun d hd => by
          by_cases c : 1 ≤ d.b
          · exact c
          · exact absurd ⟨d, hd, c⟩ q) h
    obtain ⟨d, hd, hb⟩ := hex
    obtain ⟨k, hk⟩ := List.getElem?_of_mem hd
    have nd := ok.2 k d hk
    have hb0 : d.b = 0 := by have := nd.b0; omega
    have hl1 : L.length ≤ 1 := by have := nd.bz hb0; omega
    have hk0 : k = 0 := by have := (List.getElem?_eq_some_iff.mp hk).1; omega
    subst hk0
    have hL : L = [d] := by
      match L, hl1, hk with
      | [x], _, hk => simp at hk; rw [hk]
      | [], _, hk => simp at hk
      | x :: y :: t, hl, _ => simp at hl
    have io := io_ok nd.io
    have hr1 := io_zero io hb0
    obtain ⟨r, hr⟩ : ∃ r, d.r = [r] := List.length_eq_one_iff.mp hr1
    have hf : r.f = 0#128 := io.z r (by rw [hr]; rfl)
    have hkk : r.k = false := by
      cases c : r.k with
      | false => rfl
      | true =>
        have := nd.kid r (by rw [hr]; simp) c
        rw [hL] at this
        simp at this
        omega
    have hh := nd.hop r (by rw [hr]; simp) hkk
    refine ⟨r.n, ?_, hh.1, hh.2⟩
    rw [hL]
    unfold oneN
    obtain ⟨b, l⟩ := d
    obtain ⟨f, kk, n⟩ := r
    dsimp only at hb0 hr hf hkk ⊢
    subst hb0 hr hf hkk
    rfl
theorem emit_all {F : Int} {L : List Nde} {most : Int} (h : codE F L most = 0) : vfR F (codB F L most) = ((chkM F L).1, 0, 0) ∧ trL (codB F L most) = numL L (layR F L).1.2.1 (ordL L) := by
  have hl : (layR F L).2 = 0 := by
    unfold codE at h
    by_cases c : (layR F L).2 = 0
    · exact c
    · rw [if_neg c] at h; exact h
  have hm : ¬ min most 4194304 < 4 * ((layR F L).1.2.2 : Int) := by
    intro q
    unfold codE at h
    rw [if_pos hl, if_pos q] at h
    exact absurd h (by decide)
  obtain ⟨ok, hc, hp, ho⟩ := lay_zero hl
  rcases nodes_two ok with hb | ⟨n, hL, n0, n1⟩
  · exact emit_ok h hb
  · obtain ⟨-, hu, hf, hcd⟩ := chk_ok hc
    have hF := fam_ways F hf
    obtain ⟨hlay, hws⟩ := lay_ok ok hp (by omega)
    have hcb : codB F L most = lyB L (layR F L).1.2.1 0 (ordL L) := by unfold codB; rw [if_pos h, ho]
    generalize (layR F L).1.2.1 = P at *
    have hord : ordL L = [0] := by
      have h1 := ord_full ok hu
      obtain ⟨B, hB⟩ := (ord_ok ok).zero
      rw [hB] at h1 ⊢
      rw [hL] at h1
      have : B.length = 0 := by simpa [oneN] using h1
      rw [List.length_eq_zero_iff.mp this]
    rw [hcb, hord]
    rw [hord] at hlay
    obtain ⟨⟨d, hd, -, hnd⟩, -⟩ := hlay
    have hd1 : d = ⟨0, [⟨0#128, false, n⟩]⟩ := by
      rw [hL] at hd
      simpa [oneN] using hd.symm
    have hgd : L.getD (0 : Int).toNat ⟨0, []⟩ = d := by rw [List.getD_eq_getElem?_getD, hd]; rfl
    have hk := hnd.r
    rw [hd1] at hk
    have hk0 := (hk 0 ⟨0#128, false, n⟩ rfl).1
    have hk1 : chkE 4 n [] = 0 := hk0
    have hly : lyB L P 0 [0] = [] ++ wdB (4 : Int).toNat n.toNat [] ++ [] := by
      show ndB P 0 (L.getD (0 : Int).toNat ⟨0, []⟩) ++ [] = _
      rw [hgd, hd1]
      rfl
    obtain ⟨d1, d2, -⟩ := dec_enc [] [] 0 4 n [] rfl hk1
    rw [← hly] at d1 d2
    have hll : (lyB L P 0 [0]).length = 4 := by rw [hly, List.length_append, List.length_append, wdB_len]; rfl
    generalize lyB L P 0 [0] = l at *
    have d1' : dcE l 0 = 0 := d1
    have d2' : dcI l 0 = ⟨4, n, []⟩ := d2
    have hcond : dcE l 0 = 0 ∧ (dcI l 0).op = 4 := ⟨d1', by rw [d2']⟩
    have hvf : vfR F l = (0, 0, 0) := by
      unfold vfR
      rw [if_neg (by omega), if_neg (by omega), if_pos hcond, if_neg (by omega)]
    have htr : trL l = oneN n := by
      unfold trL
      rw [if_pos hcond, d2']
    have hch : (chkM F L).1 = 0 := by
      rw [hcd, hL]
      unfold deepR oneN dpG
      rw [if_neg (by simp; omega)]
      rfl
    rw [hvf, htr, hch]
    refine ⟨rfl, ?_⟩
    show oneN n = [(⟨(L.getD (0 : Int).toNat ⟨0, []⟩).b, (L.getD (0 : Int).toNat ⟨0, []⟩).r.map (rnM L P [0])⟩ : Nde)]
    rw [hgd, hd1]
    rfl
end Go.Proofs.Ytdpmhpmnkollaaa
namespace Go.Proofs.Ytdpmhpmnkollaaa
open Go.RowKit
set_option linter.unusedSimpArgs false
set_option linter.unusedVariables false

theorem Emt.posk {L : List Nde} {P o : List Int} (h : Emt L P o) {k : Nat} (hk : k < L.length) : ∃ i, i < L.length ∧ o[i]? = some (k : Int) ∧ posN L P o (k : Int) = (i : Int) := by
  obtain ⟨i, hi⟩ := List.getElem?_of_mem (h.all k hk)
  exact ⟨i, by rw [← h.n]; exact (List.getElem?_eq_some_iff.mp hi).1, hi, h.pos hi⟩
theorem Emt.posinj {L : List Nde} {P o : List Int} (h : Emt L P o) {k j : Nat} (hk : k < L.length) (hj : j < L.length) (e : (posN L P o (k : Int)).toNat = (posN L P o (j : Int)).toNat) : k = j := by
  obtain ⟨a, a1, a2, a3⟩ := h.posk hk
  obtain ⟨b, b1, b2, b3⟩ := h.posk hj
  rw [a3, b3, Int.toNat_natCast, Int.toNat_natCast] at e
  subst e
  rw [a2] at b2
  injection b2 with b2
  omega
structure DfR (L : List Nde) (P o : List Int) (s t : DfS) : Prop where
  l : s.1.length = L.length ∧ t.1.length = L.length
  m : ∀ k : Nat, k < L.length → t.1.getD (posN L P o (k : Int)).toNat false = s.1.getD k false
  r : t.2 = s.2.map (posN L P o)
theorem rep_getB (n k : Nat) : (List.replicate n false).getD k false = false := by
  rw [List.getD_eq_getElem?_getD, List.getElem?_replicate]
  split <;> rfl
theorem set_getB (A : List Bool) (k i : Nat) (hk : k < A.length) : (A.set k true).getD i false = if k = i then true else A.getD i false := by
  rw [List.getD_eq_getElem?_getD, List.getElem?_set, List.getD_eq_getElem?_getD]
  by_cases c : k = i
  · subst c
    rw [if_pos rfl, if_pos hk, if_pos rfl]; rfl
  · rw [if_neg c, if_neg c]
theorem Emt.nat {L : List Nde} {P o : List Int} (h : Emt L P o) {n : Nat} {d : Nde} (hd : L[n]? = some d) : (numL L P o)[(posN L P o (n : Int)).toNat]? = some ⟨d.b, d.r.map (rnM L P o)⟩ := by
  obtain ⟨i, i1, i2, i3⟩ := h.posk (List.getElem?_eq_some_iff.mp hd).1
  rw [i3, Int.toNat_natCast]
  unfold numL
  rw [List.getElem?_map, i2]
  show some (⟨(L.getD ((n : Nat) : Int).toNat ⟨0, []⟩).b, (L.getD ((n : Nat) : Int).toNat ⟨0, []⟩).r.map (rnM L P o)⟩ : Nde) = _
  rw [Int.toNat_natCast, List.getD_eq_getElem?_getD, hd]; rfl
theorem dfs_ren {L : List Nde} {P o : List Int} (E : Emt L P o) : ∀ (f n : Nat) (s t : DfS), n < L.length → DfR L P o s t → DfR L P o (dfs L f n s) (dfs (numL L P o) f (posN L P o (n : Int)).toNat t)
  | 0, n, s, t, hn, h => h
  | f + 1, n, s, t, hn, h => by
    obtain ⟨d, hd⟩ : ∃ d, L[n]? = some d := ⟨L[n], by simp [hn]⟩
    obtain ⟨i, i1, i2, i3⟩ := E.posk hn
    rw [dfs_succ L f n s d hd, dfs_succ (numL L P o) f _ t _ (E.nat hd)]
    have key : ∀ (l : List Rn) (a b : DfS), (∀ r ∈ l, r ∈ d.r) → DfR L P o a b → DfR L P o (l.foldl (stpR (dfs L f)) a) ((l.map (rnM L P o)).foldl (stpR (dfs (numL L P o) f)) b) := by
      intro l
      induction l with
      | nil => intro a b _ hab; exact hab
      | cons r l ih =>
        intro a b hl hab
        rw [List.map_cons, List.foldl_cons, List.foldl_cons]
        refine ih _ _ (fun q hq => hl q (by simp [hq])) ?_
        have hr := hl r (by simp)
        unfold stpR
        cases c : r.k with
        | false =>
          have e : (rnM L P o r).k = false := by unfold rnM fN; rw [c]; rfl
          rw [e]
          exact hab
        | true =>
          have e1 : (rnM L P o r).k = true := by unfold rnM fN; rw [c]; rfl
          have e2 : (rnM L P o r).n = posN L P o r.n := by unfold rnM fN; rw [c]; rfl
          have hkd := E.kid hd hr c
          obtain ⟨z, hz⟩ : ∃ z : Nat, r.n = (z : Int) := ⟨r.n.toNat, by omega⟩
          have hzl : z < L.length := by omega
          rw [e1, e2, hz, Int.toNat_natCast, hab.m z hzl]
          split
          · exact dfs_ren E f z a b hzl hab
          · exact hab
    have h1 : DfR L P o (s.1.set n true, s.2) (t.1.set (posN L P o (n : Int)).toNat true, t.2) := by
      refine ⟨⟨by rw [List.length_set]; exact h.l.1, by rw [List.length_set]; exact h.l.2⟩, fun k hk => ?_, h.r⟩
      dsimp only
      rw [set_getB _ _ _ (by rw [h.l.2, i3, Int.toNat_natCast]; exact i1), set_getB _ _ _ (by rw [h.l.1]; exact hn), h.m k hk]
      by_cases c : n = k
      · subst c
        rw [if_pos rfl, if_pos rfl]
      · rw [if_neg (fun q => c (E.posinj hn hk q)), if_neg c]
    have h2 := key d.r.reverse _ _ (fun r hr => List.mem_reverse.mp hr) h1
    rw [List.map_reverse] at h2
    refine ⟨h2.l, h2.m, ?_⟩
    dsimp only
    rw [h2.r, List.map_append, i3, Int.toNat_natCast]
    show _ = _ ++ [posN L P o (n : Int)]
    rw [i3]
theorem ord_ren {L : List Nde} {P : List Int} (E : Emt L P (ordL L)) : ordL (numL L P (ordL L)) = (List.range L.length).map fun i : Nat => (i : Int) := by
  have hn : (numL L P (ordL L)).length = L.length := by unfold numL; rw [List.length_map]; exact E.n
  have hL0 := E.ok.1
  have hp0 : posN L P (ordL L) ((0 : Nat) : Int) = ((0 : Nat) : Int) := E.pos E.z
  have h := dfs_ren E L.length 0 (List.replicate L.length false, []) (List.replicate L.length false, []) hL0 ⟨⟨by simp, by simp⟩, fun k hk => by
    dsimp only
    rw [rep_getB, rep_getB], rfl⟩
  have h1 : ordL (numL L P (ordL L)) = (ordL L).map (posN L P (ordL L)) := by
    have hr := h.r
    rw [hp0, Int.toNat_natCast] at hr
    have e1 : ordL (numL L P (ordL L)) = (dfs (numL L P (ordL L)) (numL L P (ordL L)).length 0 (List.replicate (numL L P (ordL L)).length false, [])).2.reverse := rfl
    rw [e1, hn, hr, ← List.map_reverse]
    rfl
  rw [h1]
  apply List.ext_getElem?
  intro i
  rw [List.getElem?_map, List.getElem?_map]
  cases hx : (ordL L)[i]? with
  | none =>
    have h2 : (ordL L).length ≤ i := List.getElem?_eq_none_iff.mp hx
    rw [List.getElem?_eq_none (by rw [List.length_range, ← E.n]; exact h2)]
    rfl
  | some x =>
    have h2 := (List.getElem?_eq_some_iff.mp hx).1
    rw [List.getElem?_range (by rw [← E.n]; exact h2)]
    show some (posN L P (ordL L) x) = some (i : Int)
    rw [E.pos hx]
end Go.Proofs.Ytdpmhpmnkollaaa
namespace Go.Proofs.Ytdpmhpmnkollaaa
open Go.RowKit
set_option linter.unusedSimpArgs false
set_option linter.unusedVariables false

def rgN (i n : Nat) : List Int := (List.range' i n).map fun j : Nat => (j : Int)
theorem rgN_succ (i n : Nat) : rgN i (n + 1) = (i : Int) :: rgN (i + 1) n := by unfold rgN; rw [List.range'_succ]; rfl
theorem Emt.natI {L : List Nde} {P o : List Int} (h : Emt L P o) {i : Nat} (hi : i < o.length) : ∃ x d, o[i]? = some x ∧ o.drop i = x :: o.drop (i + 1) ∧ L[x.toNat]? = some d ∧ L.getD x.toNat ⟨0, []⟩ = d ∧ (numL L P o).getD i ⟨0, []⟩ = ⟨d.b, d.r.map (rnM L P o)⟩ := by
  have hx : o[i]? = some o[i] := List.getElem?_eq_getElem hi
  obtain ⟨d, hd, hd2⟩ := h.nde hx
  refine ⟨o[i], d, hx, List.drop_eq_getElem_cons hi, hd, hd2, ?_⟩
  unfold numL
  rw [List.getD_eq_getElem?_getD, List.getElem?_map, hx]
  show (⟨(L.getD o[i].toNat ⟨0, []⟩).b, (L.getD o[i].toNat ⟨0, []⟩).r.map (rnM L P o)⟩ : Nde) = _
  rw [hd2]
theorem sz_ren (L : List Nde) (P o : List Int) (d : Nde) : szN ⟨d.b, d.r.map (rnM L P o)⟩ = szN d := by
  unfold szN
  dsimp only
  rw [List.length_map]
theorem wsum_ren {L : List Nde} {P o : List Int} (E : Emt L P o) : ∀ (n i : Nat), i + n ≤ o.length → wsum (numL L P o) (rgN i n) = wsum L ((o.drop i).take n)
  | 0, i, h => by
    unfold rgN
    rw [List.take_zero]; rfl
  | n + 1, i, h => by
    obtain ⟨x, d, x1, x2, x3, x4, x5⟩ := E.natI (i := i) (by omega)
    have ih := wsum_ren E n (i + 1) (by omega)
    rw [rgN_succ, x2, List.take_succ_cons]
    show szN ((numL L P o).getD ((i : Nat) : Int).toNat ⟨0, []⟩) + wsum (numL L P o) (rgN (i + 1) n) = szN (L.getD x.toNat ⟨0, []⟩) + wsum L ((o.drop (i + 1)).take n)
    rw [Int.toNat_natCast, x5, x4, sz_ren, ih]
theorem map_ren (L : List Nde) (P o : List Int) (n : Nat) (l : List Rn) : mapL n (l.map (rnM L P o)) = mapL n l := by
  unfold mapL
  rw [List.foldl_map]
  rfl
theorem rnB_ren {L : List Nde} {P Q o : List Int} : ∀ (l : List Rn) (p : Nat), (∀ r ∈ l, r.k = true → Q.getD (posN L P o r.n).toNat 0 = P.getD r.n.toNat 0) → rnB Q p (l.map (rnM L P o)) = rnB P p l
  | [], p, h => rfl
  | r :: t, p, h => by
    have ih := rnB_ren (Q := Q) t (p + 1) (fun q hq => h q (by simp [hq]))
    rw [List.map_cons]
    show wdB (rnO (rnM L P o r)).toNat (rnI Q p (rnM L P o r)).toNat [] ++ rnB Q (p + 1) (t.map (rnM L P o)) = wdB (rnO r).toNat (rnI P p r).toNat [] ++ rnB P (p + 1) t
    rw [ih]
    have h1 := h r (by simp)
    have e : rnO (rnM L P o r) = rnO r ∧ rnI Q p (rnM L P o r) = rnI P p r := by
      unfold rnO rnI rnM fN
      cases c : r.k with
      | false => exact ⟨rfl, rfl⟩
      | true =>
        refine ⟨rfl, ?_⟩
        show Q.getD (posN L P o r.n).toNat 0 - (p : Int) = P.getD r.n.toNat 0 - (p : Int)
        rw [h1 c]
    rw [e.1, e.2]
theorem ndB_ren {L : List Nde} {P Q o : List Int} (d : Nde) (a : Nat) (h : ∀ r ∈ d.r, r.k = true → Q.getD (posN L P o r.n).toNat 0 = P.getD r.n.toNat 0) : ndB Q a ⟨d.b, d.r.map (rnM L P o)⟩ = ndB P a d := by
  unfold ndB
  dsimp only
  rw [map_ren]
  split
  · exact rnB_ren d.r a h
  · rw [rnB_ren d.r _ h]
theorem lyB_ren {L : List Nde} {P Q o : List Int} (E : Emt L P o) (hQ : ∀ x ∈ o, Q.getD (posN L P o x).toNat 0 = P.getD x.toNat 0) : ∀ (n i a : Nat), i + n = o.length → lyB (numL L P o) Q a (rgN i n) = lyB L P a (o.drop i)
  | 0, i, a, h => by
    rw [List.drop_of_length_le (by omega)]; rfl
  | n + 1, i, a, h => by
    obtain ⟨x, d, x1, x2, x3, x4, x5⟩ := E.natI (i := i) (by omega)
    rw [rgN_succ, x2]
    show ndB Q a ((numL L P o).getD ((i : Nat) : Int).toNat ⟨0, []⟩) ++ lyB (numL L P o) Q (a + szN ((numL L P o).getD ((i : Nat) : Int).toNat ⟨0, []⟩)) (rgN (i + 1) n) = ndB P a (L.getD x.toNat ⟨0, []⟩) ++ lyB L P (a + szN (L.getD x.toNat ⟨0, []⟩)) (o.drop (i + 1))
    rw [Int.toNat_natCast, x5, x4, sz_ren, lyB_ren E hQ n (i + 1) _ (by omega), ndB_ren d a (fun r hr hk => hQ r.n (E.kid x3 hr hk).1)]
theorem rg_range (n : Nat) : (List.range n).map (fun i : Nat => (i : Int)) = rgN 0 n := by
  unfold rgN
  rw [List.range_eq_range']
theorem rg_take (n i : Nat) (h : i ≤ n) : (rgN 0 n).take i = rgN 0 i := by
  unfold rgN
  rw [← List.map_take, ← List.range_eq_range', ← List.range_eq_range', List.take_range, Nat.min_eq_left h]
theorem rg_at (n i : Nat) (h : i < n) : (rgN 0 n)[i]? = some (i : Int) := by
  unfold rgN
  rw [List.getElem?_map, ← List.range_eq_range', List.getElem?_range h]; rfl
theorem emit_again {F : Int} {L : List Nde} {most : Int} (h : codE F L most = 0) (hx : ∀ b ∈ codB F L most, b < 256) : codE F (numL L (layR F L).1.2.1 (ordL L)) most = 0 ∧ codB F (numL L (layR F L).1.2.1 (ordL L)) most = codB F L most := by
  obtain ⟨a1, a2⟩ := emit_all h
  have hl : (layR F L).2 = 0 := by
    unfold codE at h
    by_cases c : (layR F L).2 = 0
    · exact c
    · rw [if_neg c] at h; exact h
  have hm : ¬ min most 4194304 < 4 * ((layR F L).1.2.2 : Int) := by
    intro q
    unfold codE at h
    rw [if_pos hl, if_pos q] at h
    exact absurd h (by decide)
  obtain ⟨ok, hc, hp, ho⟩ := lay_zero hl
  have hcm : chkM F (numL L (layR F L).1.2.1 (ordL L)) = ((chkM F L).1, 0) := by
    have := tree_ok (F := F) hx (by rw [a1])
    rw [a1, a2] at this
    exact this
  rcases nodes_two ok with hb | ⟨n, hL, n0, n1⟩
  · obtain ⟨E, -, hu, hf, hcb, hcd⟩ := emt_of h hb
    rw [hcb]
    have hws := (lay_ok ok hp (by omega)).2
    obtain ⟨P, hP⟩ : ∃ P, P = (layR F L).1.2.1 := ⟨_, rfl⟩
    obtain ⟨n, hn⟩ : ∃ n, n = (layR F L).1.2.2 := ⟨_, rfl⟩
    rw [← hP] at E hcm ⊢
    rw [← hn] at hm hws
    obtain ⟨M, hM⟩ : ∃ M, M = numL L P (ordL L) := ⟨_, rfl⟩
    have hML : M.length = L.length := by rw [hM]; unfold numL; rw [List.length_map]; exact E.n
    have hor : ordL M = rgN 0 L.length := by rw [hM, ord_ren E, rg_range]
    rw [← hM] at hcm ⊢
    have hcm2 : (chkM F M).2 = 0 := by rw [hcm]
    obtain ⟨okM, hfu, -, hmem, -, hcase⟩ := lay_cases hcm2
    have hlM : (layR F M).2 = 0 := by
      rcases hcase with q | ⟨-, q⟩
      · exact q.1
      · exfalso
        unfold bigB at q
        obtain ⟨d', hd', hq⟩ := List.any_eq_true.mp q
        have hq := of_decide_eq_true hq
        rw [hM] at hd'
        unfold numL at hd'
        obtain ⟨x, hx1, rfl⟩ := List.mem_map.mp hd'
        obtain ⟨i, hi⟩ := List.getElem?_of_mem hx1
        obtain ⟨d, hd, hd2⟩ := E.nde hi
        have := (E.bits d (List.mem_of_getElem? hd)).2
        have hq2 : 24 < (L.getD x.toNat ⟨0, []⟩).b := hq
        rw [hd2] at hq2
        omega
    obtain ⟨-, -, hpM, hoM⟩ := lay_zero hlM
    have odM := ord_ok okM
    have pl := pl_ok (ordL M) (List.replicate M.length 0) (layR F M).1.2.1 0 (layR F M).1.2.2 odM.nd (fun k hk => by
      rw [List.length_replicate]
      obtain ⟨j, rfl, hj⟩ := hmem k hk
      exact ⟨by omega, by rw [Int.toNat_natCast]; exact hj⟩) hpM
    have hnM : (layR F M).1.2.2 = n := by
      rw [pl.n, hor, Nat.zero_add, ← hws, hM, wsum_ren E L.length 0 (by rw [E.n]; omega), List.drop_zero, List.take_of_length_le (by rw [E.n]; exact Nat.le_refl _)]
    have hQ : ∀ x ∈ ordL L, (layR F M).1.2.1.getD (posN L P (ordL L) x).toNat 0 = P.getD x.toNat 0 := fun x hxo => by
      obtain ⟨i, hi⟩ := List.getElem?_of_mem hxo
      have hil := (List.getElem?_eq_some_iff.mp hi).1
      rw [E.pos hi, E.at' i x hi, Int.toNat_natCast]
      have hsp : ordL M = rgN 0 i ++ (i : Int) :: (rgN 0 L.length).drop (i + 1) := by
        rw [hor]
        have h9 := rg_at L.length i (by rw [← E.n]; exact hil)
        obtain ⟨h9a, h9b⟩ := List.getElem?_eq_some_iff.mp h9
        rw [← rg_take L.length i (by rw [← E.n]; omega)]
        conv => lhs; rw [← List.take_append_drop i (rgN 0 L.length), List.drop_eq_getElem_cons h9a, h9b]
      have := pl.at' _ _ _ hsp
      have hw9 : wsum M (rgN 0 i) = wsum L ((ordL L).take i) := by rw [hM, wsum_ren E i 0 (by omega), List.drop_zero]
      rw [Nat.zero_add, Int.toNat_natCast, hw9] at this
      rw [List.getD_eq_getElem?_getD, this]; rfl
    refine ⟨?_, ?_⟩
    · unfold codE
      rw [if_pos hlM, hnM, if_neg hm]
    · have hcE : codE F M most = 0 := by
        unfold codE
        rw [if_pos hlM, hnM, if_neg hm]
      unfold codB
      rw [if_pos hcE, hoM, hor]
      have := lyB_ren E hQ L.length 0 0 (by rw [E.n]; omega)
      rw [← hM, List.drop_zero] at this
      exact this
  · have hM : numL L (layR F L).1.2.1 (ordL L) = L := by
      obtain ⟨-, hu, hf, hcd⟩ := chk_ok hc
      have hord : ordL L = [0] := by
        have h1 := ord_full ok hu
        obtain ⟨B, hB⟩ := (ord_ok ok).zero
        rw [hB] at h1 ⊢
        rw [hL] at h1
        have : B.length = 0 := by simpa [oneN] using h1
        rw [List.length_eq_zero_iff.mp this]
      rw [hord, hL]
      rfl
    rw [hM]
    exact ⟨h, rfl⟩
end Go.Proofs.Ytdpmhpmnkollaaa
namespace Go.Proofs.Ytdpmhpmnkollaaa
open Go.RowKit Go.Shelf
set_option linter.unusedSimpArgs false
set_option linter.unusedVariables false
attribute [local go_sem] Oper.semAt_some

theorem again_all {F : Int} {L : List Nde} {most : Int} (h : codE F L most = 0) (hx : ∀ b ∈ codB F L most, b < 256) (hl : L.length ≤ 1000000) (hr : ∀ d ∈ L, d.r.length ≤ 1000000) :
    ∃ M, vfR F (codB F L most) = ((chkM F L).1, 0, 0) ∧ trL (codB F L most) = M ∧ chkM F M = ((chkM F L).1, 0) ∧ codE F M most = 0 ∧ codB F M most = codB F L most ∧ M.length ≤ 1000000 ∧ ∀ d ∈ M, d.r.length ≤ 1000000 := by
  obtain ⟨a1, a2⟩ := emit_all h
  obtain ⟨b1, b2⟩ := emit_again h hx
  have hcm : chkM F (numL L (layR F L).1.2.1 (ordL L)) = ((chkM F L).1, 0) := by
    have := tree_ok (F := F) hx (by rw [a1])
    rw [a1, a2] at this
    exact this
  have hl0 : (layR F L).2 = 0 := by
    unfold codE at h
    by_cases c : (layR F L).2 = 0
    · exact c
    · rw [if_neg c] at h; exact h
  obtain ⟨ok, hc, -, -⟩ := lay_zero hl0
  obtain ⟨-, hu, -, -⟩ := chk_ok hc
  refine ⟨_, a1, a2, hcm, b1, b2, ?_, fun d hd => ?_⟩
  · unfold numL
    rw [List.length_map, ord_full ok hu]
    exact hl
  · unfold numL at hd
    obtain ⟨x, hx1, rfl⟩ := List.mem_map.mp hd
    dsimp only
    rw [List.length_map, List.getD_eq_getElem?_getD]
    cases hq : L[x.toNat]? with
    | none => simp
    | some d => exact hr d (List.mem_of_getElem? hq)
set_option maxRecDepth 100000 in
set_option maxHeartbeats 16000000 in
theorem verifyAgain_any (F : Int) (v : Value) (L : List Nde) (w : World) (hF0 : -9223372036854775808 ≤ F) (hF1 : F ≤ 9223372036854775807) (hv : RwD w v L) (hl : L.length ≤ 140737488355328) (hr : ∀ d ∈ L, d.r.length ≤ 140737488355328) :
    Calls Try.prog 4 #[.int .i64 F, v] w fun e w' => e = .returned (.bool true) ∧ Below w.heap.size w w' := by
  have HV := hid13 hv
  have HL : Hid (L.length ≤ 140737488355328 ∧ ∀ d ∈ L, d.r.length ≤ 140737488355328) := ⟨hl, hr⟩
  obtain ⟨ao, c, hvf, -⟩ := id hv
  subst hvf
  clear hv hl hr hF0 hF1
  go_enter Try.func4, Try.ntmps4
  go_wp2_with fail
  refine (known18 _).mono ?_
  rintro e w1 ⟨rfl, hb1⟩
  have HB1 := hid13 hb1
  have KS := few_any _ L w1 (HV.out.below hb1) HL.out.1 HL.out.2
  clear hb1
  go_wp2_with fail
  refine KS.mono ?_
  rintro e w2 ⟨rfl, hw⟩
  subst hw
  clear KS
  cases hfb : fewB L with
  | false =>
    go_wp2
    go_ret
    exact ⟨rfl, HB1.out⟩
  | true =>
  have hf := few_ok hfb
  have hf1 : L.length ≤ 1000000 := by omega
  have hf2 : ∀ d ∈ L, d.r.length ≤ 1000000 := fun d hd => by have := hf.2 d hd; omega
  have KC := rcode16_any F _ L 32768 w2 (HV.out.below HB1.out) hf1 hf2
  have HX := hid13 (codB_lt F L 32768)
  have HCl := hid13 (fun h => (cod_len (F := F) (L := L) (most := 32768) h).2.1)
  have HAg := hid13 (fun h => again_all (F := F) (L := L) (most := 32768) h (codB_lt F L 32768) hf1 hf2)
  clear hf hfb hf1 hf2
  obtain ⟨B, hB⟩ : ∃ B, B = codB F L 32768 := ⟨_, rfl⟩
  obtain ⟨E, hE⟩ : ∃ E, E = codE F L 32768 := ⟨_, rfl⟩
  rw [← hB, ← hE] at KC HCl HAg
  rw [← hB] at HX
  clear hB hE
  go_wp2_with fail
  refine KC.mono ?_
  rintro e w3 ⟨vB, rfl, hob, hb3⟩
  have HO := hid13 hob
  have HB3 := hid13 (keepb hb3 HB1.out)
  obtain ⟨bo, bc, hvB⟩ := own_form hob
  clear KC hob hb3
  by_cases hE0 : E = 0
  · subst hE0
    have hBl := HCl.out rfl
    obtain ⟨M, g1, g2, g3, g4, g5, g6, g7⟩ := HAg.out rfl
    have HBl : Hid (B.length ≤ 4194304) := hid13 (by omega)
    obtain ⟨d, hd⟩ : ∃ d, d = (chkM F L).1 := ⟨_, rfl⟩
    rw [← hd] at g1 g3
    have HRb : Hid (RwX cB w3 (.slice bo B.length bc) B) := hid13 (by rw [← hvB]; exact own_rwx HO.out)
    have K1 := vcode18 w3 F _ B HRb.out HBl.out HX.out
    rw [g1] at K1
    have HTr := hid13 (fun (X : World) (h : RwX cB X (.slice bo B.length bc) B) => tree18 X F bo bc B h HBl.out HX.out)
    have HTq := hid13 (fun (X : World) (e : Ending) (X' : World) (h : TrQ X F B e X') => show ∃ u, e = .returned (.tuple #[u, .int .i64 0]) ∧ Below X.heap.size X X' ∧ RwD X' u M from by
      obtain ⟨u, U, rfl, -, h2, h3⟩ := h
      rw [g1] at h2 ⊢
      have h4 := h2 rfl
      rw [g2] at h4
      exact ⟨u, rfl, h3, h4.rwd⟩)
    have KCh := hid13 (fun u X (h : RwD X u M) => rcheck_any F u M X h g6 g7)
    rw [g3] at KCh
    have KEm := hid13 (fun u X (h : RwD X u M) => rcode16_any F u M 32768 X h g6 g7)
    rw [g4, g5] at KEm
    clear hBl g1 g2 g3 g4 g5 g6 g7 hd HAg HCl HV HL
    subst hvB
    go_wp2_with fail
    refine K1.mono ?_
    rintro e w4 ⟨rfl, hb4⟩
    have HB4 := hid13 (keepb hb4 HB3.out)
    have HR4 := hid13 (HRb.out.below hb4)
    have K2 := HTr.out w4 HR4.out
    clear K1 hb4 HB3 HRb HTr HO
    go_wp2_with fail
    refine K2.mono ?_
    rintro e w5 hq
    obtain ⟨u, rfl, hb5, hd5⟩ := HTq.out _ _ _ hq
    have HB5 := hid13 (keepb hb5 HB4.out)
    have HR5 := hid13 (HR4.out.below hb5)
    have HD5 := hid13 hd5
    have K3 := KCh.out u w5 hd5
    clear K2 hq hb5 hd5 HB4 HR4 HTq KCh
    go_wp2_with fail
    refine K3.mono ?_
    rintro e w6 ⟨rfl, hb6⟩
    have HB6 := hid13 (keepb hb6 HB5.out)
    have HR6 := hid13 (HR5.out.below hb6)
    have K4 := KEm.out u w6 (HD5.out.below hb6)
    clear K3 hb6 HB5 HR5 HD5 KEm
    go_wp2_with fail
    refine K4.mono ?_
    rintro e w7 ⟨v7, rfl, ho7, hb7⟩
    have HB7 := hid13 (keepb hb7 HB6.out)
    have cv1 := conv13 (HR6.out.below hb7) HX.out
    have cv2 := conv13 (own_rwx ho7) HX.out
    obtain ⟨S, hS⟩ : ∃ S, S = bsA B := ⟨_, rfl⟩
    rw [← hS] at cv1 cv2
    clear K4 hb7 ho7 HB6 HR6 hS
    go_wp2
    go_ret
    exact ⟨rfl, HB7.out⟩
  · have hEb : (E != 0) = true := by simpa using hE0
    clear HAg HCl hE0
    go_wp2
    go_ret
    exact ⟨rfl, HB3.out⟩
end Go.Proofs.Ytdpmhpmnkollaaa
