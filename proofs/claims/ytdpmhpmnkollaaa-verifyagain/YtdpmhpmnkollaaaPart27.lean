/-
  Part 27 of the proof: 3 texts, one behind the other.
-/
import Derived.Test.YtdpmhpmnkollaaaPart26
import Derived.Test.YtdpmhpmnkollaaaPart21
import Derived.Test.YtdpmhpmnkollaaaPart19
namespace Go.Proofs.Ytdpmhpmnkollaaa
open Go.RowKit
set_option linter.unusedSimpArgs false
set_option linter.unusedVariables false

def jmpL (es : List (Bool × Int)) : List Int := (es.filter (·.1)).map (·.2)
theorem jmp_yes (n : Int) (t : List (Bool × Int)) : jmpL ((true, n) :: t) = n :: jmpL t := rfl
theorem jmp_no (n : Int) (t : List (Bool × Int)) : jmpL ((false, n) :: t) = jmpL t := rfl
theorem mem_jmp {es : List (Bool × Int)} {x : Int} (h : x ∈ jmpL es) : ∃ e ∈ es, e.1 = true ∧ e.2 = x := by
  unfold jmpL at h
  obtain ⟨e, he, rfl⟩ := List.mem_map.mp h
  obtain ⟨h1, h2⟩ := List.mem_filter.mp he
  exact ⟨e, h1, h2, rfl⟩
def rnZ (i : Int) (e : Bool × Int) : Rn := ⟨mkW 0 i, e.1, e.2⟩
theorem runsV_eq (m : List (BitVec 32)) (es : List (Bool × Int)) : runsV m es = (setL m 0).zipWith rnZ es := rfl
theorem kid_zip : ∀ (S : List Int) (es : List (Bool × Int)), S.length = es.length → kidL (S.zipWith rnZ es) = jmpL es
  | [], [], _ => rfl
  | x :: S, (true, n) :: es, h => by
    have ih := kid_zip S es (by simpa using h)
    rw [jmp_yes, ← ih]; rfl
  | x :: S, (false, n) :: es, h => by
    have ih := kid_zip S es (by simpa using h)
    rw [jmp_no, ← ih]; rfl
  | [], e :: es, h => by simp at h
  | x :: S, [], h => by simp at h
theorem kid_runs (m : List (BitVec 32)) (es : List (Bool × Int)) (h : es.length = sumW m m.length) : kidL (runsV m es) = jmpL es := by
  rw [runsV_eq]
  exact kid_zip _ _ (by rw [setL_all, h])
theorem getD_swap (A : List (Int × Int)) (k : Nat) : (A.map Prod.swap).getD k (0, 0) = ((A.getD k (0, 0)).2, (A.getD k (0, 0)).1) := by
  rw [List.getD_eq_getElem?_getD, List.getD_eq_getElem?_getD, List.getElem?_map]
  cases A[k]? <;> rfl
theorem up_swap (B M : Int) : ∀ (es : List (Bool × Int)) (A : List (Int × Int)), (jmpL es).foldl (upR M B) (A.map Prod.swap) = (es.foldl (upX B M) A).map Prod.swap
  | [], A => rfl
  | (false, n) :: t, A => by
    rw [jmp_no, List.foldl_cons]
    have : upX B M A (false, n) = A := rfl
    rw [this]
    exact up_swap B M t A
  | (true, n) :: t, A => by
    rw [jmp_yes, List.foldl_cons, List.foldl_cons]
    have h1 : upX B M A (true, n) = A.set n.toNat (max (A.getD n.toNat (0, 0)).1 B, max (A.getD n.toNat (0, 0)).2 M) := rfl
    have h2 : upR M B (A.map Prod.swap) n = (A.set n.toNat (max (A.getD n.toNat (0, 0)).1 B, max (A.getD n.toNat (0, 0)).2 M)).map Prod.swap := by
      unfold upR
      rw [getD_swap, List.map_set]; rfl
    rw [h1, h2]
    exact up_swap B M t _
theorem dp_ms (F : Int) : ∀ (t : List PB) (k : Nat) (A : List (Int × Int)) (dp : Int), (∀ b ∈ t, 1 ≤ b.t ∧ b.es.length = sumW b.m b.m.length) → (msG F t k A dp).2.2 = 0 → dpG F (ndsL t) k (A.map Prod.swap) dp = ((msG F t k A dp).1, 0)
  | [], k, A, dp, _, _ => rfl
  | b :: t, k, A, dp, hb, h => by
    have hb1 := hb b (by simp)
    show dpG F (⟨b.t, runsV b.m b.es⟩ :: ndsL t) k (A.map Prod.swap) dp = _
    unfold msG at h ⊢
    unfold dpG
    rw [getD_swap]
    dsimp only
    by_cases c : F < (A.getD k (0, 0)).2 + b.t
    · rw [if_pos c] at h
      exact absurd h (by simp)
    · rw [if_neg c] at h ⊢
      have hm : min 1 b.t = 1 := by omega
      rw [if_neg c, kid_runs _ _ hb1.2, hm, up_swap]
      exact dp_ms F t (k + 1) _ _ (fun x hx => hb x (by simp [hx])) h
theorem deep_ms (F : Int) (P : List PB) (hb : ∀ b ∈ P, 1 ≤ b.t ∧ b.es.length = sumW b.m b.m.length) (h : (msR F P).2.2 = 0) : deepR F (ndsL P) = ((msR F P).1, 0) := by
  have := dp_ms F P 0 (List.replicate P.length (0, 0)) 0 hb h
  rw [List.map_replicate] at this
  unfold deepR
  rw [show (ndsL P).length = P.length by unfold ndsL; rw [List.length_map]]
  exact this
theorem mk_jmp : ∀ (es : List (Bool × Int)) (s : List Bool), (jmpL es).foldl mkK s = es.foldl mkX s
  | [], s => rfl
  | (false, n) :: t, s => by
    rw [jmp_no, List.foldl_cons]
    exact mk_jmp t s
  | (true, n) :: t, s => by
    rw [jmp_yes, List.foldl_cons, List.foldl_cons]
    exact mk_jmp t _
theorem mkN_all : ∀ (t : List PB) (s : List Bool), (∀ b ∈ t, b.es.length = sumW b.m b.m.length) → (ndsL t).foldl mkN s = t.foldl mkB s
  | [], s, _ => rfl
  | b :: t, s, h => by
    show (ndsL t).foldl mkN (mkN s ⟨b.t, runsV b.m b.es⟩) = t.foldl mkB (mkB s b)
    have : mkN s ⟨b.t, runsV b.m b.es⟩ = mkB s b := by
      unfold mkN mkB
      dsimp only
      rw [kid_runs _ _ (h b (by simp)), mk_jmp]
    rw [this]
    exact mkN_all t _ (fun x hx => h x (by simp [hx]))
theorem used_ok (P : List PB) (h0 : 0 < P.length) (hl : ∀ b ∈ P, b.es.length = sumW b.m b.m.length) (hk : ∀ b ∈ P, ∀ e ∈ b.es, e.1 = true → 0 ≤ e.2 ∧ e.2 < (P.length : Int)) (h : (usR P).2 = 0) : usedB (ndsL P) = true := by
  have hln : (ndsL P).length = P.length := by unfold ndsL; rw [List.length_map]
  rw [used_iff (ndsL P) (by omega) (fun d hd x hx => by
    unfold ndsL at hd
    obtain ⟨b, hb, rfl⟩ := List.mem_map.mp hd
    dsimp only at hx
    rw [kid_runs _ _ (hl b hb)] at hx
    obtain ⟨e, he, h1, rfl⟩ := mem_jmp hx
    rw [hln]
    exact hk b hb e he h1)]
  have e : mkL (ndsL P) (ndsL P).length = P.foldl mkB (List.replicate P.length false) := by
    unfold mkL
    rw [List.take_length, hln, mkN_all P _ hl]
  rw [e, hln]
  intro i
  induction i using Nat.strongRecOn with
  | ind i ih =>
    intro h1 h2
    cases hg : (P.foldl mkB (List.replicate P.length false)).getD i false with
    | true => rfl
    | false =>
      have := usR_at h1 (List.getElem?_eq_getElem h2) hg (fun j a b => ih j b a (by omega))
      rw [this] at h
      exact absurd h (by simp)
def Adj (L : List (Bool × Int)) : Prop := ∀ (j : Nat) (x y : Bool × Int), L[j]? = some x → L[j + 1]? = some y → x ≠ y
theorem adj_app {L : List (Bool × Int)} {e : Bool × Int} (h : Adj L) (hl : L.getLast? ≠ some e) : Adj (L ++ [e]) := by
  intro j x y hx hy
  by_cases c : j + 1 < L.length
  · rw [List.getElem?_append_left c] at hy
    rw [List.getElem?_append_left (by omega)] at hx
    exact h j x y hx hy
  · have hj := (List.getElem?_eq_some_iff.mp hy).1
    rw [List.length_append, List.length_singleton] at hj
    have hj2 : j + 1 = L.length := by omega
    rw [List.getElem?_append_right (by omega), show j + 1 - L.length = 0 by omega] at hy
    simp at hy
    subst hy
    rw [List.getElem?_append_left (by omega)] at hx
    rintro rfl
    refine hl ?_
    rw [List.getLast?_eq_getElem?, show L.length - 1 = j by omega]
    exact hx
theorem adj_tail {e : Bool × Int} {L : List (Bool × Int)} (h : Adj (e :: L)) : Adj L := fun j x y h1 h2 => h (j + 1) x y (by simpa using h1) (by simpa using h2)
theorem chk_rng {o n : Int} {m : List (BitVec 32)} (h : chkE o n m = 0) : kLo o ≤ n ∧ n ≤ kHi o := by
  unfold chkE at h
  split at h
  · split at h
    · rename_i h2
      simp only [Bool.and_eq_true, decide_eq_true_eq] at h2
      exact h2
    · cases h
  · cases h
structure EnF (en : Int) (es : List (Int × Int)) : Prop where
  o : ∀ e ∈ es, e.1 = 3 ∧ 1 ≤ e.2 ∨ e.1 = 4 ∧ 0 ≤ e.2 ∧ e.2 ≤ 65535
  a : Adj (prE en es)
theorem enG_f (l : List Nat) (hx : ∀ b ∈ l, b < 256) (en : Int) : ∀ (r : Nat) (es : List (Int × Int)), EnF en es → (enG l en r es.length es).2.1 = 0 → EnF en (enG l en r es.length es).1
  | 0, es, h, _ => h
  | r + 1, es, h, h0 => by
    rw [enG_succ] at h0 ⊢
    by_cases c : enE l (en + (es.length : Int)) es = 0
    · rw [if_pos c] at h0 ⊢
      have c1 : dcE l (en + (es.length : Int)) = 0 := by
        by_cases q : dcE l (en + (es.length : Int)) = 0
        · exact q
        · have c' := c
          unfold enE at c'
          rw [if_pos q] at c'
          exact c'
      have c2 : ¬ (dcI l (en + (es.length : Int))).op < 3 := by
        intro q
        have c' := c
        unfold enE at c'
        rw [if_neg (by simp [c1]), if_pos q] at c'
        exact absurd c' (by decide)
      have hk := chk_rng (enc_dec l (en + (es.length : Int)) hx c1).1
      have ho : (dcI l (en + (es.length : Int))).op = 3 ∨ (dcI l (en + (es.length : Int))).op = 4 := by have := (dcF c1).op; omega
      have hE := enE_pr l en es c1 ho (fun e he => by rcases h.o e he with q | q; exact .inl q.1; exact .inr q.1)
      rw [c] at hE
      have hlast : (prE en es).getLast? ≠ some (prX (en + (es.length : Int)) ((dcI l (en + (es.length : Int))).op, (dcI l (en + (es.length : Int))).n)) := fun q => by
        rw [if_pos q] at hE
        exact absurd hE (by decide)
      have := enG_f l hx en r (es ++ [((dcI l (en + (es.length : Int))).op, (dcI l (en + (es.length : Int))).n)]) ⟨fun e he => by
        rcases List.mem_append.mp he with q | q
        · exact h.o e q
        · simp at q
          subst q
          rcases ho with q | q
          · left
            rw [q] at hk
            exact ⟨q, hk.1⟩
          · right
            rw [q] at hk
            exact ⟨q, hk.1, hk.2⟩, by rw [prE_app]; exact adj_app h.a hlast⟩ (by rw [List.length_append, List.length_singleton]; exact h0)
      rw [List.length_append, List.length_singleton] at this
      exact this
    · rw [if_neg c] at h0
      exact absurd h0 c
def PbR (b : PB) : Prop := isMapB b.m b.t.toNat = true ∧ Adj b.es ∧ ∀ e ∈ b.es, (e.1 = true → b.a < e.2) ∧ (e.1 = false → 0 ≤ e.2 ∧ e.2 ≤ 65535)
theorem blk_r (l : List Nat) (hx : ∀ b ∈ l, b < 256) (a : Int) (h : (bkE l a).1 = 0) : PbR (blkD l a).pb := by
  obtain ⟨c1, c2, c3, c4, c5, c6⟩ := bk_okd h
  have hf : EnF (a + 1 + dcZ l (a + 1)) (enG l (a + 1 + dcZ l (a + 1)) (sumW (dcI l (a + 1)).m (dcI l (a + 1)).m.length) 0 []).1 := enG_f l hx (a + 1 + dcZ l (a + 1)) (sumW (dcI l (a + 1)).m (dcI l (a + 1)).m.length) [] ⟨fun e he => (by cases he), fun j x y h1 => (by simp [prE] at h1)⟩ c6
  refine ⟨?_, hf.a, fun e he => ?_⟩
  · show isMapB (dcI l (a + 1)).m (dcI l a).n.toNat = true
    have h1 := (enc_dec l (a + 1) hx c3).1
    rw [c4, c5] at h1
    exact chk_isMap h1
  · have he' : e ∈ prE (a + 1 + dcZ l (a + 1)) (enG l (a + 1 + dcZ l (a + 1)) (sumW (dcI l (a + 1)).m (dcI l (a + 1)).m.length) 0 []).1 := he
    show (e.1 = true → a < e.2) ∧ _
    have hz := dcZ_zero c3
    obtain ⟨es, hes⟩ : ∃ es, es = (enG l (a + 1 + dcZ l (a + 1)) (sumW (dcI l (a + 1)).m (dcI l (a + 1)).m.length) 0 []).1 := ⟨_, rfl⟩
    rw [← hes] at he' hf
    obtain ⟨j, hj⟩ := List.getElem?_of_mem he'
    have hjl : j < es.length := by have := (List.getElem?_eq_some_iff.mp hj).1; rwa [prE_len] at this
    have hg := prE_get (a + 1 + dcZ l (a + 1)) es j es[j] (List.getElem?_eq_getElem hjl)
    rw [hj] at hg
    injection hg with hg
    have ho := hf.o es[j] (List.getElem_mem hjl)
    generalize es[j] = x at *
    obtain ⟨o, n⟩ := x
    subst hg
    unfold prX
    dsimp only at ho ⊢
    rcases ho with ⟨rfl, q⟩ | ⟨rfl, q1, q2⟩
    · refine ⟨fun _ => ?_, fun z => ?_⟩
      · show a < a + 1 + dcZ l (a + 1) + (j : Int) + n
        omega
      · exact absurd z (by decide)
    · exact ⟨fun z => absurd z (by decide), fun _ => ⟨q1, q2⟩⟩
theorem bsG_all (l : List Nat) (Q : PB → Prop) (hQ : ∀ a, (bkE l a).1 = 0 → Q (blkD l a).pb) : ∀ (f : Nat) (a : Int) (P : List PB), (∀ b ∈ P, Q b) → (bsG l f a P).2.2 = 0 → ∀ b ∈ (bsG l f a P).1, Q b
  | 0, a, P, hP, h => by unfold bsG; intro b hb; cases hb
  | f + 1, a, P, hP, h => by
    by_cases c : (bkE l a).1 = 0
    · rw [bs_ok c] at h ⊢
      have hP2 : ∀ b ∈ P ++ [(blkD l a).pb], Q b := by
        intro b hb
        rcases List.mem_append.mp hb with q | q
        · exact hP b q
        · simp at q
          subst q
          exact hQ a c
      by_cases d : a + 1 + dcZ l (a + 1) + ((sumW (dcI l (a + 1)).m (dcI l (a + 1)).m.length : Nat) : Int) < wds l
      · rw [if_pos d] at h ⊢
        exact bsG_all l Q hQ f _ _ hP2 h
      · rw [if_neg d]
        exact hP2
    · rw [bs_err c] at h
      exact absurd h c
theorem fn_some {qs : List Int} (hs : qs.Pairwise (· < ·)) {x : Int} (h : fnB qs x ≠ -1) : ∃ i : Nat, qs[i]? = some x ∧ fnB qs x = (i : Int) := by
  by_cases c : ∃ (i : Nat) (y : Int), qs[i]? = some y ∧ y = x
  · obtain ⟨i, y, h1, rfl⟩ := c
    exact ⟨i, h1, fnB_at hs h1⟩
  · exact absurd (fnB_no (fun i y h1 h2 => c ⟨i, y, h1, h2⟩)) h
theorem lk_adj {qs : List Int} (hs : qs.Pairwise (· < ·)) {es : List (Bool × Int)} (h : Adj es) (hn : ∀ e ∈ es, e.1 = true → fnB qs e.2 ≠ -1) : Adj (es.map (lkX qs)) := by
  intro j x y hx hy
  rw [List.getElem?_map] at hx hy
  cases hx0 : es[j]? with
  | none => rw [hx0] at hx; cases hx
  | some x0 =>
    cases hy0 : es[j + 1]? with
    | none => rw [hy0] at hy; cases hy
    | some y0 =>
      rw [hx0] at hx
      rw [hy0] at hy
      injection hx with hx
      injection hy with hy
      subst hx hy
      have hne := h j x0 y0 hx0 hy0
      have n1 := hn x0 (List.mem_of_getElem? hx0)
      have n2 := hn y0 (List.mem_of_getElem? hy0)
      obtain ⟨xb, xn⟩ := x0
      obtain ⟨yb, yn⟩ := y0
      unfold lkX
      cases xb <;> cases yb <;> dsimp only at * <;> simp only [if_true, Bool.false_eq_true, if_false]
      · exact hne
      · intro q; injection q with q; cases q
      · intro q; injection q with q; cases q
      · intro q
        injection q with _ q
        obtain ⟨i1, a1, a2⟩ := fn_some hs (n1 rfl)
        obtain ⟨i2, b1, b2⟩ := fn_some hs (n2 rfl)
        rw [a2, b2] at q
        have : i1 = i2 := by omega
        subst this
        rw [a1] at b1
        injection b1 with b1
        exact hne (by rw [b1])
end Go.Proofs.Ytdpmhpmnkollaaa
namespace Go.Proofs.Ytdpmhpmnkollaaa
open Go.RowKit
set_option linter.unusedSimpArgs false
set_option linter.unusedVariables false

theorem toNat_mk (i : Nat) (h : i < 18446744073709551616) : (mkW 0 (i : Int)).toNat = i := by
  have h1 := lI_mk 0 (i : Int) (by omega) (by omega)
  have h2 := hI_mk 0 (i : Int) (by omega) (by omega)
  rw [lIN] at h1
  rw [hIN] at h2
  have := (mkW 0 (i : Int)).isLt
  omega
theorem mem_zip : ∀ {S : List Int} {es : List (Bool × Int)} {r : Rn}, r ∈ S.zipWith rnZ es → ∃ x ∈ S, ∃ e ∈ es, r = rnZ x e
  | [], es, r, h => by simp at h
  | x :: S, [], r, h => by simp at h
  | x :: S, e :: es, r, h => by
    rw [List.zipWith_cons_cons] at h
    rcases List.mem_cons.mp h with rfl | q
    · exact ⟨x, by simp, e, by simp, rfl⟩
    · obtain ⟨y, hy, f, hf, rfl⟩ := mem_zip q
      exact ⟨y, by simp [hy], f, by simp [hf], rfl⟩
theorem adj_zip : ∀ (S : List Int) (es : List (Bool × Int)), S.length = es.length → S.Pairwise (· < ·) → (∀ x ∈ S, 0 ≤ x ∧ x < 1099511627776) → Adj es → adjG (S.zipWith rnZ es) = true
  | [], es, _, _, _, _ => by cases es <;> rfl
  | [x], [], _, _, _, _ => rfl
  | [x], e :: es, _, _, _, _ => rfl
  | x :: y :: S, [], h, _, _, _ => by simp at h
  | x :: y :: S, [e], h, _, _, _ => by simp at h
  | x :: y :: S, e :: g :: es, h, hs, hb, ha => by
    have ih := adj_zip (y :: S) (g :: es) (by simpa using h) (List.pairwise_cons.mp hs).2 (fun z hz => hb z (by simp [hz])) (adj_tail ha)
    have hx := hb x (by simp)
    have hy := hb y (by simp)
    have hxy : x < y := (List.pairwise_cons.mp hs).1 y (by simp)
    obtain ⟨X, rfl⟩ : ∃ X : Nat, x = (X : Int) := ⟨x.toNat, by omega⟩
    obtain ⟨Y, rfl⟩ : ∃ Y : Nat, y = (Y : Int) := ⟨y.toNat, by omega⟩
    have h1 : cmpZ (mkW 0 (X : Int)) (mkW 0 (Y : Int)) < 0 := by
      unfold cmpZ
      rw [toNat_mk X (by omega), toNat_mk Y (by omega), if_pos (by omega)]
      decide
    have h2 : smR (rnZ (X : Int) e) (rnZ (Y : Int) g) = false := by
      have := ha 0 e g rfl rfl
      obtain ⟨eb, en⟩ := e
      obtain ⟨gb, gn⟩ := g
      unfold smR rnZ
      dsimp only
      by_cases c : eb = gb
      · subst c
        have : en ≠ gn := fun q => this (by rw [q])
        simp [this]
      · simp [c]
    show ((decide (cmpZ (mkW 0 (X : Int)) (mkW 0 (Y : Int)) < 0) && !smR (rnZ (X : Int) e) (rnZ (Y : Int) g)) && adjG (List.zipWith rnZ ((Y : Int) :: S) (g :: es))) = true
    rw [ih, h2, decide_eq_true h1]
    rfl
theorem setL_up (m : List (BitVec 32)) (p : Nat) : (setL m p).Pairwise (· < ·) := by
  unfold setL
  rw [List.pairwise_map]
  refine List.Pairwise.imp (fun {a b} h => ?_) (List.Pairwise.filter _ (by first | exact List.pairwise_lt_range' | exact List.pairwise_lt_range' _ _ | exact List.pairwise_lt_range' _))
  exact Int.ofNat_lt.mpr h
theorem setL_two (m : List (BitVec 32)) (T : Nat) (h : isMapB m T = true) : ∀ x ∈ setL m 0, ∃ i : Nat, x = (i : Int) ∧ i < 2 ^ T := by
  intro x hx
  unfold setL at hx
  obtain ⟨i, hi, rfl⟩ := List.mem_map.mp hx
  obtain ⟨h1, h2⟩ := List.mem_filter.mp hi
  have h3 := List.mem_range'_1.mp h1
  refine ⟨i, rfl, ?_⟩
  obtain ⟨c1, c2⟩ := cnt_map m T h
  by_cases c : i < 2 ^ T
  · exact c
  · exfalso
    have a := cnt_mono m (2 ^ T) i (by omega)
    have b := cnt_mono m (i + 1) (32 * m.length) (by omega)
    have e : cnt m (i + 1) = cnt m i + (plc m i).toNat := rfl
    rw [h2] at e
    have e1 : true.toNat = 1 := rfl
    rw [e1] at e
    have := cnt_words m m.length
    omega
theorem plc_first (m : List (BitVec 32)) (T : Nat) (h : isMapB m T = true) : plc m 0 = true ∧ 0 < m.length := by
  unfold isMapB at h
  simp only [Bool.and_eq_true, decide_eq_true_eq] at h
  obtain ⟨h1, h2⟩ := h
  have h3 := mwN_lo T
  unfold topB at h2
  simp only [Bool.and_eq_true] at h2
  refine ⟨?_, by omega⟩
  unfold plc bt
  cases m with
  | nil => simp at h1; omega
  | cons x t => exact h2.1
theorem io_runs (m : List (BitVec 32)) (es : List (Bool × Int)) (T : Nat) (h : isMapB m T = true) (hT : T ≤ 24) (hl : es.length = sumW m m.length) (ha : Adj es) : ioB ⟨(T : Int), runsV m es⟩ = true := by
  obtain ⟨p1, p2⟩ := plc_first m T h
  have hS : (setL m 0).length = es.length := by rw [setL_all, hl]
  have h0 : setL m 0 = 0 :: setL m 1 := by rw [setL_step (by omega), if_pos p1]; rfl
  have h2 := setL_two m T h
  have hp : 2 ^ T ≤ 2 ^ 24 := Nat.pow_le_pow_right (by decide) hT
  cases es with
  | nil => rw [h0] at hS; simp at hS
  | cons e t =>
    have hr : runsV m (e :: t) = rnZ 0 e :: (setL m 1).zipWith rnZ t := by rw [runsV_eq, h0]; rfl
    cases hz : (runsV m (e :: t)).getLast? with
    | none =>
      rw [List.getLast?_eq_none_iff] at hz
      rw [hr] at hz
      cases hz
    | some z =>
      have hzm := List.mem_of_getLast? hz
      have hh : (runsV m (e :: t)).head? = some (rnZ 0 e) := by rw [hr]; rfl
      unfold ioB
      dsimp only
      rw [hh, hz]
      dsimp only
      have g1 : (rnZ 0 e).f = 0#128 := by show mkW 0 0 = 0#128; decide
      have g2 : adjG (runsV m (e :: t)) = true := by
        rw [runsV_eq]
        refine adj_zip _ _ hS (setL_up m 0) (fun x hx => ?_) ha
        obtain ⟨i, rfl, hi⟩ := h2 x hx
        omega
      have g3 : z.f >>> (T : Int).toNat = 0#128 := by
        rw [runsV_eq] at hzm
        obtain ⟨x, hx, f, hf, rfl⟩ := mem_zip hzm
        obtain ⟨i, rfl, hi⟩ := h2 x hx
        show mkW 0 (i : Int) >>> (T : Int).toNat = 0#128
        apply BitVec.eq_of_toNat_eq
        rw [BitVec.toNat_ushiftRight, toNat_mk i (by omega), Nat.shiftRight_eq_div_pow, Int.toNat_natCast, Nat.div_eq_of_lt hi]
        rfl
      rw [g1, g2, g3]
      rfl
theorem runs_zero (i N : Int) : ∀ (l : List Rn), (∀ r ∈ l, runE r i N = 0) → runsE i N l = 0
  | [], _ => rfl
  | r :: t, h => by
    unfold runsE
    rw [if_pos (h r (by simp))]
    exact runs_zero i N t (fun x hx => h x (by simp [hx]))
theorem nds_zero (N : Int) : ∀ (L : List Nde) (i : Nat), (∀ (k : Nat) (d : Nde), L[k]? = some d → ndeE d ((i + k : Nat) : Int) N = 0) → ndsE N i L = 0
  | [], i, _ => rfl
  | d :: t, i, h => by
    unfold ndsE
    rw [if_pos (by simpa using h 0 d rfl)]
    exact nds_zero N t (i + 1) (fun k e hk => by
      have := h (k + 1) e (by simpa using hk)
      rwa [show i + (k + 1) = i + 1 + k by omega] at this)
theorem nde_runs (m : List (BitVec 32)) (es : List (Bool × Int)) (T : Nat) (i N : Int) (h : isMapB m T = true) (hT1 : 1 ≤ T) (hT : T ≤ 24) (hl : es.length = sumW m m.length) (ha : Adj es) (he : ∀ e ∈ es, (e.1 = true → i < e.2 ∧ e.2 < N) ∧ (e.1 = false → 0 ≤ e.2 ∧ e.2 ≤ 65535)) : ndeE ⟨(T : Int), runsV m es⟩ i N = 0 := by
  unfold ndeE
  dsimp only
  have hA : argB (T : Int) N = true := by
    unfold argB bitsB
    have h1 : decide ((0 : Int) ≤ (T : Int)) = true := decide_eq_true (by omega)
    have h2 : decide ((T : Int) ≤ 128) = true := decide_eq_true (by omega)
    have h3 : decide ((T : Int) = 0) = false := decide_eq_false (by omega)
    rw [h1, h2, h3]; rfl
  rw [if_pos hA, if_pos (io_runs m es T h hT hl ha)]
  refine runs_zero i N _ (fun r hr => ?_)
  rw [runsV_eq] at hr
  obtain ⟨x, hx, e, hem, rfl⟩ := mem_zip hr
  obtain ⟨b, n⟩ := e
  have := he _ hem
  unfold runE rnZ
  dsimp only at this ⊢
  cases b
  · rw [if_neg (by simp), if_neg (by have := this.2 rfl; omega)]
  · rw [if_pos rfl, if_neg (by have := this.1 rfl; omega)]
theorem tree_ok {F : Int} {l : List Nat} (hx : ∀ b ∈ l, b < 256) (h : (vfR F l).2.2 = 0) : chkM F (trL l) = ((vfR F l).1, 0) := by
  have h0 := h
  unfold vfR at h
  by_cases c1 : F ≠ 32 ∧ F ≠ 128
  · rw [if_pos c1] at h; exact absurd h (by simp)
  rw [if_neg c1] at h
  have hF : fam F = true := by
    unfold fam
    by_cases q : F = 32
    · simp [q]
    · have : F = 128 := by omega
      simp [this]
  by_cases c2 : l.length = 0 ∨ l.length % 4 ≠ 0
  · rw [if_pos c2] at h; exact absurd h (by simp)
  rw [if_neg c2] at h
  by_cases hn : dcE l 0 = 0 ∧ (dcI l 0).op = 4
  · rw [if_pos hn] at h
    by_cases c3 : 4 < l.length
    · rw [if_pos c3] at h; exact absurd h (by simp)
    have hv : vfR F l = (0, 0, 0) := by unfold vfR; rw [if_neg c1, if_neg c2, if_pos hn, if_neg c3]
    rw [hv]
    unfold trL
    rw [if_pos hn]
    have hr := chk_rng (enc_dec l 0 hx hn.1).1
    rw [hn.2] at hr
    have hr1 : 0 ≤ (dcI l 0).n ∧ (dcI l 0).n ≤ 65535 := ⟨hr.1, hr.2⟩
    generalize (dcI l 0).n = n at *
    unfold chkM
    have e1 : nodesE (oneN n) = 0 := by
      unfold nodesE oneN
      rw [if_neg (by simp)]
      refine nds_zero _ _ 0 (fun k d hk => ?_)
      match k, hk with
      | 0, hk =>
        simp at hk
        subst hk
        unfold ndeE
        rw [if_pos (by rfl), if_pos (by rfl)]
        refine runs_zero _ _ _ (fun r hr => ?_)
        simp at hr
        subst hr
        unfold runE
        dsimp only
        rw [if_neg (by simp), if_neg (by omega)]
      | k + 1, hk => simp at hk
    have e2 : usedB (oneN n) = true := rfl
    have e3 : deepR F (oneN n) = (0, 0) := by
      unfold deepR oneN dpG
      rw [if_neg (by simp; omega)]
      rfl
    rw [if_pos hF, if_pos e1, if_pos e2, e3]
  · rw [if_neg hn] at h
    obtain ⟨o1, o2⟩ := vfP_ok h0 hn
    have hv : vfR F l = vfB F l := by unfold vfR; rw [if_neg c1, if_neg c2, if_neg hn]
    rw [hv]
    unfold vfB at h ⊢
    have hw : (0 : Int) < wds l := by unfold wds; omega
    by_cases c3 : (bsG l (l.length / 4) 0 []).2.2 ≠ 0
    · rw [if_pos c3] at h; exact absurd h c3
    have c4 : (bsG l (l.length / 4) 0 []).2.2 = 0 := by simpa using c3
    rw [if_neg c3] at h ⊢
    by_cases c5 : (lkR ((bsG l (l.length / 4) 0 []).1.map PB.a) (bsG l (l.length / 4) 0 []).1).2 ≠ 0
    · rw [if_pos c5] at h; exact absurd h c5
    rw [if_neg c5] at h ⊢
    by_cases c6 : (usR (vfP l)).2 ≠ 0
    · rw [if_pos c6] at h; exact absurd h c6
    rw [if_neg c6] at h ⊢
    obtain ⟨h1, h2⟩ := bsG_ok l (l.length / 4) 0 [] (by omega) hw (by unfold wds; omega) ⟨by simp, fun b hb => (by simp at hb)⟩ (fun b hb => (by simp at hb)) c4
    have h3 := bsG_all l PbR (blk_r l hx) (l.length / 4) 0 [] (fun b hb => (by simp at hb)) c4
    have h4 := lk_ok h1 (by simpa using c5)
    have hP : vfP l = (bsG l (l.length / 4) 0 []).1.map (lkB ((bsG l (l.length / 4) 0 []).1.map PB.a)) := rfl
    have hn9 : lkA ((bsG l (l.length / 4) 0 []).1.map PB.a) (bsG l (l.length / 4) 0 []).1 = none := by
      unfold lkR at c5
      cases hq : lkA ((bsG l (l.length / 4) 0 []).1.map PB.a) (bsG l (l.length / 4) 0 []).1 with
      | none => rfl
      | some p => rw [hq] at c5; exact absurd (show ((26 : Int) ≠ 0) by decide) c5
    have h5 := lkA_none _ _ hn9
    rw [← hP] at h4
    have hPl : (vfP l).length = (bsG l (l.length / 4) 0 []).1.length := by rw [hP, List.length_map]
    have hlen : ∀ b ∈ vfP l, b.es.length = sumW b.m b.m.length := fun b hb => (o2 b hb).1
    unfold trL
    rw [if_neg hn]
    have e1 : nodesE (ndsL (vfP l)) = 0 := by
      unfold nodesE
      have hln : (ndsL (vfP l)).length = (vfP l).length := by unfold ndsL; rw [List.length_map]
      rw [if_neg (fun q => by rw [q] at hln; simp at hln; omega)]
      refine nds_zero _ _ 0 (fun k d hk => ?_)
      rw [hln, Nat.zero_add]
      unfold ndsL at hk
      rw [List.getElem?_map] at hk
      cases hb : (vfP l)[k]? with
      | none => rw [hb] at hk; cases hk
      | some b =>
        rw [hb] at hk
        injection hk with hk
        subst hk
        have hbm := List.mem_of_getElem? hb
        have ob := o2 b hbm
        have ok := h4 b hbm
        have hb' := hb
        rw [hP, List.getElem?_map] at hb'
        cases hc : (bsG l (l.length / 4) 0 []).1[k]? with
        | none => rw [hc] at hb'; cases hb'
        | some c =>
          rw [hc] at hb'
          injection hb' with hb'
          have hcm := List.mem_of_getElem? hc
          obtain ⟨r1, r2, r3⟩ := h3 c hcm
          have hm : b.m = c.m := by rw [← hb']; rfl
          have ht : b.t = c.t := by rw [← hb']; rfl
          have hes : b.es = c.es.map (lkX ((bsG l (l.length / 4) 0 []).1.map PB.a)) := by rw [← hb']; rfl
          obtain ⟨T, hT⟩ : ∃ T : Nat, b.t = (T : Int) := ⟨b.t.toNat, by omega⟩
          show ndeE ⟨b.t, runsV b.m b.es⟩ _ _ = 0
          rw [hT]
          refine nde_runs b.m b.es T _ _ (by rw [hm]; rw [← ht, hT, Int.toNat_natCast] at r1; exact r1) (by omega) (by omega) ob.1 (by rw [hes]; exact lk_adj h1.s r2 (h5 c hcm)) (fun e he => ?_)
          have he0 := he
          rw [hes] at he
          obtain ⟨x, hxm, rfl⟩ := List.mem_map.mp he
          have hx3 := r3 x hxm
          obtain ⟨xb, xn⟩ := x
          cases xb
          · have : lkX ((bsG l (l.length / 4) 0 []).1.map PB.a) (false, xn) = (false, xn) := rfl
            rw [this]
            exact ⟨fun q => (by cases q), fun _ => hx3.2 rfl⟩
          · have e9 : lkX ((bsG l (l.length / 4) 0 []).1.map PB.a) (true, xn) = (true, fnB ((bsG l (l.length / 4) 0 []).1.map PB.a) xn) := rfl
            have hin := ok.2.2 _ he0 (by rw [e9])
            rw [e9] at hin ⊢
            refine ⟨fun _ => ⟨?_, hin.2⟩, fun q => (by cases q)⟩
            obtain ⟨i, i1, i2⟩ := fn_some h1.s (h5 c hcm _ hxm rfl)
            have hlt : c.a < xn := hx3.1 rfl
            show (k : Int) < fnB ((bsG l (l.length / 4) 0 []).1.map PB.a) xn
            dsimp only at i2
            rw [i2]
            have hk9 : ((bsG l (l.length / 4) 0 []).1.map PB.a)[k]? = some c.a := by rw [List.getElem?_map, hc]; rfl
            obtain ⟨k1, k2⟩ := List.getElem?_eq_some_iff.mp hk9
            obtain ⟨j1, j2⟩ := List.getElem?_eq_some_iff.mp i1
            dsimp only at j2
            by_cases q : i < k
            · have := List.pairwise_iff_getElem.mp h1.s i k j1 k1 q
              omega
            · by_cases q2 : i = k
              · subst q2
                omega
              · omega
    have e2 : usedB (ndsL (vfP l)) = true := used_ok (vfP l) (by omega) hlen (fun b hb e he q => (h4 b hb).2.2 e he q) (by simpa using c6)
    have e3 := deep_ms F (vfP l) (fun b hb => ⟨(h4 b hb).1.1, hlen b hb⟩) h
    unfold chkM
    rw [if_pos hF, if_pos e1, if_pos e2, e3]
end Go.Proofs.Ytdpmhpmnkollaaa
namespace Go.Proofs.Ytdpmhpmnkollaaa
open Go.RowKit
set_option linter.unusedSimpArgs false
set_option linter.unusedVariables false

theorem one_bit (k j : Nat) (hk : k < 32) (hj : j < 32) : (1#32 <<< k).getLsbD j = decide (j = k) := by
  rw [BitVec.getLsbD_shiftLeft]
  by_cases c : j = k
  · subst c
    simp [hj]
  · by_cases d : j < k
    · simp [d, c]
    · have h1 : (1#32).getLsbD (j - k) = false := by
        rw [BitVec.getLsbD_one]
        have : ¬ j - k = 0 := by omega
        simp [this]
      rw [h1]
      simp [c]
theorem plc_stM (m : List (BitVec 32)) (s i : Nat) (hs : s < 32 * m.length) : plc (stM16 m s) i = (plc m i || decide (i = s)) := by
  have hsl : s / 32 < m.length := by omega
  unfold plc stM16
  by_cases c : i / 32 = s / 32
  · have hg : (m.set (s / 32) (m.getD (s / 32) 0#32 ||| (1#32 <<< (31 - s % 32)))).getD (i / 32) 0#32 = m.getD (s / 32) 0#32 ||| (1#32 <<< (31 - s % 32)) := by
      rw [List.getD_eq_getElem?_getD, List.getElem?_set, if_pos c.symm, if_pos hsl]; rfl
    rw [hg, c]
    unfold bt
    rw [BitVec.getLsbD_or, one_bit _ _ (by omega) (by omega)]
    congr 1
    by_cases d : i = s
    · subst d; simp
    · have : ¬ (31 - i % 32 = 31 - s % 32) := by omega
      simp [d, this]
  · have hg : (m.set (s / 32) (m.getD (s / 32) 0#32 ||| (1#32 <<< (31 - s % 32)))).getD (i / 32) 0#32 = m.getD (i / 32) 0#32 := by
      rw [List.getD_eq_getElem?_getD, List.getElem?_set, if_neg (fun q => c q.symm), ← List.getD_eq_getElem?_getD]
    rw [hg]
    have : ¬ i = s := fun q => c (by rw [q])
    simp [this]
theorem plc_fold : ∀ (l : List Rn) (m : List (BitVec 32)) (i : Nat), (∀ r ∈ l, r.f.toNat < 32 * m.length) → plc (l.foldl (fun m r => stM16 m r.f.toNat) m) i = (plc m i || l.any fun r => decide (i = r.f.toNat))
  | [], m, i, _ => by simp
  | r :: t, m, i, h => by
    rw [List.foldl_cons, plc_fold t _ i (fun q hq => by rw [stM_len]; exact h q (by simp [hq])), plc_stM _ _ _ (h r (by simp)), List.any_cons, Bool.or_assoc]
theorem map_len : ∀ (l : List Rn) (m : List (BitVec 32)), (l.foldl (fun m r => stM16 m r.f.toNat) m).length = m.length
  | [], m => rfl
  | r :: t, m => by rw [List.foldl_cons, map_len t, stM_len]
theorem plc_map18 (n : Nat) (l : List Rn) (i : Nat) (h : ∀ r ∈ l, r.f.toNat < 32 * mwN n) : plc (mapL n l) i = l.any fun r => decide (i = r.f.toNat) := by
  unfold mapL
  rw [plc_fold l _ i (by rw [List.length_replicate]; exact h)]
  have : plc (List.replicate (mwN n) 0#32) i = false := by
    unfold plc bt
    rw [List.getD_eq_getElem?_getD, List.getElem?_replicate]
    split <;> simp
  rw [this, Bool.false_or]
theorem rise_ext : ∀ (A B : List Int), A.Pairwise (· < ·) → B.Pairwise (· < ·) → (∀ x, x ∈ A ↔ x ∈ B) → A = B
  | [], [], _, _, _ => rfl
  | [], b :: B, _, _, h => by have := (h b).mpr (by simp); cases this
  | a :: A, [], _, _, h => by have := (h a).mp (by simp); cases this
  | a :: A, b :: B, hA, hB, h => by
    obtain ⟨a1, a2⟩ := List.pairwise_cons.mp hA
    obtain ⟨b1, b2⟩ := List.pairwise_cons.mp hB
    have hab : a = b := by
      have h1 := (h a).mp (by simp)
      have h2 := (h b).mpr (by simp)
      rcases List.mem_cons.mp h1 with q | q
      · exact q
      · rcases List.mem_cons.mp h2 with r | r
        · exact r.symm
        · have := b1 a q
          have := a1 b r
          omega
    subst hab
    rw [rise_ext A B a2 b2 (fun x => ⟨fun hx => by
      rcases List.mem_cons.mp ((h x).mp (by simp [hx])) with q | q
      · have := a1 x hx; omega
      · exact q, fun hx => by
      rcases List.mem_cons.mp ((h x).mpr (by simp [hx])) with q | q
      · have := b1 x hx; omega
      · exact q⟩)]
theorem mem_setL (m : List (BitVec 32)) (x : Int) : x ∈ setL m 0 ↔ ∃ i : Nat, x = (i : Int) ∧ i < 32 * m.length ∧ plc m i = true := by
  unfold setL
  constructor
  · intro h
    obtain ⟨i, hi, rfl⟩ := List.mem_map.mp h
    obtain ⟨h1, h2⟩ := List.mem_filter.mp hi
    have := List.mem_range'_1.mp h1
    exact ⟨i, rfl, by omega, h2⟩
  · rintro ⟨i, rfl, h1, h2⟩
    exact List.mem_map.mpr ⟨i, List.mem_filter.mpr ⟨List.mem_range'_1.mpr ⟨by omega, by omega⟩, h2⟩, rfl⟩
theorem setL_map (n : Nat) (l : List Rn) (h : ∀ r ∈ l, r.f.toNat < 32 * mwN n) (hs : (l.map fun r => (r.f.toNat : Int)).Pairwise (· < ·)) : setL (mapL n l) 0 = l.map fun r => (r.f.toNat : Int) := by
  have hml : (mapL n l).length = mwN n := by unfold mapL; rw [map_len, List.length_replicate]
  refine rise_ext _ _ (setL_up _ 0) hs (fun x => ?_)
  rw [mem_setL, hml]
  constructor
  · rintro ⟨i, rfl, h1, h2⟩
    rw [plc_map18 n l i h] at h2
    obtain ⟨r, hr, hd⟩ := List.any_eq_true.mp h2
    have hd := of_decide_eq_true hd
    exact List.mem_map.mpr ⟨r, hr, by rw [hd]⟩
  · intro hx
    obtain ⟨r, hr, rfl⟩ := List.mem_map.mp hx
    refine ⟨r.f.toNat, rfl, h r hr, ?_⟩
    rw [plc_map18 n l _ h]
    exact List.any_eq_true.mpr ⟨r, hr, by simp⟩
theorem sum_map (n : Nat) (l : List Rn) (h : ∀ r ∈ l, r.f.toNat < 32 * mwN n) (hs : (l.map fun r => (r.f.toNat : Int)).Pairwise (· < ·)) : sumW (mapL n l) (mapL n l).length = l.length := by
  rw [← setL_all, setL_map n l h hs, List.length_map]
theorem zip_map : ∀ (l : List Rn) (g : Rn → Bool × Int), (∀ r ∈ l, r.f.toNat < 18446744073709551616) → (l.map fun r => (r.f.toNat : Int)).zipWith rnZ (l.map g) = l.map fun r => ⟨r.f, (g r).1, (g r).2⟩
  | [], g, _ => rfl
  | r :: t, g, h => by
    rw [List.map_cons, List.map_cons, List.zipWith_cons_cons, zip_map t g (fun q hq => h q (by simp [hq])), List.map_cons]
    congr 1
    unfold rnZ
    congr 1
    exact BitVec.eq_of_toNat_eq (toNat_mk _ (h r (by simp)))
theorem runs_map (n : Nat) (l : List Rn) (g : Rn → Bool × Int) (h : ∀ r ∈ l, r.f.toNat < 32 * mwN n) (hn : n ≤ 24) (hs : (l.map fun r => (r.f.toNat : Int)).Pairwise (· < ·)) : runsV (mapL n l) (l.map g) = l.map fun r => ⟨r.f, (g r).1, (g r).2⟩ := by
  rw [runsV_eq, setL_map n l h hs]
  refine zip_map l g (fun r hr => ?_)
  have h1 := h r hr
  have h2 : mwN n ≤ 524288 := by
    unfold mwN
    split
    · omega
    · have : 2 ^ (n - 5) ≤ 2 ^ 19 := Nat.pow_le_pow_right (by decide) (by omega)
      omega
  omega
end Go.Proofs.Ytdpmhpmnkollaaa
