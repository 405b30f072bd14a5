/-
  Part 14 of the proof: 3 texts, one behind the other.
-/
import Derived.Test.YtdpmhpmnkollaaaPart13
import Derived.Test.YtdpmhpmnkollaaaPart2
namespace Go.Proofs.Ytdpmhpmnkollaaa
open Go.RowKit Go.Shelf
set_option linter.unusedSimpArgs false
set_option linter.unusedVariables false
attribute [local go_sem] Oper.semAt_some

theorem canBeLaid_any (b : Int) (ao : Option Addr) (n c : Nat) (w : World) :
    Calls Try.prog 36 #[.agg #[.int .i64 b, .slice ao n c]] w fun e w' => e = .returned (.bool (decide (b ≤ 24))) ∧ Below w.heap.size w w' := by
  go_enter Try.func36, Try.ntmps36
  go_wp2
  go_ret
  exact ⟨rfl, bl1 _ _⟩
theorem emapWords_any (n : Nat) (h : n ≤ 24) (w : World) :
    Calls Try.prog 54 #[.int .i64 (n : Int)] w fun e w' => e = .returned (.int .i64 (mwN n : Int)) ∧ w' = w := by
  have hs := sh64 n h
  obtain ⟨P, hP⟩ : ∃ P : Nat, P = 2 ^ n := ⟨_, rfl⟩
  have hm : mwN n = max 1 (P / 32) := by rw [hP]; exact mwN_max n h
  rw [← hP] at hs
  rw [hm]
  have hPl : P ≤ 16777216 := by rw [hP]; exact Nat.pow_le_pow_right (n := 2) (by decide) h
  clear hP hm h
  by_cases c : P < 32
  · have e : Hid (max 1 (P / 32) = 1) := by show _ = _; omega
    have c1 : (P : Int) / 32 ≤ 1 := by omega
    rw [e.out]
    go_enter Try.func54, Try.ntmps54
    go_wp2
    go_ret
    exact ⟨rfl, rfl⟩
  · obtain ⟨q, hq⟩ : ∃ q, q = P / 32 := ⟨_, rfl⟩
    have e : Hid (max 1 (P / 32) = q) := by show _ = _; omega
    have e1 : (P : Int) / 32 = (q : Int) := by omega
    have c1 : (1 : Int) ≤ q := by omega
    have c2 : ((1 : Int) < (q : Int)) ∨ q = 1 := by omega
    have wq : wrap64 (q : Int) = (q : Int) := by unfold wrap64; omega
    rw [e.out]
    clear e hq c c2
    go_enter Try.func54, Try.ntmps54
    go_wp2
    · go_ret
      exact ⟨rfl, rfl⟩
    · go_ret
      obtain rfl : q = 1 := by omega
      exact ⟨rfl, rfl⟩
def szN (d : Nde) : Nat := if d.b = 0 then 1 else 2 + mwN d.b.toNat + d.r.length
set_option maxRecDepth 20000 in
set_option maxHeartbeats 4000000 in
theorem size_any16 (b : Int) (v : Value) (l : List Rn) (w : World) (hv : RwN w v l) (h0 : 0 ≤ b) (h1 : b ≤ 24) (hl : l.length ≤ 1000000000) :
    Calls Try.prog 37 #[.agg #[.int .i64 b, v]] w fun e w' => e = .returned (.int .i64 (szN ⟨b, l⟩ : Int)) ∧ Below w.heap.size w w' := by
  obtain ⟨ao, c, rfl, -⟩ := hv
  by_cases hz : b = 0
  · subst hz
    go_enter Try.func37, Try.ntmps37
    go_wp2
    go_ret
    exact ⟨rfl, bl1 _ _⟩
  · obtain ⟨nb, rfl⟩ : ∃ nb : Nat, b = (nb : Int) := ⟨b.toNat, by omega⟩
    have HE : Hid (((szN ⟨(nb : Int), l⟩ : Nat) : Int) = 2 + (mwN nb : Int) + (l.length : Int)) := by
      show _ = _
      unfold szN
      dsimp only
      rw [if_neg hz, Int.toNat_natCast]
      push_cast
      omega
    have KM := fun w => emapWords_any nb (by omega) w
    have hm0 : (mwN nb : Int) ≤ 524288 := by have := mwN_hi nb (by omega); omega
    have hm1 : (0 : Int) ≤ (mwN nb : Int) := by omega
    have e3 : ((nb : Int) == 0) = false := by rw [beq_eq_false_iff_ne]; exact hz
    have w1 : IntKind.i64.wrap (2 + (mwN nb : Int)) = 2 + (mwN nb : Int) := by rw [IntKind.wrap_i64]; omega
    have w2 : IntKind.i64.wrap (2 + (mwN nb : Int) + (l.length : Int)) = 2 + (mwN nb : Int) + (l.length : Int) := by rw [IntKind.wrap_i64]; omega
    have HC : Hid (AtD (w.alloc (.cells #[.int .i64 (nb : Int), .slice ao l.length c] 53)).drew w.heap.size (nb : Int) (.slice ao l.length c) ∧ Below w.heap.size w (w.alloc (.cells #[.int .i64 (nb : Int), .slice ao l.length c] 53)).drew) := hid13 ⟨atd_new w _ _ _, (bl1 w _).drew⟩
    rw [HE.out]
    clear h0 h1 hz hm0 hm1
    go_enter Try.func37, Try.ntmps37
    go_wp2_with fail
    refine qw_region (C := fun X => AtD X w.heap.size (nb : Int) (.slice ao l.length c) ∧ Below w.heap.size w X) (by kernel_rfl) (by kernel_rfl) HC.out ?_
    refine qw_run (v := .pointer (some ⟨w.heap.size, 0, none⟩)) (by rfl) ?_ ?_
    · (intro w9 hC; clear hC; go_simp; first | done | (simp; done) | (simp [*]; done) | omega | (simp; omega) | (rw [IntKind.wrap_i64]; omega) | (intro hx; omega) | rfl)
    simp only [Act.put, List.setIfInBounds_toArray, List.set_cons_zero, List.set_cons_succ]
    refine qw_run (v := .int .i64 (nb : Int)) (by rfl) ?_ ?_
    · (intro w9 hC; obtain ⟨⟨a0, a1⟩, -⟩ := id hC; clear hC; go_simp; first | done | (simp; done) | (simp [*]; done) | omega | (simp; omega) | (rw [IntKind.wrap_i64]; omega) | (intro hx; omega) | rfl)
    simp only [Act.put, List.setIfInBounds_toArray, List.set_cons_zero, List.set_cons_succ]
    refine qw_call (v := .int .i64 (mwN nb : Int)) (f := 54) (args := #[.int .i64 (nb : Int)]) (by rfl) ?_ ?_ ?_
    · (intro w9 hC; clear hC; go_simp; first | done | (simp; done) | rfl)
    · exact fun w9 hC => (KM w9).mono fun e w' h => ⟨h.1, by rw [h.2]; exact hC⟩
    simp only [Act.put, List.setIfInBounds_toArray, List.set_cons_zero, List.set_cons_succ]
    refine qw_run (v := .int .i64 (2 + (mwN nb : Int))) (by rfl) ?_ ?_
    · (intro w9 hC; clear hC; go_simp; first | done | (simp; done) | (simp [*]; done) | omega | (simp; omega) | (rw [IntKind.wrap_i64]; omega) | (intro hx; omega) | rfl)
    simp only [Act.put, List.setIfInBounds_toArray, List.set_cons_zero, List.set_cons_succ]
    refine qw_run (v := .pointer (some ⟨w.heap.size, 1, none⟩)) (by rfl) ?_ ?_
    · (intro w9 hC; clear hC; go_simp; first | done | (simp; done) | (simp [*]; done) | omega | (simp; omega) | (rw [IntKind.wrap_i64]; omega) | (intro hx; omega) | rfl)
    simp only [Act.put, List.setIfInBounds_toArray, List.set_cons_zero, List.set_cons_succ]
    refine qw_run (v := .slice ao l.length c) (by rfl) ?_ ?_
    · (intro w9 hC; obtain ⟨⟨a0, a1⟩, -⟩ := id hC; clear hC; go_simp; first | done | (simp; done) | (simp [*]; done) | omega | (simp; omega) | (rw [IntKind.wrap_i64]; omega) | (intro hx; omega) | rfl)
    simp only [Act.put, List.setIfInBounds_toArray, List.set_cons_zero, List.set_cons_succ]
    refine qw_run (v := .int .i64 (l.length : Int)) (by rfl) ?_ ?_
    · (intro w9 hC; clear hC; go_simp; first | done | (simp; done) | (simp [*]; done) | omega | (simp; omega) | (rw [IntKind.wrap_i64]; omega) | (intro hx; omega) | rfl)
    simp only [Act.put, List.setIfInBounds_toArray, List.set_cons_zero, List.set_cons_succ]
    refine qw_run (v := .int .i64 (2 + (mwN nb : Int) + (l.length : Int))) (by rfl) ?_ ?_
    · (intro w9 hC; clear hC; go_simp; first | done | (simp; done) | (simp [*]; done) | omega | (simp; omega) | (rw [IntKind.wrap_i64]; omega) | (intro hx; omega) | rfl)
    simp only [Act.put, List.setIfInBounds_toArray, List.set_cons_zero, List.set_cons_succ]
    refine qw_run (v := .int .i64 (2 + (mwN nb : Int) + (l.length : Int))) (by rfl) ?_ ?_
    · (intro w9 hC; clear hC; go_simp; first | done | (simp; done) | (simp [*]; done) | omega | (simp; omega) | (rw [IntKind.wrap_i64]; omega) | (intro hx; omega) | rfl)
    simp only [Act.put, List.setIfInBounds_toArray, List.set_cons_zero, List.set_cons_succ]
    refine qw_nil ?_
    intro W3 hW3
    have HB3 := hid13 hW3.2
    clear hW3 w1 w2 KM HC
    go_wp2
    go_ret
    exact ⟨rfl, HB3.out⟩
end Go.Proofs.Ytdpmhpmnkollaaa
namespace Go.Proofs.Ytdpmhpmnkollaaa
open Go.RowKit Go.Shelf
set_option linter.unusedSimpArgs false
set_option linter.unusedVariables false
attribute [local go_sem] Oper.semAt_some

def plG (L : List Nde) : List Int → List Int → Nat → Option (List Int × Nat)
  | [], P, n => some (P, n)
  | k :: o, P, n => if (L.getD k.toNat ⟨0, []⟩).b ≤ 24 then plG L o (P.set k.toNat (n : Int)) (n + szN (L.getD k.toNat ⟨0, []⟩)) else none
theorem pl_drop (L : List Nde) (o : List Int) (i k : Nat) (d : Nde) (ho : o[i]? = some (k : Int)) (hd : L[k]? = some d) (P : List Int) (n : Nat) : plG L (o.drop i) P n = if d.b ≤ 24 then plG L (o.drop (i + 1)) (P.set k (n : Int)) (n + szN d) else none := by
  obtain ⟨hi, he⟩ := List.getElem?_eq_some_iff.mp ho
  rw [List.drop_eq_getElem_cons hi, he]
  show (if (L.getD (k : Int).toNat ⟨0, []⟩).b ≤ 24 then _ else _) = _
  rw [Int.toNat_natCast, List.getD_eq_getElem?_getD, hd]; rfl
theorem dfs_in {L : List Nde} (ok : NdsOk L) : ∀ (f n : Nat) (s : DfS), n < L.length → (∀ x ∈ s.2, 0 ≤ x ∧ x < (L.length : Int)) → L.length ≤ n + f → ∀ x ∈ (dfs L f n s).2, 0 ≤ x ∧ x < (L.length : Int)
  | 0, n, s, hn, _, hf => by omega
  | f + 1, n, s, hn, h, hf => by
    obtain ⟨d, hd⟩ : ∃ d, L[n]? = some d := ⟨L[n], by simp [hn]⟩
    rw [dfs_succ L f n s d hd]
    have key := stps_keep (P := fun s => ∀ x ∈ s.2, 0 ≤ x ∧ x < (L.length : Int)) (go := dfs L f) d.r.reverse (s.1.set n true, s.2) h (fun r hr m s' hk hm hf' hs' => by
      obtain ⟨a1, a2, -⟩ := ok.lead hd (List.mem_reverse.mp hr) hk
      exact dfs_in ok f m s' (by omega) hs' (by omega))
    intro x hx
    rcases List.mem_append.mp hx with q | q
    · exact key x q
    · simp at q; subst q; omega
theorem ord_in {L : List Nde} (ok : NdsOk L) : ∀ x ∈ ordL L, 0 ≤ x ∧ x < (L.length : Int) := fun x hx => by
  unfold ordL at hx
  exact dfs_in ok L.length 0 _ ok.1 (fun y hy => by cases hy) (by omega) x (List.mem_reverse.mp hx)
theorem ord_len {L : List Nde} (ok : NdsOk L) : (ordL L).length ≤ L.length := by
  have h0 := ok.1
  have := dfs_cnt ok L.length 0 (List.replicate L.length false, []) 0 h0 (by rw [List.getD_eq_getElem?_getD, List.getElem?_replicate_of_lt h0]; rfl) ⟨by simp, by simp [List.count_replicate]⟩ (by omega)
  unfold ordL
  rw [List.length_reverse]
  have h1 := this.2
  have h2 := this.1
  have h3 : (dfs L L.length 0 (List.replicate L.length false, [])).1.count true ≤ _ := List.count_le_length
  omega
theorem sz_le {d : Nde} (h1 : d.b ≤ 24) (h2 : d.r.length ≤ 1000000000) : szN d ≤ 1000524290 := by
  unfold szN
  split
  · omega
  · have := mwN_hi d.b.toNat (by omega)
    omega
structure LyV (w : World) (vo : Value) (Bx Gp N : Nat) (o P : List Int) (n : Nat) (W : World) : Prop where
  rs : W.heap[w.heap.size]? = some (.cells #[.slice none 0 0, .slice none 0 0, .int .i64 0] 58)
  x : W.heap[Bx]? = some (.cells #[vo, .slice (some ⟨Gp, 0, none⟩) N N, .int .i64 (n : Int)] 58)
  g : W.heap[Gp]? = some (.cells (P.map cI).toArray 3)
  o : W.ownsRow w.heap.size 3 1 vo o.length (o.map cI)
  b : Below w.heap.size w W
  l : P.length = N
  nb : w.heap.size < Gp ∧ Gp < Bx ∧ ∀ z, vo.ownBlock = some z → z < Gp ∧ w.heap.size < z
section
variable {w W W' : World} {vo : Value} {Bx Gp N n : Nat} {o P : List Int}
theorem LyV.below (h : LyV w vo Bx Gp N o P n W) (hb : Below W.heap.size W W') : LyV w vo Bx Gp N o P n W' := ⟨(hb.block _ (lt_16 h.rs)).trans h.rs, (hb.block _ (lt_16 h.x)).trans h.x, (hb.block _ (lt_16 h.g)).trans h.g, own_b13 hb h.o, keepb hb h.b, h.l, h.nb⟩
theorem LyV.put (h : LyV w vo Bx Gp N o P n W) (k : Nat) (m : Int) : LyV w vo Bx Gp N o (P.set k m) n (W.setCell ⟨Gp, k, none⟩ (.int .i64 m)) := by
  have hn := h.nb
  refine ⟨(far_16 (by omega)).trans h.rs, (far_16 (by omega)).trans h.x, ?_, own_far16 h.o _ (fun e => by have := (hn.2.2 _ e).1; omega), h.b.setCell (p := ⟨Gp, k, none⟩) (by show w.heap.size ≤ Gp; omega) _, by simp [h.l], hn⟩
  rw [set_16 h.g, List.setIfInBounds_toArray, List.map_set]; rfl
theorem LyV.cnt (h : LyV w vo Bx Gp N o P n W) (m : Nat) : LyV w vo Bx Gp N o P m (W.setCell ⟨Bx, 2, none⟩ (.int .i64 (m : Int))) := by
  have hn := h.nb
  refine ⟨(far_16 (by omega)).trans h.rs, ?_, (far_16 (by omega)).trans h.g, own_far16 h.o _ (fun e => by have := (hn.2.2 _ e).1; omega), h.b.setCell (p := ⟨Bx, 2, none⟩) (by show w.heap.size ≤ Bx; omega) _, h.l, hn⟩
  rw [set_16 h.x]; simp
end
def layR (F : Int) (L : List Nde) : (List Int × List Int × Nat) × Int :=
  if (chkM F L).2 = 0 then (match plG L (ordL L) (List.replicate L.length 0) 0 with | some (P, n) => ((ordL L, P, n), 0) | none => (([], [], 0), 18)) else (([], [], 0), (chkM F L).2)
set_option maxRecDepth 100000 in
set_option maxHeartbeats 16000000 in
theorem layoutOf_any (F : Int) (v : Value) (L : List Nde) (w : World) (hv : RwD w v L) (hl : L.length ≤ 1000000000) (hr : ∀ d ∈ L, d.r.length ≤ 1000000000) :
    Calls Try.prog 22 #[.int .i64 F, v] w fun e w' => ∃ vo vp, e = .returned (.tuple #[.agg #[vo, vp, .int .i64 ((layR F L).1.2.2 : Int)], .int .i64 (layR F L).2]) ∧ w'.ownsRow w.heap.size 3 1 vo (layR F L).1.1.length ((layR F L).1.1.map cI) ∧ w'.ownsRow w.heap.size 3 1 vp (layR F L).1.2.1.length ((layR F L).1.2.1.map cI) ∧ Below w.heap.size w w' := by
  obtain ⟨j0, hj, hj0, hj1, hj2⟩ := info13 Try.infoN16
  have q1 := bl1 w (.cells #[.slice none 0 0, .slice none 0 0, .int .i64 0] 58)
  have n1 := new_16 w (.cells #[.slice none 0 0, .slice none 0 0, .int .i64 0] 58)
  have KO := order_any F v L (w.alloc (.cells #[.slice none 0 0, .slice none 0 0, .int .i64 0] 58)) (hv.below q1) hl hr
  have HV := hid13 hv
  have HB := hid13 q1
  have HN1 := hid13 n1
  have HOk := hid13 (fun h => (chk_ok (F := F) (L := L) h).1)
  have HLr : Hid (L.length ≤ 1000000000 ∧ ∀ d ∈ L, d.r.length ≤ 1000000000) := ⟨hl, hr⟩
  have HLy : Hid (∀ e, (chkM F L).2 = e → layR F L = if e = 0 then (match plG L (ordL L) (List.replicate L.length 0) 0 with | some (P, n) => ((ordL L, P, n), 0) | none => (([], [], 0), 18)) else (([], [], 0), e)) := hid13 (fun e h => by unfold layR; rw [h])
  have HOr : Hid (∀ e, (chkM F L).2 = e → ordR F L = if e = 0 then ordL L else []) := hid13 (fun e h => by unfold ordR; rw [h])
  obtain ⟨R, hR⟩ : ∃ R, R = layR F L := ⟨_, rfl⟩
  rw [← hR] at HLy ⊢
  clear hR
  generalize (chkM F L).2 = ce at *
  generalize hOR : ordR F L = orr at *
  clear hv hr q1 n1 hOR
  go_enter Try.func22, Try.ntmps22
  go_wp2_with fail
  refine KO.mono ?_
  rintro e w2 ⟨vo, rfl, ho, hb2⟩
  have HB2 := hid13 (keepb hb2 HB.out)
  have HR2 := hid13 ((hb2.block _ (lt_16 HN1.out)).trans HN1.out)
  have HO2 := hid13 ho
  clear KO ho hb2 HB
  by_cases h0 : ce = 0
  · have ok := HOk.out h0
    have eO := HOr.out 0 h0
    rw [if_pos rfl] at eO
    have HRR := hid13 (HLy.out 0 h0)
    rw [eO] at HO2
    have HoL : Hid ((ordL L).length ≤ L.length ∧ ∀ x ∈ ordL L, 0 ≤ x ∧ x < (L.length : Int)) := ⟨ord_len ok, ord_in ok⟩
    have Hok := hid13 ok
    generalize ordL L = o at *
    subst h0
    obtain ⟨ao, c, hvf, -, hrow⟩ := id HV.out
    obtain ⟨b, off, hao, hcell⟩ : ∃ b off, ao = some ⟨b, off, none⟩ ∧ ∀ j d, L[j]? = some d → ∃ vr, w.cell? ⟨b, off + j * 2, none⟩ = some (.int .i64 d.b) ∧ w.cell? ⟨b, off + j * 2 + 1, none⟩ = some vr ∧ RwN w vr d.r := by
      rcases hrow with h | h
      · have := ok.1; rw [h] at this; simp at this
      · exact h
    subst hao
    subst hvf
    have HC := hid13 hcell
    obtain ⟨oa, oc, hvo⟩ := own_form HO2.out
    subst hvo
    clear HOk HOr HLy eO ok hcell hrow
    go_wp2_with (at_make; apply stopHere9)
    refine (show wpList _ _ _ _ _ _ from ?_)
    refine wpList_make16 _ rfl _ _ 37 rfl 3 j0 (.int .i64 0) Try.underlying37 hj hj0 .i64 .i64 _ _ L.length L.length rfl rfl rfl rfl (Nat.le_refl _) (by rw [hj2]; omega) (by unfold maxLen; omega) ?_
    have eO : madeCells (Value.int IntKind.i64 0).cells (L.length * j0.size) = ((List.replicate L.length (0 : Int)).map cI).toArray := by rw [hj1, Nat.mul_one, List.map_replicate]; exact made_one16 _ _
    rw [eO]
    clear eO
    obtain ⟨O1, hO1⟩ : ∃ O : Obj, O = .cells ((List.replicate L.length (0 : Int)).map cI).toArray 3 := ⟨_, rfl⟩
    rw [← hO1]
    have Y0 : LyV w (.slice oa o.length oc) (w2.heap.size + 1) w2.heap.size L.length o (List.replicate L.length 0) 0 ((w2.alloc O1).alloc (.cells #[.slice oa o.length oc, .slice (some ⟨w2.heap.size, 0, none⟩) L.length L.length, .int .i64 0] 58)) := by
      have e1 : (w2.alloc O1).heap.size = w2.heap.size + 1 := by simp
      refine ⟨old_16 _ (old_16 _ HR2.out), ?_, old_16 _ (by rw [← hO1]; exact new_16 _ _), ?_, ?_, by simp, lt_16 HR2.out, by omega, ?_⟩
      · have := new_16 (w2.alloc O1) (.cells #[.slice oa o.length oc, .slice (some ⟨w2.heap.size, 0, none⟩) L.length L.length, .int .i64 0] 58)
        rwa [e1] at this
      · have := own_base16 (base' := w.heap.size) HO2.out (by simp)
        exact own_b13 (bl2 w2 _ _) this
      · exact keepb (bl2 w2 _ _) HB2.out
      · intro z hz
        have := HO2.out.lt z hz
        simp at this
        omega
    have HY0 := hid13 Y0
    clear Y0 hO1 HR2 HO2 HN1
    go_wp2_with fail
    revert HY0
    generalize (w2.alloc O1).alloc (.cells #[.slice oa o.length oc, .slice (some ⟨w2.heap.size, 0, none⟩) L.length L.length, .int .i64 0] 58) = W0
    generalize w2.heap.size + 1 = Bx
    generalize w2.heap.size = Gp
    intro HY0
    go_loopw [28] (fun x28 wr => ∃ (i : Nat) (P : List Int) (n : Nat), x28 = .int .i64 (i : Int) ∧ Hid (i ≤ o.length ∧ LyV w (.slice oa o.length oc) Bx Gp L.length o P n wr ∧ n ≤ i * 1000524290 ∧ plG L (o.drop i) P n = plG L o (List.replicate L.length 0) 0)) (fun x28 wr => o.length - (intOf x28).toNat)
    case atStart => exact ⟨0, _, 0, rfl, hid13 ⟨Nat.zero_le _, HY0.out, by omega, rfl⟩⟩
    case round =>
      clear HY0
      obtain ⟨i, P, n, rfl, HS⟩ := hrel
      by_cases hlt : i < o.length
      · have hli : (i : Int) < (o.length : Int) := by omega
        obtain ⟨x, hx⟩ : ∃ x, o[i]? = some x := ⟨o[i], by simp [hlt]⟩
        obtain ⟨hx0, hx1⟩ := HoL.out.2 x (List.mem_of_getElem? hx)
        obtain ⟨k, rfl⟩ : ∃ k : Nat, x = (k : Int) := ⟨x.toNat, by omega⟩
        have hkL : k < L.length := by omega
        obtain ⟨d, hd⟩ : ∃ d, L[k]? = some d := ⟨L[k], by simp [hkL]⟩
        have HT := hid13 (pl_drop L o i k d hx hd P n)
        have hdr : d.r.length ≤ 1000000000 := HLr.out.2 d (List.mem_of_getElem? hd)
        have hdb : 0 ≤ d.b := (Hok.out.2 k d hd).b0
        obtain ⟨vr, x0, x1, hR⟩ := HC.out k d hd
        obtain ⟨vo2, vc, hvr, -, -⟩ := id hR
        have HR := hid13 hR
        have X0 := hid13 x0
        have X1 := hid13 x1
        rw [hvr] at HR X1
        obtain ⟨g0, ho0⟩ : ∃ g0, oa = some ⟨g0, 0, none⟩ := by
          rcases HS.out.2.1.o.2 with ⟨h1, h2⟩ | ⟨g, cap, cur, h1, -⟩
          · rw [h2] at hlt; omega
          · injection h1 with h1; exact ⟨g, h1⟩
        subst ho0
        have o0 := (own_cell16 HS.out.2.1.o hx).1
        obtain ⟨db, dr⟩ := d
        dsimp only at HT hdr hdb X0 X1 HR
        have y0 := keepc HS.out.2.1.b X0.out
        have y1 := keepc HS.out.2.1.b X1.out
        have KL := fun w => canBeLaid_any db vo2 dr.length vc w
        have HJ : Hid (i < o.length ∧ o.length ≤ L.length ∧ L.length ≤ 1000000000) := ⟨hlt, HoL.out.1, hl⟩
        clear hR hvr hd hx hlt x0 x1
        go_wp2_with fail
        refine (KL _).mono ?_
        rintro e w3 ⟨rfl, hb3⟩
        have HY3 := hid13 (HS.out.2.1.below hb3)
        clear KL hb3 y0 y1 o0
        by_cases h24 : db ≤ 24
        · rw [decide_eq_true h24]
          have HS2 : Hid (plG L (o.drop (i + 1)) (P.set k (n : Int)) (n + szN ⟨db, dr⟩) = plG L o (List.replicate L.length 0) 0) := by show _ = _; rw [← HS.out.2.2.2, HT.out, if_pos h24]
          have HSl : Hid (szN ⟨db, dr⟩ ≤ 1000524290 ∧ n ≤ i * 1000524290) := ⟨sz_le h24 hdr, HS.out.2.2.1⟩
          have KS := fun w h => size_any16 db (.slice vo2 dr.length vc) dr w h hdb h24 hdr
          generalize szN ⟨db, dr⟩ = sz at *
          have p0 := at_16 HY3.out.x 1 _ rfl
          have p1 := at_16 HY3.out.x 2 _ rfl
          have hPk : P.length = L.length := HY3.out.l
          obtain ⟨pk, hpk⟩ : ∃ pk, P[k]? = some pk := ⟨P[k]'(by omega), List.getElem?_eq_getElem _⟩
          have p2 : w3.cell? ⟨Gp, k, none⟩ = some (.int .i64 pk) := at_16 HY3.out.g k _ (by rw [List.getElem?_toArray, List.getElem?_map, hpk]; rfl)
          have p2f := fr_16 (j := k) HY3.out.g
          have HY4 := hid13 ((HY3.out.put k (n : Int)).below ((Below.refl _ _).drew))
          have ms : IntKind.i64.wrap ((n : Int) + (sz : Int)) = ((n + sz : Nat) : Int) := by rw [IntKind.wrap_i64]; have := HSl.out; have := HJ.out; push_cast; omega
          have mi : IntKind.i64.wrap ((i : Int) + 1) = ((i + 1 : Nat) : Int) := by rw [IntKind.wrap_i64]; have := HJ.out; push_cast; omega
          have hki : (k : Int) < (L.length : Int) := by omega
          clear HT h24 HS hPk hpk
          go_wp2_with fail
          refine qpw_region 8 (qpOk 8 8 (by decide) (fun N => by kernel_rfl) (by kernel_rfl) (by kernel_rfl) (by kernel_rfl) (by kernel_rfl)) (C := LyV w (.slice (some ⟨g0, 0, none⟩) o.length oc) Bx Gp L.length o (P.set k (n : Int)) n) [some 45, some 46, some 47, some 48, some 49, some 50, some 51, some 52] [.pointer (some ⟨Bx, 2, none⟩), .int .i64 (n : Int), .slice (some ⟨b, off, none⟩) L.length c, .int .i64 (k : Int), .pointer (some ⟨b, off + k * 2, none⟩), .agg #[.int .i64 db, .slice vo2 dr.length vc], .int .i64 (sz : Int), .int .i64 ((n + sz : Nat) : Int)] (by kernel_rfl) HY4.out ?walk1 ?fin1
          case walk1 =>
            refine qw_run (v := .pointer (some ⟨Bx, 2, none⟩)) (by rfl) ?_ ?_
            · (intro w9 hC; clear hC; go_simp; first | done | (simp; done) | (simp [*]; done) | omega | (simp; omega) | (rw [IntKind.wrap_i64]; omega) | (intro hx; omega) | rfl)
            simp only [Act.put, List.setIfInBounds_toArray, List.set_cons_zero, List.set_cons_succ]
            refine qw_run (v := .int .i64 (n : Int)) (by rfl) ?_ ?_
            · (intro w9 hC; have z2 := at_16 hC.x 2 _ rfl; clear hC; go_simp; first | done | (simp; done) | (simp [*]; done) | omega | (simp; omega) | (rw [IntKind.wrap_i64]; omega) | (intro hx; omega) | rfl)
            simp only [Act.put, List.setIfInBounds_toArray, List.set_cons_zero, List.set_cons_succ]
            refine qw_run (v := .slice (some ⟨b, off, none⟩) L.length c) (by rfl) ?_ ?_
            · (intro w9 hC; clear hC; go_simp; first | done | (simp; done) | (simp [*]; done) | omega | (simp; omega) | (rw [IntKind.wrap_i64]; omega) | (intro hx; omega) | rfl)
            simp only [Act.put, List.setIfInBounds_toArray, List.set_cons_zero, List.set_cons_succ]
            refine qw_run (v := .int .i64 (k : Int)) (by rfl) ?_ ?_
            · (intro w9 hC; clear hC; go_simp; first | done | (simp; done) | (simp [*]; done) | omega | (simp; omega) | (rw [IntKind.wrap_i64]; omega) | (intro hx; omega) | rfl)
            simp only [Act.put, List.setIfInBounds_toArray, List.set_cons_zero, List.set_cons_succ]
            refine qw_run (v := .pointer (some ⟨b, off + k * 2, none⟩)) (by rfl) ?_ ?_
            · (intro w9 hC; clear hC; go_simp; first | done | (simp; done) | (simp [*]; done) | omega | (simp; omega) | (rw [IntKind.wrap_i64]; omega) | (intro hx; omega) | rfl)
            simp only [Act.put, List.setIfInBounds_toArray, List.set_cons_zero, List.set_cons_succ]
            refine qw_run (v := .agg #[.int .i64 db, .slice vo2 dr.length vc]) (by rfl) ?_ ?_
            · (intro w9 hC; have y0 := keepc hC.b X0.out; have y1 := keepc hC.b X1.out; clear hC; go_simp; first | done | (simp; done) | (simp [*]; done) | omega | (simp; omega) | (rw [IntKind.wrap_i64]; omega) | (intro hx; omega) | rfl)
            simp only [Act.put, List.setIfInBounds_toArray, List.set_cons_zero, List.set_cons_succ]
            refine qw_call (v := .int .i64 (sz : Int)) (f := 37) (args := #[.agg #[.int .i64 db, .slice vo2 dr.length vc]]) (by rfl) ?_ ?_ ?_
            · (intro w9 hC; clear hC; go_simp; first | done | (simp; done) | rfl)
            · exact fun w9 hC => (KS w9 (HR.out.below hC.b)).mono fun e w' h => ⟨h.1, hC.below h.2⟩
            simp only [Act.put, List.setIfInBounds_toArray, List.set_cons_zero, List.set_cons_succ]
            refine qw_run (v := .int .i64 ((n + sz : Nat) : Int)) (by rfl) ?_ ?_
            · (intro w9 hC; clear hC; go_simp; first | done | (simp; done) | (simp [*]; done) | omega | (simp; omega) | (rw [IntKind.wrap_i64]; omega) | (intro hx; omega) | rfl)
            simp only [Act.put, List.setIfInBounds_toArray, List.set_cons_zero, List.set_cons_succ]
            refine qw_nil ?_
            simp only [putAll, Act.put, List.setIfInBounds_toArray, List.set_cons_zero, List.set_cons_succ]
          case fin1 =>
            intro W9 hC
            simp only [putAll, Act.put, List.setIfInBounds_toArray, List.set_cons_zero, List.set_cons_succ]
            dsimp only [List.drop]
            have z0 := at_16 hC.x 2 _ rfl
            have z0f := fr_16 (j := 2) hC.x
            have HY5 := hid13 (hC.cnt (n + sz))
            clear hC KS p0 p1 p2 p2f HY4 HY3
            go_wp2
            go_roundw
            case rel => exact ⟨i + 1, P.set k (n : Int), n + sz, by first | rfl | simp, hid13 ⟨by have := HJ.out; omega, HY5.out, by have := HSl.out; omega, HS2.out⟩⟩
            case measure => have := HJ.out; first | (simp [intOf]; done) | (simp [intOf]; omega) | (unfold intOf; simp; omega)
        · rw [decide_eq_false h24]
          have HPN : Hid (plG L o (List.replicate L.length 0) 0 = none) := by show _ = _; rw [← HS.out.2.2.2, HT.out, if_neg h24]
          have HR9 : Hid (R = (([], [], 0), 18)) := by show _ = _; rw [HRR.out, if_pos (by trivial), HPN.out]
          have r0 := at_16 HY3.out.rs 0 _ rfl
          have r1 := at_16 HY3.out.rs 1 _ rfl
          have r2 := at_16 HY3.out.rs 2 _ rfl
          have f0 := fr_16 (j := 0) HY3.out.rs
          have f1 := fr_16 (j := 1) HY3.out.rs
          have f2 := fr_16 (j := 2) HY3.out.rs
          have HB9 := hid13 (((HY3.out.b.setCell (p := ⟨w.heap.size, 0, none⟩) (Nat.le_refl _) (.slice none 0 0)).setCell (p := ⟨w.heap.size, 1, none⟩) (Nat.le_refl _) (.slice none 0 0)).setCell (p := ⟨w.heap.size, 2, none⟩) (Nat.le_refl _) (.int .i64 0))
          clear HT h24 HS HY3
          go_wp2
          refine bodyPost_ret (v := .tuple #[.agg #[.slice none 0 0, .slice none 0 0, .int .i64 0], .int .i64 18]) (by simp [results, Try.results22, go_sem, *]) rfl ⟨_, _, by rw [HR9.out]; rfl, ?_, ?_, HB9.out⟩
          · rw [HR9.out]; exact World.ownsRow_nil _ _ _ _
          · rw [HR9.out]; exact World.ownsRow_nil _ _ _ _
      · have hli : ¬ (i : Int) < (o.length : Int) := by omega
        have hPN : plG L o (List.replicate L.length 0) 0 = some (P, n) := by
          rw [← HS.out.2.2.2, List.drop_eq_nil_of_le (by omega)]; rfl
        have HR9 : Hid (R = ((o, P, n), 0)) := by show _ = _; rw [HRR.out, if_pos (by trivial), hPN]
        have HYe := hid13 HS.out.2.1
        have x0 := at_16 HYe.out.x 0 _ rfl
        have x1 := at_16 HYe.out.x 1 _ rfl
        have x2 := at_16 HYe.out.x 2 _ rfl
        have r0 := at_16 HYe.out.rs 0 _ rfl
        have r1 := at_16 HYe.out.rs 1 _ rfl
        have r2 := at_16 HYe.out.rs 2 _ rfl
        have f0 := fr_16 (j := 0) HYe.out.rs
        have f1 := fr_16 (j := 1) HYe.out.rs
        have f2 := fr_16 (j := 2) HYe.out.rs
        have HZ : Hid (∀ W', W' = ((wr.setCell ⟨w.heap.size, 0, none⟩ (.slice oa o.length oc)).setCell ⟨w.heap.size, 1, none⟩ (.slice (some ⟨Gp, 0, none⟩) L.length L.length)).setCell ⟨w.heap.size, 2, none⟩ (.int .i64 (n : Int)) → Below w.heap.size w W' ∧ W'.ownsRow w.heap.size 3 1 (.slice oa o.length oc) o.length (o.map cI) ∧ W'.ownsRow w.heap.size 3 1 (.slice (some ⟨Gp, 0, none⟩) L.length L.length) P.length (P.map cI)) := hid13 (by
          rintro W' rfl
          have hn := HYe.out.nb
          have h1 : ∀ z, (Value.slice oa o.length oc).ownBlock = some z → z ≠ w.heap.size := fun z hz => by have := (hn.2.2 z hz).2; omega
          refine ⟨((HYe.out.b.setCell (p := ⟨w.heap.size, 0, none⟩) (Nat.le_refl _) _).setCell (p := ⟨w.heap.size, 1, none⟩) (Nat.le_refl _) _).setCell (p := ⟨w.heap.size, 2, none⟩) (Nat.le_refl _) _, own_far16 (own_far16 (own_far16 HYe.out.o _ (fun e => h1 _ e rfl)) _ (fun e => h1 _ e rfl)) _ (fun e => h1 _ e rfl), ?_⟩
          rw [HYe.out.l]
          refine ⟨by simp [HYe.out.l], .inr ⟨Gp, L.length, (P.map cI).toArray, rfl, by omega, (far_16 (by omega)).trans ((far_16 (by omega)).trans ((far_16 (by omega)).trans HYe.out.g)), Nat.le_refl _, by unfold maxLen; omega, by simp [HYe.out.l], ?_⟩⟩
          rw [List.take_of_length_le (by simp [HYe.out.l])])
        clear hPN HS HYe
        go_wp2
        refine bodyPost_ret (v := .tuple #[.agg #[.slice oa o.length oc, .slice (some ⟨Gp, 0, none⟩) L.length L.length, .int .i64 (n : Int)], .int .i64 0]) (by simp [results, Try.results22, go_sem, *]) rfl ⟨_, _, by rw [HR9.out], ?_, ?_, (HZ.out _ rfl).1⟩
        · rw [HR9.out]; exact (HZ.out _ rfl).2.1
        · rw [HR9.out]; exact (HZ.out _ rfl).2.2
  · have hn : (ce != 0) = true := by simpa using h0
    have HE : Hid (R = (([], [], 0), ce)) := by show _ = _; rw [HLy.out ce rfl, if_neg h0]
    obtain ⟨oa, oc, hvo⟩ := own_form HO2.out
    subst hvo
    have r0 := at_16 HR2.out 0 _ rfl
    have r1 := at_16 HR2.out 1 _ rfl
    have r2 := at_16 HR2.out 2 _ rfl
    have f0 := fr_16 (j := 0) HR2.out
    have f1 := fr_16 (j := 1) HR2.out
    have f2 := fr_16 (j := 2) HR2.out
    have HB9 := hid13 (((HB2.out.setCell (p := ⟨w.heap.size, 0, none⟩) (Nat.le_refl _) (.slice none 0 0)).setCell (p := ⟨w.heap.size, 1, none⟩) (Nat.le_refl _) (.slice none 0 0)).setCell (p := ⟨w.heap.size, 2, none⟩) (Nat.le_refl _) (.int .i64 0))
    clear HOk HOr HLy HN1 HR2 HO2
    go_wp2
    refine bodyPost_ret (v := .tuple #[.agg #[.slice none 0 0, .slice none 0 0, .int .i64 0], .int .i64 ce]) (by simp [results, Try.results22, go_sem, *]) rfl ⟨_, _, by rw [HE.out]; rfl, ?_, ?_, HB9.out⟩
    · rw [HE.out]; exact World.ownsRow_nil _ _ _ _
    · rw [HE.out]; exact World.ownsRow_nil _ _ _ _
end Go.Proofs.Ytdpmhpmnkollaaa
namespace Go.Proofs.Ytdpmhpmnkollaaa
set_option linter.unusedSimpArgs false
set_option linter.unusedVariables false

def Met (s : DfS) (x : Nat) : Prop := s.1.getD x false = true
theorem met_set {s : DfS} {n : Nat} (hn : n < s.1.length) (z : Nat) : Met (s.1.set n true, s.2) z ↔ (z = n ∨ Met s z) := by
  unfold Met
  dsimp only
  rw [List.getD_eq_getElem?_getD, List.getD_eq_getElem?_getD, List.getElem?_set]
  by_cases h : n = z
  · subst h; simp [hn]
  · rw [if_neg h]
    constructor
    · exact .inr
    · rintro (q | q)
      · exact absurd q.symm h
      · exact q
structure DInv (L : List Nde) (s : DfS) : Prop where
  len : s.1.length = L.length
  dm : ∀ x ∈ s.2, 0 ≤ x ∧ Met s x.toNat
  nd : s.2.Nodup
  cl : ∀ A x B, s.2 = A ++ x :: B → ∀ d r, L[x.toNat]? = some d → r ∈ d.r → r.k = true → r.n ∈ A
structure DRel (L : List Nde) (lo m : Nat) (s t : DfS) : Prop where
  inv : DInv L t
  st : ∀ z : Nat, Met t z → (z : Int) ∈ t.2 ∨ z < m
  mono : ∀ z, Met s z → Met t z
  new : ∀ z, Met t z → Met s z ∨ lo ≤ z
  ext : ∃ E, t.2 = s.2 ++ E ∧ ∀ x ∈ E, (lo : Int) ≤ x
theorem dfs_main {L : List Nde} (ok : NdsOk L) : ∀ (f n : Nat) (s : DfS) (m : Nat), n < L.length → ¬ Met s n → L.length ≤ n + f → m ≤ n → DInv L s → (∀ z : Nat, Met s z → (z : Int) ∈ s.2 ∨ z < m) → DRel L n m s (dfs L f n s) ∧ Met (dfs L f n s) n ∧ (n : Int) ∈ (dfs L f n s).2
  | 0, n, s, m, hn, _, hf, _, _, _ => by omega
  | f + 1, n, s, m, hn, hmet, hf, hmn, hI, hst => by
    obtain ⟨d, hd⟩ : ∃ d, L[n]? = some d := ⟨L[n], by simp [hn]⟩
    rw [dfs_succ L f n s d hd]
    have hnl : n < s.1.length := by rw [hI.len]; exact hn
    have ms := fun z => met_set (s := s) hnl z
    have I1 : DInv L (s.1.set n true, s.2) := ⟨by simp [hI.len], fun x hx => ⟨(hI.dm x hx).1, (ms _).2 (.inr (hI.dm x hx).2)⟩, hI.nd, hI.cl⟩
    -- over the runs
    have loop : ∀ (l : List Rn) (u : DfS), (∀ r ∈ l, r ∈ d.r) → DRel L (n + 1) (n + 1) (s.1.set n true, s.2) u → DRel L (n + 1) (n + 1) (s.1.set n true, s.2) (l.foldl (stpR (dfs L f)) u) ∧ (∀ r ∈ l, r.k = true → Met (l.foldl (stpR (dfs L f)) u) r.n.toNat) ∧ (∀ z, Met u z → Met (l.foldl (stpR (dfs L f)) u) z) := by
      intro l
      induction l with
      | nil => intro u _ h; exact ⟨h, fun r hr => (by cases hr), fun z h => h⟩
      | cons r l ih =>
        intro u hl h
        have hr := hl r (List.mem_cons_self ..)
        have step : DRel L (n + 1) (n + 1) (s.1.set n true, s.2) (stpR (dfs L f) u r) ∧ (r.k = true → Met (stpR (dfs L f) u r) r.n.toNat) ∧ (∀ z, Met u z → Met (stpR (dfs L f) u r) z) := by
          unfold stpR
          by_cases hk : r.k = true
          · obtain ⟨a1, a2, a3⟩ := ok.lead hd hr hk
            by_cases hm : Met u r.n.toNat
            · have hm' : u.1.getD r.n.toNat false = true := hm
              rw [hm', hk]
              exact ⟨h, fun _ => hm, fun z q => q⟩
            · have hm' : u.1.getD r.n.toNat false = false := by unfold Met at hm; simpa using hm
              rw [hm', hk]
              simp only [Bool.not_false, Bool.and_true, if_true]
              obtain ⟨b1, b2, b3⟩ := dfs_main ok f r.n.toNat u (n + 1) a2 hm (by omega) (by omega) h.inv h.st
              refine ⟨⟨b1.inv, b1.st, fun z q => b1.mono z (h.mono z q), fun z q => ?_, ?_⟩, fun _ => b2, b1.mono⟩
              · rcases b1.new z q with c | c
                · exact h.new z c
                · exact .inr (by omega)
              · obtain ⟨E, e1, e2⟩ := h.ext
                obtain ⟨E2, e3, e4⟩ := b1.ext
                refine ⟨E ++ E2, by rw [e3, e1, List.append_assoc], fun x hx => ?_⟩
                rcases List.mem_append.mp hx with q | q
                · exact e2 x q
                · have := e4 x q; omega
          · have hk' : r.k = false := by simpa using hk
            rw [hk']
            exact ⟨h, fun q => absurd q (by decide), fun z q => q⟩
        obtain ⟨s1, s2, s3⟩ := step
        obtain ⟨t1, t2, t3⟩ := ih _ (fun r' hr' => hl r' (List.mem_cons_of_mem _ hr')) s1
        rw [List.foldl_cons]
        refine ⟨t1, fun r' hr' hk' => ?_, fun z q => t3 z (s3 z q)⟩
        rcases List.mem_cons.mp hr' with rfl | q
        · exact t3 _ (s2 hk')
        · exact t2 r' q hk'
    have R0 : DRel L (n + 1) (n + 1) (s.1.set n true, s.2) (s.1.set n true, s.2) := ⟨I1, fun z q => by
      rcases (ms z).1 q with c | c
      · exact .inr (by omega)
      · rcases hst z c with k | k
        · exact .inl k
        · exact .inr (by omega), fun z q => q, fun z q => .inl q, [], by simp, fun x hx => by cases hx⟩
    obtain ⟨u1, u2, u3⟩ := loop d.r.reverse _ (fun r hr => List.mem_reverse.mp hr) R0
    generalize d.r.reverse.foldl (stpR (dfs L f)) (s.1.set n true, s.2) = u at *
    have hmn' : Met u n := u1.mono n ((ms n).2 (.inl rfl))
    obtain ⟨E, e1, e2⟩ := u1.ext
    dsimp only at e1
    have hnot : (n : Int) ∉ u.2 := by
      rw [e1]
      intro q
      rcases List.mem_append.mp q with q | q
      · have := (hI.dm _ q).2
        rw [Int.toNat_natCast] at this
        exact hmet this
      · have := e2 _ q; omega
    have hmt : ∀ z, Met (u.1, u.2 ++ [(n : Int)]) z ↔ Met u z := fun z => Iff.rfl
    refine ⟨⟨⟨u1.inv.len, ?_, ?_, ?_⟩, ?_, ?_, ?_, ?_⟩, hmn', by simp⟩
    · intro x hx
      rcases List.mem_append.mp hx with q | q
      · exact u1.inv.dm x q
      · simp at q; subst q; exact ⟨by omega, by rw [Int.toNat_natCast]; exact hmn'⟩
    · rw [List.nodup_append]
      refine ⟨u1.inv.nd, by simp, fun a ha b hb => ?_⟩
      simp at hb
      subst hb
      rintro rfl
      exact hnot ha
    · intro A x B hs d' r hd' hr hk
      dsimp only at hs
      rcases List.eq_nil_or_concat B with rfl | ⟨B', y, rfl⟩
      · have e : u.2 ++ [(n : Int)] = A ++ [x] := hs
        obtain ⟨h1, h2⟩ := List.append_inj' e rfl
        injection h2 with h2
        subst h1 h2
        rw [Int.toNat_natCast, hd] at hd'
        cases hd'
        obtain ⟨a1, a2, a3⟩ := ok.lead hd hr hk
        have hm := u2 r (List.mem_reverse.mpr hr) hk
        rcases u1.st _ hm with q | q
        · rw [← a3] at q; exact q
        · omega
      · have e : u.2 ++ [(n : Int)] = (A ++ x :: B') ++ [y] := by rw [hs]; simp
        obtain ⟨h1, h2⟩ := List.append_inj' e rfl
        exact u1.inv.cl A x B' h1 d' r hd' hr hk
    · intro z q
      have q' : Met u z := q
      rcases u1.st z q' with c | c
      · exact .inl (List.mem_append_left _ c)
      · by_cases hz : z = n
        · subst hz; exact .inl (by simp)
        · rcases u1.new z q' with k | k
          · rcases (ms z).1 k with k | k
            · exact absurd k hz
            · rcases hst z k with k | k
              · exact .inl (by rw [e1]; simp [k])
              · exact .inr k
          · omega
    · intro z q
      exact u1.mono z ((ms z).2 (.inr q))
    · intro z q
      have q' : Met u z := q
      rcases u1.new z q' with k | k
      · rcases (ms z).1 k with k | k
        · exact .inr (by omega)
        · exact .inl k
      · exact .inr (by omega)
    · refine ⟨E ++ [(n : Int)], by dsimp only; rw [e1, List.append_assoc], fun x hx => ?_⟩
      rcases List.mem_append.mp hx with q | q
      · have := e2 x q; omega
      · simp at q; omega
theorem met_rep {N : Nat} {z : Nat} : ¬ Met (List.replicate N false, []) z := by
  unfold Met
  dsimp only
  rw [List.getD_eq_getElem?_getD, List.getElem?_replicate]
  split <;> simp
structure OrdOk (L : List Nde) (o : List Int) : Prop where
  nd : o.Nodup
  kid : ∀ A x B, o = A ++ x :: B → ∀ d r, L[x.toNat]? = some d → r ∈ d.r → r.k = true → r.n ∈ B
  zero : ∃ B, o = 0 :: B
theorem ord_ok {L : List Nde} (ok : NdsOk L) : OrdOk L (ordL L) := by
  obtain ⟨h1, h2, h3⟩ := dfs_main ok L.length 0 (List.replicate L.length false, []) 0 ok.1 met_rep (by omega) (Nat.le_refl _) ⟨by simp, fun x hx => (by cases hx), List.nodup_nil, fun A x B h => (by simp at h)⟩ (fun z q => absurd q met_rep)
  unfold ordL
  have hlast : ∃ A, (dfs L L.length 0 (List.replicate L.length false, [])).2 = A ++ [0] := by
    obtain ⟨d, hd⟩ : ∃ d, L[0]? = some d := ⟨L[0]'ok.1, by simp [ok.1]⟩
    obtain ⟨k, hk⟩ : ∃ k, L.length = k + 1 := ⟨L.length - 1, by have := ok.1; omega⟩
    rw [hk, dfs_succ L k 0 _ d hd]
    exact ⟨_, rfl⟩
  refine ⟨((List.reverse_perm _).nodup_iff).mpr h1.inv.nd, ?_, ?_⟩
  · intro A x B hs d r hd hr hk
    have e : (dfs L L.length 0 (List.replicate L.length false, [])).2 = B.reverse ++ x :: A.reverse := by
      have := congrArg List.reverse hs
      simpa using this
    have := h1.inv.cl _ _ _ e d r hd hr hk
    exact List.mem_reverse.mp this
  · obtain ⟨A, hA⟩ := hlast
    exact ⟨A.reverse, by rw [hA]; simp⟩
theorem us_fold {N : Nat} : ∀ (ks : List Int) (s : List Bool × Nat) (z : Nat), (ks.foldl usK s).1.getD z false = true → s.1.getD z false = true ∨ ∃ k ∈ ks, k.toNat = z
  | [], s, z, h => .inl h
  | k :: ks, s, z, h => by
    rw [List.foldl_cons] at h
    rcases us_fold (N := N) ks _ z h with q | ⟨j, hj, e⟩
    · unfold usK at q
      split at q
      · exact .inl q
      · dsimp only at q
        rw [List.getD_eq_getElem?_getD, List.getElem?_set] at q
        by_cases c : k.toNat = z
        · exact .inr ⟨k, List.mem_cons_self .., c⟩
        · rw [if_neg c, ← List.getD_eq_getElem?_getD] at q
          exact .inl q
    · exact .inr ⟨j, List.mem_cons_of_mem _ hj, e⟩
theorem us_all {N : Nat} : ∀ (L : List Nde) (s : List Bool × Nat) (z : Nat), (L.foldl usN s).1.getD z false = true → s.1.getD z false = true ∨ ∃ d ∈ L, ∃ k ∈ kidL d.r, k.toNat = z
  | [], s, z, h => .inl h
  | d :: L, s, z, h => by
    rw [List.foldl_cons] at h
    rcases us_all (N := N) L _ z h with q | ⟨e, he, k, hk, hz⟩
    · rcases us_fold (N := N) (kidL d.r) s z q with q | ⟨k, hk, hz⟩
      · exact .inl q
      · exact .inr ⟨d, List.mem_cons_self .., k, hk, hz⟩
    · exact .inr ⟨e, List.mem_cons_of_mem _ he, k, hk, hz⟩
theorem used_lead {L : List Nde} (ok : NdsOk L) (hu : usedB L = true) (z : Nat) (h0 : 0 < z) (hz : z < L.length) : ∃ n d r, L[n]? = some d ∧ r ∈ d.r ∧ r.k = true ∧ r.n = (z : Int) ∧ n < z := by
  obtain ⟨a1, a2⟩ := us0_so L.length ok.1
  obtain ⟨b1, b2⟩ := usL_so L (us0 L.length) a1 (fun d hd k hk => by rw [a2]; have := ok.kids d hd k hk; omega)
  unfold usedB at hu
  have hc : (L.foldl usN (us0 L.length)).1.count true = (L.foldl usN (us0 L.length)).1.length := by
    have h1 : (L.foldl usN (us0 L.length)).2 = L.length := by simpa using hu
    have h2 : (L.foldl usN (us0 L.length)).2 = (L.foldl usN (us0 L.length)).1.count true := b1
    rw [b2, a2, ← h2, h1]
  have hall := List.count_eq_length.mp hc
  have hzl : z < (L.foldl usN (us0 L.length)).1.length := by rw [b2, a2]; exact hz
  have hg : (L.foldl usN (us0 L.length)).1.getD z false = true := by
    rw [List.getD_eq_getElem?_getD, List.getElem?_eq_getElem hzl]
    exact (hall _ (List.getElem_mem hzl)).symm
  rcases us_all (N := L.length) L _ z hg with q | ⟨d, hd, k, hk, e⟩
  · unfold us0 at q
    dsimp only at q
    rw [List.getD_eq_getElem?_getD, List.getElem?_set_ne (by omega), List.getElem?_replicate] at q
    split at q <;> simp at q
  · obtain ⟨n, hn⟩ := List.getElem?_of_mem hd
    obtain ⟨r, h1, h2, h3⟩ := mem_kidL hk
    obtain ⟨c1, c2, c3⟩ := ok.lead hn h1 h2
    exact ⟨n, d, r, hn, h1, h2, by omega, by omega⟩
theorem ord_all {L : List Nde} (ok : NdsOk L) (hu : usedB L = true) : ∀ z : Nat, z < L.length → (z : Int) ∈ ordL L := by
  have ho := ord_ok ok
  intro z
  induction z using Nat.strongRecOn with
  | _ z ih =>
    intro hz
    by_cases h0 : z = 0
    · obtain ⟨B, hB⟩ := ho.zero
      subst h0; rw [hB]; simp
    · obtain ⟨n, d, r, h1, h2, h3, h4, h5⟩ := used_lead ok hu z (by omega) hz
      obtain ⟨A, B, hs⟩ := List.append_of_mem (ih n h5 (by omega))
      have := ho.kid A (n : Int) B hs d r (by rw [Int.toNat_natCast]; exact h1) h2 h3
      rw [h4] at this
      rw [hs]; simp [this]
end Go.Proofs.Ytdpmhpmnkollaaa
