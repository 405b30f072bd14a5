/-
  Part 19 of the proof: 3 texts, one behind the other.
-/
import Derived.Test.YtofpbommhklooaaPart18
import Derived.Test.YtofpbommhklooaaPart11
import Derived.Test.YtofpbommhklooaaPart12
import Derived.Test.YtofpbommhklooaaPart9
/-
  Plain: the way of an address through a tree.
-/
namespace Go.Proofs.Ytofpbommhklooaa
open Go.RowKit
set_option linter.unusedSimpArgs false
set_option linter.unusedVariables false

theorem cut_succ {x y : BitVec 128} {n : Int} (h0 : 0 ≤ n) (h1 : n < 128) (h : cutW x n = cutW y n) (hb : bitZ x n = bitZ y n) : cutW x (n + 1) = cutW y (n + 1) := by
  apply BitVec.eq_of_getLsbD_eq
  intro j hj
  have e := congrArg (fun z => BitVec.getLsbD z j) h
  unfold cutW at e ⊢
  simp only [BitVec.getLsbD_and] at e ⊢
  rw [maskW_bit n j hj] at e
  rw [maskW_bit (n + 1) j hj]
  by_cases c : 128 - n.toNat ≤ j
  · have c2 : 128 - (n + 1).toNat ≤ j := by omega
    simp only [c, c2, decide_true, Bool.and_true] at e ⊢
    exact e
  · by_cases d : j = (127 - n).toNat
    · unfold bitZ at hb
      rw [bitB_in x n h0 (by omega), bitB_in y n h0 (by omega), ← d] at hb
      have : x.getLsbD j = y.getLsbD j := by
        cases hx : x.getLsbD j <;> cases hy : y.getLsbD j <;> simp [hx, hy] at hb <;> rfl
      rw [this]
    · have c2 : ¬ 128 - (n + 1).toNat ≤ j := by omega
      simp [c2]
/-- Whether a word lies within a node. -/
def InN (ws : List (BitVec 128)) (L : List Nd) (x : BitVec 128) (i : Nat) : Prop := cutW x (ln L i) = cutW (ad ws L i) (ln L i)
section
variable {l : List Rte} {ws : List (BitVec 128)} {L : List Nd}
theorem InN.root (t : Tre l ws L) (x : BitVec 128) : InN ws L x 0 := by unfold InN; rw [t.ln0, cutZ8, cutZ8]
theorem Tre.ln128 (t : Tre l ws L) {i : Nat} (h : i < L.length) : 0 ≤ ln L i ∧ ln L i ≤ 128 := (t.inv.bnd i h).1
/-- A word within a node lies within the kid of its bit, and in no other. -/
theorem Tre.step (t : Tre l ws L) {i e j : Nat} (h : End L i e) (hij : i < j) (hje : j < e) (hj : ln L j = ln L i + 1) {x : BitVec 128} (hx : InN ws L x i) : InN ws L x j ↔ bitZ (ad ws L j) (ln L i) = bitZ x (ln L i) := by
  have hjL : j < L.length := by have := h.2.1; omega
  have b1 := t.ln128 (i := i) (by omega)
  have b2 := t.ln128 hjL
  have c := t.cut h j (by omega) hje
  unfold InN at hx ⊢
  rw [hj]
  constructor
  · intro q
    exact (cutBit8 q b1.1 (by omega) (by omega)).symm
  · intro q
    exact cut_succ b1.1 (by omega) (hx.trans c.symm) q.symm
/-- The way of a word from a node on: where it ends, what it meets. -/
structure WayQ (ws : List (BitVec 128)) (L : List Nd) (x : BitVec 128) (i e N : Nat) : Prop where
  to : WayTo L x N (i : Int)
  nod : ∀ (j : Nat) (n : Int), (wayL L x N (i : Int))[j]? = some n → ∃ m : Nat, n = (m : Int) ∧ i ≤ m ∧ m < e ∧ ln L m = ln L i + j ∧ InN ws L x m
  all : ∀ m, i ≤ m → m < e → InN ws L x m → ∃ j : Nat, (wayL L x N (i : Int))[j]? = some (m : Int)
theorem wayL_len (L : List Nd) (x : BitVec 128) : ∀ (N : Nat) (n : Int), (wayL L x N n).length = N
  | 0, _ => rfl
  | N + 1, n => by simp only [wayL, List.length_cons, wayL_len L x N]
theorem Tre.wayq (t : Tre l ws L) (x : BitVec 128) : ∀ (d i e : Nat), e - i ≤ d → End L i e → InN ws L x i → ∃ N, WayQ ws L x i e (N + 1)
  | 0, i, e, hd, h, _ => by have := h.1; omega
  | d + 1, i, e, hd, h, hx => by
    have hi : i < L.length := by have := h.1; have := h.2.1; omega
    have hin : isN L (i : Int) = true := by unfold isN; simp; omega
    have hlen : (ndAt L (i : Int)).length = ln L i := by rw [nd8_at hi]; rfl
    obtain ⟨a, b, q⟩ := t.kidq h
    have b1 := t.ln128 hi
    -- the next kid, and where it ends
    have key : (nxtW L x (i : Int) = -1 ∧ ∀ m, i < m → m < e → ¬ InN ws L x m) ∨ ∃ k f : Nat, nxtW L x (i : Int) = (k : Int) ∧ i < k ∧ f ≤ e ∧ End L k f ∧ ln L k = ln L i + 1 ∧ InN ws L x k ∧ ∀ m, i < m → m < e → InN ws L x m → k ≤ m ∧ m < f := by
      have sub : ∀ k f m, End L k f → i < k → k < e → ln L k = ln L i + 1 → k ≤ m → m < f → m < L.length → InN ws L x m → bitZ (ad ws L k) (ln L i) = bitZ x (ln L i) := by
        intro k f m hk hik hke hl h1 h2 h3 hm
        have c := t.cut hk m h1 h2
        have lm : ln L k ≤ ln L m := by
          by_cases z : m = k
          · rw [z]; exact Int.le_refl _
          · have := hk.2.2.1 m (by omega) h2; omega
        have b2 := t.ln128 h3
        unfold InN at hm
        have e1 := cutBit8 hm b1.1 (by omega) b2.2
        have e2 := cutBit8 c b1.1 (by omega) (by have := t.ln128 (i := k) (by have := h.2.1; omega); omega)
        rw [← e2, e1]
      have eL := h.2.1
      unfold nxtW
      rw [hlen]
      rcases bitZ_01 x (ln L i) with hb | hb
      · rw [hb, q.k0]
        rcases q.ca with ha | ⟨ha, h1, h2, h3⟩
        · left
          refine ⟨ha, fun m hm1 hm2 hm => ?_⟩
          rcases q.cb with hb' | ⟨k, hb', k1, k2, k3, k4, k5, k6, -⟩
          · have := q.lf ha hb'; omega
          · have ek := k6 ha
            have := sub k e m k5 k1 k2 k3 (by omega) hm2 (by omega) hm
            omega
        · right
          obtain ⟨f, hf, -⟩ := t.node (i := i + 1) (by omega)
          have hfe := (t.next h (by omega) h1 h2 hf).1
          refine ⟨i + 1, f, ha, by omega, hfe, hf, h2, (t.step h (by omega) h1 h2 hx).mpr (by rw [h3, hb]), fun m hm1 hm2 hm => ⟨by omega, ?_⟩⟩
          apply Classical.byContradiction; intro z
          rcases q.cb with hb' | ⟨k, hb', k1, k2, k3, k4, k5, k6, k7⟩
          · have := (q.ea (by omega) hb').one hf; omega
          · have := (k7 (by omega)).one hf
            have := sub k e m k5 k1 k2 k3 (by omega) hm2 (by omega) hm
            omega
      · rw [hb, q.k1]
        rcases q.cb with hb' | ⟨k, hb', k1, k2, k3, k4, k5, k6, k7⟩
        · left
          refine ⟨hb', fun m hm1 hm2 hm => ?_⟩
          rcases q.ca with ha | ⟨ha, h1, h2, h3⟩
          · have := q.lf ha hb'; omega
          · have := sub (i + 1) e m (q.ea (by omega) hb') (by omega) h1 h2 (by omega) hm2 (by omega) hm
            omega
        · right
          refine ⟨k, e, hb', k1, Nat.le_refl _, k5, k3, (t.step h k1 k2 k3 hx).mpr (by rw [k4, hb]), fun m hm1 hm2 hm => ⟨?_, hm2⟩⟩
          apply Classical.byContradiction; intro z
          rcases q.ca with ha | ⟨ha, h1, h2, h3⟩
          · have := k6 ha; omega
          · have := sub (i + 1) k m (k7 (by omega)) (by omega) h1 h2 (by omega) (by omega) (by omega) hm
            omega
    rcases key with ⟨hn, hno⟩ | ⟨k, f, hn, hik, hfe, hk, hl, hxk, hall⟩
    · refine ⟨0, ⟨hin, by show WayTo L x 0 _; rw [hn]; rfl⟩, ?_, ?_⟩
      · intro j n hj
        match j, hj with
        | 0, hj =>
          simp only [wayL, List.getElem?_cons_zero, Option.some.injEq] at hj
          exact ⟨i, hj.symm, Nat.le_refl _, h.1, by simp, hx⟩
        | j + 1, hj => simp [wayL] at hj
      · intro m h1 h2 hm
        by_cases c : m = i
        · subst c; exact ⟨0, rfl⟩
        · exact absurd hm (hno m (by omega) h2)
    · obtain ⟨N, w⟩ := t.wayq x d k f (by omega) hk hxk
      refine ⟨N + 1, ⟨hin, by show WayTo L x (N + 1) _; rw [hn]; exact w.to⟩, ?_, ?_⟩
      · intro j n hj
        match j, hj with
        | 0, hj =>
          simp only [wayL, List.getElem?_cons_zero, Option.some.injEq] at hj
          exact ⟨i, hj.symm, Nat.le_refl _, h.1, by simp, hx⟩
        | j + 1, hj =>
          rw [wayL, hn, List.getElem?_cons_succ] at hj
          obtain ⟨m, q1, q2, q3, q4, q5⟩ := w.nod j n hj
          exact ⟨m, q1, by omega, by omega, by rw [q4, hl]; omega, q5⟩
      · intro m h1 h2 hm
        by_cases c : m = i
        · subst c; exact ⟨0, rfl⟩
        · obtain ⟨z1, z2⟩ := hall m (by omega) h2 hm
          obtain ⟨j, hj⟩ := w.all m z1 z2 hm
          exact ⟨j + 1, by rw [wayL, hn, List.getElem?_cons_succ]; exact hj⟩
theorem Tre.endL (t : Tre l ws L) : End L 0 L.length := ⟨t.pos, Nat.le_refl _, fun j a b => by rw [t.ln0]; exact t.lnp b a, fun h => by omega⟩
theorem Tre.path (t : Tre l ws L) (x : BitVec 128) : ∃ N, WayQ ws L x 0 L.length (N + 1) := t.wayq x L.length 0 L.length (by omega) t.endL (InN.root t x)
end
end Go.Proofs.Ytofpbommhklooaa
/-
  What a tree's Find tells.
-/
namespace Go.Proofs.Ytofpbommhklooaa
open Go.RowKit Go.Shelf
set_option linter.unusedSimpArgs false
set_option linter.unusedVariables false
attribute [local go_sem] Oper.semAt_some

theorem way_in (L : List Nd) (x : BitVec 128) : ∀ (N : Nat) (n y : Int), WayTo L x N n → y ∈ wayL L x N n → isN L y = true
  | 0, n, y, _, h => by rw [wayL] at h; cases h
  | N + 1, n, y, hw, h => by
    rw [wayL] at h
    rcases List.mem_cons.mp h with rfl | h
    · exact hw.1
    · exact way_in L x N _ y hw.2 h
/-- The node of so many bits on a way. -/
def fdV (L : List Nd) (l : List Int) (pl : Int) : Int := ((l.find? (fun n => (ndAt L n).length == pl)).getD (-1))
theorem fd_none (L : List Nd) (l : List Int) (pl : Int) (h : ∀ m ∈ l, ¬ (ndAt L m).length = pl) : fdV L l pl = -1 := by
  unfold fdV
  rw [List.find?_eq_none.mpr (fun x hx => by simp [h x hx])]
  rfl
theorem fd_some (L : List Nd) (l ini : List Int) (y pl : Int) (hp : ini ++ [y] <+: l) (h : ∀ m ∈ ini, ¬ (ndAt L m).length = pl) (hy : (ndAt L y).length = pl) : fdV L l pl = y := by
  obtain ⟨t, rfl⟩ := hp
  unfold fdV
  rw [List.append_assoc, List.find?_append, List.find?_eq_none.mpr (fun x hx => by simp [h x hx])]
  simp [hy]
set_option maxRecDepth 100000 in
set_option maxHeartbeats 8000000 in
theorem tfind_any (N : Nat) (B : Nat) (F : Int) (g cap : Nat) (wv : Value) (L : List Nd) (x : BitVec 128) (pl : Int) (hR : checkE F x F = 0 → WayTo L x N 0) (w : World) (hM : TrN w B F g cap wv L) (hL : 0 < L.length) (ho : ∀ x ∈ L, x.ok) (hl : L.length ≤ 2147483647) :
    Calls Try.prog 17 #[.pointer (some ⟨B, 0, none⟩), .agg #[.int .u64 (hI x), .int .u64 (lI x), .int .i64 pl]] w fun e w' => e = .returned (.int .i64 (if checkE F x pl = 0 then fdV L (pthL L F x N) pl else -1)) ∧ Below w.heap.size w w' := by
  have hBw : B < w.heap.size := cell_in hM.w
  have hgw : g < w.heap.size := cell_in (hM.row 0 hL).1
  have q1 := bl1 w (.cells #[.pointer (some ⟨B, 0, none⟩)] 29)
  have q2 := bl1 (w.alloc (.cells #[.pointer (some ⟨B, 0, none⟩)] 29)) (.cells #[.int .u64 (hI x), .int .u64 (lI x), .int .i64 pl] 45)
  have q3 := bl1 ((w.alloc (.cells #[.pointer (some ⟨B, 0, none⟩)] 29)).alloc (.cells #[.int .u64 (hI x), .int .u64 (lI x), .int .i64 pl] 45)) (.cells #[.int .i64 0] 3)
  have HB0 := hidX (keepb q3 (keepb q2 q1))
  have HP0 := hidX (((cl1_new w w.heap.size (.pointer (some ⟨B, 0, none⟩)) 29 rfl).below q2).below q3)
  have HX0 := hidX ((atp_new (w.alloc (.cells #[.pointer (some ⟨B, 0, none⟩)] 29)) (w.heap.size + 1) x pl 45 (by simp)).below q3)
  have HH0 := hidX (cl1_new ((w.alloc (.cells #[.pointer (some ⟨B, 0, none⟩)] 29)).alloc (.cells #[.int .u64 (hI x), .int .u64 (lI x), .int .i64 pl] 45)) (w.heap.size + 2) (.int .i64 0) 3 (by simp))
  have HM0 := hidX (((hM.below q1).below q2).below q3)
  have KP := fun w => tpath_any B x w
  have KF := fun w => pfirst_any x pl w
  have KC := fun w => pcheck_any F x pl w
  have HO : Hid ((∀ x ∈ L, x.ok) ∧ L.length ≤ 2147483647) := hidX ⟨ho, hl⟩
  have HR := hidX hR
  clear q1 q2 q3 hM ho hl hR hL
  obtain ⟨rv, hrv⟩ : ∃ rv, rv = if checkE F x pl = 0 then fdV L (pthL L F x N) pl else -1 := ⟨_, rfl⟩
  rw [← hrv]
  have HRV := hidX hrv
  clear hrv
  revert KC HRV
  generalize checkE F x pl = z
  intro KC HRV
  refine (callsIn_wide (n := 9)).1 ?_
  refine callsIn_of_wp_marks Try.func17 rfl trivial ?_ rfl
  simp only [Try.ntmps17, List.size_toArray, List.length_cons, List.length_nil, Nat.reduceAdd, Nat.reduceSub, Array.replicate_succ, Array.replicate_zero, List.push_toArray, List.append_toArray, List.nil_append, List.cons_append]
  refine wpIn_wide.2 ?_
  go_wp2_with fail
  revert HB0 HP0 HX0 HH0 HM0
  generalize ((w.alloc (.cells #[.pointer (some ⟨B, 0, none⟩)] 29)).alloc (.cells #[.int .u64 (hI x), .int .u64 (lI x), .int .i64 pl] 45)).alloc (.cells #[.int .i64 0] 3) = V0
  intro HB0 HP0 HX0 HH0 HM0
  have HD0 : Hid (∀ X, Below V0.heap.size V0 X → TrN X B F g cap wv L ∧ Cl1 X w.heap.size (.pointer (some ⟨B, 0, none⟩)) ∧ AtP X (w.heap.size + 1) x pl) := hidX (fun X hb => ⟨HM0.out.below hb, HP0.out.below hb, HX0.out.below hb⟩)
  refine qw_region (C := fun X => Below V0.heap.size V0 X) (by kernel_rfl) (by kernel_rfl) (below_drewN (Below.refl _ _) 1) ?_
  refine qw_run (v := .pointer (some ⟨B, 0, none⟩)) (by rfl) ?_ ?_
  · (intro w1 hC; obtain ⟨⟨t0, t1, t2, -⟩, ⟨b0, -⟩, ⟨x0, x1, x2, -, -, -⟩⟩ := HD0.out w1 hC; go_simp; first | done | (simp; done) | (simp [*]; done) | omega | (simp; omega) | (rw [IntKind.wrap_i64]; omega) | (intro hx; omega) | rfl)
  simp only [Act.put, List.setIfInBounds_toArray, List.set_cons_zero, List.set_cons_succ]
  refine qw_run (v := .pointer (some ⟨B, 0, none⟩)) (by rfl) ?_ ?_
  · (intro w1 hC; obtain ⟨⟨t0, t1, t2, -⟩, ⟨b0, -⟩, ⟨x0, x1, x2, -, -, -⟩⟩ := HD0.out w1 hC; go_simp; first | done | (simp; done) | (simp [*]; done) | omega | (simp; omega) | (rw [IntKind.wrap_i64]; omega) | (intro hx; omega) | rfl)
  simp only [Act.put, List.setIfInBounds_toArray, List.set_cons_zero, List.set_cons_succ]
  refine qw_run (v := .pointer (some ⟨B, 0, none⟩)) (by rfl) ?_ ?_
  · (intro w1 hC; obtain ⟨⟨t0, t1, t2, -⟩, ⟨b0, -⟩, ⟨x0, x1, x2, -, -, -⟩⟩ := HD0.out w1 hC; go_simp; first | done | (simp; done) | (simp [*]; done) | omega | (simp; omega) | (rw [IntKind.wrap_i64]; omega) | (intro hx; omega) | rfl)
  simp only [Act.put, List.setIfInBounds_toArray, List.set_cons_zero, List.set_cons_succ]
  refine qw_run (v := .int .i64 F) (by rfl) ?_ ?_
  · (intro w1 hC; obtain ⟨⟨t0, t1, t2, -⟩, ⟨b0, -⟩, ⟨x0, x1, x2, -, -, -⟩⟩ := HD0.out w1 hC; go_simp; first | done | (simp; done) | (simp [*]; done) | omega | (simp; omega) | (rw [IntKind.wrap_i64]; omega) | (intro hx; omega) | rfl)
  simp only [Act.put, List.setIfInBounds_toArray, List.set_cons_zero, List.set_cons_succ]
  refine qw_run (v := .agg #[.int .u64 (hI x), .int .u64 (lI x), .int .i64 pl]) (by rfl) ?_ ?_
  · (intro w1 hC; obtain ⟨⟨t0, t1, t2, -⟩, ⟨b0, -⟩, ⟨x0, x1, x2, -, -, -⟩⟩ := HD0.out w1 hC; go_simp; first | done | (simp; done) | (simp [*]; done) | omega | (simp; omega) | (rw [IntKind.wrap_i64]; omega) | (intro hx; omega) | rfl)
  simp only [Act.put, List.setIfInBounds_toArray, List.set_cons_zero, List.set_cons_succ]
  refine qw_call (v := .int .i64 z) (f := 35) (args := #[.int .i64 F, .agg #[.int .u64 (hI x), .int .u64 (lI x), .int .i64 pl]]) (by rfl) ?_ ?_ ?_
  · (intro w1 hC; clear hC; go_simp)
  · exact fun w1 hC => (KC w1).mono fun e w' ⟨he, hb⟩ => ⟨he, keepb hb hC⟩
  simp only [Act.put, List.setIfInBounds_toArray, List.set_cons_zero, List.set_cons_succ]
  refine qw_run (v := .bool (z != 0)) (by rfl) ?_ ?_
  · (intro w1 hC; obtain ⟨⟨t0, t1, t2, -⟩, ⟨b0, -⟩, ⟨x0, x1, x2, -, -, -⟩⟩ := HD0.out w1 hC; go_simp; first | done | (simp; done) | (simp [*]; done) | omega | (simp; omega) | (rw [IntKind.wrap_i64]; omega) | (intro hx; omega) | rfl)
  simp only [Act.put, List.setIfInBounds_toArray, List.set_cons_zero, List.set_cons_succ]
  refine qw_nil ?_
  intro V1 hb
  have HB1 := hidX (keepb hb HB0.out)
  have HP1 := hidX (HP0.out.below hb)
  have HX1 := hidX (HX0.out.below hb)
  have HH1 := hidX (HH0.out.below hb)
  have HM1 := hidX (HM0.out.below hb)
  clear hb HD0 HB0 HP0 HX0 HH0 HM0 KC
  by_cases c : z = 0
  · subst c
    rw [show ((0 : Int) != 0) = false from rfl]
    have HRW : Hid (rv = fdV L (pthL L F x N) pl) := hidX (by rw [HRV.out, if_pos rfl])
    clear HRV
    go_wp2_with fail
    have HD1 : Hid (∀ X, Below V1.heap.size V1 X → TrN X B F g cap wv L ∧ Cl1 X w.heap.size (.pointer (some ⟨B, 0, none⟩)) ∧ AtP X (w.heap.size + 1) x pl) := hidX (fun X hb => ⟨HM1.out.below hb, HP1.out.below hb, HX1.out.below hb⟩)
    refine qw_region (C := fun X => Below V1.heap.size V1 X) (by kernel_rfl) (by kernel_rfl) (below_drewN (Below.refl _ _) 1) ?_
    refine qw_run (v := .pointer (some ⟨B, 0, none⟩)) (by rfl) ?_ ?_
    · (intro w1 hC; obtain ⟨⟨t0, t1, t2, -⟩, ⟨b0, -⟩, ⟨x0, x1, x2, -, -, -⟩⟩ := HD1.out w1 hC; go_simp; first | done | (simp; done) | (simp [*]; done) | omega | (simp; omega) | (rw [IntKind.wrap_i64]; omega) | (intro hx; omega) | rfl)
    simp only [Act.put, List.setIfInBounds_toArray, List.set_cons_zero, List.set_cons_succ]
    refine qw_run (v := .agg #[.int .u64 (hI x), .int .u64 (lI x), .int .i64 pl]) (by rfl) ?_ ?_
    · (intro w1 hC; obtain ⟨⟨t0, t1, t2, -⟩, ⟨b0, -⟩, ⟨x0, x1, x2, -, -, -⟩⟩ := HD1.out w1 hC; go_simp; first | done | (simp; done) | (simp [*]; done) | omega | (simp; omega) | (rw [IntKind.wrap_i64]; omega) | (intro hx; omega) | rfl)
    simp only [Act.put, List.setIfInBounds_toArray, List.set_cons_zero, List.set_cons_succ]
    refine qw_call (v := .agg #[.int .u64 (hI x), .int .u64 (lI x)]) (f := 36) (args := #[.agg #[.int .u64 (hI x), .int .u64 (lI x), .int .i64 pl]]) (by rfl) ?_ ?_ ?_
    · (intro w1 hC; clear hC; go_simp)
    · exact fun w1 hC => (KF w1).mono fun e w' ⟨he, hb⟩ => ⟨he, keepb hb hC⟩
    simp only [Act.put, List.setIfInBounds_toArray, List.set_cons_zero, List.set_cons_succ]
    refine qw_call (v := .func (.func 24) #[.agg #[.pointer (some ⟨B, 0, none⟩), .int .u64 (hI x), .int .u64 (lI x)]] #[]) (f := 7) (args := #[.pointer (some ⟨B, 0, none⟩), .agg #[.int .u64 (hI x), .int .u64 (lI x)]]) (by rfl) ?_ ?_ ?_
    · (intro w1 hC; clear hC; go_simp)
    · exact fun w1 hC => (KP w1).mono fun e w' ⟨he, hb⟩ => ⟨he, keepb hb hC⟩
    simp only [Act.put, List.setIfInBounds_toArray, List.set_cons_zero, List.set_cons_succ]
    refine qw_nil ?_
    intro Wl hb
    have HB2 := hidX (keepb hb HB1.out)
    have HP2 := hidX (HP1.out.below hb)
    have HX2 := hidX (HX1.out.below hb)
    have HH2 := hidX (HH1.out.below hb)
    have HM2 := hidX (HM1.out.below hb)
    have hWl : w.heap.size + 2 < Wl.heap.size := HH2.out.lt
    clear hb HD1 HB1 HP1 HX1 HH1 HM1 KF KP
    go_wp2_with fail
    refine (wpIn_wide (n := 9)).1 ?_
    refine rangeY 9 (by decide) (gf := 24) (ba := #[.agg #[.pointer (some ⟨B, 0, none⟩), .int .u64 (hI x), .int .u64 (lI x)]]) (lb := #[]) rfl (enters_of Try.func24 (by kernel_rfl) rfl)
      (way_each (9 - 1) N (fun z => z = B ∨ z = g) (Wl.heap.size + 2) B F g cap wv L x HR.out Wl HM2.out (.inl (.inl rfl)) (.inl (.inr rfl)) HO.out.1 HO.out.2) (Nat.le_refl _) (fun h k => h.trans k) (fun V o o' h1 h2 => kw_put (by rintro (q | q) <;> omega) (by omega) V o o' h1 h2) (Below.refl _ _) (fun _ => rfl)
      (fun pre V => ((∀ m ∈ pre, ¬ (ndAt L m).length = pl) ∧ TrN V B F g cap wv L ∧ Cl1 V w.heap.size (.pointer (some ⟨B, 0, none⟩)) ∧ AtP V (w.heap.size + 1) x pl ∧ Cl1 V (w.heap.size + 2) (.int .i64 0)) ∧ Below w.heap.size w V)
      (fun c pre V => (c = .ret ∧ ∃ ini last, pre = ini ++ [last] ∧ (∀ m ∈ ini, ¬ (ndAt L m).length = pl) ∧ (ndAt L last).length = pl ∧ Cl1 V (w.heap.size + 2) (.int .i64 last)) ∧ Below w.heap.size w V)
      (OwnFrom.and (Own.from (fun s A B row hs hg hr => ⟨hs.1, hs.2.1.kept hg hr, hs.2.2.1.kept hg hr, hs.2.2.2.1.kept6 hg hr, hs.2.2.2.2.kept hg hr⟩) _) (ownFrom_below (Nat.le_refl _) (by omega)))
      (fun c => OwnFrom.and (Own.from (fun s A B row hs hg hr => by obtain ⟨e0, ini, last, e1, e2, e3, e4⟩ := hs; exact ⟨e0, ini, last, e1, e2, e3, e4.kept hg hr⟩) _) (ownFrom_below (Nat.le_refl _) (by omega)))
      ⟨⟨(fun m hm => by cases hm), HM2.out, HP2.out, HX2.out, HH2.out⟩, HB2.out⟩
      (fun y a' V => a' = { tmps := #[.pointer (some ⟨B, 0, none⟩), .agg #[.int .u64 (hI x), .int .u64 (lI x), .int .i64 pl], .pointer (some ⟨w.heap.size, 0, none⟩), .pointer (some ⟨w.heap.size + 1, 0, none⟩), .pointer (some ⟨w.heap.size + 1 + 1, 0, none⟩), .int .i64 y, .pointer (some ⟨B, 0, none⟩), .pointer (some ⟨B, 0, none⟩), .pointer (some ⟨B, 0, none⟩), .int .i64 F, .agg #[.int .u64 (hI x), .int .u64 (lI x), .int .i64 pl], .int .i64 0, .bool false, .pointer (some ⟨B, 0, none⟩), .agg #[.int .u64 (hI x), .int .u64 (lI x), .int .i64 pl], .agg #[.int .u64 (hI x), .int .u64 (lI x)], .func (.func 24) #[.agg #[.pointer (some ⟨B, 0, none⟩), .int .u64 (hI x), .int .u64 (lI x)]] #[], .int .i64 y, undef, undef, undef, undef, undef, undef, undef, undef, undef, undef, undef, undef, undef], defers := [] })
      (fun y a' s A B row hs hg hr => hs) ?assign ?body ?done ?stop
    case assign =>
      rintro lo pre y V K hi hK
      have HK := hidX (hK ({ tmps := #[.pointer (some ⟨B, 0, none⟩), .agg #[.int .u64 (hI x), .int .u64 (lI x), .int .i64 pl], .pointer (some ⟨w.heap.size, 0, none⟩), .pointer (some ⟨w.heap.size + 1, 0, none⟩), .pointer (some ⟨w.heap.size + 1 + 1, 0, none⟩), .int .i64 y, .pointer (some ⟨B, 0, none⟩), .pointer (some ⟨B, 0, none⟩), .pointer (some ⟨B, 0, none⟩), .int .i64 F, .agg #[.int .u64 (hI x), .int .u64 (lI x), .int .i64 pl], .int .i64 0, .bool false, .pointer (some ⟨B, 0, none⟩), .agg #[.int .u64 (hI x), .int .u64 (lI x), .int .i64 pl], .agg #[.int .u64 (hI x), .int .u64 (lI x)], .func (.func 24) #[.agg #[.pointer (some ⟨B, 0, none⟩), .int .u64 (hI x), .int .u64 (lI x)]] #[], .int .i64 y, undef, undef, undef, undef, undef, undef, undef, undef, undef, undef, undef, undef, undef], defers := [] }) V (KeepsFrom.refl _ _) (KW.refl _ _ _) hi rfl)
      clear hK hi
      unfold encI
      simp only [List.zip_toArray, List.zip_cons_cons, List.zip_nil_left, List.zip_nil_right, List.foldl_toArray, List.foldl_cons, List.foldl_nil, List.setIfInBounds_toArray, List.set_cons_zero, List.set_cons_succ, Array.zip]
      gi_wp2
      exact HK.out
    case body =>
      rintro lo pre y a' V hl - ⟨⟨hi0, hi1, hi2, hi3, hi4⟩, hi5⟩ rfl hlt
      have hyn : isN L y = true := by
        have hm : y ∈ pthL L F x N := hlt.subset (by simp)
        unfold pthL at hm
        split at hm
        · exact way_in L x N 0 y (HR.out (by assumption)) hm
        · cases hm
      have hyr : 0 ≤ y ∧ y < L.length := by unfold isN at hyn; simpa using hyn
      obtain ⟨k, rfl⟩ : ∃ k : Nat, y = k := ⟨y.toNat, by omega⟩
      have hk : k < L.length := by omega
      have ok := ndAt_ok HO.out.1 k
      have HD : Hid (∀ X, Below V.heap.size V X → TrN X B F g cap wv L ∧ Cl1 X w.heap.size (.pointer (some ⟨B, 0, none⟩)) ∧ AtP X (w.heap.size + 1) x pl ∧ AtN X g (k * 6) (ndAt L k)) := hidX (fun X hb => ⟨hi1.below hb, hi2.below hb, hi3.below hb, by rw [ndAt_in k hk]; exact (hi1.row k hk).below hb⟩)
      have HI0 := hidX hi0
      have HF : Hid (∀ X, Below V.heap.size V X → (KeepsFrom Wl.heap.size V X ∧ KW (fun z => z = B ∨ z = g) (Wl.heap.size + 2) V X) ∧ TrN X B F g cap wv L ∧ Cl1 X w.heap.size (.pointer (some ⟨B, 0, none⟩)) ∧ AtP X (w.heap.size + 1) x pl ∧ Cl1 X (w.heap.size + 2) (.int .i64 0) ∧ Below w.heap.size w X) := hidX (fun X hb => ⟨⟨⟨hb.size, fun z o h1 h2 _ => (hb.block z (Array.getElem?_eq_some_iff.1 h2).1).trans h2⟩, kw_below hb⟩, hi1.below hb, hi2.below hb, hi3.below hb, hi4.below hb, keepb hb hi5⟩)
      have HNd : Hid (∀ v, (ndAt L k).length = v → (ndAt L k).length = v) := hidX (fun v h => h)
      clear hyn hyr hi0 hi1 hi2 hi3 hi4 hi5 hlt
      have HPre : Hid ((¬ (ndAt L k).length = pl → ∀ m ∈ pre ++ [(k : Int)], ¬ (ndAt L m).length = pl)) := hidX (fun q m hm => by
        rcases List.mem_append.mp hm with hm | hm
        · exact HI0.out m hm
        · rw [List.mem_singleton] at hm
          rw [hm]
          exact q)
      have HRt : Hid ((ndAt L k).length = pl → ∃ ini last, pre ++ [(k : Int)] = ini ++ [last] ∧ (∀ m ∈ ini, ¬ (ndAt L m).length = pl) ∧ (ndAt L last).length = pl ∧ (k : Int) = last) := hidX (fun q => ⟨pre, k, rfl, HI0.out, q, rfl⟩)
      clear HI0 HNd
      revert ok HD HPre HRt
      generalize ndAt L k = nd
      intro ok HD HPre HRt
      have hwl : IntKind.i64.wrap nd.length = nd.length := by unfold Nd.ok at ok; rw [IntKind.wrap_i64]; omega
      clear ok
      gi_wp2_with fail
      refine q_regionR (C := fun X => Below V.heap.size V X) (by rintro ⟨_, _, h⟩; exact h) (by kernel_rfl) (by kernel_rfl) (by kernel_rfl) (below_drewN (Below.refl _ _) 1) ?_
      refine qw_run (v := .pointer (some ⟨B, 0, none⟩)) (by rfl) ?_ ?_
      · (intro w1 hC; obtain ⟨⟨t0, t1, t2, -⟩, ⟨b0, -⟩, ⟨x0, x1, x2, -, -, -⟩, ⟨-, -, -, -, d4, -⟩⟩ := HD.out w1 hC; go_simp; first | done | (simp; done) | (simp [*]; done) | omega | (simp; omega) | (rw [IntKind.wrap_i64]; omega) | (intro hx; omega) | rfl)
      simp only [Act.put, List.setIfInBounds_toArray, List.set_cons_zero, List.set_cons_succ]
      refine qw_run (v := .pointer (some ⟨B, 0, none⟩)) (by rfl) ?_ ?_
      · (intro w1 hC; obtain ⟨⟨t0, t1, t2, -⟩, ⟨b0, -⟩, ⟨x0, x1, x2, -, -, -⟩, ⟨-, -, -, -, d4, -⟩⟩ := HD.out w1 hC; go_simp; first | done | (simp; done) | (simp [*]; done) | omega | (simp; omega) | (rw [IntKind.wrap_i64]; omega) | (intro hx; omega) | rfl)
      simp only [Act.put, List.setIfInBounds_toArray, List.set_cons_zero, List.set_cons_succ]
      refine qw_run (v := .pointer (some ⟨B, 1, none⟩)) (by rfl) ?_ ?_
      · (intro w1 hC; obtain ⟨⟨t0, t1, t2, -⟩, ⟨b0, -⟩, ⟨x0, x1, x2, -, -, -⟩, ⟨-, -, -, -, d4, -⟩⟩ := HD.out w1 hC; go_simp; first | done | (simp; done) | (simp [*]; done) | omega | (simp; omega) | (rw [IntKind.wrap_i64]; omega) | (intro hx; omega) | rfl)
      simp only [Act.put, List.setIfInBounds_toArray, List.set_cons_zero, List.set_cons_succ]
      refine qw_run (v := .slice (some ⟨g, 0, none⟩) L.length cap) (by rfl) ?_ ?_
      · (intro w1 hC; obtain ⟨⟨t0, t1, t2, -⟩, ⟨b0, -⟩, ⟨x0, x1, x2, -, -, -⟩, ⟨-, -, -, -, d4, -⟩⟩ := HD.out w1 hC; go_simp; first | done | (simp; done) | (simp [*]; done) | omega | (simp; omega) | (rw [IntKind.wrap_i64]; omega) | (intro hx; omega) | rfl)
      simp only [Act.put, List.setIfInBounds_toArray, List.set_cons_zero, List.set_cons_succ]
      refine qw_run (v := .int .i64 (k : Int)) (by rfl) ?_ ?_
      · (intro w1 hC; obtain ⟨⟨t0, t1, t2, -⟩, ⟨b0, -⟩, ⟨x0, x1, x2, -, -, -⟩, ⟨-, -, -, -, d4, -⟩⟩ := HD.out w1 hC; go_simp; first | done | (simp; done) | (simp [*]; done) | omega | (simp; omega) | (rw [IntKind.wrap_i64]; omega) | (intro hx; omega) | rfl)
      simp only [Act.put, List.setIfInBounds_toArray, List.set_cons_zero, List.set_cons_succ]
      refine qw_run (v := .pointer (some ⟨g, k * 6, none⟩)) (by rfl) ?_ ?_
      · (intro w1 hC; obtain ⟨⟨t0, t1, t2, -⟩, ⟨b0, -⟩, ⟨x0, x1, x2, -, -, -⟩, ⟨-, -, -, -, d4, -⟩⟩ := HD.out w1 hC; go_simp; first | done | (simp; done) | (simp [*]; done) | omega | (simp; omega) | (rw [IntKind.wrap_i64]; omega) | (intro hx; omega) | rfl)
      simp only [Act.put, List.setIfInBounds_toArray, List.set_cons_zero, List.set_cons_succ]
      refine qw_run (v := .pointer (some ⟨g, k * 6 + 4, none⟩)) (by rfl) ?_ ?_
      · (intro w1 hC; obtain ⟨⟨t0, t1, t2, -⟩, ⟨b0, -⟩, ⟨x0, x1, x2, -, -, -⟩, ⟨-, -, -, -, d4, -⟩⟩ := HD.out w1 hC; go_simp; first | done | (simp; done) | (simp [*]; done) | omega | (simp; omega) | (rw [IntKind.wrap_i64]; omega) | (intro hx; omega) | rfl)
      simp only [Act.put, List.setIfInBounds_toArray, List.set_cons_zero, List.set_cons_succ]
      refine qw_run (v := .int .u8 nd.length) (by rfl) ?_ ?_
      · (intro w1 hC; obtain ⟨⟨t0, t1, t2, -⟩, ⟨b0, -⟩, ⟨x0, x1, x2, -, -, -⟩, ⟨-, -, -, -, d4, -⟩⟩ := HD.out w1 hC; go_simp; first | done | (simp; done) | (simp [*]; done) | omega | (simp; omega) | (rw [IntKind.wrap_i64]; omega) | (intro hx; omega) | rfl)
      simp only [Act.put, List.setIfInBounds_toArray, List.set_cons_zero, List.set_cons_succ]
      refine qw_run (v := .int .i64 nd.length) (by rfl) ?_ ?_
      · (intro w1 hC; obtain ⟨⟨t0, t1, t2, -⟩, ⟨b0, -⟩, ⟨x0, x1, x2, -, -, -⟩, ⟨-, -, -, -, d4, -⟩⟩ := HD.out w1 hC; go_simp; first | done | (simp; done) | (simp [*]; done) | omega | (simp; omega) | (rw [IntKind.wrap_i64]; omega) | (intro hx; omega) | rfl)
      simp only [Act.put, List.setIfInBounds_toArray, List.set_cons_zero, List.set_cons_succ]
      refine qw_run (v := .pointer (some ⟨w.heap.size + 1, 2, none⟩)) (by rfl) ?_ ?_
      · (intro w1 hC; obtain ⟨⟨t0, t1, t2, -⟩, ⟨b0, -⟩, ⟨x0, x1, x2, -, -, -⟩, ⟨-, -, -, -, d4, -⟩⟩ := HD.out w1 hC; go_simp; first | done | (simp; done) | (simp [*]; done) | omega | (simp; omega) | (rw [IntKind.wrap_i64]; omega) | (intro hx; omega) | rfl)
      simp only [Act.put, List.setIfInBounds_toArray, List.set_cons_zero, List.set_cons_succ]
      refine qw_run (v := .int .i64 pl) (by rfl) ?_ ?_
      · (intro w1 hC; obtain ⟨⟨t0, t1, t2, -⟩, ⟨b0, -⟩, ⟨x0, x1, x2, -, -, -⟩, ⟨-, -, -, -, d4, -⟩⟩ := HD.out w1 hC; go_simp; first | done | (simp; done) | (simp [*]; done) | omega | (simp; omega) | (rw [IntKind.wrap_i64]; omega) | (intro hx; omega) | rfl)
      simp only [Act.put, List.setIfInBounds_toArray, List.set_cons_zero, List.set_cons_succ]
      refine qw_run (v := .bool (nd.length == pl)) (by rfl) ?_ ?_
      · (intro w1 hC; obtain ⟨⟨t0, t1, t2, -⟩, ⟨b0, -⟩, ⟨x0, x1, x2, -, -, -⟩, ⟨-, -, -, -, d4, -⟩⟩ := HD.out w1 hC; go_simp; first | done | (simp; done) | (simp [*]; done) | omega | (simp; omega) | (rw [IntKind.wrap_i64]; omega) | (intro hx; omega) | rfl)
      simp only [Act.put, List.setIfInBounds_toArray, List.set_cons_zero, List.set_cons_succ]
      refine qw_nil ?_
      intro X3 hC3
      have HG := hidX (HF.out X3 hC3)
      clear hC3 HD HF hwl
      by_cases c : nd.length = pl
      · have c' : (nd.length == pl) = true := by simpa using c
        have HC := hidX c
        clear c
        obtain ⟨h1, h2⟩ := HG.out.2.2.2.2.1
        gi_wp2
        obtain ⟨⟨a1, a2⟩, -, -, -, a6, a7⟩ := HG.out
        obtain ⟨ini, last, e1, e2, e3, e4⟩ := HRt.out HC.out
        refine ⟨⟨by simpa using a1.1, fun z o h1 h2 h3 => (hSet6 _ (by omega)).trans (a1.same z o h1 h2 h3)⟩, a2.trans (kw_set (o := 0) (by rintro (q | q) <;> omega) (by omega) _ _), ⟨rfl, ini, last, e1, e2, e3, by rw [← e4]; exact a6.set _⟩, a7.setCell (p := ⟨w.heap.size + 2, 0, none⟩) (by simp) _⟩
      · have c' : (nd.length == pl) = false := by simpa using c
        have HC := hidX c
        clear c
        gi_wp2
        obtain ⟨⟨a1, a2⟩, a3, a4, a5, a6, a7⟩ := HG.out
        exact ⟨a1, a2, ⟨HPre.out HC.out, a3, a4, a5, a6⟩, a7⟩
    case done =>
      rintro D ys V hD rfl ⟨⟨hi0, -, -, -, hi4⟩, hi5⟩ hK
      have HE : Hid (rv = -1) := hidX (by rw [HRW.out, fd_none L _ pl hi0])
      obtain rfl : rv = -1 := HE.out
      have HH := hidX (hi4.set (.int .i64 (-1)))
      have HB := hidX (hi5.setCell (p := ⟨w.heap.size + 2, 0, none⟩) (by simp) (.int .i64 (-1)))
      have HK : Hid ((V.setCell ⟨w.heap.size + 2, 0, none⟩ (.int .i64 (-1))).heap[D]? = some (.deferred (some []))) := hidX ((hSet6 _ (by omega)).trans hK)
      obtain ⟨h1, h2⟩ := hi4
      clear hi0 hi5 HE HRW
      refine wl_nil8 (P := Try.prog) (ops := #[]) ?_
      go_wp2
      refine ⟨by simp, .inl ⟨_, _, rfl, run_takeDeferred HK.out, ?_⟩⟩
      obtain ⟨r0, -⟩ := HH.out.kept (grownBy_putObj' _ D (.deferred none)) (fun r e => by cases e; exact ⟨_, HK.out, rfl⟩)
      refine ⟨.int .i64 (-1), ?_, rfl, HB.out.trans (belowK_b (w := w) (Nat.le_refl _) _ D _ _ (by omega) HK.out rfl rfl)⟩
      simp [results, Try.results17, go_sem, r0]
    case stop =>
      rintro D c pre V hD hpre ⟨⟨rfl, ini, last, e1, e2, e3, e4⟩, hi5⟩ hK
      obtain rfl : rv = last := by rw [HRW.out, fd_some L _ ini last pl (by rw [← e1]; exact hpre) e2 e3]
      refine (wpIn_wide (n := 9)).2 ?_
      go_wp2
      refine ⟨by simp, .inl ⟨_, _, rfl, run_takeDeferred hK, ?_⟩⟩
      obtain ⟨r0, -⟩ := e4.kept (grownBy_putObj' _ D (.deferred none)) (fun r e => by cases e; exact ⟨_, hK, rfl⟩)
      refine ⟨_, ?_, rfl, hi5.trans (belowK_b (w := w) (Nat.le_refl _) _ D _ _ (by omega) hK rfl rfl)⟩
      simp [results, Try.results17, go_sem, r0]
  · have d1 : (z != 0) = true := by simpa using c
    obtain rfl : rv = -1 := by rw [HRV.out, if_neg c]
    have HH := hidX (HH1.out.set (.int .i64 (-1)))
    have HB := hidX (HB1.out.setCell (p := ⟨w.heap.size + 2, 0, none⟩) (by simp) (.int .i64 (-1)))
    obtain ⟨h1, h2⟩ := HH1.out
    clear c HRV
    go_wp2
    obtain ⟨r0, -⟩ := HH.out
    refine ⟨.int .i64 (-1), ?_, rfl, HB.out⟩
    simp [results, Try.results17, go_sem, r0]
end Go.Proofs.Ytofpbommhklooaa
/-
  Plain: a tree's nodes stand in the order of their prefixes; a prefix's node is found on the way of its first address.
-/
namespace Go.Proofs.Ytofpbommhklooaa
open Go.RowKit
set_option linter.unusedSimpArgs false
set_option linter.unusedVariables false

theorem cut_lt {x y : BitVec 128} {p n m : Int} (h0 : 0 ≤ p) (hn : p < n) (hm : p < m) (hp : p < 128) (h : cutW x p = cutW y p) (hx : bitZ x p = 0) (hy : bitZ y p = 1) : (cutW x n).toNat < (cutW y m).toNat := by
  have cb : ∀ (z : BitVec 128) (k : Int), p < k → bitZ (cutW z k) p = bitZ z p := by
    intro z k hk
    unfold bitZ
    rw [bitB_in _ p h0 (by omega), bitB_in _ p h0 (by omega)]
    unfold cutW
    rw [BitVec.getLsbD_and, maskW_bit k _ (by omega)]
    have : 128 - k.toNat ≤ (127 - p).toNat := by omega
    simp [this]
  have up : ∀ (z : BitVec 128) (k : Int), p < k → (cutW z k).toNat / 2 ^ (127 - p.toNat) / 2 = z.toNat / 2 ^ (128 - p.toNat) := by
    intro z k hk
    have e := congrArg BitVec.toNat (cut_cut z p k h0 (by omega))
    rw [cut_nat (cutW z k) p, cut_nat z p] at e
    have hq : 2 ^ (128 - p.toNat) = 2 ^ (127 - p.toNat) * 2 := by rw [← Nat.pow_succ]; congr 1; omega
    rw [Nat.div_div_eq_div_mul, ← hq]
    exact Nat.eq_of_mul_eq_mul_right (Nat.two_pow_pos _) e
  have e := congrArg BitVec.toNat h
  rw [cut_nat, cut_nat] at e
  have e2 := Nat.eq_of_mul_eq_mul_right (Nat.two_pow_pos _) e
  have bx := (cb x n hn).trans hx
  have bY := (cb y m hm).trans hy
  unfold bitZ at bx bY
  rw [bitB_in _ p h0 (by omega), bitDivF] at bx bY
  have e3 : (127 - p).toNat = 127 - p.toNat := by omega
  rw [e3] at bx bY
  refine below_of _ _ (2 ^ (127 - p.toNat)) (Nat.two_pow_pos _) ((up x n hn).trans (e2.trans (up y m hm).symm)) ?_ ?_
  · simp only [decide_eq_true_eq] at bx
    split at bx
    · omega
    · omega
  · simp only [decide_eq_true_eq] at bY
    split at bY
    · assumption
    · omega
def pfA (ws : List (BitVec 128)) (L : List Nd) (i : Nat) : BitVec 128 := cutW (ad ws L i) (ln L i)
section
variable {l : List Rte} {ws : List (BitVec 128)} {L : List Nd}
theorem Tre.adj (t : Tre l ws L) {i : Nat} (h : i + 1 < L.length) : pcmpZ (pfA ws L i) (ln L i) (pfA ws L (i + 1)) (ln L (i + 1)) < 0 := by
  obtain ⟨s1, s2, s3, s4⟩ := t.inv.stp i h
  have b1 := t.ln128 (i := i) (by omega)
  have b2 := t.ln128 h
  rw [pcmp_lt]
  unfold pfA
  by_cases c : ln L (i + 1) = ln L i + 1
  · rw [c, show ln L i + 1 - 1 = ln L i by omega] at s3
    have : (cutW (ad ws L i) (ln L i)).toNat ≤ (cutW (ad ws L (i + 1)) (ln L (i + 1))).toNat := by
      rw [← s3, ← cut_cut (ad ws L (i + 1)) (ln L i) (ln L (i + 1)) b1.1 (by omega), cut_nat (cutW (ad ws L (i + 1)) (ln L (i + 1)))]
      exact Nat.div_mul_le_self _ _
    omega
  · obtain ⟨q1, q2, -⟩ := s4 (by omega)
    left
    exact cut_lt (p := ln L (i + 1) - 1) (by omega) (by omega) (by omega) (by omega) s3.symm q1 q2
theorem Tre.lt (t : Tre l ws L) {i : Nat} : ∀ {j : Nat}, i < j → j < L.length → pcmpZ (pfA ws L i) (ln L i) (pfA ws L j) (ln L j) < 0
  | 0, h, _ => by omega
  | j + 1, h, hj => by
    have a := t.adj hj
    by_cases c : i = j
    · subst c; exact a
    · have b := t.lt (i := i) (j := j) (by omega) (by omega)
      rw [pcmp_lt] at a b ⊢
      omega
/-- A word lies in one node of a length at most. -/
theorem Tre.uniq (t : Tre l ws L) {x : BitVec 128} {i j : Nat} (hi : i < L.length) (hj : j < L.length) (hl : ln L i = ln L j) (h1 : InN ws L x i) (h2 : InN ws L x j) : i = j := by
  have e : pfA ws L i = pfA ws L j := by
    unfold pfA
    unfold InN at h1 h2
    rw [← h1, ← h2, hl]
  apply Classical.byContradiction
  intro c
  by_cases d : i < j
  · have := t.lt d hj
    rw [pcmp_lt, e, hl] at this; omega
  · have := t.lt (i := j) (j := i) (by omega) hi
    rw [pcmp_lt, e, hl] at this; omega
theorem find_one (L : List Nd) (pl : Int) (f : Nat → Int) : ∀ (l : List Int) (k : Nat), (∀ (j : Nat) (n : Int), l[j]? = some n → (ndAt L n).length = (k : Int) + j) → fdV L l pl = if (k : Int) ≤ pl ∧ pl < (k : Int) + l.length then (l[(pl - k).toNat]?).getD (-1) else -1
  | [], k, _ => by
    unfold fdV
    rw [if_neg (by simp only [List.length_nil]; omega)]; rfl
  | n :: l, k, h => by
    have h0 := h 0 n rfl
    have ih := find_one L pl f l (k + 1) (fun j m hj => by have := h (j + 1) m hj; rw [this]; push_cast; omega)
    unfold fdV at ih ⊢
    rw [List.find?_cons]
    by_cases c : pl = (k : Int)
    · have : ((ndAt L n).length == pl) = true := by rw [h0, c]; simp
      rw [this, if_pos ⟨by omega, by simp only [List.length_cons]; push_cast; omega⟩, show (pl - (k : Int)).toNat = 0 by omega]
      rfl
    · have : ((ndAt L n).length == pl) = false := by rw [h0]; simp; omega
      rw [this]
      simp only
      rw [ih]
      by_cases d : ((k + 1 : Nat) : Int) ≤ pl ∧ pl < ((k + 1 : Nat) : Int) + l.length
      · rw [if_pos d, if_pos ⟨by omega, by simp only [List.length_cons]; push_cast; omega⟩, show (pl - (k : Int)).toNat = (pl - ((k + 1 : Nat) : Int)).toNat + 1 by omega, List.getElem?_cons_succ]
      · rw [if_neg d, if_neg (fun q => d ⟨by omega, by have := q.2; simp only [List.length_cons] at this; push_cast at this; omega⟩)]
/-- What Find tells along a way. -/
theorem Tre.find (t : Tre l ws L) {x : BitVec 128} {N : Nat} (w : WayQ ws L x 0 L.length N) (pl : Int) : (∃ m : Nat, m < L.length ∧ ln L m = pl ∧ InN ws L x m ∧ fdV L (wayL L x N 0) pl = (m : Int)) ∨ (fdV L (wayL L x N 0) pl = -1 ∧ ∀ m, m < L.length → ln L m = pl → ¬ InN ws L x m) := by
  have w1 := w.nod
  have w2 := w.all
  rw [Int.natCast_zero] at w1 w2
  have hl := find_one L pl (fun _ => 0) (wayL L x N 0) 0 (fun j n hj => by
    obtain ⟨m, rfl, _, q2, q3, _⟩ := w1 j n hj
    rw [nd8_at q2]
    show ln L m = _
    rw [q3, t.ln0]; simp)
  rw [hl, wayL_len]
  by_cases c : ((0 : Nat) : Int) ≤ pl ∧ pl < ((0 : Nat) : Int) + N
  · left
    rw [if_pos c]
    have hlt : (pl - ((0 : Nat) : Int)).toNat < (wayL L x N 0).length := by rw [wayL_len]; omega
    obtain ⟨m, q0, _, q2, q3, q4⟩ := w1 _ _ (List.getElem?_eq_getElem hlt)
    refine ⟨m, q2, by rw [q3, t.ln0]; omega, q4, ?_⟩
    rw [List.getElem?_eq_getElem hlt, Option.getD_some, q0]
  · right
    rw [if_neg c]
    refine ⟨rfl, fun m hm hl2 hx => ?_⟩
    obtain ⟨j, hj⟩ := w2 m (by omega) hm hx
    obtain ⟨m', q0, _, _, q3, _⟩ := w1 j _ hj
    have : j < N := by
      have := (List.getElem?_eq_some_iff.mp hj).1
      rwa [wayL_len] at this
    have e : m = m' := by omega
    subst e
    rw [t.ln0] at q3
    omega
/-- The node of a route. -/
theorem Tre.route (t : Tre l ws L) {r : Rte} (hr : r ∈ l) {m : Nat} (hm : m < L.length) (hl : ln L m = r.1.2) (hx : InN ws L r.1.1 m) : hp L m = r.2 := by
  obtain ⟨i, q1, q2, q3, q4⟩ := t.rts r hr
  have hi : InN ws L r.1.1 i := by unfold InN; rw [q3]
  have := t.uniq hm q1 (by rw [hl, q2]) hx hi
  rw [this]; exact q4
theorem Tre.hasr (t : Tre l ws L) {r : Rte} (hr : r ∈ l) : ∃ i, i < L.length ∧ ln L i = r.1.2 ∧ InN ws L r.1.1 i := by
  obtain ⟨i, q1, q2, q3, q4⟩ := t.rts r hr
  exact ⟨i, q1, q2, by unfold InN; rw [q3]⟩
end
theorem chkIn8 {F : Int} {x : BitVec 128} {n : Int} (hf : fam F = true) (h0 : 0 ≤ n) (h1 : n ≤ F) (hc : cutW x n = x) : checkE F x n = 0 := by
  unfold checkE
  rw [if_pos hf, if_neg (by omega), if_neg (by omega), if_pos (by simpa using hc)]
theorem check_out {F : Int} {x : BitVec 128} {n : Int} (h : checkE F x n = 0) : fam F = true ∧ 0 ≤ n ∧ n ≤ F ∧ cutW x n = x := by
  unfold checkE at h
  split at h
  · rename_i hf
    split at h
    · omega
    · split at h
      · omega
      · split at h
        · rename_i a b c
          exact ⟨hf, by omega, by omega, by simpa using c⟩
        · omega
  · omega
theorem check_fam {F : Int} {x : BitVec 128} {n : Int} (h : checkE F x n = 0) : checkE F x F = 0 := by
  obtain ⟨a, b, c, d⟩ := check_out h
  refine chkIn8 a (by omega) (Int.le_refl _) ?_
  rw [← d, cut_cut2 _ _ _ b c]
/-- What At tells of a word and a length. -/
theorem of_in {F : Int} {x : BitVec 128} {n : Int} (hf : fam F = true) (h0 : 0 ≤ n) (h1 : n ≤ F) (hx : cutW x F = x) : ofV F x n = cutW x n ∧ ofN F x n = n := by
  have hr : rightE F x = 0 := by
    unfold rightE
    rw [if_pos hf, if_pos (show x &&& maskW F = x from hx)]
  have e : ofE F x n = 0 := by
    unfold ofE
    rw [if_pos hr]
    exact chkIn8 hf h0 h1 (by rw [cut_cut2 _ _ _ h0 (Int.le_refl _)])
  unfold ofV ofN
  rw [if_pos e, if_pos e]
  exact ⟨rfl, rfl⟩
theorem Tre.wfam {l : List Rte} {ws : List (BitVec 128)} {L : List Nd} (t : Tre l ws L) {F : Int} (h0 : 0 ≤ F) (hr : ∀ r ∈ l, RtH F r) : ∀ x ∈ ws, cutW x F = x := by
  intro x hx
  rcases t.wr x hx with rfl | ⟨r, q1, rfl⟩
  · unfold cutW; simp
  · obtain ⟨a, b, c⟩ := (hr r q1).1
    rw [← c, cut_cut2 _ _ _ a b]
end Go.Proofs.Ytofpbommhklooaa
