/-
  Part 5 of the proof: 9 texts, one behind the other.
-/
import Derived.Test.YtiachojhnbicaabDoorPart4
import Derived.Test.YtiachojhnbicaabDoorPart2
import Derived.Test.YtiachojhnbicaabDoorPart1
import Derived.Test.YtiachojhnbicaabDoorPart3
import Derived.Lib.BitFns
namespace Go.Proofs.YtiachojhnbicaabDoor
open Go.RowKit Go.Shelf
set_option linter.unusedSimpArgs false
set_option linter.unusedVariables false

def PtR21 (w : World) (v : Value) (L : List Pt) : Prop := ∃ ao c, v = .slice ao L.length c ∧ L.length ≤ c ∧ (L = [] ∨ ∃ b off, ao = some ⟨b, off, none⟩ ∧ ∀ j p, L[j]? = some p → ∃ vx, w.cell? ⟨b, off + j * 3, none⟩ = some (.int .i64 p.k) ∧ w.cell? ⟨b, off + j * 3 + 1, none⟩ = some (.int .i64 p.d) ∧ w.cell? ⟨b, off + j * 3 + 2, none⟩ = some vx ∧ RwX cB w vx p.x ∧ RowA w 1 vx p.x.length (p.x.map cB))
theorem PtR21.below {w w' : World} {v : Value} {L : List Pt} (h : PtR21 w v L) (hb : Below w.heap.size w w') : PtR21 w' v L := by
  obtain ⟨ao, c, e, hc, h⟩ := h
  refine ⟨ao, c, e, hc, h.imp id ?_⟩
  rintro ⟨b, off, e, h⟩
  refine ⟨b, off, e, fun j p hj => ?_⟩
  obtain ⟨vx, h1, h2, h3, h4, h5⟩ := h j p hj
  exact ⟨vx, keepc hb h1, keepc hb h2, keepc hb h3, h4.below hb, h5.below hb⟩
theorem ptr_at {w : World} {ao : Option Addr} {n c : Nat} {L : List Pt} (h : PtR21 w (.slice ao n c) L) {j : Nat} {p : Pt} (hj : L[j]? = some p) : ∃ b off xo xc, ao = some ⟨b, off, none⟩ ∧ w.cell? ⟨b, off + j * 3, none⟩ = some (.int .i64 p.k) ∧ w.cell? ⟨b, off + j * 3 + 1, none⟩ = some (.int .i64 p.d) ∧ w.cell? ⟨b, off + j * 3 + 2, none⟩ = some (.slice xo p.x.length xc) ∧ RwX cB w (.slice xo p.x.length xc) p.x ∧ RowA w 1 (.slice xo p.x.length xc) p.x.length (p.x.map cB) := by
  obtain ⟨ao', c', e, hc, h⟩ := h
  injection e with e1 e2 e3
  subst e1
  rcases h with h | ⟨b, off, e2, h⟩
  · rw [h] at hj; cases hj
  · obtain ⟨vx, h1, h2, h3, h4, h5⟩ := h j p hj
    obtain ⟨xo, xc, hx, -⟩ := id h4
    subst hx
    exact ⟨b, off, xo, xc, e2, h1, h2, h3, h4, h5⟩
theorem dfo_ptr {base : Nat} {W : World} {v : Value} {a b : List Nat} (h : DfO base W v a b) : PtR21 W v (dfL a b) := by
  unfold DfO at h
  unfold dfL
  by_cases hab : a = b
  · rw [if_pos hab] at h ⊢
    exact ⟨none, 0, h, Nat.le_refl _, .inl rfl⟩
  · rw [if_neg hab] at h ⊢
    obtain ⟨z, vx, rfl, h1, h2, -⟩ := h
    refine ⟨_, 1, rfl, Nat.le_refl _, .inr ⟨z, 0, rfl, fun j p hj => ?_⟩⟩
    have hj0 : j = 0 := by have := (List.getElem?_eq_some_iff.1 hj).1; simpa using this
    subst hj0
    simp only [List.getElem?_cons_zero, Option.some.injEq] at hj
    subst hj
    refine ⟨vx, ?_, ?_, ?_, own_rwx h2, own_rowA h2⟩
    · exact (h1.cellAt 0 (by decide)).trans rfl
    · exact (h1.cellAt 1 (by decide)).trans rfl
    · exact (h1.cellAt 2 (by decide)).trans rfl
theorem dfX_lt {a b : List Nat} (hy : ∀ z ∈ b, z < 256) : ∀ z ∈ dfX a b, z < 256 := fun z h => hy z (List.mem_of_mem_drop (List.mem_of_mem_take h))
theorem dfL_lt {a b : List Nat} (hy : ∀ z ∈ b, z < 256) : ∀ p ∈ dfL a b, ∀ z ∈ p.x, z < 256 := by
  intro p hp
  unfold dfL at hp
  split at hp
  · cases hp
  · rw [List.mem_singleton] at hp
    subst hp
    exact dfX_lt hy
def wt21 (L : List Pt) : Nat := (L.map fun p => p.x.length).sum
theorem wt21_take {L : List Pt} {k : Nat} {p : Pt} (h : L[k]? = some p) : wt21 (L.take (k + 1)) = wt21 (L.take k) + p.x.length := by
  unfold wt21
  rw [List.take_add_one, h]
  simp
theorem wt21_le {L : List Pt} (k : Nat) : wt21 (L.take k) ≤ wt21 L := by
  unfold wt21
  conv => rhs; rw [← List.take_append_drop k L]
  rw [List.map_append, List.sum_append]
  omega
def keyP (p : Pt) : Int × Int × List Nat := (p.k, p.d, p.x)
def smL (L M : List Pt) : Bool := decide (L.map keyP = M.map keyP)
theorem keyP_inj {p q : Pt} (h : keyP p = keyP q) : p = q := by
  cases p; cases q
  unfold keyP at h
  simpa using h
theorem map_key_inj : ∀ {L M : List Pt}, L.map keyP = M.map keyP → L = M
  | [], [], _ => rfl
  | [], _ :: _, h => by cases h
  | _ :: _, [], h => by cases h
  | p :: L, q :: M, h => by
    rw [List.map_cons, List.map_cons] at h
    injection h with h1 h2
    rw [keyP_inj h1, map_key_inj h2]
theorem smL_iff (L M : List Pt) : smL L M = true ↔ L = M := by
  unfold smL
  rw [decide_eq_true_eq]
  exact ⟨map_key_inj, fun h => by rw [h]⟩
theorem smL_self (L : List Pt) : smL L L = true := (smL_iff L L).2 rfl
theorem smL_ne {L M : List Pt} (h : L ≠ M) : smL L M = false := by
  cases e : smL L M with
  | false => rfl
  | true => exact absurd ((smL_iff L M).1 e) h
def Bp21 (W : World) (v u : Value) (L M : List Pt) : Prop := PtR21 W v L ∧ PtR21 W u M
theorem Bp21.below {W W' : World} {v u : Value} {L M : List Pt} (h : Bp21 W v u L M) (hb : Below W.heap.size W W') : Bp21 W' v u L M := ⟨h.1.below hb, h.2.below hb⟩
set_option maxRecDepth 100000 in
set_option maxHeartbeats 8000000 in
theorem same21 (v u : Value) (L M : List Pt) (w : World) (hv : PtR21 w v L) (hu : PtR21 w u M) (hx : ∀ p ∈ L, ∀ z ∈ p.x, z < 256) (hy : ∀ p ∈ M, ∀ z ∈ p.x, z < 256) (hl : L.length ≤ 140737488355328) :
    Calls Tryd.prog 21 #[v, u] w fun e w' => e = .returned (.bool (smL L M)) ∧ Below w.heap.size w w' := by
  obtain ⟨ao, c, hvf, -⟩ := id hv
  obtain ⟨bo, d, huf, -⟩ := id hu
  subst hvf huf
  have HB : Hid (Below w.heap.size w w) := Below.refl _ _
  by_cases hlen : L.length = M.length
  rotate_left 1
  · have e1 : (((L.length : Nat) : Int) != ((M.length : Nat) : Int)) = true := by simp; omega
    rw [smL_ne (fun e => hlen (by rw [e]))]
    clear hv hu hx hy hl hlen
    go_enter Tryd.func21, Tryd.ntmps21
    go_wp2
    go_ret
    exact ⟨rfl, HB.out⟩
  have e1 : (((L.length : Nat) : Int) != ((M.length : Nat) : Int)) = false := by simp; omega
  have HT : Hid (Bp21 w (.slice ao L.length c) (.slice bo M.length d) L M) := ⟨hv, hu⟩
  have HL : Hid (L.length ≤ 140737488355328 ∧ L.length = M.length) := ⟨hl, hlen⟩
  have HX := hid13 hx
  have HY := hid13 hy
  clear hv hu hx hy hl hlen
  go_enter Tryd.func21, Tryd.ntmps21
  go_wp2
  clear e1
  go_loopg [5] L.length (fun g x wr => ∃ (k : Nat), k + g = L.length ∧ x = .int .i64 (k : Int) ∧ Hid (Bp21 wr (.slice ao L.length c) (.slice bo M.length d) L M ∧ Below w.heap.size w wr) ∧ Hid (L.take k = M.take k))
  case atStart => exact ⟨0, by omega, rfl, ⟨HT.out, HB.out⟩, by show _ = _; simp⟩
  case round =>
    clear HT HB
    obtain ⟨k, hk, rfl, HW, HP⟩ := hrel
    by_cases hlt : k < L.length
    rotate_left 1
    · have l1 : ¬ (k : Int) < (L.length : Int) := by omega
      have HF : Hid (smL L M = true) := by
        show _ = _
        rw [smL_iff]
        have := HP.out
        rw [List.take_of_length_le (by omega), List.take_of_length_le (by have := HL.out; omega)] at this
        exact this
      clear HP hlt hk
      go_wp2
      go_ret
      exact ⟨by rw [HF.out]; rfl, HW.out.2⟩
    have hlt2 : k < M.length := by have := HL.out; omega
    have l1 : (k : Int) < (L.length : Int) := by omega
    have l2 : (k : Int) < (M.length : Int) := by omega
    obtain ⟨p, hp⟩ : ∃ p, L[k]? = some p := ⟨L[k], by simp [hlt]⟩
    obtain ⟨q, hq⟩ : ∃ q, M[k]? = some q := ⟨M[k], by simp [hlt2]⟩
    obtain ⟨b1, f1, xo, xc, hao, r0, r1, r2, r3, -⟩ := ptr_at HW.out.1.1 hp
    obtain ⟨b2, f2, yo, yc, hbo, s0, s1, s2, s3, -⟩ := ptr_at HW.out.1.2 hq
    subst hao hbo
    have hpx := HX.out p (List.mem_of_getElem? hp)
    have hqx := HY.out q (List.mem_of_getElem? hq)
    have mk : IntKind.i64.wrap ((k : Int) + 1) = (k : Int) + 1 := by rw [IntKind.wrap_i64]; have := HL.out; omega
    have HK : Hid (k < L.length ∧ k + gk = L.length) := ⟨hlt, hk⟩
    have HD : Hid (p ≠ q → smL L M = false) := by
      intro hne
      refine smL_ne (fun e => hne ?_)
      rw [e, hq] at hp
      injection hp with hp
      exact hp.symm
    have HE : Hid (p = q → L.take (k + 1) = M.take (k + 1)) := by
      intro e
      rw [List.take_add_one, List.take_add_one, hp, hq, HP.out, e]
    clear hp hq hlt hlt2 hk HP
    by_cases h1 : p.k = q.k
    rotate_left 1
    · have e1 : (p.k != q.k) = true := by simpa using h1
      have HF : Hid (smL L M = false) := HD.out (fun e => h1 (by rw [e]))
      clear h1 r1 r2 r3 s1 s2 s3 hpx hqx
      go_wp2
      go_quiet (fail)
      have HB3 : Hid (Below w.heap.size w (wr.drewN nq)) := below_drewN HW.out.2 nq
      clear HW r0 s0
      go_wp2
      go_ret
      exact ⟨by rw [HF.out]; rfl, HB3.out⟩
    have e1 : (p.k != q.k) = false := by simpa using h1
    by_cases h2 : p.d = q.d
    rotate_left 1
    · have e2 : (p.d != q.d) = true := by simpa using h2
      have HF : Hid (smL L M = false) := HD.out (fun e => h2 (by rw [e]))
      clear h1 h2 r2 r3 s2 s3 hpx hqx
      go_wp2
      go_quiet (fail)
      have HB3 : Hid (Below w.heap.size w (wr.drewN nq)) := below_drewN HW.out.2 nq
      clear HW r0 s0 r1 s1
      go_wp2
      go_ret
      exact ⟨by rw [HF.out]; rfl, HB3.out⟩
    have e2 : (p.d != q.d) = false := by simpa using h2
    have c1 := conv13 (r3.below (Below.refl wr.heap.size wr).drew) hpx
    have c2 := conv13 (s3.below (Below.refl wr.heap.size wr).drew) hqx
    have hb := bsA_eq hpx hqx
    generalize bsA p.x = s at *
    generalize bsA q.x = t at *
    obtain ⟨Bq, hBq⟩ : ∃ Bq, Bq = !decide (p.x = q.x) := ⟨_, rfl⟩
    have e3 : (s.toList == t.toList) = !Bq := by rw [hb, hBq, Bool.not_not]
    have HZ : Hid ((Bq = true → smL L M = false) ∧ (Bq = false → L.take (k + 1) = M.take (k + 1))) := by
      refine ⟨fun e => HD.out (fun e2 => ?_), fun e => HE.out ?_⟩
      · rw [hBq, e2] at e; simp at e
      · have h3 : p.x = q.x := by rw [hBq] at e; simpa using e
        exact keyP_inj (by unfold keyP; rw [h1, h2, h3])
    have HC : Hid (wr.drew.cell? ⟨b1, f1 + k * 3, none⟩ = some (.int .i64 p.k) ∧ wr.drew.cell? ⟨b1, f1 + k * 3 + 1, none⟩ = some (.int .i64 p.d) ∧ wr.drew.cell? ⟨b1, f1 + k * 3 + 2, none⟩ = some (.slice xo p.x.length xc) ∧ wr.drew.cell? ⟨b2, f2 + k * 3, none⟩ = some (.int .i64 q.k) ∧ wr.drew.cell? ⟨b2, f2 + k * 3 + 1, none⟩ = some (.int .i64 q.d) ∧ wr.drew.cell? ⟨b2, f2 + k * 3 + 2, none⟩ = some (.slice yo q.x.length yc) ∧ (convert 22 9 (.slice xo p.x.length xc)).run Tryd.prog wr.drew = .ok (.string s) wr.drew ∧ (convert 22 9 (.slice yo q.x.length yc)).run Tryd.prog wr.drew = .ok (.string t) wr.drew ∧ Bp21 wr.drew (.slice (some ⟨b1, f1, none⟩) L.length c) (.slice (some ⟨b2, f2, none⟩) M.length d) L M ∧ Below w.heap.size w wr.drew) := by
      have q := (Below.refl wr.heap.size wr).drew
      exact ⟨keepc q r0, keepc q r1, keepc q r2, keepc q s0, keepc q s1, keepc q s2, c1, c2, HW.out.1.below q, HW.out.2.drew⟩
    clear h1 h2 r3 s3 hpx hqx hb hBq HW r0 r1 r2 s0 s1 s2 c1 c2 HD HE
    go_wp2_with fail
    refine qw_region (C := fun X => X.cell? ⟨b1, f1 + k * 3, none⟩ = some (.int .i64 p.k) ∧ X.cell? ⟨b1, f1 + k * 3 + 1, none⟩ = some (.int .i64 p.d) ∧ X.cell? ⟨b1, f1 + k * 3 + 2, none⟩ = some (.slice xo p.x.length xc) ∧ X.cell? ⟨b2, f2 + k * 3, none⟩ = some (.int .i64 q.k) ∧ X.cell? ⟨b2, f2 + k * 3 + 1, none⟩ = some (.int .i64 q.d) ∧ X.cell? ⟨b2, f2 + k * 3 + 2, none⟩ = some (.slice yo q.x.length yc) ∧ (convert 22 9 (.slice xo p.x.length xc)).run Tryd.prog X = .ok (.string s) X ∧ (convert 22 9 (.slice yo q.x.length yc)).run Tryd.prog X = .ok (.string t) X ∧ Bp21 X (.slice (some ⟨b1, f1, none⟩) L.length c) (.slice (some ⟨b2, f2, none⟩) M.length d) L M ∧ Below w.heap.size w X) (by kernel_rfl) (by kernel_rfl) HC.out ?_
    refine qw_run (v := .slice (some ⟨b1, f1, none⟩) L.length c) (by rfl) ?_ ?_
    · (intro w9 hC; clear hC; go_simp; first | done | (simp; done) | (simp [*]; done) | omega | (simp; omega) | (rw [IntKind.wrap_i64]; omega) | (intro hx; omega) | rfl)
    simp only [Act.put, List.setIfInBounds_toArray, List.set_cons_zero, List.set_cons_succ]
    refine qw_run (v := .int .i64 (k : Int)) (by rfl) ?_ ?_
    · (intro w9 hC; clear hC; go_simp; first | done | (simp; done) | (simp [*]; done) | omega | (simp; omega) | (rw [IntKind.wrap_i64]; omega) | (intro hx; omega) | rfl)
    simp only [Act.put, List.setIfInBounds_toArray, List.set_cons_zero, List.set_cons_succ]
    refine qw_run (v := .pointer (some ⟨b1, f1 + k * 3, none⟩)) (by rfl) ?_ ?_
    · (intro w9 hC; clear hC; go_simp; first | done | (simp; done) | (simp [*]; done) | omega | (simp; omega) | (rw [IntKind.wrap_i64]; omega) | (intro hx; omega) | rfl)
    simp only [Act.put, List.setIfInBounds_toArray, List.set_cons_zero, List.set_cons_succ]
    refine qw_run (v := .pointer (some ⟨b1, f1 + k * 3, none⟩)) (by rfl) ?_ ?_
    · (intro w9 hC; clear hC; go_simp; first | done | (simp; done) | (simp [*]; done) | omega | (simp; omega) | (rw [IntKind.wrap_i64]; omega) | (intro hx; omega) | rfl)
    simp only [Act.put, List.setIfInBounds_toArray, List.set_cons_zero, List.set_cons_succ]
    refine qw_run (v := .int .i64 p.k) (by rfl) ?_ ?_
    · (intro w9 hC; obtain ⟨g0, g1, g2, h0, h1, h2, k1, k2, -⟩ := id hC; clear hC; go_simp; first | done | (simp; done) | (simp [*]; done) | omega | (simp; omega) | (rw [IntKind.wrap_i64]; omega) | (intro hx; omega) | rfl)
    simp only [Act.put, List.setIfInBounds_toArray, List.set_cons_zero, List.set_cons_succ]
    refine qw_run (v := .slice (some ⟨b2, f2, none⟩) M.length d) (by rfl) ?_ ?_
    · (intro w9 hC; clear hC; go_simp; first | done | (simp; done) | (simp [*]; done) | omega | (simp; omega) | (rw [IntKind.wrap_i64]; omega) | (intro hx; omega) | rfl)
    simp only [Act.put, List.setIfInBounds_toArray, List.set_cons_zero, List.set_cons_succ]
    refine qw_run (v := .int .i64 (k : Int)) (by rfl) ?_ ?_
    · (intro w9 hC; clear hC; go_simp; first | done | (simp; done) | (simp [*]; done) | omega | (simp; omega) | (rw [IntKind.wrap_i64]; omega) | (intro hx; omega) | rfl)
    simp only [Act.put, List.setIfInBounds_toArray, List.set_cons_zero, List.set_cons_succ]
    refine qw_run (v := .pointer (some ⟨b2, f2 + k * 3, none⟩)) (by rfl) ?_ ?_
    · (intro w9 hC; clear hC; go_simp; first | done | (simp; done) | (simp [*]; done) | omega | (simp; omega) | (rw [IntKind.wrap_i64]; omega) | (intro hx; omega) | rfl)
    simp only [Act.put, List.setIfInBounds_toArray, List.set_cons_zero, List.set_cons_succ]
    refine qw_run (v := .pointer (some ⟨b2, f2 + k * 3, none⟩)) (by rfl) ?_ ?_
    · (intro w9 hC; clear hC; go_simp; first | done | (simp; done) | (simp [*]; done) | omega | (simp; omega) | (rw [IntKind.wrap_i64]; omega) | (intro hx; omega) | rfl)
    simp only [Act.put, List.setIfInBounds_toArray, List.set_cons_zero, List.set_cons_succ]
    refine qw_run (v := .int .i64 q.k) (by rfl) ?_ ?_
    · (intro w9 hC; obtain ⟨g0, g1, g2, h0, h1, h2, k1, k2, -⟩ := id hC; clear hC; go_simp; first | done | (simp; done) | (simp [*]; done) | omega | (simp; omega) | (rw [IntKind.wrap_i64]; omega) | (intro hx; omega) | rfl)
    simp only [Act.put, List.setIfInBounds_toArray, List.set_cons_zero, List.set_cons_succ]
    refine qw_run (v := .bool false) (by rfl) ?_ ?_
    · (intro w9 hC; clear hC; go_simp; first | done | (simp; done) | (simp [*]; done) | omega | (simp; omega) | (rw [IntKind.wrap_i64]; omega) | (intro hx; omega) | rfl)
    simp only [Act.put, List.setIfInBounds_toArray, List.set_cons_zero, List.set_cons_succ]
    refine qw_run (v := .bool false) (by rfl) ?_ ?_
    · (intro w9 hC; clear hC; go_simp; first | done | (simp; done) | (simp [*]; done) | omega | (simp; omega) | (rw [IntKind.wrap_i64]; omega) | (intro hx; omega) | rfl)
    simp only [Act.put, List.setIfInBounds_toArray, List.set_cons_zero, List.set_cons_succ]
    refine qw_run (v := .slice (some ⟨b1, f1, none⟩) L.length c) (by rfl) ?_ ?_
    · (intro w9 hC; clear hC; go_simp; first | done | (simp; done) | (simp [*]; done) | omega | (simp; omega) | (rw [IntKind.wrap_i64]; omega) | (intro hx; omega) | rfl)
    simp only [Act.put, List.setIfInBounds_toArray, List.set_cons_zero, List.set_cons_succ]
    refine qw_run (v := .int .i64 (k : Int)) (by rfl) ?_ ?_
    · (intro w9 hC; clear hC; go_simp; first | done | (simp; done) | (simp [*]; done) | omega | (simp; omega) | (rw [IntKind.wrap_i64]; omega) | (intro hx; omega) | rfl)
    simp only [Act.put, List.setIfInBounds_toArray, List.set_cons_zero, List.set_cons_succ]
    refine qw_run (v := .pointer (some ⟨b1, f1 + k * 3, none⟩)) (by rfl) ?_ ?_
    · (intro w9 hC; clear hC; go_simp; first | done | (simp; done) | (simp [*]; done) | omega | (simp; omega) | (rw [IntKind.wrap_i64]; omega) | (intro hx; omega) | rfl)
    simp only [Act.put, List.setIfInBounds_toArray, List.set_cons_zero, List.set_cons_succ]
    refine qw_run (v := .pointer (some ⟨b1, f1 + k * 3 + 1, none⟩)) (by rfl) ?_ ?_
    · (intro w9 hC; clear hC; go_simp; first | done | (simp; done) | (simp [*]; done) | omega | (simp; omega) | (rw [IntKind.wrap_i64]; omega) | (intro hx; omega) | rfl)
    simp only [Act.put, List.setIfInBounds_toArray, List.set_cons_zero, List.set_cons_succ]
    refine qw_run (v := .int .i64 p.d) (by rfl) ?_ ?_
    · (intro w9 hC; obtain ⟨g0, g1, g2, h0, h1, h2, k1, k2, -⟩ := id hC; clear hC; go_simp; first | done | (simp; done) | (simp [*]; done) | omega | (simp; omega) | (rw [IntKind.wrap_i64]; omega) | (intro hx; omega) | rfl)
    simp only [Act.put, List.setIfInBounds_toArray, List.set_cons_zero, List.set_cons_succ]
    refine qw_run (v := .slice (some ⟨b2, f2, none⟩) M.length d) (by rfl) ?_ ?_
    · (intro w9 hC; clear hC; go_simp; first | done | (simp; done) | (simp [*]; done) | omega | (simp; omega) | (rw [IntKind.wrap_i64]; omega) | (intro hx; omega) | rfl)
    simp only [Act.put, List.setIfInBounds_toArray, List.set_cons_zero, List.set_cons_succ]
    refine qw_run (v := .int .i64 (k : Int)) (by rfl) ?_ ?_
    · (intro w9 hC; clear hC; go_simp; first | done | (simp; done) | (simp [*]; done) | omega | (simp; omega) | (rw [IntKind.wrap_i64]; omega) | (intro hx; omega) | rfl)
    simp only [Act.put, List.setIfInBounds_toArray, List.set_cons_zero, List.set_cons_succ]
    refine qw_run (v := .pointer (some ⟨b2, f2 + k * 3, none⟩)) (by rfl) ?_ ?_
    · (intro w9 hC; clear hC; go_simp; first | done | (simp; done) | (simp [*]; done) | omega | (simp; omega) | (rw [IntKind.wrap_i64]; omega) | (intro hx; omega) | rfl)
    simp only [Act.put, List.setIfInBounds_toArray, List.set_cons_zero, List.set_cons_succ]
    refine qw_run (v := .pointer (some ⟨b2, f2 + k * 3 + 1, none⟩)) (by rfl) ?_ ?_
    · (intro w9 hC; clear hC; go_simp; first | done | (simp; done) | (simp [*]; done) | omega | (simp; omega) | (rw [IntKind.wrap_i64]; omega) | (intro hx; omega) | rfl)
    simp only [Act.put, List.setIfInBounds_toArray, List.set_cons_zero, List.set_cons_succ]
    refine qw_run (v := .int .i64 q.d) (by rfl) ?_ ?_
    · (intro w9 hC; obtain ⟨g0, g1, g2, h0, h1, h2, k1, k2, -⟩ := id hC; clear hC; go_simp; first | done | (simp; done) | (simp [*]; done) | omega | (simp; omega) | (rw [IntKind.wrap_i64]; omega) | (intro hx; omega) | rfl)
    simp only [Act.put, List.setIfInBounds_toArray, List.set_cons_zero, List.set_cons_succ]
    refine qw_run (v := .bool false) (by rfl) ?_ ?_
    · (intro w9 hC; clear hC; go_simp; first | done | (simp; done) | (simp [*]; done) | omega | (simp; omega) | (rw [IntKind.wrap_i64]; omega) | (intro hx; omega) | rfl)
    simp only [Act.put, List.setIfInBounds_toArray, List.set_cons_zero, List.set_cons_succ]
    refine qw_run (v := .bool false) (by rfl) ?_ ?_
    · (intro w9 hC; clear hC; go_simp; first | done | (simp; done) | (simp [*]; done) | omega | (simp; omega) | (rw [IntKind.wrap_i64]; omega) | (intro hx; omega) | rfl)
    simp only [Act.put, List.setIfInBounds_toArray, List.set_cons_zero, List.set_cons_succ]
    refine qw_run (v := .bool false) (by rfl) ?_ ?_
    · (intro w9 hC; clear hC; go_simp; first | done | (simp; done) | (simp [*]; done) | omega | (simp; omega) | (rw [IntKind.wrap_i64]; omega) | (intro hx; omega) | rfl)
    simp only [Act.put, List.setIfInBounds_toArray, List.set_cons_zero, List.set_cons_succ]
    refine qw_run (v := .slice (some ⟨b1, f1, none⟩) L.length c) (by rfl) ?_ ?_
    · (intro w9 hC; clear hC; go_simp; first | done | (simp; done) | (simp [*]; done) | omega | (simp; omega) | (rw [IntKind.wrap_i64]; omega) | (intro hx; omega) | rfl)
    simp only [Act.put, List.setIfInBounds_toArray, List.set_cons_zero, List.set_cons_succ]
    refine qw_run (v := .int .i64 (k : Int)) (by rfl) ?_ ?_
    · (intro w9 hC; clear hC; go_simp; first | done | (simp; done) | (simp [*]; done) | omega | (simp; omega) | (rw [IntKind.wrap_i64]; omega) | (intro hx; omega) | rfl)
    simp only [Act.put, List.setIfInBounds_toArray, List.set_cons_zero, List.set_cons_succ]
    refine qw_run (v := .pointer (some ⟨b1, f1 + k * 3, none⟩)) (by rfl) ?_ ?_
    · (intro w9 hC; clear hC; go_simp; first | done | (simp; done) | (simp [*]; done) | omega | (simp; omega) | (rw [IntKind.wrap_i64]; omega) | (intro hx; omega) | rfl)
    simp only [Act.put, List.setIfInBounds_toArray, List.set_cons_zero, List.set_cons_succ]
    refine qw_run (v := .pointer (some ⟨b1, f1 + k * 3 + 2, none⟩)) (by rfl) ?_ ?_
    · (intro w9 hC; clear hC; go_simp; first | done | (simp; done) | (simp [*]; done) | omega | (simp; omega) | (rw [IntKind.wrap_i64]; omega) | (intro hx; omega) | rfl)
    simp only [Act.put, List.setIfInBounds_toArray, List.set_cons_zero, List.set_cons_succ]
    refine qw_run (v := .slice xo p.x.length xc) (by rfl) ?_ ?_
    · (intro w9 hC; obtain ⟨g0, g1, g2, h0, h1, h2, k1, k2, -⟩ := id hC; clear hC; go_simp; first | done | (simp; done) | (simp [*]; done) | omega | (simp; omega) | (rw [IntKind.wrap_i64]; omega) | (intro hx; omega) | rfl)
    simp only [Act.put, List.setIfInBounds_toArray, List.set_cons_zero, List.set_cons_succ]
    refine qw_run (v := .string s) (by rfl) ?_ ?_
    · (intro w9 hC; obtain ⟨g0, g1, g2, h0, h1, h2, k1, k2, -⟩ := id hC; clear hC; go_simp; first | done | (simp; done) | (simp [*]; done) | omega | (simp; omega) | (rw [IntKind.wrap_i64]; omega) | (intro hx; omega) | rfl)
    simp only [Act.put, List.setIfInBounds_toArray, List.set_cons_zero, List.set_cons_succ]
    refine qw_run (v := .slice (some ⟨b2, f2, none⟩) M.length d) (by rfl) ?_ ?_
    · (intro w9 hC; clear hC; go_simp; first | done | (simp; done) | (simp [*]; done) | omega | (simp; omega) | (rw [IntKind.wrap_i64]; omega) | (intro hx; omega) | rfl)
    simp only [Act.put, List.setIfInBounds_toArray, List.set_cons_zero, List.set_cons_succ]
    refine qw_run (v := .int .i64 (k : Int)) (by rfl) ?_ ?_
    · (intro w9 hC; clear hC; go_simp; first | done | (simp; done) | (simp [*]; done) | omega | (simp; omega) | (rw [IntKind.wrap_i64]; omega) | (intro hx; omega) | rfl)
    simp only [Act.put, List.setIfInBounds_toArray, List.set_cons_zero, List.set_cons_succ]
    refine qw_run (v := .pointer (some ⟨b2, f2 + k * 3, none⟩)) (by rfl) ?_ ?_
    · (intro w9 hC; clear hC; go_simp; first | done | (simp; done) | (simp [*]; done) | omega | (simp; omega) | (rw [IntKind.wrap_i64]; omega) | (intro hx; omega) | rfl)
    simp only [Act.put, List.setIfInBounds_toArray, List.set_cons_zero, List.set_cons_succ]
    refine qw_run (v := .pointer (some ⟨b2, f2 + k * 3 + 2, none⟩)) (by rfl) ?_ ?_
    · (intro w9 hC; clear hC; go_simp; first | done | (simp; done) | (simp [*]; done) | omega | (simp; omega) | (rw [IntKind.wrap_i64]; omega) | (intro hx; omega) | rfl)
    simp only [Act.put, List.setIfInBounds_toArray, List.set_cons_zero, List.set_cons_succ]
    refine qw_run (v := .slice yo q.x.length yc) (by rfl) ?_ ?_
    · (intro w9 hC; obtain ⟨g0, g1, g2, h0, h1, h2, k1, k2, -⟩ := id hC; clear hC; go_simp; first | done | (simp; done) | (simp [*]; done) | omega | (simp; omega) | (rw [IntKind.wrap_i64]; omega) | (intro hx; omega) | rfl)
    simp only [Act.put, List.setIfInBounds_toArray, List.set_cons_zero, List.set_cons_succ]
    refine qw_run (v := .string t) (by rfl) ?_ ?_
    · (intro w9 hC; obtain ⟨g0, g1, g2, h0, h1, h2, k1, k2, -⟩ := id hC; clear hC; go_simp; first | done | (simp; done) | (simp [*]; done) | omega | (simp; omega) | (rw [IntKind.wrap_i64]; omega) | (intro hx; omega) | rfl)
    simp only [Act.put, List.setIfInBounds_toArray, List.set_cons_zero, List.set_cons_succ]
    refine qw_run (v := .bool Bq) (by rfl) ?_ ?_
    · (intro w9 hC; clear hC; go_simp; first | done | (simp; done) | (simp [*]; done) | omega | (simp; omega) | (rw [IntKind.wrap_i64]; omega) | (intro hx; omega) | rfl)
    simp only [Act.put, List.setIfInBounds_toArray, List.set_cons_zero, List.set_cons_succ]
    refine qw_run (v := .bool Bq) (by rfl) ?_ ?_
    · (intro w9 hC; clear hC; go_simp; first | done | (simp; done) | (simp [*]; done) | omega | (simp; omega) | (rw [IntKind.wrap_i64]; omega) | (intro hx; omega) | rfl)
    simp only [Act.put, List.setIfInBounds_toArray, List.set_cons_zero, List.set_cons_succ]
    refine qw_nil ?_
    intro W3 hW3
    have HW3 : Hid (Bp21 W3 (.slice (some ⟨b1, f1, none⟩) L.length c) (.slice (some ⟨b2, f2, none⟩) M.length d) L M ∧ Below w.heap.size w W3) := hW3.2.2.2.2.2.2.2.2
    clear hW3 HC
    cases Bq with
    | true =>
      have HF : Hid (smL L M = false) := HZ.out.1 rfl
      go_wp2
      go_ret
      exact ⟨by rw [HF.out]; rfl, HW3.out.2⟩
    | false =>
      have HP2 : Hid (L.take (k + 1) = M.take (k + 1)) := HZ.out.2 rfl
      clear HZ
      go_wp2
      go_roundg (gk - 1)
      case measure => have := HK.out; omega
      case rel => exact ⟨k + 1, by have := HK.out; omega, rfl, HW3, HP2⟩
theorem within21 (a n : Int) (hn : 0 < n) (hm : n ≤ 1000000000000000000) (w : World) :
    Calls Tryd.prog 7 #[.int .i64 a, .int .i64 n] w fun e w' => e = .returned (.int .i64 (wth a n)) ∧ w' = w := by
  have h1 := Int.tmod_lt_of_pos a hn
  have h2 := Int.lt_tmod_of_pos a hn
  have hne : ¬ n = 0 := by omega
  have hne1 : ¬ n = -1 := by omega
  obtain ⟨r, hr⟩ : ∃ r, r = a.tmod n := ⟨_, rfl⟩
  have HR := hid13 hr
  rw [← hr] at h1 h2
  have hr' := hr.symm
  clear hr
  by_cases c : r < 0
  · have w2 : IntKind.i64.wrap (r + n) = r + n := by rw [IntKind.wrap_i64]; omega
    have HE : Hid (wth a n = r + n) := by show _ = _; unfold wth; rw [← HR.out, if_pos c]
    go_enter Tryd.func7, Tryd.ntmps7
    go_wp2
    go_ret
    exact ⟨by rw [HE.out]; rfl, rfl⟩
  · have HE : Hid (wth a n = r) := by show _ = _; unfold wth; rw [← HR.out, if_neg c]
    go_enter Tryd.func7, Tryd.ntmps7
    go_wp2
    go_ret
    exact ⟨by rw [HE.out]; rfl, rfl⟩
end Go.Proofs.YtiachojhnbicaabDoor
namespace Go.Proofs.YtiachojhnbicaabDoor
open Go.RowKit Go.Shelf
set_option linter.unusedSimpArgs false
set_option linter.unusedVariables false

theorem pair0_21 (a b : Int) (X : World) : (Instr.index 62 (.agg #[.int .i64 a, .int .i64 b]) (.int .i64 0)).run Tryd.prog X = .ok (.int .i64 a) X := by
  simp [Instr.index, run_underlying Tryd.underlying62, go_sem]
theorem pair1_21 (a b : Int) (X : World) : (Instr.index 62 (.agg #[.int .i64 a, .int .i64 b]) (.int .i64 1)).run Tryd.prog X = .ok (.int .i64 b) X := by
  simp [Instr.index, run_underlying Tryd.underlying62, go_sem]
set_option maxRecDepth 100000 in
set_option maxHeartbeats 8000000 in
theorem fit21 (n : Int) (v : Value) (L : List Pt) (w : World) (hn : 0 ≤ n) (hn2 : n ≤ 9223372036854775807) (hv : PtR21 w v L) (hl : L.length ≤ 140737488355328) :
    Calls Tryd.prog 23 #[.int .i64 n, v] w fun e w' => e = .returned (.bool (fitB n L)) ∧ Below w.heap.size w w' := by
  obtain ⟨ao, c, hvf, -⟩ := id hv
  subst hvf
  have HT := hid13 hv
  have HB : Hid (Below w.heap.size w w) := Below.refl _ _
  have HL : Hid (L.length ≤ 140737488355328 ∧ 0 ≤ n ∧ n ≤ 9223372036854775807) := ⟨hl, hn, hn2⟩
  clear hv hl hn hn2
  go_enter Tryd.func23, Tryd.ntmps23
  go_wp2
  go_loopg [0, 11] L.length (fun g s x wr => ∃ (k : Nat) (m : Int), k + g = L.length ∧ s = .int .i64 m ∧ x = .int .i64 (k : Int) ∧ Hid (ftS n (L.take k) = some m) ∧ Hid (PtR21 wr (.slice ao L.length c) L ∧ Below w.heap.size w wr))
  case atStart => exact ⟨0, n, by omega, rfl, rfl, rfl, ⟨HT.out, HB.out⟩⟩
  case round =>
    clear HT HB
    obtain ⟨k, m, hk, rfl, rfl, HM, HW⟩ := hrel
    by_cases hlt : k < L.length
    rotate_left 1
    · have l1 : ¬ (k : Int) < (L.length : Int) := by omega
      have HE : Hid (fitB n L = true) := ftS_all (by omega) HM.out
      clear hlt hk
      go_wp2
      go_ret
      exact ⟨by rw [HE.out]; rfl, HW.out.2⟩
    have l1 : (k : Int) < (L.length : Int) := by omega
    obtain ⟨p, hp⟩ : ∃ p, L[k]? = some p := ⟨L[k], by simp [hlt]⟩
    obtain ⟨b1, f1, xo, xc, hao, r0, r1, r2, -, -⟩ := ptr_at HW.out.1 hp
    subst hao
    have wk : IntKind.i64.wrap ((k : Int) + 1) = (k : Int) + 1 := by rw [IntKind.wrap_i64]; have := HL.out; omega
    have hm := ftS_bd HL.out.2.1 _ _ HM.out
    have HX : Hid (k < L.length ∧ k + gk = L.length ∧ 0 ≤ m ∧ m ≤ n) := ⟨hlt, hk, hm.1, hm.2⟩
    have HBad : Hid (¬ okP m p → fitB n L = false) := hid13 (ftS_bad hp HM.out)
    have HGo : Hid (okP m p → ftS n (L.take (k + 1)) = some (m - p.k - p.d)) := hid13 (ftS_go hp HM.out)
    have q1 := bl1 wr (.cells #[.int .i64 p.k, .int .i64 p.d, .slice xo p.x.length xc] 38)
    have HW2 : Hid (PtR21 _ (.slice (some ⟨b1, f1, none⟩) L.length c) L ∧ Below w.heap.size w _) := ⟨HW.out.1.below q1, keepb q1 HW.out.2⟩
    clear hp hlt hk HW q1 hm HM
    go_wp2
    obtain ⟨mk, hmk⟩ : ∃ mk, mk = gk := ⟨_, rfl⟩
    have HMK : Hid (mk = gk) := hmk
    have x0 := pair0_21 p.k p.d
    have x1 := pair1_21 p.k p.d
    have HX2 : Hid (k < L.length ∧ k + mk = L.length ∧ 0 ≤ m ∧ m ≤ n) := by rw [hmk]; exact HX.out
    clear HX hmk
    go_loopg [0, 20] 2 (fun g s x wr => Hid (PtR21 wr (.slice (some ⟨b1, f1, none⟩) L.length c) L ∧ Below w.heap.size w wr) ∧ ((g = 2 ∧ x = .int .i64 0 ∧ s = .int .i64 m) ∨ (g = 1 ∧ x = .int .i64 1 ∧ s = .int .i64 (m - p.k) ∧ Hid (0 ≤ p.k ∧ p.k ≤ m)) ∨ (g = 0 ∧ x = .int .i64 2 ∧ s = .int .i64 (m - p.k - p.d) ∧ Hid (okP m p))))
    case atStart => exact ⟨HW2, .inl ⟨rfl, rfl, rfl⟩⟩
    case round =>
      clear HW2 r0 r1 r2
      obtain ⟨HW, hcs⟩ := hrel
      rcases hcs with ⟨hg, rfl, rfl⟩ | ⟨hg, rfl, rfl, HO⟩ | ⟨hg, rfl, rfl, HO⟩
      · by_cases k0 : p.k < 0
        · have d0 : decide (p.k < 0) = true := decide_eq_true k0
          have HF := hid13 (HBad.out (fun h => by have := h.1; omega))
          clear k0 hg
          go_wp2
          go_ret
          exact ⟨by rw [HF.out]; rfl, HW.out.2⟩
        have d0 : decide (p.k < 0) = false := decide_eq_false k0
        by_cases k1 : m < p.k
        · have d1 : decide (m < p.k) = true := decide_eq_true k1
          have HF := hid13 (HBad.out (fun h => by have := h.2.1; omega))
          clear k0 k1 hg
          go_wp2
          go_ret
          exact ⟨by rw [HF.out]; rfl, HW.out.2⟩
        have d1 : decide (m < p.k) = false := decide_eq_false k1
        have w1 : IntKind.i64.wrap (m - p.k) = m - p.k := by rw [IntKind.wrap_i64]; have := HX2.out; have := HL.out; omega
        have HO : Hid (0 ≤ p.k ∧ p.k ≤ m) := ⟨by omega, by omega⟩
        clear k0 k1
        go_wp2
        go_roundg 1
        case measure => omega
        case rel => exact ⟨HW, .inr (.inl ⟨rfl, rfl, rfl, HO⟩)⟩
      · by_cases k2 : p.d < 0
        · have d2 : decide (p.d < 0) = true := decide_eq_true k2
          have HF := hid13 (HBad.out (fun h => by have := h.2.2.1; omega))
          clear k2 hg
          go_wp2
          go_ret
          exact ⟨by rw [HF.out]; rfl, HW.out.2⟩
        have d2 : decide (p.d < 0) = false := decide_eq_false k2
        by_cases k3 : m - p.k < p.d
        · have d3 : decide (m - p.k < p.d) = true := decide_eq_true k3
          have HF := hid13 (HBad.out (fun h => by have := h.2.2.2; omega))
          clear k2 k3 hg
          go_wp2
          go_ret
          exact ⟨by rw [HF.out]; rfl, HW.out.2⟩
        have d3 : decide (m - p.k < p.d) = false := decide_eq_false k3
        have w2 : IntKind.i64.wrap (m - p.k - p.d) = m - p.k - p.d := by rw [IntKind.wrap_i64]; have := HO.out; have := HX2.out; have := HL.out; omega
        have HO2 : Hid (okP m p) := ⟨HO.out.1, HO.out.2, by omega, by omega⟩
        clear k2 k3
        go_wp2
        go_roundg 0
        case measure => omega
        case rel => exact ⟨HW, .inr (.inr ⟨rfl, rfl, rfl, HO2⟩)⟩
      · have HM2 := hid13 (HGo.out HO.out)
        clear hg
        go_wp2
        go_roundg (mk - 1)
        case measure => have := HX2.out; have := HMK.out; omega
        case rel => exact ⟨k + 1, m - p.k - p.d, by have := HX2.out; omega, rfl, rfl, HM2, HW⟩
end Go.Proofs.YtiachojhnbicaabDoor
namespace Go.Proofs.YtiachojhnbicaabDoor
open Go.RowKit
set_option linter.unusedSimpArgs false
set_option linter.unusedVariables false

theorem wp_append_rowA {P : Program} {w : World} {o : Oper} {a : Act} {K : Act → World → Prop} {Q : Exit → Act → World → Prop} (s x : Operand) (t : TypeId)
    (ho : o.op = .call { callee := .builtin .append, args := #[s, x], argTypes := #[t, t] })
    (base : Nat) (e : TypeId) (i : TypeInfo) (z : Value) (size bytes : Nat) (ht : P.underlying t = some (.slice e)) (hi : P.info? e = some i) (hz : i.zero = some z)
    (hsize : i.size = size) (hby : i.bytes = bytes) (hzs : z.cells.size = size) (hsz : 0 < size)
    (v : Value) (n : Nat) (xs : List Value) (hs : a.eval s = v) (hown : w.ownsRow base e size v n xs)
    (vx : Value) (m : Nat) (news : List Value) (hx : a.eval x = vx) (hsrc : RowA w size vx m news) (h1 : ∀ y ∈ news, y.oneCell' = true)
    (h63 : n + m ≤ maxLen) (hbytes : (n + m) * bytes ≤ 140737488355328) (hbase : base ≤ w.heap.size)
    (h : ∀ ao cap w', w'.ownsRow base e size (.slice ao (n + m) cap) (n + m) (xs ++ news) → w.grownBy w' v.ownBlock → K (a.put o.dst (.slice ao (n + m) cap)) w') : o.wp P a w K Q := by
  obtain ⟨hl, xo, c, rfl, hcc, hsrc⟩ := hsrc
  rcases hsrc with ⟨rfl, rfl, rfl⟩ | ⟨ad, rfl, hc⟩
  · have : news = [] := List.eq_nil_of_length_eq_zero (by omega)
    subst this
    have hrun := run_append_owned_none (P := P) (w := w) base t o.type e i size ht hi v n xs hown
    obtain ⟨ao, cp, hv⟩ := own_form hown
    have hh := h ao cp w (by rw [List.append_nil, Nat.add_zero, ← hv]; exact hown) ⟨rfl, rfl, rfl, Nat.le_refl _, fun _ _ _ => rfl⟩
    rw [Nat.add_zero, ← hv] at hh
    unfold Oper.wp
    simp [execOp, ho, resolve, invoke, builtin, hs, hx, hrun, Result.andThen]
    exact hh
  · refine wp_append_own w s x t ho base e i z size bytes ht hi hz hsize hby hzs hsz v n xs hs hown ad m c news hx hl hc h1 h63 hbytes hbase ?_
    intro v' w' h2 h3 _
    obtain ⟨ao, cp, hv⟩ := own_form h2
    rw [hv]
    rw [hv] at h2
    exact h ao cp w' h2 h3
end Go.Proofs.YtiachojhnbicaabDoor
namespace Go.Proofs.YtiachojhnbicaabDoor
open Go.RowKit
set_option linter.unusedSimpArgs false
set_option linter.unusedVariables false

end Go.Proofs.YtiachojhnbicaabDoor
namespace Go.Proofs.YtiachojhnbicaabDoor
open Go.RowKit
set_option linter.unusedSimpArgs false
set_option linter.unusedVariables false

structure PB where
  a : Int
  t : Int
  m : List (BitVec 32)
  es : List (Bool × Int)
end Go.Proofs.YtiachojhnbicaabDoor
namespace Go.Proofs.YtiachojhnbicaabDoor
open Go.RowKit
set_option linter.unusedSimpArgs false
set_option linter.unusedVariables false

end Go.Proofs.YtiachojhnbicaabDoor
namespace Go.Proofs.YtiachojhnbicaabDoor
open Go.RowKit
set_option linter.unusedSimpArgs false
set_option linter.unusedVariables false

theorem own_typed18 {W : World} {base e size n : Nat} {v : Value} {xs : List Value} (h : W.ownsRow base e size v n xs) (z : Nat) (hz : v.ownBlock = some z) : ∃ cs, W.heap[z]? = some (.cells cs e) := by
  rcases h.2 with ⟨e0, _⟩ | ⟨g, cap, cur, e0, hb, hg, rest⟩
  · rw [e0] at hz; cases hz
  · rw [e0] at hz
    have q : g = z := by simpa [Value.ownBlock] using hz
    subst q
    exact ⟨_, hg⟩
theorem own_not18 {W : World} {base e size n : Nat} {v : Value} {xs : List Value} (h : W.ownsRow base e size v n xs) {z : Nat} {cs : Array Value} {T : TypeId} {fr : Nat × Nat} (hz : W.heap[z]? = some (.cells cs T fr)) (he : e ≠ T) : v.ownBlock ≠ some z := by
  intro q
  obtain ⟨cs', h2⟩ := own_typed18 h z q
  rw [h2] at hz
  injection hz with hz
  injection hz with _ h2 _
  exact he h2
theorem own_keep18 {W W' : World} {base e size n : Nat} {v : Value} {xs : List Value} (h : W.ownsRow base e size v n xs) (he : ∀ g, v.ownBlock = some g → W'.heap[g]? = W.heap[g]?) : W'.ownsRow base e size v n xs := by
  refine ⟨h.1, ?_⟩
  rcases h.2 with hn | ⟨g, cap, cur, rfl, hb, hg, rest⟩
  · exact .inl hn
  · exact .inr ⟨g, cap, cur, rfl, hb, by rw [he g rfl]; exact hg, rest⟩
theorem own_put3 {W : World} {base e size n B : Nat} {v : Value} {xs : List Value} (h : W.ownsRow base e size v n xs) (hv : v.ownBlock ≠ some B) (u0 u1 u2 : Value) : (((W.setCell ⟨B, 0, none⟩ u0).setCell ⟨B, 1, none⟩ u1).setCell ⟨B, 2, none⟩ u2).ownsRow base e size v n xs :=
  own_keep18 h (fun g e => (far_16 (fun q => hv (by rw [← q]; exact e))).trans ((far_16 (fun q => hv (by rw [← q]; exact e))).trans (far_16 (fun q => hv (by rw [← q]; exact e)))))
end Go.Proofs.YtiachojhnbicaabDoor
namespace Go.Proofs.YtiachojhnbicaabDoor
open Go.RowKit Go.Shelf
set_option linter.unusedSimpArgs false
set_option linter.unusedVariables false

theorem rowA_take21 {W : World} {ao : Option Addr} {n c z : Nat} {l : List Nat} (h : RowA W 1 (.slice ao n c) n (l.map cB)) (hz : z ≤ n) : RowA W 1 (.slice ao z c) z ((l.take z).map cB) := by
  have := rowA_mid21 (k := 0) (z := z) h (by omega)
  rw [List.drop_zero, Nat.zero_mul] at this
  have e : (if c = 0 then ao else ao.map (·.add 0)) = ao := by
    split
    · rfl
    · cases ao with
      | none => rfl
      | some p => simp [Addr.add]
  rw [e] at this
  exact this
theorem rowA_from21 {W : World} {ao : Option Addr} {n c k : Nat} {l : List Nat} (h : RowA W 1 (.slice ao n c) n (l.map cB)) (hk : k ≤ n) : RowA W 1 (.slice (if c = k then ao else ao.map (·.add (k * 1))) (n - k) (c - k)) (n - k) ((l.drop k).map cB) := by
  have hl : l.length = n := by have := h.1; rw [List.length_map, Nat.mul_one] at this; exact this
  have := rowA_mid21 (k := k) (z := n - k) h (by omega)
  rw [List.take_of_length_le (by rw [List.length_drop]; omega)] at this
  exact this
end Go.Proofs.YtiachojhnbicaabDoor
namespace Go.Proofs.YtiachojhnbicaabDoor
open Go.RowKit Go.Shelf
set_option linter.unusedSimpArgs false
set_option linter.unusedVariables false
attribute [local go_sem] Oper.semAt_some

set_option maxRecDepth 100000 in
set_option maxHeartbeats 8000000 in
theorem rfit21 (n : Int) (v : Value) (L : List Pt) (w : World) (hn : 0 ≤ n) (hn2 : n ≤ 9223372036854775807) (hv : PtR21 w v L) (hl : L.length ≤ 140737488355328) :
    Calls Tryd.prog 28 #[.int .i64 n, v] w fun e w' => e = .returned (.bool (fitB n L)) ∧ Below w.heap.size w w' := by
  obtain ⟨ao, c, hvf, -⟩ := id hv
  subst hvf
  have HT := hid13 hv
  have HB : Hid (Below w.heap.size w w) := Below.refl _ _
  have HL : Hid (L.length ≤ 140737488355328 ∧ 0 ≤ n ∧ n ≤ 9223372036854775807) := ⟨hl, hn, hn2⟩
  clear hv hl hn hn2
  go_enter Tryd.func28, Tryd.ntmps28
  go_wp2
  go_loopg [0, 5] L.length (fun g s x wr => ∃ (k : Nat) (m : Int), k + g = L.length ∧ s = .int .i64 m ∧ x = .int .i64 (k : Int) ∧ Hid (ftS n (L.take k) = some m) ∧ Hid (PtR21 wr (.slice ao L.length c) L ∧ Below w.heap.size w wr))
  case atStart => exact ⟨0, n, by omega, rfl, rfl, rfl, ⟨HT.out, HB.out⟩⟩
  case round =>
    clear HT HB
    obtain ⟨k, m, hk, rfl, rfl, HM, HW⟩ := hrel
    by_cases hlt : k < L.length
    rotate_left 1
    · have l1 : ¬ (k : Int) < (L.length : Int) := by omega
      have HE : Hid (fitB n L = true) := ftS_all (by omega) HM.out
      clear hlt hk
      go_wp2
      go_ret
      exact ⟨by rw [HE.out]; rfl, HW.out.2⟩
    have l1 : (k : Int) < (L.length : Int) := by omega
    obtain ⟨p, hp⟩ : ∃ p, L[k]? = some p := ⟨L[k], by simp [hlt]⟩
    obtain ⟨b1, f1, xo, xc, hao, r0, r1, r2, -, -⟩ := ptr_at HW.out.1 hp
    subst hao
    have wk : IntKind.i64.wrap ((k : Int) + 1) = (k : Int) + 1 := by rw [IntKind.wrap_i64]; have := HL.out; omega
    have hm := ftS_bd HL.out.2.1 _ _ HM.out
    have HX : Hid (k < L.length ∧ k + gk = L.length ∧ 0 ≤ m ∧ m ≤ n) := ⟨hlt, hk, hm.1, hm.2⟩
    have HBad : Hid (¬ okP m p → fitB n L = false) := hid13 (ftS_bad hp HM.out)
    have HGo : Hid (okP m p → ftS n (L.take (k + 1)) = some (m - p.k - p.d)) := hid13 (ftS_go hp HM.out)
    clear hp hlt hk hm HM
    by_cases k0 : p.k < 0
    · have d0 : decide (p.k < 0) = true := decide_eq_true k0
      have HF := hid13 (HBad.out (fun h => by have := h.1; omega))
      clear k0
      go_wp2
      go_ret
      exact ⟨by rw [HF.out]; rfl, HW.out.2⟩
    have d0 : decide (p.k < 0) = false := decide_eq_false k0
    by_cases k1 : m < p.k
    · have d1 : decide (m < p.k) = true := decide_eq_true k1
      have HF := hid13 (HBad.out (fun h => by have := h.2.1; omega))
      clear k0 k1
      go_wp2
      go_ret
      exact ⟨by rw [HF.out]; rfl, HW.out.2⟩
    have d1 : decide (m < p.k) = false := decide_eq_false k1
    have w1 : IntKind.i64.wrap (m - p.k) = m - p.k := by rw [IntKind.wrap_i64]; have := HX.out; have := HL.out; omega
    by_cases k2 : p.d < 0
    · have d2 : decide (p.d < 0) = true := decide_eq_true k2
      have HF := hid13 (HBad.out (fun h => by have := h.2.2.1; omega))
      clear k0 k1 k2
      go_wp2
      go_ret
      exact ⟨by rw [HF.out]; rfl, HW.out.2⟩
    have d2 : decide (p.d < 0) = false := decide_eq_false k2
    by_cases k3 : m - p.k < p.d
    · have d3 : decide (m - p.k < p.d) = true := decide_eq_true k3
      have HF := hid13 (HBad.out (fun h => by have := h.2.2.2; omega))
      clear k0 k1 k2 k3
      go_wp2
      go_ret
      exact ⟨by rw [HF.out]; rfl, HW.out.2⟩
    have d3 : decide (m - p.k < p.d) = false := decide_eq_false k3
    have w2 : IntKind.i64.wrap (m - p.k - p.d) = m - p.k - p.d := by rw [IntKind.wrap_i64]; have := HX.out; have := HL.out; omega
    have HM2 := hid13 (HGo.out ⟨by omega, by omega, by omega, by omega⟩)
    clear k0 k1 k2 k3
    go_wp2
    go_roundg (gk - 1)
    case measure => have := HX.out; omega
    case rel => exact ⟨k + 1, m - p.k - p.d, by have := HX.out; omega, rfl, rfl, HM2, HW⟩
end Go.Proofs.YtiachojhnbicaabDoor
