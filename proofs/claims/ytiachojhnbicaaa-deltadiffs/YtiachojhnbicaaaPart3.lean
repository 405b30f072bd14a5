/-
  Part 3 of the proof: 1 texts, one behind the other.
-/
import Derived.Test.YtiachojhnbicaaaPart2
import Derived.Test.YtiachojhnbicaaaPart1
namespace Go.Proofs.Ytiachojhnbicaaa
open Go.RowKit Go.Shelf
set_option linter.unusedSimpArgs false
set_option linter.unusedVariables false

def PtR21 (w : World) (v : Value) (L : List Pt) : Prop := ∃ ao c, v = .slice ao L.length c ∧ L.length ≤ c ∧ (L = [] ∨ ∃ b off, ao = some ⟨b, off, none⟩ ∧ ∀ j p, L[j]? = some p → ∃ vx, w.cell? ⟨b, off + j * 3, none⟩ = some (.int .i64 p.k) ∧ w.cell? ⟨b, off + j * 3 + 1, none⟩ = some (.int .i64 p.d) ∧ w.cell? ⟨b, off + j * 3 + 2, none⟩ = some vx ∧ RwX cB w vx p.x ∧ RowA w 1 vx p.x.length (p.x.map cB))
theorem PtR21.below {w w' : World} {v : Value} {L : List Pt} (h : PtR21 w v L) (hb : Below w.heap.size w w') : PtR21 w' v L := by
  obtain ⟨ao, c, e, hc, h⟩ := h
  refine ⟨ao, c, e, hc, h.imp id ?_⟩
  rintro ⟨b, off, e, h⟩
  refine ⟨b, off, e, fun j p hj => ?_⟩
  obtain ⟨vx, h1, h2, h3, h4, h5⟩ := h j p hj
  exact ⟨vx, keepc hb h1, keepc hb h2, keepc hb h3, h4.below hb, h5.below hb⟩
theorem ptr_at {w : World} {ao : Option Addr} {n c : Nat} {L : List Pt} (h : PtR21 w (.slice ao n c) L) {j : Nat} {p : Pt} (hj : L[j]? = some p) : ∃ b off xo xc, ao = some ⟨b, off, none⟩ ∧ w.cell? ⟨b, off + j * 3, none⟩ = some (.int .i64 p.k) ∧ w.cell? ⟨b, off + j * 3 + 1, none⟩ = some (.int .i64 p.d) ∧ w.cell? ⟨b, off + j * 3 + 2, none⟩ = some (.slice xo p.x.length xc) ∧ RwX cB w (.slice xo p.x.length xc) p.x ∧ RowA w 1 (.slice xo p.x.length xc) p.x.length (p.x.map cB) := by
  obtain ⟨ao', c', e, hc, h⟩ := h
  injection e with e1 e2 e3
  subst e1
  rcases h with h | ⟨b, off, e2, h⟩
  · rw [h] at hj; cases hj
  · obtain ⟨vx, h1, h2, h3, h4, h5⟩ := h j p hj
    obtain ⟨xo, xc, hx, -⟩ := id h4
    subst hx
    exact ⟨b, off, xo, xc, e2, h1, h2, h3, h4, h5⟩
theorem dfo_ptr {base : Nat} {W : World} {v : Value} {a b : List Nat} (h : DfO base W v a b) : PtR21 W v (dfL a b) := by
  unfold DfO at h
  unfold dfL
  by_cases hab : a = b
  · rw [if_pos hab] at h ⊢
    exact ⟨none, 0, h, Nat.le_refl _, .inl rfl⟩
  · rw [if_neg hab] at h ⊢
    obtain ⟨z, vx, rfl, h1, h2, -⟩ := h
    refine ⟨_, 1, rfl, Nat.le_refl _, .inr ⟨z, 0, rfl, fun j p hj => ?_⟩⟩
    have hj0 : j = 0 := by have := (List.getElem?_eq_some_iff.1 hj).1; simpa using this
    subst hj0
    simp only [List.getElem?_cons_zero, Option.some.injEq] at hj
    subst hj
    refine ⟨vx, ?_, ?_, ?_, own_rwx h2, own_rowA h2⟩
    · exact (h1.cellAt 0 (by decide)).trans rfl
    · exact (h1.cellAt 1 (by decide)).trans rfl
    · exact (h1.cellAt 2 (by decide)).trans rfl
theorem dfX_lt {a b : List Nat} (hy : ∀ z ∈ b, z < 256) : ∀ z ∈ dfX a b, z < 256 := fun z h => hy z (List.mem_of_mem_drop (List.mem_of_mem_take h))
theorem dfL_lt {a b : List Nat} (hy : ∀ z ∈ b, z < 256) : ∀ p ∈ dfL a b, ∀ z ∈ p.x, z < 256 := by
  intro p hp
  unfold dfL at hp
  split at hp
  · cases hp
  · rw [List.mem_singleton] at hp
    subst hp
    exact dfX_lt hy
def keyP (p : Pt) : Int × Int × List Nat := (p.k, p.d, p.x)
def smL (L M : List Pt) : Bool := decide (L.map keyP = M.map keyP)
theorem keyP_inj {p q : Pt} (h : keyP p = keyP q) : p = q := by
  cases p; cases q
  unfold keyP at h
  simpa using h
theorem map_key_inj : ∀ {L M : List Pt}, L.map keyP = M.map keyP → L = M
  | [], [], _ => rfl
  | [], _ :: _, h => by cases h
  | _ :: _, [], h => by cases h
  | p :: L, q :: M, h => by
    rw [List.map_cons, List.map_cons] at h
    injection h with h1 h2
    rw [keyP_inj h1, map_key_inj h2]
theorem smL_iff (L M : List Pt) : smL L M = true ↔ L = M := by
  unfold smL
  rw [decide_eq_true_eq]
  exact ⟨map_key_inj, fun h => by rw [h]⟩
theorem smL_self (L : List Pt) : smL L L = true := (smL_iff L L).2 rfl
theorem smL_ne {L M : List Pt} (h : L ≠ M) : smL L M = false := by
  cases e : smL L M with
  | false => rfl
  | true => exact absurd ((smL_iff L M).1 e) h
def Bp21 (W : World) (v u : Value) (L M : List Pt) : Prop := PtR21 W v L ∧ PtR21 W u M
theorem Bp21.below {W W' : World} {v u : Value} {L M : List Pt} (h : Bp21 W v u L M) (hb : Below W.heap.size W W') : Bp21 W' v u L M := ⟨h.1.below hb, h.2.below hb⟩
set_option maxRecDepth 100000 in
set_option maxHeartbeats 8000000 in
theorem same21 (v u : Value) (L M : List Pt) (w : World) (hv : PtR21 w v L) (hu : PtR21 w u M) (hx : ∀ p ∈ L, ∀ z ∈ p.x, z < 256) (hy : ∀ p ∈ M, ∀ z ∈ p.x, z < 256) (hl : L.length ≤ 140737488355328) :
    Calls Try.prog 7 #[v, u] w fun e w' => e = .returned (.bool (smL L M)) ∧ Below w.heap.size w w' := by
  obtain ⟨ao, c, hvf, -⟩ := id hv
  obtain ⟨bo, d, huf, -⟩ := id hu
  subst hvf huf
  have HB : Hid (Below w.heap.size w w) := Below.refl _ _
  by_cases hlen : L.length = M.length
  rotate_left 1
  · have e1 : (((L.length : Nat) : Int) != ((M.length : Nat) : Int)) = true := by simp; omega
    rw [smL_ne (fun e => hlen (by rw [e]))]
    clear hv hu hx hy hl hlen
    go_enter Try.func7, Try.ntmps7
    go_wp2
    go_ret
    exact ⟨rfl, HB.out⟩
  have e1 : (((L.length : Nat) : Int) != ((M.length : Nat) : Int)) = false := by simp; omega
  have HT : Hid (Bp21 w (.slice ao L.length c) (.slice bo M.length d) L M) := ⟨hv, hu⟩
  have HL : Hid (L.length ≤ 140737488355328 ∧ L.length = M.length) := ⟨hl, hlen⟩
  have HX := hid13 hx
  have HY := hid13 hy
  clear hv hu hx hy hl hlen
  go_enter Try.func7, Try.ntmps7
  go_wp2
  clear e1
  go_loopg [5] L.length (fun g x wr => ∃ (k : Nat), k + g = L.length ∧ x = .int .i64 (k : Int) ∧ Hid (Bp21 wr (.slice ao L.length c) (.slice bo M.length d) L M ∧ Below w.heap.size w wr) ∧ Hid (L.take k = M.take k))
  case atStart => exact ⟨0, by omega, rfl, ⟨HT.out, HB.out⟩, by show _ = _; simp⟩
  case round =>
    clear HT HB
    obtain ⟨k, hk, rfl, HW, HP⟩ := hrel
    by_cases hlt : k < L.length
    rotate_left 1
    · have l1 : ¬ (k : Int) < (L.length : Int) := by omega
      have HF : Hid (smL L M = true) := by
        show _ = _
        rw [smL_iff]
        have := HP.out
        rw [List.take_of_length_le (by omega), List.take_of_length_le (by have := HL.out; omega)] at this
        exact this
      clear HP hlt hk
      go_wp2
      go_ret
      exact ⟨by rw [HF.out]; rfl, HW.out.2⟩
    have hlt2 : k < M.length := by have := HL.out; omega
    have l1 : (k : Int) < (L.length : Int) := by omega
    have l2 : (k : Int) < (M.length : Int) := by omega
    obtain ⟨p, hp⟩ : ∃ p, L[k]? = some p := ⟨L[k], by simp [hlt]⟩
    obtain ⟨q, hq⟩ : ∃ q, M[k]? = some q := ⟨M[k], by simp [hlt2]⟩
    obtain ⟨b1, f1, xo, xc, hao, r0, r1, r2, r3, -⟩ := ptr_at HW.out.1.1 hp
    obtain ⟨b2, f2, yo, yc, hbo, s0, s1, s2, s3, -⟩ := ptr_at HW.out.1.2 hq
    subst hao hbo
    have hpx := HX.out p (List.mem_of_getElem? hp)
    have hqx := HY.out q (List.mem_of_getElem? hq)
    have mk : IntKind.i64.wrap ((k : Int) + 1) = (k : Int) + 1 := by rw [IntKind.wrap_i64]; have := HL.out; omega
    have HK : Hid (k < L.length ∧ k + gk = L.length) := ⟨hlt, hk⟩
    have HD : Hid (p ≠ q → smL L M = false) := by
      intro hne
      refine smL_ne (fun e => hne ?_)
      rw [e, hq] at hp
      injection hp with hp
      exact hp.symm
    have HE : Hid (p = q → L.take (k + 1) = M.take (k + 1)) := by
      intro e
      rw [List.take_add_one, List.take_add_one, hp, hq, HP.out, e]
    clear hp hq hlt hlt2 hk HP
    by_cases h1 : p.k = q.k
    rotate_left 1
    · have e1 : (p.k != q.k) = true := by simpa using h1
      have HF : Hid (smL L M = false) := HD.out (fun e => h1 (by rw [e]))
      clear h1 r1 r2 r3 s1 s2 s3 hpx hqx
      go_wp2
      go_quiet (fail)
      have HB3 : Hid (Below w.heap.size w (wr.drewN nq)) := below_drewN HW.out.2 nq
      clear HW r0 s0
      go_wp2
      go_ret
      exact ⟨by rw [HF.out]; rfl, HB3.out⟩
    have e1 : (p.k != q.k) = false := by simpa using h1
    by_cases h2 : p.d = q.d
    rotate_left 1
    · have e2 : (p.d != q.d) = true := by simpa using h2
      have HF : Hid (smL L M = false) := HD.out (fun e => h2 (by rw [e]))
      clear h1 h2 r2 r3 s2 s3 hpx hqx
      go_wp2
      go_quiet (fail)
      have HB3 : Hid (Below w.heap.size w (wr.drewN nq)) := below_drewN HW.out.2 nq
      clear HW r0 s0 r1 s1
      go_wp2
      go_ret
      exact ⟨by rw [HF.out]; rfl, HB3.out⟩
    have e2 : (p.d != q.d) = false := by simpa using h2
    have c1 := conv13 (r3.below (Below.refl wr.heap.size wr).drew) hpx
    have c2 := conv13 (s3.below (Below.refl wr.heap.size wr).drew) hqx
    have hb := bsA_eq hpx hqx
    generalize bsA p.x = s at *
    generalize bsA q.x = t at *
    obtain ⟨Bq, hBq⟩ : ∃ Bq, Bq = !decide (p.x = q.x) := ⟨_, rfl⟩
    have e3 : (s.toList == t.toList) = !Bq := by rw [hb, hBq, Bool.not_not]
    have HZ : Hid ((Bq = true → smL L M = false) ∧ (Bq = false → L.take (k + 1) = M.take (k + 1))) := by
      refine ⟨fun e => HD.out (fun e2 => ?_), fun e => HE.out ?_⟩
      · rw [hBq, e2] at e; simp at e
      · have h3 : p.x = q.x := by rw [hBq] at e; simpa using e
        exact keyP_inj (by unfold keyP; rw [h1, h2, h3])
    have HC : Hid (wr.drew.cell? ⟨b1, f1 + k * 3, none⟩ = some (.int .i64 p.k) ∧ wr.drew.cell? ⟨b1, f1 + k * 3 + 1, none⟩ = some (.int .i64 p.d) ∧ wr.drew.cell? ⟨b1, f1 + k * 3 + 2, none⟩ = some (.slice xo p.x.length xc) ∧ wr.drew.cell? ⟨b2, f2 + k * 3, none⟩ = some (.int .i64 q.k) ∧ wr.drew.cell? ⟨b2, f2 + k * 3 + 1, none⟩ = some (.int .i64 q.d) ∧ wr.drew.cell? ⟨b2, f2 + k * 3 + 2, none⟩ = some (.slice yo q.x.length yc) ∧ (convert 22 9 (.slice xo p.x.length xc)).run Try.prog wr.drew = .ok (.string s) wr.drew ∧ (convert 22 9 (.slice yo q.x.length yc)).run Try.prog wr.drew = .ok (.string t) wr.drew ∧ Bp21 wr.drew (.slice (some ⟨b1, f1, none⟩) L.length c) (.slice (some ⟨b2, f2, none⟩) M.length d) L M ∧ Below w.heap.size w wr.drew) := by
      have q := (Below.refl wr.heap.size wr).drew
      exact ⟨keepc q r0, keepc q r1, keepc q r2, keepc q s0, keepc q s1, keepc q s2, c1, c2, HW.out.1.below q, HW.out.2.drew⟩
    clear h1 h2 r3 s3 hpx hqx hb hBq HW r0 r1 r2 s0 s1 s2 c1 c2 HD HE
    go_wp2_with fail
    refine qw_region (C := fun X => X.cell? ⟨b1, f1 + k * 3, none⟩ = some (.int .i64 p.k) ∧ X.cell? ⟨b1, f1 + k * 3 + 1, none⟩ = some (.int .i64 p.d) ∧ X.cell? ⟨b1, f1 + k * 3 + 2, none⟩ = some (.slice xo p.x.length xc) ∧ X.cell? ⟨b2, f2 + k * 3, none⟩ = some (.int .i64 q.k) ∧ X.cell? ⟨b2, f2 + k * 3 + 1, none⟩ = some (.int .i64 q.d) ∧ X.cell? ⟨b2, f2 + k * 3 + 2, none⟩ = some (.slice yo q.x.length yc) ∧ (convert 22 9 (.slice xo p.x.length xc)).run Try.prog X = .ok (.string s) X ∧ (convert 22 9 (.slice yo q.x.length yc)).run Try.prog X = .ok (.string t) X ∧ Bp21 X (.slice (some ⟨b1, f1, none⟩) L.length c) (.slice (some ⟨b2, f2, none⟩) M.length d) L M ∧ Below w.heap.size w X) (by kernel_rfl) (by kernel_rfl) HC.out ?_
    refine qw_run (v := .slice (some ⟨b1, f1, none⟩) L.length c) (by rfl) ?_ ?_
    · (intro w9 hC; clear hC; go_simp; first | done | (simp; done) | (simp [*]; done) | omega | (simp; omega) | (rw [IntKind.wrap_i64]; omega) | (intro hx; omega) | rfl)
    simp only [Act.put, List.setIfInBounds_toArray, List.set_cons_zero, List.set_cons_succ]
    refine qw_run (v := .int .i64 (k : Int)) (by rfl) ?_ ?_
    · (intro w9 hC; clear hC; go_simp; first | done | (simp; done) | (simp [*]; done) | omega | (simp; omega) | (rw [IntKind.wrap_i64]; omega) | (intro hx; omega) | rfl)
    simp only [Act.put, List.setIfInBounds_toArray, List.set_cons_zero, List.set_cons_succ]
    refine qw_run (v := .pointer (some ⟨b1, f1 + k * 3, none⟩)) (by rfl) ?_ ?_
    · (intro w9 hC; clear hC; go_simp; first | done | (simp; done) | (simp [*]; done) | omega | (simp; omega) | (rw [IntKind.wrap_i64]; omega) | (intro hx; omega) | rfl)
    simp only [Act.put, List.setIfInBounds_toArray, List.set_cons_zero, List.set_cons_succ]
    refine qw_run (v := .pointer (some ⟨b1, f1 + k * 3, none⟩)) (by rfl) ?_ ?_
    · (intro w9 hC; clear hC; go_simp; first | done | (simp; done) | (simp [*]; done) | omega | (simp; omega) | (rw [IntKind.wrap_i64]; omega) | (intro hx; omega) | rfl)
    simp only [Act.put, List.setIfInBounds_toArray, List.set_cons_zero, List.set_cons_succ]
    refine qw_run (v := .int .i64 p.k) (by rfl) ?_ ?_
    · (intro w9 hC; obtain ⟨g0, g1, g2, h0, h1, h2, k1, k2, -⟩ := id hC; clear hC; go_simp; first | done | (simp; done) | (simp [*]; done) | omega | (simp; omega) | (rw [IntKind.wrap_i64]; omega) | (intro hx; omega) | rfl)
    simp only [Act.put, List.setIfInBounds_toArray, List.set_cons_zero, List.set_cons_succ]
    refine qw_run (v := .slice (some ⟨b2, f2, none⟩) M.length d) (by rfl) ?_ ?_
    · (intro w9 hC; clear hC; go_simp; first | done | (simp; done) | (simp [*]; done) | omega | (simp; omega) | (rw [IntKind.wrap_i64]; omega) | (intro hx; omega) | rfl)
    simp only [Act.put, List.setIfInBounds_toArray, List.set_cons_zero, List.set_cons_succ]
    refine qw_run (v := .int .i64 (k : Int)) (by rfl) ?_ ?_
    · (intro w9 hC; clear hC; go_simp; first | done | (simp; done) | (simp [*]; done) | omega | (simp; omega) | (rw [IntKind.wrap_i64]; omega) | (intro hx; omega) | rfl)
    simp only [Act.put, List.setIfInBounds_toArray, List.set_cons_zero, List.set_cons_succ]
    refine qw_run (v := .pointer (some ⟨b2, f2 + k * 3, none⟩)) (by rfl) ?_ ?_
    · (intro w9 hC; clear hC; go_simp; first | done | (simp; done) | (simp [*]; done) | omega | (simp; omega) | (rw [IntKind.wrap_i64]; omega) | (intro hx; omega) | rfl)
    simp only [Act.put, List.setIfInBounds_toArray, List.set_cons_zero, List.set_cons_succ]
    refine qw_run (v := .pointer (some ⟨b2, f2 + k * 3, none⟩)) (by rfl) ?_ ?_
    · (intro w9 hC; clear hC; go_simp; first | done | (simp; done) | (simp [*]; done) | omega | (simp; omega) | (rw [IntKind.wrap_i64]; omega) | (intro hx; omega) | rfl)
    simp only [Act.put, List.setIfInBounds_toArray, List.set_cons_zero, List.set_cons_succ]
    refine qw_run (v := .int .i64 q.k) (by rfl) ?_ ?_
    · (intro w9 hC; obtain ⟨g0, g1, g2, h0, h1, h2, k1, k2, -⟩ := id hC; clear hC; go_simp; first | done | (simp; done) | (simp [*]; done) | omega | (simp; omega) | (rw [IntKind.wrap_i64]; omega) | (intro hx; omega) | rfl)
    simp only [Act.put, List.setIfInBounds_toArray, List.set_cons_zero, List.set_cons_succ]
    refine qw_run (v := .bool false) (by rfl) ?_ ?_
    · (intro w9 hC; clear hC; go_simp; first | done | (simp; done) | (simp [*]; done) | omega | (simp; omega) | (rw [IntKind.wrap_i64]; omega) | (intro hx; omega) | rfl)
    simp only [Act.put, List.setIfInBounds_toArray, List.set_cons_zero, List.set_cons_succ]
    refine qw_run (v := .bool false) (by rfl) ?_ ?_
    · (intro w9 hC; clear hC; go_simp; first | done | (simp; done) | (simp [*]; done) | omega | (simp; omega) | (rw [IntKind.wrap_i64]; omega) | (intro hx; omega) | rfl)
    simp only [Act.put, List.setIfInBounds_toArray, List.set_cons_zero, List.set_cons_succ]
    refine qw_run (v := .slice (some ⟨b1, f1, none⟩) L.length c) (by rfl) ?_ ?_
    · (intro w9 hC; clear hC; go_simp; first | done | (simp; done) | (simp [*]; done) | omega | (simp; omega) | (rw [IntKind.wrap_i64]; omega) | (intro hx; omega) | rfl)
    simp only [Act.put, List.setIfInBounds_toArray, List.set_cons_zero, List.set_cons_succ]
    refine qw_run (v := .int .i64 (k : Int)) (by rfl) ?_ ?_
    · (intro w9 hC; clear hC; go_simp; first | done | (simp; done) | (simp [*]; done) | omega | (simp; omega) | (rw [IntKind.wrap_i64]; omega) | (intro hx; omega) | rfl)
    simp only [Act.put, List.setIfInBounds_toArray, List.set_cons_zero, List.set_cons_succ]
    refine qw_run (v := .pointer (some ⟨b1, f1 + k * 3, none⟩)) (by rfl) ?_ ?_
    · (intro w9 hC; clear hC; go_simp; first | done | (simp; done) | (simp [*]; done) | omega | (simp; omega) | (rw [IntKind.wrap_i64]; omega) | (intro hx; omega) | rfl)
    simp only [Act.put, List.setIfInBounds_toArray, List.set_cons_zero, List.set_cons_succ]
    refine qw_run (v := .pointer (some ⟨b1, f1 + k * 3 + 1, none⟩)) (by rfl) ?_ ?_
    · (intro w9 hC; clear hC; go_simp; first | done | (simp; done) | (simp [*]; done) | omega | (simp; omega) | (rw [IntKind.wrap_i64]; omega) | (intro hx; omega) | rfl)
    simp only [Act.put, List.setIfInBounds_toArray, List.set_cons_zero, List.set_cons_succ]
    refine qw_run (v := .int .i64 p.d) (by rfl) ?_ ?_
    · (intro w9 hC; obtain ⟨g0, g1, g2, h0, h1, h2, k1, k2, -⟩ := id hC; clear hC; go_simp; first | done | (simp; done) | (simp [*]; done) | omega | (simp; omega) | (rw [IntKind.wrap_i64]; omega) | (intro hx; omega) | rfl)
    simp only [Act.put, List.setIfInBounds_toArray, List.set_cons_zero, List.set_cons_succ]
    refine qw_run (v := .slice (some ⟨b2, f2, none⟩) M.length d) (by rfl) ?_ ?_
    · (intro w9 hC; clear hC; go_simp; first | done | (simp; done) | (simp [*]; done) | omega | (simp; omega) | (rw [IntKind.wrap_i64]; omega) | (intro hx; omega) | rfl)
    simp only [Act.put, List.setIfInBounds_toArray, List.set_cons_zero, List.set_cons_succ]
    refine qw_run (v := .int .i64 (k : Int)) (by rfl) ?_ ?_
    · (intro w9 hC; clear hC; go_simp; first | done | (simp; done) | (simp [*]; done) | omega | (simp; omega) | (rw [IntKind.wrap_i64]; omega) | (intro hx; omega) | rfl)
    simp only [Act.put, List.setIfInBounds_toArray, List.set_cons_zero, List.set_cons_succ]
    refine qw_run (v := .pointer (some ⟨b2, f2 + k * 3, none⟩)) (by rfl) ?_ ?_
    · (intro w9 hC; clear hC; go_simp; first | done | (simp; done) | (simp [*]; done) | omega | (simp; omega) | (rw [IntKind.wrap_i64]; omega) | (intro hx; omega) | rfl)
    simp only [Act.put, List.setIfInBounds_toArray, List.set_cons_zero, List.set_cons_succ]
    refine qw_run (v := .pointer (some ⟨b2, f2 + k * 3 + 1, none⟩)) (by rfl) ?_ ?_
    · (intro w9 hC; clear hC; go_simp; first | done | (simp; done) | (simp [*]; done) | omega | (simp; omega) | (rw [IntKind.wrap_i64]; omega) | (intro hx; omega) | rfl)
    simp only [Act.put, List.setIfInBounds_toArray, List.set_cons_zero, List.set_cons_succ]
    refine qw_run (v := .int .i64 q.d) (by rfl) ?_ ?_
    · (intro w9 hC; obtain ⟨g0, g1, g2, h0, h1, h2, k1, k2, -⟩ := id hC; clear hC; go_simp; first | done | (simp; done) | (simp [*]; done) | omega | (simp; omega) | (rw [IntKind.wrap_i64]; omega) | (intro hx; omega) | rfl)
    simp only [Act.put, List.setIfInBounds_toArray, List.set_cons_zero, List.set_cons_succ]
    refine qw_run (v := .bool false) (by rfl) ?_ ?_
    · (intro w9 hC; clear hC; go_simp; first | done | (simp; done) | (simp [*]; done) | omega | (simp; omega) | (rw [IntKind.wrap_i64]; omega) | (intro hx; omega) | rfl)
    simp only [Act.put, List.setIfInBounds_toArray, List.set_cons_zero, List.set_cons_succ]
    refine qw_run (v := .bool false) (by rfl) ?_ ?_
    · (intro w9 hC; clear hC; go_simp; first | done | (simp; done) | (simp [*]; done) | omega | (simp; omega) | (rw [IntKind.wrap_i64]; omega) | (intro hx; omega) | rfl)
    simp only [Act.put, List.setIfInBounds_toArray, List.set_cons_zero, List.set_cons_succ]
    refine qw_run (v := .bool false) (by rfl) ?_ ?_
    · (intro w9 hC; clear hC; go_simp; first | done | (simp; done) | (simp [*]; done) | omega | (simp; omega) | (rw [IntKind.wrap_i64]; omega) | (intro hx; omega) | rfl)
    simp only [Act.put, List.setIfInBounds_toArray, List.set_cons_zero, List.set_cons_succ]
    refine qw_run (v := .slice (some ⟨b1, f1, none⟩) L.length c) (by rfl) ?_ ?_
    · (intro w9 hC; clear hC; go_simp; first | done | (simp; done) | (simp [*]; done) | omega | (simp; omega) | (rw [IntKind.wrap_i64]; omega) | (intro hx; omega) | rfl)
    simp only [Act.put, List.setIfInBounds_toArray, List.set_cons_zero, List.set_cons_succ]
    refine qw_run (v := .int .i64 (k : Int)) (by rfl) ?_ ?_
    · (intro w9 hC; clear hC; go_simp; first | done | (simp; done) | (simp [*]; done) | omega | (simp; omega) | (rw [IntKind.wrap_i64]; omega) | (intro hx; omega) | rfl)
    simp only [Act.put, List.setIfInBounds_toArray, List.set_cons_zero, List.set_cons_succ]
    refine qw_run (v := .pointer (some ⟨b1, f1 + k * 3, none⟩)) (by rfl) ?_ ?_
    · (intro w9 hC; clear hC; go_simp; first | done | (simp; done) | (simp [*]; done) | omega | (simp; omega) | (rw [IntKind.wrap_i64]; omega) | (intro hx; omega) | rfl)
    simp only [Act.put, List.setIfInBounds_toArray, List.set_cons_zero, List.set_cons_succ]
    refine qw_run (v := .pointer (some ⟨b1, f1 + k * 3 + 2, none⟩)) (by rfl) ?_ ?_
    · (intro w9 hC; clear hC; go_simp; first | done | (simp; done) | (simp [*]; done) | omega | (simp; omega) | (rw [IntKind.wrap_i64]; omega) | (intro hx; omega) | rfl)
    simp only [Act.put, List.setIfInBounds_toArray, List.set_cons_zero, List.set_cons_succ]
    refine qw_run (v := .slice xo p.x.length xc) (by rfl) ?_ ?_
    · (intro w9 hC; obtain ⟨g0, g1, g2, h0, h1, h2, k1, k2, -⟩ := id hC; clear hC; go_simp; first | done | (simp; done) | (simp [*]; done) | omega | (simp; omega) | (rw [IntKind.wrap_i64]; omega) | (intro hx; omega) | rfl)
    simp only [Act.put, List.setIfInBounds_toArray, List.set_cons_zero, List.set_cons_succ]
    refine qw_run (v := .string s) (by rfl) ?_ ?_
    · (intro w9 hC; obtain ⟨g0, g1, g2, h0, h1, h2, k1, k2, -⟩ := id hC; clear hC; go_simp; first | done | (simp; done) | (simp [*]; done) | omega | (simp; omega) | (rw [IntKind.wrap_i64]; omega) | (intro hx; omega) | rfl)
    simp only [Act.put, List.setIfInBounds_toArray, List.set_cons_zero, List.set_cons_succ]
    refine qw_run (v := .slice (some ⟨b2, f2, none⟩) M.length d) (by rfl) ?_ ?_
    · (intro w9 hC; clear hC; go_simp; first | done | (simp; done) | (simp [*]; done) | omega | (simp; omega) | (rw [IntKind.wrap_i64]; omega) | (intro hx; omega) | rfl)
    simp only [Act.put, List.setIfInBounds_toArray, List.set_cons_zero, List.set_cons_succ]
    refine qw_run (v := .int .i64 (k : Int)) (by rfl) ?_ ?_
    · (intro w9 hC; clear hC; go_simp; first | done | (simp; done) | (simp [*]; done) | omega | (simp; omega) | (rw [IntKind.wrap_i64]; omega) | (intro hx; omega) | rfl)
    simp only [Act.put, List.setIfInBounds_toArray, List.set_cons_zero, List.set_cons_succ]
    refine qw_run (v := .pointer (some ⟨b2, f2 + k * 3, none⟩)) (by rfl) ?_ ?_
    · (intro w9 hC; clear hC; go_simp; first | done | (simp; done) | (simp [*]; done) | omega | (simp; omega) | (rw [IntKind.wrap_i64]; omega) | (intro hx; omega) | rfl)
    simp only [Act.put, List.setIfInBounds_toArray, List.set_cons_zero, List.set_cons_succ]
    refine qw_run (v := .pointer (some ⟨b2, f2 + k * 3 + 2, none⟩)) (by rfl) ?_ ?_
    · (intro w9 hC; clear hC; go_simp; first | done | (simp; done) | (simp [*]; done) | omega | (simp; omega) | (rw [IntKind.wrap_i64]; omega) | (intro hx; omega) | rfl)
    simp only [Act.put, List.setIfInBounds_toArray, List.set_cons_zero, List.set_cons_succ]
    refine qw_run (v := .slice yo q.x.length yc) (by rfl) ?_ ?_
    · (intro w9 hC; obtain ⟨g0, g1, g2, h0, h1, h2, k1, k2, -⟩ := id hC; clear hC; go_simp; first | done | (simp; done) | (simp [*]; done) | omega | (simp; omega) | (rw [IntKind.wrap_i64]; omega) | (intro hx; omega) | rfl)
    simp only [Act.put, List.setIfInBounds_toArray, List.set_cons_zero, List.set_cons_succ]
    refine qw_run (v := .string t) (by rfl) ?_ ?_
    · (intro w9 hC; obtain ⟨g0, g1, g2, h0, h1, h2, k1, k2, -⟩ := id hC; clear hC; go_simp; first | done | (simp; done) | (simp [*]; done) | omega | (simp; omega) | (rw [IntKind.wrap_i64]; omega) | (intro hx; omega) | rfl)
    simp only [Act.put, List.setIfInBounds_toArray, List.set_cons_zero, List.set_cons_succ]
    refine qw_run (v := .bool Bq) (by rfl) ?_ ?_
    · (intro w9 hC; clear hC; go_simp; first | done | (simp; done) | (simp [*]; done) | omega | (simp; omega) | (rw [IntKind.wrap_i64]; omega) | (intro hx; omega) | rfl)
    simp only [Act.put, List.setIfInBounds_toArray, List.set_cons_zero, List.set_cons_succ]
    refine qw_run (v := .bool Bq) (by rfl) ?_ ?_
    · (intro w9 hC; clear hC; go_simp; first | done | (simp; done) | (simp [*]; done) | omega | (simp; omega) | (rw [IntKind.wrap_i64]; omega) | (intro hx; omega) | rfl)
    simp only [Act.put, List.setIfInBounds_toArray, List.set_cons_zero, List.set_cons_succ]
    refine qw_nil ?_
    intro W3 hW3
    have HW3 : Hid (Bp21 W3 (.slice (some ⟨b1, f1, none⟩) L.length c) (.slice (some ⟨b2, f2, none⟩) M.length d) L M ∧ Below w.heap.size w W3) := hW3.2.2.2.2.2.2.2.2
    clear hW3 HC
    cases Bq with
    | true =>
      have HF : Hid (smL L M = false) := HZ.out.1 rfl
      go_wp2
      go_ret
      exact ⟨by rw [HF.out]; rfl, HW3.out.2⟩
    | false =>
      have HP2 : Hid (L.take (k + 1) = M.take (k + 1)) := HZ.out.2 rfl
      clear HZ
      go_wp2
      go_roundg (gk - 1)
      case measure => have := HK.out; omega
      case rel => exact ⟨k + 1, by have := HK.out; omega, rfl, HW3, HP2⟩
end Go.Proofs.Ytiachojhnbicaaa
