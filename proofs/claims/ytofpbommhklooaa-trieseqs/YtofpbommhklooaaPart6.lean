/-
  Part 6 of the proof: 3 texts, one behind the other.
-/
import Derived.Test.YtofpbommhklooaaPart5
import Derived.Laws.OwnMore
/-
  What the call of the grower's back does.
-/
namespace Go.Proofs.Ytofpbommhklooaa
open Go.RowKit
set_option linter.unusedSimpArgs false
set_option linter.unusedVariables false

def nd8 (L : List Nd) (i : Nat) : Nd := L.getD i Nd.none
theorem nd8_in {L : List Nd} {i : Nat} (h : i < L.length) : nd8 L i = L[i] := by simp [nd8, h]
theorem rowNd_len : ∀ L, (rowNd L).length = L.length * 6
  | [] => rfl
  | x :: L => by simp only [rowNd, List.length_cons, rowNd_len L]; omega
theorem rowNd_get : ∀ (L : List Nd) (k : Nat) (hk : k < L.length), (rowNd L)[k * 6 + 2]? = some (.int .i32 L[k].count) ∧ (rowNd L)[k * 6 + 5]? = some (.int .u8 L[k].height)
  | x :: L, 0, _ => ⟨rfl, rfl⟩
  | x :: L, k + 1, hk => by
    have := rowNd_get L k (by simpa using hk)
    rw [show (k + 1) * 6 + 2 = k * 6 + 2 + 6 by omega, show (k + 1) * 6 + 5 = k * 6 + 5 + 6 by omega]
    exact this
theorem rowNd_cnt : ∀ (L : List Nd) (k : Nat) (hk : k < L.length) (c : Int), (rowNd L).set (k * 6 + 2) (.int .i32 c) = rowNd (L.set k { L[k] with count := c })
  | x :: L, 0, _, c => rfl
  | x :: L, k + 1, hk, c => by
    have := rowNd_cnt L k (by simpa using hk) c
    rw [show (k + 1) * 6 + 2 = k * 6 + 2 + 6 by omega]
    simp only [rowNd, List.set_cons_succ, List.getElem_cons_succ]
    rw [← this]
theorem rowNd_hgt : ∀ (L : List Nd) (k : Nat) (hk : k < L.length) (c : Int), (rowNd L).set (k * 6 + 5) (.int .u8 c) = rowNd (L.set k { L[k] with height := c })
  | x :: L, 0, _, c => rfl
  | x :: L, k + 1, hk, c => by
    have := rowNd_hgt L k (by simpa using hk) c
    rw [show (k + 1) * 6 + 5 = k * 6 + 5 + 6 by omega]
    simp only [rowNd, List.set_cons_succ, List.getElem_cons_succ]
    rw [← this]
theorem rowIn_len : ∀ l, (rowIn l).length = l.length
  | [] => rfl
  | x :: l => by simp only [rowIn, List.length_cons, rowIn_len l]
theorem rowIn_get : ∀ (l : List Nat) (k : Nat) (hk : k < l.length), (rowIn l)[k]? = some (.int .i64 (l[k] : Int))
  | x :: l, 0, _ => rfl
  | x :: l, k + 1, hk => rowIn_get l k (by simpa using hk)
theorem cells8 {W : World} {base e size n g cap : Nat} {xs : List Value} (h : W.ownsRow base e size (.slice (some ⟨g, 0, none⟩) n cap) n xs) {j : Nat} {u : Value} (hj : xs[j]? = some u) : W.cell? ⟨g, j, none⟩ = some u ∧ W.frozen? ⟨g, j, none⟩ = false := by
  have f := h.cells (g := g) rfl j u hj
  rw [addA, Nat.zero_add] at f
  refine ⟨f, ?_⟩
  rcases h.2 with ⟨e0, _⟩ | ⟨g', cap', cur, e0, hb, hg, hnc, hm, hs, ht⟩
  · cases e0
  · injection e0 with e1 _ e3
    injection e1 with e1
    injection e1 with e1
    subst e1
    simp [World.frozen?, hg]
section
variable {W : World} {base G B : Nat} {F : Int} {L : List Nd} {ws : List (BitVec 128)} {y : List Nat} {vw vy : Value} {g cap : Nat}
theorem GwV.setN (k : GwV W base G B F L ws y (.slice (some ⟨g, 0, none⟩) L.length cap) vw vy) {L' : List Nd} (hL : L'.length = L.length) (j : Nat) (u : Value) (hj : j < L.length * 6) (hrow : (rowNd L).set j u = rowNd L') :
    GwV (W.setCell ⟨g, j, none⟩ u) base G B F L' ws y (.slice (some ⟨g, 0, none⟩) L'.length cap) vw vy := by
  have hG : ¬ G = g := fun e => k.nG (by rw [e]; rfl)
  have hB : ¬ B = g := fun e => k.nB (by rw [e]; rfl)
  have sG := setB (W := W) (o := j) u hG
  have sB := setB (W := W) (o := j) u hB
  rw [hL]
  refine ⟨by rw [cellB sG]; exact k.g0, by rw [cellB sG]; exact k.g1, by rw [frozB sG]; exact k.gf, by rw [cellB sB]; exact k.t0, by rw [cellB sB]; exact k.t1, by rw [cellB sB]; exact k.t2, by rw [frozB sB]; exact k.f1, by rw [frozB sB]; exact k.f2, ?_, ?_, ?_, k.gb, k.nG, k.nB, k.wG, k.wB, k.yG, k.yB, k.nw, k.ny, k.wy, k.bG, k.bB⟩
  · rw [hL, ← hrow]; exact (k.on.stored j u).1
  · exact own_blk k.ow (fun z e => setB _ (fun q => k.nw g rfl (by rw [e, q])))
  · exact own_blk k.oy (fun z e => setB _ (fun q => k.ny g rfl (by rw [e, q])))
end
theorem GwV.cut {W : World} {base G B : Nat} {F : Int} {L : List Nd} {ws : List (BitVec 128)} {y : List Nat} {q : Nat} {vn vw : Value} {g cap : Nat} (k : GwV W base G B F L ws (y ++ [q]) vn vw (.slice (some ⟨g, 0, none⟩) (y.length + 1) cap)) :
    GwV (W.setCell ⟨G, 1, none⟩ (.slice (some ⟨g, 0, none⟩) y.length cap)) base G B F L ws y vn vw (.slice (some ⟨g, 0, none⟩) y.length cap) := by
  have sG : ∀ z, ¬ z = G → (W.setCell ⟨G, 1, none⟩ (.slice (some ⟨g, 0, none⟩) y.length cap)).heap[z]? = W.heap[z]? := fun z e => setB _ e
  have sB := sG B (Ne.symm k.gb)
  have c0 := k.g0
  have c1 := k.g1
  have cf := k.gf
  have hg : ¬ g = G := fun e => k.yG (by rw [← e]; rfl)
  refine ⟨by simp [go_sem, c0], by simp [go_sem, c1], by simp [go_sem, cf], by rw [cellB sB]; exact k.t0, by rw [cellB sB]; exact k.t1, by rw [cellB sB]; exact k.t2, by rw [frozB sB]; exact k.f1, by rw [frozB sB]; exact k.f2, own_blk k.on (fun z e => sG z (fun e2 => k.nG (by rw [e, e2]))), own_blk k.ow (fun z e => sG z (fun e2 => k.wG (by rw [e, e2]))), ?_, k.gb, k.nG, k.nB, k.wG, k.wB, k.yG, k.yB, k.nw, k.ny, k.wy, k.bG, k.bB⟩
  have ho := k.oy
  have hl : (y ++ [q]).length = y.length + 1 := by simp
  rw [hl] at ho
  rcases ho.2 with ⟨e0, _⟩ | ⟨g', cap', cur, e0, hb, hgg, hnc, hm, hs, ht⟩
  · cases e0
  · injection e0 with e1 _ e3
    injection e1 with e1
    injection e1 with e1
    subst e1; subst e3
    refine ⟨by rw [rowIn_len]; omega, .inr ⟨g, cap, cur, rfl, hb, by rw [sG g hg]; exact hgg, by omega, hm, hs, ?_⟩⟩
    have e : rowIn y = (rowIn (y ++ [q])).take (y.length * 1) := by
      rw [rowIn_app, List.take_append_of_le_length (by rw [rowIn_len]; omega), List.take_of_length_le (by rw [rowIn_len]; omega)]
    rw [e, ← ht, List.take_take, Nat.min_eq_left (by omega)]
theorem GwV.cut8 {W : World} {base G B : Nat} {F : Int} {L : List Nd} {ws : List (BitVec 128)} {q p : Nat} {r2 : List Nat} {vn vw : Value} {g cap : Nat} (k : GwV W base G B F L ws ((p :: r2).reverse ++ [q]) vn vw (.slice (some ⟨g, 0, none⟩) (r2.length + 1 + 1) cap)) :
    GwV (W.setCell ⟨G, 1, none⟩ (.slice (some ⟨g, 0, none⟩) (r2.length + 1) cap)) base G B F L ws (p :: r2).reverse vn vw (.slice (some ⟨g, 0, none⟩) (r2.length + 1) cap) := by
  have e : (p :: r2).reverse.length = r2.length + 1 := by simp
  rw [← e] at k ⊢
  exact k.cut
/-- What a node above reckons with when one below it is left. -/
def bk1 (L : List Nd) (p q : Nat) : List Nd := L.set p { nd8 L p with count := IntKind.i32.wrap ((nd8 L p).count + (nd8 L q).count), height := if (nd8 L p).height < IntKind.u8.wrap ((nd8 L q).height + 1) then IntKind.u8.wrap ((nd8 L q).height + 1) else (nd8 L p).height }
theorem bk1_len (L : List Nd) (p q : Nat) : (bk1 L p q).length = L.length := by simp [bk1]
theorem bk1_eq (L : List Nd) (p q : Nat) (hp : p < L.length) (hq : q < L.length) (c h : Int) (hc : c = IntKind.i32.wrap (L[p].count + L[q].count)) (L2 : List Nd) (h2 : L2 = L.set p { L[p] with count := c }) (hp2 : p < L2.length) (hq2 : q < L2.length) (hh : h = if L2[p].height < IntKind.u8.wrap (L2[q].height + 1) then IntKind.u8.wrap (L2[q].height + 1) else L2[p].height) :
    L2.set p { L2[p] with height := h } = bk1 L p q := by
  have e1 : L2[p].height = L[p].height := by subst h2; simp
  have e2 : L2[q].height = L[q].height := by
    subst h2
    by_cases e : p = q
    · subst e; simp
    · simp [List.getElem_set_ne e]
  have e3 : L2[p] = { L[p] with count := c } := by subst h2; simp
  unfold bk1
  rw [nd8_in hp, nd8_in hq, e3, hh, e1, e2, hc]
  subst h2
  simp
/-- The way (its end first) is left down to a length. -/
def bkY (len : Nat) : List Nd → List Nat → List Nd × List Nat
  | L, [] => (L, [])
  | L, [p] => (L, [p])
  | L, q :: p :: r => if len < r.length + 1 then bkY len (bk1 L p q) (p :: r) else (L, q :: p :: r)
set_option maxRecDepth 20000 in
set_option maxHeartbeats 8000000 in
theorem back_any (base G B : Nat) (F : Int) (len : Nat) (L : List Nd) (ws : List (BitVec 128)) (r : List Nat) (vn vw vy : Value) (w : World) (k : GwV w base G B F L ws r.reverse vn vw vy) (hr : ∀ i ∈ r, i < L.length) (hne : 1 ≤ r.length) (hL : L.length ≤ 1000000000) (hy : r.length ≤ 255) :
    Calls Try.prog 53 #[.pointer (some ⟨G, 0, none⟩), .int .i64 (len : Int)] w fun e w' => e = .returned (.tuple #[]) ∧ (∃ vy', GwV w' base G B F (bkY len L r).1 ws (bkY len L r).2.reverse vn vw vy') ∧ Bw w w' base G B vn vy := by
  obtain ⟨gn, cn, rfl⟩ : ∃ gn cn, vn = .slice (some ⟨gn, 0, none⟩) L.length cn := by
    have hp : 0 < L.length := by
      cases r with
      | nil => simp at hne
      | cons a r => have := hr a (by simp); omega
    obtain ⟨g, c, e, -, -⟩ := k.on.form (by omega)
    exact ⟨g, c, e⟩
  obtain ⟨gy, cy, rfl⟩ : ∃ gy cy, vy = .slice (some ⟨gy, 0, none⟩) r.length cy := by
    have h := k.oy
    rw [List.length_reverse] at h
    obtain ⟨g, c, e, -, -⟩ := h.form (by omega)
    exact ⟨g, c, e⟩
  have HK := hid8 k
  have HB := hid8 (Bw.refl (G := G) (B := B) (vn := .slice (some ⟨gn, 0, none⟩) L.length cn) (vy := .slice (some ⟨gy, 0, none⟩) r.length cy) k.base_le)
  have a0 := k.g0
  have a1 := k.g1
  have c1 : IntKind.i64.wrap ((r.length : Int) - 1) = (r.length : Int) - 1 := by rw [IntKind.wrap_i64]; omega
  clear k
  go_enter Try.func53, Try.ntmps53
  go_wp2_with fail
  clear a0 a1 c1
  go_loopw [4] (fun e wr => ∃ (L1 : List Nd) (r1 : List Nat), e = .int .i64 ((r1.length : Int) - 1) ∧ L1.length = L.length ∧ (∀ i ∈ r1, i < L1.length) ∧ 1 ≤ r1.length ∧ r1.length ≤ 255 ∧ Hid (bkY len L1 r1 = bkY len L r) ∧ Hid (GwV wr base G B F L1 ws r1.reverse (.slice (some ⟨gn, 0, none⟩) L1.length cn) vw (.slice (some ⟨gy, 0, none⟩) r1.length cy)) ∧ Hid (Bw w wr base G B (.slice (some ⟨gn, 0, none⟩) L.length cn) (.slice (some ⟨gy, 0, none⟩) r.length cy))) (fun e _ => (intOf e).toNat)
  case atStart => exact ⟨L, r, rfl, rfl, hr, hne, hy, rfl, HK, HB⟩
  case round =>
    clear HK HB hr hne hy
    obtain ⟨L1, r1, rfl, hl1, hr1, hn1, hy1, HE, HK, HB⟩ := hrel
    by_cases hlt : (len : Int) < (r1.length : Int) - 1
    · obtain ⟨q, p, r2, rfl⟩ : ∃ q p r2, r1 = q :: p :: r2 := by
        match r1, hlt with
        | [], h => simp at h; omega
        | [x], h => simp at h; omega
        | q :: p :: r2, _ => exact ⟨q, p, r2, rfl⟩
      have hq := hr1 q (by simp)
      have hp := hr1 p (by simp)
      have hr2 : ∀ i ∈ p :: r2, i < (bk1 L1 p q).length := fun i hi => by rw [bk1_len]; exact hr1 i (List.mem_cons_of_mem _ hi)
      have HE2 : Hid (bkY len (bk1 L1 p q) (p :: r2) = bkY len L r) := by
        show _ = _
        rw [← HE.out, bkY, if_pos (by simp only [List.length_cons] at hlt; omega)]
      have hlen : ((q :: p :: r2).length : Int) - 1 = ((r2.length + 1 : Nat) : Int) := by simp only [List.length_cons]; omega
      rw [hlen] at hlt ⊢
      have m1 : IntKind.i64.wrap (((r2.length + 1 : Nat) : Int) - 1) = (r2.length : Int) := by rw [IntKind.wrap_i64]; omega
      have hM : (intOf (.int .i64 (r2.length : Int))).toNat < (intOf (.int .i64 ((r2.length + 1 : Nat) : Int))).toNat := by simp only [intOf]; omega
      have HM := hid8 hM
      clear hM hlen
      have hrev : (q :: p :: r2).reverse = (p :: r2).reverse ++ [q] := by simp
      have hoy := HK.out.oy
      rw [List.length_reverse] at hoy
      have z1 := (cells8 hoy (j := r2.length + 1) (u := .int .i64 (q : Int)) (by rw [rowIn_get _ _ (by simp)]; simp [List.getElem_append])).1
      have z0 := (cells8 hoy (j := r2.length) (u := .int .i64 (p : Int)) (by rw [rowIn_get _ _ (by simp)]; simp [List.getElem_append])).1
      clear hoy
      have a0 := HK.out.g0
      have a1 := HK.out.g1
      have a4 := HK.out.t1
      have hcy : r2.length + 1 ≤ cy := by
        have h := HK.out.oy
        rw [List.length_reverse] at h
        rcases h.2 with ⟨e0, _⟩ | ⟨g', cap', cur, e0, hb, hgg, hnc, hm, hs, ht⟩
        · cases e0
        · injection e0 with _ _ e3
          subst e3
          simp only [List.length_cons] at hnc
          omega
      obtain ⟨i0, hi0, -, -, -⟩ := info_of Try.infoI8
      have hsl := fun w => run_slice_to (P := Try.prog) (w := w) (t := 37) Try.underlying37 hi0 (some ⟨gy, 0, none⟩) (r2.length + 1 + 1) cy (r2.length + 1) hcy
      rw [show ((r2.length + 1 : Nat) : Int) = (r2.length : Int) + 1 by omega] at hsl
      have hqi : (q : Int) < (L1.length : Int) := by omega
      have hpi : (p : Int) < (L1.length : Int) := by omega
      have hsz : (q :: p :: r2).length = r2.length + 1 + 1 := by simp
      rw [hsz] at a1
      have HKd := hid8 (fun n => HK.out.below (below_drewN (Below.refl wr.heap.size wr) n))
      have HBd := hid8 (fun n => HB.out.drewN HK.out.base_le n)
      rw [hrev, hsz] at HKd
      clear HK HB HE
      go_wp2_with fail
      go_quiet (fail)
      go_wp2_with fail
      clear a0 a1 a4 z0 z1
      have hp9 := hp
      have hq9 := hq
      obtain ⟨c9, hc9⟩ : ∃ c, c = IntKind.i32.wrap (L1[p].count + L1[q].count) := ⟨_, rfl⟩
      have HC9 : GwV (_ : World).drew base G B F L1 ws ((p :: r2).reverse ++ [q]) (.slice (some ⟨gn, 0, none⟩) L1.length cn) vw (.slice (some ⟨gy, 0, none⟩) (r2.length + 1 + 1) cy) ∧ Bw w (_ : World).drew base G B (.slice (some ⟨gn, 0, none⟩) L.length cn) (.slice (some ⟨gy, 0, none⟩) r.length cy) := ⟨(HKd.out nq).below (below_drewN (Below.refl _ _) 1), (HBd.out nq).drewN (HKd.out nq).base_le 1⟩
      refine qp_region2 9 (qpOk 9 9 (by decide) (fun N => by kernel_rfl) (by kernel_rfl) (by kernel_rfl) (by kernel_rfl) (by kernel_rfl)) (C := fun W => GwV W base G B F L1 ws ((p :: r2).reverse ++ [q]) (.slice (some ⟨gn, 0, none⟩) L1.length cn) vw (.slice (some ⟨gy, 0, none⟩) (r2.length + 1 + 1) cy) ∧ Bw w W base G B (.slice (some ⟨gn, 0, none⟩) L.length cn) (.slice (some ⟨gy, 0, none⟩) r.length cy)) [some 49, some 50, some 51, some 52, some 53, some 54, some 55, some 56, some 57] [.pointer (some ⟨gn, p * 6, none⟩), .pointer (some ⟨gn, p * 6, none⟩), .pointer (some ⟨gn, p * 6 + 2, none⟩), .int .i32 L1[p].count, .pointer (some ⟨gn, q * 6, none⟩), .pointer (some ⟨gn, q * 6, none⟩), .pointer (some ⟨gn, q * 6 + 2, none⟩), .int .i32 L1[q].count, .int .i32 (IntKind.i32.wrap (L1[p].count + L1[q].count))] (by kernel_rfl) HC9 ?walk ?fin
      case walk =>
        dsimp only [List.take]
        refine q_run (v := .pointer (some ⟨gn, p * 6, none⟩)) (by rfl) ?_ ?_
        · (intro w9 hC; have n0 := (cells8 hC.1.on (rowNd_get L1 p hp9).1).1; have n1 := (cells8 hC.1.on (rowNd_get L1 q hq9).1).1; have n2 := (cells8 hC.1.on (rowNd_get L1 p hp9).2).1; have n3 := (cells8 hC.1.on (rowNd_get L1 q hq9).2).1; clear hC; go_simp; first | done | (simp; done) | (simp [*]; done) | omega | (simp; omega) | rfl)
        simp only [Act.put, List.setIfInBounds_toArray, List.set_cons_zero, List.set_cons_succ]
        refine q_run (v := .pointer (some ⟨gn, p * 6, none⟩)) (by rfl) ?_ ?_
        · (intro w9 hC; have n0 := (cells8 hC.1.on (rowNd_get L1 p hp9).1).1; have n1 := (cells8 hC.1.on (rowNd_get L1 q hq9).1).1; have n2 := (cells8 hC.1.on (rowNd_get L1 p hp9).2).1; have n3 := (cells8 hC.1.on (rowNd_get L1 q hq9).2).1; clear hC; go_simp; first | done | (simp; done) | (simp [*]; done) | omega | (simp; omega) | rfl)
        simp only [Act.put, List.setIfInBounds_toArray, List.set_cons_zero, List.set_cons_succ]
        refine q_run (v := .pointer (some ⟨gn, p * 6 + 2, none⟩)) (by rfl) ?_ ?_
        · (intro w9 hC; have n0 := (cells8 hC.1.on (rowNd_get L1 p hp9).1).1; have n1 := (cells8 hC.1.on (rowNd_get L1 q hq9).1).1; have n2 := (cells8 hC.1.on (rowNd_get L1 p hp9).2).1; have n3 := (cells8 hC.1.on (rowNd_get L1 q hq9).2).1; clear hC; go_simp; first | done | (simp; done) | (simp [*]; done) | omega | (simp; omega) | rfl)
        simp only [Act.put, List.setIfInBounds_toArray, List.set_cons_zero, List.set_cons_succ]
        refine q_run (v := .int .i32 L1[p].count) (by rfl) ?_ ?_
        · (intro w9 hC; have n0 := (cells8 hC.1.on (rowNd_get L1 p hp9).1).1; have n1 := (cells8 hC.1.on (rowNd_get L1 q hq9).1).1; have n2 := (cells8 hC.1.on (rowNd_get L1 p hp9).2).1; have n3 := (cells8 hC.1.on (rowNd_get L1 q hq9).2).1; clear hC; go_simp; first | done | (simp; done) | (simp [*]; done) | omega | (simp; omega) | rfl)
        simp only [Act.put, List.setIfInBounds_toArray, List.set_cons_zero, List.set_cons_succ]
        refine q_run (v := .pointer (some ⟨gn, q * 6, none⟩)) (by rfl) ?_ ?_
        · (intro w9 hC; have n0 := (cells8 hC.1.on (rowNd_get L1 p hp9).1).1; have n1 := (cells8 hC.1.on (rowNd_get L1 q hq9).1).1; have n2 := (cells8 hC.1.on (rowNd_get L1 p hp9).2).1; have n3 := (cells8 hC.1.on (rowNd_get L1 q hq9).2).1; clear hC; go_simp; first | done | (simp; done) | (simp [*]; done) | omega | (simp; omega) | rfl)
        simp only [Act.put, List.setIfInBounds_toArray, List.set_cons_zero, List.set_cons_succ]
        refine q_run (v := .pointer (some ⟨gn, q * 6, none⟩)) (by rfl) ?_ ?_
        · (intro w9 hC; have n0 := (cells8 hC.1.on (rowNd_get L1 p hp9).1).1; have n1 := (cells8 hC.1.on (rowNd_get L1 q hq9).1).1; have n2 := (cells8 hC.1.on (rowNd_get L1 p hp9).2).1; have n3 := (cells8 hC.1.on (rowNd_get L1 q hq9).2).1; clear hC; go_simp; first | done | (simp; done) | (simp [*]; done) | omega | (simp; omega) | rfl)
        simp only [Act.put, List.setIfInBounds_toArray, List.set_cons_zero, List.set_cons_succ]
        refine q_run (v := .pointer (some ⟨gn, q * 6 + 2, none⟩)) (by rfl) ?_ ?_
        · (intro w9 hC; have n0 := (cells8 hC.1.on (rowNd_get L1 p hp9).1).1; have n1 := (cells8 hC.1.on (rowNd_get L1 q hq9).1).1; have n2 := (cells8 hC.1.on (rowNd_get L1 p hp9).2).1; have n3 := (cells8 hC.1.on (rowNd_get L1 q hq9).2).1; clear hC; go_simp; first | done | (simp; done) | (simp [*]; done) | omega | (simp; omega) | rfl)
        simp only [Act.put, List.setIfInBounds_toArray, List.set_cons_zero, List.set_cons_succ]
        refine q_run (v := .int .i32 L1[q].count) (by rfl) ?_ ?_
        · (intro w9 hC; have n0 := (cells8 hC.1.on (rowNd_get L1 p hp9).1).1; have n1 := (cells8 hC.1.on (rowNd_get L1 q hq9).1).1; have n2 := (cells8 hC.1.on (rowNd_get L1 p hp9).2).1; have n3 := (cells8 hC.1.on (rowNd_get L1 q hq9).2).1; clear hC; go_simp; first | done | (simp; done) | (simp [*]; done) | omega | (simp; omega) | rfl)
        simp only [Act.put, List.setIfInBounds_toArray, List.set_cons_zero, List.set_cons_succ]
        refine q_run (v := .int .i32 (IntKind.i32.wrap (L1[p].count + L1[q].count))) (by rfl) ?_ ?_
        · (intro w9 hC; have n0 := (cells8 hC.1.on (rowNd_get L1 p hp9).1).1; have n1 := (cells8 hC.1.on (rowNd_get L1 q hq9).1).1; have n2 := (cells8 hC.1.on (rowNd_get L1 p hp9).2).1; have n3 := (cells8 hC.1.on (rowNd_get L1 q hq9).2).1; clear hC; go_simp; first | done | (simp; done) | (simp [*]; done) | omega | (simp; omega) | rfl)
        simp only [Act.put, List.setIfInBounds_toArray, List.set_cons_zero, List.set_cons_succ]
        refine wpQuiet_nil ?_
        simp only [putAll, Act.put, List.setIfInBounds_toArray, List.set_cons_zero, List.set_cons_succ]
      case fin =>
        intro W hC
        simp only [putAll, Act.put, List.setIfInBounds_toArray, List.set_cons_zero, List.set_cons_succ]
        dsimp only [List.drop]
        rw [← hc9]
        have Hc9 := hid8 hc9
        clear hc9
        obtain ⟨L2, hL2⟩ : ∃ L2, L2 = L1.set p { L1[p] with count := c9 } := ⟨_, rfl⟩
        have hl2 : L2.length = L1.length := by rw [hL2]; simp
        have HG := hid8 (And.intro (hC.1.setN (L' := L2) hl2 (p * 6 + 2) (.int .i32 c9) (by omega) (by rw [hL2]; exact rowNd_cnt L1 p hp c9)) (hC.2.set (g := gn) (p * 6 + 2) (.int .i32 c9) (hC.1.on.lt gn rfl).1 (fun _ => .inr (.inr (.inl rfl)))))
        have HL2 := hid8 hL2
        clear hL2
        obtain ⟨m0, mf⟩ := cells8 hC.1.on (rowNd_get L1 p hp).1
        clear hC HC9 HKd HBd
        go_wp2_with fail
        clear m0 mf
        revert HG
        generalize W.setCell ⟨gn, p * 6 + 2, none⟩ (.int .i32 c9) = W5
        intro HG
        have hp11 : p < L2.length := by omega
        have hq11 : q < L2.length := by omega
        obtain ⟨h9, hh9⟩ : ∃ h, h = if L2[p].height < IntKind.u8.wrap (L2[q].height + 1) then IntKind.u8.wrap (L2[q].height + 1) else L2[p].height := ⟨_, rfl⟩
        have HC11 : GwV W5.drew base G B F L2 ws ((p :: r2).reverse ++ [q]) (.slice (some ⟨gn, 0, none⟩) L2.length cn) vw (.slice (some ⟨gy, 0, none⟩) (r2.length + 1 + 1) cy) ∧ Bw w W5.drew base G B (.slice (some ⟨gn, 0, none⟩) L.length cn) (.slice (some ⟨gy, 0, none⟩) r.length cy) := ⟨HG.out.1.below (below_drewN (Below.refl _ _) 1), HG.out.2.drewN HG.out.1.base_le 1⟩
        refine qp_region2 11 (qpOk 11 11 (by decide) (fun N => by kernel_rfl) (by kernel_rfl) (by kernel_rfl) (by kernel_rfl) (by kernel_rfl)) (C := fun W => GwV W base G B F L2 ws ((p :: r2).reverse ++ [q]) (.slice (some ⟨gn, 0, none⟩) L2.length cn) vw (.slice (some ⟨gy, 0, none⟩) (r2.length + 1 + 1) cy) ∧ Bw w W base G B (.slice (some ⟨gn, 0, none⟩) L.length cn) (.slice (some ⟨gy, 0, none⟩) r.length cy)) [some 60, some 61, some 62, some 63, some 64, some 65, some 66, some 67, some 68, some 69, some 70] [.pointer (some ⟨gn, p * 6, none⟩), .pointer (some ⟨gn, p * 6, none⟩), .pointer (some ⟨gn, p * 6, none⟩), .pointer (some ⟨gn, p * 6 + 5, none⟩), .int .u8 L2[p].height, .pointer (some ⟨gn, q * 6, none⟩), .pointer (some ⟨gn, q * 6, none⟩), .pointer (some ⟨gn, q * 6 + 5, none⟩), .int .u8 L2[q].height, .int .u8 (IntKind.u8.wrap (L2[q].height + 1)), .int .u8 (if L2[p].height < IntKind.u8.wrap (L2[q].height + 1) then IntKind.u8.wrap (L2[q].height + 1) else L2[p].height)] (by kernel_rfl) HC11 ?walk ?fin
        case walk =>
          dsimp only [List.take]
          refine q_run (v := .pointer (some ⟨gn, p * 6, none⟩)) (by rfl) ?_ ?_
          · (intro w9 hC; have n0 := (cells8 hC.1.on (rowNd_get L2 p hp11).1).1; have n1 := (cells8 hC.1.on (rowNd_get L2 q hq11).1).1; have n2 := (cells8 hC.1.on (rowNd_get L2 p hp11).2).1; have n3 := (cells8 hC.1.on (rowNd_get L2 q hq11).2).1; clear hC; go_simp; first | done | (simp; done) | (simp [*]; done) | omega | (simp; omega) | rfl)
          simp only [Act.put, List.setIfInBounds_toArray, List.set_cons_zero, List.set_cons_succ]
          refine q_run (v := .pointer (some ⟨gn, p * 6, none⟩)) (by rfl) ?_ ?_
          · (intro w9 hC; have n0 := (cells8 hC.1.on (rowNd_get L2 p hp11).1).1; have n1 := (cells8 hC.1.on (rowNd_get L2 q hq11).1).1; have n2 := (cells8 hC.1.on (rowNd_get L2 p hp11).2).1; have n3 := (cells8 hC.1.on (rowNd_get L2 q hq11).2).1; clear hC; go_simp; first | done | (simp; done) | (simp [*]; done) | omega | (simp; omega) | rfl)
          simp only [Act.put, List.setIfInBounds_toArray, List.set_cons_zero, List.set_cons_succ]
          refine q_run (v := .pointer (some ⟨gn, p * 6, none⟩)) (by rfl) ?_ ?_
          · (intro w9 hC; have n0 := (cells8 hC.1.on (rowNd_get L2 p hp11).1).1; have n1 := (cells8 hC.1.on (rowNd_get L2 q hq11).1).1; have n2 := (cells8 hC.1.on (rowNd_get L2 p hp11).2).1; have n3 := (cells8 hC.1.on (rowNd_get L2 q hq11).2).1; clear hC; go_simp; first | done | (simp; done) | (simp [*]; done) | omega | (simp; omega) | rfl)
          simp only [Act.put, List.setIfInBounds_toArray, List.set_cons_zero, List.set_cons_succ]
          refine q_run (v := .pointer (some ⟨gn, p * 6 + 5, none⟩)) (by rfl) ?_ ?_
          · (intro w9 hC; have n0 := (cells8 hC.1.on (rowNd_get L2 p hp11).1).1; have n1 := (cells8 hC.1.on (rowNd_get L2 q hq11).1).1; have n2 := (cells8 hC.1.on (rowNd_get L2 p hp11).2).1; have n3 := (cells8 hC.1.on (rowNd_get L2 q hq11).2).1; clear hC; go_simp; first | done | (simp; done) | (simp [*]; done) | omega | (simp; omega) | rfl)
          simp only [Act.put, List.setIfInBounds_toArray, List.set_cons_zero, List.set_cons_succ]
          refine q_run (v := .int .u8 L2[p].height) (by rfl) ?_ ?_
          · (intro w9 hC; have n0 := (cells8 hC.1.on (rowNd_get L2 p hp11).1).1; have n1 := (cells8 hC.1.on (rowNd_get L2 q hq11).1).1; have n2 := (cells8 hC.1.on (rowNd_get L2 p hp11).2).1; have n3 := (cells8 hC.1.on (rowNd_get L2 q hq11).2).1; clear hC; go_simp; first | done | (simp; done) | (simp [*]; done) | omega | (simp; omega) | rfl)
          simp only [Act.put, List.setIfInBounds_toArray, List.set_cons_zero, List.set_cons_succ]
          refine q_run (v := .pointer (some ⟨gn, q * 6, none⟩)) (by rfl) ?_ ?_
          · (intro w9 hC; have n0 := (cells8 hC.1.on (rowNd_get L2 p hp11).1).1; have n1 := (cells8 hC.1.on (rowNd_get L2 q hq11).1).1; have n2 := (cells8 hC.1.on (rowNd_get L2 p hp11).2).1; have n3 := (cells8 hC.1.on (rowNd_get L2 q hq11).2).1; clear hC; go_simp; first | done | (simp; done) | (simp [*]; done) | omega | (simp; omega) | rfl)
          simp only [Act.put, List.setIfInBounds_toArray, List.set_cons_zero, List.set_cons_succ]
          refine q_run (v := .pointer (some ⟨gn, q * 6, none⟩)) (by rfl) ?_ ?_
          · (intro w9 hC; have n0 := (cells8 hC.1.on (rowNd_get L2 p hp11).1).1; have n1 := (cells8 hC.1.on (rowNd_get L2 q hq11).1).1; have n2 := (cells8 hC.1.on (rowNd_get L2 p hp11).2).1; have n3 := (cells8 hC.1.on (rowNd_get L2 q hq11).2).1; clear hC; go_simp; first | done | (simp; done) | (simp [*]; done) | omega | (simp; omega) | rfl)
          simp only [Act.put, List.setIfInBounds_toArray, List.set_cons_zero, List.set_cons_succ]
          refine q_run (v := .pointer (some ⟨gn, q * 6 + 5, none⟩)) (by rfl) ?_ ?_
          · (intro w9 hC; have n0 := (cells8 hC.1.on (rowNd_get L2 p hp11).1).1; have n1 := (cells8 hC.1.on (rowNd_get L2 q hq11).1).1; have n2 := (cells8 hC.1.on (rowNd_get L2 p hp11).2).1; have n3 := (cells8 hC.1.on (rowNd_get L2 q hq11).2).1; clear hC; go_simp; first | done | (simp; done) | (simp [*]; done) | omega | (simp; omega) | rfl)
          simp only [Act.put, List.setIfInBounds_toArray, List.set_cons_zero, List.set_cons_succ]
          refine q_run (v := .int .u8 L2[q].height) (by rfl) ?_ ?_
          · (intro w9 hC; have n0 := (cells8 hC.1.on (rowNd_get L2 p hp11).1).1; have n1 := (cells8 hC.1.on (rowNd_get L2 q hq11).1).1; have n2 := (cells8 hC.1.on (rowNd_get L2 p hp11).2).1; have n3 := (cells8 hC.1.on (rowNd_get L2 q hq11).2).1; clear hC; go_simp; first | done | (simp; done) | (simp [*]; done) | omega | (simp; omega) | rfl)
          simp only [Act.put, List.setIfInBounds_toArray, List.set_cons_zero, List.set_cons_succ]
          refine q_run (v := .int .u8 (IntKind.u8.wrap (L2[q].height + 1))) (by rfl) ?_ ?_
          · (intro w9 hC; have n0 := (cells8 hC.1.on (rowNd_get L2 p hp11).1).1; have n1 := (cells8 hC.1.on (rowNd_get L2 q hq11).1).1; have n2 := (cells8 hC.1.on (rowNd_get L2 p hp11).2).1; have n3 := (cells8 hC.1.on (rowNd_get L2 q hq11).2).1; clear hC; go_simp; first | done | (simp; done) | (simp [*]; done) | omega | (simp; omega) | rfl)
          simp only [Act.put, List.setIfInBounds_toArray, List.set_cons_zero, List.set_cons_succ]
          refine q_run (v := .int .u8 (if L2[p].height < IntKind.u8.wrap (L2[q].height + 1) then IntKind.u8.wrap (L2[q].height + 1) else L2[p].height)) (by rfl) ?_ ?_
          · (intro w9 hC; have n0 := (cells8 hC.1.on (rowNd_get L2 p hp11).1).1; have n1 := (cells8 hC.1.on (rowNd_get L2 q hq11).1).1; have n2 := (cells8 hC.1.on (rowNd_get L2 p hp11).2).1; have n3 := (cells8 hC.1.on (rowNd_get L2 q hq11).2).1; clear hC; go_simp; first | done | (simp; done) | (simp [*]; done) | omega | (simp; omega) | rfl)
          simp only [Act.put, List.setIfInBounds_toArray, List.set_cons_zero, List.set_cons_succ]
          refine wpQuiet_nil ?_
          simp only [putAll, Act.put, List.setIfInBounds_toArray, List.set_cons_zero, List.set_cons_succ]
        case fin =>
          intro W hC
          simp only [putAll, Act.put, List.setIfInBounds_toArray, List.set_cons_zero, List.set_cons_succ]
          dsimp only [List.drop]
          rw [← hh9]
          have hb3 := bk1_eq L1 p q hp hq c9 h9 Hc9.out L2 HL2.out hp11 hq11 hh9
          have HG2 := hid8 (And.intro (hC.1.setN (L' := bk1 L1 p q) (by rw [bk1_len, hl2]) (p * 6 + 5) (.int .u8 h9) (by omega) (by rw [rowNd_hgt L2 p hp11 h9, hb3])) (hC.2.set (g := gn) (p * 6 + 5) (.int .u8 h9) (hC.1.on.lt gn rfl).1 (fun _ => .inr (.inr (.inl rfl)))))
          obtain ⟨m0, mf⟩ := cells8 hC.1.on (rowNd_get L2 p hp11).2
          have HZB := hid8 (HG2.out.2.set (g := G) 1 (.slice (some ⟨gy, 0, none⟩) (r2.length + 1) cy) HG2.out.1.bG (fun _ => .inl rfl))
          have HZ := hid8 (GwV.cut8 HG2.out.1)
          have b0 := HG2.out.1.g0
          have b1 := HG2.out.1.g1
          have bf := HG2.out.1.gf
          clear hC HC11 HG hb3 hh9
          go_wp2
          go_roundw
          case rel => exact ⟨bk1 L1 p q, p :: r2, by simp, by rw [bk1_len, hl1], hr2, by simp, by simp only [List.length_cons] at hy1 ⊢; omega, HE2, HZ.out, HZB⟩
          case measure => simpa using HM.out
    · have hd : decide ((len : Int) < (r1.length : Int) - 1) = false := decide_eq_false hlt
      have HX : Hid (bkY len L r = (L1, r1)) := by
        show _ = _
        rw [← HE.out]
        match r1, hlt with
        | [], _ => rfl
        | [x], _ => rfl
        | q :: p :: r2, h => rw [bkY, if_neg (by simp only [List.length_cons] at h; omega)]
      have HK2 : Hid (GwV wr base G B F (bkY len L r).1 ws (bkY len L r).2.reverse (.slice (some ⟨gn, 0, none⟩) L.length cn) vw (.slice (some ⟨gy, 0, none⟩) r1.length cy)) := by
        show GwV _ _ _ _ _ _ _ _ _ _ _
        rw [HX.out, ← hl1]; exact HK.out
      clear HK HE HX hr1
      go_wp2
      exact bodyPost_end (v := .tuple #[]) (by simp [results, Try.results53, go_sem]) rfl ⟨rfl, ⟨_, HK2.out⟩, HB.out⟩
end Go.Proofs.Ytofpbommhklooaa
/-
  Plain facts for the grower's down: what is written into a node, blocks that are told apart by what they hold, what down makes of nodes and way.
-/
namespace Go.Proofs.Ytofpbommhklooaa
open Go.RowKit
set_option linter.unusedSimpArgs false
set_option linter.unusedVariables false

theorem rowNd_hig : ∀ (L : List Nd) (k : Nat) (hk : k < L.length) (c : Int), (rowNd L).set (k * 6 + 1) (.int .i32 c) = rowNd (L.set k { L[k] with high := c })
  | x :: L, 0, _, c => rfl
  | x :: L, k + 1, hk, c => by
    have := rowNd_hig L k (by simpa using hk) c
    rw [show (k + 1) * 6 + 1 = k * 6 + 1 + 6 by omega]
    simp only [rowNd, List.set_cons_succ, List.getElem_cons_succ]
    rw [← this]
theorem rowNd_hop : ∀ (L : List Nd) (k : Nat) (hk : k < L.length) (c : Int), (rowNd L).set (k * 6 + 3) (.int .u16 c) = rowNd (L.set k { L[k] with hop := c })
  | x :: L, 0, _, c => rfl
  | x :: L, k + 1, hk, c => by
    have := rowNd_hop L k (by simpa using hk) c
    rw [show (k + 1) * 6 + 3 = k * 6 + 3 + 6 by omega]
    simp only [rowNd, List.set_cons_succ, List.getElem_cons_succ]
    rw [← this]
theorem rowNd_all : ∀ (L : List Nd) (k : Nat) (hk : k < L.length), (rowNd L)[k * 6]? = some (.int .i32 L[k].word) ∧ (rowNd L)[k * 6 + 1]? = some (.int .i32 L[k].high) ∧ (rowNd L)[k * 6 + 2]? = some (.int .i32 L[k].count) ∧ (rowNd L)[k * 6 + 3]? = some (.int .u16 L[k].hop) ∧ (rowNd L)[k * 6 + 4]? = some (.int .u8 L[k].length) ∧ (rowNd L)[k * 6 + 5]? = some (.int .u8 L[k].height)
  | x :: L, 0, _ => ⟨rfl, rfl, rfl, rfl, rfl, rfl⟩
  | x :: L, k + 1, hk => by
    have := rowNd_all L k (by simpa using hk)
    rw [show (k + 1) * 6 = k * 6 + 6 by omega, show k * 6 + 6 + 1 = k * 6 + 1 + 6 by omega, show k * 6 + 6 + 2 = k * 6 + 2 + 6 by omega, show k * 6 + 6 + 3 = k * 6 + 3 + 6 by omega, show k * 6 + 6 + 4 = k * 6 + 4 + 6 by omega, show k * 6 + 6 + 5 = k * 6 + 5 + 6 by omega]
    exact this
/-- A row's block holds what the row holds: so it is no block that holds something else. -/
theorem own_not {W : World} {base e size n : Nat} {v : Value} {xs : List Value} (h : W.ownsRow base e size v n xs) {z : Nat} {cs : Array Value} {T : TypeId} (hz : W.heap[z]? = some (.cells cs T)) (he : e ≠ T) : v.ownBlock ≠ some z := by
  intro q
  rcases h.2 with ⟨e0, _⟩ | ⟨g, cap, cur, e0, hb, hg, rest⟩
  · rw [e0] at q; cases q
  · rw [e0] at q
    have q : g = z := by simpa [Value.ownBlock] using q
    subst q
    rw [hg] at hz
    injection hz with hz
    injection hz with _ h2 _
    exact he h2
theorem at_block {W : World} {z : Nat} {cs : Array Value} {T : TypeId} (hz : W.heap[z]? = some (.cells cs T)) (j : Nat) (u : Value) (hj : cs[j]? = some u) : W.cell? ⟨z, j, none⟩ = some u := by
  simp [World.cell?, hz, hj]
/-- The node above learns where its kid by 1 will stand. -/
def hiS (x : BitVec 128) (L : List Nd) (y : List Nat) : List Nd := if bitZ x ((y.length : Int) - 1) = 1 then L.set (y.getD (y.length - 1) 0) { nd8 L (y.getD (y.length - 1) 0) with high := IntKind.i32.wrap (L.length : Int) } else L
theorem hiS_len (x : BitVec 128) (L : List Nd) (y : List Nat) : (hiS x L y).length = L.length := by unfold hiS; split <;> simp
/-- What down lays: so many nodes, of the word at place wn. -/
def dnS (wn : Int) (x : BitVec 128) : Nat → List Nd × List Nat → List Nd × List Nat
  | 0, s => s
  | f + 1, s => dnS wn x f (hiS x s.1 s.2 ++ [⟨wn, 0, 0, 0, (s.2.length : Int), 0⟩], s.2 ++ [s.1.length])
theorem dnS_len (wn : Int) (x : BitVec 128) : ∀ f s, (dnS wn x f s).1.length = s.1.length + f ∧ (dnS wn x f s).2.length = s.2.length + f
  | 0, s => ⟨rfl, rfl⟩
  | f + 1, s => by
    have := dnS_len wn x f (hiS x s.1 s.2 ++ [⟨wn, 0, 0, 0, (s.2.length : Int), 0⟩], s.2 ++ [s.1.length])
    simp only [List.length_append, List.length_singleton, hiS_len] at this
    simp only [dnS]
    omega
theorem dnS_way (wn : Int) (x : BitVec 128) : ∀ f s, (∀ i ∈ s.2, i < s.1.length) → ∀ i ∈ (dnS wn x f s).2, i < (dnS wn x f s).1.length
  | 0, s, h => h
  | f + 1, s, h => by
    simp only [dnS]
    refine dnS_way wn x f _ ?_
    intro i hi
    simp only [List.mem_append, List.mem_singleton] at hi
    simp only [List.length_append, List.length_singleton, hiS_len]
    rcases hi with hi | hi
    · have := h i hi; omega
    · omega
/-- The next hop, and one route more, at the end of the way. -/
def dnE (L : List Nd) (p : Nat) (h : Int) : List Nd := L.set p { nd8 L p with hop := IntKind.u16.wrap h, count := IntKind.i32.wrap ((nd8 L p).count + 1) }
/-- What down makes of nodes and way. -/
def dnW (wn : Int) (x : BitVec 128) (n : Nat) (h : Int) (L : List Nd) (y : List Nat) : List Nd × List Nat :=
  let s := dnS wn x (n + 1 - y.length) (L, y)
  (dnE s.1 (s.2.getD n 0) h, s.2)
theorem dnE_eq (L : List Nd) (p : Nat) (hp : p < L.length) (h : Int) (L2 : List Nd) (h2 : L2 = L.set p { L[p] with hop := IntKind.u16.wrap h }) (hp2 : p < L2.length) (c : Int) (hc : c = IntKind.i32.wrap (L2[p].count + 1)) :
    L2.set p { L2[p] with count := c } = dnE L p h := by
  have e3 : L2[p] = { L[p] with hop := IntKind.u16.wrap h } := by subst h2; simp
  unfold dnE
  rw [nd8_in hp, hc, e3]
  subst h2
  simp
end Go.Proofs.Ytofpbommhklooaa
/-
  What a grower's down leaves as it was: how the parts of it go together.
-/
namespace Go.Proofs.Ytofpbommhklooaa
open Go.RowKit
set_option linter.unusedSimpArgs false
set_option linter.unusedVariables false

/-- All below base, and all else that was there but the grower, the tree and their three rows. -/
def B3 (w W : World) (base G B : Nat) (vn vw vy : Value) : Prop := Below base w W ∧ w.heap.size ≤ W.heap.size ∧ ∀ z, z < w.heap.size → z ≠ G → z ≠ B → vn.ownBlock ≠ some z → vw.ownBlock ≠ some z → vy.ownBlock ≠ some z → W.heap[z]? = w.heap[z]?
theorem Nb.refl (w : World) (v : Value) : Nb w v v := fun _ e => .inl e
theorem Nb.trans {w W : World} {v v1 v2 : Value} (h : Nb w v v1) (k : Nb W v1 v2) (hs : w.heap.size ≤ W.heap.size) : Nb w v v2 := fun g e => by
  rcases k g e with q | q
  · exact h g q
  · exact .inr (Nat.le_trans hs q)
theorem Nb.ne {w : World} {v v1 : Value} (h : Nb w v v1) {z : Nat} (hz : z < w.heap.size) (hn : v.ownBlock ≠ some z) : v1.ownBlock ≠ some z := fun e => by
  rcases h z e with q | q
  · exact hn q
  · omega
section
variable {w W W' : World} {base G B : Nat} {vn vw vy vn1 vw1 vy1 : Value}
theorem B3.refl (h : base ≤ w.heap.size) : B3 w w base G B vn vw vy := ⟨(Below.refl w.heap.size w).mono h, Nat.le_refl _, fun _ _ _ _ _ _ _ => rfl⟩
theorem B3.below (k : B3 w W base G B vn vw vy) (hb : Below W.heap.size W W') (h : base ≤ W.heap.size) : B3 w W' base G B vn vw vy :=
  ⟨k.1.trans (hb.mono h), Nat.le_trans k.2.1 hb.size, fun z a b c d e f => by rw [hb.block z (Nat.lt_of_lt_of_le a k.2.1)]; exact k.2.2 z a b c d e f⟩
theorem B3.bw (k : B3 w W base G B vn vw vy) (h : Bw W W' base G B vn1 vy1) (hn : Nb w vn vn1) (hy : Nb w vy vy1) : B3 w W' base G B vn vw vy :=
  ⟨k.1.trans h.1, Nat.le_trans k.2.1 h.2.1, fun z a b c d e f => by
    rw [h.2.2 z (Nat.lt_of_lt_of_le a k.2.1) b c (hn.ne a d) (hy.ne a f)]
    exact k.2.2 z a b c d e f⟩
theorem B3.grown (k : B3 w W base G B vn vw vy) {row : Option Nat} (hg : W.grownBy W' row) (hbl : Below base w W') (hr : ∀ z, row = some z → z < w.heap.size → vn.ownBlock = some z ∨ vw.ownBlock = some z ∨ vy.ownBlock = some z) : B3 w W' base G B vn vw vy :=
  ⟨hbl, Nat.le_trans k.2.1 hg.size, fun z a b c d e f => by
    rw [hg.block z (Nat.lt_of_lt_of_le a k.2.1) (fun q => by
      rcases hr z q.symm a with h | h | h
      · exact d h
      · exact e h
      · exact f h)]
    exact k.2.2 z a b c d e f⟩
theorem B3.set (k : B3 w W base G B vn vw vy) {g : Nat} (o : Nat) (u : Value) (hb : base ≤ g) (hr : g < w.heap.size → g = G ∨ g = B ∨ vn.ownBlock = some g ∨ vw.ownBlock = some g ∨ vy.ownBlock = some g) : B3 w (W.setCell ⟨g, o, none⟩ u) base G B vn vw vy :=
  ⟨k.1.setCell (p := ⟨g, o, none⟩) hb u, by simpa using k.2.1, fun z a b c d e f => by
    rw [setB u (fun q => by
      subst q
      rcases hr a with h | h | h | h | h
      · exact b h
      · exact c h
      · exact d h
      · exact e h
      · exact f h)]
    exact k.2.2 z a b c d e f⟩
/-- A block of one's own outlives a method of the grower. -/
theorem Bw.mine (k : Bw w W base G B vn vy) {z : Nat} {o : Obj} (hz : w.heap[z]? = some o) (hG : z ≠ G) (hB : z ≠ B) (hn : vn.ownBlock ≠ some z) (hy : vy.ownBlock ≠ some z) : W.heap[z]? = some o := by
  have hl : z < w.heap.size := by
    apply Classical.byContradiction; intro q
    rw [Array.getElem?_eq_none (by omega)] at hz; cases hz
  rw [k.2.2 z hl hG hB hn hy]; exact hz
end
end Go.Proofs.Ytofpbommhklooaa
