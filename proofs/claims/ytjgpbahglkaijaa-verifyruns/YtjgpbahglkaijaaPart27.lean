/-
  Part 27 of the proof: 5 texts, one behind the other.
-/
import Derived.Test.YtjgpbahglkaijaaPart24
import Derived.Test.YtjgpbahglkaijaaPart26
import Derived.Test.YtjgpbahglkaijaaPart5
import Derived.Test.YtjgpbahglkaijaaPart23
import Derived.Test.YtjgpbahglkaijaaPart18
namespace Go.Proofs.Ytjgpbahglkaijaa
open Go.RowKit
set_option linter.unusedSimpArgs false
set_option linter.unusedVariables false

structure LkW (w : World) (x : BitVec 128) (X : World) : Prop where
  b : Below w.heap.size w X
  x : X.heap[w.heap.size]? = some (.cells #[.int .u64 (hI x), .int .u64 (lI x)] 47)
theorem LkW.below {w X X' : World} {x : BitVec 128} (h : LkW w x X) (hb : Below X.heap.size X X') : LkW w x X' := ⟨keepb hb h.b, (hb.block _ (lt_16 h.x)).trans h.x⟩
theorem LkW.set {w X : World} {x : BitVec 128} (h : LkW w x X) {z o : Nat} (hz : w.heap.size < z) (u : Value) : LkW w x (X.setCell ⟨z, o, none⟩ u) := ⟨h.b.setCell (p := ⟨z, o, none⟩) (by show _ ≤ z; omega) _, (far_16 (by omega)).trans h.x⟩
def AtW18 (W : World) (N : Nat) (y : BitVec 128) : Prop := W.heap[N]? = some (.cells #[.int .u64 (hI y), .int .u64 (lI y)] 47)
theorem AtW18.below {W W' : World} {N : Nat} {y : BitVec 128} (h : AtW18 W N y) (hb : Below W.heap.size W W') : AtW18 W' N y := (hb.block N (lt_16 h)).trans h
theorem AtW18.put {W : World} {N : Nat} {y : BitVec 128} (h : AtW18 W N y) (z : BitVec 128) : AtW18 ((W.setCell ⟨N, 0, none⟩ (.int .u64 (hI z))).setCell ⟨N, 1, none⟩ (.int .u64 (lI z))) N z := by
  unfold AtW18; rw [set_16 (set_16 h _) _]; rfl
def LkOk (L : List Nde) (V : Nat → Int) : Prop := 0 ≤ V 0 ∧ ∀ (k : Nat) (d : Nde), L[k]? = some d → 0 ≤ d.b ∧ V k + d.b ≤ 128 ∧ 0 < d.r.length ∧ ∀ r ∈ d.r, r.k = true → (k : Int) < r.n ∧ r.n < (L.length : Int) ∧ V k + d.b ≤ V r.n.toNat
theorem hdN_lt (r : List Rn) (y : BitVec 128) (h : 0 < r.length) : hdN r y < r.length := by
  unfold hdN
  have h1 : ((r.drop 1).takeWhile (fun q => decide (q.f.toNat ≤ y.toNat))).length ≤ (r.drop 1).length := (List.takeWhile_prefix _).length_le
  rw [List.length_drop] at h1
  omega
theorem walk_at (x : BitVec 128) (L : List Nde) (f k : Nat) (met : Int) (d : Nde) (q : Rn) (hd : L[k]? = some d) (hq : d.r[hdN d.r (readW x met d.b)]? = some q) : walkR x L (f + 1) k met = if q.k = true then walkR x L f q.n.toNat (met + d.b) else q.n := by
  have h1 : L.getD k ⟨0, []⟩ = d := by rw [List.getD_eq_getElem?_getD, hd]; rfl
  have h2 : d.r.getD (hdN d.r (readW x met d.b)) ⟨0#128, false, 0⟩ = q := by rw [List.getD_eq_getElem?_getD, hq]; rfl
  rw [walk_succ, h1, h2]
set_option maxRecDepth 20000 in
set_option maxHeartbeats 16000000 in
theorem rlook18 (F : Int) (v : Value) (L : List Nde) (x : BitVec 128) (w : World) (hv : RwD w v L) (hl : L.length ≤ 1000000) (hr : ∀ d ∈ L, d.r.length ≤ 1000000) (V : Nat → Int) (hV : LkOk L V) (hc : (chkM F L).2 = 0) (hx : rightE F x = 0) (h0 : 0 < L.length) :
    Calls Try.prog 21 #[.int .i64 F, v, .agg #[.int .u64 (hI x), .int .u64 (lI x)]] w fun e w' => e = .returned (.tuple #[.int .i64 (walkR x L L.length 0 0), .int .i64 0]) ∧ Below w.heap.size w w' := by
  obtain ⟨ao, c, rfl, hcc, hrow⟩ := id hv
  obtain ⟨g, off, rfl, hat⟩ : ∃ b off, ao = some ⟨b, off, none⟩ ∧ ∀ j d, L[j]? = some d → ∃ vr, w.cell? ⟨b, off + j * 2, none⟩ = some (.int .i64 d.b) ∧ w.cell? ⟨b, off + j * 2 + 1, none⟩ = some vr ∧ RwN w vr d.r := by
    rcases hrow with h | h
    · rw [h] at h0; simp at h0
    · exact h
  have KC := fun X h => rcheck_any F (.slice (some ⟨g, off, none⟩) L.length c) L X h hl hr
  rw [hc] at KC
  have KR := fun X => rright_any F x X
  rw [hx] at KR
  obtain ⟨dp, hdp⟩ : ∃ dp, dp = (chkM F L).1 := ⟨_, rfl⟩
  rw [← hdp] at KC
  obtain ⟨RES, hRES⟩ : ∃ RES, RES = walkR x L L.length 0 0 := ⟨_, rfl⟩
  have HRES := hid13 hRES
  rw [← hRES]
  obtain ⟨n, hn⟩ : ∃ n, n = L.length := ⟨_, rfl⟩
  rw [← hn] at KC HRES ⊢
  have HAt := hid13 hat
  have HV := hid13 hv
  have HLk := hid13 hV
  have HRl := hid13 hr
  have HN : Hid (n = L.length ∧ 0 < n ∧ n ≤ 1000000) := ⟨hn, by omega, by omega⟩
  have q1 := bl1 w (.cells #[.int .u64 (hI x), .int .u64 (lI x)] 47)
  have HW0 : Hid (LkW w x (w.alloc (.cells #[.int .u64 (hI x), .int .u64 (lI x)] 47))) := ⟨q1, new_16 _ _⟩
  have K1 := KC _ (by rw [← hn] at hv; exact hv.below q1)
  clear hv hl hr hV hc hx h0 hcc hrow hat hdp hRES hn q1 KC
  go_enter Try.func21, Try.ntmps21
  go_wp2_with fail
  refine K1.mono ?_
  rintro e W1 ⟨rfl, hb1⟩
  have HW1 := hid13 (HW0.out.below hb1)
  have z0 := at_16 HW1.out.x 0 _ rfl
  have z1 := at_16 HW1.out.x 1 _ rfl
  clear K1 hb1 HW0
  go_wp2_with fail
  refine (KR _).mono ?_
  rintro e W2 ⟨rfl, hb2⟩
  have HW2 := hid13 (HW1.out.below hb2)
  clear KR hb2 HW1 z0 z1
  go_wp2_with fail
  go_loopg [10, 11] n (fun gk mv kv wr => ∃ (k : Nat) (met : Int), mv = .int .i64 met ∧ kv = .int .i64 (k : Int) ∧ k < n ∧ n ≤ k + gk ∧ Hid (LkW w x wr ∧ walkR x L gk k met = RES ∧ 0 ≤ met ∧ met ≤ V k))
  case atStart => exact ⟨0, 0, rfl, rfl, HN.out.2.1, by omega, hid13 ⟨HW2.out, HRES.out.symm, Int.le_refl _, HLk.out.1⟩⟩
  case round =>
    clear HW2
    obtain ⟨k, met, rfl, rfl, hk, hkg, HI⟩ := hrel
    obtain ⟨d, hd⟩ : ∃ d, L[k]? = some d := ⟨_, List.getElem?_eq_getElem (by have := HN.out; omega)⟩
    obtain ⟨d0, d1, d2, d3⟩ := HLk.out.2 k d hd
    obtain ⟨vr, c0, c1, hvr⟩ := HAt.out k d hd
    have hdr := HRl.out d (List.mem_of_getElem? hd)
    obtain ⟨ro, rc, rfl, hrc, hrow⟩ := id hvr
    obtain ⟨rg, roff, rfl, hrat⟩ : ∃ b off, ro = some ⟨b, off, none⟩ ∧ ∀ j q, d.r[j]? = some q → RnAt w b (off + j * 4) q := by
      rcases hrow with h | h
      · rw [h] at d2; simp at d2
      · exact h
    have hj := hdN_lt d.r (readW x met d.b) d2
    obtain ⟨q, hq⟩ : ∃ q, d.r[hdN d.r (readW x met d.b)]? = some q := ⟨_, List.getElem?_eq_getElem hj⟩
    have hgk : gk = (gk - 1) + 1 := by omega
    have hw9 := walk_at x L (gk - 1) k met d q hd hq
    rw [← hgk] at hw9
    have HWk : Hid (RES = if q.k = true then walkR x L (gk - 1) q.n.toNat (met + d.b) else q.n) := hid13 (by rw [← hw9, HI.out.2.1])
    have hfit : fitB met d.b = true := by have := HI.out; have := d1; unfold fitB; simp; omega
    have KF := fun X => rfield_in x met d.b X hfit
    have KH := fun X (h : Below w.heap.size w X) => held18 d.b (.slice (some ⟨rg, roff, none⟩) d.r.length rc) d.r (readW x met d.b) X (hvr.below h) d2 (by omega)
    obtain ⟨j, hj2⟩ : ∃ j, j = hdN d.r (readW x met d.b) := ⟨_, rfl⟩
    rw [← hj2] at KH hq hj
    obtain ⟨y, hy⟩ : ∃ y, y = readW x met d.b := ⟨_, rfl⟩
    rw [← hy] at KF KH
    obtain ⟨r0, r1, r2, r3⟩ := hrat j q hq
    have hqm := d3 q (List.mem_of_getElem? hq)
    obtain ⟨rn, hrn⟩ : ∃ rn, rn = d.r.length := ⟨_, rfl⟩
    rw [← hrn] at KH c1 hj hdr
    have HC0 := hid13 c0
    have HC1 := hid13 c1
    have HR0 := hid13 (And.intro r0 (And.intro r1 (And.intro r2 r3)))
    have hkn : (k : Int) < (n : Int) := by omega
    have hjn : (j : Int) < (rn : Int) := by omega
    have HQ : Hid (q.k = true → (k : Int) < q.n ∧ q.n < (n : Int) ∧ V k + d.b ≤ V q.n.toNat) := hid13 (by rw [HN.out.1]; exact hqm)
    have HB : Hid (0 ≤ d.b ∧ V k + d.b ≤ 128 ∧ k < n ∧ n ≤ k + gk ∧ rn ≤ 1000000) := ⟨d0, d1, hk, hkg, hdr⟩
    have mm : IntKind.i64.wrap (met + d.b) = met + d.b := by rw [IntKind.wrap_i64]; have := HI.out; omega
    clear hd d0 d1 d2 d3 c0 c1 hvr hdr hrc hrow hrat hq hgk hw9 hfit hj2 hy r0 r1 r2 r3 hqm hrn hk hkg hj
    go_wp2_with fail
    refine two_region 14 11 12 (alOk (qpOk 14 11 (by decide) (fun N => by kernel_rfl) (by kernel_rfl) (by kernel_rfl) (by kernel_rfl) (by kernel_rfl)) (by decide) rfl rfl (by kernel_rfl)) (alOk (qpOk 14 12 (by decide) (fun N => by kernel_rfl) (by kernel_rfl) (by kernel_rfl) (by kernel_rfl) (by kernel_rfl)) (by decide) rfl rfl (by kernel_rfl)) (by decide) (by kernel_rfl) rfl (D := LkW w x) (C1 := fun N W => LkW w x W ∧ AtW18 W N 0#128 ∧ w.heap.size < N) (C2 := fun N W => LkW w x W ∧ AtW18 W N y ∧ w.heap.size < N) (obj := .cells #[.int .u64 0, .int .u64 0] 47) [some 30, some 31, some 32, some 33, some 34, some 35, some 36, some 37, some 29, some 38, some 39, some 12, none, some 13] (fun N => [.agg #[.int .u64 (hI x), .int .u64 (lI x)], .int .i64 met, .slice (some ⟨g, off, none⟩) n c, .int .i64 (k : Int), .pointer (some ⟨g, off + k * 2, none⟩), .pointer (some ⟨g, off + k * 2, none⟩), .int .i64 d.b, .tuple #[.agg #[.int .u64 (hI y), .int .u64 (lI y)], .int .i64 0], .tuple #[.agg #[.int .u64 (hI y), .int .u64 (lI y)], .int .i64 0], .agg #[.int .u64 (hI y), .int .u64 (lI y)], .int .i64 0, .pointer (some ⟨N, 0, none⟩), undef, .int .i64 0]) 12 [12, 38] (by kernel_rfl) (fun N => by kernel_rfl) rfl ?hA3 ?hAd3 (by kernel_rfl) ?hal3 ?hC3 ?hst3 ?hD3 ?walk3 ?fin3
    case hD3 => exact HI.out.1.below (Below.refl _ _).drew
    case hA3 => intro N; simp only [putAll, Act.put, List.setIfInBounds_toArray, List.set_cons_zero, List.set_cons_succ]; rfl
    case hAd3 => intro N; simp only [putAll, Act.put, List.setIfInBounds_toArray, List.set_cons_zero, List.set_cons_succ]; rfl
    case hal3 => intro W a _; go_simp
    case hC3 => intro W h; exact ⟨h.below (bl1 W _), by unfold AtW18; rw [hI_zero, lI_zero]; exact new_16 _ _, lt_16 h.x⟩
    case hst3 =>
      intro N W a' hC hr K Q' hK
      have e5 : a'.tmps[12]? = some (.pointer (some ⟨N, 0, none⟩)) := (hr 12 (by simp)).trans (by simp only [putAll, Act.put, List.setIfInBounds_toArray, List.set_cons_zero, List.set_cons_succ]; rfl)
      have e31 : a'.tmps[38]? = some (.agg #[.int .u64 (hI y), .int .u64 (lI y)]) := (hr 38 (by simp)).trans (by simp only [putAll, Act.put, List.setIfInBounds_toArray, List.set_cons_zero, List.set_cons_succ]; rfl)
      obtain ⟨hE, hZ, hN⟩ := hC
      have z0 := at_16 hZ 0 _ rfl
      have z1 := at_16 hZ 1 _ rfl
      have z2 := fr_16 (j := 0) hZ
      have z3 := fr_16 (j := 1) hZ
      have hK' := hK _ ⟨(hE.set hN _).set hN _, hZ.put y, hN⟩
      unfold Oper.wp
      simp [execOp, e5, e31, go_sem, z0, z1, z2, z3, Oper.upon]
      exact hK'
    case walk3 =>
      intro N X hX
      have hXD : ∀ W, X W → LkW w x W := by
        rcases hX with rfl | rfl | rfl
        · exact fun W h => h
        · exact fun W h => h.1
        · exact fun W h => h.1
      have hXb : ∀ W W', X W → Below W.heap.size W W' → X W' := by
        rcases hX with rfl | rfl | rfl
        · exact fun W W' h hb => h.below hb
        · exact fun W W' h hb => ⟨h.1.below hb, h.2.1.below hb, h.2.2⟩
        · exact fun W W' h hb => ⟨h.1.below hb, h.2.1.below hb, h.2.2⟩
      clear hX
      dsimp only [rep, List.take, List.modify, List.modifyTailIdx, List.modifyTailIdx.go, List.modifyHead]
      refine q_run (v := .agg #[.int .u64 (hI x), .int .u64 (lI x)]) (by rfl) ?_ ?_
      · (intro w1 hC; have k0 := at_16 (hXD w1 hC).x 0 _ rfl; have k1 := at_16 (hXD w1 hC).x 1 _ rfl; have k2 := keepc (hXD w1 hC).b HC0.out; clear hC; go_simp; first | done | (simp; done) | (simp [*]; done) | omega | (simp; omega) | (rw [IntKind.wrap_i64]; omega) | (intro hx; omega) | rfl)
      simp only [putAll, Act.put, List.setIfInBounds_toArray, List.set_cons_zero, List.set_cons_succ]
      refine q_run (v := .int .i64 met) (by rfl) ?_ ?_
      · (intro w1 hC; have k0 := at_16 (hXD w1 hC).x 0 _ rfl; have k1 := at_16 (hXD w1 hC).x 1 _ rfl; have k2 := keepc (hXD w1 hC).b HC0.out; clear hC; go_simp; first | done | (simp; done) | (simp [*]; done) | omega | (simp; omega) | (rw [IntKind.wrap_i64]; omega) | (intro hx; omega) | rfl)
      simp only [putAll, Act.put, List.setIfInBounds_toArray, List.set_cons_zero, List.set_cons_succ]
      refine q_run (v := .slice (some ⟨g, off, none⟩) n c) (by rfl) ?_ ?_
      · (intro w1 hC; have k0 := at_16 (hXD w1 hC).x 0 _ rfl; have k1 := at_16 (hXD w1 hC).x 1 _ rfl; have k2 := keepc (hXD w1 hC).b HC0.out; clear hC; go_simp; first | done | (simp; done) | (simp [*]; done) | omega | (simp; omega) | (rw [IntKind.wrap_i64]; omega) | (intro hx; omega) | rfl)
      simp only [putAll, Act.put, List.setIfInBounds_toArray, List.set_cons_zero, List.set_cons_succ]
      refine q_run (v := .int .i64 (k : Int)) (by rfl) ?_ ?_
      · (intro w1 hC; have k0 := at_16 (hXD w1 hC).x 0 _ rfl; have k1 := at_16 (hXD w1 hC).x 1 _ rfl; have k2 := keepc (hXD w1 hC).b HC0.out; clear hC; go_simp; first | done | (simp; done) | (simp [*]; done) | omega | (simp; omega) | (rw [IntKind.wrap_i64]; omega) | (intro hx; omega) | rfl)
      simp only [putAll, Act.put, List.setIfInBounds_toArray, List.set_cons_zero, List.set_cons_succ]
      refine q_run (v := .pointer (some ⟨g, off + k * 2, none⟩)) (by rfl) ?_ ?_
      · (intro w1 hC; have k0 := at_16 (hXD w1 hC).x 0 _ rfl; have k1 := at_16 (hXD w1 hC).x 1 _ rfl; have k2 := keepc (hXD w1 hC).b HC0.out; clear hC; go_simp; first | done | (simp; done) | (simp [*]; done) | omega | (simp; omega) | (rw [IntKind.wrap_i64]; omega) | (intro hx; omega) | rfl)
      simp only [putAll, Act.put, List.setIfInBounds_toArray, List.set_cons_zero, List.set_cons_succ]
      refine q_run (v := .pointer (some ⟨g, off + k * 2, none⟩)) (by rfl) ?_ ?_
      · (intro w1 hC; have k0 := at_16 (hXD w1 hC).x 0 _ rfl; have k1 := at_16 (hXD w1 hC).x 1 _ rfl; have k2 := keepc (hXD w1 hC).b HC0.out; clear hC; go_simp; first | done | (simp; done) | (simp [*]; done) | omega | (simp; omega) | (rw [IntKind.wrap_i64]; omega) | (intro hx; omega) | rfl)
      simp only [putAll, Act.put, List.setIfInBounds_toArray, List.set_cons_zero, List.set_cons_succ]
      refine q_run (v := .int .i64 d.b) (by rfl) ?_ ?_
      · (intro w1 hC; have k0 := at_16 (hXD w1 hC).x 0 _ rfl; have k1 := at_16 (hXD w1 hC).x 1 _ rfl; have k2 := keepc (hXD w1 hC).b HC0.out; clear hC; go_simp; first | done | (simp; done) | (simp [*]; done) | omega | (simp; omega) | (rw [IntKind.wrap_i64]; omega) | (intro hx; omega) | rfl)
      simp only [putAll, Act.put, List.setIfInBounds_toArray, List.set_cons_zero, List.set_cons_succ]
      refine q_call (v := .tuple #[.agg #[.int .u64 (hI y), .int .u64 (lI y)], .int .i64 0]) (f := 40) (args := #[.agg #[.int .u64 (hI x), .int .u64 (lI x)], .int .i64 met, .int .i64 d.b]) (by rfl) ?_ ?_ ?_
      · (intro w1 hC; clear hC; go_simp)
      · exact fun w1 hC => (KF w1).mono fun e w' ⟨he, hb⟩ => ⟨he, hXb w1 _ hC hb⟩
      simp only [putAll, Act.put, List.setIfInBounds_toArray, List.set_cons_zero, List.set_cons_succ]
      refine q_run (v := .tuple #[.agg #[.int .u64 (hI y), .int .u64 (lI y)], .int .i64 0]) (by rfl) ?_ ?_
      · (intro w1 hC; have k0 := at_16 (hXD w1 hC).x 0 _ rfl; have k1 := at_16 (hXD w1 hC).x 1 _ rfl; have k2 := keepc (hXD w1 hC).b HC0.out; clear hC; go_simp; first | done | (simp; done) | (simp [*]; done) | omega | (simp; omega) | (rw [IntKind.wrap_i64]; omega) | (intro hx; omega) | rfl)
      simp only [putAll, Act.put, List.setIfInBounds_toArray, List.set_cons_zero, List.set_cons_succ]
      refine q_run (v := .agg #[.int .u64 (hI y), .int .u64 (lI y)]) (by rfl) ?_ ?_
      · (intro w1 hC; have k0 := at_16 (hXD w1 hC).x 0 _ rfl; have k1 := at_16 (hXD w1 hC).x 1 _ rfl; have k2 := keepc (hXD w1 hC).b HC0.out; clear hC; go_simp; first | done | (simp; done) | (simp [*]; done) | omega | (simp; omega) | (rw [IntKind.wrap_i64]; omega) | (intro hx; omega) | rfl)
      simp only [putAll, Act.put, List.setIfInBounds_toArray, List.set_cons_zero, List.set_cons_succ]
      refine q_run (v := .int .i64 0) (by rfl) ?_ ?_
      · (intro w1 hC; have k0 := at_16 (hXD w1 hC).x 0 _ rfl; have k1 := at_16 (hXD w1 hC).x 1 _ rfl; have k2 := keepc (hXD w1 hC).b HC0.out; clear hC; go_simp; first | done | (simp; done) | (simp [*]; done) | omega | (simp; omega) | (rw [IntKind.wrap_i64]; omega) | (intro hx; omega) | rfl)
      simp only [putAll, Act.put, List.setIfInBounds_toArray, List.set_cons_zero, List.set_cons_succ]
      refine q_run (v := .pointer (some ⟨N, 0, none⟩)) (by rfl) ?_ ?_
      · (intro w1 hC; go_simp)
      simp only [putAll, Act.put, List.setIfInBounds_toArray, List.set_cons_zero, List.set_cons_succ]
      refine q_run (v := undef) (by rfl) ?_ ?_
      · (intro w1 hC; go_simp)
      simp only [putAll, Act.put, List.setIfInBounds_toArray, List.set_cons_zero, List.set_cons_succ]
      refine q_run (v := .int .i64 0) (by rfl) ?_ ?_
      · (intro w1 hC; clear hC; go_simp; first | done | (simp; done) | (simp [*]; done) | omega | (simp; omega) | (rw [IntKind.wrap_i64]; omega) | (intro hx; omega) | rfl)
      refine wpQuiet_nil ?_
      simp only [putAll, Act.put, List.setIfInBounds_toArray, List.set_cons_zero, List.set_cons_succ]
    case fin3 =>
      intro N8 W8 hC
      have HE := hid13 hC
      clear hC KF
      simp only [putAll, Act.put, List.setIfInBounds_toArray, List.set_cons_zero, List.set_cons_succ]
      dsimp only [List.drop]
      go_wp2_with fail
      refine al_region2 14 13 (alOk (qpOk 14 13 (by decide) (fun N => by kernel_rfl) (by kernel_rfl) (by kernel_rfl) (by kernel_rfl) (by kernel_rfl)) (by decide) rfl rfl (by kernel_rfl)) (D := (fun W => LkW w x W ∧ AtW18 W N8 y ∧ w.heap.size < N8)) (C1 := fun N W => (LkW w x W ∧ AtW18 W N8 y ∧ w.heap.size < N8) ∧ W.heap[N]? = some (.cells #[.int .u64 0, .int .u64 0, .bool false, .int .i64 0] 58) ∧ w.heap.size < N) (obj := .cells #[.int .u64 0, .int .u64 0, .bool false, .int .i64 0] 58) [some 40, some 41, some 42, some 43, some 44, some 45, some 46, some 47, some 48, some 49, some 50, some 51, some 52, some 14] (fun N => [.slice (some ⟨g, off, none⟩) n c, .int .i64 (k : Int), .pointer (some ⟨g, off + k * 2, none⟩), .pointer (some ⟨g, off + k * 2 + 1, none⟩), .slice (some ⟨rg, roff, none⟩) rn rc, .slice (some ⟨g, off, none⟩) n c, .int .i64 (k : Int), .pointer (some ⟨g, off + k * 2, none⟩), .agg #[.int .i64 d.b, .slice (some ⟨rg, roff, none⟩) rn rc], .agg #[.int .u64 (hI y), .int .u64 (lI y)], .int .i64 (j : Int), .pointer (some ⟨rg, roff + j * 4, none⟩), .agg #[.int .u64 (hI q.f), .int .u64 (lI q.f), .bool q.k, .int .i64 q.n], .pointer (some ⟨N, 0, none⟩)]) 14 (by kernel_rfl) rfl ?hA9 ?hal9 ?hC9 ?hD9 ?walk9 ?fin9
      case hD9 => exact ⟨HE.out.1.below (Below.refl _ _).drew, HE.out.2.1.below (Below.refl _ _).drew, HE.out.2.2⟩
      case hA9 => intro N; simp only [putAll, Act.put, List.setIfInBounds_toArray, List.set_cons_zero, List.set_cons_succ]; rfl
      case hal9 => intro W a _; go_simp
      case hC9 => intro W h; exact ⟨⟨h.1.below (bl1 W _), h.2.1.below (bl1 W _), h.2.2⟩, new_16 _ _, lt_16 h.1.x⟩
      case walk9 =>
          intro N X hX
          have hXD : ∀ W, X W → (LkW w x W ∧ AtW18 W N8 y ∧ w.heap.size < N8) := by
            rcases hX with rfl | rfl
            · exact fun W h => h
            · exact fun W h => h.1
          have hXb : ∀ W W', X W → Below W.heap.size W W' → X W' := by
            rcases hX with rfl | rfl
            · exact fun W W' h hb => ⟨h.1.below hb, h.2.1.below hb, h.2.2⟩
            · exact fun W W' h hb => ⟨⟨h.1.1.below hb, h.1.2.1.below hb, h.1.2.2⟩, (hb.block _ (lt_16 h.2.1)).trans h.2.1, h.2.2⟩
          clear hX
          dsimp only [rep, List.take, List.modify, List.modifyTailIdx, List.modifyTailIdx.go, List.modifyHead]
          refine q_run (v := .slice (some ⟨g, off, none⟩) n c) (by rfl) ?_ ?_
          · (intro w1 hC; have k0 := at_16 (hXD w1 hC).2.1 0 _ rfl; have k1 := at_16 (hXD w1 hC).2.1 1 _ rfl; have k2 := keepc (hXD w1 hC).1.b HC0.out; have k3 := keepc (hXD w1 hC).1.b HC1.out; have k4 := keepc (hXD w1 hC).1.b HR0.out.1; have k5 := keepc (hXD w1 hC).1.b HR0.out.2.1; have k6 := keepc (hXD w1 hC).1.b HR0.out.2.2.1; have k7 := keepc (hXD w1 hC).1.b HR0.out.2.2.2; clear hC; go_simp; first | done | (simp; done) | (simp [*]; done) | omega | (simp; omega) | (rw [IntKind.wrap_i64]; omega) | (intro hx; omega) | rfl)
          simp only [putAll, Act.put, List.setIfInBounds_toArray, List.set_cons_zero, List.set_cons_succ]
          refine q_run (v := .int .i64 (k : Int)) (by rfl) ?_ ?_
          · (intro w1 hC; have k0 := at_16 (hXD w1 hC).2.1 0 _ rfl; have k1 := at_16 (hXD w1 hC).2.1 1 _ rfl; have k2 := keepc (hXD w1 hC).1.b HC0.out; have k3 := keepc (hXD w1 hC).1.b HC1.out; have k4 := keepc (hXD w1 hC).1.b HR0.out.1; have k5 := keepc (hXD w1 hC).1.b HR0.out.2.1; have k6 := keepc (hXD w1 hC).1.b HR0.out.2.2.1; have k7 := keepc (hXD w1 hC).1.b HR0.out.2.2.2; clear hC; go_simp; first | done | (simp; done) | (simp [*]; done) | omega | (simp; omega) | (rw [IntKind.wrap_i64]; omega) | (intro hx; omega) | rfl)
          simp only [putAll, Act.put, List.setIfInBounds_toArray, List.set_cons_zero, List.set_cons_succ]
          refine q_run (v := .pointer (some ⟨g, off + k * 2, none⟩)) (by rfl) ?_ ?_
          · (intro w1 hC; have k0 := at_16 (hXD w1 hC).2.1 0 _ rfl; have k1 := at_16 (hXD w1 hC).2.1 1 _ rfl; have k2 := keepc (hXD w1 hC).1.b HC0.out; have k3 := keepc (hXD w1 hC).1.b HC1.out; have k4 := keepc (hXD w1 hC).1.b HR0.out.1; have k5 := keepc (hXD w1 hC).1.b HR0.out.2.1; have k6 := keepc (hXD w1 hC).1.b HR0.out.2.2.1; have k7 := keepc (hXD w1 hC).1.b HR0.out.2.2.2; clear hC; go_simp; first | done | (simp; done) | (simp [*]; done) | omega | (simp; omega) | (rw [IntKind.wrap_i64]; omega) | (intro hx; omega) | rfl)
          simp only [putAll, Act.put, List.setIfInBounds_toArray, List.set_cons_zero, List.set_cons_succ]
          refine q_run (v := .pointer (some ⟨g, off + k * 2 + 1, none⟩)) (by rfl) ?_ ?_
          · (intro w1 hC; have k0 := at_16 (hXD w1 hC).2.1 0 _ rfl; have k1 := at_16 (hXD w1 hC).2.1 1 _ rfl; have k2 := keepc (hXD w1 hC).1.b HC0.out; have k3 := keepc (hXD w1 hC).1.b HC1.out; have k4 := keepc (hXD w1 hC).1.b HR0.out.1; have k5 := keepc (hXD w1 hC).1.b HR0.out.2.1; have k6 := keepc (hXD w1 hC).1.b HR0.out.2.2.1; have k7 := keepc (hXD w1 hC).1.b HR0.out.2.2.2; clear hC; go_simp; first | done | (simp; done) | (simp [*]; done) | omega | (simp; omega) | (rw [IntKind.wrap_i64]; omega) | (intro hx; omega) | rfl)
          simp only [putAll, Act.put, List.setIfInBounds_toArray, List.set_cons_zero, List.set_cons_succ]
          refine q_run (v := .slice (some ⟨rg, roff, none⟩) rn rc) (by rfl) ?_ ?_
          · (intro w1 hC; have k0 := at_16 (hXD w1 hC).2.1 0 _ rfl; have k1 := at_16 (hXD w1 hC).2.1 1 _ rfl; have k2 := keepc (hXD w1 hC).1.b HC0.out; have k3 := keepc (hXD w1 hC).1.b HC1.out; have k4 := keepc (hXD w1 hC).1.b HR0.out.1; have k5 := keepc (hXD w1 hC).1.b HR0.out.2.1; have k6 := keepc (hXD w1 hC).1.b HR0.out.2.2.1; have k7 := keepc (hXD w1 hC).1.b HR0.out.2.2.2; clear hC; go_simp; first | done | (simp; done) | (simp [*]; done) | omega | (simp; omega) | (rw [IntKind.wrap_i64]; omega) | (intro hx; omega) | rfl)
          simp only [putAll, Act.put, List.setIfInBounds_toArray, List.set_cons_zero, List.set_cons_succ]
          refine q_run (v := .slice (some ⟨g, off, none⟩) n c) (by rfl) ?_ ?_
          · (intro w1 hC; have k0 := at_16 (hXD w1 hC).2.1 0 _ rfl; have k1 := at_16 (hXD w1 hC).2.1 1 _ rfl; have k2 := keepc (hXD w1 hC).1.b HC0.out; have k3 := keepc (hXD w1 hC).1.b HC1.out; have k4 := keepc (hXD w1 hC).1.b HR0.out.1; have k5 := keepc (hXD w1 hC).1.b HR0.out.2.1; have k6 := keepc (hXD w1 hC).1.b HR0.out.2.2.1; have k7 := keepc (hXD w1 hC).1.b HR0.out.2.2.2; clear hC; go_simp; first | done | (simp; done) | (simp [*]; done) | omega | (simp; omega) | (rw [IntKind.wrap_i64]; omega) | (intro hx; omega) | rfl)
          simp only [putAll, Act.put, List.setIfInBounds_toArray, List.set_cons_zero, List.set_cons_succ]
          refine q_run (v := .int .i64 (k : Int)) (by rfl) ?_ ?_
          · (intro w1 hC; have k0 := at_16 (hXD w1 hC).2.1 0 _ rfl; have k1 := at_16 (hXD w1 hC).2.1 1 _ rfl; have k2 := keepc (hXD w1 hC).1.b HC0.out; have k3 := keepc (hXD w1 hC).1.b HC1.out; have k4 := keepc (hXD w1 hC).1.b HR0.out.1; have k5 := keepc (hXD w1 hC).1.b HR0.out.2.1; have k6 := keepc (hXD w1 hC).1.b HR0.out.2.2.1; have k7 := keepc (hXD w1 hC).1.b HR0.out.2.2.2; clear hC; go_simp; first | done | (simp; done) | (simp [*]; done) | omega | (simp; omega) | (rw [IntKind.wrap_i64]; omega) | (intro hx; omega) | rfl)
          simp only [putAll, Act.put, List.setIfInBounds_toArray, List.set_cons_zero, List.set_cons_succ]
          refine q_run (v := .pointer (some ⟨g, off + k * 2, none⟩)) (by rfl) ?_ ?_
          · (intro w1 hC; have k0 := at_16 (hXD w1 hC).2.1 0 _ rfl; have k1 := at_16 (hXD w1 hC).2.1 1 _ rfl; have k2 := keepc (hXD w1 hC).1.b HC0.out; have k3 := keepc (hXD w1 hC).1.b HC1.out; have k4 := keepc (hXD w1 hC).1.b HR0.out.1; have k5 := keepc (hXD w1 hC).1.b HR0.out.2.1; have k6 := keepc (hXD w1 hC).1.b HR0.out.2.2.1; have k7 := keepc (hXD w1 hC).1.b HR0.out.2.2.2; clear hC; go_simp; first | done | (simp; done) | (simp [*]; done) | omega | (simp; omega) | (rw [IntKind.wrap_i64]; omega) | (intro hx; omega) | rfl)
          simp only [putAll, Act.put, List.setIfInBounds_toArray, List.set_cons_zero, List.set_cons_succ]
          refine q_run (v := .agg #[.int .i64 d.b, .slice (some ⟨rg, roff, none⟩) rn rc]) (by rfl) ?_ ?_
          · (intro w1 hC; have k0 := at_16 (hXD w1 hC).2.1 0 _ rfl; have k1 := at_16 (hXD w1 hC).2.1 1 _ rfl; have k2 := keepc (hXD w1 hC).1.b HC0.out; have k3 := keepc (hXD w1 hC).1.b HC1.out; have k4 := keepc (hXD w1 hC).1.b HR0.out.1; have k5 := keepc (hXD w1 hC).1.b HR0.out.2.1; have k6 := keepc (hXD w1 hC).1.b HR0.out.2.2.1; have k7 := keepc (hXD w1 hC).1.b HR0.out.2.2.2; clear hC; go_simp; first | done | (simp; done) | (simp [*]; done) | omega | (simp; omega) | (rw [IntKind.wrap_i64]; omega) | (intro hx; omega) | rfl)
          simp only [putAll, Act.put, List.setIfInBounds_toArray, List.set_cons_zero, List.set_cons_succ]
          refine q_run (v := .agg #[.int .u64 (hI y), .int .u64 (lI y)]) (by rfl) ?_ ?_
          · (intro w1 hC; have k0 := at_16 (hXD w1 hC).2.1 0 _ rfl; have k1 := at_16 (hXD w1 hC).2.1 1 _ rfl; have k2 := keepc (hXD w1 hC).1.b HC0.out; have k3 := keepc (hXD w1 hC).1.b HC1.out; have k4 := keepc (hXD w1 hC).1.b HR0.out.1; have k5 := keepc (hXD w1 hC).1.b HR0.out.2.1; have k6 := keepc (hXD w1 hC).1.b HR0.out.2.2.1; have k7 := keepc (hXD w1 hC).1.b HR0.out.2.2.2; clear hC; go_simp; first | done | (simp; done) | (simp [*]; done) | omega | (simp; omega) | (rw [IntKind.wrap_i64]; omega) | (intro hx; omega) | rfl)
          simp only [putAll, Act.put, List.setIfInBounds_toArray, List.set_cons_zero, List.set_cons_succ]
          refine q_call (v := .int .i64 (j : Int)) (f := 41) (args := #[.agg #[.int .i64 d.b, .slice (some ⟨rg, roff, none⟩) rn rc], .agg #[.int .u64 (hI y), .int .u64 (lI y)]]) (by rfl) ?_ ?_ ?_
          · (intro w1 hC; clear hC; go_simp)
          · exact fun w1 hC => (KH w1 (hXD w1 hC).1.b).mono fun e w' ⟨he, hb⟩ => ⟨he, hXb w1 _ hC hb⟩
          simp only [putAll, Act.put, List.setIfInBounds_toArray, List.set_cons_zero, List.set_cons_succ]
          refine q_run (v := .pointer (some ⟨rg, roff + j * 4, none⟩)) (by rfl) ?_ ?_
          · (intro w1 hC; have k0 := at_16 (hXD w1 hC).2.1 0 _ rfl; have k1 := at_16 (hXD w1 hC).2.1 1 _ rfl; have k2 := keepc (hXD w1 hC).1.b HC0.out; have k3 := keepc (hXD w1 hC).1.b HC1.out; have k4 := keepc (hXD w1 hC).1.b HR0.out.1; have k5 := keepc (hXD w1 hC).1.b HR0.out.2.1; have k6 := keepc (hXD w1 hC).1.b HR0.out.2.2.1; have k7 := keepc (hXD w1 hC).1.b HR0.out.2.2.2; clear hC; go_simp; first | done | (simp; done) | (simp [*]; done) | omega | (simp; omega) | (rw [IntKind.wrap_i64]; omega) | (intro hx; omega) | rfl)
          simp only [putAll, Act.put, List.setIfInBounds_toArray, List.set_cons_zero, List.set_cons_succ]
          refine q_run (v := .agg #[.int .u64 (hI q.f), .int .u64 (lI q.f), .bool q.k, .int .i64 q.n]) (by rfl) ?_ ?_
          · (intro w1 hC; have k0 := at_16 (hXD w1 hC).2.1 0 _ rfl; have k1 := at_16 (hXD w1 hC).2.1 1 _ rfl; have k2 := keepc (hXD w1 hC).1.b HC0.out; have k3 := keepc (hXD w1 hC).1.b HC1.out; have k4 := keepc (hXD w1 hC).1.b HR0.out.1; have k5 := keepc (hXD w1 hC).1.b HR0.out.2.1; have k6 := keepc (hXD w1 hC).1.b HR0.out.2.2.1; have k7 := keepc (hXD w1 hC).1.b HR0.out.2.2.2; clear hC; go_simp; first | done | (simp; done) | (simp [*]; done) | omega | (simp; omega) | (rw [IntKind.wrap_i64]; omega) | (intro hx; omega) | rfl)
          simp only [putAll, Act.put, List.setIfInBounds_toArray, List.set_cons_zero, List.set_cons_succ]
          refine q_run (v := .pointer (some ⟨N, 0, none⟩)) (by rfl) ?_ ?_
          · (intro w1 hC; go_simp)
          refine wpQuiet_nil ?_
          simp only [putAll, Act.put, List.setIfInBounds_toArray, List.set_cons_zero, List.set_cons_succ]
      case fin9 =>
        intro M W hC
        obtain ⟨hE, hZ, hM⟩ := hC
        simp only [putAll, Act.put, List.setIfInBounds_toArray, List.set_cons_zero, List.set_cons_succ]
        dsimp only [List.drop]
        have z0 := at_16 hZ 0 _ rfl
        have z1 := at_16 hZ 1 _ rfl
        have z2 := at_16 hZ 2 _ rfl
        have z3 := at_16 hZ 3 _ rfl
        have f0 := fr_16 (j := 0) hZ
        have f1 := fr_16 (j := 1) hZ
        have f2 := fr_16 (j := 2) hZ
        have f3 := fr_16 (j := 3) hZ
        have HL9 : Hid (LkW w x ((((W.setCell ⟨M, 0, none⟩ (.int .u64 (hI q.f))).setCell ⟨M, 1, none⟩ (.int .u64 (lI q.f))).setCell ⟨M, 2, none⟩ (.bool q.k)).setCell ⟨M, 3, none⟩ (.int .i64 q.n))) := hid13 ((((hE.1.set hM _).set hM _).set hM _).set hM _)
        have k2 := keepc hE.1.b HC0.out
        have k3 := keepc HL9.out.b HC0.out
        have hgw := cell_in HC0.out
        have hgM : ¬ g = M := by have : g < w.heap.size := hgw; omega
        have hMg : ¬ M = g := fun e => hgM e.symm
        have hjs : (0 : Int) ≤ met ∧ met ≤ V k := HI.out.2.2
        have HMt := hid13 hjs
        clear hE hZ hM hgw KH HE HI HR0 HC0 HC1 hjs
        generalize q.f = qf at *
        generalize q.n = qn at *
        generalize q.k = qk at *
        cases qk
        · have HF : Hid (RES = qn) := hid13 (by rw [HWk.out, if_neg (by simp)])
          go_wp2
          exact bodyPost_ret (v := .tuple #[.int .i64 qn, .int .i64 0]) (by simp [results, Try.results21, go_sem]) rfl ⟨by rw [HF.out], HL9.out.b⟩
        · obtain ⟨h1, h2, h3⟩ := HQ.out rfl
          obtain ⟨k', rfl⟩ : ∃ k' : Nat, qn = (k' : Int) := ⟨qn.toNat, by omega⟩
          rw [Int.toNat_natCast] at h3
          have HF : Hid (RES = walkR x L (gk - 1) k' (met + d.b)) := hid13 (by rw [HWk.out, if_pos rfl, Int.toNat_natCast])
          have HT : Hid (k < k' ∧ k' < n ∧ met + d.b ≤ V k') := ⟨by omega, by omega, by have := HMt.out; omega⟩
          clear h1 h2 h3
          go_wp2
          go_roundg (gk - 1)
          case measure => have := HB.out; omega
          case rel => exact ⟨k', met + d.b, rfl, rfl, HT.out.2.1, by have := HB.out; have := HT.out; omega, hid13 ⟨HL9.out, HF.out.symm, by have := HMt.out; have := HB.out; omega, HT.out.2.2⟩⟩
end Go.Proofs.Ytjgpbahglkaijaa
namespace Go.Proofs.Ytjgpbahglkaijaa
open Go.RowKit
set_option linter.unusedSimpArgs false
set_option linter.unusedVariables false

theorem upX_le (B M : Int) (K : Int) (hB : 0 ≤ B ∧ B ≤ K) : ∀ (es : List (Bool × Int)) (A : List (Int × Int)), (∀ i, 0 ≤ (A.getD i (0, 0)).1 ∧ (A.getD i (0, 0)).1 ≤ K) → ∀ i, 0 ≤ ((es.foldl (upX B M) A).getD i (0, 0)).1 ∧ ((es.foldl (upX B M) A).getD i (0, 0)).1 ≤ K
  | [], A, h => h
  | e :: t, A, h => by
    rw [List.foldl_cons]
    refine upX_le B M K hB t _ (fun i => ?_)
    unfold upX
    split
    · rw [set_getD]
      split
      · have := h e.2.toNat
        dsimp only
        omega
      · exact h i
    · exact h i
theorem msG_dp (F : Int) : ∀ (t : List PB) (k : Nat) (A : List (Int × Int)) (dp : Int), (∀ i, 0 ≤ (A.getD i (0, 0)).1 ∧ (A.getD i (0, 0)).1 ≤ (k : Int)) → 0 ≤ dp ∧ dp ≤ (k : Int) → 0 ≤ (msG F t k A dp).1 ∧ (msG F t k A dp).1 ≤ ((k + t.length : Nat) : Int)
  | [], k, A, dp, h, hd => by unfold msG; simpa using hd
  | b :: t, k, A, dp, h, hd => by
    unfold msG
    have hk := h k
    split
    · dsimp only
      omega
    · have := msG_dp F t (k + 1) (b.es.foldl (upX ((A.getD k (0, 0)).1 + 1) ((A.getD k (0, 0)).2 + b.t)) A) (max dp ((A.getD k (0, 0)).1 + 1)) (upX_le _ _ _ (by omega) _ _ (fun i => by have := h i; omega)) (by omega)
      rw [List.length_cons, show k + (t.length + 1) = k + 1 + t.length by omega]
      exact this
theorem msR_dp (F : Int) (P : List PB) : 0 ≤ (msR F P).1 ∧ (msR F P).1 ≤ (P.length : Int) := by
  have := msG_dp F P 0 (List.replicate P.length (0, 0)) 0 (fun i => by
    have e : (List.replicate P.length ((0 : Int), (0 : Int))).getD i (0, 0) = (0, 0) := by
      rw [List.getD_eq_getElem?_getD, List.getElem?_replicate]
      split <;> rfl
    rw [e]
    exact ⟨Int.le_refl _, Int.le_refl _⟩) ⟨Int.le_refl _, Int.le_refl _⟩
  rw [Nat.zero_add] at this
  exact this
theorem vfR_dep (F : Int) (l : List Nat) (hl : l.length ≤ 65536) : ((vfR F l).2.2 ≠ 0 → (vfR F l).1 = 0) ∧ ((vfR F l).2.2 = 0 → 0 ≤ (vfR F l).1 ∧ (vfR F l).1 ≤ 16384) := by
  by_cases hn : dcE l 0 = 0 ∧ (dcI l 0).op = 4
  · unfold vfR
    split
    · exact ⟨fun _ => rfl, fun q => absurd q (by simp)⟩
    split
    · exact ⟨fun _ => rfl, fun q => absurd q (by simp)⟩
    try rw [if_pos hn]
    split
    · exact ⟨fun _ => rfl, fun q => absurd q (by simp)⟩
    · exact ⟨fun _ => rfl, fun _ => by dsimp only; omega⟩
  · refine ⟨fun h => ?_, fun h => ?_⟩
    · unfold vfR at h ⊢
      split
      · rfl
      rename_i c1
      rw [if_neg c1] at h
      split
      · rfl
      rename_i c2
      rw [if_neg c2, if_neg hn] at h
      try rw [if_neg hn]
      unfold vfB at h ⊢
      split
      · rfl
      rename_i c3
      rw [if_neg c3] at h
      split
      · rfl
      rename_i c4
      rw [if_neg c4] at h
      split
      · rfl
      rename_i c5
      rw [if_neg c5] at h
      exact msG_err F _ _ _ _ h
    · have ho := (vfP_ok h hn).1
      have hw : wds l ≤ 16384 := by unfold wds; omega
      have hm := msR_dp F (vfP l)
      unfold vfR at h ⊢
      split
      · exact ⟨Int.le_refl _, by decide⟩
      split
      · exact ⟨Int.le_refl _, by decide⟩
      try rw [if_neg hn]
      unfold vfB
      split
      · exact ⟨Int.le_refl _, by dsimp only; omega⟩
      split
      · exact ⟨Int.le_refl _, by dsimp only; omega⟩
      split
      · exact ⟨Int.le_refl _, by dsimp only; omega⟩
      · exact ⟨hm.1, by omega⟩
theorem right_and (F : Int) (x : BitVec 128) (h : fam F = true) : rightE F (x &&& maskW F) = 0 := by
  unfold rightE
  rw [if_pos h, if_pos (by rw [BitVec.and_assoc, BitVec.and_self])]
theorem lk_val {F : Int} {l : List Nat} (hx : ∀ b ∈ l, b < 256) (h : (vfR F l).2.2 = 0) : ∃ V, LkOk (trL l) V := by
  have h0 := h
  have ht9 := tree_ok hx h0
  have hok := chk_ok (F := F) (L := trL l) (by rw [ht9])
  have hF := fam_ways F hok.2.2.1
  by_cases hn : dcE l 0 = 0 ∧ (dcI l 0).op = 4
  · refine ⟨fun _ => 0, Int.le_refl _, fun k d hk => ?_⟩
    unfold trL at hk
    rw [if_pos hn] at hk
    unfold oneN at hk
    match k, hk with
    | 0, hk =>
      simp at hk
      subst hk
      refine ⟨Int.le_refl _, by show (0 : Int) + 0 ≤ 128; decide, by show 0 < 1; decide, fun r hr hrk => ?_⟩
      simp at hr
      subst hr
      cases hrk
    | k + 1, hk => simp at hk
  · obtain ⟨o1, o2⟩ := vfP_ok h0 hn
    have hm : (msR F (vfP l)).2.2 = 0 := by
      unfold vfR at h
      split at h
      · exact absurd h (by simp)
      split at h
      · exact absurd h (by simp)
      try rw [if_neg hn] at h
      unfold vfB at h
      split at h
      · rename_i c; exact absurd h c
      split at h
      · rename_i c; exact absurd h c
      split at h
      · rename_i c; exact absurd h c
      · exact h
    have hT : trL l = ndsL (vfP l) := by unfold trL; rw [if_neg hn]
    rw [hT] at hok ⊢
    have hln : (ndsL (vfP l)).length = (vfP l).length := by unfold ndsL; rw [List.length_map]
    have hkids : ∀ (k : Nat) (b : PB), (vfP l)[k]? = some b → ∀ e ∈ b.es, e.1 = true → (k : Int) < e.2 ∧ e.2 < ((vfP l).length : Int) := fun k b hb e he q => by
      have hd : (ndsL (vfP l))[k]? = some ⟨b.t, runsV b.m b.es⟩ := by unfold ndsL; rw [List.getElem?_map, hb]; rfl
      have hkd := (hok.1.2 k _ hd).kid
      have hes := (o2 b (List.mem_of_getElem? hb)).1
      have hmem : e.2 ∈ kidL (runsV b.m b.es) := by
        rw [kid_runs _ _ hes]
        unfold jmpL
        exact List.mem_map.mpr ⟨e, List.mem_filter.mpr ⟨he, q⟩, rfl⟩
      obtain ⟨r, hr1, hr2, hr3⟩ := mem_kidL hmem
      have := hkd r hr1 hr2
      rw [hr3, hln] at this
      exact this
    obtain ⟨V, v1, -, v3⟩ := ms_val F (vfP l).length (vfP l) 0 (List.replicate (vfP l).length (0, 0)) 0 (by simp) (fun k b hb e he q => by rw [Nat.zero_add]; exact hkids k b hb e he q) hm
    refine ⟨fun i => (V i).2, ?_, fun k d hk => ?_⟩
    · have := v1 0 (Nat.le_refl _)
      have e : (List.replicate (vfP l).length ((0 : Int), (0 : Int))).getD 0 (0, 0) = (0, 0) := by
        rw [List.getD_eq_getElem?_getD, List.getElem?_replicate]
        split <;> rfl
      rw [e] at this
      exact this.2
    · unfold ndsL at hk
      rw [List.getElem?_map] at hk
      cases hb : (vfP l)[k]? with
      | none => rw [hb] at hk; cases hk
      | some b =>
        rw [hb] at hk
        injection hk with hk
        subst hk
        have ob := o2 b (List.mem_of_getElem? hb)
        have r := v3 k b hb
        rw [Nat.zero_add] at r
        have hrl : (runsV b.m b.es).length = b.es.length := runsV_len _ _ ob.1
        refine ⟨by show (0 : Int) ≤ b.t; omega, by show (V k).2 + b.t ≤ 128; omega, by show 0 < (runsV b.m b.es).length; omega, fun q hq hqk => ?_⟩
        have hq' : q ∈ (setL b.m 0).zipWith rnZ b.es := hq
        obtain ⟨z, hz, e, he, rfl⟩ := mem_zip hq'
        have h1 := hkids k b hb e he hqk
        have h2 := r.2.2 e he hqk
        rw [hln]
        exact ⟨h1.1, h1.2, h2.2⟩
end Go.Proofs.Ytjgpbahglkaijaa
namespace Go.Proofs.Ytjgpbahglkaijaa
open Go.RowKit
set_option linter.unusedSimpArgs false
set_option linter.unusedVariables false

end Go.Proofs.Ytjgpbahglkaijaa
namespace Go.Proofs.Ytjgpbahglkaijaa
open Go.RowKit
set_option linter.unusedSimpArgs false
set_option linter.unusedVariables false

end Go.Proofs.Ytjgpbahglkaijaa
namespace Go.Proofs.Ytjgpbahglkaijaa
open Go.RowKit
set_option linter.unusedSimpArgs false
set_option linter.unusedVariables false

set_option maxHeartbeats 1000000 in
theorem rcut_any (x : BitVec 128) (n : Int) (w : World) :
    Calls Try.prog 58 #[.agg #[.int .u64 (hI x), .int .u64 (lI x)], .int .i64 n] w fun e w' => e = .returned (.agg #[.int .u64 (hI (cutW x n)), .int .u64 (lI (cutW x n)), .int .i64 n]) ∧ Below w.heap.size w w' := by
  have hbl := fun o p => (bl2 w o p).drew
  unfold cutW
  go_enter Try.func58, Try.ntmps58
  go_wp2
  go_region_held3 (fun w' => w'.cell? ⟨w.heap.size, 0, none⟩ = some (.int .u64 (hI x)) ∧ w'.cell? ⟨w.heap.size, 1, none⟩ = some (.int .u64 (lI x)) ∧ w'.cell? ⟨w.heap.size + 1, 0, none⟩ = some (cv w' (w.heap.size + 1) 0) ∧ w'.cell? ⟨w.heap.size + 1, 1, none⟩ = some (cv w' (w.heap.size + 1) 1) ∧ w'.cell? ⟨w.heap.size + 1, 2, none⟩ = some (cv w' (w.heap.size + 1) 2) ∧ w'.frozen? ⟨w.heap.size + 1, 0, none⟩ = false ∧ w'.frozen? ⟨w.heap.size + 1, 1, none⟩ = false ∧ w'.frozen? ⟨w.heap.size + 1, 2, none⟩ = false ∧ Below w.heap.size w w')
    (first
      | (obtain ⟨k1, k2, k3, k4, k5, k6, k7, k8, k9⟩ := ‹_ ∧ _›; exact ⟨keepc hb2 k1, keepc hb2 k2, cv_of (keepc hb2 k3), cv_of (keepc hb2 k4), cv_of (keepc hb2 k5), keepf hb2 k3 k6, keepf hb2 k4 k7, keepf hb2 k5 k8, keepb hb2 k9⟩)
      | (obtain ⟨k1, k2, k3, k4, k5, k6, k7, k8, k9⟩ := ‹_ ∧ _›; exact ⟨keepc hb1 k1, keepc hb1 k2, cv_of (keepc hb1 k3), cv_of (keepc hb1 k4), cv_of (keepc hb1 k5), keepf hb1 k3 k6, keepf hb1 k4 k7, keepf hb1 k5 k8, keepb hb1 k9⟩)
      | (refine ⟨?_, ?_, cv_new ?_, cv_new ?_, cv_new ?_, ?_, ?_, ?_, ?_⟩ <;> first | (simp [go_sem, *]; done) | exact bset3 (by simp [*]) (by simp) _ _ _))
    (first | (go_at_call 60; refine (rmask_any _ _).mono ?_; rintro e w1 ⟨rfl, hb1⟩) | (go_at_call 59; refine (rand_any _ _ _).mono ?_; rintro e w2 ⟨rfl, hb2⟩))
  obtain ⟨-, -, -, -, -, -, -, -, kB⟩ := ‹_ ∧ _›
  have e0 : w2.cell? ⟨w.heap.size + 1, 0, none⟩ = some (.int .u64 0) := keepc hb2 (keepc hb1 (by simp [go_sem]))
  have e1 : w2.cell? ⟨w.heap.size + 1, 1, none⟩ = some (.int .u64 0) := keepc hb2 (keepc hb1 (by simp [go_sem]))
  have e2 : w2.cell? ⟨w.heap.size + 1, 2, none⟩ = some (.int .i64 0) := keepc hb2 (keepc hb1 (by simp [go_sem]))
  go_wp2
  exact bodyPost_ret (v := .agg #[.int .u64 (hI (x &&& maskW n)), .int .u64 (lI (x &&& maskW n)), .int .i64 n]) (by simp [results, Try.results58, go_sem, e0, e1, e2]) rfl ⟨rfl, kB⟩

end Go.Proofs.Ytjgpbahglkaijaa
