/-
  Part 18 of the proof: 1 texts, one behind the other.
-/
import Derived.Test.YtdgmfdfhbhmppaaDoorPart11
import Derived.Test.YtdgmfdfhbhmppaaDoorPart5
import Derived.Test.YtdgmfdfhbhmppaaDoorPart4
import Derived.Test.YtdgmfdfhbhmppaaDoorPart17
import Derived.Test.YtdgmfdfhbhmppaaDoorPart8
import Derived.Test.YtdgmfdfhbhmppaaDoorPart7
/-
  The law PrefixParts: a prefix split by a few bits.
-/
namespace Go.Proofs.YtdgmfdfhbhmppaaDoor
open Go.RowKit Go.Shelf
set_option linter.unusedSimpArgs false
set_option linter.unusedVariables false
attribute [local go_sem] Oper.semAt_some

/-- A variable of one cell. -/
def Cl1 (W : World) (B : Nat) (v : Value) : Prop := W.cell? ⟨B, 0, none⟩ = some v ∧ W.frozen? ⟨B, 0, none⟩ = false
theorem Cl1.below {W W' : World} {B : Nat} {v : Value} (k : Cl1 W B v) (hb : Below W.heap.size W W') : Cl1 W' B v := ⟨keepc hb k.1, keepf hb k.1 k.2⟩
theorem Cl1.heap {W W' : World} {B : Nat} {v : Value} (k : Cl1 W B v) (e : W'.heap[B]? = W.heap[B]?) : Cl1 W' B v := ⟨(World.cell?_of_block (a := ⟨B, 0, none⟩) e).trans k.1, (World.frozen?_of_block (a := ⟨B, 0, none⟩) e).trans k.2⟩
theorem cl1_new (W : World) (B : Nat) (v : Value) (t : TypeId) (h : B = W.heap.size) : Cl1 (W.alloc (.cells #[v] t)) B v := by
  subst h
  refine ⟨?_, ?_⟩ <;> simp [go_sem]
theorem Cl1.set {W : World} {B : Nat} {v : Value} (k : Cl1 W B v) (u : Value) : Cl1 (W.setCell ⟨B, 0, none⟩ u) B u := ⟨World.cell?_setCell_same' _ _ _ (by rw [k.1]; rfl), by rw [World.frozen?_setCell]; exact k.2⟩
theorem Cl1.lt {W : World} {B : Nat} {v : Value} (k : Cl1 W B v) : B < W.heap.size := cell_in k.1
theorem hSet6 {W : World} {b o : Nat} (u : Value) {k : Nat} (h : ¬ k = b) : (W.setCell ⟨b, o, none⟩ u).heap[k]? = W.heap[k]? := Below.heap_setCell W ⟨b, o, none⟩ u k h
theorem At.heap6 {W W' : World} {B : Nat} {x : BitVec 128} (k : At W B x) (e : W'.heap[B]? = W.heap[B]?) (hs : W.heap.size ≤ W'.heap.size) : At W' B x := ⟨(World.cell?_of_block (a := ⟨B, 0, none⟩) e).trans k.1, (World.cell?_of_block (a := ⟨B, 1, none⟩) e).trans k.2.1, (World.frozen?_of_block (a := ⟨B, 0, none⟩) e).trans k.2.2.1, (World.frozen?_of_block (a := ⟨B, 1, none⟩) e).trans k.2.2.2.1, Nat.lt_of_lt_of_le k.2.2.2.2 hs⟩
theorem AtP.heap6 {W W' : World} {B : Nat} {x : BitVec 128} {n : Int} (k : AtP W B x n) (e : W'.heap[B]? = W.heap[B]?) : AtP W' B x n := ⟨(World.cell?_of_block (a := ⟨B, 0, none⟩) e).trans k.1, (World.cell?_of_block (a := ⟨B, 1, none⟩) e).trans k.2.1, (World.cell?_of_block (a := ⟨B, 2, none⟩) e).trans k.2.2.1, (World.frozen?_of_block (a := ⟨B, 0, none⟩) e).trans k.2.2.2.1, (World.frozen?_of_block (a := ⟨B, 1, none⟩) e).trans k.2.2.2.2.1, (World.frozen?_of_block (a := ⟨B, 2, none⟩) e).trans k.2.2.2.2.2⟩
theorem check_of_rt {F : Int} (hf : fam F = true) {px : BitVec 128} {pn : Int} (h : Rt F px pn) : checkE F px pn = 0 := by
  obtain ⟨a, b, c⟩ := h
  unfold checkE
  rw [if_pos hf, if_neg (by omega), if_neg (by omega), if_pos (by simpa using c)]
theorem Cl1.kept {W W' : World} {B : Nat} {v : Value} (k : Cl1 W B v) {row : Option Nat} (hg : W.grownBy W' row) (hr : ∀ r, row = some r → ∃ o : Obj, W.heap[r]? = some o ∧ o.isCells = false) : Cl1 W' B v := ⟨cell_kept k.1 hg hr, (frozen_kept k.1 hg hr).trans k.2⟩
theorem At.kept6 {W W' : World} {B : Nat} {x : BitVec 128} (k : At W B x) {row : Option Nat} (hg : W.grownBy W' row) (hr : ∀ r, row = some r → ∃ o : Obj, W.heap[r]? = some o ∧ o.isCells = false) : At W' B x := ⟨cell_kept k.1 hg hr, cell_kept k.2.1 hg hr, (frozen_kept k.1 hg hr).trans k.2.2.1, (frozen_kept k.2.1 hg hr).trans k.2.2.2.1, Nat.lt_of_lt_of_le k.2.2.2.2 hg.size⟩
theorem AtP.kept6 {W W' : World} {B : Nat} {x : BitVec 128} {n : Int} (k : AtP W B x n) {row : Option Nat} (hg : W.grownBy W' row) (hr : ∀ r, row = some r → ∃ o : Obj, W.heap[r]? = some o ∧ o.isCells = false) : AtP W' B x n := ⟨cell_kept k.1 hg hr, cell_kept k.2.1 hg hr, cell_kept k.2.2.1 hg hr, (frozen_kept k.1 hg hr).trans k.2.2.2.1, (frozen_kept k.2.1 hg hr).trans k.2.2.2.2.1, (frozen_kept k.2.2.1 hg hr).trans k.2.2.2.2.2⟩
/-- What stands in the law's variables when so many have come. -/
structure PI (w : World) (N9 N10 N12 N13 : Nat) (F : Int) (px : BitVec 128) (pl mo : Int) (k : Int) (ax : BitVec 128) (W : World) : Prop where
  m : Cl1 W (w.heap.size + 1) (.int .i64 mo)
  r : Cl1 W (w.heap.size + 2) (.bool false)
  f : Cl1 W N9 (.int .i64 F)
  p : AtP W N10 px pl
  kk : Cl1 W N12 (.int .i64 k)
  a : At W N13 ax
  ord : w.heap.size + 2 < N9 ∧ N9 < N10 ∧ N10 < N12 ∧ N12 < N13
section
variable {w : World} {N9 N10 N12 N13 : Nat} {F : Int} {px : BitVec 128} {pl mo : Int} {k : Int} {ax : BitVec 128} {W W' : World}
theorem PI.below (h : PI w N9 N10 N12 N13 F px pl mo k ax W) (hb : Below W.heap.size W W') : PI w N9 N10 N12 N13 F px pl mo k ax W' := ⟨h.m.below hb, h.r.below hb, h.f.below hb, h.p.below hb, h.kk.below hb, h.a.below hb, h.ord⟩
theorem PI.kept (h : PI w N9 N10 N12 N13 F px pl mo k ax W) {row : Option Nat} (hg : W.grownBy W' row) (hr : ∀ r, row = some r → ∃ o : Obj, W.heap[r]? = some o ∧ o.isCells = false) : PI w N9 N10 N12 N13 F px pl mo k ax W' := ⟨h.m.kept hg hr, h.r.kept hg hr, h.f.kept hg hr, h.p.kept6 hg hr, h.kk.kept hg hr, h.a.kept6 hg hr, h.ord⟩
theorem PI.setK (h : PI w N9 N10 N12 N13 F px pl mo k ax W) (j : Int) : PI w N9 N10 N12 N13 F px pl mo j ax (W.setCell ⟨N12, 0, none⟩ (.int .i64 j)) := by
  have o := h.ord
  exact ⟨h.m.heap (hSet6 _ (by omega)), h.r.heap (hSet6 _ (by omega)), h.f.heap (hSet6 _ (by omega)), h.p.heap6 (hSet6 _ (by omega)), h.kk.set _, h.a.heap6 (hSet6 _ (by omega)) (by simp), o⟩
theorem PI.setA (h : PI w N9 N10 N12 N13 F px pl mo k ax W) (y : BitVec 128) : PI w N9 N10 N12 N13 F px pl mo k y ((W.setCell ⟨N13, 0, none⟩ (.int .u64 (hI y))).setCell ⟨N13, 1, none⟩ (.int .u64 (lI y))) := by
  have o := h.ord
  have e : ∀ z, z ≠ N13 → ((W.setCell ⟨N13, 0, none⟩ (.int .u64 (hI y))).setCell ⟨N13, 1, none⟩ (.int .u64 (lI y))).heap[z]? = W.heap[z]? := fun z hz => (hSet6 _ hz).trans (hSet6 _ hz)
  exact ⟨h.m.heap (e _ (by omega)), h.r.heap (e _ (by omega)), h.f.heap (e _ (by omega)), h.p.heap6 (e _ (by omega)), h.kk.heap (e _ (by omega)), h.a.setR y, o⟩
end
theorem kw_set {Z : Nat → Prop} {B b o : Nat} (hZ : ¬ Z b) (hB : b < B) (W : World) (u : Value) : KW Z B W (W.setCell ⟨b, o, none⟩ u) := ⟨by simp, fun z x hz hx => by
  have hne : ¬ z = b := by
    rintro rfl
    rcases hx with q | q
    · exact hZ q
    · omega
  rw [hSet6 u hne]; exact hz⟩
theorem kw_keeps {Z : Nat → Prop} {B C : Nat} {W W' : World} (h : KW Z B W W') (hc : ∀ z, C ≤ z → Z z) : KeepsFrom C W W' := ⟨h.1, fun k o h1 h2 _ => h.2 k o h2 (.inl (hc k h1))⟩
/-- A region whose store comes last. -/
structure RT (V : World) (upd : World → World) (S m : Nat) (f : Nat → Bool) (W : World) : Prop where
  all : f S = true → ∀ j, j < m → f j = true
  bel : f S = false → Below V.heap.size V W
  fin : f S = true → ∃ V0, Below V.heap.size V V0 ∧ W = upd V0
section
variable {V : World} {upd : World → World} {S m : Nat} {f f' : Nat → Bool} {W W' : World} {i : Nat}
theorem RT.start (h : Below V.heap.size V W) (hf : ∀ j, f j = false) : RT V upd S m f W := ⟨fun q => (by rw [hf] at q; cases q), fun _ => h, fun q => (by rw [hf] at q; cases q)⟩
theorem RT.now (k : RT V upd S m f W) (hi : i < m) (hun : f i = false) : f S = false := by
  cases h : f S with
  | false => rfl
  | true => have := k.all h i hi; rw [hun] at this; cases this
theorem RT.quiet (k : RT V upd S m f W) (hi : i ≠ S) (hs : f' i = true) (ho : ∀ j, j ≠ i → f' j = f j) : RT V upd S m f' W := by
  have e := ho S (Ne.symm hi)
  refine ⟨fun h j hj => ?_, fun h => k.bel (by rwa [← e]), fun h => k.fin (by rwa [← e])⟩
  by_cases q : j = i
  · rw [q]; exact hs
  · rw [ho j q]; exact k.all (by rwa [← e]) j hj
theorem RT.call (k : RT V upd S m f W) (hi : i < m) (hne : i ≠ S) (hun : f i = false) (hs : f' i = true) (ho : ∀ j, j ≠ i → f' j = f j) (hb : Below W.heap.size W W') : RT V upd S m f' W' := by
  have e := ho S (Ne.symm hne)
  have n := k.now hi hun
  exact ⟨fun h => (by rw [e, n] at h; cases h), fun _ => keepb hb (k.bel n), fun h => (by rw [e, n] at h; cases h)⟩
theorem RT.st (k : RT V upd S m f W) (hun : f S = false) (hs : f' S = true) (ho : ∀ j, j ≠ S → f' j = f j) (hall : ∀ j, j < m → f j = true) : RT V upd S m f' (upd W) := by
  refine ⟨fun _ j hj => ?_, fun h => (by rw [hs] at h; cases h), fun _ => ⟨W, k.bel hun, rfl⟩⟩
  by_cases q : j = S
  · rw [q]; exact hs
  · rw [ho j q]; exact hall j hj
end
set_option maxRecDepth 100000 in
set_option maxHeartbeats 16000000 in
theorem prefixParts_any (six : Bool) (v : BitVec 128) (n more : Int) (w : World) (hP : Pow w) :
    Calls Tryd.prog 4 #[.bool six, .agg #[.int .u64 (hI v), .int .u64 (lI v)], .int .i64 n, .int .i64 more] w fun e w' => e = .returned (.bool true) ∧ Below w.heap.size w w' := by
  have KK := fun W hb => known3_any W (hP.keep (W := w) (w' := W) hb)
  have KFam := fun w => family3_any six w
  have hfF := famZ_fam six
  have hF0 := fam_bd6 _ hfF
  have KSm := fun w => some_any (famZ six) v n w hF0.1 hF0.2
  have hrt := some_rt (famZ six) v n hF0.1
  have KW' := fun w => within3_any more 9 w (by decide) (by decide)
  have KW9 : ∀ w, Calls Tryd.prog 6 #[.int .i64 more, .int .i64 9] w fun e w' => e = .returned (.int .i64 (more % 9)) ∧ Below w.heap.size w w' := fun w => (KW' w).mono (fun e w' h => ⟨h.1, by rw [h.2]; exact Below.refl _ _⟩)
  have q1 := bl1 w (.cells #[.int .u64 (hI v), .int .u64 (lI v)] 24)
  have q2 := bl1 (w.alloc (.cells #[.int .u64 (hI v), .int .u64 (lI v)] 24)) (.cells #[.int .i64 more] 3)
  have q3 := bl1 ((w.alloc (.cells #[.int .u64 (hI v), .int .u64 (lI v)] 24)).alloc (.cells #[.int .i64 more] 3)) (.cells #[.bool false] 4)
  have hB0 := keepb q3 (keepb q2 q1)
  have HV0 := hidX (((at_new w w.heap.size v 24 rfl).below q2).below q3)
  have HM0 := hidX ((cl1_new (w.alloc (.cells #[.int .u64 (hI v), .int .u64 (lI v)] 24)) (w.heap.size + 1) (.int .i64 more) 3 (by simp)).below q3)
  have HR0 := hidX (cl1_new ((w.alloc (.cells #[.int .u64 (hI v), .int .u64 (lI v)] 24)).alloc (.cells #[.int .i64 more] 3)) (w.heap.size + 2) (.bool false) 4 (by simp))
  have HB0 := hidX hB0
  have KK0 := KK _ hB0
  clear KK q1 q2 q3 hB0 KW' hP
  revert hrt hfF hF0 KFam KSm
  generalize famZ six = F
  generalize someW F v n = px
  generalize n % (F + 1) = pl
  intro KFam hfF hF0 KSm hrt
  obtain ⟨mo, hmo⟩ : ∃ mo, mo = min (more % 9) (F - pl) := ⟨_, rfl⟩
  have m1 := Int.emod_nonneg more (b := 9) (by decide)
  have m2 := Int.emod_lt_of_pos more (b := 9) (by decide)
  have hmb : 0 ≤ mo ∧ mo ≤ 8 ∧ pl + mo ≤ F := by have := hrt.2.1; omega
  have HRT := hidX hrt
  have HFF := hidX hfF
  have hpl := hrt.1
  have hpF := hrt.2.1
  have hfp : IntKind.i64.wrap (F - pl) = F - pl := by rw [IntKind.wrap_i64]; omega
  have hpm : IntKind.i64.wrap (pl + mo) = pl + mo := by rw [IntKind.wrap_i64]; omega
  have hmin : IntKind.i64.wrap (F - 1) = F - 1 := by rw [IntKind.wrap_i64]; omega
  refine (callsIn_wide (n := 9)).1 ?_
  refine callsIn_of_wp_marks Tryd.func4 rfl trivial ?_ rfl
  simp only [Tryd.ntmps4, List.size_toArray, List.length_cons, List.length_nil, Nat.reduceAdd, Nat.reduceSub, Array.replicate_succ, Array.replicate_zero, List.push_toArray, List.append_toArray, List.nil_append, List.cons_append]
  refine wpIn_wide.2 ?_
  go_wp2_with fail
  refine KK0.mono ?_
  rintro e w1 ⟨rfl, hb⟩
  have HV1 := hidX (HV0.out.below hb)
  have HM1 := hidX (HM0.out.below hb)
  have HR1 := hidX (HR0.out.below hb)
  have HB1 := hidX (keepb hb HB0.out)
  clear KK0 hb HV0 HM0 HR0 HB0
  go_wp2_with fail
  refine (KFam _).mono ?_
  rintro e w1' ⟨rfl, rfl⟩
  have q4 := bl1 w1' (.cells #[.int .i64 F] 3)
  have HV2 := hidX (HV1.out.below q4)
  have HM2 := hidX (HM1.out.below q4)
  have HR2 := hidX (HR1.out.below q4)
  have HB2 := hidX (keepb q4 HB1.out)
  have HF2 := hidX (cl1_new w1' w1'.heap.size (.int .i64 F) 3 rfl)
  have hN9 : w.heap.size + 2 < w1'.heap.size := HR1.out.lt
  obtain ⟨v0, v1, -⟩ := HV2.out
  obtain ⟨f0, f1⟩ := HF2.out
  clear KFam q4 HV1 HM1 HR1 HB1
  go_wp2_with fail
  generalize w1'.heap.size = N9 at *
  refine (KSm _).mono ?_
  rintro e w2 ⟨rfl, hb⟩
  have q5 := bl1 w2 (.cells #[.int .u64 (hI px), .int .u64 (lI px), .int .i64 pl] 26)
  have HM3 := hidX ((HM2.out.below hb).below q5)
  have HR3 := hidX ((HR2.out.below hb).below q5)
  have HF3 := hidX ((HF2.out.below hb).below q5)
  have HB3 := hidX (keepb q5 (keepb hb HB2.out))
  have HP3 := hidX (atp_new w2 w2.heap.size px pl 26 rfl)
  have hN10 : N9 < w2.heap.size := (HF2.out.below hb).lt
  clear KSm hb q5 HV2 HM2 HR2 HB2 HF2 v0 v1 f0 f1
  go_wp2_with fail
  generalize w2.heap.size = N10 at *
  generalize w2.alloc (.cells #[.int .u64 (hI px), .int .u64 (lI px), .int .i64 pl] 26) = V5 at *
  have HC5 : Hid (∀ X, Below V5.heap.size V5 X → Cl1 X (w.heap.size + 1) (.int .i64 more) ∧ Cl1 X N9 (.int .i64 F) ∧ AtP X N10 px pl) := hidX (fun X hb => ⟨HM3.out.below hb, HF3.out.below hb, HP3.out.below hb⟩)
  refine gh_region (γ := Unit) (qpOk 8 8 (by decide) (fun N => by kernel_rfl) (by kernel_rfl) (by kernel_rfl) (by kernel_rfl) (by kernel_rfl)) (by kernel_rfl) (by kernel_rfl) [some 23, some 24, some 25, some 26, some 27, some 28, some 29, none] (fun g => [.int .i64 more, .int .i64 (more % 9), .int .i64 F, .pointer (some ⟨N10, 2, none⟩), .int .i64 pl, .int .i64 (F - pl), .int .i64 mo, undef]) (by kernel_rfl) (by simp) (fun lp g X => RT V5 (fun X => X.setCell ⟨w.heap.size + 1, 0, none⟩ (.int .i64 mo)) 7 7 (fun j => lp.getD j false) X) () (RT.start (below_drewN (Below.refl _ _) 1) (fun j => by simp [Array.getElem?_replicate]; split <;> rfl)) ?step ?fin
  case step =>
    intro q o lp g w' a' ho hsz hun hdep hR hS K Q' hK
    have hfl : ∀ j, j ≠ q → (lp.setIfInBounds q true).getD j false = lp.getD j false := fun j hj => by rw [Array.getD_eq_getD_getElem?, Array.getD_eq_getD_getElem?, Array.getElem?_setIfInBounds_ne (by omega)]
    have hq : q < 8 := (List.getElem?_eq_some_iff.mp ho).1
    have hft : (lp.setIfInBounds q true).getD q false = true := getD_set_same (by rw [hsz]; exact hq)
    match q, ho, hun, hdep, hK, hfl, hft, hq with
    | 0, ho, hun, hdep, hK, hfl, hft, _ =>
      obtain rfl := Option.some.inj ho
      have o7 : a'.tmps[7]? = some (.pointer (some ⟨w.heap.size + 1, 0, none⟩)) := (hS.old 7 (by simp)).trans rfl
      obtain ⟨⟨m0, m1⟩, ⟨f0, f1⟩, ⟨p0, p1, p2, -, -, -⟩⟩ := HC5.out w' (hR.bel (hR.now (i := 0) (by decide) hun))
      have hK' := hK g w' (fun _ _ _ _ _ _ => rfl) (hR.quiet (i := 0) (by decide) hft hfl) (.int .i64 more) (by simp only [valO, Option.bind_some]; simp only [putAll, Act.put, List.setIfInBounds_toArray, List.set_cons_zero, List.set_cons_succ]; rfl)
      clear hS hdep hR
      refine gh_quiet6 (v := .int .i64 more) ?_ ?_
      · (simp only [execOp, Act.eval, o7]; go_simp; first | done | (simp; done) | (simp [*]; done) | omega | (simp; omega))
      · exact hK'
    | 1, ho, hun, hdep, hK, hfl, hft, _ =>
      obtain rfl := Option.some.inj ho
      have d0 : lp.getD 0 false = true := hdep { on := 0, ground := .data } (by simp) rfl
      have e23 : a'.tmps[23]? = some (.int .i64 more) := (hS.don 0 _ 23 rfl d0 rfl).trans (by simp only [putAll, Act.put, List.setIfInBounds_toArray, List.set_cons_zero, List.set_cons_succ]; rfl)
      have KE := KW9 w'
      clear hdep
      unfold Oper.wp
      simp only [execOp, Act.eval]
      simp [go_sem, e23, Oper.upon]
      refine KE.mono ?_
      rintro e W2 ⟨rfl, hb2⟩
      exact hK g W2 (fun _ _ _ _ _ _ => rfl) (hR.call (i := 1) (by decide) (by decide) hun hft hfl hb2) _ (by simp only [valO, Option.bind_some]; simp only [putAll, Act.put, List.setIfInBounds_toArray, List.set_cons_zero, List.set_cons_succ]; rfl)
    | 2, ho, hun, hdep, hK, hfl, hft, _ =>
      obtain rfl := Option.some.inj ho
      have o9 : a'.tmps[9]? = some (.pointer (some ⟨N9, 0, none⟩)) := (hS.old 9 (by simp)).trans rfl
      obtain ⟨⟨m0, m1⟩, ⟨f0, f1⟩, ⟨p0, p1, p2, -, -, -⟩⟩ := HC5.out w' (hR.bel (hR.now (i := 2) (by decide) hun))
      have hK' := hK g w' (fun _ _ _ _ _ _ => rfl) (hR.quiet (i := 2) (by decide) hft hfl) (.int .i64 F) (by simp only [valO, Option.bind_some]; simp only [putAll, Act.put, List.setIfInBounds_toArray, List.set_cons_zero, List.set_cons_succ]; rfl)
      clear hS hdep hR
      refine gh_quiet6 (v := .int .i64 F) ?_ ?_
      · (simp only [execOp, Act.eval, o9]; go_simp; first | done | (simp; done) | (simp [*]; done) | omega | (simp; omega))
      · exact hK'
    | 3, ho, hun, hdep, hK, hfl, hft, _ =>
      obtain rfl := Option.some.inj ho
      have o10 : a'.tmps[10]? = some (.pointer (some ⟨N10, 0, none⟩)) := (hS.old 10 (by simp)).trans rfl
      obtain ⟨⟨m0, m1⟩, ⟨f0, f1⟩, ⟨p0, p1, p2, -, -, -⟩⟩ := HC5.out w' (hR.bel (hR.now (i := 3) (by decide) hun))
      have hK' := hK g w' (fun _ _ _ _ _ _ => rfl) (hR.quiet (i := 3) (by decide) hft hfl) (.pointer (some ⟨N10, 2, none⟩)) (by simp only [valO, Option.bind_some]; simp only [putAll, Act.put, List.setIfInBounds_toArray, List.set_cons_zero, List.set_cons_succ]; rfl)
      clear hS hdep hR
      refine gh_quiet6 (v := .pointer (some ⟨N10, 2, none⟩)) ?_ ?_
      · (simp only [execOp, Act.eval, o10]; go_simp; first | done | (simp; done) | (simp [*]; done) | omega | (simp; omega))
      · exact hK'
    | 4, ho, hun, hdep, hK, hfl, hft, _ =>
      obtain rfl := Option.some.inj ho
      have d3 : lp.getD 3 false = true := hdep { on := 3, ground := .data } (by simp) rfl
      have e26 : a'.tmps[26]? = some (.pointer (some ⟨N10, 2, none⟩)) := (hS.don 3 _ 26 rfl d3 rfl).trans (by simp only [putAll, Act.put, List.setIfInBounds_toArray, List.set_cons_zero, List.set_cons_succ]; rfl)
      obtain ⟨⟨m0, m1⟩, ⟨f0, f1⟩, ⟨p0, p1, p2, -, -, -⟩⟩ := HC5.out w' (hR.bel (hR.now (i := 4) (by decide) hun))
      have hK' := hK g w' (fun _ _ _ _ _ _ => rfl) (hR.quiet (i := 4) (by decide) hft hfl) (.int .i64 pl) (by simp only [valO, Option.bind_some]; simp only [putAll, Act.put, List.setIfInBounds_toArray, List.set_cons_zero, List.set_cons_succ]; rfl)
      clear hS hdep hR
      refine gh_quiet6 (v := .int .i64 pl) ?_ ?_
      · (simp only [execOp, Act.eval, e26]; go_simp; first | done | (simp; done) | (simp [*]; done) | omega | (simp; omega))
      · exact hK'
    | 5, ho, hun, hdep, hK, hfl, hft, _ =>
      obtain rfl := Option.some.inj ho
      have d2 : lp.getD 2 false = true := hdep { on := 2, ground := .data } (by simp) rfl
      have e25 : a'.tmps[25]? = some (.int .i64 F) := (hS.don 2 _ 25 rfl d2 rfl).trans (by simp only [putAll, Act.put, List.setIfInBounds_toArray, List.set_cons_zero, List.set_cons_succ]; rfl)
      have d4 : lp.getD 4 false = true := hdep { on := 4, ground := .data } (by simp) rfl
      have e27 : a'.tmps[27]? = some (.int .i64 pl) := (hS.don 4 _ 27 rfl d4 rfl).trans (by simp only [putAll, Act.put, List.setIfInBounds_toArray, List.set_cons_zero, List.set_cons_succ]; rfl)
      obtain ⟨⟨m0, m1⟩, ⟨f0, f1⟩, ⟨p0, p1, p2, -, -, -⟩⟩ := HC5.out w' (hR.bel (hR.now (i := 5) (by decide) hun))
      have hK' := hK g w' (fun _ _ _ _ _ _ => rfl) (hR.quiet (i := 5) (by decide) hft hfl) (.int .i64 (F - pl)) (by simp only [valO, Option.bind_some]; simp only [putAll, Act.put, List.setIfInBounds_toArray, List.set_cons_zero, List.set_cons_succ]; rfl)
      clear hS hdep hR
      refine gh_quiet6 (v := .int .i64 (F - pl)) ?_ ?_
      · (simp only [execOp, Act.eval, e25, e27]; go_simp; first | done | (simp; done) | (simp [*]; done) | omega | (simp; omega))
      · exact hK'
    | 6, ho, hun, hdep, hK, hfl, hft, _ =>
      obtain rfl := Option.some.inj ho
      have d1 : lp.getD 1 false = true := hdep { on := 1, ground := .data } (by simp) rfl
      have e24 : a'.tmps[24]? = some (.int .i64 (more % 9)) := (hS.don 1 _ 24 rfl d1 rfl).trans (by simp only [putAll, Act.put, List.setIfInBounds_toArray, List.set_cons_zero, List.set_cons_succ]; rfl)
      have d5 : lp.getD 5 false = true := hdep { on := 5, ground := .data } (by simp) rfl
      have e28 : a'.tmps[28]? = some (.int .i64 (F - pl)) := (hS.don 5 _ 28 rfl d5 rfl).trans (by simp only [putAll, Act.put, List.setIfInBounds_toArray, List.set_cons_zero, List.set_cons_succ]; rfl)
      obtain ⟨⟨m0, m1⟩, ⟨f0, f1⟩, ⟨p0, p1, p2, -, -, -⟩⟩ := HC5.out w' (hR.bel (hR.now (i := 6) (by decide) hun))
      have hK' := hK g w' (fun _ _ _ _ _ _ => rfl) (hR.quiet (i := 6) (by decide) hft hfl) (.int .i64 mo) (by simp only [valO, Option.bind_some]; simp only [putAll, Act.put, List.setIfInBounds_toArray, List.set_cons_zero, List.set_cons_succ]; rfl)
      clear hS hdep hR
      refine gh_quiet6 (v := .int .i64 mo) ?_ ?_
      · (simp only [execOp, Act.eval, e24, e28]; go_simp; first | done | (simp; done) | (simp [*]; done) | omega | (simp; omega))
      · exact hK'
    | 7, ho, hun, hdep, hK, hfl, hft, _ =>
      obtain rfl := Option.some.inj ho
      have d6 : lp.getD 6 false = true := hdep { on := 6, ground := .data } (by simp) rfl
      have e29 : a'.tmps[29]? = some (.int .i64 mo) := (hS.don 6 _ 29 rfl d6 rfl).trans (by simp only [putAll, Act.put, List.setIfInBounds_toArray, List.set_cons_zero, List.set_cons_succ]; rfl)
      have o7 : a'.tmps[7]? = some (.pointer (some ⟨w.heap.size + 1, 0, none⟩)) := (hS.old 7 (by simp)).trans rfl
      have hall : ∀ j, j < 7 → lp.getD j false = true := by
        intro j hj
        match j, hj with
        | 0, _ => exact hdep { on := 0, ground := .phase } (by simp) rfl
        | 1, _ => exact hdep { on := 1, ground := .phase } (by simp) rfl
        | 2, _ => exact hdep { on := 2, ground := .phase } (by simp) rfl
        | 3, _ => exact hdep { on := 3, ground := .phase } (by simp) rfl
        | 4, _ => exact hdep { on := 4, ground := .phase } (by simp) rfl
        | 5, _ => exact hdep { on := 5, ground := .phase } (by simp) rfl
        | 6, _ => exact hdep { on := 6, ground := .phase } (by simp) rfl
        | n + 7, h => exact absurd h (by omega)
      obtain ⟨⟨m0, m1⟩, -, -⟩ := HC5.out w' (hR.bel hun)
      have hK' := hK g _ (fun _ _ _ _ _ _ => rfl) (hR.st hun hft hfl hall) undef rfl
      clear hS hdep hR
      unfold Oper.wp
      simp [execOp, Act.eval, e29, o7, go_sem, m0, m1, Oper.upon]
      exact hK'
    | n + 8, ho, hun, hdep, hK, hfl, hft, hq => exact absurd hq (by omega)
  case fin =>
    intro g X1 hR
    obtain ⟨X0, hb0, hX1⟩ := hR.fin (by simp)
    simp only [putAll, Act.put, List.setIfInBounds_toArray, List.set_cons_zero, List.set_cons_succ]
    clear hR
    subst hX1
    clear hmo m1 m2
    have HM6 := hidX ((HM3.out.below hb0).set (.int .i64 mo))
    have HR6 := hidX ((HR3.out.below hb0).heap (W' := X0.setCell ⟨w.heap.size + 1, 0, none⟩ (.int .i64 mo)) (hSet6 _ (by omega)))
    have HF6 := hidX ((HF3.out.below hb0).heap (W' := X0.setCell ⟨w.heap.size + 1, 0, none⟩ (.int .i64 mo)) (hSet6 _ (by omega)))
    have HP6 := hidX ((HP3.out.below hb0).heap6 (W' := X0.setCell ⟨w.heap.size + 1, 0, none⟩ (.int .i64 mo)) (hSet6 _ (by omega)))
    have HB6 := hidX ((keepb hb0 HB3.out).setCell (p := ⟨w.heap.size + 1, 0, none⟩) (by simp) (.int .i64 mo))
    clear hb0 HM3 HR3 HF3 HP3 HB3 HC5 KW9
    revert HM6 HR6 HF6 HP6 HB6
    generalize X0.setCell ⟨w.heap.size + 1, 0, none⟩ (.int .i64 mo) = V6
    intro HM6 HR6 HF6 HP6 HB6
    refine wl_nil6 (P := Tryd.prog) (ops := #[]) ?_
    obtain ⟨m0, -⟩ := HM6.out
    obtain ⟨f0, -⟩ := HF6.out
    obtain ⟨p0, p1, p2, -, -, -⟩ := HP6.out
    go_wp2_with fail
    refine (psplit_any F px pl (pl + mo) _).mono ?_
    rintro e V7 ⟨rfl, hV7⟩
    have b1 := bl1 V6 (.cells #[.int .i64 F] 3)
    have b2 := bl1 (V6.alloc (.cells #[.int .i64 F] 3)) (.cells #[.int .u64 (hI px), .int .u64 (lI px), .int .i64 pl] 26)
    have b3 := bl1 ((V6.alloc (.cells #[.int .i64 F] 3)).alloc (.cells #[.int .u64 (hI px), .int .u64 (lI px), .int .i64 pl] 26)) (.cells #[.int .i64 (pl + mo)] 3)
    have b4 : Below V6.heap.size V6 V7 := by rw [hV7]; exact keepb b3 (keepb b2 b1)
    have HS7 : Hid (Cl1 V7 V6.heap.size (.int .i64 F) ∧ AtP V7 (V6.heap.size + 1) px pl ∧ Cl1 V7 (V6.heap.size + 2) (.int .i64 (pl + mo))) := hidX (by
      rw [hV7]
      exact ⟨((cl1_new V6 V6.heap.size (.int .i64 F) 3 rfl).below b2).below b3, (atp_new _ (V6.heap.size + 1) px pl 26 (by simp)).below b3, cl1_new _ (V6.heap.size + 2) (.int .i64 (pl + mo)) 3 (by simp)⟩)
    have hA6 : N10 < V6.heap.size := HP6.out.lt6
    have HM7 := hidX (HM6.out.below b4)
    have HR7 := hidX (HR6.out.below b4)
    have HF7 := hidX (HF6.out.below b4)
    have HP7 := hidX (HP6.out.below b4)
    have HB7 := hidX (keepb b4 HB6.out)
    clear b1 b2 b3 b4 hV7 HM6 HR6 HF6 HP6 HB6 m0 f0 p0 p1 p2
    generalize V6.heap.size = As at *
    have ENil := fun W => seqnil_run (.pointer (some ⟨As, 0, none⟩)) (.pointer (some ⟨As + 1, 0, none⟩)) (.pointer (some ⟨As + 2, 0, none⟩)) W
    have hA7 : As + 2 < V7.heap.size := HS7.out.2.2.lt
    have b5 := bl1 V7 (.cells #[.int .i64 0] 3)
    have HM8 := hidX (HM7.out.below b5)
    have HR8 := hidX (HR7.out.below b5)
    have HF8 := hidX (HF7.out.below b5)
    have HP8 := hidX (HP7.out.below b5)
    have HS8 := hidX (And.intro (HS7.out.1.below b5) (And.intro (HS7.out.2.1.below b5) (HS7.out.2.2.below b5)))
    have HB8 := hidX (keepb b5 HB7.out)
    have HK8 := hidX (cl1_new V7 V7.heap.size (.int .i64 0) 3 rfl)
    obtain ⟨p0, p1, p2, -, -, -⟩ := HP8.out
    clear b5 HM7 HR7 HF7 HP7 HB7 HS7
    go_wp2_with fail
    generalize V7.heap.size = N12 at *
    refine (pfirst_any px pl _).mono ?_
    rintro e V9 ⟨rfl, hb⟩
    have b6 := bl1 V9 (.cells #[.int .u64 (hI px), .int .u64 (lI px)] 24)
    have HM9 := hidX ((HM8.out.below hb).below b6)
    have HR9 := hidX ((HR8.out.below hb).below b6)
    have HF9 := hidX ((HF8.out.below hb).below b6)
    have HP9 := hidX ((HP8.out.below hb).below b6)
    have HK9 := hidX ((HK8.out.below hb).below b6)
    have HS9 := hidX (And.intro ((HS8.out.1.below hb).below b6) (And.intro ((HS8.out.2.1.below hb).below b6) ((HS8.out.2.2.below hb).below b6)))
    have HB9 := hidX (keepb b6 (keepb hb HB8.out))
    have HA9 := hidX (at_new V9 V9.heap.size px 24 rfl)
    have hN13 : N12 < V9.heap.size := (HK8.out.below hb).lt
    clear hb b6 HM8 HR8 HF8 HP8 HS8 HB8 HK8 p0 p1 p2
    go_wp2_with fail
    generalize V9.heap.size = N13 at *
    generalize V9.alloc (.cells #[.int .u64 (hI px), .int .u64 (lI px)] 24) = Wl at *
    have hWl : N13 < Wl.heap.size := HA9.out.2.2.2.2
    have hck : checkE F px pl = 0 := check_of_rt HFF.out HRT.out
    have hp1 : pl ≤ pl + mo := by omega
    have hp2 : pl + mo ≤ F := hmb.2.2
    have hpw : (pl + mo - pl).toNat = mo.toNat := by congr 1; omega
    have HAT := hidX (fun pre x h => sp_at F HFF.out px pl (pl + mo) HRT.out hp1 hp2 hck pre x h)
    have HLen := hidX (sp_len F px pl (pl + mo) hp1 hp2 hck)
    rw [hpw] at HLen
    simp only [hpw] at HAT
    obtain ⟨q, hqq⟩ : ∃ q, q = 2 ^ mo.toNat := ⟨_, rfl⟩
    have hqb : 0 < q ∧ q ≤ 256 := by
      rw [hqq]
      refine ⟨Nat.pow_pos (by decide), ?_⟩
      have : 2 ^ mo.toNat ≤ 2 ^ 8 := Nat.pow_le_pow_right (by decide) (by omega)
      simpa using this
    have hsh : IntKind.i64.wrap (2 ^ mo.toNat) = (q : Int) := by
      have e2 : (2 : Int) ^ mo.toNat = (q : Int) := by rw [hqq]; push_cast; rfl
      rw [e2, IntKind.wrap_i64]; omega
    have HWI := hidX (fun k hk => xk_within F HFF.out px pl (pl + mo) HRT.out hp1 hp2 k hk)
    have HNX := hidX (fun k hk => xk_next F HFF.out px pl (pl + mo) HRT.out hp1 hp2 k hk)
    have HLA := hidX (fun k hk => xk_last F HFF.out px pl (pl + mo) HRT.out hp1 hp2 k hk)
    simp only [hpw] at HWI HNX HLA
    rw [← hqq] at HLen HAT HWI HNX HLA
    have h00 : xk px (pl + mo) 0 = px := by unfold xk; simp
    have HI0 : Hid (PI w N9 N10 N12 N13 F px pl mo 0 px Wl) := hidX ⟨HM9.out, HR9.out, HF9.out, HP9.out, HK9.out, HA9.out, by omega⟩
    have HSM : Hid (SpM (fun z => z = As ∨ z = As + 1 ∨ z = As + 2) (Wl.heap.size + 2) As (As + 1) (As + 2) F px pl (pl + mo) Wl) := hidX ⟨HS9.out.1.1, HS9.out.2.1, HS9.out.2.2.1, .inl (.inl rfl), .inl (.inr (.inl rfl)), .inl (.inr (.inr rfl))⟩
    have hwW : w.heap.size ≤ Wl.heap.size := by omega
    clear HM9 HR9 HF9 HP9 HK9 HA9 HS9 hpw hck ENil
    refine (wpIn_wide (n := 9)).1 ?_
    refine rangeX 9 (by decide) (gf := 22) (lb := #[.pointer (some ⟨As, 0, none⟩), .pointer (some ⟨As + 1, 0, none⟩), .pointer (some ⟨As + 2, 0, none⟩)]) rfl (enters_of Tryd.func22 (by kernel_rfl) rfl)
      (split1_any (9 - 1) (fun z => z = As ∨ z = As + 1 ∨ z = As + 2) (Wl.heap.size + 2) As (As + 1) (As + 2) F px pl (pl + mo) Wl HSM.out) (Nat.le_refl _) (fun h k => h.trans k) (fun V o o' h1 h2 => kw_put (by rintro (q | q | q) <;> omega) (by omega) V o o' h1 h2) (Below.refl _ _) (fun _ => rfl)
      (fun pre V => PI w N9 N10 N12 N13 F px pl mo (pre.length : Int) (xk px (pl + mo) (min pre.length (q - 1))) V ∧ Below w.heap.size w V)
      (fun c pre V => False)
      (OwnFrom.and (Own.from (fun s A B row hs hg hr => hs.kept hg hr) _) (ownFrom_below (Nat.le_refl _) hwW))
      (fun c s A B row hs hg hr => hs)
      ⟨by simp only [List.length_nil, Nat.zero_min, h00]; exact HI0.out, HB9.out⟩
      (fun x a' V => ∃ Bx, N13 < Bx ∧ AtP V Bx x.1 x.2 ∧ a' = { tmps := #[.bool six, .agg #[.int .u64 (hI v), .int .u64 (lI v)], .int .i64 n, .int .i64 more, undef, .pointer (some ⟨w.heap.size, 0, none⟩), undef, .pointer (some ⟨w.heap.size + 1, 0, none⟩), .pointer (some ⟨w.heap.size + 1 + 1, 0, none⟩), .pointer (some ⟨N9, 0, none⟩), .pointer (some ⟨N10, 0, none⟩), .func (.func 22) #[] #[.pointer (some ⟨As, 0, none⟩), .pointer (some ⟨As + 1, 0, none⟩), .pointer (some ⟨As + 2, 0, none⟩)], .pointer (some ⟨N12, 0, none⟩), .pointer (some ⟨N13, 0, none⟩), .pointer (some ⟨Bx, 0, none⟩), .bool true, .bool false, .bool six, .int .i64 F, .int .i64 F, .agg #[.int .u64 (hI v), .int .u64 (lI v)], .int .i64 n, .agg #[.int .u64 (hI px), .int .u64 (lI px), .int .i64 pl], .int .i64 more, .int .i64 (more % 9), .int .i64 F, .pointer (some ⟨N10, 2, none⟩), .int .i64 pl, .int .i64 (F - pl), .int .i64 mo, .int .i64 F, .agg #[.int .u64 (hI px), .int .u64 (lI px), .int .i64 pl], .pointer (some ⟨N10, 2, none⟩), .int .i64 pl, .int .i64 mo, .int .i64 (pl + mo), .func (.func 22) #[] #[.pointer (some ⟨As, 0, none⟩), .pointer (some ⟨As + 1, 0, none⟩), .pointer (some ⟨As + 2, 0, none⟩)], .func (.func 22) #[] #[.pointer (some ⟨As, 0, none⟩), .pointer (some ⟨As + 1, 0, none⟩), .pointer (some ⟨As + 2, 0, none⟩)], .bool false, .agg #[.int .u64 (hI px), .int .u64 (lI px), .int .i64 pl], .agg #[.int .u64 (hI px), .int .u64 (lI px)], .func (.func 22) #[] #[.pointer (some ⟨As, 0, none⟩), .pointer (some ⟨As + 1, 0, none⟩), .pointer (some ⟨As + 2, 0, none⟩)], .agg #[.int .u64 (hI x.1), .int .u64 (lI x.1), .int .i64 x.2], undef, undef, undef, undef, undef, undef, undef, undef, undef, undef, undef, undef, undef, undef, undef, undef, undef, undef, undef, undef, undef, undef, undef, undef, undef, undef, undef, undef, undef, undef, undef, undef, undef, undef, undef, undef, undef, undef, undef, undef, undef, undef, undef, undef, undef, undef, undef, undef, undef, undef, undef, undef, undef], defers := [] })
      (fun x a' s A B row hs hg hr => by
        obtain ⟨Bx, h1, h2, h3⟩ := hs
        exact ⟨Bx, h1, h2.kept6 hg (fun r e => (hr r e).2), h3⟩) ?assign ?body ?done ?stop
    case assign =>
      rintro lo pre x V K ⟨hi1, hi2⟩ hK
      have bq := bl1 V (.cells #[.int .u64 (hI x.1), .int .u64 (lI x.1), .int .i64 x.2] 26)
      have hlt : N13 < V.heap.size := hi1.a.2.2.2.2
      have HK := hidX (hK ({ tmps := #[.bool six, .agg #[.int .u64 (hI v), .int .u64 (lI v)], .int .i64 n, .int .i64 more, undef, .pointer (some ⟨w.heap.size, 0, none⟩), undef, .pointer (some ⟨w.heap.size + 1, 0, none⟩), .pointer (some ⟨w.heap.size + 1 + 1, 0, none⟩), .pointer (some ⟨N9, 0, none⟩), .pointer (some ⟨N10, 0, none⟩), .func (.func 22) #[] #[.pointer (some ⟨As, 0, none⟩), .pointer (some ⟨As + 1, 0, none⟩), .pointer (some ⟨As + 2, 0, none⟩)], .pointer (some ⟨N12, 0, none⟩), .pointer (some ⟨N13, 0, none⟩), .pointer (some ⟨V.heap.size, 0, none⟩), .bool true, .bool false, .bool six, .int .i64 F, .int .i64 F, .agg #[.int .u64 (hI v), .int .u64 (lI v)], .int .i64 n, .agg #[.int .u64 (hI px), .int .u64 (lI px), .int .i64 pl], .int .i64 more, .int .i64 (more % 9), .int .i64 F, .pointer (some ⟨N10, 2, none⟩), .int .i64 pl, .int .i64 (F - pl), .int .i64 mo, .int .i64 F, .agg #[.int .u64 (hI px), .int .u64 (lI px), .int .i64 pl], .pointer (some ⟨N10, 2, none⟩), .int .i64 pl, .int .i64 mo, .int .i64 (pl + mo), .func (.func 22) #[] #[.pointer (some ⟨As, 0, none⟩), .pointer (some ⟨As + 1, 0, none⟩), .pointer (some ⟨As + 2, 0, none⟩)], .func (.func 22) #[] #[.pointer (some ⟨As, 0, none⟩), .pointer (some ⟨As + 1, 0, none⟩), .pointer (some ⟨As + 2, 0, none⟩)], .bool false, .agg #[.int .u64 (hI px), .int .u64 (lI px), .int .i64 pl], .agg #[.int .u64 (hI px), .int .u64 (lI px)], .func (.func 22) #[] #[.pointer (some ⟨As, 0, none⟩), .pointer (some ⟨As + 1, 0, none⟩), .pointer (some ⟨As + 2, 0, none⟩)], .agg #[.int .u64 (hI x.1), .int .u64 (lI x.1), .int .i64 x.2], undef, undef, undef, undef, undef, undef, undef, undef, undef, undef, undef, undef, undef, undef, undef, undef, undef, undef, undef, undef, undef, undef, undef, undef, undef, undef, undef, undef, undef, undef, undef, undef, undef, undef, undef, undef, undef, undef, undef, undef, undef, undef, undef, undef, undef, undef, undef, undef, undef, undef, undef, undef, undef], defers := [] }) (V.alloc (.cells #[.int .u64 (hI x.1), .int .u64 (lI x.1), .int .i64 x.2] 26)) ((KeepsOthers.alloc _ _).from _) (kw_below bq) ⟨hi1.below bq, keepb bq hi2⟩ ⟨V.heap.size, hlt, atp_new V V.heap.size x.1 x.2 26 rfl, rfl⟩)
      clear hK bq hi1 hi2 hlt
      unfold encP
      simp only [List.zip_toArray, List.zip_cons_cons, List.zip_nil_left, List.zip_nil_right, List.foldl_toArray, List.foldl_cons, List.foldl_nil, List.setIfInBounds_toArray, List.set_cons_zero, List.set_cons_succ, Array.zip]
      gi_wp2
      exact HK.out
    case body =>
      rintro lo pre x a' V hl ⟨r, hr⟩ ⟨hi1, hi2⟩ ⟨Bx, hBx, hx, rfl⟩ hlt
      clear hr hl
      obtain ⟨hkq, rfl⟩ := HAT.out pre x hlt
      have hmk : min pre.length (q - 1) = pre.length := by omega
      rw [hmk] at hi1
      have HWi := HWI.out pre.length hkq
      have hF1 : 0 ≤ F - 1 ∧ F - 1 ≤ 127 := by rcases fam_ways F HFF.out with e | e <;> rw [e] <;> decide
      have HEnd : Hid (∀ (ay : BitVec 128) (U : World), PI w N9 N10 N12 N13 F px pl mo ((pre.length : Int) + 1) ay U → Below w.heap.size w U → KW (fun z => z ≠ N12 ∧ z ≠ N13) (Wl.heap.size + 2) V U → ((pre.length : Int) + 1 < q → ay = lastW F (xk px (pl + mo) pre.length) (pl + mo) + putW 0#128 (F - 1) 1) → (¬ (pre.length : Int) + 1 < q → ay = xk px (pl + mo) pre.length) → KeepsFrom Wl.heap.size V U ∧ KW (fun z => z = As ∨ z = As + 1 ∨ z = As + 2) (Wl.heap.size + 2) V U ∧ PI w N9 N10 N12 N13 F px pl mo (((pre ++ [(xk px (pl + mo) pre.length, pl + mo)]).length : Nat) : Int) (xk px (pl + mo) (min (pre ++ [(xk px (pl + mo) pre.length, pl + mo)]).length (q - 1))) U ∧ Below w.heap.size w U) := hidX (fun ay U h1 h2 h3 h4 h5 => by
        refine ⟨kw_keeps h3 (fun z hz => ⟨by omega, by omega⟩), kw_sub h3 (fun z hz => .inl (by rcases hz with (q | q | q) | q <;> exact ⟨by omega, by omega⟩)), ?_, h2⟩
        rw [List.length_append, List.length_singleton]
        have e : ay = xk px (pl + mo) (min (pre.length + 1) (q - 1)) := by
          by_cases c : pre.length + 1 < q
          · rw [h4 (by omega), HNX.out pre.length c]; congr 1; omega
          · rw [h5 (by omega)]; congr 1; omega
        rw [← e]
        push_cast
        exact h1)
      have HLq : Hid (¬ (pre.length : Int) + 1 < q → lastW F (xk px (pl + mo) pre.length) (pl + mo) = lastW F px pl) := hidX (fun h => HLA.out pre.length (by omega))
      have KFi := fun w => pfirst_any (xk px (pl + mo) pre.length) (pl + mo) w
      have KWi := fun w => pwithin_any (xk px (pl + mo) pre.length) (pl + mo) px pl w
      rw [HWi] at KWi
      have KLx := fun w => plast_any F (xk px (pl + mo) pre.length) (pl + mo) w
      have KLp := fun w => plast_any F px pl w
      have KPu := fun w => put_any 0#128 (F - 1) 1 w (.inr rfl) hF1.1 hF1.2
      simp only [hI_zero, lI_zero] at KPu
      have KAd := fun w => radd_any (lastW F (xk px (pl + mo) pre.length) (pl + mo)) (putW 0#128 (F - 1) 1) w
      have hkz : (pre.length : Int) < q := by omega
      have hk0 : 0 ≤ (pre.length : Int) := by omega
      have hqz : (q : Int) ≤ 256 := by omega
      clear hmk hkq HWi hF1 hlt h00 hqq hqb
      have hxx : AtP V Bx (xk px (pl + mo) pre.length) (pl + mo) := hx
      clear hx
      revert hi1 HEnd HLq KFi KWi KLx KAd hkz hk0 hxx
      generalize xk px (pl + mo) pre.length = xx
      generalize lastW F xx (pl + mo) = la
      generalize (pre.length : Int) = kz
      intro hi1 HEnd HLq KFi KWi KLx KAd hkz hk0 hxx
      revert KPu KAd HEnd
      generalize putW 0#128 (F - 1) 1 = st
      intro KPu HEnd KAd
      revert KLp HLq
      generalize lastW F px pl = lq
      intro KLp HLq
      revert hsh hkz hqz HEnd HLq
      generalize (q : Int) = qz
      intro hsh hqz hkz HEnd HLq
      have hk1 : IntKind.i64.wrap (kz + 1) = kz + 1 := by rw [IntKind.wrap_i64]; omega
      have hge : ¬ qz ≤ kz := by omega
      have HI1 := hidX hi1
      have HB1 := hidX hi2
      have HD : Hid (∀ X, Below V.heap.size V X → PI w N9 N10 N12 N13 F px pl mo kz xx X ∧ AtP X Bx xx (pl + mo)) := hidX (fun X hb => ⟨hi1.below hb, hxx.below hb⟩)
      have HX := hidX hxx
      clear hi1 hi2 hxx HAT HWI HNX HLA HLen HI0 HSM HB9
      gi_wp2_with fail
      refine q_regionR (C := fun X => Below V.heap.size V X) (by rintro ⟨_, _, h⟩; exact h) (by kernel_rfl) (by kernel_rfl) (by kernel_rfl) (below_drewN (Below.refl _ _) 1) ?_
      refine qw_run (v := .int .i64 kz) (by rfl) ?_ ?_
      · (intro w1 hC; obtain ⟨⟨⟨m0, -⟩, -, ⟨f0, -⟩, ⟨p0, p1, p2, -, -, -⟩, ⟨k0, -⟩, ⟨a0, a1, -⟩, -⟩, ⟨x0, x1, x2, -, -, -⟩⟩ := HD.out w1 hC; go_simp; first | done | (simp; done) | (simp [*]; done) | omega | (simp; omega) | (rw [IntKind.wrap_i64]; omega) | (intro hx; omega) | rfl)
      simp only [Act.put, List.setIfInBounds_toArray, List.set_cons_zero, List.set_cons_succ]
      refine qw_run (v := .int .i64 mo) (by rfl) ?_ ?_
      · (intro w1 hC; obtain ⟨⟨⟨m0, -⟩, -, ⟨f0, -⟩, ⟨p0, p1, p2, -, -, -⟩, ⟨k0, -⟩, ⟨a0, a1, -⟩, -⟩, ⟨x0, x1, x2, -, -, -⟩⟩ := HD.out w1 hC; go_simp; first | done | (simp; done) | (simp [*]; done) | omega | (simp; omega) | (rw [IntKind.wrap_i64]; omega) | (intro hx; omega) | rfl)
      simp only [Act.put, List.setIfInBounds_toArray, List.set_cons_zero, List.set_cons_succ]
      refine qw_run (v := .int .i64 qz) (by rfl) ?_ ?_
      · (intro w1 hC; obtain ⟨⟨⟨m0, -⟩, -, ⟨f0, -⟩, ⟨p0, p1, p2, -, -, -⟩, ⟨k0, -⟩, ⟨a0, a1, -⟩, -⟩, ⟨x0, x1, x2, -, -, -⟩⟩ := HD.out w1 hC; go_simp; first | done | (simp; done) | (simp [*]; done) | omega | (simp; omega) | (rw [IntKind.wrap_i64]; omega) | (intro hx; omega) | rfl)
      simp only [Act.put, List.setIfInBounds_toArray, List.set_cons_zero, List.set_cons_succ]
      refine qw_run (v := .bool false) (by rfl) ?_ ?_
      · (intro w1 hC; obtain ⟨⟨⟨m0, -⟩, -, ⟨f0, -⟩, ⟨p0, p1, p2, -, -, -⟩, ⟨k0, -⟩, ⟨a0, a1, -⟩, -⟩, ⟨x0, x1, x2, -, -, -⟩⟩ := HD.out w1 hC; go_simp; first | done | (simp; done) | (simp [*]; done) | omega | (simp; omega) | (rw [IntKind.wrap_i64]; omega) | (intro hx; omega) | rfl)
      simp only [Act.put, List.setIfInBounds_toArray, List.set_cons_zero, List.set_cons_succ]
      refine qw_run (v := .bool false) (by rfl) ?_ ?_
      · (intro w1 hC; obtain ⟨⟨⟨m0, -⟩, -, ⟨f0, -⟩, ⟨p0, p1, p2, -, -, -⟩, ⟨k0, -⟩, ⟨a0, a1, -⟩, -⟩, ⟨x0, x1, x2, -, -, -⟩⟩ := HD.out w1 hC; go_simp; first | done | (simp; done) | (simp [*]; done) | omega | (simp; omega) | (rw [IntKind.wrap_i64]; omega) | (intro hx; omega) | rfl)
      simp only [Act.put, List.setIfInBounds_toArray, List.set_cons_zero, List.set_cons_succ]
      refine qw_run (v := .pointer (some ⟨Bx, 2, none⟩)) (by rfl) ?_ ?_
      · (intro w1 hC; obtain ⟨⟨⟨m0, -⟩, -, ⟨f0, -⟩, ⟨p0, p1, p2, -, -, -⟩, ⟨k0, -⟩, ⟨a0, a1, -⟩, -⟩, ⟨x0, x1, x2, -, -, -⟩⟩ := HD.out w1 hC; go_simp; first | done | (simp; done) | (simp [*]; done) | omega | (simp; omega) | (rw [IntKind.wrap_i64]; omega) | (intro hx; omega) | rfl)
      simp only [Act.put, List.setIfInBounds_toArray, List.set_cons_zero, List.set_cons_succ]
      refine qw_run (v := .int .i64 (pl + mo)) (by rfl) ?_ ?_
      · (intro w1 hC; obtain ⟨⟨⟨m0, -⟩, -, ⟨f0, -⟩, ⟨p0, p1, p2, -, -, -⟩, ⟨k0, -⟩, ⟨a0, a1, -⟩, -⟩, ⟨x0, x1, x2, -, -, -⟩⟩ := HD.out w1 hC; go_simp; first | done | (simp; done) | (simp [*]; done) | omega | (simp; omega) | (rw [IntKind.wrap_i64]; omega) | (intro hx; omega) | rfl)
      simp only [Act.put, List.setIfInBounds_toArray, List.set_cons_zero, List.set_cons_succ]
      refine qw_run (v := .pointer (some ⟨N10, 2, none⟩)) (by rfl) ?_ ?_
      · (intro w1 hC; obtain ⟨⟨⟨m0, -⟩, -, ⟨f0, -⟩, ⟨p0, p1, p2, -, -, -⟩, ⟨k0, -⟩, ⟨a0, a1, -⟩, -⟩, ⟨x0, x1, x2, -, -, -⟩⟩ := HD.out w1 hC; go_simp; first | done | (simp; done) | (simp [*]; done) | omega | (simp; omega) | (rw [IntKind.wrap_i64]; omega) | (intro hx; omega) | rfl)
      simp only [Act.put, List.setIfInBounds_toArray, List.set_cons_zero, List.set_cons_succ]
      refine qw_run (v := .int .i64 pl) (by rfl) ?_ ?_
      · (intro w1 hC; obtain ⟨⟨⟨m0, -⟩, -, ⟨f0, -⟩, ⟨p0, p1, p2, -, -, -⟩, ⟨k0, -⟩, ⟨a0, a1, -⟩, -⟩, ⟨x0, x1, x2, -, -, -⟩⟩ := HD.out w1 hC; go_simp; first | done | (simp; done) | (simp [*]; done) | omega | (simp; omega) | (rw [IntKind.wrap_i64]; omega) | (intro hx; omega) | rfl)
      simp only [Act.put, List.setIfInBounds_toArray, List.set_cons_zero, List.set_cons_succ]
      refine qw_run (v := .int .i64 mo) (by rfl) ?_ ?_
      · (intro w1 hC; obtain ⟨⟨⟨m0, -⟩, -, ⟨f0, -⟩, ⟨p0, p1, p2, -, -, -⟩, ⟨k0, -⟩, ⟨a0, a1, -⟩, -⟩, ⟨x0, x1, x2, -, -, -⟩⟩ := HD.out w1 hC; go_simp; first | done | (simp; done) | (simp [*]; done) | omega | (simp; omega) | (rw [IntKind.wrap_i64]; omega) | (intro hx; omega) | rfl)
      simp only [Act.put, List.setIfInBounds_toArray, List.set_cons_zero, List.set_cons_succ]
      refine qw_run (v := .int .i64 (pl + mo)) (by rfl) ?_ ?_
      · (intro w1 hC; obtain ⟨⟨⟨m0, -⟩, -, ⟨f0, -⟩, ⟨p0, p1, p2, -, -, -⟩, ⟨k0, -⟩, ⟨a0, a1, -⟩, -⟩, ⟨x0, x1, x2, -, -, -⟩⟩ := HD.out w1 hC; go_simp; first | done | (simp; done) | (simp [*]; done) | omega | (simp; omega) | (rw [IntKind.wrap_i64]; omega) | (intro hx; omega) | rfl)
      simp only [Act.put, List.setIfInBounds_toArray, List.set_cons_zero, List.set_cons_succ]
      refine qw_run (v := .bool false) (by rfl) ?_ ?_
      · (intro w1 hC; obtain ⟨⟨⟨m0, -⟩, -, ⟨f0, -⟩, ⟨p0, p1, p2, -, -, -⟩, ⟨k0, -⟩, ⟨a0, a1, -⟩, -⟩, ⟨x0, x1, x2, -, -, -⟩⟩ := HD.out w1 hC; go_simp; first | done | (simp; done) | (simp [*]; done) | omega | (simp; omega) | (rw [IntKind.wrap_i64]; omega) | (intro hx; omega) | rfl)
      simp only [Act.put, List.setIfInBounds_toArray, List.set_cons_zero, List.set_cons_succ]
      refine qw_run (v := .bool false) (by rfl) ?_ ?_
      · (intro w1 hC; obtain ⟨⟨⟨m0, -⟩, -, ⟨f0, -⟩, ⟨p0, p1, p2, -, -, -⟩, ⟨k0, -⟩, ⟨a0, a1, -⟩, -⟩, ⟨x0, x1, x2, -, -, -⟩⟩ := HD.out w1 hC; go_simp; first | done | (simp; done) | (simp [*]; done) | omega | (simp; omega) | (rw [IntKind.wrap_i64]; omega) | (intro hx; omega) | rfl)
      simp only [Act.put, List.setIfInBounds_toArray, List.set_cons_zero, List.set_cons_succ]
      refine qw_run (v := .bool false) (by rfl) ?_ ?_
      · (intro w1 hC; obtain ⟨⟨⟨m0, -⟩, -, ⟨f0, -⟩, ⟨p0, p1, p2, -, -, -⟩, ⟨k0, -⟩, ⟨a0, a1, -⟩, -⟩, ⟨x0, x1, x2, -, -, -⟩⟩ := HD.out w1 hC; go_simp; first | done | (simp; done) | (simp [*]; done) | omega | (simp; omega) | (rw [IntKind.wrap_i64]; omega) | (intro hx; omega) | rfl)
      simp only [Act.put, List.setIfInBounds_toArray, List.set_cons_zero, List.set_cons_succ]
      refine qw_run (v := .agg #[.int .u64 (hI xx), .int .u64 (lI xx), .int .i64 (pl + mo)]) (by rfl) ?_ ?_
      · (intro w1 hC; obtain ⟨⟨⟨m0, -⟩, -, ⟨f0, -⟩, ⟨p0, p1, p2, -, -, -⟩, ⟨k0, -⟩, ⟨a0, a1, -⟩, -⟩, ⟨x0, x1, x2, -, -, -⟩⟩ := HD.out w1 hC; go_simp; first | done | (simp; done) | (simp [*]; done) | omega | (simp; omega) | (rw [IntKind.wrap_i64]; omega) | (intro hx; omega) | rfl)
      simp only [Act.put, List.setIfInBounds_toArray, List.set_cons_zero, List.set_cons_succ]
      refine qw_call (v := .agg #[.int .u64 (hI xx), .int .u64 (lI xx)]) (f := 11) (args := #[.agg #[.int .u64 (hI xx), .int .u64 (lI xx), .int .i64 (pl + mo)]]) (by rfl) ?_ ?_ ?_
      · (intro w1 hC; clear hC; go_simp)
      · exact fun w1 hC => (KFi w1).mono fun e w' ⟨he, hb⟩ => ⟨he, keepb hb hC⟩
      simp only [Act.put, List.setIfInBounds_toArray, List.set_cons_zero, List.set_cons_succ]
      refine qw_run (v := .agg #[.int .u64 (hI xx), .int .u64 (lI xx)]) (by rfl) ?_ ?_
      · (intro w1 hC; obtain ⟨⟨⟨m0, -⟩, -, ⟨f0, -⟩, ⟨p0, p1, p2, -, -, -⟩, ⟨k0, -⟩, ⟨a0, a1, -⟩, -⟩, ⟨x0, x1, x2, -, -, -⟩⟩ := HD.out w1 hC; go_simp; first | done | (simp; done) | (simp [*]; done) | omega | (simp; omega) | (rw [IntKind.wrap_i64]; omega) | (intro hx; omega) | rfl)
      simp only [Act.put, List.setIfInBounds_toArray, List.set_cons_zero, List.set_cons_succ]
      refine qw_run (v := .bool false) (by rfl) ?_ ?_
      · (intro w1 hC; obtain ⟨⟨⟨m0, -⟩, -, ⟨f0, -⟩, ⟨p0, p1, p2, -, -, -⟩, ⟨k0, -⟩, ⟨a0, a1, -⟩, -⟩, ⟨x0, x1, x2, -, -, -⟩⟩ := HD.out w1 hC; go_simp; first | done | (simp; done) | (simp [*]; done) | omega | (simp; omega) | (rw [IntKind.wrap_i64]; omega) | (intro hx; omega) | rfl)
      simp only [Act.put, List.setIfInBounds_toArray, List.set_cons_zero, List.set_cons_succ]
      refine qw_run (v := .bool false) (by rfl) ?_ ?_
      · (intro w1 hC; obtain ⟨⟨⟨m0, -⟩, -, ⟨f0, -⟩, ⟨p0, p1, p2, -, -, -⟩, ⟨k0, -⟩, ⟨a0, a1, -⟩, -⟩, ⟨x0, x1, x2, -, -, -⟩⟩ := HD.out w1 hC; go_simp; first | done | (simp; done) | (simp [*]; done) | omega | (simp; omega) | (rw [IntKind.wrap_i64]; omega) | (intro hx; omega) | rfl)
      simp only [Act.put, List.setIfInBounds_toArray, List.set_cons_zero, List.set_cons_succ]
      refine qw_run (v := .bool false) (by rfl) ?_ ?_
      · (intro w1 hC; obtain ⟨⟨⟨m0, -⟩, -, ⟨f0, -⟩, ⟨p0, p1, p2, -, -, -⟩, ⟨k0, -⟩, ⟨a0, a1, -⟩, -⟩, ⟨x0, x1, x2, -, -, -⟩⟩ := HD.out w1 hC; go_simp; first | done | (simp; done) | (simp [*]; done) | omega | (simp; omega) | (rw [IntKind.wrap_i64]; omega) | (intro hx; omega) | rfl)
      simp only [Act.put, List.setIfInBounds_toArray, List.set_cons_zero, List.set_cons_succ]
      refine qw_run (v := .agg #[.int .u64 (hI xx), .int .u64 (lI xx), .int .i64 (pl + mo)]) (by rfl) ?_ ?_
      · (intro w1 hC; obtain ⟨⟨⟨m0, -⟩, -, ⟨f0, -⟩, ⟨p0, p1, p2, -, -, -⟩, ⟨k0, -⟩, ⟨a0, a1, -⟩, -⟩, ⟨x0, x1, x2, -, -, -⟩⟩ := HD.out w1 hC; go_simp; first | done | (simp; done) | (simp [*]; done) | omega | (simp; omega) | (rw [IntKind.wrap_i64]; omega) | (intro hx; omega) | rfl)
      simp only [Act.put, List.setIfInBounds_toArray, List.set_cons_zero, List.set_cons_succ]
      refine qw_run (v := .agg #[.int .u64 (hI px), .int .u64 (lI px), .int .i64 pl]) (by rfl) ?_ ?_
      · (intro w1 hC; obtain ⟨⟨⟨m0, -⟩, -, ⟨f0, -⟩, ⟨p0, p1, p2, -, -, -⟩, ⟨k0, -⟩, ⟨a0, a1, -⟩, -⟩, ⟨x0, x1, x2, -, -, -⟩⟩ := HD.out w1 hC; go_simp; first | done | (simp; done) | (simp [*]; done) | omega | (simp; omega) | (rw [IntKind.wrap_i64]; omega) | (intro hx; omega) | rfl)
      simp only [Act.put, List.setIfInBounds_toArray, List.set_cons_zero, List.set_cons_succ]
      refine qw_call (v := .bool true) (f := 12) (args := #[.agg #[.int .u64 (hI xx), .int .u64 (lI xx), .int .i64 (pl + mo)], .agg #[.int .u64 (hI px), .int .u64 (lI px), .int .i64 pl]]) (by rfl) ?_ ?_ ?_
      · (intro w1 hC; clear hC; go_simp)
      · exact fun w1 hC => (KWi w1).mono fun e w' ⟨he, hb⟩ => ⟨he, keepb hb hC⟩
      simp only [Act.put, List.setIfInBounds_toArray, List.set_cons_zero, List.set_cons_succ]
      refine qw_run (v := .bool false) (by rfl) ?_ ?_
      · (intro w1 hC; obtain ⟨⟨⟨m0, -⟩, -, ⟨f0, -⟩, ⟨p0, p1, p2, -, -, -⟩, ⟨k0, -⟩, ⟨a0, a1, -⟩, -⟩, ⟨x0, x1, x2, -, -, -⟩⟩ := HD.out w1 hC; go_simp; first | done | (simp; done) | (simp [*]; done) | omega | (simp; omega) | (rw [IntKind.wrap_i64]; omega) | (intro hx; omega) | rfl)
      simp only [Act.put, List.setIfInBounds_toArray, List.set_cons_zero, List.set_cons_succ]
      refine qw_run (v := .bool false) (by rfl) ?_ ?_
      · (intro w1 hC; obtain ⟨⟨⟨m0, -⟩, -, ⟨f0, -⟩, ⟨p0, p1, p2, -, -, -⟩, ⟨k0, -⟩, ⟨a0, a1, -⟩, -⟩, ⟨x0, x1, x2, -, -, -⟩⟩ := HD.out w1 hC; go_simp; first | done | (simp; done) | (simp [*]; done) | omega | (simp; omega) | (rw [IntKind.wrap_i64]; omega) | (intro hx; omega) | rfl)
      simp only [Act.put, List.setIfInBounds_toArray, List.set_cons_zero, List.set_cons_succ]
      refine qw_nil ?_
      intro X3 hC3
      have hP3 := HI1.out.below hC3
      have hB3 := keepb hC3 HB1.out
      have hK3 : KW (fun z => z ≠ N12 ∧ z ≠ N13) (Wl.heap.size + 2) V X3 := kw_below hC3
      have HP4 := hidX (hP3.setK (kz + 1))
      have HB4 := hidX (hB3.setCell (p := ⟨N12, 0, none⟩) (by simp; omega) (.int .i64 (kz + 1)))
      have HK4 := hidX (hK3.trans (kw_set (o := 0) (fun h => h.1 rfl) (by omega) X3 (.int .i64 (kz + 1))))
      have HX4 := hidX ((HX.out.below hC3).heap6 (W' := X3.setCell ⟨N12, 0, none⟩ (.int .i64 (kz + 1))) (hSet6 _ (by omega)))
      obtain ⟨k0, kf⟩ := hP3.kk
      clear hC3 hP3 hB3 hK3 KFi KWi HD HI1 HX HB1
      gi_wp2_with fail
      clear k0 kf
      revert HP4 HB4 HK4 HX4
      generalize X3.setCell ⟨N12, 0, none⟩ (.int .i64 (kz + 1)) = V4
      intro HP4 HB4 HK4 HX4
      have HD4 : Hid (∀ X, Below V4.heap.size V4 X → PI w N9 N10 N12 N13 F px pl mo (kz + 1) xx X ∧ AtP X Bx xx (pl + mo)) := hidX (fun X hb => ⟨HP4.out.below hb, HX4.out.below hb⟩)
      by_cases c : kz + 1 < qz
      · clear HLq KLp
        refine q_regionR (C := fun X => Below V4.heap.size V4 X) (by rintro ⟨_, _, h⟩; exact h) (by kernel_rfl) (by kernel_rfl) (by kernel_rfl) (below_drewN (Below.refl _ _) 1) ?_
        refine qw_run (v := .int .i64 (kz + 1)) (by rfl) ?_ ?_
        · (intro w1 hC; obtain ⟨⟨⟨m0, -⟩, -, ⟨f0, -⟩, ⟨p0, p1, p2, -, -, -⟩, ⟨k0, -⟩, ⟨a0, a1, -⟩, -⟩, ⟨x0, x1, x2, -, -, -⟩⟩ := HD4.out w1 hC; go_simp; first | done | (simp; done) | (simp [*]; done) | omega | (simp; omega) | (rw [IntKind.wrap_i64]; omega) | (intro hx; omega) | rfl)
        simp only [Act.put, List.setIfInBounds_toArray, List.set_cons_zero, List.set_cons_succ]
        refine qw_run (v := .int .i64 mo) (by rfl) ?_ ?_
        · (intro w1 hC; obtain ⟨⟨⟨m0, -⟩, -, ⟨f0, -⟩, ⟨p0, p1, p2, -, -, -⟩, ⟨k0, -⟩, ⟨a0, a1, -⟩, -⟩, ⟨x0, x1, x2, -, -, -⟩⟩ := HD4.out w1 hC; go_simp; first | done | (simp; done) | (simp [*]; done) | omega | (simp; omega) | (rw [IntKind.wrap_i64]; omega) | (intro hx; omega) | rfl)
        simp only [Act.put, List.setIfInBounds_toArray, List.set_cons_zero, List.set_cons_succ]
        refine qw_run (v := .int .i64 qz) (by rfl) ?_ ?_
        · (intro w1 hC; obtain ⟨⟨⟨m0, -⟩, -, ⟨f0, -⟩, ⟨p0, p1, p2, -, -, -⟩, ⟨k0, -⟩, ⟨a0, a1, -⟩, -⟩, ⟨x0, x1, x2, -, -, -⟩⟩ := HD4.out w1 hC; go_simp; first | done | (simp; done) | (simp [*]; done) | omega | (simp; omega) | (rw [IntKind.wrap_i64]; omega) | (intro hx; omega) | rfl)
        simp only [Act.put, List.setIfInBounds_toArray, List.set_cons_zero, List.set_cons_succ]
        refine qw_run (v := .bool true) (by rfl) ?_ ?_
        · (intro w1 hC; obtain ⟨⟨⟨m0, -⟩, -, ⟨f0, -⟩, ⟨p0, p1, p2, -, -, -⟩, ⟨k0, -⟩, ⟨a0, a1, -⟩, -⟩, ⟨x0, x1, x2, -, -, -⟩⟩ := HD4.out w1 hC; go_simp; first | done | (simp; done) | (simp [*]; done) | omega | (simp; omega) | (rw [IntKind.wrap_i64]; omega) | (intro hx; omega) | rfl)
        simp only [Act.put, List.setIfInBounds_toArray, List.set_cons_zero, List.set_cons_succ]
        refine qw_nil ?_
        intro X5 hC5
        have HB5 := hidX (keepb hC5 HB4.out)
        have HK5 := hidX (HK4.out.trans (kw_below hC5))
        have HD5 : Hid (∀ X, Below X5.heap.size X5 X → PI w N9 N10 N12 N13 F px pl mo (kz + 1) xx X ∧ AtP X Bx xx (pl + mo)) := hidX (fun X hb => HD4.out X (keepb hb hC5))
        clear hC5 HD4 HP4 HX4 HB4 HK4
        gi_wp2_with fail
        refine gh_regionR (γ := Unit) (qpOk 12 12 (by decide) (fun N => by kernel_rfl) (by kernel_rfl) (by kernel_rfl) (by kernel_rfl) (by kernel_rfl)) (by kernel_rfl) (by kernel_rfl) (by kernel_rfl) (by rintro ⟨_, _, h⟩; exact h) [some 75, some 76, some 77, some 78, some 79, some 80, some 81, some 82, some 74, some 83, some 84, none] (fun g => [.int .i64 F, .agg #[.int .u64 (hI xx), .int .u64 (lI xx), .int .i64 (pl + mo)], .agg #[.int .u64 (hI la), .int .u64 (lI la)], .agg #[.int .u64 0, .int .u64 0], .int .i64 F, .int .i64 (F - 1), .agg #[.int .u64 (hI st), .int .u64 (lI st)], .tuple #[.agg #[.int .u64 (hI (la + st)), .int .u64 (lI (la + st))], .bool (overB la st)], .tuple #[.agg #[.int .u64 (hI (la + st)), .int .u64 (lI (la + st))], .bool (overB la st)], .agg #[.int .u64 (hI (la + st)), .int .u64 (lI (la + st))], .bool (overB la st), undef]) (by kernel_rfl) (by simp) (fun lp g X => RT X5 (fun X => (X.setCell ⟨N13, 0, none⟩ (.int .u64 (hI (la + st)))).setCell ⟨N13, 1, none⟩ (.int .u64 (lI (la + st)))) 11 10 (fun j => lp.getD j false) X) () (RT.start (below_drewN (Below.refl _ _) 1) (fun j => by simp [Array.getElem?_replicate]; split <;> rfl)) ?step ?fin
        case step =>
          intro q o lp g w' a' ho hsz hun hdep hR hS K Q' hK
          have hfl : ∀ j, j ≠ q → (lp.setIfInBounds q true).getD j false = lp.getD j false := fun j hj => by rw [Array.getD_eq_getD_getElem?, Array.getD_eq_getD_getElem?, Array.getElem?_setIfInBounds_ne (by omega)]
          have hq : q < 12 := (List.getElem?_eq_some_iff.mp ho).1
          have hft : (lp.setIfInBounds q true).getD q false = true := getD_set_same (by rw [hsz]; exact hq)
          match q, ho, hun, hdep, hK, hfl, hft, hq with
          | 0, ho, hun, hdep, hK, hfl, hft, _ =>
            obtain rfl := Option.some.inj ho
            have o9 : a'.tmps[9]? = some (.pointer (some ⟨N9, 0, none⟩)) := (hS.old 9 (by simp)).trans rfl
            obtain ⟨⟨⟨m0, -⟩, -, ⟨f0, -⟩, ⟨p0, p1, p2, -, -, -⟩, ⟨k0, -⟩, ⟨a0, a1, -⟩, -⟩, ⟨x0, x1, x2, -, -, -⟩⟩ := HD5.out w' (hR.bel (hR.now (i := 0) (by decide) hun))
            have hK' := hK g w' (fun _ _ _ _ _ _ => rfl) (hR.quiet (i := 0) (by decide) hft hfl) (.int .i64 F) (by simp only [valO, Option.bind_some]; simp only [putAll, Act.put, List.setIfInBounds_toArray, List.set_cons_zero, List.set_cons_succ]; rfl)
            clear hS hdep hR
            refine gh_quiet6 (v := .int .i64 F) ?_ ?_
            · (simp only [execOp, Act.eval, o9]; go_simp; first | done | (simp; done) | (simp [*]; done) | omega | (simp; omega))
            · exact hK'
          | 1, ho, hun, hdep, hK, hfl, hft, _ =>
            obtain rfl := Option.some.inj ho
            have o14 : a'.tmps[14]? = some (.pointer (some ⟨Bx, 0, none⟩)) := (hS.old 14 (by simp)).trans rfl
            obtain ⟨⟨⟨m0, -⟩, -, ⟨f0, -⟩, ⟨p0, p1, p2, -, -, -⟩, ⟨k0, -⟩, ⟨a0, a1, -⟩, -⟩, ⟨x0, x1, x2, -, -, -⟩⟩ := HD5.out w' (hR.bel (hR.now (i := 1) (by decide) hun))
            have hK' := hK g w' (fun _ _ _ _ _ _ => rfl) (hR.quiet (i := 1) (by decide) hft hfl) (.agg #[.int .u64 (hI xx), .int .u64 (lI xx), .int .i64 (pl + mo)]) (by simp only [valO, Option.bind_some]; simp only [putAll, Act.put, List.setIfInBounds_toArray, List.set_cons_zero, List.set_cons_succ]; rfl)
            clear hS hdep hR
            refine gh_quiet6 (v := .agg #[.int .u64 (hI xx), .int .u64 (lI xx), .int .i64 (pl + mo)]) ?_ ?_
            · (simp only [execOp, Act.eval, o14]; go_simp; first | done | (simp; done) | (simp [*]; done) | omega | (simp; omega))
            · exact hK'
          | 2, ho, hun, hdep, hK, hfl, hft, _ =>
            obtain rfl := Option.some.inj ho
            have d0 : lp.getD 0 false = true := hdep { on := 0, ground := .data } (by simp) rfl
            have e75 : a'.tmps[75]? = some (.int .i64 F) := (hS.don 0 _ 75 rfl d0 rfl).trans (by simp only [putAll, Act.put, List.setIfInBounds_toArray, List.set_cons_zero, List.set_cons_succ]; rfl)
            have d1 : lp.getD 1 false = true := hdep { on := 1, ground := .data } (by simp) rfl
            have e76 : a'.tmps[76]? = some (.agg #[.int .u64 (hI xx), .int .u64 (lI xx), .int .i64 (pl + mo)]) := (hS.don 1 _ 76 rfl d1 rfl).trans (by simp only [putAll, Act.put, List.setIfInBounds_toArray, List.set_cons_zero, List.set_cons_succ]; rfl)
            have KE := KLx w'
            clear hdep
            unfold Oper.wp
            simp only [execOp, Act.eval]
            simp [go_sem, e75, e76, Oper.upon]
            refine KE.mono ?_
            rintro e W2 ⟨rfl, hb2⟩
            exact hK g W2 (fun _ _ _ _ _ _ => rfl) (hR.call (i := 2) (by decide) (by decide) hun hft hfl hb2) _ (by simp only [valO, Option.bind_some]; simp only [putAll, Act.put, List.setIfInBounds_toArray, List.set_cons_zero, List.set_cons_succ]; rfl)
          | 3, ho, hun, hdep, hK, hfl, hft, _ =>
            obtain rfl := Option.some.inj ho
            obtain ⟨⟨⟨m0, -⟩, -, ⟨f0, -⟩, ⟨p0, p1, p2, -, -, -⟩, ⟨k0, -⟩, ⟨a0, a1, -⟩, -⟩, ⟨x0, x1, x2, -, -, -⟩⟩ := HD5.out w' (hR.bel (hR.now (i := 3) (by decide) hun))
            have hK' := hK g w' (fun _ _ _ _ _ _ => rfl) (hR.quiet (i := 3) (by decide) hft hfl) (.agg #[.int .u64 0, .int .u64 0]) (by simp only [valO, Option.bind_some]; simp only [putAll, Act.put, List.setIfInBounds_toArray, List.set_cons_zero, List.set_cons_succ]; rfl)
            clear hS hdep hR
            refine gh_quiet6 (v := .agg #[.int .u64 0, .int .u64 0]) ?_ ?_
            · (simp only [execOp, Act.eval]; go_simp; first | done | (simp; done) | (simp [*]; done) | omega | (simp; omega))
            · exact hK'
          | 4, ho, hun, hdep, hK, hfl, hft, _ =>
            obtain rfl := Option.some.inj ho
            have o9 : a'.tmps[9]? = some (.pointer (some ⟨N9, 0, none⟩)) := (hS.old 9 (by simp)).trans rfl
            obtain ⟨⟨⟨m0, -⟩, -, ⟨f0, -⟩, ⟨p0, p1, p2, -, -, -⟩, ⟨k0, -⟩, ⟨a0, a1, -⟩, -⟩, ⟨x0, x1, x2, -, -, -⟩⟩ := HD5.out w' (hR.bel (hR.now (i := 4) (by decide) hun))
            have hK' := hK g w' (fun _ _ _ _ _ _ => rfl) (hR.quiet (i := 4) (by decide) hft hfl) (.int .i64 F) (by simp only [valO, Option.bind_some]; simp only [putAll, Act.put, List.setIfInBounds_toArray, List.set_cons_zero, List.set_cons_succ]; rfl)
            clear hS hdep hR
            refine gh_quiet6 (v := .int .i64 F) ?_ ?_
            · (simp only [execOp, Act.eval, o9]; go_simp; first | done | (simp; done) | (simp [*]; done) | omega | (simp; omega))
            · exact hK'
          | 5, ho, hun, hdep, hK, hfl, hft, _ =>
            obtain rfl := Option.some.inj ho
            have d4 : lp.getD 4 false = true := hdep { on := 4, ground := .data } (by simp) rfl
            have e79 : a'.tmps[79]? = some (.int .i64 F) := (hS.don 4 _ 79 rfl d4 rfl).trans (by simp only [putAll, Act.put, List.setIfInBounds_toArray, List.set_cons_zero, List.set_cons_succ]; rfl)
            obtain ⟨⟨⟨m0, -⟩, -, ⟨f0, -⟩, ⟨p0, p1, p2, -, -, -⟩, ⟨k0, -⟩, ⟨a0, a1, -⟩, -⟩, ⟨x0, x1, x2, -, -, -⟩⟩ := HD5.out w' (hR.bel (hR.now (i := 5) (by decide) hun))
            have hK' := hK g w' (fun _ _ _ _ _ _ => rfl) (hR.quiet (i := 5) (by decide) hft hfl) (.int .i64 (F - 1)) (by simp only [valO, Option.bind_some]; simp only [putAll, Act.put, List.setIfInBounds_toArray, List.set_cons_zero, List.set_cons_succ]; rfl)
            clear hS hdep hR
            refine gh_quiet6 (v := .int .i64 (F - 1)) ?_ ?_
            · (simp only [execOp, Act.eval, e79]; go_simp; first | done | (simp; done) | (simp [*]; done) | omega | (simp; omega))
            · exact hK'
          | 6, ho, hun, hdep, hK, hfl, hft, _ =>
            obtain rfl := Option.some.inj ho
            have d3 : lp.getD 3 false = true := hdep { on := 3, ground := .data } (by simp) rfl
            have e78 : a'.tmps[78]? = some (.agg #[.int .u64 0, .int .u64 0]) := (hS.don 3 _ 78 rfl d3 rfl).trans (by simp only [putAll, Act.put, List.setIfInBounds_toArray, List.set_cons_zero, List.set_cons_succ]; rfl)
            have d5 : lp.getD 5 false = true := hdep { on := 5, ground := .data } (by simp) rfl
            have e80 : a'.tmps[80]? = some (.int .i64 (F - 1)) := (hS.don 5 _ 80 rfl d5 rfl).trans (by simp only [putAll, Act.put, List.setIfInBounds_toArray, List.set_cons_zero, List.set_cons_succ]; rfl)
            have KE := KPu w'
            clear hdep
            unfold Oper.wp
            simp only [execOp, Act.eval]
            simp [go_sem, e78, e80, Oper.upon]
            refine KE.mono ?_
            rintro e W2 ⟨rfl, hb2⟩
            exact hK g W2 (fun _ _ _ _ _ _ => rfl) (hR.call (i := 6) (by decide) (by decide) hun hft hfl hb2) _ (by simp only [valO, Option.bind_some]; simp only [putAll, Act.put, List.setIfInBounds_toArray, List.set_cons_zero, List.set_cons_succ]; rfl)
          | 7, ho, hun, hdep, hK, hfl, hft, _ =>
            obtain rfl := Option.some.inj ho
            have d2 : lp.getD 2 false = true := hdep { on := 2, ground := .data } (by simp) rfl
            have e77 : a'.tmps[77]? = some (.agg #[.int .u64 (hI la), .int .u64 (lI la)]) := (hS.don 2 _ 77 rfl d2 rfl).trans (by simp only [putAll, Act.put, List.setIfInBounds_toArray, List.set_cons_zero, List.set_cons_succ]; rfl)
            have d6 : lp.getD 6 false = true := hdep { on := 6, ground := .data } (by simp) rfl
            have e81 : a'.tmps[81]? = some (.agg #[.int .u64 (hI st), .int .u64 (lI st)]) := (hS.don 6 _ 81 rfl d6 rfl).trans (by simp only [putAll, Act.put, List.setIfInBounds_toArray, List.set_cons_zero, List.set_cons_succ]; rfl)
            have KE := KAd w'
            clear hdep
            unfold Oper.wp
            simp only [execOp, Act.eval]
            simp [go_sem, e77, e81, Oper.upon]
            refine KE.mono ?_
            rintro e W2 ⟨rfl, hb2⟩
            exact hK g W2 (fun _ _ _ _ _ _ => rfl) (hR.call (i := 7) (by decide) (by decide) hun hft hfl hb2) _ (by simp only [valO, Option.bind_some]; simp only [putAll, Act.put, List.setIfInBounds_toArray, List.set_cons_zero, List.set_cons_succ]; rfl)
          | 8, ho, hun, hdep, hK, hfl, hft, _ =>
            obtain rfl := Option.some.inj ho
            have d7 : lp.getD 7 false = true := hdep { on := 7, ground := .data } (by simp) rfl
            have e82 : a'.tmps[82]? = some (.tuple #[.agg #[.int .u64 (hI (la + st)), .int .u64 (lI (la + st))], .bool (overB la st)]) := (hS.don 7 _ 82 rfl d7 rfl).trans (by simp only [putAll, Act.put, List.setIfInBounds_toArray, List.set_cons_zero, List.set_cons_succ]; rfl)
            obtain ⟨⟨⟨m0, -⟩, -, ⟨f0, -⟩, ⟨p0, p1, p2, -, -, -⟩, ⟨k0, -⟩, ⟨a0, a1, -⟩, -⟩, ⟨x0, x1, x2, -, -, -⟩⟩ := HD5.out w' (hR.bel (hR.now (i := 8) (by decide) hun))
            have hK' := hK g w' (fun _ _ _ _ _ _ => rfl) (hR.quiet (i := 8) (by decide) hft hfl) (.tuple #[.agg #[.int .u64 (hI (la + st)), .int .u64 (lI (la + st))], .bool (overB la st)]) (by simp only [valO, Option.bind_some]; simp only [putAll, Act.put, List.setIfInBounds_toArray, List.set_cons_zero, List.set_cons_succ]; rfl)
            clear hS hdep hR
            refine gh_quiet6 (v := .tuple #[.agg #[.int .u64 (hI (la + st)), .int .u64 (lI (la + st))], .bool (overB la st)]) ?_ ?_
            · (simp only [execOp, Act.eval, e82]; go_simp; first | done | (simp; done) | (simp [*]; done) | omega | (simp; omega))
            · exact hK'
          | 9, ho, hun, hdep, hK, hfl, hft, _ =>
            obtain rfl := Option.some.inj ho
            have d8 : lp.getD 8 false = true := hdep { on := 8, ground := .data } (by simp) rfl
            have e74 : a'.tmps[74]? = some (.tuple #[.agg #[.int .u64 (hI (la + st)), .int .u64 (lI (la + st))], .bool (overB la st)]) := (hS.don 8 _ 74 rfl d8 rfl).trans (by simp only [putAll, Act.put, List.setIfInBounds_toArray, List.set_cons_zero, List.set_cons_succ]; rfl)
            obtain ⟨⟨⟨m0, -⟩, -, ⟨f0, -⟩, ⟨p0, p1, p2, -, -, -⟩, ⟨k0, -⟩, ⟨a0, a1, -⟩, -⟩, ⟨x0, x1, x2, -, -, -⟩⟩ := HD5.out w' (hR.bel (hR.now (i := 9) (by decide) hun))
            have hK' := hK g w' (fun _ _ _ _ _ _ => rfl) (hR.quiet (i := 9) (by decide) hft hfl) (.agg #[.int .u64 (hI (la + st)), .int .u64 (lI (la + st))]) (by simp only [valO, Option.bind_some]; simp only [putAll, Act.put, List.setIfInBounds_toArray, List.set_cons_zero, List.set_cons_succ]; rfl)
            clear hS hdep hR
            refine gh_quiet6 (v := .agg #[.int .u64 (hI (la + st)), .int .u64 (lI (la + st))]) ?_ ?_
            · (simp only [execOp, Act.eval, e74]; go_simp; first | done | (simp; done) | (simp [*]; done) | omega | (simp; omega))
            · exact hK'
          | 10, ho, hun, hdep, hK, hfl, hft, _ =>
            obtain rfl := Option.some.inj ho
            have d8 : lp.getD 8 false = true := hdep { on := 8, ground := .data } (by simp) rfl
            have e74 : a'.tmps[74]? = some (.tuple #[.agg #[.int .u64 (hI (la + st)), .int .u64 (lI (la + st))], .bool (overB la st)]) := (hS.don 8 _ 74 rfl d8 rfl).trans (by simp only [putAll, Act.put, List.setIfInBounds_toArray, List.set_cons_zero, List.set_cons_succ]; rfl)
            have hK' := hK g w' (fun _ _ _ _ _ _ => rfl) (hR.quiet (i := 10) (by decide) hft hfl) (.bool (overB la st)) (by simp only [valO, Option.bind_some]; simp only [putAll, Act.put, List.setIfInBounds_toArray, List.set_cons_zero, List.set_cons_succ]; rfl)
            clear hS hdep hR
            refine gh_quiet6 (v := .bool (overB la st)) ?_ ?_
            · (simp only [execOp, Act.eval, e74]; go_simp; first | done | (simp; done) | (simp [*]; done) | omega | (simp; omega))
            · exact hK'
          | 11, ho, hun, hdep, hK, hfl, hft, _ =>
            obtain rfl := Option.some.inj ho
            have d9 : lp.getD 9 false = true := hdep { on := 9, ground := .data } (by simp) rfl
            have e83 : a'.tmps[83]? = some (.agg #[.int .u64 (hI (la + st)), .int .u64 (lI (la + st))]) := (hS.don 9 _ 83 rfl d9 rfl).trans (by simp only [putAll, Act.put, List.setIfInBounds_toArray, List.set_cons_zero, List.set_cons_succ]; rfl)
            have o13 : a'.tmps[13]? = some (.pointer (some ⟨N13, 0, none⟩)) := (hS.old 13 (by simp)).trans rfl
            have hall : ∀ j, j < 10 → lp.getD j false = true := by
              intro j hj
              match j, hj with
              | 0, _ => exact hdep { on := 0, ground := .phase } (by simp) rfl
              | 1, _ => exact hdep { on := 1, ground := .phase } (by simp) rfl
              | 2, _ => exact hdep { on := 2, ground := .phase } (by simp) rfl
              | 3, _ => exact hdep { on := 3, ground := .phase } (by simp) rfl
              | 4, _ => exact hdep { on := 4, ground := .phase } (by simp) rfl
              | 5, _ => exact hdep { on := 5, ground := .phase } (by simp) rfl
              | 6, _ => exact hdep { on := 6, ground := .phase } (by simp) rfl
              | 7, _ => exact hdep { on := 7, ground := .phase } (by simp) rfl
              | 8, _ => exact hdep { on := 8, ground := .phase } (by simp) rfl
              | 9, _ => exact hdep { on := 9, ground := .phase } (by simp) rfl
              | n + 10, h => exact absurd h (by omega)
            obtain ⟨⟨-, -, -, -, -, ⟨a0, a1, af0, af1, -⟩, -⟩, -⟩ := HD5.out w' (hR.bel hun)
            have hK' := hK g _ (fun _ _ _ _ _ _ => rfl) (hR.st hun hft hfl hall) undef rfl
            clear hS hdep hR
            unfold Oper.wp
            simp [execOp, Act.eval, e83, o13, go_sem, a0, a1, af0, af1, Oper.upon]
            exact hK'
          | n + 12, ho, hun, hdep, hK, hfl, hft, hq => exact absurd hq (by omega)
        case fin =>
          intro g X1 hR
          obtain ⟨X0, hb0, hX1⟩ := hR.fin (by simp)
          simp only [putAll, Act.put, List.setIfInBounds_toArray, List.set_cons_zero, List.set_cons_succ]
          clear hR
          subst hX1
          have hG := HEnd.out (la + st) _ ((HD5.out X0 hb0).1.setA (la + st)) (((keepb hb0 HB5.out).setCell (p := ⟨N13, 0, none⟩) (by simp; omega) _).setCell (p := ⟨N13, 1, none⟩) (by simp; omega) _) (((HK5.out.trans (kw_below hb0)).trans (kw_set (o := 0) (fun h => h.2 rfl) (by omega) _ _)).trans (kw_set (o := 1) (fun h => h.2 rfl) (by omega) _ _)) (fun _ => rfl) (fun h => absurd c (by omega))
          have HG := hidX hG
          clear hG HEnd hb0 HD5 HB5 HK5
          gi_wp2
          exact HG.out
      · have e := HLq.out (by omega)
        subst e
        clear KPu KAd
        refine q_regionR (C := fun X => Below V4.heap.size V4 X) (by rintro ⟨_, _, h⟩; exact h) (by kernel_rfl) (by kernel_rfl) (by kernel_rfl) (below_drewN (Below.refl _ _) 1) ?_
        refine qw_run (v := .int .i64 (kz + 1)) (by rfl) ?_ ?_
        · (intro w1 hC; obtain ⟨⟨⟨m0, -⟩, -, ⟨f0, -⟩, ⟨p0, p1, p2, -, -, -⟩, ⟨k0, -⟩, ⟨a0, a1, -⟩, -⟩, ⟨x0, x1, x2, -, -, -⟩⟩ := HD4.out w1 hC; go_simp; first | done | (simp; done) | (simp [*]; done) | omega | (simp; omega) | (rw [IntKind.wrap_i64]; omega) | (intro hx; omega) | rfl)
        simp only [Act.put, List.setIfInBounds_toArray, List.set_cons_zero, List.set_cons_succ]
        refine qw_run (v := .int .i64 mo) (by rfl) ?_ ?_
        · (intro w1 hC; obtain ⟨⟨⟨m0, -⟩, -, ⟨f0, -⟩, ⟨p0, p1, p2, -, -, -⟩, ⟨k0, -⟩, ⟨a0, a1, -⟩, -⟩, ⟨x0, x1, x2, -, -, -⟩⟩ := HD4.out w1 hC; go_simp; first | done | (simp; done) | (simp [*]; done) | omega | (simp; omega) | (rw [IntKind.wrap_i64]; omega) | (intro hx; omega) | rfl)
        simp only [Act.put, List.setIfInBounds_toArray, List.set_cons_zero, List.set_cons_succ]
        refine qw_run (v := .int .i64 qz) (by rfl) ?_ ?_
        · (intro w1 hC; obtain ⟨⟨⟨m0, -⟩, -, ⟨f0, -⟩, ⟨p0, p1, p2, -, -, -⟩, ⟨k0, -⟩, ⟨a0, a1, -⟩, -⟩, ⟨x0, x1, x2, -, -, -⟩⟩ := HD4.out w1 hC; go_simp; first | done | (simp; done) | (simp [*]; done) | omega | (simp; omega) | (rw [IntKind.wrap_i64]; omega) | (intro hx; omega) | rfl)
        simp only [Act.put, List.setIfInBounds_toArray, List.set_cons_zero, List.set_cons_succ]
        refine qw_run (v := .bool false) (by rfl) ?_ ?_
        · (intro w1 hC; obtain ⟨⟨⟨m0, -⟩, -, ⟨f0, -⟩, ⟨p0, p1, p2, -, -, -⟩, ⟨k0, -⟩, ⟨a0, a1, -⟩, -⟩, ⟨x0, x1, x2, -, -, -⟩⟩ := HD4.out w1 hC; go_simp; first | done | (simp; done) | (simp [*]; done) | omega | (simp; omega) | (rw [IntKind.wrap_i64]; omega) | (intro hx; omega) | rfl)
        simp only [Act.put, List.setIfInBounds_toArray, List.set_cons_zero, List.set_cons_succ]
        refine qw_nil ?_
        intro X5 hC5
        have HB5 := hidX (keepb hC5 HB4.out)
        have HK5 := hidX (HK4.out.trans (kw_below hC5))
        have HD5 : Hid (∀ X, Below X5.heap.size X5 X → PI w N9 N10 N12 N13 F px pl mo (kz + 1) xx X ∧ AtP X Bx xx (pl + mo)) := hidX (fun X hb => HD4.out X (keepb hb hC5))
        clear hC5 HD4 HP4 HX4 HB4 HK4
        gi_wp2_with fail
        refine q_regionR (C := fun X => Below X5.heap.size X5 X) (by rintro ⟨_, _, h⟩; exact h) (by kernel_rfl) (by kernel_rfl) (by kernel_rfl) (below_drewN (Below.refl _ _) 1) ?_
        refine qw_run (v := .int .i64 F) (by rfl) ?_ ?_
        · (intro w1 hC; obtain ⟨⟨⟨m0, -⟩, -, ⟨f0, -⟩, ⟨p0, p1, p2, -, -, -⟩, ⟨k0, -⟩, ⟨a0, a1, -⟩, -⟩, ⟨x0, x1, x2, -, -, -⟩⟩ := HD5.out w1 hC; go_simp; first | done | (simp; done) | (simp [*]; done) | omega | (simp; omega) | (rw [IntKind.wrap_i64]; omega) | (intro hx; omega) | rfl)
        simp only [Act.put, List.setIfInBounds_toArray, List.set_cons_zero, List.set_cons_succ]
        refine qw_run (v := .agg #[.int .u64 (hI xx), .int .u64 (lI xx), .int .i64 (pl + mo)]) (by rfl) ?_ ?_
        · (intro w1 hC; obtain ⟨⟨⟨m0, -⟩, -, ⟨f0, -⟩, ⟨p0, p1, p2, -, -, -⟩, ⟨k0, -⟩, ⟨a0, a1, -⟩, -⟩, ⟨x0, x1, x2, -, -, -⟩⟩ := HD5.out w1 hC; go_simp; first | done | (simp; done) | (simp [*]; done) | omega | (simp; omega) | (rw [IntKind.wrap_i64]; omega) | (intro hx; omega) | rfl)
        simp only [Act.put, List.setIfInBounds_toArray, List.set_cons_zero, List.set_cons_succ]
        refine qw_call (v := .agg #[.int .u64 (hI la), .int .u64 (lI la)]) (f := 14) (args := #[.int .i64 F, .agg #[.int .u64 (hI xx), .int .u64 (lI xx), .int .i64 (pl + mo)]]) (by rfl) ?_ ?_ ?_
        · (intro w1 hC; clear hC; go_simp)
        · exact fun w1 hC => (KLx w1).mono fun e w' ⟨he, hb⟩ => ⟨he, keepb hb hC⟩
        simp only [Act.put, List.setIfInBounds_toArray, List.set_cons_zero, List.set_cons_succ]
        refine qw_run (v := .int .i64 F) (by rfl) ?_ ?_
        · (intro w1 hC; obtain ⟨⟨⟨m0, -⟩, -, ⟨f0, -⟩, ⟨p0, p1, p2, -, -, -⟩, ⟨k0, -⟩, ⟨a0, a1, -⟩, -⟩, ⟨x0, x1, x2, -, -, -⟩⟩ := HD5.out w1 hC; go_simp; first | done | (simp; done) | (simp [*]; done) | omega | (simp; omega) | (rw [IntKind.wrap_i64]; omega) | (intro hx; omega) | rfl)
        simp only [Act.put, List.setIfInBounds_toArray, List.set_cons_zero, List.set_cons_succ]
        refine qw_run (v := .agg #[.int .u64 (hI px), .int .u64 (lI px), .int .i64 pl]) (by rfl) ?_ ?_
        · (intro w1 hC; obtain ⟨⟨⟨m0, -⟩, -, ⟨f0, -⟩, ⟨p0, p1, p2, -, -, -⟩, ⟨k0, -⟩, ⟨a0, a1, -⟩, -⟩, ⟨x0, x1, x2, -, -, -⟩⟩ := HD5.out w1 hC; go_simp; first | done | (simp; done) | (simp [*]; done) | omega | (simp; omega) | (rw [IntKind.wrap_i64]; omega) | (intro hx; omega) | rfl)
        simp only [Act.put, List.setIfInBounds_toArray, List.set_cons_zero, List.set_cons_succ]
        refine qw_call (v := .agg #[.int .u64 (hI la), .int .u64 (lI la)]) (f := 14) (args := #[.int .i64 F, .agg #[.int .u64 (hI px), .int .u64 (lI px), .int .i64 pl]]) (by rfl) ?_ ?_ ?_
        · (intro w1 hC; clear hC; go_simp)
        · exact fun w1 hC => (KLp w1).mono fun e w' ⟨he, hb⟩ => ⟨he, keepb hb hC⟩
        simp only [Act.put, List.setIfInBounds_toArray, List.set_cons_zero, List.set_cons_succ]
        refine qw_run (v := .bool false) (by rfl) ?_ ?_
        · (intro w1 hC; obtain ⟨⟨⟨m0, -⟩, -, ⟨f0, -⟩, ⟨p0, p1, p2, -, -, -⟩, ⟨k0, -⟩, ⟨a0, a1, -⟩, -⟩, ⟨x0, x1, x2, -, -, -⟩⟩ := HD5.out w1 hC; go_simp; first | done | (simp; done) | (simp [*]; done) | omega | (simp; omega) | (rw [IntKind.wrap_i64]; omega) | (intro hx; omega) | rfl)
        simp only [Act.put, List.setIfInBounds_toArray, List.set_cons_zero, List.set_cons_succ]
        refine qw_nil ?_
        intro X6 hC6
        have HG := hidX (HEnd.out xx X6 (HD5.out X6 hC6).1 (keepb hC6 HB5.out) (HK5.out.trans (kw_below hC6)) (fun h => absurd h (by omega)) (fun _ => rfl))
        clear HEnd HD5 HB5 HK5 hC6
        gi_wp2
        exact HG.out
    case done =>
      rintro D ys V hD rfl ⟨hi1, hi2⟩ hK
      rw [HLen.out] at hi1
      revert hi1
      generalize xk px (pl + mo) (min q (q - 1)) = ay
      intro hi1
      have hDl : D < V.heap.size := (Array.getElem?_eq_some_iff.1 hK).1
      have HB1 := hidX hi2
      have HKD := hidX hK
      have HDa : Hid (∀ X, Below V.heap.size V X → PI w N9 N10 N12 N13 F px pl mo (q : Int) ay X) := hidX (fun X hb => hi1.below hb)
      clear hi1 hi2 hK h00 hqq hqb HAT HWI HNX HLA HLen HI0 HSM HB9
      revert hsh HDa
      generalize (q : Int) = qz
      intro hsh HDa
      refine wl_nil6 (P := Tryd.prog) (ops := #[]) ?_
      go_wp2_with fail
      refine gh_region (γ := Unit) (qpOk 5 5 (by decide) (fun N => by kernel_rfl) (by kernel_rfl) (by kernel_rfl) (by kernel_rfl) (by kernel_rfl)) (by kernel_rfl) (by kernel_rfl) [some 92, some 93, some 94, some 95, none] (fun g => [.int .i64 qz, .int .i64 mo, .int .i64 qz, .bool true, undef]) (by kernel_rfl) (by simp) (fun lp g X => RT V (fun X => X.setCell ⟨w.heap.size + 2, 0, none⟩ (.bool true)) 4 4 (fun j => lp.getD j false) X) () (RT.start (below_drewN (Below.refl _ _) 1) (fun j => by simp [Array.getElem?_replicate]; split <;> rfl)) ?step ?fin
      case step =>
        intro q o lp g w' a' ho hsz hun hdep hR hS K Q' hK
        have hfl : ∀ j, j ≠ q → (lp.setIfInBounds q true).getD j false = lp.getD j false := fun j hj => by rw [Array.getD_eq_getD_getElem?, Array.getD_eq_getD_getElem?, Array.getElem?_setIfInBounds_ne (by omega)]
        have hq : q < 5 := (List.getElem?_eq_some_iff.mp ho).1
        have hft : (lp.setIfInBounds q true).getD q false = true := getD_set_same (by rw [hsz]; exact hq)
        match q, ho, hun, hdep, hK, hfl, hft, hq with
        | 0, ho, hun, hdep, hK, hfl, hft, _ =>
          obtain rfl := Option.some.inj ho
          have o12 : a'.tmps[12]? = some (.pointer (some ⟨N12, 0, none⟩)) := (hS.old 12 (by simp)).trans rfl
          obtain ⟨⟨m0, -⟩, -, -, -, ⟨k0, -⟩, -, -⟩ := HDa.out w' (hR.bel (hR.now (i := 0) (by decide) hun))
          have hK' := hK g w' (fun _ _ _ _ _ _ => rfl) (hR.quiet (i := 0) (by decide) hft hfl) (.int .i64 qz) (by simp only [valO, Option.bind_some]; simp only [putAll, Act.put, List.setIfInBounds_toArray, List.set_cons_zero, List.set_cons_succ]; rfl)
          clear hS hdep hR
          refine gh_quiet6 (v := .int .i64 qz) ?_ ?_
          · (simp only [execOp, Act.eval, o12]; go_simp; first | done | (simp; done) | (simp [*]; done) | omega | (simp; omega))
          · exact hK'
        | 1, ho, hun, hdep, hK, hfl, hft, _ =>
          obtain rfl := Option.some.inj ho
          have o7 : a'.tmps[7]? = some (.pointer (some ⟨w.heap.size + 1, 0, none⟩)) := (hS.old 7 (by simp)).trans rfl
          obtain ⟨⟨m0, -⟩, -, -, -, ⟨k0, -⟩, -, -⟩ := HDa.out w' (hR.bel (hR.now (i := 1) (by decide) hun))
          have hK' := hK g w' (fun _ _ _ _ _ _ => rfl) (hR.quiet (i := 1) (by decide) hft hfl) (.int .i64 mo) (by simp only [valO, Option.bind_some]; simp only [putAll, Act.put, List.setIfInBounds_toArray, List.set_cons_zero, List.set_cons_succ]; rfl)
          clear hS hdep hR
          refine gh_quiet6 (v := .int .i64 mo) ?_ ?_
          · (simp only [execOp, Act.eval, o7]; go_simp; first | done | (simp; done) | (simp [*]; done) | omega | (simp; omega))
          · exact hK'
        | 2, ho, hun, hdep, hK, hfl, hft, _ =>
          obtain rfl := Option.some.inj ho
          have d1 : lp.getD 1 false = true := hdep { on := 1, ground := .data } (by simp) rfl
          have e93 : a'.tmps[93]? = some (.int .i64 mo) := (hS.don 1 _ 93 rfl d1 rfl).trans (by simp only [putAll, Act.put, List.setIfInBounds_toArray, List.set_cons_zero, List.set_cons_succ]; rfl)
          obtain ⟨⟨m0, -⟩, -, -, -, ⟨k0, -⟩, -, -⟩ := HDa.out w' (hR.bel (hR.now (i := 2) (by decide) hun))
          have hK' := hK g w' (fun _ _ _ _ _ _ => rfl) (hR.quiet (i := 2) (by decide) hft hfl) (.int .i64 qz) (by simp only [valO, Option.bind_some]; simp only [putAll, Act.put, List.setIfInBounds_toArray, List.set_cons_zero, List.set_cons_succ]; rfl)
          clear hS hdep hR
          refine gh_quiet6 (v := .int .i64 qz) ?_ ?_
          · (simp only [execOp, Act.eval, e93]; go_simp; first | done | (simp; done) | (simp [*]; done) | omega | (simp; omega))
          · exact hK'
        | 3, ho, hun, hdep, hK, hfl, hft, _ =>
          obtain rfl := Option.some.inj ho
          have d0 : lp.getD 0 false = true := hdep { on := 0, ground := .data } (by simp) rfl
          have e92 : a'.tmps[92]? = some (.int .i64 qz) := (hS.don 0 _ 92 rfl d0 rfl).trans (by simp only [putAll, Act.put, List.setIfInBounds_toArray, List.set_cons_zero, List.set_cons_succ]; rfl)
          have d2 : lp.getD 2 false = true := hdep { on := 2, ground := .data } (by simp) rfl
          have e94 : a'.tmps[94]? = some (.int .i64 qz) := (hS.don 2 _ 94 rfl d2 rfl).trans (by simp only [putAll, Act.put, List.setIfInBounds_toArray, List.set_cons_zero, List.set_cons_succ]; rfl)
          obtain ⟨⟨m0, -⟩, -, -, -, ⟨k0, -⟩, -, -⟩ := HDa.out w' (hR.bel (hR.now (i := 3) (by decide) hun))
          have hK' := hK g w' (fun _ _ _ _ _ _ => rfl) (hR.quiet (i := 3) (by decide) hft hfl) (.bool true) (by simp only [valO, Option.bind_some]; simp only [putAll, Act.put, List.setIfInBounds_toArray, List.set_cons_zero, List.set_cons_succ]; rfl)
          clear hS hdep hR
          refine gh_quiet6 (v := .bool true) ?_ ?_
          · (simp only [execOp, Act.eval, e92, e94]; go_simp; first | done | (simp; done) | (simp [*]; done) | omega | (simp; omega))
          · exact hK'
        | 4, ho, hun, hdep, hK, hfl, hft, _ =>
          obtain rfl := Option.some.inj ho
          have d3 : lp.getD 3 false = true := hdep { on := 3, ground := .data } (by simp) rfl
          have e95 : a'.tmps[95]? = some (.bool true) := (hS.don 3 _ 95 rfl d3 rfl).trans (by simp only [putAll, Act.put, List.setIfInBounds_toArray, List.set_cons_zero, List.set_cons_succ]; rfl)
          have o8 : a'.tmps[8]? = some (.pointer (some ⟨w.heap.size + 2, 0, none⟩)) := (hS.old 8 (by simp)).trans rfl
          have hall : ∀ j, j < 4 → lp.getD j false = true := by
            intro j hj
            match j, hj with
            | 0, _ => exact hdep { on := 0, ground := .phase } (by simp) rfl
            | 1, _ => exact hdep { on := 1, ground := .phase } (by simp) rfl
            | 2, _ => exact hdep { on := 2, ground := .phase } (by simp) rfl
            | 3, _ => exact hdep { on := 3, ground := .phase } (by simp) rfl
            | n + 4, h => exact absurd h (by omega)
          obtain ⟨-, ⟨r0, r1⟩, -, -, -, -, -⟩ := HDa.out w' (hR.bel hun)
          have hK' := hK g _ (fun _ _ _ _ _ _ => rfl) (hR.st hun hft hfl hall) undef rfl
          clear hS hdep hR
          unfold Oper.wp
          simp [execOp, Act.eval, e95, o8, go_sem, r0, r1, Oper.upon]
          exact hK'
        | n + 5, ho, hun, hdep, hK, hfl, hft, hq => exact absurd hq (by omega)
      case fin =>
        intro g X1 hR
        obtain ⟨X0, hb0, hX1⟩ := hR.fin (by simp)
        simp only [putAll, Act.put, List.setIfInBounds_toArray, List.set_cons_zero, List.set_cons_succ]
        clear hR
        subst hX1
        have HP2 := hidX ((HDa.out X0 hb0).r.set (.bool true))
        have HK2 : Hid ((X0.setCell ⟨w.heap.size + 2, 0, none⟩ (.bool true)).heap[D]? = some (.deferred (some []))) := hidX ((hSet6 _ (by omega)).trans ((hb0.block D hDl).trans HKD.out))
        have HB2 := hidX ((keepb hb0 HB1.out).setCell (p := ⟨w.heap.size + 2, 0, none⟩) (by simp) (.bool true))
        clear hb0 HDa HKD HB1
        revert HP2 HK2 HB2
        generalize X0.setCell ⟨w.heap.size + 2, 0, none⟩ (.bool true) = U
        intro HP2 HK2 HB2
        refine wl_nil6 (P := Tryd.prog) (ops := #[]) ?_
        go_wp2
        refine ⟨by simp, .inl ⟨_, _, rfl, run_takeDeferred HK2.out, ?_⟩⟩
        obtain ⟨r0, -⟩ := HP2.out.kept (grownBy_putObj' _ D (.deferred none)) (fun r e => by cases e; exact ⟨_, HK2.out, rfl⟩)
        refine ⟨.bool true, ?_, rfl, HB2.out.trans (belowK_b (w := w) (Nat.le_refl _) _ D _ _ (Nat.le_trans hwW hD) HK2.out rfl rfl)⟩
        simp [results, Tryd.results4, go_sem, r0]
    case stop =>
      rintro D c pre V hD hpre hi hK
      exact hi.elim
end Go.Proofs.YtdgmfdfhbhmppaaDoor
