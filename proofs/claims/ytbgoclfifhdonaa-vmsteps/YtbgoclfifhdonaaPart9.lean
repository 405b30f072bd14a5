/-
  Part 9 of the proof: 1 texts, one behind the other.
-/
import Derived.Test.YtbgoclfifhdonaaPart8
import Derived.Test.YtbgoclfifhdonaaPart2
namespace Go.Proofs.Ytbgoclfifhdonaa
open Go.RowKit
set_option linter.unusedSimpArgs false
set_option linter.unusedVariables false

set_option maxRecDepth 20000
theorem arr53a (t : Array Value) (h : t.size = 53) : ∃ u : Nat → Value, (∀ i, u i = t.getD i undef) ∧ t = #[u 0, u 1, u 2, u 3, u 4, u 5, u 6, u 7, u 8, u 9, u 10, u 11, u 12, u 13, u 14, u 15, u 16, u 17, u 18, u 19, u 20, u 21, u 22, u 23, u 24, u 25, u 26, u 27, u 28, u 29, u 30, u 31, u 32, u 33, u 34, u 35, u 36, u 37, u 38, u 39, u 40, u 41, u 42, u 43, u 44, u 45, u 46, u 47, u 48, u 49, u 50, u 51, u 52] := by
  refine ⟨fun i => t.getD i undef, fun _ => rfl, ?_⟩
  obtain ⟨l⟩ := t
  have h' : l.length = 53 := h
  have e : l = (List.range 53).map (fun i => (⟨l⟩ : Array Value).getD i undef) := by
    apply List.ext_getElem
    · simp [h']
    · intro i h1 h2
      simp [Array.getD, h1]
  have e2 : (List.range 53).map (fun i => (⟨l⟩ : Array Value).getD i undef) = [(⟨l⟩ : Array Value).getD 0 undef, (⟨l⟩ : Array Value).getD 1 undef, (⟨l⟩ : Array Value).getD 2 undef, (⟨l⟩ : Array Value).getD 3 undef, (⟨l⟩ : Array Value).getD 4 undef, (⟨l⟩ : Array Value).getD 5 undef, (⟨l⟩ : Array Value).getD 6 undef, (⟨l⟩ : Array Value).getD 7 undef, (⟨l⟩ : Array Value).getD 8 undef, (⟨l⟩ : Array Value).getD 9 undef, (⟨l⟩ : Array Value).getD 10 undef, (⟨l⟩ : Array Value).getD 11 undef, (⟨l⟩ : Array Value).getD 12 undef, (⟨l⟩ : Array Value).getD 13 undef, (⟨l⟩ : Array Value).getD 14 undef, (⟨l⟩ : Array Value).getD 15 undef, (⟨l⟩ : Array Value).getD 16 undef, (⟨l⟩ : Array Value).getD 17 undef, (⟨l⟩ : Array Value).getD 18 undef, (⟨l⟩ : Array Value).getD 19 undef, (⟨l⟩ : Array Value).getD 20 undef, (⟨l⟩ : Array Value).getD 21 undef, (⟨l⟩ : Array Value).getD 22 undef, (⟨l⟩ : Array Value).getD 23 undef, (⟨l⟩ : Array Value).getD 24 undef, (⟨l⟩ : Array Value).getD 25 undef, (⟨l⟩ : Array Value).getD 26 undef, (⟨l⟩ : Array Value).getD 27 undef, (⟨l⟩ : Array Value).getD 28 undef, (⟨l⟩ : Array Value).getD 29 undef, (⟨l⟩ : Array Value).getD 30 undef, (⟨l⟩ : Array Value).getD 31 undef, (⟨l⟩ : Array Value).getD 32 undef, (⟨l⟩ : Array Value).getD 33 undef, (⟨l⟩ : Array Value).getD 34 undef, (⟨l⟩ : Array Value).getD 35 undef, (⟨l⟩ : Array Value).getD 36 undef, (⟨l⟩ : Array Value).getD 37 undef, (⟨l⟩ : Array Value).getD 38 undef, (⟨l⟩ : Array Value).getD 39 undef, (⟨l⟩ : Array Value).getD 40 undef, (⟨l⟩ : Array Value).getD 41 undef, (⟨l⟩ : Array Value).getD 42 undef, (⟨l⟩ : Array Value).getD 43 undef, (⟨l⟩ : Array Value).getD 44 undef, (⟨l⟩ : Array Value).getD 45 undef, (⟨l⟩ : Array Value).getD 46 undef, (⟨l⟩ : Array Value).getD 47 undef, (⟨l⟩ : Array Value).getD 48 undef, (⟨l⟩ : Array Value).getD 49 undef, (⟨l⟩ : Array Value).getD 50 undef, (⟨l⟩ : Array Value).getD 51 undef, (⟨l⟩ : Array Value).getD 52 undef] := rfl
  rw [e2] at e
  exact congrArg _ e

theorem scope_three19 {P : Program} {a : Act} {w : World} {Q : Exit → Act → World → Prop} {A1 A2 A3 X : Code} (l : Nat) (J : Act → World → Prop) (μ : Act → World → Nat) (hf : findLabel (A1.seq (A2.seq (A3.seq ((Code.label l).seq X)))) l = some (Code.skip.seq X))
    (pre : A1.wp P (Exit.then (fun a w => A2.wp P (Exit.then (fun a w => A3.wp P (Exit.then J (fun _ _ _ => False)) a w) (fun _ _ _ => False)) a w) (fun _ _ _ => False)) a w)
    (pass : ∀ a w, J a w → X.wp P (Exit.jump l (fun a' w' => J a' w' ∧ μ a' w' < μ a w) Q) a w) : (Code.scope (A1.seq (A2.seq (A3.seq ((Code.label l).seq X))))).wp P Q a w := by
  refine wp_scope_jumps l J μ hf ?_ (fun a w h => wp_seq (wp_skip (pass a w h)))
  refine wp_seq (then_more15 pre fun a w h => wp_seq (then_more15 h fun a w h => wp_seq (then_more15 h fun a w h => wp_seq (wp_label ?_))))
  refine (show X.wp P (Exit.jump l J Q) a w from fun b k cs => ?_)
  obtain ⟨e, a2, w2, h2, arr2⟩ := pass a w h b k cs
  refine ⟨e, a2, w2, ?_, arr2⟩
  cases e <;> first | exact h2 | exact ⟨h2.1, h2.2.1⟩
def CB (B : Nat) (vc : Value) (l : List Nat) : Prop := l = [] ∨ ∃ g o c n, vc = .slice (some ⟨g, o, none⟩) n c ∧ g ≠ B
theorem rwx_km {w X : World} {B : Nat} {vc : Value} {l : List Nat} (h : RwX cB w vc l) (hc : CB B vc l) (hk : KM B w X) : RwX cB X vc l := by
  obtain ⟨ao, c, e, hcc, h⟩ := h
  refine ⟨ao, c, e, hcc, ?_⟩
  rcases h with h | ⟨b, off, e2, h⟩
  · exact .inl h
  · rcases hc with hc | ⟨g, o, c', n, e3, hg⟩
    · exact .inl hc
    · right
      have : g = b := by
        subst e2
        rw [e3] at e
        injection e with e4
        injection e4 with e4
        injection e4
      subst this
      refine ⟨g, off, e2, fun j x hj => ?_⟩
      have hj2 := h j x hj
      exact (World.cell?_of_block (a := ⟨g, off + j, none⟩) (hk.ot.2 g (cell_in hj2) hg)).trans hj2
theorem CB.ne {w : World} {M : Nat} {vc : Value} {l : List Nat} (h : RwX cB w vc l) (hM : w.heap.size ≤ M) : CB M vc l := by
  obtain ⟨ao, c, e, hcc, h⟩ := h
  rcases h with h | ⟨b, off, e2, h⟩
  · exact .inl h
  · by_cases hl : l = []
    · exact .inl hl
    · right
      subst e2
      refine ⟨b, off, c, l.length, e, ?_⟩
      obtain ⟨y, ys, rfl⟩ := List.exists_cons_of_ne_nil hl
      have := cell_in (h 0 y rfl)
      omega
structure RG9 (w : World) (B : Nat) (F : Int) (vc : Value) (x : BitVec 128) (m : Mc) (Wb : World) (M : Nat) (U : List (BitVec 32)) (o N : Int) (cl mv ex st : Bool) (g : Value) (X : World) : Prop where
  e : DX w B F vc x m X
  sz : Wb.heap.size ≤ X.heap.size
  l : st = false → ∃ a0 a1 a2, X.heap[M]? = some (.cells #[a0, a1, a2] 56)
  d : cl = true → X.ownsRow Wb.heap.size 71 1 g U.length (U.map cU)
  s : st = true → X.heap[M]? = some (.cells #[.int .i64 o, .int .i64 N, g] 56)
  p1 : st = true → ex = true
  p3 : mv = true → cl = true
  p4 : ex = true → mv = true
structure GJ (w : World) (B : Nat) (F : Int) (vc : Value) (x : BitVec 128) (l : List Nat) (mE : Mc) (f : Int) (M : Nat) (m : Mc) (W : World) : Prop where
  dx : DX w B F vc x m W
  i : ∃ a0 a1 a2, W.heap[M]? = some (.cells #[a0, a1, a2] 56)
  bM : w.heap.size ≤ M
  ok : MOk F ((l.length / 4 : Nat) : Int) m
  go : goM F x l f.toNat m = mE
  fb : f ≤ 9223372036854775807
theorem dcI_len (l : List Nat) (a : Int) : (dcI l a).m.length ≤ 524288 := by
  unfold dcI; split
  · exact rdP_len _ _
  · simp
theorem dcZ_bd (l : List Nat) (a : Int) : 0 ≤ dcZ l a ∧ dcZ l a ≤ 1000000 := by
  have := dcI_len l a
  unfold dcZ; split <;> omega
set_option maxHeartbeats 16000000 in
theorem goOn19 (B : Nat) (F : Int) (vc : Value) (x : BitVec 128) (m : Mc) (n : Int) (l : List Nat) (w : World) (h : MV w B F vc x m) (hcb : CB B vc l) (hcode : RwX cB w vc l) (hl : l.length ≤ 16777216) (hx : ∀ b ∈ l, b < 256) (hm : MOk F ((l.length / 4 : Nat) : Int) m) (hn : n ≤ 9223372036854775807) :
    Calls Try.prog 21 #[.pointer (some ⟨B, 0, none⟩), .int .i64 n] w fun r w' => r = .returned (.tuple #[]) ∧ MV w' B F vc x (goM F x l n.toNat m) ∧ KM B w w' := by
  have HM := hid13 h
  have HB := hid13 h.lt
  have HC : Hid (∀ X, KM B w X → RwX cB X vc l) := hid13 (fun X hX => rwx_km hcode hcb hX)
  have HL := hid13 (And.intro hl hx)
  have HOK := hid13 hm
  have HN := hid13 hn
  obtain ⟨mE, hE⟩ : ∃ mE, mE = goM F x l n.toNat m := ⟨_, rfl⟩
  have HE := hid13 hE
  rw [← hE]
  have q0 := bl1 w (.cells #[.int .i64 0, .int .i64 0, .slice none 0 0] 56)
  have HI0 : Hid ((w.alloc (.cells #[.int .i64 0, .int .i64 0, .slice none 0 0] 56)).heap[w.heap.size]? = some (.cells #[.int .i64 0, .int .i64 0, .slice none 0 0] 56)) := new_16 _ _
  have HD0 : Hid (DX w B F vc x m (w.alloc (.cells #[.int .i64 0, .int .i64 0, .slice none 0 0] 56))) := ⟨h.below q0, (KM.refl B w).below h.lt q0⟩
  clear h hcb hcode hl hx hm hn hE q0
  go_enter Try.func21, Try.ntmps21
  refine scope_three19 0 (fun a' W => ∃ (f : Int) (M : Nat) (m' : Mc), a'.tmps.size = 53 ∧ a'.tmps.getD 0 undef = .pointer (some ⟨B, 0, none⟩) ∧ a'.tmps.getD 1 undef = .int .i64 f ∧ a'.tmps.getD 4 undef = .pointer (some ⟨M, 0, none⟩) ∧ a'.defers = [] ∧ Hid (GJ w B F vc x l mE f M m' W)) (fun a' _ => (intOf13 (a'.tmps.getD 1 undef)).toNat) (by rfl) ?pre ?pass
  case pre =>
    have HJ : Hid (GJ w B F vc x l mE n w.heap.size m (w.alloc (.cells #[.int .i64 0, .int .i64 0, .slice none 0 0] 56))) := ⟨HD0.out, ⟨_, _, _, HI0.out⟩, Nat.le_refl _, HOK.out, HE.out.symm, HN.out⟩
    clear HD0 HI0 HM HB HC HL HOK HN HE
    go_wp2_with fail
    exact ⟨n, w.heap.size, m, by first | rfl | trivial, by first | rfl | trivial, by first | rfl | trivial, by first | rfl | trivial, by first | rfl | trivial, HJ⟩
  case pass =>
    clear HD0 HI0 HM HOK HN HE
    rintro ⟨tm9, df⟩ W ⟨f, M, m', hsz, h0, h1, h4, hdf, HJ⟩
    dsimp only at hsz h0 h1 h4 hdf
    obtain ⟨u, hu, htm⟩ := arr53a tm9 hsz
    rw [← hu] at h0 h1 h4
    rw [htm, hdf, h0, h1, h4]
    have HMU : Hid (∀ (a9 : Act), a9.tmps.getD 1 undef = .int .i64 (f - 1) → 0 < f → (intOf13 (a9.tmps.getD 1 undef)).toNat < (intOf13 (Value.int .i64 f)).toNat) := by
      intro a9 h9 hf
      rw [h9]
      simp only [intOf13]
      omega
    clear hu htm hsz h0 h1 h4 hdf tm9 df
    have e5 := HJ.out.dx.1.c5
    cases he : m'.en with
    | true =>
      rw [he] at e5
      have HF : Hid (MV W B F vc x mE ∧ KM B w W) := by
        refine ⟨?_, HJ.out.dx.2⟩
        have := HJ.out.go
        rw [goM_en he] at this
        rw [← this]; exact HJ.out.dx.1
      clear HJ HMU
      go_wp2
      refine jump_ret15 ?_
      exact bodyPost_ret (v := .tuple #[]) (by simp [results, Try.results21, go_sem]) rfl ⟨rfl, HF.out.1, HF.out.2⟩
    | false =>
      rw [he] at e5
      by_cases hf : f ≤ 0
      · have HF : Hid (MV W B F vc x mE ∧ KM B w W) := by
          refine ⟨?_, HJ.out.dx.2⟩
          have := HJ.out.go
          rw [show f.toNat = 0 by omega] at this
          rw [← this]; exact HJ.out.dx.1
        clear HJ HMU
        go_wp2
        refine jump_ret15 ?_
        exact bodyPost_ret (v := .tuple #[]) (by simp [results, Try.results21, go_sem]) rfl ⟨rfl, HF.out.1, HF.out.2⟩
      · have HEn := hid13 he
        have hf2 : ¬ f ≤ 0 := hf
        have HFp : Hid (0 < f) := hid13 (by omega)
        have HGo : Hid (goM F x l (f - 1).toNat (stM F x l m') = mE) := by
          have := HJ.out.go
          rw [show f.toNat = (f - 1).toNat + 1 by omega, goM_go he] at this
          exact this
        have HDc : Hid (∀ X, RwX cB X vc l → Calls Try.prog 30 #[vc, .int .i64 m'.pl] X fun e w' => ∃ v', e = .returned (.tuple #[.agg #[.int .i64 (dcI l m'.pl).op, .int .i64 (dcI l m'.pl).n, v'], .int .i64 (dcZ l m'.pl), .int .i64 (dcE l m'.pl)]) ∧ w'.ownsRow X.heap.size 71 1 v' (dcI l m'.pl).m.length ((dcI l m'.pl).m.map cU) ∧ Below X.heap.size X w') := hid13 (fun X hX => decode_any vc l m'.pl X hX (by have := HL.out; omega) HL.out.2)
        have HSt : Hid ((dcE l m'.pl ≠ 0 → stM F x l m' = { m' with en := true, err := dcE l m'.pl }) ∧ (dcE l m'.pl = 0 → DcF l m'.pl ∧ (doE F m' (dcI l m'.pl) ≠ 0 → stM F x l m' = { m' with en := true, err := doE F m' (dcI l m'.pl) }) ∧ (doE F m' (dcI l m'.pl) = 0 → stM F x l m' = { doM F x m' (dcI l m'.pl) (dcZ l m'.pl) with st := m'.st + 1 }))) := ⟨fun q => stM_dc q, fun q => ⟨dcF q, fun q2 => stM_do q q2, fun q2 => stM_ok q q2⟩⟩
        have HZ := hid13 (dcZ_bd l m'.pl)
        have HUl := hid13 (dcI_len l m'.pl)
        have HDo : Hid (dcE l m'.pl = 0 → ∀ X v, MV X B F vc x m' → RwX cU X v (dcI l m'.pl).m → Calls Try.prog 31 #[.pointer (some ⟨B, 0, none⟩), .agg #[.int .i64 (dcI l m'.pl).op, .int .i64 (dcI l m'.pl).n, v], .int .i64 (dcZ l m'.pl)] X fun r w' => r = .returned (.int .i64 (doE F m' (dcI l m'.pl))) ∧ MV w' B F vc x (doM F x m' (dcI l m'.pl) (dcZ l m'.pl)) ∧ KM B X w') := by
          intro q X v hX hv
          have D := dcF q
          exact do19 B F _ vc x m' _ _ v _ _ X hX hv HUl.out HZ.out D.op ⟨D.n0, D.n1⟩ (fun o1 => (D.nx (by omega) (by omega)).2) HJ.out.ok he (by have := HL.out.1; omega)
        have HDE : Hid (doE F m' (dcI l m'.pl) ≠ 0 → doM F x m' (dcI l m'.pl) (dcZ l m'.pl) = m') := hid13 (fun q => doM_err q)
        obtain ⟨mN, hmN⟩ : ∃ mN, mN = stM F x l m' := ⟨_, rfl⟩
        obtain ⟨mD, hmD⟩ : ∃ mD, mD = doM F x m' (dcI l m'.pl) (dcZ l m'.pl) := ⟨_, rfl⟩
        have HOkN : Hid (MOk F ((l.length / 4 : Nat) : Int) mN) := by rw [hmN]; exact stM_mok rfl HJ.out.ok he
        obtain ⟨E1, hE1⟩ : ∃ E1, E1 = doE F m' (dcI l m'.pl) := ⟨_, rfl⟩
        rw [← hE1, ← hmD] at HDo HSt
        rw [← hE1, ← hmD] at HDE
        rw [← hmN] at HSt HGo
        obtain ⟨E, hE⟩ : ∃ E, E = dcE l m'.pl := ⟨_, rfl⟩
        obtain ⟨o, ho⟩ : ∃ o, o = (dcI l m'.pl).op := ⟨_, rfl⟩
        obtain ⟨N, hN⟩ : ∃ N, N = (dcI l m'.pl).n := ⟨_, rfl⟩
        obtain ⟨U, hU⟩ : ∃ U, U = (dcI l m'.pl).m := ⟨_, rfl⟩
        obtain ⟨Z, hZ⟩ : ∃ Z, Z = dcZ l m'.pl := ⟨_, rfl⟩
        rw [← ho, ← hN, ← hU, ← hZ, ← hE] at HDc
        rw [← ho, ← hN, ← hU, ← hZ, ← hE] at HDo
        rw [← hE] at HSt
        have hsd : mD.st = m'.st := by
          rw [hmD]; unfold doM exM ixM
          repeat' split
          all_goals rfl
        have hst1 : IntKind.i64.wrap (m'.st + 1) = m'.st + 1 := by
          rw [IntKind.wrap_i64]
          have h1 := HJ.out.ok.s0
          have h2 := HJ.out.ok.s1
          have h3 := HL.out.1
          omega
        have mf : IntKind.i64.wrap (f - 1) = f - 1 := by rw [IntKind.wrap_i64]; have := HJ.out.fb; omega
        have HNB : Hid (M ≠ B ∧ w.heap.size ≤ M) := ⟨by have := HJ.out.bM; have := HB.out; omega, HJ.out.bM⟩
        have HFb : Hid (f - 1 ≤ 9223372036854775807) := hid13 (by have := HJ.out.fb; omega)
        clear hmN hmD hE1 hE ho hN hU hZ HZ HUl HL
        have HR0 : Hid (RG9 w B F vc x m' W M U o N false false false false undef W.drew) := ⟨HJ.out.dx.below HB.out (Below.refl _ _).drew, (Below.refl W.heap.size W).drew.size, fun _ => (by obtain ⟨a0, a1, a2, h⟩ := HJ.out.i; exact ⟨a0, a1, a2, ((Below.refl _ _).drew.block _ (lt_16 h)).trans h⟩), fun q => (by cases q), fun q => (by cases q), fun q => (by cases q), fun q => (by cases q), fun q => (by cases q)⟩
        clear HJ he hf
        go_wp2_with fail
        clear e5
        refine gh_region (γ := Value) (qpOk 16 16 (by decide) (fun N => by kernel_rfl) (by kernel_rfl) (by kernel_rfl) (by kernel_rfl) (by kernel_rfl)) (by kernel_rfl) (by kernel_rfl) [some 16, some 17, some 18, some 19, some 20, some 21, some 22, some 23, some 24, some 15, some 25, some 26, some 27, none, some 5, some 6] (fun g => [.pointer (some ⟨B, 0, none⟩), .pointer (some ⟨B, 0, none⟩), .pointer (some ⟨B, 1, none⟩), vc, .pointer (some ⟨B, 0, none⟩), .pointer (some ⟨B, 0, none⟩), .pointer (some ⟨B, 4, none⟩), .int .i64 m'.pl, .tuple #[.agg #[.int .i64 o, .int .i64 N, g], .int .i64 Z, .int .i64 E], .tuple #[.agg #[.int .i64 o, .int .i64 N, g], .int .i64 Z, .int .i64 E], .agg #[.int .i64 o, .int .i64 N, g], .int .i64 Z, .int .i64 E, undef, .int .i64 Z, .int .i64 E]) (by kernel_rfl) (by simp) (fun lp g X => RG9 w B F vc x m' W M U o N (lp.getD 8 false) (lp.getD 9 false) (lp.getD 10 false) (lp.getD 13 false) g X) undef HR0.out ?step4 ?fin4
        case step4 =>
          intro q o lp g w' a' ho hsz hun hdep hR hS K Q' hK
          have hfl : ∀ j, j ≠ q → (lp.setIfInBounds q true).getD j false = lp.getD j false := fun j hj => by rw [Array.getD_eq_getD_getElem?, Array.getD_eq_getD_getElem?, Array.getElem?_setIfInBounds_ne (by omega)]
          have hq : q < 16 := (List.getElem?_eq_some_iff.mp ho).1
          match q, ho, hun, hdep, hK, hfl, hq with
          | 0, ho, hun, hdep, hK, hfl, _ =>
            obtain rfl := Option.some.inj ho
            have o0 : a'.tmps[0]? = some (.pointer (some ⟨B, 0, none⟩)) := (hS.old14 0 (by simp)).trans rfl
            have hK' := hK g w' (fun _ _ _ _ _ _ => rfl) (by rw [hfl 8 (by decide), hfl 9 (by decide), hfl 10 (by decide), hfl 13 (by decide)]; exact hR) (.pointer (some ⟨B, 0, none⟩)) (by simp only [valO, Option.bind_some]; (try simp only [putAll, Act.put, List.setIfInBounds_toArray, List.set_cons_zero, List.set_cons_succ]); (try rfl))
            clear hS hdep hR
            refine gh_quiet14 (v := .pointer (some ⟨B, 0, none⟩)) ?_ ?_
            · (simp only [execOp, Act.eval, o0]; go_simp; first | done | (simp; done) | (simp [*]; done) | omega | (rw [IntKind.wrap_i64]; omega))
            · exact hK'
          | 1, ho, hun, hdep, hK, hfl, _ =>
            obtain rfl := Option.some.inj ho
            have d0 : lp.getD 0 false = true := hdep { on := 0, ground := .data } (by simp) rfl
            have e16 : a'.tmps[16]? = some (.pointer (some ⟨B, 0, none⟩)) := (hS.don 0 _ 16 rfl d0 rfl).trans (by simp only [putAll, Act.put, List.setIfInBounds_toArray, List.set_cons_zero, List.set_cons_succ]; rfl)
            have hK' := hK g w' (fun _ _ _ _ _ _ => rfl) (by rw [hfl 8 (by decide), hfl 9 (by decide), hfl 10 (by decide), hfl 13 (by decide)]; exact hR) (.pointer (some ⟨B, 0, none⟩)) (by simp only [valO, Option.bind_some]; (try simp only [putAll, Act.put, List.setIfInBounds_toArray, List.set_cons_zero, List.set_cons_succ]); (try rfl))
            clear hS hdep hR
            refine gh_quiet14 (v := .pointer (some ⟨B, 0, none⟩)) ?_ ?_
            · (simp only [execOp, Act.eval, e16]; go_simp; first | done | (simp; done) | (simp [*]; done) | omega | (rw [IntKind.wrap_i64]; omega))
            · exact hK'
          | 2, ho, hun, hdep, hK, hfl, _ =>
            obtain rfl := Option.some.inj ho
            have d1 : lp.getD 1 false = true := hdep { on := 1, ground := .data } (by simp) rfl
            have e17 : a'.tmps[17]? = some (.pointer (some ⟨B, 0, none⟩)) := (hS.don 1 _ 17 rfl d1 rfl).trans (by simp only [putAll, Act.put, List.setIfInBounds_toArray, List.set_cons_zero, List.set_cons_succ]; rfl)
            have hK' := hK g w' (fun _ _ _ _ _ _ => rfl) (by rw [hfl 8 (by decide), hfl 9 (by decide), hfl 10 (by decide), hfl 13 (by decide)]; exact hR) (.pointer (some ⟨B, 1, none⟩)) (by simp only [valO, Option.bind_some]; (try simp only [putAll, Act.put, List.setIfInBounds_toArray, List.set_cons_zero, List.set_cons_succ]); (try rfl))
            clear hS hdep hR
            refine gh_quiet14 (v := .pointer (some ⟨B, 1, none⟩)) ?_ ?_
            · (simp only [execOp, Act.eval, e17]; go_simp; first | done | (simp; done) | (simp [*]; done) | omega | (rw [IntKind.wrap_i64]; omega))
            · exact hK'
          | 3, ho, hun, hdep, hK, hfl, _ =>
            obtain rfl := Option.some.inj ho
            have d2 : lp.getD 2 false = true := hdep { on := 2, ground := .data } (by simp) rfl
            have e18 : a'.tmps[18]? = some (.pointer (some ⟨B, 1, none⟩)) := (hS.don 2 _ 18 rfl d2 rfl).trans (by simp only [putAll, Act.put, List.setIfInBounds_toArray, List.set_cons_zero, List.set_cons_succ]; rfl)
            have k1 := hR.e.1.c1
            have hK' := hK g w' (fun _ _ _ _ _ _ => rfl) (by rw [hfl 8 (by decide), hfl 9 (by decide), hfl 10 (by decide), hfl 13 (by decide)]; exact hR) (vc) (by simp only [valO, Option.bind_some]; (try simp only [putAll, Act.put, List.setIfInBounds_toArray, List.set_cons_zero, List.set_cons_succ]); (try rfl))
            clear hS hdep hR
            refine gh_quiet14 (v := vc) ?_ ?_
            · (simp only [execOp, Act.eval, e18]; go_simp; first | done | (simp; done) | (simp [*]; done) | omega | (rw [IntKind.wrap_i64]; omega))
            · exact hK'
          | 4, ho, hun, hdep, hK, hfl, _ =>
            obtain rfl := Option.some.inj ho
            have o0 : a'.tmps[0]? = some (.pointer (some ⟨B, 0, none⟩)) := (hS.old14 0 (by simp)).trans rfl
            have hK' := hK g w' (fun _ _ _ _ _ _ => rfl) (by rw [hfl 8 (by decide), hfl 9 (by decide), hfl 10 (by decide), hfl 13 (by decide)]; exact hR) (.pointer (some ⟨B, 0, none⟩)) (by simp only [valO, Option.bind_some]; (try simp only [putAll, Act.put, List.setIfInBounds_toArray, List.set_cons_zero, List.set_cons_succ]); (try rfl))
            clear hS hdep hR
            refine gh_quiet14 (v := .pointer (some ⟨B, 0, none⟩)) ?_ ?_
            · (simp only [execOp, Act.eval, o0]; go_simp; first | done | (simp; done) | (simp [*]; done) | omega | (rw [IntKind.wrap_i64]; omega))
            · exact hK'
          | 5, ho, hun, hdep, hK, hfl, _ =>
            obtain rfl := Option.some.inj ho
            have d4 : lp.getD 4 false = true := hdep { on := 4, ground := .data } (by simp) rfl
            have e20 : a'.tmps[20]? = some (.pointer (some ⟨B, 0, none⟩)) := (hS.don 4 _ 20 rfl d4 rfl).trans (by simp only [putAll, Act.put, List.setIfInBounds_toArray, List.set_cons_zero, List.set_cons_succ]; rfl)
            have hK' := hK g w' (fun _ _ _ _ _ _ => rfl) (by rw [hfl 8 (by decide), hfl 9 (by decide), hfl 10 (by decide), hfl 13 (by decide)]; exact hR) (.pointer (some ⟨B, 0, none⟩)) (by simp only [valO, Option.bind_some]; (try simp only [putAll, Act.put, List.setIfInBounds_toArray, List.set_cons_zero, List.set_cons_succ]); (try rfl))
            clear hS hdep hR
            refine gh_quiet14 (v := .pointer (some ⟨B, 0, none⟩)) ?_ ?_
            · (simp only [execOp, Act.eval, e20]; go_simp; first | done | (simp; done) | (simp [*]; done) | omega | (rw [IntKind.wrap_i64]; omega))
            · exact hK'
          | 6, ho, hun, hdep, hK, hfl, _ =>
            obtain rfl := Option.some.inj ho
            have d5 : lp.getD 5 false = true := hdep { on := 5, ground := .data } (by simp) rfl
            have e21 : a'.tmps[21]? = some (.pointer (some ⟨B, 0, none⟩)) := (hS.don 5 _ 21 rfl d5 rfl).trans (by simp only [putAll, Act.put, List.setIfInBounds_toArray, List.set_cons_zero, List.set_cons_succ]; rfl)
            have hK' := hK g w' (fun _ _ _ _ _ _ => rfl) (by rw [hfl 8 (by decide), hfl 9 (by decide), hfl 10 (by decide), hfl 13 (by decide)]; exact hR) (.pointer (some ⟨B, 4, none⟩)) (by simp only [valO, Option.bind_some]; (try simp only [putAll, Act.put, List.setIfInBounds_toArray, List.set_cons_zero, List.set_cons_succ]); (try rfl))
            clear hS hdep hR
            refine gh_quiet14 (v := .pointer (some ⟨B, 4, none⟩)) ?_ ?_
            · (simp only [execOp, Act.eval, e21]; go_simp; first | done | (simp; done) | (simp [*]; done) | omega | (rw [IntKind.wrap_i64]; omega))
            · exact hK'
          | 7, ho, hun, hdep, hK, hfl, _ =>
            obtain rfl := Option.some.inj ho
            have d6 : lp.getD 6 false = true := hdep { on := 6, ground := .data } (by simp) rfl
            have e22 : a'.tmps[22]? = some (.pointer (some ⟨B, 4, none⟩)) := (hS.don 6 _ 22 rfl d6 rfl).trans (by simp only [putAll, Act.put, List.setIfInBounds_toArray, List.set_cons_zero, List.set_cons_succ]; rfl)
            have k4 := hR.e.1.c4
            have hK' := hK g w' (fun _ _ _ _ _ _ => rfl) (by rw [hfl 8 (by decide), hfl 9 (by decide), hfl 10 (by decide), hfl 13 (by decide)]; exact hR) (.int .i64 m'.pl) (by simp only [valO, Option.bind_some]; (try simp only [putAll, Act.put, List.setIfInBounds_toArray, List.set_cons_zero, List.set_cons_succ]); (try rfl))
            clear hS hdep hR
            refine gh_quiet14 (v := .int .i64 m'.pl) ?_ ?_
            · (simp only [execOp, Act.eval, e22]; go_simp; first | done | (simp; done) | (simp [*]; done) | omega | (rw [IntKind.wrap_i64]; omega))
            · exact hK'
          | 8, ho, hun, hdep, hK, hfl, _ =>
            obtain rfl := Option.some.inj ho
            have d3 : lp.getD 3 false = true := hdep { on := 3, ground := .data } (by simp) rfl
            have e19 : a'.tmps[19]? = some (vc) := (hS.don 3 _ 19 rfl d3 rfl).trans (by simp only [putAll, Act.put, List.setIfInBounds_toArray, List.set_cons_zero, List.set_cons_succ]; rfl)
            have d7 : lp.getD 7 false = true := hdep { on := 7, ground := .data } (by simp) rfl
            have e23 : a'.tmps[23]? = some (.int .i64 m'.pl) := (hS.don 7 _ 23 rfl d7 rfl).trans (by simp only [putAll, Act.put, List.setIfInBounds_toArray, List.set_cons_zero, List.set_cons_succ]; rfl)
            have hst : lp.getD 13 false = false := by
              cases h : lp.getD 13 false with
              | false => rfl
              | true => have := hR.p3 (hR.p4 (hR.p1 h)); rw [hun] at this; cases this
            have KC := HDc.out w' (HC.out w' hR.e.2)
            clear hdep
            unfold Oper.wp
            simp only [execOp, Act.eval, Array.getD_eq_getD_getElem?]
            simp [go_sem, e19, e23, Oper.upon]
            refine KC.mono ?_
            rintro e W2 ⟨v2, rfl, ho2, hb⟩
            exact hK v2 W2 (fun k' ok s hk hl hd => gh_same18 (d := 24) (e := 15) (f := 25) (s := s) (by simp only [putAll, Act.put, List.setIfInBounds_toArray, List.set_cons_zero, List.set_cons_succ]; rfl) (by rintro rfl; have := dstG_of (by kernel_rfl) k' 8 ok _ 24 hk rfl hd rfl; subst this; rw [hun] at hl; cases hl) (by rintro rfl; have := dstG_of (by kernel_rfl) k' 9 ok _ 15 hk rfl hd rfl; subst this; have := hR.p3 hl; rw [hun] at this; cases this) (by rintro rfl; have := dstG_of (by kernel_rfl) k' 10 ok _ 25 hk rfl hd rfl; subst this; have := hR.p3 (hR.p4 hl); rw [hun] at this; cases this)) (by rw [hfl 9 (by decide), hfl 10 (by decide), hfl 13 (by decide), getD_set_same (by rw [hsz]; decide)]; exact ⟨hR.e.below HB.out hb, Nat.le_trans hR.sz hb.size, fun q1 => (by obtain ⟨a0, a1, a2, hh⟩ := hR.l q1; exact ⟨a0, a1, a2, (hb.block _ (lt_16 hh)).trans hh⟩), fun _ => own_base16 ho2 hR.sz, fun q => (by rw [hst] at q; cases q), hR.p1, fun _ => rfl, hR.p4⟩) _ (by simp only [valO, Option.bind_some]; simp only [putAll, Act.put, List.setIfInBounds_toArray, List.set_cons_zero, List.set_cons_succ]; rfl)
          | 9, ho, hun, hdep, hK, hfl, _ =>
            obtain rfl := Option.some.inj ho
            have d8 : lp.getD 8 false = true := hdep { on := 8, ground := .data } (by simp) rfl
            have e24 : a'.tmps[24]? = some (.tuple #[.agg #[.int .i64 o, .int .i64 N, g], .int .i64 Z, .int .i64 E]) := (hS.don 8 _ 24 rfl d8 rfl).trans (by simp only [putAll, Act.put, List.setIfInBounds_toArray, List.set_cons_zero, List.set_cons_succ]; rfl)
            have hK' := hK g w' (fun _ _ _ _ _ _ => rfl) (by rw [hfl 8 (by decide), hfl 10 (by decide), hfl 13 (by decide), getD_set_same (by rw [hsz]; decide)]; exact ⟨hR.e, hR.sz, hR.l, hR.d, hR.s, hR.p1, fun _ => d8, fun _ => rfl⟩) (.tuple #[.agg #[.int .i64 o, .int .i64 N, g], .int .i64 Z, .int .i64 E]) (by simp only [valO, Option.bind_some]; (try simp only [putAll, Act.put, List.setIfInBounds_toArray, List.set_cons_zero, List.set_cons_succ]); (try rfl))
            clear hS hdep hR
            refine gh_quiet14 (v := .tuple #[.agg #[.int .i64 o, .int .i64 N, g], .int .i64 Z, .int .i64 E]) ?_ ?_
            · (simp only [execOp, Act.eval, e24]; go_simp; first | done | (simp; done) | (simp [*]; done) | omega | (rw [IntKind.wrap_i64]; omega))
            · exact hK'
          | 10, ho, hun, hdep, hK, hfl, _ =>
            obtain rfl := Option.some.inj ho
            have d9 : lp.getD 9 false = true := hdep { on := 9, ground := .data } (by simp) rfl
            have e15 : a'.tmps[15]? = some (.tuple #[.agg #[.int .i64 o, .int .i64 N, g], .int .i64 Z, .int .i64 E]) := (hS.don 9 _ 15 rfl d9 rfl).trans (by simp only [putAll, Act.put, List.setIfInBounds_toArray, List.set_cons_zero, List.set_cons_succ]; rfl)
            have hK' := hK g w' (fun _ _ _ _ _ _ => rfl) (by rw [hfl 8 (by decide), hfl 9 (by decide), hfl 13 (by decide), getD_set_same (by rw [hsz]; decide)]; exact ⟨hR.e, hR.sz, hR.l, hR.d, hR.s, fun _ => rfl, hR.p3, fun _ => d9⟩) (.agg #[.int .i64 o, .int .i64 N, g]) (by simp only [valO, Option.bind_some]; (try simp only [putAll, Act.put, List.setIfInBounds_toArray, List.set_cons_zero, List.set_cons_succ]); (try rfl))
            clear hS hdep hR
            refine gh_quiet14 (v := .agg #[.int .i64 o, .int .i64 N, g]) ?_ ?_
            · (simp only [execOp, Act.eval, e15]; go_simp; first | done | (simp; done) | (simp [*]; done) | omega | (rw [IntKind.wrap_i64]; omega))
            · exact hK'
          | 11, ho, hun, hdep, hK, hfl, _ =>
            obtain rfl := Option.some.inj ho
            have d9 : lp.getD 9 false = true := hdep { on := 9, ground := .data } (by simp) rfl
            have e15 : a'.tmps[15]? = some (.tuple #[.agg #[.int .i64 o, .int .i64 N, g], .int .i64 Z, .int .i64 E]) := (hS.don 9 _ 15 rfl d9 rfl).trans (by simp only [putAll, Act.put, List.setIfInBounds_toArray, List.set_cons_zero, List.set_cons_succ]; rfl)
            have hK' := hK g w' (fun _ _ _ _ _ _ => rfl) (by rw [hfl 8 (by decide), hfl 9 (by decide), hfl 10 (by decide), hfl 13 (by decide)]; exact hR) (.int .i64 Z) (by simp only [valO, Option.bind_some]; (try simp only [putAll, Act.put, List.setIfInBounds_toArray, List.set_cons_zero, List.set_cons_succ]); (try rfl))
            clear hS hdep hR
            refine gh_quiet14 (v := .int .i64 Z) ?_ ?_
            · (simp only [execOp, Act.eval, e15]; go_simp; first | done | (simp; done) | (simp [*]; done) | omega | (rw [IntKind.wrap_i64]; omega))
            · exact hK'
          | 12, ho, hun, hdep, hK, hfl, _ =>
            obtain rfl := Option.some.inj ho
            have d9 : lp.getD 9 false = true := hdep { on := 9, ground := .data } (by simp) rfl
            have e15 : a'.tmps[15]? = some (.tuple #[.agg #[.int .i64 o, .int .i64 N, g], .int .i64 Z, .int .i64 E]) := (hS.don 9 _ 15 rfl d9 rfl).trans (by simp only [putAll, Act.put, List.setIfInBounds_toArray, List.set_cons_zero, List.set_cons_succ]; rfl)
            have hK' := hK g w' (fun _ _ _ _ _ _ => rfl) (by rw [hfl 8 (by decide), hfl 9 (by decide), hfl 10 (by decide), hfl 13 (by decide)]; exact hR) (.int .i64 E) (by simp only [valO, Option.bind_some]; (try simp only [putAll, Act.put, List.setIfInBounds_toArray, List.set_cons_zero, List.set_cons_succ]); (try rfl))
            clear hS hdep hR
            refine gh_quiet14 (v := .int .i64 E) ?_ ?_
            · (simp only [execOp, Act.eval, e15]; go_simp; first | done | (simp; done) | (simp [*]; done) | omega | (rw [IntKind.wrap_i64]; omega))
            · exact hK'
          | 13, ho, hun, hdep, hK, hfl, _ =>
            obtain rfl := Option.some.inj ho
            have o4 : a'.tmps[4]? = some (.pointer (some ⟨M, 0, none⟩)) := (hS.old14 4 (by simp)).trans rfl
            have d10 : lp.getD 10 false = true := hdep { on := 10, ground := .data } (by simp) rfl
            have e25 : a'.tmps[25]? = some (.agg #[.int .i64 o, .int .i64 N, g]) := (hS.don 10 _ 25 rfl d10 rfl).trans (by simp only [putAll, Act.put, List.setIfInBounds_toArray, List.set_cons_zero, List.set_cons_succ]; rfl)
            have hcl := hR.p3 (hR.p4 d10)
            obtain ⟨a0, a1, a2, l1⟩ := hR.l hun
            have k0 := at_16 l1 0 _ rfl
            have k1 := at_16 l1 1 _ rfl
            have k2 := at_16 l1 2 _ rfl
            have f0 := fr_16 (j := 0) l1
            have f1 := fr_16 (j := 1) l1
            have f2 := fr_16 (j := 2) l1
            obtain ⟨sa, sc, hsv⟩ := own_form (hR.d hcl)
            have hnb : g.ownBlock ≠ some M := own_not18 (hR.d hcl) l1 (by decide)
            have hMB : B ≠ M := fun q => HNB.out.1 q.symm
            have hK' := hK g (((w'.setCell ⟨M, 0, none⟩ (.int .i64 o)).setCell ⟨M, 1, none⟩ (.int .i64 N)).setCell ⟨M, 2, none⟩ g) (fun _ _ _ _ _ _ => rfl) (by rw [hfl 8 (by decide), hfl 9 (by decide), hfl 10 (by decide), getD_set_same (by rw [hsz]; decide)]; exact ⟨⟨((hR.e.1.far hMB _).far hMB _).far hMB _, ((hR.e.2.setN HB.out HNB.out.2 _).setN HB.out HNB.out.2 _).setN HB.out HNB.out.2 _⟩, by simpa using hR.sz, fun q => (by cases q), fun _ => own_put3 (hR.d hcl) hnb _ _ _, fun _ => (by rw [set_16 (set_16 (set_16 l1 _) _) _]; rfl), fun _ => d10, hR.p3, hR.p4⟩) undef rfl
            rw [hsv] at hK' e25
            clear hS hdep hR hK l1 hnb
            unfold Oper.wp
            simp only [execOp, Act.eval, Array.getD_eq_getD_getElem?]
            simp [go_sem, o4, e25, k0, k1, k2, f0, f1, f2, Oper.upon]
            exact hK'
          | 14, ho, hun, hdep, hK, hfl, _ =>
            obtain rfl := Option.some.inj ho
            have d11 : lp.getD 11 false = true := hdep { on := 11, ground := .data } (by simp) rfl
            have e26 : a'.tmps[26]? = some (.int .i64 Z) := (hS.don 11 _ 26 rfl d11 rfl).trans (by simp only [putAll, Act.put, List.setIfInBounds_toArray, List.set_cons_zero, List.set_cons_succ]; rfl)
            have hK' := hK g w' (fun _ _ _ _ _ _ => rfl) (by rw [hfl 8 (by decide), hfl 9 (by decide), hfl 10 (by decide), hfl 13 (by decide)]; exact hR) (.int .i64 Z) (by simp only [valO, Option.bind_some]; (try simp only [putAll, Act.put, List.setIfInBounds_toArray, List.set_cons_zero, List.set_cons_succ]); (try rfl))
            clear hS hdep hR
            refine gh_quiet14 (v := .int .i64 Z) ?_ ?_
            · (simp only [execOp, Act.eval, e26]; go_simp; first | done | (simp; done) | (simp [*]; done) | omega | (rw [IntKind.wrap_i64]; omega))
            · exact hK'
          | 15, ho, hun, hdep, hK, hfl, _ =>
            obtain rfl := Option.some.inj ho
            have d12 : lp.getD 12 false = true := hdep { on := 12, ground := .data } (by simp) rfl
            have e27 : a'.tmps[27]? = some (.int .i64 E) := (hS.don 12 _ 27 rfl d12 rfl).trans (by simp only [putAll, Act.put, List.setIfInBounds_toArray, List.set_cons_zero, List.set_cons_succ]; rfl)
            have hK' := hK g w' (fun _ _ _ _ _ _ => rfl) (by rw [hfl 8 (by decide), hfl 9 (by decide), hfl 10 (by decide), hfl 13 (by decide)]; exact hR) (.int .i64 E) (by simp only [valO, Option.bind_some]; (try simp only [putAll, Act.put, List.setIfInBounds_toArray, List.set_cons_zero, List.set_cons_succ]); (try rfl))
            clear hS hdep hR
            refine gh_quiet14 (v := .int .i64 E) ?_ ?_
            · (simp only [execOp, Act.eval, e27]; go_simp; first | done | (simp; done) | (simp [*]; done) | omega | (rw [IntKind.wrap_i64]; omega))
            · exact hK'
          | n + 16, ho, hun, hdep, hK, hfl, hq => exact absurd hq (by omega)
        case fin4 =>
          intro g W2 hR
          have s1 := hR.s (by simp)
          have s3 := hR.d (by simp)
          simp only [putAll, Act.put, List.setIfInBounds_toArray, List.set_cons_zero, List.set_cons_succ]
          have HDX := hid13 hR.e
          have HI2 : Hid (W2.heap[M]? = some (.cells #[.int .i64 o, .int .i64 N, g] 56)) := s1
          have HV2 : Hid (RwX cU W2 g U) := own_rwx s3
          have k0 := at_16 s1 0 _ rfl
          have k1 := at_16 s1 1 _ rfl
          have k2 := at_16 s1 2 _ rfl
          clear hR s1 s3 HR0 HC HDc
          by_cases hE0 : E = 0
          · subst hE0
            have HS2 := hid13 (HSt.out.2 rfl)
            have KD := HDo.out rfl W2 g HDX.out.1 HV2.out
            obtain ⟨sa, sc, hsv, -⟩ := id HV2.out
            subst hsv
            clear HDo HSt
            go_wp2_with fail
            refine KD.mono ?_
            rintro e W3 ⟨rfl, h1, h2⟩
            have HX3 : Hid (DX w B F vc x mD W3) := ⟨h1, HDX.out.2.trans h2⟩
            have HI3 : Hid (∃ a0 a1 a2, W3.heap[M]? = some (.cells #[a0, a1, a2] 56)) := ⟨_, _, _, (h2.ot.2 M (lt_16 HI2.out) HNB.out.1).trans HI2.out⟩
            clear KD h1 h2 k0 k1 k2 HDX HI2 HV2
            by_cases hE1 : E1 = 0
            · subst hE1
              have hN := HS2.out.2.2 rfl
              have c8 := HX3.out.1.c8
              have f8 := HX3.out.1.fr 8
              rw [hsd] at c8
              have HG : Hid (GJ w B F vc x l mE (f - 1) M mN (W3.setCell ⟨B, 8, none⟩ (.int .i64 (m'.st + 1)))) := by
                refine ⟨⟨?_, HX3.out.2.set _⟩, ?_, HNB.out.2, HOkN.out, HGo.out, HFb.out⟩
                · rw [hN]; exact HX3.out.1.s8 _
                · obtain ⟨a0, a1, a2, hh⟩ := HI3.out
                  exact ⟨a0, a1, a2, (far_16 HNB.out.1).trans hh⟩
              clear HX3 HI3 HS2 hN HDE HGo HOkN
              go_wp2
              refine wp_goto ?_
              refine And.intro rfl (And.intro ⟨f - 1, M, mN, by first | rfl | trivial, by first | rfl | trivial, by first | rfl | trivial, by first | rfl | trivial, by first | rfl | trivial, HG⟩ ?_)
              exact HMU.out _ (by first | rfl | trivial) HFp.out
            · have hne : (E1 != 0) = true := by simpa using hE1
              have HD2 := hid13 (HDE.out hE1)
              have HN := hid13 (HS2.out.2.1 hE1)
              have K3 := fun X hX => end19 B F vc x mD E1 X hX
              clear HS2 HDE hE1
              go_wp2_with fail
              refine (K3 _ HX3.out.1).mono ?_
              rintro e W4 ⟨rfl, h1, h2⟩
              have HF : Hid (MV W4 B F vc x mE ∧ KM B w W4) := by
                refine ⟨?_, HX3.out.2.trans h2⟩
                have := HGo.out
                rw [HN.out, goM_en rfl] at this
                rw [← this]
                have h3 := h1
                rw [HD2.out] at h3
                exact h3
              clear K3 h1 h2 HX3 HI3 HN HGo HD2
              go_wp2
              refine jump_ret15 ?_
              exact bodyPost_ret (v := .tuple #[]) (by simp [results, Try.results21, go_sem]) rfl ⟨rfl, HF.out.1, HF.out.2⟩
          · have hne : (E != 0) = true := by simpa using hE0
            have HN := hid13 (HSt.out.1 hE0)
            have K3 := fun X hX => end19 B F vc x m' E X hX
            clear HSt HDo HDE hE0 k0 k1 k2 HI2 HV2
            go_wp2_with fail
            refine (K3 _ HDX.out.1).mono ?_
            rintro e W4 ⟨rfl, h1, h2⟩
            have HF : Hid (MV W4 B F vc x mE ∧ KM B w W4) := by
              refine ⟨?_, HDX.out.2.trans h2⟩
              have := HGo.out
              rw [HN.out, goM_en rfl] at this
              rw [← this]
              exact h1
            clear K3 h1 h2 HDX HN HGo
            go_wp2
            refine jump_ret15 ?_
            exact bodyPost_ret (v := .tuple #[]) (by simp [results, Try.results21, go_sem]) rfl ⟨rfl, HF.out.1, HF.out.2⟩
end Go.Proofs.Ytbgoclfifhdonaa
