/-
  Part 6 of the proof: 1 texts, one behind the other.
-/
import Derived.Test.YtdmogkajpginmaaDoorPart3
import Derived.Test.YtdmogkajpginmaaDoorPart4
import Derived.Test.YtdmogkajpginmaaDoorPart5
/-
  The law WireOwn.
-/
namespace Go.Proofs.YtdmogkajpginmaaDoor
open Go.RowKit
set_option linter.unusedSimpArgs false
set_option linter.unusedVariables false

def vec5 {α : Type} (a b c d e : α) : Nat → α
  | 0 => a
  | 1 => b
  | 2 => c
  | 3 => d
  | _ => e
def ety : Nat → Nat := vec5 5 5 5 26 3
theorem lt5 {i : Nat} (h : i < 5) : i = 0 ∨ i = 1 ∨ i = 2 ∨ i = 3 ∨ i = 4 := by omega
/-- Written over, the rows are as long as they were; the second and the third are as they were. -/
def Lo (X xs : Nat → List Value) : Prop := (∀ i, (xs i).length = (X i).length) ∧ xs 1 = X 1 ∧ xs 2 = X 2
theorem Lo.set {X xs : Nat → List Value} (h : Lo X xs) {i : Nat} (hi : i = 0 ∨ 3 ≤ i) (j : Nat) (x : Value) : Lo X (upd xs i ((xs i).set j x)) := by
  refine ⟨fun t => ?_, ?_, ?_⟩
  · by_cases c : t = i
    · subst c; rw [upd_same, List.length_set]; exact h.1 t
    · rw [upd_ne _ _ c]; exact h.1 t
  · rw [upd_ne _ _ (by omega)]; exact h.2.1
  · rw [upd_ne _ _ (by omega)]; exact h.2.2
theorem cU_oneO (l : List (BitVec 32)) : ∀ y ∈ l.map cU, y.oneCell' = true := by
  intro y hy
  obtain ⟨x, -, rfl⟩ := List.mem_map.1 hy
  rfl
theorem cI_oneO (l : List Int) : ∀ y ∈ l.map cI, y.oneCell' = true := by
  intro y hy
  obtain ⟨x, -, rfl⟩ := List.mem_map.1 hy
  rfl
/-- The five rows, when all have been told. -/
theorem rw5_start {w V0 : World} {A C s5 s6 s7 : Nat} {va vc vd vm vr : Value} {xa xc xd xm xr : List Value} (hb : Below w.heap.size w V0)
    (oa : V0.ownsRow A 5 1 va xa.length xa) (oc : V0.ownsRow A 5 1 vc xc.length xc) (od : V0.ownsRow A 5 1 vd xd.length xd) (om : V0.ownsRow A 26 1 vm xm.length xm) (or' : V0.ownsRow A 3 1 vr xr.length xr)
    (ba : ∀ z, va.ownBlock = some z → A ≤ z ∧ z < s5) (bc : ∀ z, vc.ownBlock = some z → s5 ≤ z ∧ z < s6) (bd : ∀ z, vd.ownBlock = some z → s6 ≤ z ∧ z < s7) (bm : ∀ z, vm.ownBlock = some z → z = s7) (br : ∀ z, vr.ownBlock = some z → s7 + 1 ≤ z ∧ z < C) (hs : A ≤ s5 ∧ s5 ≤ s6 ∧ s6 ≤ s7 ∧ s7 < C) : Rw5 w V0 V0 A C (vec5 va vc vd vm vr) ety (vec5 xa xc xd xm xr) := by
  refine ⟨hb, fun z ob h _ => h, Nat.le_refl _, fun i hi => ?_, fun i j z hi hj h1 h2 => ?_, fun i z hi h => .inl ?_⟩
  · rcases lt5 hi with rfl | rfl | rfl | rfl | rfl
    · exact oa
    · exact oc
    · exact od
    · exact om
    · exact or'
  · rcases lt5 hi with rfl | rfl | rfl | rfl | rfl <;> rcases lt5 hj with rfl | rfl | rfl | rfl | rfl <;> first | rfl | skip
    · have := ba z h1; have := bc z h2; omega
    · have := ba z h1; have := bd z h2; omega
    · have := ba z h1; have := bm z h2; omega
    · have := ba z h1; have := br z h2; omega
    · have := bc z h1; have := ba z h2; omega
    · have := bc z h1; have := bd z h2; omega
    · have := bc z h1; have := bm z h2; omega
    · have := bc z h1; have := br z h2; omega
    · have := bd z h1; have := ba z h2; omega
    · have := bd z h1; have := bc z h2; omega
    · have := bd z h1; have := bm z h2; omega
    · have := bd z h1; have := br z h2; omega
    · have := bm z h1; have := ba z h2; omega
    · have := bm z h1; have := bc z h2; omega
    · have := bm z h1; have := bd z h2; omega
    · have := bm z h1; have := br z h2; omega
    · have := br z h1; have := ba z h2; omega
    · have := br z h1; have := bc z h2; omega
    · have := br z h1; have := bd z h2; omega
    · have := br z h1; have := bm z h2; omega
  · rcases lt5 hi with rfl | rfl | rfl | rfl | rfl
    · have := ba z h; omega
    · have := bc z h; omega
    · have := bd z h; omega
    · have := bm z h; omega
    · have := br z h; omega
theorem Rw5.put {w V0 W : World} {A C : Nat} {v : Nat → Value} {e : Nat → TypeId} {xs : Nat → List Value} (h : Rw5 w V0 W A C v e xs) (hA : w.heap.size ≤ A) {i : Nat} (hi : i < 5) {ao : Option Addr} {N cap : Nat} (hv : v i = .slice ao N cap) (hN : (xs i).length = N) {j : Nat} (hj : j < N) :
    ∃ g, ao = some ⟨g, 0, none⟩ ∧ (∃ u, W.cell? ⟨g, j, none⟩ = some u) ∧ W.frozen? ⟨g, j, none⟩ = false ∧ ∀ x, Rw5 w V0 (W.setCell ⟨g, j, none⟩ x) A C v e (upd xs i ((xs i).set j x)) := by
  have ho := h.o i hi
  rw [hv, hN] at ho
  obtain ⟨g, cg, e1, -, -⟩ := ho.form (by omega)
  injection e1 with e1 e2 e3
  subst e1
  refine ⟨g, rfl, ?_, ho.frozenAt j, fun x => h.store hA hi (cap := cap) (by rw [hv, hN]) j x⟩
  rw [ho.cellAt j (by omega)]
  exact ⟨_, List.getElem?_eq_getElem (by omega)⟩
theorem Rw5.congr {w V0 W : World} {A C : Nat} {v v' : Nat → Value} {e : Nat → TypeId} {xs xs' : Nat → List Value} (h : Rw5 w V0 W A C v e xs) (hv : ∀ i, i < 5 → v' i = v i) (hx : ∀ i, i < 5 → xs' i = xs i) : Rw5 w V0 W A C v' e xs' := by
  refine ⟨h.b, h.k, h.s, fun i hi => ?_, fun i j z hi hj h1 h2 => ?_, fun i z hi h1 => ?_⟩
  · rw [hv i hi, hx i hi]; exact h.o i hi
  · rw [hv i hi] at h1; rw [hv j hj] at h2; exact h.d i j z hi hj h1 h2
  · rw [hv i hi] at h1; exact h.n i z hi h1
def stpO (f : Nat → List Value) (y : Nat → Value) (p : Nat) : Nat → List Value := fun i => if i < p then f i ++ [y i] else f i
theorem stpO_at (f : Nat → List Value) (y : Nat → Value) (p : Nat) : stpO f y p p = f p := by unfold stpO; rw [if_neg (Nat.lt_irrefl p)]
theorem Rw5.atp {w V0 W : World} {A C : Nat} {v : Nat → Value} {e : Nat → TypeId} {f : Nat → List Value} {y : Nat → Value} {p : Nat} (h : Rw5 w V0 W A C v e (stpO f y p)) (hp : p < 5) : W.ownsRow A (e p) 1 (v p) (f p).length (f p) := by
  have := h.o p hp
  rw [stpO_at] at this
  exact this
theorem Rw5.step {w V0 W W' : World} {A C : Nat} {v : Nat → Value} {e : Nat → TypeId} {f : Nat → List Value} {y : Nat → Value} {p : Nat} (h : Rw5 w V0 W A C v e (stpO f y p)) (hA : w.heap.size ≤ A) (hAs : A ≤ V0.heap.size) (hp : p < 5) {u x : Value} (hy : y p = x) (ho : W'.ownsRow A (e p) 1 u ((f p).length + 1) (f p ++ [x])) (hg : W.grownBy W' (v p).ownBlock) (hat : ∀ z, u.ownBlock = some z → (v p).ownBlock = some z ∨ z = W.heap.size) (v' : Nat → Value) (hv : ∀ i, i < 5 → v' i = if i = p then u else v i) : Rw5 w V0 W' A C v' e (stpO f y (p + 1)) := by
  have h2 := h.app (W' := W') hA hAs hp (v' := u) (x := x) (by rw [stpO_at]; exact ho) hg hat
  refine h2.congr (fun i hi => ?_) (fun i hi => ?_)
  · rw [hv i hi]; unfold upd; rfl
  · unfold upd stpO
    by_cases c : i = p
    · subst c; rw [if_pos (Nat.lt_succ_self i), if_pos rfl, if_neg (Nat.lt_irrefl i), hy]
    · rw [if_neg c]
      by_cases d : i < p
      · rw [if_pos (by omega), if_pos d]
      · rw [if_neg (by omega), if_neg d]
def yv : Nat → Value := vec5 (.int .u8 1) (.int .u8 2) (.int .u8 3) (.int .u32 4) (.int .i64 5)
def aft (X : Nat → List Value) (k : Nat) : Nat → List Value := fun i => X i ++ List.replicate k (yv i)
theorem aft_zero (X : Nat → List Value) : aft X 0 = X := by funext i; unfold aft; simp
theorem aft_next (X : Nat → List Value) (k i : Nat) (hi : i < 5) : aft X (k + 1) i = stpO (aft X k) yv 5 i := by unfold stpO aft; rw [if_pos hi, List.replicate_succ', List.append_assoc]
theorem stpO_zero (f : Nat → List Value) (y : Nat → Value) : stpO f y 0 = f := by funext i; unfold stpO; rw [if_neg (Nat.not_lt_zero i)]
theorem aft_len (X : Nat → List Value) (k i : Nat) : (aft X k i).length = (X i).length + k := by unfold aft; simp
theorem Rw5.fin {w V0 W : World} {A C : Nat} {v : Nat → Value} {e : Nat → TypeId} {X : Nat → List Value} (h : Rw5 w V0 W A C v e (aft X 30)) {i : Nat} (hi : i < 5) {n : Nat} (hn : (X i).length + 30 = n) : ∃ g cap, v i = .slice (some ⟨g, 0, none⟩) n cap ∧ n ≤ cap ∧ ∀ j x, (aft X 30 i)[j]? = some x → W.cell? ⟨g, j, none⟩ = some x := by
  have ho := h.o i hi
  rw [aft_len, hn] at ho
  obtain ⟨g, cg, e1, -, -⟩ := ho.form (by omega)
  refine ⟨g, cg, e1, ?_, fun j x hj => ?_⟩
  · rcases ho.2 with ⟨e0, _⟩ | ⟨g', cap', cur, e0, hb, hgg, hnc, hm, hs, ht⟩
    · rw [e1] at e0; cases e0
    · rw [e1] at e0
      injection e0 with _ _ e3
      omega
  · rw [e1] at ho
    have hl : j < n := by
      have := (List.getElem?_eq_some_iff.1 hj).1
      rw [aft_len] at this
      omega
    rw [ho.cellAt j (by omega)]
    exact hj
theorem aft_last (X : Nat → List Value) (i p : Nat) (h : p = (X i).length + 29) : (aft X 30 i)[p]? = some (yv i) := by
  unfold aft
  rw [List.getElem?_append_right (by omega), List.getElem?_replicate_of_lt (by omega)]
theorem aft_head (X : Nat → List Value) (i p : Nat) {x : Value} (h : (X i)[p]? = some x) : (aft X 30 i)[p]? = some x := by
  unfold aft
  rw [List.getElem?_append_left (List.getElem?_eq_some_iff.1 h).1]
  exact h
theorem by4_at (l : List Nat) (p : Nat) (h : p = l.length + 3) : ((l ++ by4 9).map cB)[p]? = some (.int .u8 9) := by
  rw [List.getElem?_map, List.getElem?_append_right (by omega), show p - l.length = 3 by omega]
  rfl
theorem by2_at (l : List Nat) (p : Nat) (h : p = l.length + 1) : ((l ++ by2 9).map cB)[p]? = some (.int .u8 9) := by
  rw [List.getElem?_map, List.getElem?_append_right (by omega), show p - l.length = 1 by omega]
  rfl
theorem exO {P : Program} {w : World} {s : Sem Value} {v : Value} (h : s.run P w = .ok v w) : (do pure (Next.value (← s)) : Sem Next).run P w = .ok (.value v) w := by
  simp only [Sem.run_bind, h, Sem.run_pure, Result.andThen_ok]
set_option maxRecDepth 100000 in
set_option maxHeartbeats 32000000 in
theorem wireOwn_any (v : Value) (l : List Nat) (u : Value) (L : List Int) (w : World) (hA : RowA w 1 v l.length (l.map cB)) (hv : RwX cB w v l) (hl : l.length * 1 ≤ 140737488351232) (hx : ∀ b ∈ l, b < 256) (hA2 : RowA w 1 u L.length (L.map cI)) (hu : RwX cI w u L) (hLl : L.length * 8 ≤ 140737488351232) (hLb : ∀ x ∈ L, -9223372036854775808 ≤ x ∧ x ≤ 9223372036854775807) (hT : Hf w) :
    Calls Tryd.prog 6 #[v, u] w fun e w' => e = .returned (.bool true) ∧ Below w.heap.size w w' := by
  obtain ⟨i0, hi, hz0, hz1, hz2⟩ := info13 Tryd.infoB13
  obtain ⟨j0, ji, jz0, jz1, jz2⟩ := info13 Tryd.infoU13
  obtain ⟨k0, ki, kz0, kz1, kz2⟩ := info13 Tryd.infoI13
  obtain ⟨vo, vc0, hvv, -⟩ := id hv
  obtain ⟨uo, uc0, huu, -⟩ := id hu
  have HV := hid13 hA
  have HVx := hid13 hv
  have HX := hid13 hx
  have HU := hid13 hu
  have HT := hid13 hT
  subst hvv huu
  clear hA hv hl hx hA2 hu hLl hLb hT
  go_enter Tryd.func6, Tryd.ntmps6
  go_wp2_with fail
  refine (known13 _ HT.out).mono ?_
  rintro e w2 ⟨rfl, hb2⟩
  have HB2 := hid13 hb2
  clear hb2
  by_cases h1 : (3000 : Int) < (l.length : Int)
  · go_wp2
    go_ret
    exact ⟨rfl, HB2.out⟩
  by_cases h2 : (3000 : Int) < (L.length : Int)
  · go_wp2
    go_ret
    exact ⟨rfl, HB2.out⟩
  have HL : Hid (l.length ≤ 3000 ∧ L.length ≤ 3000) := ⟨by omega, by omega⟩
  have m20 : IntKind.i64.wrap ((l.length : Int) + 20) = (l.length : Int) + 20 := by rw [IntKind.wrap_i64]; omega
  go_wp2_with (at_make; apply stopHere9)
  refine (show wpList _ _ _ _ _ _ from ?_)
  refine wpList_make_mid _ rfl _ _ 24 rfl w2.heap.size 5 i0 (.int .u8 0) Tryd.underlying24 hi hz0 hz1 rfl .i64 .i64 _ _ 0 (l.length + 20) rfl rfl rfl (by push_cast; rfl) (by omega) (by rw [hz2]; have := HL.out; omega) (by unfold maxLen; have := HL.out; omega) (Nat.le_refl _) ?_
  intro w3 hO3 hg3
  have hB3 : Below w2.heap.size w2 w3 := (Below.refl _ _).grown hg3 (Nat.le_refl _) (fun z hz => by cases hz)
  have HO3 := hid13 hO3
  have HB3 := hid13 hB3
  have HR3 := hid13 ((HV.out.below HB2.out).below hB3)
  clear hO3 hg3 hB3
  go_wp2_with (at_builtin; apply stopHere9)
  refine (show wpList _ _ _ _ _ _ from ?_)
  refine wpList_append_rowA rfl _ _ 24 rfl w2.heap.size 5 i0 (.int .u8 0) 1 1 Tryd.underlying24 hi hz0 hz1 hz2 rfl (by decide) _ 0 [] rfl HO3.out _ l.length (l.map cB) rfl HR3.out (cB_one l) (by have := HL.out; unfold maxLen; omega) (by have := HL.out; omega) HB3.out.size ?_
  intro ao4 c4 w4 hO4 hg4
  rw [Nat.zero_add, List.nil_append] at hO4
  rw [Nat.zero_add]
  have hB4 : Below w2.heap.size w2 w4 := HB3.out.grown hg4 HB3.out.size (fun z hz => (HO3.out.lt z hz).1)
  have HB4 := hid13 (keepb hB4 HB2.out)
  have HR4 := hid13 (own_rowA hO4)
  have HMr := hid13 (own_rwx hO4)
  clear hO4 hg4 hB4 HO3 HB3 HR3 HB2 m20
  obtain ⟨Na, hNa⟩ : ∃ n, (l ++ by4 7).length = n := ⟨_, rfl⟩
  obtain ⟨Nc, hNc⟩ : ∃ n, (l ++ by4 9).length = n := ⟨_, rfl⟩
  obtain ⟨Nd, hNd⟩ : ∃ n, (l ++ by2 9).length = n := ⟨_, rfl⟩
  have HN : Hid ((l ++ by4 7).length = Na ∧ (l ++ by4 9).length = Nc ∧ (l ++ by2 9).length = Nd ∧ Na = l.length + 4 ∧ Nc = l.length + 4 ∧ Nd = l.length + 2) := ⟨hNa, hNc, hNd, by rw [← hNa, List.length_append]; rfl, by rw [← hNc, List.length_append]; rfl, by rw [← hNd, List.length_append]; rfl⟩
  clear hNa hNc hNd
  have K5 := put32_any (.slice ao4 l.length c4) l 7 w4 HR4.out (by have := HL.out; omega) (by decide)
  go_wp2_with fail
  refine K5.mono ?_
  rintro e w5 ⟨va, rfl, hOa, hb5⟩
  rw [HN.out.1] at hOa
  have HB5 := hid13 hb5
  have K6 := put32_any (.slice ao4 l.length c4) l 9 w5 (HR4.out.below hb5) (by have := HL.out; omega) (by decide)
  have HOa := hid13 hOa
  obtain ⟨aao, ac, hva⟩ := own_form hOa
  subst hva
  clear K5 hOa hb5
  go_wp2_with fail
  refine K6.mono ?_
  rintro e w6 ⟨vc, rfl, hOc, hb6⟩
  rw [HN.out.2.1] at hOc
  have HB6 := hid13 (keepb hb6 HB5.out)
  have K7 := put16_any (.slice ao4 l.length c4) l 9 w6 (HR4.out.below HB6.out) (by have := HL.out; omega) (by decide)
  have HOc := hid13 hOc
  have HOa6 := hid13 (own_b13 hb6 HOa.out)
  have HS56 : Hid (w4.heap.size ≤ w5.heap.size ∧ w5.heap.size ≤ w6.heap.size) := ⟨HB5.out.size, hb6.size⟩
  obtain ⟨cao, ccp, hvc⟩ := own_form hOc
  subst hvc
  clear K6 hOc hb6 HB5
  go_wp2_with fail
  refine K7.mono ?_
  rintro e w7 ⟨vd, rfl, hOd, hb7⟩
  rw [HN.out.2.2.1] at hOd
  have HB7 := hid13 (keepb hb7 HB6.out)
  have HOd := hid13 hOd
  have HOa7 := hid13 (own_b13 hb7 HOa6.out)
  have HOc7 := hid13 (own_b13 hb7 HOc.out)
  have HS7 : Hid (w6.heap.size ≤ w7.heap.size) := hb7.size
  obtain ⟨dao, dcp, hvd⟩ := own_form hOd
  subst hvd
  have K8 := foldI_any (.slice uo L.length uc0) L w7 (HU.out.below (keepb HB7.out HB4.out)) (by have := HL.out; omega)
  clear K7 hOd hb7 HB6 HOa6
  go_wp2_with fail
  refine K8.mono ?_
  rintro e w8 ⟨vr, rfl, hF8⟩
  have HF8 := hid13 hF8
  have HB8 := hid13 (keepb hF8.b HB7.out)
  have HOa8 := hid13 (own_b13 hF8.b HOa7.out)
  have HOc8 := hid13 (own_b13 hF8.b HOc7.out)
  have HOd8 := hid13 (own_b13 hF8.b HOd.out)
  obtain ⟨rao, rcp, hvr⟩ := own_form hF8.r
  subst hvr
  have K9 := foldI_any (.slice uo L.length uc0) L w8 (HU.out.below (keepb HB8.out HB4.out)) (by have := HL.out; omega)
  obtain ⟨nw, hnw⟩ : ∃ nw, nw = (L.length + 31) / 32 := ⟨_, rfl⟩
  have HNW : Hid (nw = (L.length + 31) / 32 ∧ nw ≤ 100) := ⟨hnw, by have := HL.out; omega⟩
  rw [← hnw] at HF8 K9 ⊢
  obtain ⟨Rf, hRf⟩ : ∃ Rf, Rf = fdR L L.length := ⟨_, rfl⟩
  have HRf : Hid (Rf.length ≤ 3000) := by show _ ≤ _; rw [hRf]; have := fdR_len L L.length; have := HL.out; omega
  obtain ⟨Uf, hUf⟩ : ∃ Uf, Uf = fdU L L.length := ⟨_, rfl⟩
  rw [← hRf, ← hUf] at HF8 K9
  rw [← hRf]
  clear K8 hF8 hnw hRf hUf HOa7 HOc7 HB7
  go_wp2_with fail
  refine K9.mono ?_
  rintro e w9 ⟨vs, rfl, hF9⟩
  have HF9 := hid13 hF9
  have HB9 := hid13 (keepb hF9.b HB8.out)
  obtain ⟨sao, scp, hvs⟩ := own_form hF9.r
  subst hvs
  have hS9 : w8.heap.size + 1 ≤ w9.heap.size := hF9.s
  have hUl : Uf.length = nw := hF9.ul
  have q10 := bl1 w9 (.cells #[] 26)
  have HQ10 : Hid ((w9.alloc (.cells #[] 26)).ownsRow w9.heap.size 26 1 (.slice (some ⟨w9.heap.size, 0, none⟩) 0 0) 0 []) := World.ownsRow_made w9 #[] 0 (Nat.le_refl _) (by unfold maxLen; omega) (by simp)
  have HN9 : Hid (RowA (w9.alloc (.cells #[] 26)) 1 (.slice (some ⟨w8.heap.size, 0, none⟩) nw nw) nw (Uf.map cU)) := (own_rowA hF9.m).below q10
  clear K9 hF9
  go_wp2_with (at_builtin; apply stopHere9)
  refine (show wpList _ _ _ _ _ _ from ?_)
  refine wpList_append_rowA rfl _ _ 37 rfl w9.heap.size 26 j0 (.int .u32 0) 1 4 Tryd.underlying37 ji jz0 jz1 jz2 rfl (by decide) _ 0 [] rfl HQ10.out _ nw (Uf.map cU) rfl HN9.out (cU_oneO Uf) (by have := HNW.out; unfold maxLen; omega) (by have := HNW.out; omega) q10.size ?_
  intro ao10 c10 w10 hO10 hg10
  rw [Nat.zero_add, List.nil_append] at hO10
  rw [Nat.zero_add]
  have hB10 : Below w9.heap.size w9 w10 := q10.grown hg10 q10.size (fun z hz => (HQ10.out.lt z hz).1)
  have HO10 := hid13 hO10
  have HB10 := hid13 hB10
  clear hO10 hg10 hB10 q10 HQ10 HN9
  have q11 := bl1 w10 (.cells #[] 3)
  have HQ11 : Hid ((w10.alloc (.cells #[] 3)).ownsRow w10.heap.size 3 1 (.slice (some ⟨w10.heap.size, 0, none⟩) 0 0) 0 []) := World.ownsRow_made w10 #[] 0 (Nat.le_refl _) (by unfold maxLen; omega) (by simp)
  have HN10 := hid13 (((own_rowA HF9.out.r).below HB10.out).below q11)
  go_wp2_with (at_builtin; apply stopHere9)
  refine (show wpList _ _ _ _ _ _ from ?_)
  refine wpList_append_rowA rfl _ _ 36 rfl w10.heap.size 3 k0 (.int .i64 0) 1 8 Tryd.underlying36 ki kz0 kz1 kz2 rfl (by decide) _ 0 [] rfl HQ11.out _ Rf.length (Rf.map cI) rfl HN10.out (cI_oneO Rf) (by have := HRf.out; unfold maxLen; omega) (by have := HRf.out; omega) q11.size ?_
  intro ao11 c11 w11 hO11 hg11
  rw [Nat.zero_add, List.nil_append] at hO11
  rw [Nat.zero_add]
  have hB11 : Below w10.heap.size w10 w11 := q11.grown hg11 q11.size (fun z hz => (HQ11.out.lt z hz).1)
  have hB811 : Below w8.heap.size w8 w11 := keepb hB11 (keepb HB10.out HF9.out.b)
  have hB911 : Below w9.heap.size w9 w11 := keepb hB11 HB10.out
  have HR0 : Hid (Rw5 w w11 w11 w4.heap.size w8.heap.size (vec5 (.slice aao Na ac) (.slice cao Nc ccp) (.slice dao Nd dcp) (.slice (some ⟨w7.heap.size, 0, none⟩) nw nw) (.slice rao Rf.length rcp)) ety (vec5 ((l ++ by4 7).map cB) ((l ++ by4 9).map cB) ((l ++ by2 9).map cB) (Uf.map cU) (Rf.map cI))) := by
    have h5 := HS56.out
    have h7 := HS7.out
    refine rw5_start (s5 := w5.heap.size) (s6 := w6.heap.size) (s7 := w7.heap.size) (keepb hB811 (keepb HB8.out HB4.out)) ?_ ?_ ?_ ?_ ?_ ?_ ?_ ?_ ?_ ?_ ⟨h5.1, h5.2, h7, HF8.out.s⟩
    · rw [List.length_map, HN.out.1]; exact own_b13 hB811 HOa8.out
    · rw [List.length_map, HN.out.2.1]; exact own_wide13 (own_b13 hB811 HOc8.out) h5.1
    · rw [List.length_map, HN.out.2.2.1]; exact own_wide13 (own_b13 hB811 HOd8.out) (by omega)
    · rw [List.length_map, hUl]; exact own_wide13 (own_b13 hB811 HF8.out.m) (by omega)
    · rw [List.length_map]; exact own_wide13 (own_b13 hB811 HF8.out.r) (by omega)
    · intro z hz; exact HOa.out.lt z hz
    · intro z hz; exact HOc.out.lt z hz
    · intro z hz; exact HOd.out.lt z hz
    · intro z hz; simp only [Value.ownBlock, Option.some.injEq] at hz; exact hz.symm
    · intro z hz; exact HF8.out.r.lt z hz
  have HNr : Hid (RwX cU w11 (.slice (some ⟨w8.heap.size, 0, none⟩) nw nw) Uf) := by
    have h2 : w9.ownsRow w8.heap.size 26 1 (.slice (some ⟨w8.heap.size, 0, none⟩) nw nw) Uf.length (Uf.map cU) := by rw [hUl]; exact HF9.out.m
    exact (own_rwx h2).below hB911
  have HSr := hid13 ((own_rwx HF9.out.r).below hB911)
  have HSl : Hid (∀ b off nn cc, Value.slice sao Rf.length scp = .slice (some ⟨b, off, none⟩) nn cc → Rf ≠ [] → w8.heap.size ≤ b) := by
    intro b off nn cc e _
    have := (HF9.out.r.lt b (by rw [e]; rfl)).1
    omega
  have HWNr : Hid (RwX cU w11 (.slice ao10 nw c10) Uf) := by
    have h2 : w10.ownsRow w9.heap.size 26 1 (.slice ao10 nw c10) Uf.length (Uf.map cU) := by rw [hUl]; exact HO10.out
    exact (own_rwx h2).below hB11
  have HWNl : Hid (∀ b off nn cc, Value.slice ao10 nw c10 = .slice (some ⟨b, off, none⟩) nn cc → Uf ≠ [] → w8.heap.size ≤ b) := by
    intro b off nn cc e _
    have := (HO10.out.lt b (by rw [e]; rfl)).1
    omega
  have HWSr := hid13 (own_rwx hO11)
  have HWSl : Hid (∀ b off nn cc, Value.slice ao11 Rf.length c11 = .slice (some ⟨b, off, none⟩) nn cc → Rf ≠ [] → w8.heap.size ≤ b) := by
    intro b off nn cc e _
    have h1 := (hO11.lt b (by rw [e]; rfl)).1
    have h2 := HB10.out.size
    omega
  have HMr2 := hid13 (HMr.out.below (keepb hB811 HB8.out))
  have HMl : Hid (∀ b off nn cc, Value.slice ao4 l.length c4 = .slice (some ⟨b, off, none⟩) nn cc → l ≠ [] → b < w4.heap.size) := fun b off nn cc e hne => rwx_ltO HMr.out e hne
  have HAs : Hid (w.heap.size ≤ w4.heap.size ∧ w4.heap.size ≤ w11.heap.size) := ⟨HB4.out.size, by have := HB8.out.size; have := hB811.size; omega⟩
  have HUl := hid13 hUl
  clear hO11 hg11 hB11 hB811 hB911 q11 HQ11 HN10 HO10 HB10 HF9 HF8 HOa HOc HOd HOa8 HOc8 HOd8 HB8 HB9 HB4 HR4 HMr HS56 HS7 hS9 hUl HU HT HV
  obtain ⟨A, hAd⟩ : ∃ A, A = w4.heap.size := ⟨_, rfl⟩
  obtain ⟨C, hCd⟩ : ∃ C, C = w8.heap.size := ⟨_, rfl⟩
  rw [← hAd, ← hCd] at HR0
  rw [← hAd] at HMl HAs
  rw [← hCd] at HNr HSl HWNl HWSl ⊢
  clear hAd hCd
  obtain ⟨X0, hX0⟩ : ∃ X0 : Nat → List Value, X0 = vec5 ((l ++ by4 7).map cB) ((l ++ by4 9).map cB) ((l ++ by2 9).map cB) (Uf.map cU) (Rf.map cI) := ⟨_, rfl⟩
  obtain ⟨va, hva⟩ : ∃ va : Value, va = .slice aao Na ac := ⟨_, rfl⟩
  obtain ⟨vc, hvc⟩ : ∃ vc : Value, vc = .slice cao Nc ccp := ⟨_, rfl⟩
  obtain ⟨vd, hvd⟩ : ∃ vd : Value, vd = .slice dao Nd dcp := ⟨_, rfl⟩
  obtain ⟨vm, hvm⟩ : ∃ vm : Value, vm = .slice (some ⟨w7.heap.size, 0, none⟩) nw nw := ⟨_, rfl⟩
  obtain ⟨vr, hvr⟩ : ∃ vr : Value, vr = .slice rao Rf.length rcp := ⟨_, rfl⟩
  rw [← hX0, ← hva, ← hvc, ← hvd, ← hvm, ← hvr] at HR0
  have HX0 : Hid ((X0 0).length = Na ∧ X0 1 = (l ++ by4 9).map cB ∧ X0 2 = (l ++ by2 9).map cB ∧ (X0 3).length = nw ∧ (X0 4).length = Rf.length) := by
    rw [hX0]
    refine ⟨?_, rfl, rfl, ?_, ?_⟩
    · show ((l ++ by4 7).map cB).length = _; rw [List.length_map]; exact HN.out.1
    · show (Uf.map cU).length = _; rw [List.length_map]; exact HUl.out
    · show (Rf.map cI).length = _; rw [List.length_map]
  have HVV : Hid (va = .slice aao Na ac ∧ vm = .slice (some ⟨w7.heap.size, 0, none⟩) nw nw ∧ vr = .slice rao Rf.length rcp ∧ vc = .slice cao Nc ccp ∧ vd = .slice dao Nd dcp) := ⟨hva, hvm, hvr, hvc, hvd⟩
  clear hX0 hva hvc hvd hvm hvr
  go_wp2_with fail
  go_loopg [15] Na (fun g i wr => ∃ (j : Nat) (xs : Nat → List Value), j + g = Na ∧ i = .int .i64 (j : Int) ∧ Hid (Rw5 w w11 wr A C (vec5 va vc vd vm vr) ety xs) ∧ Hid (Lo X0 xs))
  case atStart => exact ⟨0, X0, by omega, rfl, HR0, ⟨fun i => rfl, rfl, rfl⟩⟩
  case round =>
    clear HR0
    obtain ⟨j, xs, hj, rfl, HW, HLo⟩ := hrel
    by_cases hlt : j < Na
    · have hli : (j : Int) < (Na : Int) := by omega
      obtain ⟨g, hg, ⟨u, hu⟩, hf, hst⟩ := HW.out.put HAs.out.1 (i := 0) (by decide) HVV.out.1 ((HLo.out.1 0).trans HX0.out.1) hlt
      cases hg
      have HST := hid13 (hst (.int .u8 238))
      have HLo2 := hid13 (HLo.out.set (i := 0) (by omega) j (.int .u8 238))
      have mj : IntKind.i64.wrap ((j : Int) + 1) = (j : Int) + 1 := by rw [IntKind.wrap_i64]; have := HL.out; have := HN.out; have := HNW.out; have := HRf.out; omega
      have HJ : Hid (j + gk = Na ∧ j < Na) := ⟨hj, hlt⟩
      clear hst hj hlt HW HLo
      go_wp2
      go_roundg (gk - 1)
      case measure => have := HJ.out; omega
      case rel => exact ⟨j + 1, _, by have := HJ.out; omega, rfl, HST, HLo2⟩
    · have hli : ¬ (j : Int) < (Na : Int) := by omega
      clear hj hlt
      go_wp2_with fail
      clear hli
      go_loopg [16] nw (fun g i wr => ∃ (j : Nat) (xs : Nat → List Value), j + g = nw ∧ i = .int .i64 (j : Int) ∧ Hid (Rw5 w w11 wr A C (vec5 va vc vd vm vr) ety xs) ∧ Hid (Lo X0 xs))
      case atStart => exact ⟨0, xs, by omega, rfl, HW, HLo⟩
      case round =>
        clear HW HLo
        obtain ⟨j, xs, hj, rfl, HW, HLo⟩ := hrel
        by_cases hlt : j < nw
        · have hli : (j : Int) < (nw : Int) := by omega
          obtain ⟨g, hg, ⟨u, hu⟩, hf, hst⟩ := HW.out.put HAs.out.1 (i := 3) (by decide) HVV.out.2.1 ((HLo.out.1 3).trans HX0.out.2.2.2.1) hlt
          cases hg
          have HST := hid13 (hst (.int .u32 1))
          have HLo2 := hid13 (HLo.out.set (i := 3) (by omega) j (.int .u32 1))
          have mj : IntKind.i64.wrap ((j : Int) + 1) = (j : Int) + 1 := by rw [IntKind.wrap_i64]; have := HL.out; have := HN.out; have := HNW.out; have := HRf.out; omega
          have HJ : Hid (j + gk = nw ∧ j < nw) := ⟨hj, hlt⟩
          clear hst hj hlt HW HLo
          go_wp2
          go_roundg (gk - 1)
          case measure => have := HJ.out; omega
          case rel => exact ⟨j + 1, _, by have := HJ.out; omega, rfl, HST, HLo2⟩
        · have hli : ¬ (j : Int) < (nw : Int) := by omega
          clear hj hlt
          go_wp2_with fail
          clear hli
          go_loopg [17] Rf.length (fun g i wr => ∃ (j : Nat) (xs : Nat → List Value), j + g = Rf.length ∧ i = .int .i64 (j : Int) ∧ Hid (Rw5 w w11 wr A C (vec5 va vc vd vm vr) ety xs) ∧ Hid (Lo X0 xs))
          case atStart => exact ⟨0, xs, by omega, rfl, HW, HLo⟩
          case round =>
            clear HW HLo
            obtain ⟨j, xs, hj, rfl, HW, HLo⟩ := hrel
            by_cases hlt : j < Rf.length
            · have hli : (j : Int) < (Rf.length : Int) := by omega
              obtain ⟨g, hg, ⟨u, hu⟩, hf, hst⟩ := HW.out.put HAs.out.1 (i := 4) (by decide) HVV.out.2.2.1 ((HLo.out.1 4).trans HX0.out.2.2.2.2) hlt
              cases hg
              have HST := hid13 (hst (.int .i64 (-1)))
              have HLo2 := hid13 (HLo.out.set (i := 4) (by omega) j (.int .i64 (-1)))
              have mj : IntKind.i64.wrap ((j : Int) + 1) = (j : Int) + 1 := by rw [IntKind.wrap_i64]; have := HL.out; have := HN.out; have := HNW.out; have := HRf.out; omega
              have HJ : Hid (j + gk = Rf.length ∧ j < Rf.length) := ⟨hj, hlt⟩
              clear hst hj hlt HW HLo
              go_wp2
              go_roundg (gk - 1)
              case measure => have := HJ.out; omega
              case rel => exact ⟨j + 1, _, by have := HJ.out; omega, rfl, HST, HLo2⟩
            · have hli : ¬ (j : Int) < (Rf.length : Int) := by omega
              clear hj hlt
              go_wp2_with fail
              clear hli
              go_loopg [6, 7, 8, 9, 10, 18] 30 (fun g b6 b7 b8 b9 b10 i wr => ∃ k : Nat, k + g = 30 ∧ i = .int .i64 (k : Int) ∧ Hid (Rw5 w w11 wr A C (vec5 b6 b7 b8 b9 b10) ety (aft xs k)))
              case atStart =>
                refine ⟨0, by omega, rfl, ?_⟩
                have h0 := HW.out
                rw [HVV.out.1, HVV.out.2.1, HVV.out.2.2.1, HVV.out.2.2.2.1, HVV.out.2.2.2.2] at h0
                rw [aft_zero]
                exact h0
              case round =>
                clear HW
                obtain ⟨k, hk, rfl, HW⟩ := hrel
                by_cases hlt : k < 30
                · have hli : (k : Int) < 30 := by omega
                  obtain ⟨f, hfd⟩ : ∃ f, f = aft xs k := ⟨_, rfl⟩
                  have HF := hid13 hfd
                  have HFl : Hid (∀ i, i < 5 → (f i).length ≤ 3100) := by
                    intro i hi
                    rw [hfd, aft_len, HLo.out.1 i]
                    have hX := HX0.out
                    have hN := HN.out
                    have h4 := HNW.out
                    have h5 := HRf.out
                    have h6 := HL.out
                    have x1 : (X0 1).length = Nc := by rw [hX.2.1, List.length_map]; exact hN.2.1
                    have x2 : (X0 2).length = Nd := by rw [hX.2.2.1, List.length_map]; exact hN.2.2.1
                    rcases lt5 hi with rfl | rfl | rfl | rfl | rfl <;> omega
                  rw [← hfd] at HW
                  have HW0 : Hid (Rw5 w w11 wr A C (vec5 u6 u7 u8 u9 u10) ety (stpO f yv 0)) := by
                    have := HW.out
                    rw [stpO_zero]
                    exact this
                  have mj : IntKind.i64.wrap ((k : Int) + 1) = (k : Int) + 1 := by rw [IntKind.wrap_i64]; omega
                  have HJ : Hid (k + gk = 30 ∧ k < 30) := ⟨hk, hlt⟩
                  clear hk hlt hfd HW
                  have q0 := bl1 wr (.cells #[.int .u8 1] 5)
                  have HP0 := hid13 (HW0.out.below q0)
                  have hO0 : (wr.alloc (.cells #[.int .u8 1] 5)).ownsRow A 5 1 u6 (f 0).length (f 0) := HP0.out.atp (by decide)
                  have HO0 := hid13 hO0
                  have h63 : (f 0).length + 1 ≤ maxLen := by have := HFl.out 0 (by decide); unfold maxLen; omega
                  have h47 : ((f 0).length + 1) * 1 ≤ 140737488355328 := by have := HFl.out 0 (by decide); omega
                  have hAs : A ≤ (wr.alloc (.cells #[.int .u8 1] 5)).heap.size := Nat.le_trans HAs.out.2 HP0.out.s
                  clear hO0 q0
                  go_wp2_with (at_builtin; apply stopHere9)
                  refine (show wpList _ _ _ _ _ _ from ?_)
                  refine wpList_append_lies _ rfl _ _ 24 rfl A 5 i0 (.int .u8 0) 1 1 Tryd.underlying24 hi hz0 hz1 hz2 rfl (by decide) _ (f 0).length (f 0) rfl HO0.out ⟨wr.heap.size, 0, none⟩ 1 1 [.int .u8 1] rfl rfl (news13 (by simp [go_sem])) (by intro u hu; simp at hu; subst hu; rfl) (by decide) h63 h47 hAs _ rfl ?_
                  intro g0 cap0 W0 hown hgrow hat hlt4
                  have HW1 := hid13 (HP0.out.step HAs.out.1 HAs.out.2 (by decide) (x := .int .u8 1) rfl hown hgrow (fun z hz => by simp only [Value.ownBlock, Option.some.injEq] at hz; subst hz; exact hat) (vec5 (.slice (some ⟨g0, 0, none⟩) ((f 0).length + 1) cap0) u7 u8 u9 u10) (by intro i hi; rcases lt5 hi with rfl | rfl | rfl | rfl | rfl <;> rfl))
                  clear hown hgrow hat hlt4 h63 h47 hAs HP0 HO0 HW0
                  have q1 := bl1 W0 (.cells #[.int .u8 2] 5)
                  have HP1 := hid13 (HW1.out.below q1)
                  have hO1 : (W0.alloc (.cells #[.int .u8 2] 5)).ownsRow A 5 1 u7 (f 1).length (f 1) := HP1.out.atp (by decide)
                  have HO1 := hid13 hO1
                  have h63 : (f 1).length + 1 ≤ maxLen := by have := HFl.out 1 (by decide); unfold maxLen; omega
                  have h47 : ((f 1).length + 1) * 1 ≤ 140737488355328 := by have := HFl.out 1 (by decide); omega
                  have hAs : A ≤ (W0.alloc (.cells #[.int .u8 2] 5)).heap.size := Nat.le_trans HAs.out.2 HP1.out.s
                  clear hO1 q1
                  go_wp2_with (at_builtin; apply stopHere9)
                  refine (show wpList _ _ _ _ _ _ from ?_)
                  refine wpList_append_lies _ rfl _ _ 24 rfl A 5 i0 (.int .u8 0) 1 1 Tryd.underlying24 hi hz0 hz1 hz2 rfl (by decide) _ (f 1).length (f 1) rfl HO1.out ⟨W0.heap.size, 0, none⟩ 1 1 [.int .u8 2] rfl rfl (news13 (by simp [go_sem])) (by intro u hu; simp at hu; subst hu; rfl) (by decide) h63 h47 hAs _ rfl ?_
                  intro g1 cap1 W1 hown hgrow hat hlt4
                  have HW2 := hid13 (HP1.out.step HAs.out.1 HAs.out.2 (by decide) (x := .int .u8 2) rfl hown hgrow (fun z hz => by simp only [Value.ownBlock, Option.some.injEq] at hz; subst hz; exact hat) (vec5 (.slice (some ⟨g0, 0, none⟩) ((f 0).length + 1) cap0) (.slice (some ⟨g1, 0, none⟩) ((f 1).length + 1) cap1) u8 u9 u10) (by intro i hi; rcases lt5 hi with rfl | rfl | rfl | rfl | rfl <;> rfl))
                  clear hown hgrow hat hlt4 h63 h47 hAs HP1 HO1 HW1
                  have q2 := bl1 W1 (.cells #[.int .u8 3] 5)
                  have HP2 := hid13 (HW2.out.below q2)
                  have hO2 : (W1.alloc (.cells #[.int .u8 3] 5)).ownsRow A 5 1 u8 (f 2).length (f 2) := HP2.out.atp (by decide)
                  have HO2 := hid13 hO2
                  have h63 : (f 2).length + 1 ≤ maxLen := by have := HFl.out 2 (by decide); unfold maxLen; omega
                  have h47 : ((f 2).length + 1) * 1 ≤ 140737488355328 := by have := HFl.out 2 (by decide); omega
                  have hAs : A ≤ (W1.alloc (.cells #[.int .u8 3] 5)).heap.size := Nat.le_trans HAs.out.2 HP2.out.s
                  clear hO2 q2
                  go_wp2_with (at_builtin; apply stopHere9)
                  refine (show wpList _ _ _ _ _ _ from ?_)
                  refine wpList_append_lies _ rfl _ _ 24 rfl A 5 i0 (.int .u8 0) 1 1 Tryd.underlying24 hi hz0 hz1 hz2 rfl (by decide) _ (f 2).length (f 2) rfl HO2.out ⟨W1.heap.size, 0, none⟩ 1 1 [.int .u8 3] rfl rfl (news13 (by simp [go_sem])) (by intro u hu; simp at hu; subst hu; rfl) (by decide) h63 h47 hAs _ rfl ?_
                  intro g2 cap2 W2 hown hgrow hat hlt4
                  have HW3 := hid13 (HP2.out.step HAs.out.1 HAs.out.2 (by decide) (x := .int .u8 3) rfl hown hgrow (fun z hz => by simp only [Value.ownBlock, Option.some.injEq] at hz; subst hz; exact hat) (vec5 (.slice (some ⟨g0, 0, none⟩) ((f 0).length + 1) cap0) (.slice (some ⟨g1, 0, none⟩) ((f 1).length + 1) cap1) (.slice (some ⟨g2, 0, none⟩) ((f 2).length + 1) cap2) u9 u10) (by intro i hi; rcases lt5 hi with rfl | rfl | rfl | rfl | rfl <;> rfl))
                  clear hown hgrow hat hlt4 h63 h47 hAs HP2 HO2 HW2
                  have q3 := bl1 W2 (.cells #[.int .u32 4] 26)
                  have HP3 := hid13 (HW3.out.below q3)
                  have hO3 : (W2.alloc (.cells #[.int .u32 4] 26)).ownsRow A 26 1 u9 (f 3).length (f 3) := HP3.out.atp (by decide)
                  have HO3 := hid13 hO3
                  have h63 : (f 3).length + 1 ≤ maxLen := by have := HFl.out 3 (by decide); unfold maxLen; omega
                  have h47 : ((f 3).length + 1) * 4 ≤ 140737488355328 := by have := HFl.out 3 (by decide); omega
                  have hAs : A ≤ (W2.alloc (.cells #[.int .u32 4] 26)).heap.size := Nat.le_trans HAs.out.2 HP3.out.s
                  clear hO3 q3
                  go_wp2_with (at_builtin; apply stopHere9)
                  refine (show wpList _ _ _ _ _ _ from ?_)
                  refine wpList_append_lies _ rfl _ _ 37 rfl A 26 j0 (.int .u32 0) 1 4 Tryd.underlying37 ji jz0 jz1 jz2 rfl (by decide) _ (f 3).length (f 3) rfl HO3.out ⟨W2.heap.size, 0, none⟩ 1 1 [.int .u32 4] rfl rfl (news13 (by simp [go_sem])) (by intro u hu; simp at hu; subst hu; rfl) (by decide) h63 h47 hAs _ rfl ?_
                  intro g3 cap3 W3 hown hgrow hat hlt4
                  have HW4 := hid13 (HP3.out.step HAs.out.1 HAs.out.2 (by decide) (x := .int .u32 4) rfl hown hgrow (fun z hz => by simp only [Value.ownBlock, Option.some.injEq] at hz; subst hz; exact hat) (vec5 (.slice (some ⟨g0, 0, none⟩) ((f 0).length + 1) cap0) (.slice (some ⟨g1, 0, none⟩) ((f 1).length + 1) cap1) (.slice (some ⟨g2, 0, none⟩) ((f 2).length + 1) cap2) (.slice (some ⟨g3, 0, none⟩) ((f 3).length + 1) cap3) u10) (by intro i hi; rcases lt5 hi with rfl | rfl | rfl | rfl | rfl <;> rfl))
                  clear hown hgrow hat hlt4 h63 h47 hAs HP3 HO3 HW3
                  have q4 := bl1 W3 (.cells #[.int .i64 5] 3)
                  have HP4 := hid13 (HW4.out.below q4)
                  have hO4 : (W3.alloc (.cells #[.int .i64 5] 3)).ownsRow A 3 1 u10 (f 4).length (f 4) := HP4.out.atp (by decide)
                  have HO4 := hid13 hO4
                  have h63 : (f 4).length + 1 ≤ maxLen := by have := HFl.out 4 (by decide); unfold maxLen; omega
                  have h47 : ((f 4).length + 1) * 8 ≤ 140737488355328 := by have := HFl.out 4 (by decide); omega
                  have hAs : A ≤ (W3.alloc (.cells #[.int .i64 5] 3)).heap.size := Nat.le_trans HAs.out.2 HP4.out.s
                  clear hO4 q4
                  go_wp2_with (at_builtin; apply stopHere9)
                  refine (show wpList _ _ _ _ _ _ from ?_)
                  refine wpList_append_lies _ rfl _ _ 36 rfl A 3 k0 (.int .i64 0) 1 8 Tryd.underlying36 ki kz0 kz1 kz2 rfl (by decide) _ (f 4).length (f 4) rfl HO4.out ⟨W3.heap.size, 0, none⟩ 1 1 [.int .i64 5] rfl rfl (news13 (by simp [go_sem])) (by intro u hu; simp at hu; subst hu; rfl) (by decide) h63 h47 hAs _ rfl ?_
                  intro g4 cap4 W4 hown hgrow hat hlt4
                  have HW5 := hid13 (HP4.out.step HAs.out.1 HAs.out.2 (by decide) (x := .int .i64 5) rfl hown hgrow (fun z hz => by simp only [Value.ownBlock, Option.some.injEq] at hz; subst hz; exact hat) (vec5 (.slice (some ⟨g0, 0, none⟩) ((f 0).length + 1) cap0) (.slice (some ⟨g1, 0, none⟩) ((f 1).length + 1) cap1) (.slice (some ⟨g2, 0, none⟩) ((f 2).length + 1) cap2) (.slice (some ⟨g3, 0, none⟩) ((f 3).length + 1) cap3) (.slice (some ⟨g4, 0, none⟩) ((f 4).length + 1) cap4)) (by intro i hi; rcases lt5 hi with rfl | rfl | rfl | rfl | rfl <;> rfl))
                  clear hown hgrow hat hlt4 h63 h47 hAs HP4 HO4 HW4
                  go_wp2
                  go_roundg (gk - 1)
                  case measure => have := HJ.out; omega
                  case rel => exact ⟨k + 1, by have := HJ.out; omega, rfl, HW5.out.congr (fun i hi => rfl) (fun i hi => by rw [HF.out]; exact aft_next xs k i hi)⟩
                · have hli : ¬ (k : Int) < 30 := by omega
                  have hk30 : k = 30 := by omega
                  have HW2 : Hid (Rw5 w w11 wr A C (vec5 u6 u7 u8 u9 u10) ety (aft xs 30)) := by
                    have := HW.out
                    rw [hk30] at this
                    exact this
                  have hx0 : (xs 0).length = Na := (HLo.out.1 0).trans HX0.out.1
                  have hx1 : (xs 1).length = Nc := by rw [HLo.out.2.1, HX0.out.2.1, List.length_map]; exact HN.out.2.1
                  have hx2 : (xs 2).length = Nd := by rw [HLo.out.2.2, HX0.out.2.2.1, List.length_map]; exact HN.out.2.2.1
                  have hx3 : (xs 3).length = nw := (HLo.out.1 3).trans HX0.out.2.2.2.1
                  have hx4 : (xs 4).length = Rf.length := (HLo.out.1 4).trans HX0.out.2.2.2.2
                  have hN := HN.out
                  have h4 := HNW.out
                  have h5 := HRf.out
                  have h6 := HL.out
                  obtain ⟨na, hna⟩ : ∃ n, (xs 0).length + 30 = n := ⟨_, rfl⟩
                  obtain ⟨nc, hnc⟩ : ∃ n, (xs 1).length + 30 = n := ⟨_, rfl⟩
                  obtain ⟨nd, hnd⟩ : ∃ n, (xs 2).length + 30 = n := ⟨_, rfl⟩
                  obtain ⟨nm, hnm⟩ : ∃ n, (xs 3).length + 30 = n := ⟨_, rfl⟩
                  obtain ⟨nr, hnr⟩ : ∃ n, (xs 4).length + 30 = n := ⟨_, rfl⟩
                  obtain ⟨ga, ka, ea, qa, ca⟩ := HW2.out.fin (i := 0) (by decide) hna
                  obtain ⟨gc, kc, ec, qc, cc⟩ := HW2.out.fin (i := 1) (by decide) hnc
                  obtain ⟨gd, kd, ed, qd, cd⟩ := HW2.out.fin (i := 2) (by decide) hnd
                  obtain ⟨gm, km, em, qm, cm⟩ := HW2.out.fin (i := 3) (by decide) hnm
                  obtain ⟨gr, kr, er, qr, cr⟩ := HW2.out.fin (i := 4) (by decide) hnr
                  have ea' : u6 = .slice (some ⟨ga, 0, none⟩) na ka := ea
                  have ec' : u7 = .slice (some ⟨gc, 0, none⟩) nc kc := ec
                  have ed' : u8 = .slice (some ⟨gd, 0, none⟩) nd kd := ed
                  have em' : u9 = .slice (some ⟨gm, 0, none⟩) nm km := em
                  have er' : u10 = .slice (some ⟨gr, 0, none⟩) nr kr := er
                  obtain ⟨pa, hpa⟩ : ∃ p, p = (xs 0).length + 29 := ⟨_, rfl⟩
                  obtain ⟨pd, hpd⟩ : ∃ p, p = (xs 2).length + 29 := ⟨_, rfl⟩
                  obtain ⟨pm, hpm⟩ : ∃ p, p = (xs 3).length + 29 := ⟨_, rfl⟩
                  obtain ⟨pr, hpr⟩ : ∃ p, p = (xs 4).length + 29 := ⟨_, rfl⟩
                  obtain ⟨pc, hpc⟩ : ∃ p, p = l.length + 3 := ⟨_, rfl⟩
                  obtain ⟨pe, hpe⟩ : ∃ p, p = l.length + 1 := ⟨_, rfl⟩
                  have HCa : Hid (wr.cell? ⟨ga, pa, none⟩ = some (.int .u8 1)) := ca pa _ (aft_last xs 0 pa hpa)
                  have HCd : Hid (wr.cell? ⟨gd, pd, none⟩ = some (.int .u8 3)) := cd pd _ (aft_last xs 2 pd hpd)
                  have HCm : Hid (wr.cell? ⟨gm, pm, none⟩ = some (.int .u32 4)) := cm pm _ (aft_last xs 3 pm hpm)
                  have HCr : Hid (wr.cell? ⟨gr, pr, none⟩ = some (.int .i64 5)) := cr pr _ (aft_last xs 4 pr hpr)
                  have HCc : Hid (wr.cell? ⟨gc, pc, none⟩ = some (.int .u8 9)) := cc pc _ (aft_head xs 1 pc (by rw [HLo.out.2.1, HX0.out.2.1]; exact by4_at l pc hpc))
                  have HCe : Hid (wr.cell? ⟨gd, pe, none⟩ = some (.int .u8 9)) := cd pe _ (aft_head xs 2 pe (by rw [HLo.out.2.2, HX0.out.2.2.1]; exact by2_at l pe hpe))
                  have HRc : Hid (RwX cB wr (.slice (some ⟨gc, 0, none⟩) l.length kc) l) := by
                    refine ⟨_, _, rfl, by omega, .inr ⟨gc, 0, rfl, fun j x hj => ?_⟩⟩
                    rw [Nat.zero_add]
                    refine cc j _ (aft_head xs 1 j ?_)
                    rw [HLo.out.2.1, HX0.out.2.1, List.getElem?_map, List.getElem?_append_left (List.getElem?_eq_some_iff.1 hj).1, hj]
                    rfl
                  have HB := hid13 HW2.out.b
                  have HRm := hid13 (HW2.out.row HMr2.out (fun b off nn cc e hne => .inl (HMl.out b off nn cc e hne)))
                  have HRn := hid13 (HW2.out.row HNr.out (fun b off nn cc e hne => .inr (by injection e with e1; injection e1 with e1; injection e1 with e1; omega)))
                  have HRs := hid13 (HW2.out.row HSr.out (fun b off nn cc e hne => .inr (HSl.out b off nn cc e hne)))
                  have HRwn := hid13 (HW2.out.row HWNr.out (fun b off nn cc e hne => .inr (HWNl.out b off nn cc e hne)))
                  have HRws := hid13 (HW2.out.row HWSr.out (fun b off nn cc e hne => .inr (HWSl.out b off nn cc e hne)))
                  have HRv := hid13 (HVx.out.below HB.out)
                  have mc : IntKind.i64.wrap ((l.length : Int) + 3) = (pc : Int) := by rw [IntKind.wrap_i64]; omega
                  have me : IntKind.i64.wrap ((l.length : Int) + 1) = (pe : Int) := by rw [IntKind.wrap_i64]; omega
                  have ma : IntKind.i64.wrap ((na : Int) - 1) = (pa : Int) := by rw [IntKind.wrap_i64]; omega
                  have md : IntKind.i64.wrap ((nd : Int) - 1) = (pd : Int) := by rw [IntKind.wrap_i64]; omega
                  have mm : IntKind.i64.wrap ((nm : Int) - 1) = (pm : Int) := by rw [IntKind.wrap_i64]; omega
                  have mr : IntKind.i64.wrap ((nr : Int) - 1) = (pr : Int) := by rw [IntKind.wrap_i64]; omega
                  have lc : (pc : Int) < (nc : Int) := by omega
                  have le : (pe : Int) < (nd : Int) := by omega
                  have la : (pa : Int) < (na : Int) := by omega
                  have ld : (pd : Int) < (nd : Int) := by omega
                  have lm : (pm : Int) < (nm : Int) := by omega
                  have lr : (pr : Int) < (nr : Int) := by omega
                  have hcy : ((l.length : Nat) : Int) ≤ ((kc : Nat) : Int) := by omega
                  have HS1 : Hid (Uf.length ≤ 9223372036854775806) := by show _ ≤ _; have := HUl.out; omega
                  have HS2 : Hid (Rf.length ≤ 9223372036854775806) := by show _ ≤ _; omega
                  subst ea' ec' ed' em' er'
                  clear hk30 HW HW2 hx0 hx1 hx2 hx3 hx4 hN h4 h5 h6 hna hnc hnd hnm hnr ea ec ed em er qa qc qd qm qr ca cc cd cm cr hpa hpd hpm hpr hpc hpe HMr2 HMl HNr HSr HSl HWNr HWNl HWSr HWSl HVx hk hlt HAs HX0 HVV HLo HN HNW HRf HUl HL h1 h2
                  go_wp2_with fail
                  refine qw_region (C := fun W => Below w.heap.size w W ∧ Below wr.heap.size wr W) (by kernel_rfl) (by kernel_rfl) ⟨HB.out.drew, (Below.refl _ _).drew⟩ ?_
                  clear HB
                  refine qw_run (v := .slice (some ⟨gc, 0, none⟩) nc kc) (by rfl) ?_ ?_
                  · (intro w9 hC; clear hC; go_simp; first | done | (simp; done) | (simp [*]; done) | omega | (simp; omega) | (rw [IntKind.wrap_i64]; omega) | (intro hx; omega) | rfl)
                  simp only [Act.put, List.setIfInBounds_toArray, List.set_cons_zero, List.set_cons_succ]
                  refine qw_run (v := .slice vo l.length vc0) (by rfl) ?_ ?_
                  · (intro w9 hC; clear hC; go_simp; first | done | (simp; done) | (simp [*]; done) | omega | (simp; omega) | (rw [IntKind.wrap_i64]; omega) | (intro hx; omega) | rfl)
                  simp only [Act.put, List.setIfInBounds_toArray, List.set_cons_zero, List.set_cons_succ]
                  refine qw_run (v := .int .i64 (l.length : Int)) (by rfl) ?_ ?_
                  · (intro w9 hC; clear hC; go_simp; first | done | (simp; done) | (simp [*]; done) | omega | (simp; omega) | (rw [IntKind.wrap_i64]; omega) | (intro hx; omega) | rfl)
                  simp only [Act.put, List.setIfInBounds_toArray, List.set_cons_zero, List.set_cons_succ]
                  refine qw_run (v := .int .i64 (pc : Int)) (by rfl) ?_ ?_
                  · (intro w9 hC; clear hC; go_simp; first | done | (simp; done) | (simp [*]; done) | omega | (simp; omega) | (rw [IntKind.wrap_i64]; omega) | (intro hx; omega) | rfl)
                  simp only [Act.put, List.setIfInBounds_toArray, List.set_cons_zero, List.set_cons_succ]
                  refine qw_run (v := .pointer (some ⟨gc, pc, none⟩)) (by rfl) ?_ ?_
                  · (intro w9 hC; clear hC; go_simp; first | done | (simp; done) | (simp [*]; done) | omega | (simp; omega) | (rw [IntKind.wrap_i64]; omega) | (intro hx; omega) | rfl)
                  simp only [Act.put, List.setIfInBounds_toArray, List.set_cons_zero, List.set_cons_succ]
                  refine qw_run (v := .int .u8 9) (by rfl) ?_ ?_
                  · (intro w9 hC; have x0 := keepc hC.2 HCc.out; clear hC; go_simp; first | done | (simp; done) | (simp [*]; done) | omega | (simp; omega) | (rw [IntKind.wrap_i64]; omega) | (intro hx; omega) | rfl)
                  simp only [Act.put, List.setIfInBounds_toArray, List.set_cons_zero, List.set_cons_succ]
                  refine qw_run (v := .bool false) (by rfl) ?_ ?_
                  · (intro w9 hC; clear hC; go_simp; first | done | (simp; done) | (simp [*]; done) | omega | (simp; omega) | (rw [IntKind.wrap_i64]; omega) | (intro hx; omega) | rfl)
                  simp only [Act.put, List.setIfInBounds_toArray, List.set_cons_zero, List.set_cons_succ]
                  refine qw_run (v := .bool false) (by rfl) ?_ ?_
                  · (intro w9 hC; clear hC; go_simp; first | done | (simp; done) | (simp [*]; done) | omega | (simp; omega) | (rw [IntKind.wrap_i64]; omega) | (intro hx; omega) | rfl)
                  simp only [Act.put, List.setIfInBounds_toArray, List.set_cons_zero, List.set_cons_succ]
                  refine qw_run (v := .slice (some ⟨gd, 0, none⟩) nd kd) (by rfl) ?_ ?_
                  · (intro w9 hC; clear hC; go_simp; first | done | (simp; done) | (simp [*]; done) | omega | (simp; omega) | (rw [IntKind.wrap_i64]; omega) | (intro hx; omega) | rfl)
                  simp only [Act.put, List.setIfInBounds_toArray, List.set_cons_zero, List.set_cons_succ]
                  refine qw_run (v := .slice vo l.length vc0) (by rfl) ?_ ?_
                  · (intro w9 hC; clear hC; go_simp; first | done | (simp; done) | (simp [*]; done) | omega | (simp; omega) | (rw [IntKind.wrap_i64]; omega) | (intro hx; omega) | rfl)
                  simp only [Act.put, List.setIfInBounds_toArray, List.set_cons_zero, List.set_cons_succ]
                  refine qw_run (v := .int .i64 (l.length : Int)) (by rfl) ?_ ?_
                  · (intro w9 hC; clear hC; go_simp; first | done | (simp; done) | (simp [*]; done) | omega | (simp; omega) | (rw [IntKind.wrap_i64]; omega) | (intro hx; omega) | rfl)
                  simp only [Act.put, List.setIfInBounds_toArray, List.set_cons_zero, List.set_cons_succ]
                  refine qw_run (v := .int .i64 (pe : Int)) (by rfl) ?_ ?_
                  · (intro w9 hC; clear hC; go_simp; first | done | (simp; done) | (simp [*]; done) | omega | (simp; omega) | (rw [IntKind.wrap_i64]; omega) | (intro hx; omega) | rfl)
                  simp only [Act.put, List.setIfInBounds_toArray, List.set_cons_zero, List.set_cons_succ]
                  refine qw_run (v := .pointer (some ⟨gd, pe, none⟩)) (by rfl) ?_ ?_
                  · (intro w9 hC; clear hC; go_simp; first | done | (simp; done) | (simp [*]; done) | omega | (simp; omega) | (rw [IntKind.wrap_i64]; omega) | (intro hx; omega) | rfl)
                  simp only [Act.put, List.setIfInBounds_toArray, List.set_cons_zero, List.set_cons_succ]
                  refine qw_run (v := .int .u8 9) (by rfl) ?_ ?_
                  · (intro w9 hC; have x0 := keepc hC.2 HCe.out; clear hC; go_simp; first | done | (simp; done) | (simp [*]; done) | omega | (simp; omega) | (rw [IntKind.wrap_i64]; omega) | (intro hx; omega) | rfl)
                  simp only [Act.put, List.setIfInBounds_toArray, List.set_cons_zero, List.set_cons_succ]
                  refine qw_run (v := .bool false) (by rfl) ?_ ?_
                  · (intro w9 hC; clear hC; go_simp; first | done | (simp; done) | (simp [*]; done) | omega | (simp; omega) | (rw [IntKind.wrap_i64]; omega) | (intro hx; omega) | rfl)
                  simp only [Act.put, List.setIfInBounds_toArray, List.set_cons_zero, List.set_cons_succ]
                  refine qw_run (v := .bool false) (by rfl) ?_ ?_
                  · (intro w9 hC; clear hC; go_simp; first | done | (simp; done) | (simp [*]; done) | omega | (simp; omega) | (rw [IntKind.wrap_i64]; omega) | (intro hx; omega) | rfl)
                  simp only [Act.put, List.setIfInBounds_toArray, List.set_cons_zero, List.set_cons_succ]
                  refine qw_run (v := .bool false) (by rfl) ?_ ?_
                  · (intro w9 hC; clear hC; go_simp; first | done | (simp; done) | (simp [*]; done) | omega | (simp; omega) | (rw [IntKind.wrap_i64]; omega) | (intro hx; omega) | rfl)
                  simp only [Act.put, List.setIfInBounds_toArray, List.set_cons_zero, List.set_cons_succ]
                  refine qw_run (v := .slice ao4 l.length c4) (by rfl) ?_ ?_
                  · (intro w9 hC; clear hC; go_simp; first | done | (simp; done) | (simp [*]; done) | omega | (simp; omega) | (rw [IntKind.wrap_i64]; omega) | (intro hx; omega) | rfl)
                  simp only [Act.put, List.setIfInBounds_toArray, List.set_cons_zero, List.set_cons_succ]
                  refine qw_run (v := .string (bsA l)) (by rfl) ?_ ?_
                  · (intro w9 hC; have r0 := conv13 (HRm.out.below hC.2) HX.out; clear hC; exact exO r0)
                  simp only [Act.put, List.setIfInBounds_toArray, List.set_cons_zero, List.set_cons_succ]
                  refine qw_run (v := .slice vo l.length vc0) (by rfl) ?_ ?_
                  · (intro w9 hC; clear hC; go_simp; first | done | (simp; done) | (simp [*]; done) | omega | (simp; omega) | (rw [IntKind.wrap_i64]; omega) | (intro hx; omega) | rfl)
                  simp only [Act.put, List.setIfInBounds_toArray, List.set_cons_zero, List.set_cons_succ]
                  refine qw_run (v := .string (bsA l)) (by rfl) ?_ ?_
                  · (intro w9 hC; have r0 := conv13 (HRv.out.below hC.2) HX.out; clear hC; exact exO r0)
                  simp only [Act.put, List.setIfInBounds_toArray, List.set_cons_zero, List.set_cons_succ]
                  refine qw_run (v := .bool false) (by rfl) ?_ ?_
                  · (intro w9 hC; clear hC; go_simp; first | done | (simp; done) | (simp [*]; done) | omega | (simp; omega) | (rw [IntKind.wrap_i64]; omega) | (intro hx; omega) | rfl)
                  simp only [Act.put, List.setIfInBounds_toArray, List.set_cons_zero, List.set_cons_succ]
                  refine qw_run (v := .bool false) (by rfl) ?_ ?_
                  · (intro w9 hC; clear hC; go_simp; first | done | (simp; done) | (simp [*]; done) | omega | (simp; omega) | (rw [IntKind.wrap_i64]; omega) | (intro hx; omega) | rfl)
                  simp only [Act.put, List.setIfInBounds_toArray, List.set_cons_zero, List.set_cons_succ]
                  refine qw_run (v := .bool false) (by rfl) ?_ ?_
                  · (intro w9 hC; clear hC; go_simp; first | done | (simp; done) | (simp [*]; done) | omega | (simp; omega) | (rw [IntKind.wrap_i64]; omega) | (intro hx; omega) | rfl)
                  simp only [Act.put, List.setIfInBounds_toArray, List.set_cons_zero, List.set_cons_succ]
                  refine qw_run (v := .slice (some ⟨gc, 0, none⟩) nc kc) (by rfl) ?_ ?_
                  · (intro w9 hC; clear hC; go_simp; first | done | (simp; done) | (simp [*]; done) | omega | (simp; omega) | (rw [IntKind.wrap_i64]; omega) | (intro hx; omega) | rfl)
                  simp only [Act.put, List.setIfInBounds_toArray, List.set_cons_zero, List.set_cons_succ]
                  refine qw_run (v := .slice vo l.length vc0) (by rfl) ?_ ?_
                  · (intro w9 hC; clear hC; go_simp; first | done | (simp; done) | (simp [*]; done) | omega | (simp; omega) | (rw [IntKind.wrap_i64]; omega) | (intro hx; omega) | rfl)
                  simp only [Act.put, List.setIfInBounds_toArray, List.set_cons_zero, List.set_cons_succ]
                  refine qw_run (v := .int .i64 (l.length : Int)) (by rfl) ?_ ?_
                  · (intro w9 hC; clear hC; go_simp; first | done | (simp; done) | (simp [*]; done) | omega | (simp; omega) | (rw [IntKind.wrap_i64]; omega) | (intro hx; omega) | rfl)
                  simp only [Act.put, List.setIfInBounds_toArray, List.set_cons_zero, List.set_cons_succ]
                  refine qw_run (v := .slice (some ⟨gc, 0, none⟩) l.length kc) (by rfl) ?_ ?_
                  · (intro w9 hC; clear hC; go_simp; first | done | (simp; done) | (simp [*]; done) | omega | (simp; omega) | (rw [IntKind.wrap_i64]; omega) | (intro hx; omega) | rfl)
                  simp only [Act.put, List.setIfInBounds_toArray, List.set_cons_zero, List.set_cons_succ]
                  refine qw_run (v := .string (bsA l)) (by rfl) ?_ ?_
                  · (intro w9 hC; have r0 := conv13 (HRc.out.below hC.2) HX.out; clear hC; exact exO r0)
                  simp only [Act.put, List.setIfInBounds_toArray, List.set_cons_zero, List.set_cons_succ]
                  refine qw_run (v := .slice vo l.length vc0) (by rfl) ?_ ?_
                  · (intro w9 hC; clear hC; go_simp; first | done | (simp; done) | (simp [*]; done) | omega | (simp; omega) | (rw [IntKind.wrap_i64]; omega) | (intro hx; omega) | rfl)
                  simp only [Act.put, List.setIfInBounds_toArray, List.set_cons_zero, List.set_cons_succ]
                  refine qw_run (v := .string (bsA l)) (by rfl) ?_ ?_
                  · (intro w9 hC; have r0 := conv13 (HRv.out.below hC.2) HX.out; clear hC; exact exO r0)
                  simp only [Act.put, List.setIfInBounds_toArray, List.set_cons_zero, List.set_cons_succ]
                  refine qw_run (v := .bool false) (by rfl) ?_ ?_
                  · (intro w9 hC; clear hC; go_simp; first | done | (simp; done) | (simp [*]; done) | omega | (simp; omega) | (rw [IntKind.wrap_i64]; omega) | (intro hx; omega) | rfl)
                  simp only [Act.put, List.setIfInBounds_toArray, List.set_cons_zero, List.set_cons_succ]
                  refine qw_run (v := .bool false) (by rfl) ?_ ?_
                  · (intro w9 hC; clear hC; go_simp; first | done | (simp; done) | (simp [*]; done) | omega | (simp; omega) | (rw [IntKind.wrap_i64]; omega) | (intro hx; omega) | rfl)
                  simp only [Act.put, List.setIfInBounds_toArray, List.set_cons_zero, List.set_cons_succ]
                  refine qw_run (v := .bool false) (by rfl) ?_ ?_
                  · (intro w9 hC; clear hC; go_simp; first | done | (simp; done) | (simp [*]; done) | omega | (simp; omega) | (rw [IntKind.wrap_i64]; omega) | (intro hx; omega) | rfl)
                  simp only [Act.put, List.setIfInBounds_toArray, List.set_cons_zero, List.set_cons_succ]
                  refine qw_run (v := .slice (some ⟨ga, 0, none⟩) na ka) (by rfl) ?_ ?_
                  · (intro w9 hC; clear hC; go_simp; first | done | (simp; done) | (simp [*]; done) | omega | (simp; omega) | (rw [IntKind.wrap_i64]; omega) | (intro hx; omega) | rfl)
                  simp only [Act.put, List.setIfInBounds_toArray, List.set_cons_zero, List.set_cons_succ]
                  refine qw_run (v := .slice (some ⟨ga, 0, none⟩) na ka) (by rfl) ?_ ?_
                  · (intro w9 hC; clear hC; go_simp; first | done | (simp; done) | (simp [*]; done) | omega | (simp; omega) | (rw [IntKind.wrap_i64]; omega) | (intro hx; omega) | rfl)
                  simp only [Act.put, List.setIfInBounds_toArray, List.set_cons_zero, List.set_cons_succ]
                  refine qw_run (v := .int .i64 (na : Int)) (by rfl) ?_ ?_
                  · (intro w9 hC; clear hC; go_simp; first | done | (simp; done) | (simp [*]; done) | omega | (simp; omega) | (rw [IntKind.wrap_i64]; omega) | (intro hx; omega) | rfl)
                  simp only [Act.put, List.setIfInBounds_toArray, List.set_cons_zero, List.set_cons_succ]
                  refine qw_run (v := .int .i64 (pa : Int)) (by rfl) ?_ ?_
                  · (intro w9 hC; clear hC; go_simp; first | done | (simp; done) | (simp [*]; done) | omega | (simp; omega) | (rw [IntKind.wrap_i64]; omega) | (intro hx; omega) | rfl)
                  simp only [Act.put, List.setIfInBounds_toArray, List.set_cons_zero, List.set_cons_succ]
                  refine qw_run (v := .pointer (some ⟨ga, pa, none⟩)) (by rfl) ?_ ?_
                  · (intro w9 hC; clear hC; go_simp; first | done | (simp; done) | (simp [*]; done) | omega | (simp; omega) | (rw [IntKind.wrap_i64]; omega) | (intro hx; omega) | rfl)
                  simp only [Act.put, List.setIfInBounds_toArray, List.set_cons_zero, List.set_cons_succ]
                  refine qw_run (v := .int .u8 1) (by rfl) ?_ ?_
                  · (intro w9 hC; have x0 := keepc hC.2 HCa.out; clear hC; go_simp; first | done | (simp; done) | (simp [*]; done) | omega | (simp; omega) | (rw [IntKind.wrap_i64]; omega) | (intro hx; omega) | rfl)
                  simp only [Act.put, List.setIfInBounds_toArray, List.set_cons_zero, List.set_cons_succ]
                  refine qw_run (v := .bool false) (by rfl) ?_ ?_
                  · (intro w9 hC; clear hC; go_simp; first | done | (simp; done) | (simp [*]; done) | omega | (simp; omega) | (rw [IntKind.wrap_i64]; omega) | (intro hx; omega) | rfl)
                  simp only [Act.put, List.setIfInBounds_toArray, List.set_cons_zero, List.set_cons_succ]
                  refine qw_run (v := .bool false) (by rfl) ?_ ?_
                  · (intro w9 hC; clear hC; go_simp; first | done | (simp; done) | (simp [*]; done) | omega | (simp; omega) | (rw [IntKind.wrap_i64]; omega) | (intro hx; omega) | rfl)
                  simp only [Act.put, List.setIfInBounds_toArray, List.set_cons_zero, List.set_cons_succ]
                  refine qw_run (v := .bool false) (by rfl) ?_ ?_
                  · (intro w9 hC; clear hC; go_simp; first | done | (simp; done) | (simp [*]; done) | omega | (simp; omega) | (rw [IntKind.wrap_i64]; omega) | (intro hx; omega) | rfl)
                  simp only [Act.put, List.setIfInBounds_toArray, List.set_cons_zero, List.set_cons_succ]
                  refine qw_run (v := .slice (some ⟨gd, 0, none⟩) nd kd) (by rfl) ?_ ?_
                  · (intro w9 hC; clear hC; go_simp; first | done | (simp; done) | (simp [*]; done) | omega | (simp; omega) | (rw [IntKind.wrap_i64]; omega) | (intro hx; omega) | rfl)
                  simp only [Act.put, List.setIfInBounds_toArray, List.set_cons_zero, List.set_cons_succ]
                  refine qw_run (v := .slice (some ⟨gd, 0, none⟩) nd kd) (by rfl) ?_ ?_
                  · (intro w9 hC; clear hC; go_simp; first | done | (simp; done) | (simp [*]; done) | omega | (simp; omega) | (rw [IntKind.wrap_i64]; omega) | (intro hx; omega) | rfl)
                  simp only [Act.put, List.setIfInBounds_toArray, List.set_cons_zero, List.set_cons_succ]
                  refine qw_run (v := .int .i64 (nd : Int)) (by rfl) ?_ ?_
                  · (intro w9 hC; clear hC; go_simp; first | done | (simp; done) | (simp [*]; done) | omega | (simp; omega) | (rw [IntKind.wrap_i64]; omega) | (intro hx; omega) | rfl)
                  simp only [Act.put, List.setIfInBounds_toArray, List.set_cons_zero, List.set_cons_succ]
                  refine qw_run (v := .int .i64 (pd : Int)) (by rfl) ?_ ?_
                  · (intro w9 hC; clear hC; go_simp; first | done | (simp; done) | (simp [*]; done) | omega | (simp; omega) | (rw [IntKind.wrap_i64]; omega) | (intro hx; omega) | rfl)
                  simp only [Act.put, List.setIfInBounds_toArray, List.set_cons_zero, List.set_cons_succ]
                  refine qw_run (v := .pointer (some ⟨gd, pd, none⟩)) (by rfl) ?_ ?_
                  · (intro w9 hC; clear hC; go_simp; first | done | (simp; done) | (simp [*]; done) | omega | (simp; omega) | (rw [IntKind.wrap_i64]; omega) | (intro hx; omega) | rfl)
                  simp only [Act.put, List.setIfInBounds_toArray, List.set_cons_zero, List.set_cons_succ]
                  refine qw_run (v := .int .u8 3) (by rfl) ?_ ?_
                  · (intro w9 hC; have x0 := keepc hC.2 HCd.out; clear hC; go_simp; first | done | (simp; done) | (simp [*]; done) | omega | (simp; omega) | (rw [IntKind.wrap_i64]; omega) | (intro hx; omega) | rfl)
                  simp only [Act.put, List.setIfInBounds_toArray, List.set_cons_zero, List.set_cons_succ]
                  refine qw_run (v := .bool false) (by rfl) ?_ ?_
                  · (intro w9 hC; clear hC; go_simp; first | done | (simp; done) | (simp [*]; done) | omega | (simp; omega) | (rw [IntKind.wrap_i64]; omega) | (intro hx; omega) | rfl)
                  simp only [Act.put, List.setIfInBounds_toArray, List.set_cons_zero, List.set_cons_succ]
                  refine qw_run (v := .bool false) (by rfl) ?_ ?_
                  · (intro w9 hC; clear hC; go_simp; first | done | (simp; done) | (simp [*]; done) | omega | (simp; omega) | (rw [IntKind.wrap_i64]; omega) | (intro hx; omega) | rfl)
                  simp only [Act.put, List.setIfInBounds_toArray, List.set_cons_zero, List.set_cons_succ]
                  refine qw_nil ?_
                  intro w9 hC
                  have HB9 := hid13 hC.1
                  have HD9 := hid13 hC.2
                  have K20 := same32_any (.slice (some ⟨C, 0, none⟩) nw nw) (.slice ao10 nw c10) Uf w9 (HRn.out.below HD9.out) (HRwn.out.below HD9.out) HS1.out
                  clear hC HRc HRm HRv
                  go_wp2_with fail
                  refine K20.mono ?_
                  rintro e w20 ⟨rfl, hb20⟩
                  have HB20 := hid13 (keepb hb20 HB9.out)
                  have HD20 := hid13 (keepb hb20 HD9.out)
                  have K21 := sameInts_any (.slice sao Rf.length scp) (.slice ao11 Rf.length c11) Rf w20 (HRs.out.below HD20.out) (HRws.out.below HD20.out) HS2.out
                  clear K20 hb20 HB9 HD9
                  go_wp2_with fail
                  refine K21.mono ?_
                  rintro e w21 ⟨rfl, hb21⟩
                  have HB21 := hid13 (keepb hb21 HB20.out)
                  have x0 := keepc (keepb hb21 HD20.out) HCm.out
                  have x1 := keepc (keepb hb21 HD20.out) HCr.out
                  clear K21 hb21 HB20 HD20
                  go_wp2
                  go_ret
                  exact ⟨rfl, HB21.out⟩
end Go.Proofs.YtdmogkajpginmaaDoor
