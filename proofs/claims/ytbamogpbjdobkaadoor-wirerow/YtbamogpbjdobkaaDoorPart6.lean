/-
  Part 6 of the proof: 1 texts, one behind the other.
-/
import Derived.Test.YtbamogpbjdobkaaDoorPart1
import Derived.Test.YtbamogpbjdobkaaDoorPart3
import Derived.Test.YtbamogpbjdobkaaDoorPart4
import Derived.Test.YtbamogpbjdobkaaDoorPart2
import Derived.Test.YtbamogpbjdobkaaDoorPart5
namespace Go.Proofs.YtbamogpbjdobkaaDoor
open Go.RowKit
set_option linter.unusedSimpArgs false
set_option linter.unusedVariables false

theorem gh_same13w {x y : Array Value} {d e s : Nat} (h : (x.toList.set e undef).eraseIdx d = (y.toList.set e undef).eraseIdx d) (hs : s ≠ d) (ht : s ≠ e) : x[s]? = y[s]? := by
  have := erase_get _ _ d s h hs
  rw [List.getElem?_set_ne (Ne.symm ht), List.getElem?_set_ne (Ne.symm ht)] at this
  simpa using this
theorem ex13w {P : Program} {w : World} {s : Sem Value} {v : Value} (h : s.run P w = .ok v w) : (do pure (Next.value (← s)) : Sem Next).run P w = .ok (.value v) w := by
  simp only [Sem.run_bind, h, Sem.run_pure, Result.andThen_ok]
def aN (x : Int) : Nat := (x % 256).toNat
def bN (x : Int) : Nat := (x / 256 % 256).toNat
def txN (x : Int) : List UInt8 := [UInt8.ofNat (aN x), UInt8.ofNat (bN x)]
theorem aN_is (x : Int) : IntKind.u8.wrap x = (aN x : Int) ∧ aN x < 256 := by unfold aN; simp [IntKind.wrap, IntKind.bits, IntKind.signed]; omega
theorem bN_is (x : Int) : IntKind.u8.wrap (x / 256) = (bN x : Int) ∧ bN x < 256 := by unfold bN; simp [IntKind.wrap, IntKind.bits, IntKind.signed]; omega
structure RT13 (w : World) (k : Nat) (vs : Value) (S : List (List UInt8)) (x : Int) (l0 bd cv sd ap : Bool) (as' : Bool) (g : (Nat × Nat) × (Nat × Nat)) (X : World) : Prop where
  lo : Below w.heap.size w X
  a : ap = false → X.ownsRow w.heap.size 9 1 vs k (S.map cS)
  d : bd = true → ap = false → X.cell? ⟨g.1.1, 0, none⟩ = some (.int .u8 (aN x : Int)) ∧ X.cell? ⟨g.1.1, 1, none⟩ = some (.int .u8 (bN x : Int))
  e : sd = true → ap = false → X.cell? ⟨g.1.2, 0, none⟩ = some (cS (txN x))
  c : ap = true → X.ownsRow w.heap.size 9 1 (.slice (some ⟨g.2.1, 0, none⟩) (k + 1) g.2.2) (k + 1) ((S ++ [txN x]).map cS)
  p1 : ap = true → sd = true
  p2 : sd = true → cv = true
  p3 : cv = true → bd = true
  p4 : as' = true → ap = true
  p5 : ap = true → l0 = true
section
variable {w : World} {k : Nat} {vs : Value} {S : List (List UInt8)} {x : Int} {l0 bd cv sd ap as' : Bool} {g : (Nat × Nat) × (Nat × Nat)} {X X' : World}
theorem RT13.b1 (h : RT13 w k vs S x l0 bd cv sd ap as' g X) (hap : ap = false) (hcv : cv = false) : RT13 w k vs S x l0 true cv sd ap as' ((X.heap.size, g.1.2), g.2) (X.alloc (.cells #[.int .u8 (aN x : Int), .int .u8 (bN x : Int)] 5)) :=
  have hb := bl1 X (.cells #[.int .u8 (aN x : Int), .int .u8 (bN x : Int)] 5)
  ⟨keepb hb h.lo, fun q => own_b13 hb (h.a q), fun _ _ => ⟨by simp [go_sem], by simp [go_sem]⟩, fun q1 q2 => keepc hb (h.e q1 q2), fun q => own_b13 hb (h.c q), h.p1, h.p2, fun _ => rfl, h.p4, h.p5⟩
theorem RT13.cv1 (h : RT13 w k vs S x l0 bd cv sd ap as' g X) (hbd : bd = true) : RT13 w k vs S x l0 bd true sd ap as' g X := ⟨h.lo, h.a, h.d, h.e, h.c, h.p1, fun _ => rfl, fun _ => hbd, h.p4, h.p5⟩
theorem RT13.b2 (h : RT13 w k vs S x l0 bd cv sd ap as' g X) (hcv : cv = true) : RT13 w k vs S x l0 bd cv true ap as' ((g.1.1, X.heap.size), g.2) (X.alloc (.cells #[cS (txN x)] 9)) :=
  have hb := bl1 X (.cells #[cS (txN x)] 9)
  ⟨keepb hb h.lo, fun q => own_b13 hb (h.a q), fun q1 q2 => ⟨keepc hb (h.d q1 q2).1, keepc hb (h.d q1 q2).2⟩, fun _ _ => (by rw [World.cell?_alloc_mark]; rfl), fun q => own_b13 hb (h.c q), fun _ => rfl, fun _ => hcv, h.p3, h.p4, h.p5⟩
theorem RT13.ap1 (h : RT13 w k vs S x l0 bd cv sd ap as' g X) (hap : ap = false) (hsd : sd = true) (hl0 : l0 = true) {gg cap : Nat} (ho : X'.ownsRow w.heap.size 9 1 (.slice (some ⟨gg, 0, none⟩) (k + 1) cap) (k + 1) ((S ++ [txN x]).map cS)) (hg : X.grownBy X' vs.ownBlock) : RT13 w k vs S x l0 bd cv sd true as' (g.1, (gg, cap)) X' :=
  ⟨h.lo.grown hg h.lo.size (fun z e => ((h.a hap).lt z e).1), fun q => (by cases q), fun _ q => (by cases q), fun _ q => (by cases q), fun _ => ho, fun _ => hsd, h.p2, h.p3, fun _ => rfl, fun _ => hl0⟩
theorem RT13.as1 (h : RT13 w k vs S x l0 bd cv sd ap as' g X) (hap : ap = true) : RT13 w k vs S x l0 bd cv sd ap true g X := ⟨h.lo, h.a, h.d, h.e, h.c, h.p1, h.p2, h.p3, fun _ => hap, h.p5⟩
theorem RT13.l1 (h : RT13 w k vs S x l0 bd cv sd ap as' g X) : RT13 w k vs S x true bd cv sd ap as' g X := ⟨h.lo, h.a, h.d, h.e, h.c, h.p1, h.p2, h.p3, h.p4, fun _ => rfl⟩
end
set_option maxRecDepth 100000 in
set_option maxHeartbeats 32000000 in
theorem wireRow_any (v : Value) (l : List Int) (w : World) (hA : RowA w 1 v l.length (l.map cI)) (hv : RwX cI w v l) (hl : l.length * 8 ≤ 140737488351232) (hx : ∀ x ∈ l, -9223372036854775808 ≤ x ∧ x ≤ 9223372036854775807) (hT : Hf w) :
    Calls Tryd.prog 3 #[v] w fun e w' => e = .returned (.bool true) ∧ Below w.heap.size w w' := by
  obtain ⟨vo, vc, hvf, hvc, -⟩ := id hv
  have HT := hid13 hT
  have HV := hid13 hv
  have HXb := hid13 hx
  have HVc := hid13 hvc
  have K1 := known13 _ hT
  subst hvf
  clear hA hv hl hx hT hvc
  go_enter Tryd.func3, Tryd.ntmps3
  go_wp2_with fail
  refine K1.mono ?_
  rintro e w1 ⟨rfl, hb1⟩
  have HB1 := hid13 hb1
  clear hb1 K1
  by_cases hl : (3000 : Int) < (l.length : Int)
  · go_wp2
    go_ret
    exact ⟨rfl, HB1.out⟩
  have HL : Hid (l.length ≤ 3000) := by show _ ≤ _; omega
  have K2 := foldI_any (.slice vo l.length vc) l w1 (HV.out.below HB1.out) (by have := HL.out; omega)
  have HQ := hid13 (fd_unq l)
  have HU := hid13 (fd_un l)
  have hUl := fdU_len l l.length
  have HTw := hid13 (fdR_tw l l.length (Nat.le_refl _))
  have hRl := fdR_len l l.length
  obtain ⟨nw, hnw⟩ : ∃ nw, nw = (l.length + 31) / 32 := ⟨_, rfl⟩
  rw [← hnw] at K2 hUl
  generalize fdU l l.length = U at *
  generalize fdR l l.length = R at *
  have HN : Hid (nw = (l.length + 31) / 32 ∧ U.length = nw ∧ R.length ≤ l.length) := ⟨hnw, hUl, hRl⟩
  have hnq : ((nw : Int) != ((l.length : Int) + 31) / 32) = false := by simp; omega
  clear hnw hUl hRl
  go_wp2_with fail
  refine K2.mono ?_
  rintro e w2 ⟨vf, rfl, hF⟩
  have hu := hF.ul
  have hM2 : RwX cU w2 (.slice (some ⟨w1.heap.size, 0, none⟩) nw nw) U := own_rwx (by rw [hu]; exact hF.m)
  have hR2 := own_rwx hF.r
  have HB2 := hid13 (keepb hF.b HB1.out)
  have hM2' : RwX cU w2 (.slice (some ⟨w1.heap.size, 0, none⟩) nw nw) U := hM2
  obtain ⟨ra, rc, hvf⟩ := own_form hF.r
  subst hvf
  have HM2 := hid13 hM2'
  have HR2 := hid13 hR2
  have K3 := unfoldI_any (.slice (some ⟨w1.heap.size, 0, none⟩) nw nw) (.slice ra R.length rc) U (l.length : Int) R w2 hM2' hR2 (by have := HN.out; have := HL.out; omega) (by omega) (by have := HL.out; omega) (by have := HN.out; have := HL.out; omega)
  clear K2 hF hM2 hM2' hR2 hu HB1
  go_wp2_with fail
  refine K3.mono ?_
  rintro e w3 ⟨hUn, hb3⟩
  rcases hUn with ⟨-, uu, rfl, hO3⟩ | ⟨hq, -⟩
  rotate_left 1
  · exact absurd HQ.out hq
  rw [Int.toNat_natCast, HU.out] at hO3
  obtain ⟨ua, uc, hvu⟩ := own_form hO3
  subst hvu
  have HB3 := hid13 (keepb hb3 HB2.out)
  have HM3 := hid13 (HM2.out.below hb3)
  have HR3 := hid13 (HR2.out.below hb3)
  have K4 := sameInts_any (.slice ua l.length uc) (.slice vo l.length vc) l w3 (own_rwx hO3) (HV.out.below HB3.out) (by have := HL.out; omega)
  clear K3 hO3 hb3 HB2 HM2 HR2
  go_wp2_with fail
  refine K4.mono ?_
  rintro e w4 ⟨rfl, hb4⟩
  have HB4 := hid13 (keepb hb4 HB3.out)
  have HM4 := hid13 (HM3.out.below hb4)
  have HR4 := hid13 (HR3.out.below hb4)
  have K5 := ones_any (.slice (some ⟨w1.heap.size, 0, none⟩) nw nw) U w4 HM4.out (by have := HN.out; have := HL.out; omega)
  rw [HQ.out.2.2.1] at K5
  clear K4 hb4 HB3 HM3 HR3
  go_wp2_with fail
  refine K5.mono ?_
  rintro e w5 ⟨rfl, hb5⟩
  have HB5 := hid13 (keepb hb5 HB4.out)
  have HR5 := hid13 (HR4.out.below hb5)
  clear K5 hb5 HB4 HR4 HM4 hnq
  go_wp2_with fail
  go_loopg [7] R.length (fun g a wr => ∃ (i : Nat), a = .int .i64 ((i : Int) + 1) ∧ g = R.length - i ∧ Hid (Below w.heap.size w wr) ∧ Hid (RwX cI wr (.slice ra R.length rc) R))
  case atStart => exact ⟨0, by first | rfl | simp, rfl, HB5, HR5⟩
  case round =>
    clear HB5 HR5
    obtain ⟨i, rfl, rfl, HB, HR⟩ := hrel
    by_cases hlt : i + 1 < R.length
    · obtain ⟨ra', rc', he, hrc, hcl⟩ := id HR.out
      injection he with he1 he2 he3
      subst he1 he3
      obtain ⟨rb, off, hra, hcell⟩ : ∃ rb off, ra = some ⟨rb, off, none⟩ ∧ ∀ j x, R[j]? = some x → wr.cell? ⟨rb, off + j, none⟩ = some (cI x) := by
        rcases hcl with h | h
        · rw [h] at hlt; cases hlt
        · exact h
      subst hra
      obtain ⟨x, hx⟩ : ∃ x, R[i + 1]? = some x := ⟨_, List.getElem?_eq_getElem hlt⟩
      obtain ⟨y, hy⟩ : ∃ y, R[i]? = some y := ⟨_, List.getElem?_eq_getElem (by omega)⟩
      have hne : y ≠ x := HTw.out i y x hy hx
      have HCx : Hid (wr.cell? ⟨rb, off + (i + 1), none⟩ = some (.int .i64 x) ∧ wr.cell? ⟨rb, off + i, none⟩ = some (.int .i64 y)) := ⟨hcell _ _ hx, hcell _ _ hy⟩
      have hnb : (x == y) = false := by simp; exact fun q => hne q.symm
      have h1 : (i : Int) + 1 < (R.length : Int) := by omega
      have h2 : (i : Int) < (R.length : Int) := by omega
      have wi : IntKind.i64.wrap (i : Int) = (i : Int) := by rw [IntKind.wrap_i64]; have := HN.out; have := HL.out; omega
      have wm : IntKind.i64.wrap ((i : Int) + 1 - 1) = (i : Int) := by rw [IntKind.wrap_i64]; have := HN.out; have := HL.out; omega
      have wn : wrap64 ((i : Int) + 1 + 1) = ((i + 1 : Nat) : Int) + 1 := by unfold wrap64; have := HN.out; have := HL.out; omega
      have HMs : Hid (R.length - (i + 1) < R.length - i) := by show _ < _; omega
      clear hlt hcl hcell hx hy hne he2 hrc
      go_wp2_with fail
      refine qw_region (C := fun X => X.cell? ⟨rb, off + (i + 1), none⟩ = some (.int .i64 x) ∧ X.cell? ⟨rb, off + i, none⟩ = some (.int .i64 y) ∧ Below w.heap.size w X ∧ RwX cI X (.slice (some ⟨rb, off, none⟩) R.length rc) R) (by kernel_rfl) (by kernel_rfl) ⟨HCx.out.1, HCx.out.2, HB.out.drew, HR.out.below (below_drewN (Below.refl _ _) 1)⟩ ?_
      refine qw_run (v := .slice (some ⟨rb, off, none⟩) R.length rc) (by rfl) ?_ ?_
      · (intro w9 hC; clear hC; go_simp; first | done | (simp; done) | (simp [*]; done) | omega | (simp; omega) | (rw [IntKind.wrap_i64]; omega) | (intro hx; omega) | rfl)
      simp only [Act.put, List.setIfInBounds_toArray, List.set_cons_zero, List.set_cons_succ]
      refine qw_run (v := .int .i64 ((i : Int) + 1)) (by rfl) ?_ ?_
      · (intro w9 hC; clear hC; go_simp; first | done | (simp; done) | (simp [*]; done) | omega | (simp; omega) | (rw [IntKind.wrap_i64]; omega) | (intro hx; omega) | rfl)
      simp only [Act.put, List.setIfInBounds_toArray, List.set_cons_zero, List.set_cons_succ]
      refine qw_run (v := .pointer (some ⟨rb, off + (i + 1), none⟩)) (by rfl) ?_ ?_
      · (intro w9 hC; clear hC; go_simp; first | done | (simp; done) | (simp [*]; done) | omega | (simp; omega) | (rw [IntKind.wrap_i64]; omega) | (intro hx; omega) | rfl)
      simp only [Act.put, List.setIfInBounds_toArray, List.set_cons_zero, List.set_cons_succ]
      refine qw_run (v := .int .i64 x) (by rfl) ?_ ?_
      · (intro w9 hC; have h9 := hC.1; have h8 := hC.2.1; clear hC; go_simp; first | done | (simp; done) | (simp [*]; done) | omega | (simp; omega) | (rw [IntKind.wrap_i64]; omega) | (intro hx; omega) | rfl)
      simp only [Act.put, List.setIfInBounds_toArray, List.set_cons_zero, List.set_cons_succ]
      refine qw_run (v := .slice (some ⟨rb, off, none⟩) R.length rc) (by rfl) ?_ ?_
      · (intro w9 hC; clear hC; go_simp; first | done | (simp; done) | (simp [*]; done) | omega | (simp; omega) | (rw [IntKind.wrap_i64]; omega) | (intro hx; omega) | rfl)
      simp only [Act.put, List.setIfInBounds_toArray, List.set_cons_zero, List.set_cons_succ]
      refine qw_run (v := .int .i64 ((i : Int) + 1)) (by rfl) ?_ ?_
      · (intro w9 hC; clear hC; go_simp; first | done | (simp; done) | (simp [*]; done) | omega | (simp; omega) | (rw [IntKind.wrap_i64]; omega) | (intro hx; omega) | rfl)
      simp only [Act.put, List.setIfInBounds_toArray, List.set_cons_zero, List.set_cons_succ]
      refine qw_run (v := .int .i64 (i : Int)) (by rfl) ?_ ?_
      · (intro w9 hC; clear hC; go_simp; first | done | (simp; done) | (simp [*]; done) | omega | (simp; omega) | (rw [IntKind.wrap_i64]; omega) | (intro hx; omega) | rfl)
      simp only [Act.put, List.setIfInBounds_toArray, List.set_cons_zero, List.set_cons_succ]
      refine qw_run (v := .pointer (some ⟨rb, off + i, none⟩)) (by rfl) ?_ ?_
      · (intro w9 hC; clear hC; go_simp; first | done | (simp; done) | (simp [*]; done) | omega | (simp; omega) | (rw [IntKind.wrap_i64]; omega) | (intro hx; omega) | rfl)
      simp only [Act.put, List.setIfInBounds_toArray, List.set_cons_zero, List.set_cons_succ]
      refine qw_run (v := .int .i64 y) (by rfl) ?_ ?_
      · (intro w9 hC; have h9 := hC.1; have h8 := hC.2.1; clear hC; go_simp; first | done | (simp; done) | (simp [*]; done) | omega | (simp; omega) | (rw [IntKind.wrap_i64]; omega) | (intro hx; omega) | rfl)
      simp only [Act.put, List.setIfInBounds_toArray, List.set_cons_zero, List.set_cons_succ]
      refine qw_run (v := .bool false) (by rfl) ?_ ?_
      · (intro w9 hC; clear hC; go_simp; first | done | (simp; done) | (simp [*]; done) | omega | (simp; omega) | (rw [IntKind.wrap_i64]; omega) | (intro hx; omega) | rfl)
      simp only [Act.put, List.setIfInBounds_toArray, List.set_cons_zero, List.set_cons_succ]
      refine qw_nil ?_
      intro w8 hX
      have HB8 := hid13 hX.2.2.1
      have HR8 := hid13 hX.2.2.2
      clear hX HCx HB HR
      go_wp2
      go_roundg (R.length - (i + 1))
      case measure => exact HMs.out
      case rel => exact ⟨i + 1, by first | rfl | (rw [wn]) | (congr 1; omega), rfl, HB8, HR8⟩
    have hge : ¬ (i : Int) + 1 < (R.length : Int) := by omega
    clear hlt HR HTw HQ HU
    go_wp2_with fail
    go_loopg [8, 9] l.length (fun g t8 t9 wr => ∃ (k : Nat), t9 = .int .i64 (k : Int) ∧ k + g = l.length ∧ Hid (Below w.heap.size w wr) ∧ Hid (wr.ownsRow w.heap.size 9 1 t8 k (((l.take k).map txN).map cS)))
    case atStart => exact ⟨0, rfl, by omega, HB, World.ownsRow_nil _ _ _ _⟩
    case round =>
      clear HB hge
      obtain ⟨k, hk9, hkg, HB, HS⟩ := hrel
      subst hk9
      obtain ⟨so, sc, hvs⟩ := own_form HS.out
      subst hvs
      by_cases hlt : k < l.length
      · obtain ⟨x, hx⟩ : ∃ x, l[k]? = some x := ⟨_, List.getElem?_eq_getElem hlt⟩
        obtain ⟨vb, off, hvo, hcell⟩ : ∃ vb off, vo = some ⟨vb, off, none⟩ ∧ ∀ j x, l[j]? = some x → w.cell? ⟨vb, off + j, none⟩ = some (cI x) := by
          obtain ⟨ao', c', e, -, h⟩ := id HV.out
          injection e with e1 e2 e3
          subst e1
          rcases h with h | h
          · rw [h] at hlt; cases hlt
          · exact h
        have HCx : Hid (w.cell? ⟨vb, off + k, none⟩ = some (.int .i64 x)) := hcell _ _ hx
        have hS1 : (l.take (k + 1)).map txN = (l.take k).map txN ++ [txN x] := by rw [List.take_add_one, hx, List.map_append]; rfl
        have HS1 := hid13 hS1
        obtain ⟨S, hSd⟩ : ∃ S, S = (l.take k).map txN := ⟨_, rfl⟩
        rw [← hSd] at HS1 HS
        have HKb : Hid (k ≤ 3000) := by have := HL.out; show _ ≤ _; omega
        have wa := (aN_is x).1
        have wb := (bN_is x).1
        have hki : (k : Int) < (l.length : Int) := by omega
        have wk : wrap64 ((k : Int) + 1) = ((k + 1 : Nat) : Int) := by unfold wrap64; have := HL.out; omega
        have HMs : Hid (k + 1 + (l.length - (k + 1)) = l.length ∧ l.length - (k + 1) < gk) := ⟨by omega, by omega⟩
        obtain ⟨q0, q1i, q2, q3, q4⟩ := info13 Tryd.infoS13
        have HR0 : Hid (RT13 w k (.slice so k sc) S x false false false false false false ((0, 0), (0, 0)) wr.drew) := ⟨HB.out.drew, fun _ => own_b13 (below_drewN (Below.refl _ _) 1) HS.out, fun h => (by cases h), fun h => (by cases h), fun h => (by cases h), fun h => (by cases h), fun h => (by cases h), fun h => (by cases h), fun h => (by cases h), fun h => (by cases h)⟩
        subst hvo
        clear hlt hkg hcell hx hS1 hSd HS HB
        go_wp2_with fail
        refine gh_region (γ := (Nat × Nat) × (Nat × Nat)) (qpOk 17 17 (by decide) (fun N => by kernel_rfl) (by kernel_rfl) (by kernel_rfl) (by kernel_rfl) (by kernel_rfl)) (by kernel_rfl) (by kernel_rfl) [some 81, some 82, some 83, some 84, some 85, some 86, some 87, some 88, some 89, some 90, some 91, some 92, some 93, some 94, some 95, some 96, some 8] (fun g => [.slice so k sc, .slice (some ⟨vb, off, none⟩) l.length vc, .int .i64 (k : Int), .pointer (some ⟨vb, off + k, none⟩), .int .i64 x, .int .u8 (aN x : Int), .slice (some ⟨vb, off, none⟩) l.length vc, .int .i64 (k : Int), .pointer (some ⟨vb, off + k, none⟩), .int .i64 x, .int .i64 (x / 256), .int .u8 (bN x : Int), .slice (some ⟨g.1.1, 0, none⟩) 2 2, cS (txN x), .slice (some ⟨g.1.2, 0, none⟩) 1 1, .slice (some ⟨g.2.1, 0, none⟩) (k + 1) g.2.2, .slice (some ⟨g.2.1, 0, none⟩) (k + 1) g.2.2]) (by kernel_rfl) (by simp) (fun lp g X => RT13 w k (.slice so k sc) S x (lp.getD 0 false) (lp.getD 12 false) (lp.getD 13 false) (lp.getD 14 false) (lp.getD 15 false) (lp.getD 16 false) g X) ((0, 0), (0, 0)) HR0.out ?step18 ?fin18
        case step18 =>
          intro q o lp g w' a' ho hsz hun hdep hR hS K Q' hK
          have hfl : ∀ j, j ≠ q → (lp.setIfInBounds q true).getD j false = lp.getD j false := fun j hj => by rw [Array.getD_eq_getD_getElem?, Array.getD_eq_getD_getElem?, Array.getElem?_setIfInBounds_ne (by omega)]
          have hq : q < 17 := (List.getElem?_eq_some_iff.mp ho).1
          match q, ho, hun, hdep, hK, hfl, hq with
          | 0, ho, hun, hdep, hK, hfl, _ =>
            obtain rfl := Option.some.inj ho
            have h16 : lp.getD 16 false = false := by
              cases h : lp.getD 16 false with
              | false => rfl
              | true => have := hR.p5 (hR.p4 h); rw [hun] at this; cases this
            have o8 : a'.tmps[8]? = some (.slice so k sc) := (hS.oth 8 (fun k' ok hk hl hd => by have := dstG_of (by kernel_rfl) k' 16 ok _ 8 hk rfl hd rfl; subst this; rw [h16] at hl; cases hl)).trans rfl
            have hK' := hK g w' (fun _ _ _ _ _ _ => rfl) (by rw [hfl 12 (by decide), hfl 13 (by decide), hfl 14 (by decide), hfl 15 (by decide), hfl 16 (by decide), getD_set_same (by rw [hsz]; decide)]; exact hR.l1) (.slice so k sc) (by simp only [valO, Option.bind_some]; simp only [putAll, Act.put, List.setIfInBounds_toArray, List.set_cons_zero, List.set_cons_succ]; rfl)
            clear hS hdep hR
            refine gh_quiet14 (v := .slice so k sc) ?_ ?_
            · (simp only [execOp, Act.eval, o8]; go_simp; first | done | (simp; done) | (simp [*]; done))
            · exact hK'
          | 1, ho, hun, hdep, hK, hfl, _ =>
            obtain rfl := Option.some.inj ho
            have o0 : a'.tmps[0]? = some (.slice (some ⟨vb, off, none⟩) l.length vc) := (hS.old14 0 (by simp)).trans rfl
            have hK' := hK g w' (fun _ _ _ _ _ _ => rfl) (by rw [hfl 0 (by decide), hfl 12 (by decide), hfl 13 (by decide), hfl 14 (by decide), hfl 15 (by decide), hfl 16 (by decide)]; exact hR) (.slice (some ⟨vb, off, none⟩) l.length vc) (by simp only [valO, Option.bind_some]; (try simp only [putAll, Act.put, List.setIfInBounds_toArray, List.set_cons_zero, List.set_cons_succ]); (try rfl))
            clear hS hdep hR
            refine gh_quiet14 (v := .slice (some ⟨vb, off, none⟩) l.length vc) ?_ ?_
            · (simp only [execOp, Act.eval, o0]; go_simp; first | done | (simp; done) | (simp [*]; done) | omega | (rw [IntKind.wrap_i64]; omega))
            · exact hK'
          | 2, ho, hun, hdep, hK, hfl, _ =>
            obtain rfl := Option.some.inj ho
            have o9 : a'.tmps[9]? = some (.int .i64 (k : Int)) := (hS.old14 9 (by simp)).trans rfl
            have hK' := hK g w' (fun _ _ _ _ _ _ => rfl) (by rw [hfl 0 (by decide), hfl 12 (by decide), hfl 13 (by decide), hfl 14 (by decide), hfl 15 (by decide), hfl 16 (by decide)]; exact hR) (.int .i64 (k : Int)) (by simp only [valO, Option.bind_some]; (try simp only [putAll, Act.put, List.setIfInBounds_toArray, List.set_cons_zero, List.set_cons_succ]); (try rfl))
            clear hS hdep hR
            refine gh_quiet14 (v := .int .i64 (k : Int)) ?_ ?_
            · (simp only [execOp, Act.eval, o9]; go_simp; first | done | (simp; done) | (simp [*]; done) | omega | (rw [IntKind.wrap_i64]; omega))
            · exact hK'
          | 3, ho, hun, hdep, hK, hfl, _ =>
            obtain rfl := Option.some.inj ho
            have d1 : lp.getD 1 false = true := hdep { on := 1, ground := .data } (by simp) rfl
            have e82 : a'.tmps[82]? = some (.slice (some ⟨vb, off, none⟩) l.length vc) := (hS.don 1 _ 82 rfl d1 rfl).trans (by simp only [putAll, Act.put, List.setIfInBounds_toArray, List.set_cons_zero, List.set_cons_succ]; rfl)
            have d2 : lp.getD 2 false = true := hdep { on := 2, ground := .data } (by simp) rfl
            have e83 : a'.tmps[83]? = some (.int .i64 (k : Int)) := (hS.don 2 _ 83 rfl d2 rfl).trans (by simp only [putAll, Act.put, List.setIfInBounds_toArray, List.set_cons_zero, List.set_cons_succ]; rfl)
            have hK' := hK g w' (fun _ _ _ _ _ _ => rfl) (by rw [hfl 0 (by decide), hfl 12 (by decide), hfl 13 (by decide), hfl 14 (by decide), hfl 15 (by decide), hfl 16 (by decide)]; exact hR) (.pointer (some ⟨vb, off + k, none⟩)) (by simp only [valO, Option.bind_some]; (try simp only [putAll, Act.put, List.setIfInBounds_toArray, List.set_cons_zero, List.set_cons_succ]); (try rfl))
            clear hS hdep hR
            refine gh_quiet14 (v := .pointer (some ⟨vb, off + k, none⟩)) ?_ ?_
            · (simp only [execOp, Act.eval, e82, e83]; go_simp; first | done | (simp; done) | (simp [*]; done) | omega | (rw [IntKind.wrap_i64]; omega))
            · exact hK'
          | 4, ho, hun, hdep, hK, hfl, _ =>
            obtain rfl := Option.some.inj ho
            have d3 : lp.getD 3 false = true := hdep { on := 3, ground := .data } (by simp) rfl
            have e84 : a'.tmps[84]? = some (.pointer (some ⟨vb, off + k, none⟩)) := (hS.don 3 _ 84 rfl d3 rfl).trans (by simp only [putAll, Act.put, List.setIfInBounds_toArray, List.set_cons_zero, List.set_cons_succ]; rfl)
            have k1 := keepc hR.lo HCx.out
            have hK' := hK g w' (fun _ _ _ _ _ _ => rfl) (by rw [hfl 0 (by decide), hfl 12 (by decide), hfl 13 (by decide), hfl 14 (by decide), hfl 15 (by decide), hfl 16 (by decide)]; exact hR) (.int .i64 x) (by simp only [valO, Option.bind_some]; (try simp only [putAll, Act.put, List.setIfInBounds_toArray, List.set_cons_zero, List.set_cons_succ]); (try rfl))
            clear hS hdep hR
            refine gh_quiet14 (v := .int .i64 x) ?_ ?_
            · (simp only [execOp, Act.eval, e84]; go_simp; first | done | (simp; done) | (simp [*]; done) | omega | (rw [IntKind.wrap_i64]; omega))
            · exact hK'
          | 5, ho, hun, hdep, hK, hfl, _ =>
            obtain rfl := Option.some.inj ho
            have d4 : lp.getD 4 false = true := hdep { on := 4, ground := .data } (by simp) rfl
            have e85 : a'.tmps[85]? = some (.int .i64 x) := (hS.don 4 _ 85 rfl d4 rfl).trans (by simp only [putAll, Act.put, List.setIfInBounds_toArray, List.set_cons_zero, List.set_cons_succ]; rfl)
            have hK' := hK g w' (fun _ _ _ _ _ _ => rfl) (by rw [hfl 0 (by decide), hfl 12 (by decide), hfl 13 (by decide), hfl 14 (by decide), hfl 15 (by decide), hfl 16 (by decide)]; exact hR) (.int .u8 (aN x : Int)) (by simp only [valO, Option.bind_some]; (try simp only [putAll, Act.put, List.setIfInBounds_toArray, List.set_cons_zero, List.set_cons_succ]); (try rfl))
            clear hS hdep hR
            refine gh_quiet14 (v := .int .u8 (aN x : Int)) ?_ ?_
            · (simp only [execOp, Act.eval, e85]; go_simp; first | done | (simp; done) | (simp [*]; done) | omega | (rw [IntKind.wrap_i64]; omega))
            · exact hK'
          | 6, ho, hun, hdep, hK, hfl, _ =>
            obtain rfl := Option.some.inj ho
            have o0 : a'.tmps[0]? = some (.slice (some ⟨vb, off, none⟩) l.length vc) := (hS.old14 0 (by simp)).trans rfl
            have hK' := hK g w' (fun _ _ _ _ _ _ => rfl) (by rw [hfl 0 (by decide), hfl 12 (by decide), hfl 13 (by decide), hfl 14 (by decide), hfl 15 (by decide), hfl 16 (by decide)]; exact hR) (.slice (some ⟨vb, off, none⟩) l.length vc) (by simp only [valO, Option.bind_some]; (try simp only [putAll, Act.put, List.setIfInBounds_toArray, List.set_cons_zero, List.set_cons_succ]); (try rfl))
            clear hS hdep hR
            refine gh_quiet14 (v := .slice (some ⟨vb, off, none⟩) l.length vc) ?_ ?_
            · (simp only [execOp, Act.eval, o0]; go_simp; first | done | (simp; done) | (simp [*]; done) | omega | (rw [IntKind.wrap_i64]; omega))
            · exact hK'
          | 7, ho, hun, hdep, hK, hfl, _ =>
            obtain rfl := Option.some.inj ho
            have o9 : a'.tmps[9]? = some (.int .i64 (k : Int)) := (hS.old14 9 (by simp)).trans rfl
            have hK' := hK g w' (fun _ _ _ _ _ _ => rfl) (by rw [hfl 0 (by decide), hfl 12 (by decide), hfl 13 (by decide), hfl 14 (by decide), hfl 15 (by decide), hfl 16 (by decide)]; exact hR) (.int .i64 (k : Int)) (by simp only [valO, Option.bind_some]; (try simp only [putAll, Act.put, List.setIfInBounds_toArray, List.set_cons_zero, List.set_cons_succ]); (try rfl))
            clear hS hdep hR
            refine gh_quiet14 (v := .int .i64 (k : Int)) ?_ ?_
            · (simp only [execOp, Act.eval, o9]; go_simp; first | done | (simp; done) | (simp [*]; done) | omega | (rw [IntKind.wrap_i64]; omega))
            · exact hK'
          | 8, ho, hun, hdep, hK, hfl, _ =>
            obtain rfl := Option.some.inj ho
            have d6 : lp.getD 6 false = true := hdep { on := 6, ground := .data } (by simp) rfl
            have e87 : a'.tmps[87]? = some (.slice (some ⟨vb, off, none⟩) l.length vc) := (hS.don 6 _ 87 rfl d6 rfl).trans (by simp only [putAll, Act.put, List.setIfInBounds_toArray, List.set_cons_zero, List.set_cons_succ]; rfl)
            have d7 : lp.getD 7 false = true := hdep { on := 7, ground := .data } (by simp) rfl
            have e88 : a'.tmps[88]? = some (.int .i64 (k : Int)) := (hS.don 7 _ 88 rfl d7 rfl).trans (by simp only [putAll, Act.put, List.setIfInBounds_toArray, List.set_cons_zero, List.set_cons_succ]; rfl)
            have hK' := hK g w' (fun _ _ _ _ _ _ => rfl) (by rw [hfl 0 (by decide), hfl 12 (by decide), hfl 13 (by decide), hfl 14 (by decide), hfl 15 (by decide), hfl 16 (by decide)]; exact hR) (.pointer (some ⟨vb, off + k, none⟩)) (by simp only [valO, Option.bind_some]; (try simp only [putAll, Act.put, List.setIfInBounds_toArray, List.set_cons_zero, List.set_cons_succ]); (try rfl))
            clear hS hdep hR
            refine gh_quiet14 (v := .pointer (some ⟨vb, off + k, none⟩)) ?_ ?_
            · (simp only [execOp, Act.eval, e87, e88]; go_simp; first | done | (simp; done) | (simp [*]; done) | omega | (rw [IntKind.wrap_i64]; omega))
            · exact hK'
          | 9, ho, hun, hdep, hK, hfl, _ =>
            obtain rfl := Option.some.inj ho
            have d8 : lp.getD 8 false = true := hdep { on := 8, ground := .data } (by simp) rfl
            have e89 : a'.tmps[89]? = some (.pointer (some ⟨vb, off + k, none⟩)) := (hS.don 8 _ 89 rfl d8 rfl).trans (by simp only [putAll, Act.put, List.setIfInBounds_toArray, List.set_cons_zero, List.set_cons_succ]; rfl)
            have k1 := keepc hR.lo HCx.out
            have hK' := hK g w' (fun _ _ _ _ _ _ => rfl) (by rw [hfl 0 (by decide), hfl 12 (by decide), hfl 13 (by decide), hfl 14 (by decide), hfl 15 (by decide), hfl 16 (by decide)]; exact hR) (.int .i64 x) (by simp only [valO, Option.bind_some]; (try simp only [putAll, Act.put, List.setIfInBounds_toArray, List.set_cons_zero, List.set_cons_succ]); (try rfl))
            clear hS hdep hR
            refine gh_quiet14 (v := .int .i64 x) ?_ ?_
            · (simp only [execOp, Act.eval, e89]; go_simp; first | done | (simp; done) | (simp [*]; done) | omega | (rw [IntKind.wrap_i64]; omega))
            · exact hK'
          | 10, ho, hun, hdep, hK, hfl, _ =>
            obtain rfl := Option.some.inj ho
            have d9 : lp.getD 9 false = true := hdep { on := 9, ground := .data } (by simp) rfl
            have e90 : a'.tmps[90]? = some (.int .i64 x) := (hS.don 9 _ 90 rfl d9 rfl).trans (by simp only [putAll, Act.put, List.setIfInBounds_toArray, List.set_cons_zero, List.set_cons_succ]; rfl)
            have hK' := hK g w' (fun _ _ _ _ _ _ => rfl) (by rw [hfl 0 (by decide), hfl 12 (by decide), hfl 13 (by decide), hfl 14 (by decide), hfl 15 (by decide), hfl 16 (by decide)]; exact hR) (.int .i64 (x / 256)) (by simp only [valO, Option.bind_some]; (try simp only [putAll, Act.put, List.setIfInBounds_toArray, List.set_cons_zero, List.set_cons_succ]); (try rfl))
            clear hS hdep hR
            refine gh_quiet14 (v := .int .i64 (x / 256)) ?_ ?_
            · (simp only [execOp, Act.eval, e90]; go_simp; first | done | (simp; done) | (simp [*]; done) | omega | (rw [IntKind.wrap_i64]; omega))
            · exact hK'
          | 11, ho, hun, hdep, hK, hfl, _ =>
            obtain rfl := Option.some.inj ho
            have d10 : lp.getD 10 false = true := hdep { on := 10, ground := .data } (by simp) rfl
            have e91 : a'.tmps[91]? = some (.int .i64 (x / 256)) := (hS.don 10 _ 91 rfl d10 rfl).trans (by simp only [putAll, Act.put, List.setIfInBounds_toArray, List.set_cons_zero, List.set_cons_succ]; rfl)
            have hK' := hK g w' (fun _ _ _ _ _ _ => rfl) (by rw [hfl 0 (by decide), hfl 12 (by decide), hfl 13 (by decide), hfl 14 (by decide), hfl 15 (by decide), hfl 16 (by decide)]; exact hR) (.int .u8 (bN x : Int)) (by simp only [valO, Option.bind_some]; (try simp only [putAll, Act.put, List.setIfInBounds_toArray, List.set_cons_zero, List.set_cons_succ]); (try rfl))
            clear hS hdep hR
            refine gh_quiet14 (v := .int .u8 (bN x : Int)) ?_ ?_
            · (simp only [execOp, Act.eval, e91]; go_simp; first | done | (simp; done) | (simp [*]; done) | omega | (rw [IntKind.wrap_i64]; omega))
            · exact hK'
          | 12, ho, hun, hdep, hK, hfl, _ =>
            obtain rfl := Option.some.inj ho
            have d5 : lp.getD 5 false = true := hdep { on := 5, ground := .data } (by simp) rfl
            have e86 : a'.tmps[86]? = some (.int .u8 (aN x : Int)) := (hS.don 5 _ 86 rfl d5 rfl).trans (by simp only [putAll, Act.put, List.setIfInBounds_toArray, List.set_cons_zero, List.set_cons_succ]; rfl)
            have d11 : lp.getD 11 false = true := hdep { on := 11, ground := .data } (by simp) rfl
            have e92 : a'.tmps[92]? = some (.int .u8 (bN x : Int)) := (hS.don 11 _ 92 rfl d11 rfl).trans (by simp only [putAll, Act.put, List.setIfInBounds_toArray, List.set_cons_zero, List.set_cons_succ]; rfl)
            have hap : lp.getD 15 false = false := by
              cases h : lp.getD 15 false with
              | false => rfl
              | true => have := hR.p3 (hR.p2 (hR.p1 h)); rw [hun] at this; cases this
            have hcv : lp.getD 13 false = false := by
              cases h : lp.getD 13 false with
              | false => rfl
              | true => have := hR.p3 h; rw [hun] at this; cases this
            have hK' := hK ((w'.heap.size, g.1.2), g.2) (w'.alloc (.cells #[.int .u8 (aN x : Int), .int .u8 (bN x : Int)] 5)) (fun k' ok s hk hl hd => gh_same14 (d := 93) (s := s) (by simp only [putAll, Act.put, List.setIfInBounds_toArray, List.set_cons_zero, List.set_cons_succ]; rfl) (by rintro rfl; have := dstG_of (by kernel_rfl) k' 12 ok _ 93 hk rfl hd rfl; subst this; rw [hun] at hl; cases hl)) (by rw [hfl 0 (by decide), hfl 13 (by decide), hfl 14 (by decide), hfl 15 (by decide), hfl 16 (by decide), getD_set_same (by rw [hsz]; decide)]; exact hR.b1 hap hcv) (.slice (some ⟨w'.heap.size, 0, none⟩) 2 2) (by simp only [valO, Option.bind_some]; simp only [putAll, Act.put, List.setIfInBounds_toArray, List.set_cons_zero, List.set_cons_succ]; rfl)
            clear hS hdep hR hK
            unfold Oper.wp
            simp only [execOp, Act.eval, Array.getD_eq_getD_getElem?]
            simp [go_sem, e86, e92, Oper.upon]
            exact hK'
          | 13, ho, hun, hdep, hK, hfl, _ =>
            obtain rfl := Option.some.inj ho
            have d12 : lp.getD 12 false = true := hdep { on := 12, ground := .data } (by simp) rfl
            have e93 : a'.tmps[93]? = some (.slice (some ⟨g.1.1, 0, none⟩) 2 2) := (hS.don 12 _ 93 rfl d12 rfl).trans (by simp only [putAll, Act.put, List.setIfInBounds_toArray, List.set_cons_zero, List.set_cons_succ]; rfl)
            have hap : lp.getD 15 false = false := by
              cases h : lp.getD 15 false with
              | false => rfl
              | true => have := hR.p2 (hR.p1 h); rw [hun] at this; cases this
            have hd := hR.d d12 hap
            have hrow : RwX cB w' (.slice (some ⟨g.1.1, 0, none⟩) 2 2) [aN x, bN x] := ⟨_, _, rfl, Nat.le_refl _, .inr ⟨g.1.1, 0, rfl, fun j z hj => by
              match j, hj with
              | 0, hj => cases hj; exact hd.1
              | 1, hj => cases hj; exact hd.2
              | j + 2, hj => cases hj⟩⟩
            have hc := conv13 hrow (by intro z hz; simp only [List.mem_cons, List.mem_nil_iff, or_false] at hz; rcases hz with rfl | rfl; exact (aN_is x).2; exact (bN_is x).2)
            have hK' := hK g w' (fun _ _ _ _ _ _ => rfl) (by rw [hfl 0 (by decide), hfl 12 (by decide), hfl 14 (by decide), hfl 15 (by decide), hfl 16 (by decide), getD_set_same (by rw [hsz]; decide)]; exact hR.cv1 d12) (cS (txN x)) (by simp only [valO, Option.bind_some]; simp only [putAll, Act.put, List.setIfInBounds_toArray, List.set_cons_zero, List.set_cons_succ]; rfl)
            clear hS hdep hR hd hrow
            refine gh_quiet14 (v := cS (txN x)) ?_ ?_
            · (simp only [execOp, Act.eval, Option.map_some, Option.map_none, Array.getD_eq_getD_getElem?, e93, Option.getD_some]; exact ex13w hc)
            · exact hK'
          | 14, ho, hun, hdep, hK, hfl, _ =>
            obtain rfl := Option.some.inj ho
            have d13 : lp.getD 13 false = true := hdep { on := 13, ground := .data } (by simp) rfl
            have e94 : a'.tmps[94]? = some (cS (txN x)) := (hS.don 13 _ 94 rfl d13 rfl).trans (by simp only [putAll, Act.put, List.setIfInBounds_toArray, List.set_cons_zero, List.set_cons_succ]; rfl)
            have hK' := hK ((g.1.1, w'.heap.size), g.2) (w'.alloc (.cells #[cS (txN x)] 9)) (fun k' ok s hk hl hd => gh_same14 (d := 95) (s := s) (by simp only [putAll, Act.put, List.setIfInBounds_toArray, List.set_cons_zero, List.set_cons_succ]; rfl) (by rintro rfl; have := dstG_of (by kernel_rfl) k' 14 ok _ 95 hk rfl hd rfl; subst this; rw [hun] at hl; cases hl)) (by rw [hfl 0 (by decide), hfl 12 (by decide), hfl 13 (by decide), hfl 15 (by decide), hfl 16 (by decide), getD_set_same (by rw [hsz]; decide)]; exact hR.b2 d13) (.slice (some ⟨w'.heap.size, 0, none⟩) 1 1) (by simp only [valO, Option.bind_some]; simp only [putAll, Act.put, List.setIfInBounds_toArray, List.set_cons_zero, List.set_cons_succ]; rfl)
            clear hS hdep hR hK
            unfold Oper.wp
            simp only [execOp, Act.eval, Array.getD_eq_getD_getElem?]
            unfold cS at *
            simp [go_sem, e94, Oper.upon]
            exact hK'
          | 15, ho, hun, hdep, hK, hfl, _ =>
            obtain rfl := Option.some.inj ho
            have d0 : lp.getD 0 false = true := hdep { on := 0, ground := .data } (by simp) rfl
            have e81 : a'.tmps[81]? = some (.slice so k sc) := (hS.don 0 _ 81 rfl d0 rfl).trans (by simp only [putAll, Act.put, List.setIfInBounds_toArray, List.set_cons_zero, List.set_cons_succ]; rfl)
            have d14 : lp.getD 14 false = true := hdep { on := 14, ground := .data } (by simp) rfl
            have e95 : a'.tmps[95]? = some (.slice (some ⟨g.1.2, 0, none⟩) 1 1) := (hS.don 14 _ 95 rfl d14 rfl).trans (by simp only [putAll, Act.put, List.setIfInBounds_toArray, List.set_cons_zero, List.set_cons_succ]; rfl)
            have hO := hR.a hun
            have hN := hR.e d14 hun
            refine wp_append_lies w' (.tmp 81) (.tmp 95) 32 rfl w.heap.size 9 q0 (.string ⟨#[]⟩) 1 16 Tryd.underlying32 q1i q2 q3 q4 rfl (by decide) (.slice so k sc) k (S.map cS) (by simp [Act.eval, e81]) hO ⟨g.1.2, 0, none⟩ 1 1 [cS (txN x)] (by simp [Act.eval, e95]) rfl (news13 hN) (by intro u hu; simp at hu; subst hu; rfl) (by decide) (by unfold maxLen; have := HKb.out; omega) (by have := HKb.out; omega) hR.lo.size _ rfl ?_
            intro gg cap W5 ho hg hat _
            have ho' : W5.ownsRow w.heap.size 9 1 (.slice (some ⟨gg, 0, none⟩) (k + 1) cap) (k + 1) ((S ++ [txN x]).map cS) := by rw [List.map_append]; exact ho
            exact hK (g.1, (gg, cap)) W5 (fun k' ok s hk hl hd => gh_same13w (d := 96) (e := 8) (s := s) (by simp only [putAll, Act.put, List.setIfInBounds_toArray, List.set_cons_zero, List.set_cons_succ]; rfl) (by rintro rfl; have := dstG_of (by kernel_rfl) k' 15 ok _ 96 hk rfl hd rfl; subst this; rw [hun] at hl; cases hl) (by rintro rfl; have := dstG_of (by kernel_rfl) k' 16 ok _ 8 hk rfl hd rfl; subst this; have := hR.p4 hl; rw [hun] at this; cases this)) (by rw [hfl 0 (by decide), hfl 12 (by decide), hfl 13 (by decide), hfl 14 (by decide), hfl 16 (by decide), getD_set_same (by rw [hsz]; decide)]; exact hR.ap1 hun d14 d0 ho' hg) _ (by simp only [valO, Option.bind_some]; simp only [putAll, Act.put, List.setIfInBounds_toArray, List.set_cons_zero, List.set_cons_succ]; rfl)
          | 16, ho, hun, hdep, hK, hfl, _ =>
            obtain rfl := Option.some.inj ho
            have d15 : lp.getD 15 false = true := hdep { on := 15, ground := .data } (by simp) rfl
            have e96 : a'.tmps[96]? = some (.slice (some ⟨g.2.1, 0, none⟩) (k + 1) g.2.2) := (hS.don 15 _ 96 rfl d15 rfl).trans (by simp only [putAll, Act.put, List.setIfInBounds_toArray, List.set_cons_zero, List.set_cons_succ]; rfl)
            have hK' := hK g w' (fun _ _ _ _ _ _ => rfl) (by rw [hfl 0 (by decide), hfl 12 (by decide), hfl 13 (by decide), hfl 14 (by decide), hfl 15 (by decide), getD_set_same (by rw [hsz]; decide)]; exact hR.as1 d15) (.slice (some ⟨g.2.1, 0, none⟩) (k + 1) g.2.2) (by simp only [valO, Option.bind_some]; (try simp only [putAll, Act.put, List.setIfInBounds_toArray, List.set_cons_zero, List.set_cons_succ]); (try rfl))
            clear hS hdep hR
            refine gh_quiet14 (v := .slice (some ⟨g.2.1, 0, none⟩) (k + 1) g.2.2) ?_ ?_
            · (simp only [execOp, Act.eval, e96]; go_simp; first | done | (simp; done) | (simp [*]; done) | omega | (rw [IntKind.wrap_i64]; omega))
            · exact hK'
          | n + 17, ho, hun, hdep, hK, hfl, hq => exact absurd hq (by omega)
        case fin18 =>
          intro g V8 hR
          have HB8 := hid13 hR.lo
          have hO8 := hR.c (by simp)
          rw [← HS1.out] at hO8
          have HO8 := hid13 hO8
          simp only [putAll, Act.put, List.setIfInBounds_toArray, List.set_cons_zero, List.set_cons_succ]
          clear hR hO8 HR0
          go_wp2
          go_roundg (l.length - (k + 1))
          case measure => exact HMs.out.2
          case rel => exact ⟨k + 1, by first | rfl | (rw [wk]), HMs.out.1, HB8, HO8⟩
      have hge : ¬ (k : Int) < (l.length : Int) := by omega
      have hkl : k = l.length := by omega
      have hS9 : wr.ownsRow w.heap.size 9 1 (.slice so k sc) (l.map txN).length ((l.map txN).map cS) := by
        have h := HS.out
        rw [hkl, List.take_length] at h
        rw [List.length_map, hkl]
        exact h
      obtain ⟨T, hT⟩ : ∃ T, T = l.map txN := ⟨_, rfl⟩
      have hTl : T.length = k := by rw [hT, List.length_map, hkl]
      rw [← hT] at hS9
      have HKl := hid13 hkl
      have HTl := hid13 hTl
      subst hTl
      have K19 := foldS_any (.slice so T.length sc) T wr (own_rwx hS9) (by have := HKl.out; have := HL.out; omega)
      have HS9 := hid13 (own_rwx hS9)
      obtain ⟨mb, hmb⟩ : ∃ mb, mb = wr.heap.size := ⟨_, rfl⟩
      rw [← hmb] at K19
      have HMb := hid13 hmb
      clear hmb
      have HQ2 := hid13 (fd_unq T)
      have HU2 := hid13 (fd_un T)
      have HAt := hid13 (fd_at T)
      have hU2l := fdU_len T T.length
      have hR2l := fdR_len T T.length
      obtain ⟨nz, hnz⟩ : ∃ nz, nz = (T.length + 31) / 32 := ⟨_, rfl⟩
      rw [← hnz] at K19 hU2l
      generalize fdU T T.length = Uz at *
      generalize fdR T T.length = Rz' at *
      have HN2 : Hid (nz = (T.length + 31) / 32 ∧ Uz.length = nz ∧ Rz'.length ≤ T.length ∧ T.length ≤ 3000) := ⟨hnz, hU2l, hR2l, by have := HKl.out; have := HL.out; omega⟩
      clear hnz hU2l hR2l hS9 HS hkg hlt hkl hT HTl
      go_wp2_with fail
      refine K19.mono ?_
      rintro e w9 ⟨tf, rfl, hF⟩
      have hu := hF.ul
      have hM9 : RwX cU w9 (.slice (some ⟨mb, 0, none⟩) nz nz) Uz := by rw [HMb.out]; exact own_rwx (by rw [hu]; exact hF.m)
      have hT9 := own_rwx hF.r
      have HB9 := hid13 (keepb hF.b HB.out)
      obtain ⟨ta, tc, htf⟩ := own_form hF.r
      subst htf
      have HM9 := hid13 hM9
      have HT9 := hid13 hT9
      have HSx9 := hid13 (HS9.out.below hF.b)
      have K20 := unfoldS_any (.slice (some ⟨mb, 0, none⟩) nz nz) (.slice ta Rz'.length tc) Uz (T.length : Int) Rz' w9 hM9 hT9 (by have := HN2.out; omega) (by omega) (by have := HN2.out; omega) (by have := HN2.out; omega)
      clear K19 hF hM9 hT9 hu HB HS9
      go_wp2_with fail
      refine K20.mono ?_
      rintro e w10 ⟨hUn, hb10⟩
      rcases hUn with ⟨-, vv, rfl, hO10⟩ | ⟨hq, -⟩
      rotate_left 1
      · exact absurd HQ2.out hq
      rw [Int.toNat_natCast, HU2.out] at hO10
      obtain ⟨va, vac, hvv⟩ := own_form hO10
      subst hvv
      have HB10 := hid13 (keepb hb10 HB9.out)
      have HR10 : Hid (RwX cU w10 (.slice (some ⟨mb, 0, none⟩) nz nz) Uz ∧ RwX cS w10 (.slice ta Rz'.length tc) Rz' ∧ RwX cS w10 (.slice so T.length sc) T ∧ RwX cS w10 (.slice va T.length vac) T) := ⟨HM9.out.below hb10, HT9.out.below hb10, HSx9.out.below hb10, own_rwx hO10⟩
      clear K20 hO10 hb10 HB9 HM9 HT9 HSx9
      go_wp2_with fail
      go_loopg [14] T.length (fun g a wq => ∃ (j : Nat), a = .int .i64 (j : Int) ∧ j + g = T.length ∧ Hid (Below w.heap.size w wq) ∧ Hid (RwX cU wq (.slice (some ⟨mb, 0, none⟩) nz nz) Uz ∧ RwX cS wq (.slice ta Rz'.length tc) Rz' ∧ RwX cS wq (.slice so T.length sc) T ∧ RwX cS wq (.slice va T.length vac) T))
      case atStart => exact ⟨0, rfl, by omega, HB10, HR10⟩
      case round =>
        clear HB10 HR10
        obtain ⟨j, rfl, hjg, HB, HR⟩ := hrel
        by_cases hlt : j < T.length
        · obtain ⟨x, hx⟩ : ∃ x, T[j]? = some x := ⟨_, List.getElem?_eq_getElem hlt⟩
          have hat := HAt.out j hlt
          obtain ⟨c1, c2⟩ := un_at HQ2.out j (by rw [Int.toNat_natCast]; exact hlt)
          obtain ⟨q, hqq⟩ : ∃ q, cnt Uz (j + 1) = q + 1 := ⟨cnt Uz (j + 1) - 1, by omega⟩
          rw [hqq, Nat.add_sub_cancel, hx] at hat
          rw [hqq] at c2
          have K26 := rank_any (.slice (some ⟨mb, 0, none⟩) nz nz) Uz (j : Int) wr HR.out.1 (by have := HN2.out; omega) (by omega) (by have := HN2.out; omega)
          have hrk : rkN Uz (j : Int) = q + 1 ∧ rkE Uz (j : Int) = 0 := by
            unfold rkN rkE
            rw [if_pos ⟨by omega, by have := HN2.out; omega⟩, if_pos ⟨by omega, by have := HN2.out; omega⟩, Int.toNat_natCast, hqq]
            exact ⟨rfl, rfl⟩
          rw [hrk.1, hrk.2] at K26
          have frm : ∀ {Y : World} {ao : Option Addr} {n c : Nat} {P : List (List UInt8)} {p : Nat} {z : List UInt8}, RwX cS Y (.slice ao n c) P → P[p]? = some z → ∃ bb off, ao = some ⟨bb, off, none⟩ := fun h hp => by
            obtain ⟨ao', c', e, -, h⟩ := h
            injection e with e1 e2 e3
            subst e1
            rcases h with h | ⟨bb, off, e, -⟩
            · rw [h] at hp; cases hp
            · exact ⟨bb, off, e⟩
          have fat : ∀ {Y : World} {bb off n c : Nat} {P : List (List UInt8)} {p : Nat} {z : List UInt8}, RwX cS Y (.slice (some ⟨bb, off, none⟩) n c) P → P[p]? = some z → Y.cell? ⟨bb, off + p, none⟩ = some (.string ⟨z.toArray⟩) := fun h hp => by
            obtain ⟨ao', c', e, -, h⟩ := h
            injection e with e1 e2 e3
            subst e1
            rcases h with h | ⟨bb, off, e, h⟩
            · rw [h] at hp; cases hp
            · injection e with e; injection e with e1 e2; subst e1 e2; exact h _ _ hp
          obtain ⟨tb, toff, hta⟩ := frm HR.out.2.1 hat
          obtain ⟨sb, soff, hso⟩ := frm HR.out.2.2.1 hx
          obtain ⟨vb, voff, hva⟩ := frm HR.out.2.2.2 hx
          subst hta hso hva
          have HCl : Hid (∀ Y, RwX cS Y (.slice (some ⟨tb, toff, none⟩) Rz'.length tc) Rz' ∧ RwX cS Y (.slice (some ⟨sb, soff, none⟩) T.length sc) T ∧ RwX cS Y (.slice (some ⟨vb, voff, none⟩) T.length vac) T → Y.cell? ⟨tb, toff + q, none⟩ = some (.string ⟨x.toArray⟩) ∧ Y.cell? ⟨sb, soff + j, none⟩ = some (.string ⟨x.toArray⟩) ∧ Y.cell? ⟨vb, voff + j, none⟩ = some (.string ⟨x.toArray⟩)) := hid13 (fun Y h => ⟨fat h.1 hat, fat h.2.1 hx, fat h.2.2 hx⟩)
          have hji : (j : Int) < (T.length : Int) := by omega
          have hqi : (q : Int) < (Rz'.length : Int) := by omega
          have wq1 : IntKind.i64.wrap (((q + 1 : Nat) : Int) - 1) = (q : Int) := by rw [IntKind.wrap_i64]; have := HN2.out; omega
          have wq2 : IntKind.i64.wrap (q : Int) = (q : Int) := by rw [IntKind.wrap_i64]; have := HN2.out; omega
          have wj : wrap64 ((j : Int) + 1) = ((j + 1 : Nat) : Int) := by unfold wrap64; have := HN2.out; omega
          have HMs : Hid (j + 1 + (T.length - (j + 1)) = T.length ∧ T.length - (j + 1) < gk) := ⟨by omega, by omega⟩
          clear hlt hjg hx hat c1 c2 hqq hrk frm fat
          go_wp2_with fail
          refine K26.mono ?_
          rintro e w26 ⟨rfl, hb26⟩
          have HB26 := hid13 (keepb hb26 HB.out)
          have HR26 : Hid (RwX cU w26 (.slice (some ⟨mb, 0, none⟩) nz nz) Uz ∧ RwX cS w26 (.slice (some ⟨tb, toff, none⟩) Rz'.length tc) Rz' ∧ RwX cS w26 (.slice (some ⟨sb, soff, none⟩) T.length sc) T ∧ RwX cS w26 (.slice (some ⟨vb, voff, none⟩) T.length vac) T) := ⟨HR.out.1.below hb26, HR.out.2.1.below hb26, HR.out.2.2.1.below hb26, HR.out.2.2.2.below hb26⟩
          clear K26 hb26 HB HR
          go_wp2_with fail
          refine qw_region (C := fun X => Below w.heap.size w X ∧ RwX cU X (.slice (some ⟨mb, 0, none⟩) nz nz) Uz ∧ RwX cS X (.slice (some ⟨tb, toff, none⟩) Rz'.length tc) Rz' ∧ RwX cS X (.slice (some ⟨sb, soff, none⟩) T.length sc) T ∧ RwX cS X (.slice (some ⟨vb, voff, none⟩) T.length vac) T) (by kernel_rfl) (by kernel_rfl) ⟨HB26.out.drew, HR26.out.1.below (below_drewN (Below.refl _ _) 1), HR26.out.2.1.below (below_drewN (Below.refl _ _) 1), HR26.out.2.2.1.below (below_drewN (Below.refl _ _) 1), HR26.out.2.2.2.below (below_drewN (Below.refl _ _) 1)⟩ ?_
          refine qw_run (v := .slice (some ⟨vb, voff, none⟩) T.length vac) (by rfl) ?_ ?_
          · (intro w9 hC; clear hC; go_simp; first | done | (simp; done) | (simp [*]; done) | omega | (simp; omega) | (rw [IntKind.wrap_i64]; omega) | (intro hx; omega) | rfl)
          simp only [Act.put, List.setIfInBounds_toArray, List.set_cons_zero, List.set_cons_succ]
          refine qw_run (v := .int .i64 (j : Int)) (by rfl) ?_ ?_
          · (intro w9 hC; clear hC; go_simp; first | done | (simp; done) | (simp [*]; done) | omega | (simp; omega) | (rw [IntKind.wrap_i64]; omega) | (intro hx; omega) | rfl)
          simp only [Act.put, List.setIfInBounds_toArray, List.set_cons_zero, List.set_cons_succ]
          refine qw_run (v := .pointer (some ⟨vb, voff + j, none⟩)) (by rfl) ?_ ?_
          · (intro w9 hC; clear hC; go_simp; first | done | (simp; done) | (simp [*]; done) | omega | (simp; omega) | (rw [IntKind.wrap_i64]; omega) | (intro hx; omega) | rfl)
          simp only [Act.put, List.setIfInBounds_toArray, List.set_cons_zero, List.set_cons_succ]
          refine qw_run (v := .string ⟨x.toArray⟩) (by rfl) ?_ ?_
          · (intro w9 hC; have h9 := HCl.out w9 hC.2.2; have h91 := h9.1; have h92 := h9.2.1; have h93 := h9.2.2; clear h9; clear hC; go_simp; first | done | (simp; done) | (simp [*]; done) | omega | (simp; omega) | (rw [IntKind.wrap_i64]; omega) | (intro hx; omega) | rfl)
          simp only [Act.put, List.setIfInBounds_toArray, List.set_cons_zero, List.set_cons_succ]
          refine qw_run (v := .slice (some ⟨sb, soff, none⟩) T.length sc) (by rfl) ?_ ?_
          · (intro w9 hC; clear hC; go_simp; first | done | (simp; done) | (simp [*]; done) | omega | (simp; omega) | (rw [IntKind.wrap_i64]; omega) | (intro hx; omega) | rfl)
          simp only [Act.put, List.setIfInBounds_toArray, List.set_cons_zero, List.set_cons_succ]
          refine qw_run (v := .int .i64 (j : Int)) (by rfl) ?_ ?_
          · (intro w9 hC; clear hC; go_simp; first | done | (simp; done) | (simp [*]; done) | omega | (simp; omega) | (rw [IntKind.wrap_i64]; omega) | (intro hx; omega) | rfl)
          simp only [Act.put, List.setIfInBounds_toArray, List.set_cons_zero, List.set_cons_succ]
          refine qw_run (v := .pointer (some ⟨sb, soff + j, none⟩)) (by rfl) ?_ ?_
          · (intro w9 hC; clear hC; go_simp; first | done | (simp; done) | (simp [*]; done) | omega | (simp; omega) | (rw [IntKind.wrap_i64]; omega) | (intro hx; omega) | rfl)
          simp only [Act.put, List.setIfInBounds_toArray, List.set_cons_zero, List.set_cons_succ]
          refine qw_run (v := .string ⟨x.toArray⟩) (by rfl) ?_ ?_
          · (intro w9 hC; have h9 := HCl.out w9 hC.2.2; have h91 := h9.1; have h92 := h9.2.1; have h93 := h9.2.2; clear h9; clear hC; go_simp; first | done | (simp; done) | (simp [*]; done) | omega | (simp; omega) | (rw [IntKind.wrap_i64]; omega) | (intro hx; omega) | rfl)
          simp only [Act.put, List.setIfInBounds_toArray, List.set_cons_zero, List.set_cons_succ]
          refine qw_run (v := .bool false) (by rfl) ?_ ?_
          · (intro w9 hC; clear hC; go_simp; first | done | (simp; done) | (simp [*]; done) | omega | (simp; omega) | (rw [IntKind.wrap_i64]; omega) | (intro hx; omega) | rfl)
          simp only [Act.put, List.setIfInBounds_toArray, List.set_cons_zero, List.set_cons_succ]
          refine qw_run (v := .bool false) (by rfl) ?_ ?_
          · (intro w9 hC; clear hC; go_simp; first | done | (simp; done) | (simp [*]; done) | omega | (simp; omega) | (rw [IntKind.wrap_i64]; omega) | (intro hx; omega) | rfl)
          simp only [Act.put, List.setIfInBounds_toArray, List.set_cons_zero, List.set_cons_succ]
          refine qw_run (v := .int .i64 0) (by rfl) ?_ ?_
          · (intro w9 hC; clear hC; go_simp; first | done | (simp; done) | (simp [*]; done) | omega | (simp; omega) | (rw [IntKind.wrap_i64]; omega) | (intro hx; omega) | rfl)
          simp only [Act.put, List.setIfInBounds_toArray, List.set_cons_zero, List.set_cons_succ]
          refine qw_run (v := .bool false) (by rfl) ?_ ?_
          · (intro w9 hC; clear hC; go_simp; first | done | (simp; done) | (simp [*]; done) | omega | (simp; omega) | (rw [IntKind.wrap_i64]; omega) | (intro hx; omega) | rfl)
          simp only [Act.put, List.setIfInBounds_toArray, List.set_cons_zero, List.set_cons_succ]
          refine qw_run (v := .bool false) (by rfl) ?_ ?_
          · (intro w9 hC; clear hC; go_simp; first | done | (simp; done) | (simp [*]; done) | omega | (simp; omega) | (rw [IntKind.wrap_i64]; omega) | (intro hx; omega) | rfl)
          simp only [Act.put, List.setIfInBounds_toArray, List.set_cons_zero, List.set_cons_succ]
          refine qw_run (v := .bool false) (by rfl) ?_ ?_
          · (intro w9 hC; clear hC; go_simp; first | done | (simp; done) | (simp [*]; done) | omega | (simp; omega) | (rw [IntKind.wrap_i64]; omega) | (intro hx; omega) | rfl)
          simp only [Act.put, List.setIfInBounds_toArray, List.set_cons_zero, List.set_cons_succ]
          refine qw_run (v := .slice (some ⟨tb, toff, none⟩) Rz'.length tc) (by rfl) ?_ ?_
          · (intro w9 hC; clear hC; go_simp; first | done | (simp; done) | (simp [*]; done) | omega | (simp; omega) | (rw [IntKind.wrap_i64]; omega) | (intro hx; omega) | rfl)
          simp only [Act.put, List.setIfInBounds_toArray, List.set_cons_zero, List.set_cons_succ]
          refine qw_run (v := .int .i64 ((q + 1 : Nat) : Int)) (by rfl) ?_ ?_
          · (intro w9 hC; clear hC; go_simp; first | done | (simp; done) | (simp [*]; done) | omega | (simp; omega) | (rw [IntKind.wrap_i64]; omega) | (intro hx; omega) | rfl)
          simp only [Act.put, List.setIfInBounds_toArray, List.set_cons_zero, List.set_cons_succ]
          refine qw_run (v := .int .i64 (q : Int)) (by rfl) ?_ ?_
          · (intro w9 hC; clear hC; go_simp; first | done | (simp; done) | (simp [*]; done) | omega | (simp; omega) | (rw [IntKind.wrap_i64]; omega) | (intro hx; omega) | rfl)
          simp only [Act.put, List.setIfInBounds_toArray, List.set_cons_zero, List.set_cons_succ]
          refine qw_run (v := .pointer (some ⟨tb, toff + q, none⟩)) (by rfl) ?_ ?_
          · (intro w9 hC; clear hC; go_simp; first | done | (simp; done) | (simp [*]; done) | omega | (simp; omega) | (rw [IntKind.wrap_i64]; omega) | (intro hx; omega) | rfl)
          simp only [Act.put, List.setIfInBounds_toArray, List.set_cons_zero, List.set_cons_succ]
          refine qw_run (v := .string ⟨x.toArray⟩) (by rfl) ?_ ?_
          · (intro w9 hC; have h9 := HCl.out w9 hC.2.2; have h91 := h9.1; have h92 := h9.2.1; have h93 := h9.2.2; clear h9; clear hC; go_simp; first | done | (simp; done) | (simp [*]; done) | omega | (simp; omega) | (rw [IntKind.wrap_i64]; omega) | (intro hx; omega) | rfl)
          simp only [Act.put, List.setIfInBounds_toArray, List.set_cons_zero, List.set_cons_succ]
          refine qw_run (v := .slice (some ⟨sb, soff, none⟩) T.length sc) (by rfl) ?_ ?_
          · (intro w9 hC; clear hC; go_simp; first | done | (simp; done) | (simp [*]; done) | omega | (simp; omega) | (rw [IntKind.wrap_i64]; omega) | (intro hx; omega) | rfl)
          simp only [Act.put, List.setIfInBounds_toArray, List.set_cons_zero, List.set_cons_succ]
          refine qw_run (v := .int .i64 (j : Int)) (by rfl) ?_ ?_
          · (intro w9 hC; clear hC; go_simp; first | done | (simp; done) | (simp [*]; done) | omega | (simp; omega) | (rw [IntKind.wrap_i64]; omega) | (intro hx; omega) | rfl)
          simp only [Act.put, List.setIfInBounds_toArray, List.set_cons_zero, List.set_cons_succ]
          refine qw_run (v := .pointer (some ⟨sb, soff + j, none⟩)) (by rfl) ?_ ?_
          · (intro w9 hC; clear hC; go_simp; first | done | (simp; done) | (simp [*]; done) | omega | (simp; omega) | (rw [IntKind.wrap_i64]; omega) | (intro hx; omega) | rfl)
          simp only [Act.put, List.setIfInBounds_toArray, List.set_cons_zero, List.set_cons_succ]
          refine qw_run (v := .string ⟨x.toArray⟩) (by rfl) ?_ ?_
          · (intro w9 hC; have h9 := HCl.out w9 hC.2.2; have h91 := h9.1; have h92 := h9.2.1; have h93 := h9.2.2; clear h9; clear hC; go_simp; first | done | (simp; done) | (simp [*]; done) | omega | (simp; omega) | (rw [IntKind.wrap_i64]; omega) | (intro hx; omega) | rfl)
          simp only [Act.put, List.setIfInBounds_toArray, List.set_cons_zero, List.set_cons_succ]
          refine qw_run (v := .bool false) (by rfl) ?_ ?_
          · (intro w9 hC; clear hC; go_simp; first | done | (simp; done) | (simp [*]; done) | omega | (simp; omega) | (rw [IntKind.wrap_i64]; omega) | (intro hx; omega) | rfl)
          simp only [Act.put, List.setIfInBounds_toArray, List.set_cons_zero, List.set_cons_succ]
          refine qw_run (v := .bool false) (by rfl) ?_ ?_
          · (intro w9 hC; clear hC; go_simp; first | done | (simp; done) | (simp [*]; done) | omega | (simp; omega) | (rw [IntKind.wrap_i64]; omega) | (intro hx; omega) | rfl)
          simp only [Act.put, List.setIfInBounds_toArray, List.set_cons_zero, List.set_cons_succ]
          refine qw_nil ?_
          intro w8 hX
          have HB8 := hid13 hX.1
          have HR8 := hid13 hX.2
          clear hX HB26 HR26
          go_wp2
          go_roundg (T.length - (j + 1))
          case measure => exact HMs.out.2
          case rel => exact ⟨j + 1, by first | rfl | (rw [wj]), HMs.out.1, HB8, HR8⟩
        have hge : ¬ (j : Int) < (T.length : Int) := by omega
        clear hlt hjg
        go_wp2
        exact bodyPost_ret (v := .bool true) (by simp [results, Tryd.results3, go_sem]) rfl ⟨rfl, HB.out⟩
end Go.Proofs.YtbamogpbjdobkaaDoor
