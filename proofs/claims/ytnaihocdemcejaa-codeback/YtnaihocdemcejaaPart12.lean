/-
  Part 12 of the proof: 3 texts, one behind the other.
-/
import Derived.Test.YtnaihocdemcejaaPart11
import Derived.Test.YtnaihocdemcejaaPart2
import Derived.Deep.Slices
import Derived.Carry
import Derived.SizedLaws
import Derived.ProofKit
import Derived.Lib.SmallJoins
import Derived.Test.YtnaihocdemcejaaPart5
import Derived.Deep.Strs
/-
  The law CodeBack.
-/
namespace Go.Proofs.Ytnaihocdemcejaa
open Go.RowKit
set_option linter.unusedSimpArgs false
set_option linter.unusedVariables false

/-- The region 'b, e := Encode(make(..), i)': the row, the call. -/
structure RB (E : World → Prop) (E1 : Nat → World → Prop) (E2 : Nat → Nat → World → Prop) (f2 f3 f4 f5 f6 f8 : Bool) (g : Nat × (Nat × Nat)) (V : World) : Prop where
  e : f4 = false → E V ∧ (f2 = true → E1 g.1 V)
  a : f4 = true → E2 g.2.1 g.2.2 V
  d : f4 = true → f2 = true ∧ f3 = true
  p5 : f5 = true → f4 = true
  p6 : f6 = true → f5 = true
  p8 : f8 = true → f6 = true
theorem gh_same4 {x y : Array Value} {d1 d2 d3 d4 s : Nat} (h : (((x.toList.set d1 undef).set d2 undef).set d3 undef).set d4 undef = (((y.toList.set d1 undef).set d2 undef).set d3 undef).set d4 undef) (h1 : s ≠ d1) (h2 : s ≠ d2) (h3 : s ≠ d3) (h4 : s ≠ d4) : x[s]? = y[s]? := by
  have e := congrArg (fun z => z[s]?) h
  simp only [List.getElem?_set_ne (Ne.symm h1), List.getElem?_set_ne (Ne.symm h2), List.getElem?_set_ne (Ne.symm h3), List.getElem?_set_ne (Ne.symm h4)] at e
  simpa using e
set_option maxRecDepth 100000 in
set_option maxHeartbeats 16000000 in
theorem codeBack_any (o n : Int) (vm : Value) (m : List (BitVec 32)) (a : Int) (v : Value) (l : List Nat) (w : World) (hm : RwX cU w vm m) (ha0 : -9223372036854775808 ≤ a) (ha1 : a ≤ 9223372036854775807) (hA : RowA w 1 v l.length (l.map cB)) (hv : RwX cB w v l) (hx : ∀ b ∈ l, b < 256) :
    Calls Try.prog 6 #[.agg #[.int .i64 o, .int .i64 n, vm], .int .i64 a, v] w fun e w' => e = .returned (.bool true) ∧ Below w.heap.size w w' := by
  obtain ⟨i0, hi, hz0, hz1, hz2⟩ := info13 Try.infoB13
  obtain ⟨ao, c, hvm, -⟩ := id hm
  obtain ⟨vo, vc, hvv, -⟩ := id hv
  have q1 := bl1 w (.cells #[.int .i64 o, .int .i64 n, vm] 24)
  have HA1 := hid13 (ati_new w o n vm 24)
  have HB1 := hid13 q1
  have HM := hid13 hm
  have HV := hid13 hA
  have HX := hid13 hx
  subst hvm hvv
  clear q1 hm hA hv hx ha0 ha1
  go_enter Try.func6, Try.ntmps6
  go_wp2_with fail
  refine (known14 _).mono ?_
  rintro e w2 ⟨rfl, hb2⟩
  have HB2 := hid13 (keepb hb2 HB1.out)
  have HA2 := hid13 (HA1.out.below hb2)
  obtain ⟨b0, b1, b2⟩ := HA2.out
  clear HA1 HB1 hb2
  by_cases h1 : (16384 : Int) < (m.length : Int)
  · go_wp2
    go_ret
    exact ⟨rfl, HB2.out⟩
  by_cases h2 : (16384 : Int) < (l.length : Int)
  · go_wp2
    go_ret
    exact ⟨rfl, HB2.out⟩
  have hml : m.length ≤ 16384 := by omega
  have hll : l.length ≤ 16384 := by omega
  have hW := wth_in a 50 (by omega)
  obtain ⟨k, hk⟩ : ∃ k : Nat, wth a 50 = (k : Int) := ⟨(wth a 50).toNat, by omega⟩
  have K3 := within14 a 50 (by omega) (by omega) w2
  rw [hk] at K3 hW
  have K4 := check_any o n (.slice ao m.length c) m w2 (HM.out.below HB2.out)
  have HL : Hid (m.length ≤ 16384 ∧ l.length ≤ 16384 ∧ k < 50) := ⟨hml, hll, by omega⟩
  have hk5 : (k : Int) < 50 := hW.2
  clear hml hll hk hW
  go_wp2_with (go_at_call 20; refine K3.mono ?_; rintro e w3 ⟨rfl, hw3⟩; replace hw3 := hw3.symm; subst hw3)
  refine K4.mono ?_
  rintro e w4 ⟨rfl, hb4⟩
  have HB4 := hid13 (keepb hb4 HB2.out)
  have HA4 := hid13 (HA2.out.below hb4)
  have HM4 := hid13 (HM.out.below HB4.out)
  clear b0 b1 b2 K3 K4 hb4 HA2 HB2
  obtain ⟨b0, b1, b2⟩ := HA4.out
  have KC := fun W (h : RwX cU W (.slice ao m.length c) m) => check_any o n (.slice ao m.length c) m W h
  have KS := fun W (h : RwX cU W (.slice ao m.length c) m) => size_any o n (.slice ao m.length c) m W h (by have := HL.out; omega)
  by_cases h0 : chkE o n m = 0
  · have e1 : szI o n m = 1 + (m.length : Int) := by unfold szI; rw [if_pos h0]
    have H0 := hid13 h0
    rw [h0]
    obtain ⟨z, hz⟩ : ∃ z : Nat, z = 1 + m.length := ⟨_, rfl⟩
    rw [e1, show 1 + (m.length : Int) = (z : Int) by omega] at KS
    clear KC h0 e1
    obtain ⟨L, hL⟩ : ∃ L : Nat, L = 4 * k := ⟨_, rfl⟩
    have hLi : 4 * (k : Int) = (L : Int) := by omega
    have mL : IntKind.i64.wrap (4 * (k : Int)) = (L : Int) := by rw [IntKind.wrap_i64]; omega
    obtain ⟨Y, hY⟩ : ∃ Y, Y = List.replicate L 0 ++ wdB o.toNat n.toNat m := ⟨_, rfl⟩
    have hYl : Y.length = L + 4 * (1 + m.length) := by rw [hY, List.length_append, List.length_replicate, wdB_len]
    have KE : ∀ (W : World) (g : Nat), W.ownsRow 0 5 1 (.slice (some ⟨g, 0, none⟩) L L) L ((List.replicate L 0).map cB) → RwX cU W (.slice ao m.length c) m → Calls Try.prog 12 #[.slice (some ⟨g, 0, none⟩) L L, .agg #[.int .i64 o, .int .i64 n, .slice ao m.length c]] W fun e w' => ∃ v', e = .returned (.tuple #[v', .int .i64 0]) ∧ w'.ownsRow W.heap.size 5 1 v' Y.length (Y.map cB) ∧ Below W.heap.size W w' := by
      intro W g h1 h2
      have hr : RowA W 1 (.slice (some ⟨g, 0, none⟩) L L) (List.replicate L 0).length ((List.replicate L 0).map cB) := by rw [List.length_replicate]; exact own_rowA h1
      have := encode_any _ (List.replicate L 0) o n _ m W hr h2 (by rw [List.length_replicate]; have := HL.out; omega) (by have := HL.out; omega)
      have e2 : enL (List.replicate L 0) o n m = Y := by unfold enL; rw [if_pos H0.out, hY]
      rw [H0.out, e2] at this
      exact this
    have HYe : Hid (Y = List.replicate L 0 ++ wdB o.toNat n.toNat m ∧ Y.length = L + 4 * (1 + m.length) ∧ L = 4 * k ∧ z = 1 + m.length) := ⟨hY, hYl, hL, hz⟩
    have hLb : L ≤ 200 := by have := HL.out; omega
    have HMk : Hid (∀ W : World, ∃ W', (Instr.makeSlice 25 (.int .i64 (L : Int)) (.int .i64 (L : Int))).run Try.prog W = .ok (.slice (some ⟨W.heap.size, 0, none⟩) L L) W' ∧ W'.ownsRow 0 5 1 (.slice (some ⟨W.heap.size, 0, none⟩) L L) L ((List.replicate L 0).map cB) ∧ Below W.heap.size W W') := by
      intro W
      obtain ⟨W', h1, h2, h3⟩ := run_make_mid (P := Try.prog) W 0 25 5 i0 (.int .u8 0) Try.underlying25 hi hz0 hz1 rfl .i64 .i64 L L (Nat.le_refl _) (by rw [hz2]; omega) (by unfold maxLen; omega) (Nat.zero_le _)
      exact ⟨W', h1, by rw [List.map_replicate]; exact h2, (Below.refl _ _).grown h3 (Nat.le_refl _) (fun z hz => by cases hz)⟩
    have mz : IntKind.i64.wrap (4 * (z : Int)) = 4 * (z : Int) := by rw [IntKind.wrap_i64]; have := HL.out; omega
    have mY : IntKind.i64.wrap ((L : Int) + 4 * (z : Int)) = (Y.length : Int) := by rw [IntKind.wrap_i64]; have := HL.out; omega
    clear hY hYl hL hz
    go_wp2_with fail
    refine gh_region (γ := Nat × (Nat × Nat)) (qpOk 10 10 (by decide) (fun N => by kernel_rfl) (by kernel_rfl) (by kernel_rfl) (by kernel_rfl) (by kernel_rfl)) (by kernel_rfl) (by kernel_rfl) [some 46, some 47, some 48, some 49, some 50, some 45, some 51, some 52, some 9, some 10] (fun g => [.int .i64 (k : Int), .int .i64 (L : Int), .slice (some ⟨g.1, 0, none⟩) L L, .agg #[.int .i64 o, .int .i64 n, .slice ao m.length c], .tuple #[.slice (some ⟨g.2.1, 0, none⟩) Y.length g.2.2, .int .i64 0], .tuple #[.slice (some ⟨g.2.1, 0, none⟩) Y.length g.2.2, .int .i64 0], .slice (some ⟨g.2.1, 0, none⟩) Y.length g.2.2, .int .i64 0, .slice (some ⟨g.2.1, 0, none⟩) Y.length g.2.2, .int .i64 0]) (by kernel_rfl) (by simp) (fun lp g X => RB (fun X => AtI X w.heap.size o n (.slice ao m.length c) ∧ Below w.heap.size w X) (fun g X => X.ownsRow 0 5 1 (.slice (some ⟨g, 0, none⟩) L L) L ((List.replicate L 0).map cB)) (fun g c2 X => (AtI X w.heap.size o n (.slice ao m.length c) ∧ Below w.heap.size w X) ∧ X.ownsRow 0 5 1 (.slice (some ⟨g, 0, none⟩) Y.length c2) Y.length (Y.map cB)) (lp.getD 2 false) (lp.getD 3 false) (lp.getD 4 false) (lp.getD 5 false) (lp.getD 6 false) (lp.getD 8 false) g X) (0, (0, 0)) ⟨fun _ => ⟨⟨HA4.out.below (below_drewN (Below.refl _ _) 1), HB4.out.drew⟩, fun h => (by simp at h)⟩, fun h => (by simp at h), fun h => (by simp at h), fun h => (by simp at h), fun h => (by simp at h), fun h => (by simp at h)⟩ ?step0 ?fin0
    case step0 =>
      intro q o lp g w' a' ho hsz hun hdep hR hS K Q' hK
      have hfl : ∀ j, j ≠ q → (lp.setIfInBounds q true).getD j false = lp.getD j false := fun j hj => by rw [Array.getD_eq_getD_getElem?, Array.getD_eq_getD_getElem?, Array.getElem?_setIfInBounds_ne (by omega)]
      have hq : q < 10 := (List.getElem?_eq_some_iff.mp ho).1
      match q, ho, hun, hdep, hK, hfl, hq with
      | 0, ho, hun, hdep, hK, hfl, _ =>
        obtain rfl := Option.some.inj ho
        have o1 : a'.tmps[1]? = some (.int .i64 (k : Int)) := (hS.old14 1 (by simp)).trans rfl
        have hK' := hK g w' (fun _ _ _ _ _ _ => rfl) (by rw [hfl 2 (by decide), hfl 3 (by decide), hfl 4 (by decide), hfl 5 (by decide), hfl 6 (by decide), hfl 8 (by decide)]; exact hR) (.int .i64 (k : Int)) (by simp only [valO, Option.bind_some]; (try simp only [putAll, Act.put, List.setIfInBounds_toArray, List.set_cons_zero, List.set_cons_succ]); (try rfl))
        clear hS hdep hR
        refine gh_quiet14 (v := .int .i64 (k : Int)) ?_ ?_
        · (simp only [execOp, Act.eval, o1]; go_simp; first | done | (simp; done) | (simp [*]; done) | omega | (rw [IntKind.wrap_i64]; omega))
        · exact hK'
      | 1, ho, hun, hdep, hK, hfl, _ =>
        obtain rfl := Option.some.inj ho
        have d0 : lp.getD 0 false = true := hdep { on := 0, ground := .data } (by simp) rfl
        have e46 : a'.tmps[46]? = some (.int .i64 (k : Int)) := (hS.don 0 _ 46 rfl d0 rfl).trans (by simp only [putAll, Act.put, List.setIfInBounds_toArray, List.set_cons_zero, List.set_cons_succ]; rfl)
        have hK' := hK g w' (fun _ _ _ _ _ _ => rfl) (by rw [hfl 2 (by decide), hfl 3 (by decide), hfl 4 (by decide), hfl 5 (by decide), hfl 6 (by decide), hfl 8 (by decide)]; exact hR) (.int .i64 (L : Int)) (by simp only [valO, Option.bind_some]; (try simp only [putAll, Act.put, List.setIfInBounds_toArray, List.set_cons_zero, List.set_cons_succ]); (try rfl))
        clear hS hdep hR
        refine gh_quiet14 (v := .int .i64 (L : Int)) ?_ ?_
        · (simp only [execOp, Act.eval, e46]; go_simp; first | done | (simp; done) | (simp [*]; done) | omega | (rw [IntKind.wrap_i64]; omega))
        · exact hK'
      | 2, ho, hun, hdep, hK, hfl, _ =>
        obtain rfl := Option.some.inj ho
        have d1 : lp.getD 1 false = true := hdep { on := 1, ground := .data } (by simp) rfl
        have e47 : a'.tmps[47]? = some (.int .i64 (L : Int)) := (hS.don 1 _ 47 rfl d1 rfl).trans (by simp only [putAll, Act.put, List.setIfInBounds_toArray, List.set_cons_zero, List.set_cons_succ]; rfl)
        have hf : lp.getD 4 false = false := by
          cases h : lp.getD 4 false
          · rfl
          · have := (hR.d h).1; rw [hun] at this; cases this
        obtain ⟨W', hm1, hm2, hm3⟩ := HMk.out w'
        obtain ⟨⟨r1, r2⟩, -⟩ := hR.e hf
        have hK' := hK (w'.heap.size, g.2) W' (fun k ok s hk hl hd => gh_same14 (d := 48) (s := s) (by simp only [putAll, Act.put, List.setIfInBounds_toArray, List.set_cons_zero, List.set_cons_succ]; rfl) (by rintro rfl; have := dstG_of (by kernel_rfl) k 2 ok _ 48 hk rfl hd rfl; subst this; rw [hun] at hl; cases hl)) (by rw [hfl 3 (by decide), hfl 4 (by decide), hfl 5 (by decide), hfl 6 (by decide), hfl 8 (by decide), getD_set_same (by rw [hsz]; decide), hf]; exact ⟨fun _ => ⟨⟨r1.below hm3, keepb hm3 r2⟩, fun _ => hm2⟩, fun h => (by cases h), fun h => (by cases h), fun h => by rw [← hf]; exact hR.p5 h, hR.p6, hR.p8⟩) (.slice (some ⟨w'.heap.size, 0, none⟩) L L) (by simp only [valO, Option.bind_some]; simp only [putAll, Act.put, List.setIfInBounds_toArray, List.set_cons_zero, List.set_cons_succ]; rfl)
        clear hS hdep hR
        unfold Oper.wp
        simp [execOp, Act.eval, e47, hm1, Result.andThen, Oper.upon]
        exact hK'
      | 3, ho, hun, hdep, hK, hfl, _ =>
        obtain rfl := Option.some.inj ho
        have o3 : a'.tmps[3]? = some (.pointer (some ⟨w.heap.size, 0, none⟩)) := (hS.old14 3 (by simp)).trans rfl
        have hf : lp.getD 4 false = false := by
          cases h : lp.getD 4 false
          · rfl
          · have := (hR.d h).2; rw [hun] at this; cases this
        obtain ⟨x0, x1, x2⟩ := (hR.e hf).1.1
        have hK' := hK g w' (fun _ _ _ _ _ _ => rfl) (by rw [hfl 2 (by decide), hfl 4 (by decide), hfl 5 (by decide), hfl 6 (by decide), hfl 8 (by decide), getD_set_same (by rw [hsz]; decide)]; exact ⟨hR.e, hR.a, fun h => ⟨(hR.d h).1, rfl⟩, hR.p5, hR.p6, hR.p8⟩) (.agg #[.int .i64 o, .int .i64 n, .slice ao m.length c]) (by simp only [valO, Option.bind_some]; (try simp only [putAll, Act.put, List.setIfInBounds_toArray, List.set_cons_zero, List.set_cons_succ]); (try rfl))
        clear hS hdep hR
        refine gh_quiet14 (v := .agg #[.int .i64 o, .int .i64 n, .slice ao m.length c]) ?_ ?_
        · (simp only [execOp, Act.eval, o3]; go_simp; first | done | (simp; done) | (simp [*]; done) | omega | (rw [IntKind.wrap_i64]; omega))
        · exact hK'
      | 4, ho, hun, hdep, hK, hfl, _ =>
        obtain rfl := Option.some.inj ho
        have d2 : lp.getD 2 false = true := hdep { on := 2, ground := .data } (by simp) rfl
        have e48 : a'.tmps[48]? = some (.slice (some ⟨g.1, 0, none⟩) L L) := (hS.don 2 _ 48 rfl d2 rfl).trans (by simp only [putAll, Act.put, List.setIfInBounds_toArray, List.set_cons_zero, List.set_cons_succ]; rfl)
        have d3 : lp.getD 3 false = true := hdep { on := 3, ground := .data } (by simp) rfl
        have e49 : a'.tmps[49]? = some (.agg #[.int .i64 o, .int .i64 n, .slice ao m.length c]) := (hS.don 3 _ 49 rfl d3 rfl).trans (by simp only [putAll, Act.put, List.setIfInBounds_toArray, List.set_cons_zero, List.set_cons_succ]; rfl)
        obtain ⟨⟨r1, r2⟩, r3⟩ := hR.e hun
        have KK := KE w' g.1 (r3 d2) (HM.out.below r2)
        clear hdep
        unfold Oper.wp
        simp only [execOp, Act.eval]
        simp [go_sem, e48, e49, Oper.upon]
        refine KK.mono ?_
        rintro e W2 ⟨v2, rfl, hO2, hb2⟩
        have hyp : 0 < Y.length := by have := HYe.out.2.1; omega
        obtain ⟨g2, c2, rfl, -, -⟩ := hO2.form hyp
        have n5 : lp.getD 5 false = false := by
          cases h : lp.getD 5 false
          · rfl
          · have := hR.p5 h; rw [hun] at this; cases this
        have n6 : lp.getD 6 false = false := by
          cases h : lp.getD 6 false
          · rfl
          · have := hR.p6 h; rw [n5] at this; cases this
        have n8 : lp.getD 8 false = false := by
          cases h : lp.getD 8 false
          · rfl
          · have := hR.p8 h; rw [n6] at this; cases this
        exact hK (g.1, (g2, c2)) W2 (fun k ok s hk hl hd => gh_same4 (d1 := 50) (d2 := 45) (d3 := 51) (d4 := 9) (s := s) (by simp only [putAll, Act.put, List.setIfInBounds_toArray, List.set_cons_zero, List.set_cons_succ]) (by rintro rfl; have := dstG_of (by kernel_rfl) k 4 ok _ 50 hk rfl hd rfl; subst this; rw [hun] at hl; cases hl) (by rintro rfl; have := dstG_of (by kernel_rfl) k 5 ok _ 45 hk rfl hd rfl; subst this; rw [n5] at hl; cases hl) (by rintro rfl; have := dstG_of (by kernel_rfl) k 6 ok _ 51 hk rfl hd rfl; subst this; rw [n6] at hl; cases hl) (by rintro rfl; have := dstG_of (by kernel_rfl) k 8 ok _ 9 hk rfl hd rfl; subst this; rw [n8] at hl; cases hl)) (by rw [hfl 2 (by decide), hfl 3 (by decide), hfl 5 (by decide), hfl 6 (by decide), hfl 8 (by decide), getD_set_same (by rw [hsz]; decide)]; exact ⟨fun h => (by cases h), fun _ => ⟨⟨r1.below hb2, keepb hb2 r2⟩, own_wide13 hO2 (Nat.zero_le _)⟩, fun _ => ⟨d2, d3⟩, fun _ => rfl, hR.p6, hR.p8⟩) _ (by simp only [valO, Option.bind_some]; simp only [putAll, Act.put, List.setIfInBounds_toArray, List.set_cons_zero, List.set_cons_succ]; rfl)
      | 5, ho, hun, hdep, hK, hfl, _ =>
        obtain rfl := Option.some.inj ho
        have d4 : lp.getD 4 false = true := hdep { on := 4, ground := .data } (by simp) rfl
        have e50 : a'.tmps[50]? = some (.tuple #[.slice (some ⟨g.2.1, 0, none⟩) Y.length g.2.2, .int .i64 0]) := (hS.don 4 _ 50 rfl d4 rfl).trans (by simp only [putAll, Act.put, List.setIfInBounds_toArray, List.set_cons_zero, List.set_cons_succ]; rfl)
        have hK' := hK g w' (fun _ _ _ _ _ _ => rfl) (by rw [hfl 2 (by decide), hfl 3 (by decide), hfl 4 (by decide), hfl 6 (by decide), hfl 8 (by decide), getD_set_same (by rw [hsz]; decide)]; exact ⟨hR.e, hR.a, hR.d, fun _ => d4, fun _ => rfl, hR.p8⟩) (.tuple #[.slice (some ⟨g.2.1, 0, none⟩) Y.length g.2.2, .int .i64 0]) (by simp only [valO, Option.bind_some]; (try simp only [putAll, Act.put, List.setIfInBounds_toArray, List.set_cons_zero, List.set_cons_succ]); (try rfl))
        clear hS hdep hR
        refine gh_quiet14 (v := .tuple #[.slice (some ⟨g.2.1, 0, none⟩) Y.length g.2.2, .int .i64 0]) ?_ ?_
        · (simp only [execOp, Act.eval, e50]; go_simp; first | done | (simp; done) | (simp [*]; done) | omega | (rw [IntKind.wrap_i64]; omega))
        · exact hK'
      | 6, ho, hun, hdep, hK, hfl, _ =>
        obtain rfl := Option.some.inj ho
        have d5 : lp.getD 5 false = true := hdep { on := 5, ground := .data } (by simp) rfl
        have e45 : a'.tmps[45]? = some (.tuple #[.slice (some ⟨g.2.1, 0, none⟩) Y.length g.2.2, .int .i64 0]) := (hS.don 5 _ 45 rfl d5 rfl).trans (by simp only [putAll, Act.put, List.setIfInBounds_toArray, List.set_cons_zero, List.set_cons_succ]; rfl)
        have hK' := hK g w' (fun _ _ _ _ _ _ => rfl) (by rw [hfl 2 (by decide), hfl 3 (by decide), hfl 4 (by decide), hfl 5 (by decide), hfl 8 (by decide), getD_set_same (by rw [hsz]; decide)]; exact ⟨hR.e, hR.a, hR.d, hR.p5, fun _ => d5, fun _ => rfl⟩) (.slice (some ⟨g.2.1, 0, none⟩) Y.length g.2.2) (by simp only [valO, Option.bind_some]; (try simp only [putAll, Act.put, List.setIfInBounds_toArray, List.set_cons_zero, List.set_cons_succ]); (try rfl))
        clear hS hdep hR
        refine gh_quiet14 (v := .slice (some ⟨g.2.1, 0, none⟩) Y.length g.2.2) ?_ ?_
        · (simp only [execOp, Act.eval, e45]; go_simp; first | done | (simp; done) | (simp [*]; done) | omega | (rw [IntKind.wrap_i64]; omega))
        · exact hK'
      | 7, ho, hun, hdep, hK, hfl, _ =>
        obtain rfl := Option.some.inj ho
        have d5 : lp.getD 5 false = true := hdep { on := 5, ground := .data } (by simp) rfl
        have e45 : a'.tmps[45]? = some (.tuple #[.slice (some ⟨g.2.1, 0, none⟩) Y.length g.2.2, .int .i64 0]) := (hS.don 5 _ 45 rfl d5 rfl).trans (by simp only [putAll, Act.put, List.setIfInBounds_toArray, List.set_cons_zero, List.set_cons_succ]; rfl)
        have hK' := hK g w' (fun _ _ _ _ _ _ => rfl) (by rw [hfl 2 (by decide), hfl 3 (by decide), hfl 4 (by decide), hfl 5 (by decide), hfl 6 (by decide), hfl 8 (by decide)]; exact hR) (.int .i64 0) (by simp only [valO, Option.bind_some]; (try simp only [putAll, Act.put, List.setIfInBounds_toArray, List.set_cons_zero, List.set_cons_succ]); (try rfl))
        clear hS hdep hR
        refine gh_quiet14 (v := .int .i64 0) ?_ ?_
        · (simp only [execOp, Act.eval, e45]; go_simp; first | done | (simp; done) | (simp [*]; done) | omega | (rw [IntKind.wrap_i64]; omega))
        · exact hK'
      | 8, ho, hun, hdep, hK, hfl, _ =>
        obtain rfl := Option.some.inj ho
        have d6 : lp.getD 6 false = true := hdep { on := 6, ground := .data } (by simp) rfl
        have e51 : a'.tmps[51]? = some (.slice (some ⟨g.2.1, 0, none⟩) Y.length g.2.2) := (hS.don 6 _ 51 rfl d6 rfl).trans (by simp only [putAll, Act.put, List.setIfInBounds_toArray, List.set_cons_zero, List.set_cons_succ]; rfl)
        have hK' := hK g w' (fun _ _ _ _ _ _ => rfl) (by rw [hfl 2 (by decide), hfl 3 (by decide), hfl 4 (by decide), hfl 5 (by decide), hfl 6 (by decide), getD_set_same (by rw [hsz]; decide)]; exact ⟨hR.e, hR.a, hR.d, hR.p5, hR.p6, fun _ => d6⟩) (.slice (some ⟨g.2.1, 0, none⟩) Y.length g.2.2) (by simp only [valO, Option.bind_some]; (try simp only [putAll, Act.put, List.setIfInBounds_toArray, List.set_cons_zero, List.set_cons_succ]); (try rfl))
        clear hS hdep hR
        refine gh_quiet14 (v := .slice (some ⟨g.2.1, 0, none⟩) Y.length g.2.2) ?_ ?_
        · (simp only [execOp, Act.eval, e51]; go_simp; first | done | (simp; done) | (simp [*]; done) | omega | (rw [IntKind.wrap_i64]; omega))
        · exact hK'
      | 9, ho, hun, hdep, hK, hfl, _ =>
        obtain rfl := Option.some.inj ho
        have d7 : lp.getD 7 false = true := hdep { on := 7, ground := .data } (by simp) rfl
        have e52 : a'.tmps[52]? = some (.int .i64 0) := (hS.don 7 _ 52 rfl d7 rfl).trans (by simp only [putAll, Act.put, List.setIfInBounds_toArray, List.set_cons_zero, List.set_cons_succ]; rfl)
        have hK' := hK g w' (fun _ _ _ _ _ _ => rfl) (by rw [hfl 2 (by decide), hfl 3 (by decide), hfl 4 (by decide), hfl 5 (by decide), hfl 6 (by decide), hfl 8 (by decide)]; exact hR) (.int .i64 0) (by simp only [valO, Option.bind_some]; (try simp only [putAll, Act.put, List.setIfInBounds_toArray, List.set_cons_zero, List.set_cons_succ]); (try rfl))
        clear hS hdep hR
        refine gh_quiet14 (v := .int .i64 0) ?_ ?_
        · (simp only [execOp, Act.eval, e52]; go_simp; first | done | (simp; done) | (simp [*]; done) | omega | (rw [IntKind.wrap_i64]; omega))
        · exact hK'
      | n + 10, ho, hun, hdep, hK, hfl, hq => exact absurd hq (by omega)
    case fin0 =>
      intro g V2 hR
      obtain ⟨⟨r1, r2⟩, r3⟩ := hR.a (by simp)
      have HA9 := hid13 r1
      have HB9 := hid13 r2
      have HO9 := hid13 r3
      simp only [putAll, Act.put, List.setIfInBounds_toArray, List.set_cons_zero, List.set_cons_succ]
      clear hR r1 r2 r3 KE HMk
      obtain ⟨g9, c9⟩ : Nat × Nat := (g.2.1, g.2.2)
      refine wl_nil14 (P := Try.prog) (ops := #[]) ?_
      obtain ⟨d0, d1, d2⟩ := HA9.out
      clear b0 b1 b2 HA4 HB4 HM4
      have KS9 := KS V2 (HM.out.below HB9.out)
      go_wp2_with fail
      refine KS9.mono ?_
      rintro e w10 ⟨rfl, hb10⟩
      have HB10 := hid13 (keepb hb10 HB9.out)
      have HA10 := hid13 (HA9.out.below hb10)
      have HO10 := hid13 (own_b13 hb10 HO9.out)
      clear KS9 hb10 d0 d1 d2 HA9 HB9 HO9
      have q11 := bl1 w10 (.cells #[] 5)
      have HR11 := hid13 ((own_rowA HO10.out).below q11)
      have HO11 : Hid ((w10.alloc (.cells #[] 5)).ownsRow w10.heap.size 5 1 (.slice (some ⟨w10.heap.size, 0, none⟩) 0 0) 0 []) := World.ownsRow_made w10 #[] 0 (Nat.le_refl _) (by unfold maxLen; omega) (by simp)
      have hYb : Y.length ≤ 70000 := by have := HYe.out.2.1; have := HL.out; omega
      go_wp2_with (at_builtin; apply stopHere9)
      refine (show wpList _ _ _ _ _ _ from ?_)
      refine wpList_append_rowA rfl _ _ 25 rfl w10.heap.size 5 i0 (.int .u8 0) 1 1 Try.underlying25 hi hz0 hz1 hz2 rfl (by decide) _ 0 [] rfl HO11.out _ Y.length (Y.map cB) rfl HR11.out (cB_one Y) (by unfold maxLen; omega) (by omega) q11.size ?_
      intro ao12 c12 w12 hO12 hg12
      rw [Nat.zero_add, List.nil_append] at hO12
      rw [Nat.zero_add]
      have hB12 : Below w10.heap.size w10 w12 := q11.grown hg12 q11.size (fun z hz => (HO11.out.lt z hz).1)
      have HO12 := hid13 hO12
      have HB12 := hid13 hB12
      have HV12 := hid13 (HV.out.below (keepb hB12 HB10.out))
      clear hO12 hg12 hB12 q11 HR11 HO11 HO10
      have hlb : l.length ≤ 16384 := HL.out.2.1
      go_wp2_with (at_builtin; apply stopHere9)
      refine (show wpList _ _ _ _ _ _ from ?_)
      refine wpList_append_rowA rfl _ _ 25 rfl w10.heap.size 5 i0 (.int .u8 0) 1 1 Try.underlying25 hi hz0 hz1 hz2 rfl (by decide) _ Y.length (Y.map cB) rfl HO12.out _ l.length (l.map cB) rfl HV12.out (cB_one l) (by unfold maxLen; omega) (by omega) HB12.out.size ?_
      intro ao13 c13 w13 hO13 hg13
      have hB13 : Below w10.heap.size w10 w13 := HB12.out.grown hg13 HB12.out.size (fun z hz => (HO12.out.lt z hz).1)
      have hR13 : RwX cB w13 (.slice ao13 (Y.length + l.length) c13) (Y ++ l) := by
        have h2 : w13.ownsRow w10.heap.size 5 1 (.slice ao13 (Y.length + l.length) c13) (Y ++ l).length ((Y ++ l).map cB) := by rw [List.length_append, List.map_append]; exact hO13
        exact own_rwx h2
      have hYx : ∀ b ∈ Y ++ l, b < 256 := by
        intro b hb
        rcases List.mem_append.1 hb with q | q
        · rw [HYe.out.1] at q
          rcases List.mem_append.1 q with q | q
          · have := List.eq_of_mem_replicate q; omega
          · exact wdB_lt _ _ _ b q
        · exact HX.out b q
      have K14' := decode_any _ (Y ++ l) (k : Int) w13 hR13 (by rw [List.length_append]; omega) hYx
      have hdc := dec_enc (List.replicate L 0) l k o n m (by rw [List.length_replicate]; exact HYe.out.2.2.1) H0.out
      rw [← HYe.out.1] at hdc
      rw [hdc.1, hdc.2.1, hdc.2.2, show 1 + (m.length : Int) = (z : Int) by have := HYe.out.2.2.2; omega] at K14'
      have HB13 := hid13 (keepb hB13 HB10.out)
      have HA13 := hid13 (HA10.out.below hB13)
      clear hO13 hg13 hB13 hR13 hYx hdc HO12 HB12 HV12 HA10 HB10
      go_wp2_with fail
      refine K14'.mono ?_
      rintro e w14 ⟨v14, rfl, hO14, hb14⟩
      obtain ⟨ao14, c14, hv14⟩ := own_form hO14
      subst hv14
      unfold insV
      have q15 := bl1 w14 (.cells #[.int .i64 o, .int .i64 n, .slice ao14 m.length c14] 24)
      have HB15 := hid13 (keepb q15 (keepb hb14 HB13.out))
      have HA15 := hid13 ((HA13.out.below hb14).below q15)
      have HI15 := hid13 (ati_new w14 o n (.slice ao14 m.length c14) 24)
      have HO15 := hid13 ((own_rwx hO14).below q15)
      obtain ⟨d0, d1, d2⟩ := HA15.out
      have KS15 := KS _ (HM.out.below HB15.out)
      clear hO14 hb14 q15 K14' HA13 HB13 KS
      go_wp2_with fail
      refine KS15.mono ?_
      rintro e w16 ⟨rfl, hb16⟩
      have HB16 := hid13 (keepb hb16 HB15.out)
      obtain ⟨f0, f1, f2⟩ := HA15.out.below hb16
      obtain ⟨j0, j1, j2⟩ := HI15.out.below hb16
      have KM := same_any ⟨o, n, m⟩ ⟨o, n, m⟩ (.slice ao14 m.length c14) (.slice ao m.length c) w16 (HO15.out.below hb16) (HM.out.below HB16.out) (by have := HL.out; show m.length ≤ _; omega)
      rw [(sameB_iff _ _).2 rfl] at KM
      unfold insV at KM
      clear hb16 KS15 d0 d1 d2 HB15 HA15 HI15 HO15
      go_wp2_with fail
      refine KM.mono ?_
      rintro e w17 ⟨rfl, hb17⟩
      have HB17 := hid13 (keepb hb17 HB16.out)
      clear hb17 KM f0 f1 f2 j0 j1 j2
      go_wp2
      go_ret
      exact ⟨rfl, HB17.out⟩
  · have hne : (chkE o n m != 0) = true := by simpa using h0
    have e1 : szI o n m = 0 := by unfold szI; rw [if_neg h0]
    rw [e1] at KS
    have K5 := encode_any (.slice none 0 0) [] o n (.slice ao m.length c) m w4 (rowA_nil w4 1) HM4.out (by simp) (by have := HL.out; omega)
    obtain ⟨z, hz⟩ : ∃ z, z = chkE o n m := ⟨_, rfl⟩
    rw [← hz] at KC K5 hne ⊢
    clear h0 e1 hz
    go_wp2_with fail
    refine K5.mono ?_
    rintro e w5 ⟨v5, rfl, hO5, hb5⟩
    have HB5 := hid13 (keepb hb5 HB4.out)
    have HM5 := hid13 (HM4.out.below hb5)
    have HA5 := hid13 (HA4.out.below hb5)
    obtain ⟨c0, c1, c2⟩ := HA5.out
    clear K5 hO5 hb5 b0 b1 b2
    go_wp2_with fail
    refine (KC w5 HM5.out).mono ?_
    rintro e w6 ⟨rfl, hb6⟩
    have HB6 := hid13 (keepb hb6 HB5.out)
    have HM6 := hid13 (HM5.out.below hb6)
    obtain ⟨d0, d1, d2⟩ := HA5.out.below hb6
    clear c0 c1 c2 hb6 KC
    go_wp2_with fail
    refine (KS w6 HM6.out).mono ?_
    rintro e w7 ⟨rfl, hb7⟩
    have HB7 := hid13 (keepb hb7 HB6.out)
    clear hb7 KS d0 d1 d2
    go_wp2
    go_ret
    exact ⟨rfl, HB7.out⟩
end Go.Proofs.Ytnaihocdemcejaa
/-
  How rows of numbers that are handed in read as data.
-/
namespace Go.Proofs.Ytnaihocdemcejaa
open Go.ChangeShapes Go.WideShapes Go.ChangeAt Go.RowKit Go.Joins
set_option linter.unusedSimpArgs false
set_option linter.unusedVariables false

theorem Try.laidOut : laidOutB Try.prog = true := by kernel_rfl
theorem reach13 : reachBytes ≤ 140737488351232 := by decide
section
variable {H : Type} {enc : TypeId × Value → H} {w : World} {spare : Nat → Bool} {held : Bool}
theorem RwX.map13 {α β : Type} {f : α → Value} {g : β → Value} (h : α → β) {v : Value} {l : List α} (hr : RwX f w v l) (he : ∀ x ∈ l, f x = g (h x)) : RwX g w v (l.map h) := by
  obtain ⟨ao, c, e, hc, hr⟩ := hr
  refine ⟨ao, c, by rw [List.length_map]; exact e, by rw [List.length_map]; exact hc, ?_⟩
  rcases hr with hr | ⟨b, off, e, hr⟩
  · exact .inl (by rw [hr]; rfl)
  · refine .inr ⟨b, off, e, fun j x hj => ?_⟩
    rw [List.getElem?_map] at hj
    cases hx : l[j]? with
    | none => rw [hx] at hj; cases hj
    | some y =>
      rw [hx] at hj
      simp only [Option.map_some, Option.some.injEq] at hj
      rw [hr j y hx, he y (List.mem_of_getElem? hx), hj]
set_option maxRecDepth 100000 in
theorem open_ints13 {t e : TypeId} {k : IntKind} (ht : Try.prog.underlying t = some (.slice e)) (he : Try.prog.underlying e = some (.int k)) (hce : Try.prog.cellsOf e = 1) {r : Reach} {b0 : Nat} {v : Value} {d : DataW H} {p : List MemPlace} (hv : Value.okWide Try.prog w r b0 t v) (h : DataW.Trod enc Try.prog w 0 (fun _ => true) held t v d p) :
    ∃ l : List Int, RowA w 1 v l.length (l.map fun a => .int k a) ∧ RwX (fun a => Value.int k a) w v l ∧ (∀ a ∈ l, (Lit.int k a).wf = true) ∧ (l = [] ∨ ∃ el sp, d = .slice el sp ∧ el.length = l.length) := by
  obtain ⟨a0, len, cap, rfl⟩ := okWide_slice ht hv
  obtain ⟨fuel, hf⟩ := h
  rcases Deep.open_slice ht hf with ⟨hcs, hx⟩ | ⟨a, len', cap', m, n, D, Pl, hcs, _, hl, hm, hmm, hx, hel⟩
  · simp [Value.cells] at hcs
    obtain ⟨rfl, rfl, rfl⟩ := hcs
    exact ⟨[], ⟨rfl, none, 0, rfl, Nat.le_refl _, .inl ⟨rfl, rfl, rfl⟩⟩, ⟨none, 0, rfl, Nat.le_refl _, .inl rfl⟩, (fun _ h => by cases h), .inl rfl⟩
  · simp [Value.cells] at hcs
    obtain ⟨rfl, rfl, rfl⟩ := hcs
    simp at hmm
    subst hmm
    rw [hce] at hel
    obtain ⟨f, hf⟩ := Deep.choose_lt (α := Int) (n := len) (p := fun i x => w.cell? (a.add i) = some (.int k x) ∧ (Lit.int k x).wf = true) (fun i hi => by
      obtain ⟨cs', h1, h2⟩ := hel i (by omega)
      obtain ⟨_, hlen, hc⟩ := World.cells?_some h1
      match cs', hlen with
      | [c0], _ =>
        obtain ⟨x, ex, -, wx⟩ := DataW.trod_int he h2
        simp at ex
        subst ex
        refine ⟨x, ?_, wx⟩
        have := hc 0 (by omega)
        simpa [Addr.add] using this)
    have hlen : ((List.range len).map f).length = len := by simp
    have hcells : ∀ j x, ((List.range len).map f)[j]? = some x → w.cell? (a.add j) = some (.int k x) := by
      intro j x hj
      have hlt : j < len := by have := (List.getElem?_eq_some_iff.1 hj).1; simpa using this
      rw [List.getElem?_map, List.getElem?_range hlt] at hj
      simp only [Option.map_some, Option.some.injEq] at hj
      rw [← hj]; exact (hf j hlt).1
    refine ⟨(List.range len).map f, ⟨by simp, some a, m, by rw [hlen], by rw [hlen]; exact hl, .inr ⟨a, rfl, fun j u hj => ?_⟩⟩, ⟨some a, m, by rw [hlen], by rw [hlen]; exact hl, ?_⟩, ?_, ?_⟩
    · rw [List.getElem?_map] at hj
      cases hx : ((List.range len).map f)[j]? with
      | none => rw [hx] at hj; cases hj
      | some y =>
        rw [hx] at hj
        simp only [Option.map_some, Option.some.injEq] at hj
        rw [← hj]; exact hcells j y hx
    · by_cases hz : len = 0
      · subst hz
        exact .inl (by simp)
      · have h00 := (hf 0 (by omega)).1
        have ea : a = ⟨a.block, a.off, none⟩ := by
          have : a.add 0 = a := by simp [Addr.add]
          rw [this] at h00
          exact spot9 h00
        refine .inr ⟨a.block, a.off, by rw [← ea], fun j u hj => ?_⟩
        have := hcells j u hj
        rw [ea, addA] at this
        exact this
    · intro x hx
      simp only [List.mem_map, List.mem_range] at hx
      obtain ⟨i, hi, rfl⟩ := hx
      exact (hf i hi).2
    · simp only [Prod.mk.injEq] at hx
      exact .inr ⟨_, _, hx.1, by simp⟩
end
end Go.Proofs.Ytnaihocdemcejaa
/-
  How an instruction that is handed in reads as data.
-/
namespace Go.Proofs.Ytnaihocdemcejaa
open Go.ChangeShapes Go.WideShapes Go.ChangeAt Go.RowKit Go.Joins
set_option linter.unusedSimpArgs false
set_option linter.unusedVariables false

theorem Try.cellsI14 : Try.prog.cellsOf 3 = 1 := by kernel_rfl
theorem Try.cellsM14 : Try.prog.cellsOf 22 = 1 := by kernel_rfl
theorem Try.cellsN14 : Try.prog.cellsOf 24 = 3 := by kernel_rfl
section
variable {H : Type} {enc : TypeId × Value → H} {w : World} {spare : Nat → Bool} {held : Bool}
set_option maxRecDepth 100000 in
theorem trod_ints14 {t e : TypeId} {k : IntKind} (ht : Try.prog.underlying t = some (.slice e)) (he : Try.prog.underlying e = some (.int k)) (hce : Try.prog.cellsOf e = 1) {fuel : Nat} {va : Value} {x : DataW H × List MemPlace} (hf : DataW.trod enc Try.prog w 0 (fun _ => true) held fuel t [va] = some x) :
    ∃ l : List Int, RowA w 1 va l.length (l.map fun a => .int k a) ∧ RwX (fun a => Value.int k a) w va l ∧ (∀ a ∈ l, (Lit.int k a).wf = true) := by
  rcases Deep.open_slice ht hf with ⟨hcs, hx⟩ | ⟨a, len', cap', m, n, D, Pl, hcs, _, hl, hm, hmm, hx, hel⟩
  · simp at hcs
    subst hcs
    exact ⟨[], ⟨rfl, none, 0, rfl, Nat.le_refl _, .inl ⟨rfl, rfl, rfl⟩⟩, ⟨none, 0, rfl, Nat.le_refl _, .inl rfl⟩, (fun _ h => by cases h)⟩
  · simp at hcs
    subst hcs
    simp at hmm
    subst hmm
    rw [hce] at hel
    obtain ⟨f, hf⟩ := Deep.choose_lt (α := Int) (n := len') (p := fun i x => w.cell? (a.add i) = some (.int k x) ∧ (Lit.int k x).wf = true) (fun i hi => by
      obtain ⟨cs', h1, h2⟩ := hel i (by omega)
      obtain ⟨_, hlen, hc⟩ := World.cells?_some h1
      match cs', hlen with
      | [c0], _ =>
        obtain ⟨x, ex, -, wx⟩ := DataW.trod_int he h2
        simp at ex
        subst ex
        refine ⟨x, ?_, wx⟩
        have := hc 0 (by omega)
        simpa [Addr.add] using this)
    have hlen : ((List.range len').map f).length = len' := by simp
    have hcells : ∀ j x, ((List.range len').map f)[j]? = some x → w.cell? (a.add j) = some (.int k x) := by
      intro j x hj
      have hlt : j < len' := by have := (List.getElem?_eq_some_iff.1 hj).1; simpa using this
      rw [List.getElem?_map, List.getElem?_range hlt] at hj
      simp only [Option.map_some, Option.some.injEq] at hj
      rw [← hj]; exact (hf j hlt).1
    refine ⟨(List.range len').map f, ⟨by simp, some a, m, by rw [hlen], by rw [hlen]; exact hl, .inr ⟨a, rfl, fun j u hj => ?_⟩⟩, ⟨some a, m, by rw [hlen], by rw [hlen]; exact hl, ?_⟩, ?_⟩
    · rw [List.getElem?_map] at hj
      cases hx : ((List.range len').map f)[j]? with
      | none => rw [hx] at hj; cases hj
      | some y =>
        rw [hx] at hj
        simp only [Option.map_some, Option.some.injEq] at hj
        rw [← hj]; exact hcells j y hx
    · by_cases hz : len' = 0
      · subst hz
        exact .inl (by simp)
      · have h00 := (hf 0 (by omega)).1
        have ea : a = ⟨a.block, a.off, none⟩ := by
          have : a.add 0 = a := by simp [Addr.add]
          rw [this] at h00
          exact spot9 h00
        refine .inr ⟨a.block, a.off, by rw [← ea], fun j u hj => ?_⟩
        have := hcells j u hj
        rw [ea, addA] at this
        exact this
    · intro x hx
      simp only [List.mem_map, List.mem_range] at hx
      obtain ⟨i, hi, rfl⟩ := hx
      exact (hf i hi).2
theorem u32_bd14 {a : Int} (h : (Lit.int .u32 a).wf = true) : 0 ≤ a ∧ a < 4294967296 := by
  simp [Lit.wf, IntKind.min, IntKind.max, IntKind.signed, IntKind.bits] at h; omega
theorem i64_bd14 {a : Int} (h : (Lit.int .i64 a).wf = true) : -9223372036854775808 ≤ a ∧ a ≤ 9223372036854775807 := by
  simp [Lit.wf, IntKind.min, IntKind.max, IntKind.signed, IntKind.bits] at h; omega
set_option maxRecDepth 100000 in
theorem open_instr {r : Reach} {b0 : Nat} {v : Value} {d : DataW H} {p : List MemPlace} (hv : Value.okWide Try.prog w r b0 24 v) (h : DataW.Trod enc Try.prog w 0 (fun _ => true) held 24 v d p) :
    ∃ (o n : Int) (va : Value) (m : List (BitVec 32)), v = .agg #[.int .i64 o, .int .i64 n, va] ∧ RwX cU w va m ∧ RowA w 1 va m.length (m.map cU) ∧ (-9223372036854775808 ≤ o ∧ o ≤ 9223372036854775807) ∧ (-9223372036854775808 ≤ n ∧ n ≤ 9223372036854775807) := by
  obtain ⟨cs, rfl, hsz⟩ := okWide_struct Try.underlying24 hv
  obtain ⟨c0, c1, va, rfl⟩ := array3 (hsz.trans Try.cellsN14)
  obtain ⟨fuel, hf⟩ := h
  obtain ⟨y0, y1, y2, n, hx, _, h0, h1, h2⟩ := Deep.trod_struct3 Try.underlying24 hf
  have h0' : DataW.trod enc Try.prog w 0 (fun _ => true) held n 3 [c0] = some y0 := by simpa [Value.cells, Try.cellsI14] using h0
  have h1' : DataW.trod enc Try.prog w 0 (fun _ => true) held n 3 [c1] = some y1 := by simpa [Value.cells, Try.cellsI14, Try.cellsM14] using h1
  have h2' : DataW.trod enc Try.prog w 0 (fun _ => true) held n 22 [va] = some y2 := by simpa [Value.cells, Try.cellsI14, Try.cellsM14] using h2
  obtain ⟨o, eo, -, wo⟩ := DataW.trod_int Try.underlying3 h0'
  obtain ⟨k, ek, -, wk⟩ := DataW.trod_int Try.underlying3 h1'
  simp at eo ek
  subst eo ek
  obtain ⟨l, hA, hR, hw⟩ := trod_ints14 Try.underlying22 Try.underlying56 (by kernel_rfl) h2'
  have hq : ∀ x ∈ l, Value.int .u32 x = cU (BitVec.ofNat 32 x.toNat) := fun x hx => by
    have := u32_bd14 (hw x hx)
    unfold cU
    rw [uI_of _ (by omega)]
    congr 1
    omega
  refine ⟨o, k, va, l.map (fun a => BitVec.ofNat 32 a.toNat), rfl, hR.map13 _ hq, ?_, i64_bd14 wo, i64_bd14 wk⟩
  rw [List.length_map, List.map_map]
  have e : l.map (cU ∘ fun a => BitVec.ofNat 32 a.toNat) = l.map (fun a => Value.int .u32 a) := List.map_congr_left fun x hx => (hq x hx).symm
  rw [e]
  exact hA
end
end Go.Proofs.Ytnaihocdemcejaa
