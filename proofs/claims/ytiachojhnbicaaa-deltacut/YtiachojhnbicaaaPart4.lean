/-
  Part 4 of the proof: 3 texts, one behind the other.
-/
import Derived.Test.YtiachojhnbicaaaPart1
import Derived.Test.YtiachojhnbicaaaPart3
import Derived.Test.YtiachojhnbicaaaPart2
import Derived.Deep.Slices
import Derived.Carry
import Derived.SizedLaws
import Derived.ProofKit
import Derived.Lib.SmallJoins
import Derived.Deep.Strs
namespace Go.Proofs.Ytiachojhnbicaaa
open Go.RowKit Go.Shelf
set_option linter.unusedSimpArgs false
set_option linter.unusedVariables false

structure RC21 (Wb : World) (base : Nat) (x y : List Nat) (f0 f4 f8 f9 : Bool) (g : (Nat × Value) × (Value × Value)) (X : World) : Prop where
  b : Below base Wb X
  s : base ≤ Wb.heap.size
  d0 : f0 = true → f4 = false → X.ownsRow base 5 1 (.slice (some ⟨g.1.1, 0, none⟩) 0 0) 0 []
  d4 : f4 = true → f8 = false → X.ownsRow base 5 1 g.1.2 x.length (x.map cB)
  d8 : f8 = true → X.ownsRow base 5 1 g.2.1 (x.length + y.length) ((x ++ y).map cB)
  d9 : f9 = true → X.ownsRow base 5 1 g.2.2 (x.length + y.length) ((x ++ y).map cB)
  p0 : f9 = true → f8 = true
  p1 : f8 = true → f4 = true
  p2 : f4 = true → f0 = true
set_option maxRecDepth 100000 in
set_option maxHeartbeats 16000000 in
theorem deltaCut_any (v : Value) (a : List Nat) (at0 n0 : Int) (w : World) (hA : RowA w 1 v a.length (a.map cB)) (hv : RwX cB w v a) (hx : ∀ z ∈ a, z < 256) (hat0 : -9223372036854775808 ≤ at0) (hat1 : at0 ≤ 9223372036854775807) (hn0 : -9223372036854775808 ≤ n0) (hn1 : n0 ≤ 9223372036854775807) :
    Calls Try.prog 4 #[v, .int .i64 at0, .int .i64 n0] w fun e w' => e = .returned (.bool true) ∧ Below w.heap.size w w' := by
  obtain ⟨i0, ji, jz0, jz1, jz2⟩ := info13 Try.infoB13
  obtain ⟨ao, c, hvf, hc, -⟩ := id hv
  have HV : Hid (RowA w 1 v a.length (a.map cB) ∧ RwX cB w v a ∧ (∀ z ∈ a, z < 256)) := ⟨hA, hv, hx⟩
  subst hvf
  clear hA hv hx hat0 hat1 hn0 hn1
  by_cases h1 : (32768 : Int) < (a.length : Int)
  · go_enter Try.func4, Try.ntmps4
    go_wp2_with fail
    refine (known21 w).mono ?_
    rintro e w1 ⟨rfl, hb⟩
    have HB1 := hid13 hb
    clear hb
    go_wp2
    go_ret
    exact ⟨rfl, HB1.out⟩
  have hl : a.length ≤ 32768 := by omega
  obtain ⟨i, hi⟩ : ∃ i : Nat, (i : Int) = wth at0 ((a.length : Int) + 1) := ⟨(wth at0 ((a.length : Int) + 1)).toNat, by have := wth_in at0 ((a.length : Int) + 1) (by omega); omega⟩
  have hil : i ≤ a.length := by have := wth_in at0 ((a.length : Int) + 1) (by omega); omega
  obtain ⟨k, hk⟩ : ∃ k : Nat, (k : Int) = wth n0 ((a.length : Int) - (i : Int) + 1) := ⟨(wth n0 ((a.length : Int) - (i : Int) + 1)).toNat, by have := wth_in n0 ((a.length : Int) - (i : Int) + 1) (by omega); omega⟩
  have hkl : i + k ≤ a.length := by have := wth_in n0 ((a.length : Int) - (i : Int) + 1) (by omega); omega
  obtain ⟨j, hj⟩ : ∃ j : Nat, j = i + k := ⟨_, rfl⟩
  have hij : i ≤ j := by omega
  have hjl : j ≤ a.length := by omega
  have KI := fun X => within21 at0 ((a.length : Int) + 1) (by omega) (by omega) X
  have KJ := fun X => within21 n0 ((a.length : Int) - (i : Int) + 1) (by omega) (by omega) X
  rw [← hi] at KI
  rw [← hk] at KJ
  have w1 : IntKind.i64.wrap ((a.length : Int) + 1) = (a.length : Int) + 1 := by rw [IntKind.wrap_i64]; omega
  have w2 : IntKind.i64.wrap ((a.length : Int) - (i : Int)) = (a.length : Int) - (i : Int) := by rw [IntKind.wrap_i64]; omega
  have w3 : IntKind.i64.wrap ((a.length : Int) - (i : Int) + 1) = (a.length : Int) - (i : Int) + 1 := by rw [IntKind.wrap_i64]; omega
  have w4 : IntKind.i64.wrap ((i : Int) + (k : Int)) = (j : Int) := by rw [IntKind.wrap_i64]; omega
  have w5 : IntKind.i64.wrap ((j : Int) - (i : Int)) = (j : Int) - (i : Int) := by rw [IntKind.wrap_i64]; omega
  have HL : Hid (a.length ≤ 32768 ∧ i ≤ j ∧ j ≤ a.length) := ⟨hl, hij, hjl⟩
  have HS1 : Hid (∀ X, Sem.run Try.prog (Instr.sliceAt 22 (.slice ao a.length c) none (some (.int .i64 (i : Int))) none) X = .ok (.slice ao i c) X) := fun X => run_slice_to (P := Try.prog) (w := X) Try.underlying22 ji ao a.length c i (by omega)
  have HS2 : Hid (∀ X, Sem.run Try.prog (Instr.sliceAt 22 (.slice ao a.length c) (some (.int .i64 (j : Int))) none none) X = .ok (.slice (if c = j then ao else ao.map (·.add (j * 1))) (a.length - j) (c - j)) X) := fun X => run_slice_from (P := Try.prog) (w := X) Try.underlying22 ji jz1 ao a.length c j (by omega)
  have hxl : (a.take i).length = i := by rw [List.length_take]; omega
  have hyl : (a.drop j).length = a.length - j := by rw [List.length_drop]
  have HA1 : Hid (RowA w 1 (.slice ao i c) (a.take i).length ((a.take i).map cB)) := by
    have := rowA_mid21 (k := 0) (z := i) HV.out.1 (by omega)
    rw [List.drop_zero, Nat.zero_mul] at this
    have e : (if c = 0 then ao else ao.map (·.add 0)) = ao := by
      split
      · rfl
      · cases ao with
        | none => rfl
        | some p => simp [Addr.add]
    rw [e] at this
    rw [hxl]; exact this
  have HA2 : Hid (RowA w 1 (.slice (if c = j then ao else ao.map (·.add (j * 1))) (a.length - j) (c - j)) (a.drop j).length ((a.drop j).map cB)) := by
    have := rowA_mid21 (k := j) (z := a.length - j) HV.out.1 (by omega)
    rw [List.take_of_length_le (by rw [List.length_drop]; omega)] at this
    rw [hyl]; exact this
  obtain ⟨x, hx⟩ : ∃ x, x = a.take i := ⟨_, rfl⟩
  obtain ⟨y, hy⟩ : ∃ y, y = a.drop j := ⟨_, rfl⟩
  have HXY : Hid (x = a.take i ∧ y = a.drop j ∧ x.length = i ∧ y.length = a.length - j) := ⟨hx, hy, by rw [hx]; exact hxl, by rw [hy]; exact hyl⟩
  rw [← hx] at HA1
  rw [← hy] at HA2
  generalize hbj : (if c = j then ao else ao.map (·.add (j * 1))) = bo at *
  clear hl hi hil hk hkl hj hij hjl hc hx hy hxl hyl hbj
  go_enter Try.func4, Try.ntmps4
  go_wp2_with fail
  refine (known21 w).mono ?_
  rintro e W1 ⟨rfl, hb⟩
  have HB1 := hid13 hb
  clear hb
  go_wp2_with fail
  refine (KI W1).mono ?_
  rintro e W2 ⟨rfl, hw2⟩
  replace hw2 := hw2.symm
  subst hw2
  go_wp2_with fail
  refine (KJ W1).mono ?_
  rintro e W2 ⟨rfl, hw2⟩
  replace hw2 := hw2.symm
  subst hw2
  clear KI KJ
  have HR0 : Hid (RC21 W1 w.heap.size x y false false false false ((0, undef), (undef, undef)) W1.drew) := ⟨(Below.refl _ _).drew, HB1.out.size, fun q => (by cases q), fun q => (by cases q), fun q => (by cases q), fun q => (by cases q), fun q => (by cases q), fun q => (by cases q), fun q => (by cases q)⟩
  go_wp2_with fail
  refine gh_region (γ := (Nat × Value) × (Value × Value)) (qpOk 10 10 (by decide) (fun N => by kernel_rfl) (by kernel_rfl) (by kernel_rfl) (by kernel_rfl) (by kernel_rfl)) (by kernel_rfl) (by kernel_rfl) [some 31, some 32, some 33, some 34, some 35, some 36, some 37, some 38, some 39, some 9] (fun g => [.slice (some ⟨g.1.1, 0, none⟩) 0 0, .slice ao a.length c, .int .i64 (i : Int), .slice ao i c, g.1.2, .slice ao a.length c, .int .i64 (j : Int), .slice bo (a.length - j) (c - j), g.2.1, g.2.2]) (by kernel_rfl) (by simp) (fun lp g X => RC21 W1 w.heap.size x y (lp.getD 0 false) (lp.getD 4 false) (lp.getD 8 false) (lp.getD 9 false) g X) ((0, undef), (undef, undef)) HR0.out ?step7 ?fin7
  case step7 =>
    intro q o lp g w' a' ho hsz hun hdep hR hS K Q' hK
    have hfl : ∀ j, j ≠ q → (lp.setIfInBounds q true).getD j false = lp.getD j false := fun j hj => by rw [Array.getD_eq_getD_getElem?, Array.getD_eq_getD_getElem?, Array.getElem?_setIfInBounds_ne (by omega)]
    have hq : q < 10 := (List.getElem?_eq_some_iff.mp ho).1
    match q, ho, hun, hdep, hK, hfl, hq with
    | 0, ho, hun, hdep, hK, hfl, _ =>
      obtain rfl := Option.some.inj ho
      have n4 : lp.getD 4 false = false := by
        cases h : lp.getD 4 false with
        | false => rfl
        | true => have := hR.p2 h; rw [hun] at this; cases this
      have n8 : lp.getD 8 false = false := by
        cases h : lp.getD 8 false with
        | false => rfl
        | true => have := hR.p2 (hR.p1 h); rw [hun] at this; cases this
      have n9 : lp.getD 9 false = false := by
        cases h : lp.getD 9 false with
        | false => rfl
        | true => have := hR.p2 (hR.p1 (hR.p0 h)); rw [hun] at this; cases this
      have q := bl1 w' (.cells #[] 5)
      have hO : (w'.alloc (.cells #[] 5)).ownsRow w.heap.size 5 1 (.slice (some ⟨w'.heap.size, 0, none⟩) 0 0) 0 [] := World.ownsRow_made w' #[] 0 (Nat.le_trans hR.s hR.b.size) (by unfold maxLen; omega) (by simp)
      have hK' := hK ((w'.heap.size, g.1.2), g.2) (w'.alloc (.cells #[] 5)) (fun k' ok s hk hl hd => gh_same14 (d := 31) (s := s) (by simp only [putAll, Act.put, List.setIfInBounds_toArray, List.set_cons_zero, List.set_cons_succ]; rfl) (by rintro rfl; have := dstG_of (by kernel_rfl) k' 0 ok _ 31 hk rfl hd rfl; subst this; rw [hun] at hl; cases hl)) (by rw [hfl 4 (by decide), hfl 8 (by decide), hfl 9 (by decide), getD_set_same (by rw [hsz]; decide)]; exact ⟨hR.b.trans (q.mono (Nat.le_trans hR.s hR.b.size)), hR.s, fun _ _ => hO, fun h1 => (by rw [n4] at h1; cases h1), fun h1 => (by rw [n8] at h1; cases h1), fun h1 => (by rw [n9] at h1; cases h1), hR.p0, hR.p1, fun _ => rfl⟩) (.slice (some ⟨w'.heap.size, 0, none⟩) 0 0) (by simp only [valO, Option.bind_some]; simp only [putAll, Act.put, List.setIfInBounds_toArray, List.set_cons_zero, List.set_cons_succ]; rfl)
      clear hS hdep hR hK q hO
      unfold Oper.wp
      simp only [execOp, Act.eval, Array.getD_eq_getD_getElem?]
      simp [go_sem, Oper.upon]
      exact hK'
    | 1, ho, hun, hdep, hK, hfl, _ =>
      obtain rfl := Option.some.inj ho
      have o0 : a'.tmps[0]? = some (.slice ao a.length c) := (hS.old14 0 (by simp)).trans rfl
      have hK' := hK g w' (fun _ _ _ _ _ _ => rfl) (by rw [hfl 0 (by decide), hfl 4 (by decide), hfl 8 (by decide), hfl 9 (by decide)]; exact hR) (.slice ao a.length c) (by simp only [valO, Option.bind_some]; (try simp only [putAll, Act.put, List.setIfInBounds_toArray, List.set_cons_zero, List.set_cons_succ]); (try rfl))
      clear hS hdep hR
      refine gh_quiet14 (v := .slice ao a.length c) ?_ ?_
      · (simp only [execOp, Act.eval, o0]; go_simp; first | done | (simp; done) | (simp [*]; done) | omega | (rw [IntKind.wrap_i64]; omega))
      · exact hK'
    | 2, ho, hun, hdep, hK, hfl, _ =>
      obtain rfl := Option.some.inj ho
      have o7 : a'.tmps[7]? = some (.int .i64 (i : Int)) := (hS.old14 7 (by simp)).trans rfl
      have hK' := hK g w' (fun _ _ _ _ _ _ => rfl) (by rw [hfl 0 (by decide), hfl 4 (by decide), hfl 8 (by decide), hfl 9 (by decide)]; exact hR) (.int .i64 (i : Int)) (by simp only [valO, Option.bind_some]; (try simp only [putAll, Act.put, List.setIfInBounds_toArray, List.set_cons_zero, List.set_cons_succ]); (try rfl))
      clear hS hdep hR
      refine gh_quiet14 (v := .int .i64 (i : Int)) ?_ ?_
      · (simp only [execOp, Act.eval, o7]; go_simp; first | done | (simp; done) | (simp [*]; done) | omega | (rw [IntKind.wrap_i64]; omega))
      · exact hK'
    | 3, ho, hun, hdep, hK, hfl, _ =>
      obtain rfl := Option.some.inj ho
      have d1 : lp.getD 1 false = true := hdep { on := 1, ground := .data } (by simp) rfl
      have e32 : a'.tmps[32]? = some (.slice ao a.length c) := (hS.don 1 _ 32 rfl d1 rfl).trans (by simp only [putAll, Act.put, List.setIfInBounds_toArray, List.set_cons_zero, List.set_cons_succ]; rfl)
      have d2 : lp.getD 2 false = true := hdep { on := 2, ground := .data } (by simp) rfl
      have e33 : a'.tmps[33]? = some (.int .i64 (i : Int)) := (hS.don 2 _ 33 rfl d2 rfl).trans (by simp only [putAll, Act.put, List.setIfInBounds_toArray, List.set_cons_zero, List.set_cons_succ]; rfl)
      have hK' := hK g w' (fun _ _ _ _ _ _ => rfl) (by rw [hfl 0 (by decide), hfl 4 (by decide), hfl 8 (by decide), hfl 9 (by decide)]; exact hR) (.slice ao i c) (by simp only [valO, Option.bind_some]; simp only [putAll, Act.put, List.setIfInBounds_toArray, List.set_cons_zero, List.set_cons_succ]; rfl)
      clear hS hdep hR
      refine gh_quiet14 (v := .slice ao i c) ?_ ?_
      · (simp only [execOp, Act.eval, Option.map_some, Option.map_none, Array.getD_eq_getD_getElem?, e32, e33, Option.getD_some]; exact ex17 (HS1.out w'))
      · exact hK'
    | 4, ho, hun, hdep, hK, hfl, _ =>
      obtain rfl := Option.some.inj ho
      have d0 : lp.getD 0 false = true := hdep { on := 0, ground := .data } (by simp) rfl
      have e31 : a'.tmps[31]? = some (.slice (some ⟨g.1.1, 0, none⟩) 0 0) := (hS.don 0 _ 31 rfl d0 rfl).trans (by simp only [putAll, Act.put, List.setIfInBounds_toArray, List.set_cons_zero, List.set_cons_succ]; rfl)
      have d3 : lp.getD 3 false = true := hdep { on := 3, ground := .data } (by simp) rfl
      have e34 : a'.tmps[34]? = some (.slice ao i c) := (hS.don 3 _ 34 rfl d3 rfl).trans (by simp only [putAll, Act.put, List.setIfInBounds_toArray, List.set_cons_zero, List.set_cons_succ]; rfl)
      have n8 : lp.getD 8 false = false := by
        cases h : lp.getD 8 false with
        | false => rfl
        | true => have := hR.p1 h; rw [hun] at this; cases this
      have n9 : lp.getD 9 false = false := by
        cases h : lp.getD 9 false with
        | false => rfl
        | true => have := hR.p1 (hR.p0 h); rw [hun] at this; cases this
      have hO := hR.d0 d0 hun
      obtain ⟨zo, zc, hzv⟩ := own_form hO
      refine wp_append_rowA (.tmp 31) (.tmp 34) 22 rfl w.heap.size 5 i0 (.int .u8 0) 1 1 Try.underlying22 ji jz0 jz1 jz2 rfl (by decide) _ 0 [] (by simp [Act.eval, e31]) hO _ x.length (x.map cB) (by simp [Act.eval, e34]) (HA1.out.below (HB1.out.trans hR.b)) (cB_one _) (by have := HL.out; have := HXY.out; unfold maxLen; omega) (by have := HL.out; have := HXY.out; omega) (Nat.le_trans hR.s hR.b.size) ?_
      intro aoN cN wN hON hgN
      have hbN : Below w.heap.size W1 wN := hR.b.grown hgN (Nat.le_trans hR.s hR.b.size) (fun z hz => (hO.lt z hz).1)
      exact hK ((g.1.1, .slice aoN (0 + x.length) cN), g.2) wN (fun k' ok s hk hl hd => gh_same14 (d := 35) (s := s) (by simp only [putAll, Act.put, List.setIfInBounds_toArray, List.set_cons_zero, List.set_cons_succ]; rfl) (by rintro rfl; have := dstG_of (by kernel_rfl) k' 4 ok _ 35 hk rfl hd rfl; subst this; rw [hun] at hl; cases hl)) (by rw [hfl 0 (by decide), hfl 8 (by decide), hfl 9 (by decide), getD_set_same (by rw [hsz]; decide)]; exact ⟨hbN, hR.s, fun _ h => (by cases h), fun _ _ => (by rw [Nat.zero_add, List.nil_append] at hON; rw [Nat.zero_add]; exact hON), fun h1 => (by rw [n8] at h1; cases h1), fun h1 => (by rw [n9] at h1; cases h1), hR.p0, fun _ => rfl, fun _ => d0⟩) _ (by simp only [valO, Option.bind_some]; simp only [putAll, Act.put, List.setIfInBounds_toArray, List.set_cons_zero, List.set_cons_succ]; rfl)
    | 5, ho, hun, hdep, hK, hfl, _ =>
      obtain rfl := Option.some.inj ho
      have o0 : a'.tmps[0]? = some (.slice ao a.length c) := (hS.old14 0 (by simp)).trans rfl
      have hK' := hK g w' (fun _ _ _ _ _ _ => rfl) (by rw [hfl 0 (by decide), hfl 4 (by decide), hfl 8 (by decide), hfl 9 (by decide)]; exact hR) (.slice ao a.length c) (by simp only [valO, Option.bind_some]; (try simp only [putAll, Act.put, List.setIfInBounds_toArray, List.set_cons_zero, List.set_cons_succ]); (try rfl))
      clear hS hdep hR
      refine gh_quiet14 (v := .slice ao a.length c) ?_ ?_
      · (simp only [execOp, Act.eval, o0]; go_simp; first | done | (simp; done) | (simp [*]; done) | omega | (rw [IntKind.wrap_i64]; omega))
      · exact hK'
    | 6, ho, hun, hdep, hK, hfl, _ =>
      obtain rfl := Option.some.inj ho
      have o8 : a'.tmps[8]? = some (.int .i64 (j : Int)) := (hS.old14 8 (by simp)).trans rfl
      have hK' := hK g w' (fun _ _ _ _ _ _ => rfl) (by rw [hfl 0 (by decide), hfl 4 (by decide), hfl 8 (by decide), hfl 9 (by decide)]; exact hR) (.int .i64 (j : Int)) (by simp only [valO, Option.bind_some]; (try simp only [putAll, Act.put, List.setIfInBounds_toArray, List.set_cons_zero, List.set_cons_succ]); (try rfl))
      clear hS hdep hR
      refine gh_quiet14 (v := .int .i64 (j : Int)) ?_ ?_
      · (simp only [execOp, Act.eval, o8]; go_simp; first | done | (simp; done) | (simp [*]; done) | omega | (rw [IntKind.wrap_i64]; omega))
      · exact hK'
    | 7, ho, hun, hdep, hK, hfl, _ =>
      obtain rfl := Option.some.inj ho
      have d5 : lp.getD 5 false = true := hdep { on := 5, ground := .data } (by simp) rfl
      have e36 : a'.tmps[36]? = some (.slice ao a.length c) := (hS.don 5 _ 36 rfl d5 rfl).trans (by simp only [putAll, Act.put, List.setIfInBounds_toArray, List.set_cons_zero, List.set_cons_succ]; rfl)
      have d6 : lp.getD 6 false = true := hdep { on := 6, ground := .data } (by simp) rfl
      have e37 : a'.tmps[37]? = some (.int .i64 (j : Int)) := (hS.don 6 _ 37 rfl d6 rfl).trans (by simp only [putAll, Act.put, List.setIfInBounds_toArray, List.set_cons_zero, List.set_cons_succ]; rfl)
      have hK' := hK g w' (fun _ _ _ _ _ _ => rfl) (by rw [hfl 0 (by decide), hfl 4 (by decide), hfl 8 (by decide), hfl 9 (by decide)]; exact hR) (.slice bo (a.length - j) (c - j)) (by simp only [valO, Option.bind_some]; simp only [putAll, Act.put, List.setIfInBounds_toArray, List.set_cons_zero, List.set_cons_succ]; rfl)
      clear hS hdep hR
      refine gh_quiet14 (v := .slice bo (a.length - j) (c - j)) ?_ ?_
      · (simp only [execOp, Act.eval, Option.map_some, Option.map_none, Array.getD_eq_getD_getElem?, e36, e37, Option.getD_some]; exact ex17 (HS2.out w'))
      · exact hK'
    | 8, ho, hun, hdep, hK, hfl, _ =>
      obtain rfl := Option.some.inj ho
      have d4 : lp.getD 4 false = true := hdep { on := 4, ground := .data } (by simp) rfl
      have e35 : a'.tmps[35]? = some (g.1.2) := (hS.don 4 _ 35 rfl d4 rfl).trans (by simp only [putAll, Act.put, List.setIfInBounds_toArray, List.set_cons_zero, List.set_cons_succ]; rfl)
      have d7 : lp.getD 7 false = true := hdep { on := 7, ground := .data } (by simp) rfl
      have e38 : a'.tmps[38]? = some (.slice bo (a.length - j) (c - j)) := (hS.don 7 _ 38 rfl d7 rfl).trans (by simp only [putAll, Act.put, List.setIfInBounds_toArray, List.set_cons_zero, List.set_cons_succ]; rfl)
      have n9 : lp.getD 9 false = false := by
        cases h : lp.getD 9 false with
        | false => rfl
        | true => have := hR.p0 h; rw [hun] at this; cases this
      have hO := hR.d4 d4 hun
      obtain ⟨zo, zc, hzv⟩ := own_form hO
      refine wp_append_rowA (.tmp 35) (.tmp 38) 22 rfl w.heap.size 5 i0 (.int .u8 0) 1 1 Try.underlying22 ji jz0 jz1 jz2 rfl (by decide) _ x.length (x.map cB) (by simp [Act.eval, e35]) hO _ y.length (y.map cB) (by simp [Act.eval, e38]) (HA2.out.below (HB1.out.trans hR.b)) (cB_one _) (by have := HL.out; have := HXY.out; unfold maxLen; omega) (by have := HL.out; have := HXY.out; omega) (Nat.le_trans hR.s hR.b.size) ?_
      intro aoN cN wN hON hgN
      have hbN : Below w.heap.size W1 wN := hR.b.grown hgN (Nat.le_trans hR.s hR.b.size) (fun z hz => (hO.lt z hz).1)
      exact hK (g.1, (.slice aoN (x.length + y.length) cN, g.2.2)) wN (fun k' ok s hk hl hd => gh_same14 (d := 39) (s := s) (by simp only [putAll, Act.put, List.setIfInBounds_toArray, List.set_cons_zero, List.set_cons_succ]; rfl) (by rintro rfl; have := dstG_of (by kernel_rfl) k' 8 ok _ 39 hk rfl hd rfl; subst this; rw [hun] at hl; cases hl)) (by rw [hfl 0 (by decide), hfl 4 (by decide), hfl 9 (by decide), getD_set_same (by rw [hsz]; decide)]; exact ⟨hbN, hR.s, fun _ h => (by rw [d4] at h; cases h), fun _ h => (by cases h), fun _ => (by rw [List.map_append]; exact hON), fun h1 => (by rw [n9] at h1; cases h1), fun _ => rfl, fun _ => d4, hR.p2⟩) _ (by simp only [valO, Option.bind_some]; simp only [putAll, Act.put, List.setIfInBounds_toArray, List.set_cons_zero, List.set_cons_succ]; rfl)
    | 9, ho, hun, hdep, hK, hfl, _ =>
      obtain rfl := Option.some.inj ho
      have d8 : lp.getD 8 false = true := hdep { on := 8, ground := .data } (by simp) rfl
      have e39 : a'.tmps[39]? = some (g.2.1) := (hS.don 8 _ 39 rfl d8 rfl).trans (by simp only [putAll, Act.put, List.setIfInBounds_toArray, List.set_cons_zero, List.set_cons_succ]; rfl)
      have hK' := hK (g.1, (g.2.1, g.2.1)) w' (fun k' ok s hk hl hd => gh_same14 (d := 9) (s := s) (by simp only [putAll, Act.put, List.setIfInBounds_toArray, List.set_cons_zero, List.set_cons_succ]; rfl) (by rintro rfl; have := dstG_of (by kernel_rfl) k' 9 ok _ 9 hk rfl hd rfl; subst this; rw [hun] at hl; cases hl)) (by rw [hfl 0 (by decide), hfl 4 (by decide), hfl 8 (by decide), getD_set_same (by rw [hsz]; decide)]; exact ⟨hR.b, hR.s, hR.d0, hR.d4, hR.d8, fun _ => hR.d8 d8, fun _ => d8, hR.p1, hR.p2⟩) g.2.1 (by simp only [valO, Option.bind_some]; simp only [putAll, Act.put, List.setIfInBounds_toArray, List.set_cons_zero, List.set_cons_succ]; rfl)
      clear hS hdep hR hK
      refine gh_quiet14 (v := g.2.1) ?_ ?_
      · (simp only [execOp, Act.eval, e39]; go_simp; first | done | (simp; done) | (simp [*]; done))
      · exact hK'
    | n + 10, ho, hun, hdep, hK, hfl, hq => exact absurd hq (by omega)
  case fin7 =>
    intro g X hX
    have h9 := hX.d9 rfl
    have HXq : Hid (Below w.heap.size w X) := HB1.out.trans hX.b
    simp only [putAll, Act.put, List.setIfInBounds_toArray, List.set_cons_zero, List.set_cons_succ]
    obtain ⟨vb, hvb⟩ : ∃ vb, vb = g.2.2 := ⟨_, rfl⟩
    rw [← hvb] at h9 ⊢
    clear hX hvb HR0 HB1 HS1 HS2 HA1 HA2
    obtain ⟨zo, zc, hzv⟩ := own_form h9
    subst hzv
    rw [← List.length_append] at h9 ⊢
    have HO := hid13 h9
    obtain ⟨b, hb⟩ : ∃ b, b = x ++ y := ⟨_, rfl⟩
    rw [← hb] at HO ⊢
    have HBq : Hid (b = a.take i ++ a.drop j ∧ b.length ≤ 32768 ∧ ∀ z ∈ b, z < 256) := by
      have q := HXY.out
      have q2 := HL.out
      refine ⟨by rw [hb, q.1, q.2.1], by rw [hb, List.length_append, q.2.2.1, q.2.2.2]; omega, fun z hz => ?_⟩
      rw [hb, q.1, q.2.1] at hz
      rcases List.mem_append.1 hz with h | h
      · exact HV.out.2.2 z (List.mem_of_mem_take h)
      · exact HV.out.2.2 z (List.mem_of_mem_drop h)
    have HC : Hid (dfK a b + dfT a b = b.length ∧ (a = b ↔ i = j) ∧ b.length = i + (a.length - j)) := by
      have q := HXY.out
      have q2 := HL.out
      refine ⟨?_, ?_, by rw [hb, List.length_append, q.2.2.1, q.2.2.2]⟩
      · rw [HBq.out.1]; exact df_cut a i j q2.2.1 q2.2.2
      · rw [HBq.out.1]; exact cut_eq a i j q2.2.1 q2.2.2
    clear h9 hb HXY
    go_wp2_with fail
    refine (diff21 _ _ a b X (HV.out.2.1.below HXq.out) (own_rwx HO.out) (HV.out.1.below HXq.out) (own_rowA HO.out) HV.out.2.2 HBq.out.2.2 (by have := HL.out; omega) (by have := HBq.out; omega)).mono ?_
    rintro e W4 ⟨v4, rfl, hd4, hb4⟩
    have HB4 : Hid (Below w.heap.size w W4) := keepb hb4 HXq.out
    have HO4 := hid13 (own_b13 hb4 HO.out)
    have HD4 := hid13 (dfo_ptr hd4)
    clear hd4 hb4 HO HXq
    obtain ⟨d4o, d4c, hv4⟩ : ∃ o c, v4 = .slice o (dfL a b).length c := by obtain ⟨o, c, h, -⟩ := HD4.out; exact ⟨o, c, h⟩
    subst hv4
    go_wp2_with fail
    refine (diff21 _ _ b a W4 (own_rwx HO4.out) (HV.out.2.1.below HB4.out) (own_rowA HO4.out) (HV.out.1.below HB4.out) HBq.out.2.2 HV.out.2.2 (by have := HBq.out; omega) (by have := HL.out; omega)).mono ?_
    rintro e W5 ⟨v5, rfl, hd5, hb5⟩
    have HB5 : Hid (Below w.heap.size w W5) := keepb hb5 HB4.out
    have HD5 := hid13 (And.intro (HD4.out.below hb5) (dfo_ptr hd5))
    clear hd5 hb5 HO4 HB4 HD4
    obtain ⟨d5o, d5c, hv5⟩ : ∃ o c, v5 = .slice o (dfL b a).length c := by obtain ⟨o, c, h, -⟩ := HD5.out.2; exact ⟨o, c, h⟩
    subst hv5
    have hw1 : Hid (wt21 (dfL a b) = 0) := by
      show _ = _
      unfold wt21
      rw [df_bring]
      have := HC.out.1
      split <;> omega
    have hw2 : Hid (wt21 (dfL b a) ≤ j - i) := by
      show _ ≤ _
      unfold wt21
      rw [df_bring, ← dfK_comm, ← dfT_comm]
      have := HC.out.1
      have := HC.out.2.2
      have := HL.out
      split <;> omega
    have hn1 := hid13 (dfL_len a b)
    have hn2 := hid13 (dfL_len b a)
    go_wp2_with fail
    refine (weight21 _ (dfL a b) W5 HD5.out.1 (by rw [hn1.out]; split <;> decide) (by rw [hw1.out]; decide)).mono ?_
    rintro e W6 ⟨rfl, hb6⟩
    have HB6 : Hid (Below w.heap.size w W6) := keepb hb6 HB5.out
    have HD6 := hid13 (HD5.out.2.below hb6)
    clear hb6 HB5 HD5
    rw [hw1.out]
    go_wp2_with fail
    refine (weight21 _ (dfL b a) W6 HD6.out (by rw [hn2.out]; split <;> decide) (by have := hw2.out; have := HL.out; omega)).mono ?_
    rintro e W7 ⟨rfl, hb7⟩
    have HB7 : Hid (Below w.heap.size w W7) := keepb hb7 HB6.out
    clear hb7 HB6 HD6
    have hle : ((wt21 (dfL b a) : Nat) : Int) ≤ (j : Int) - (i : Int) := by have := HL.out; have := hw2.out; omega
    clear hw2
    generalize wt21 (dfL b a) = wb at *
    by_cases hab : a = b
    · have hij : (i : Int) = (j : Int) := by have := HC.out.2.1.1 hab; omega
      have hn1' := hn1.out
      have hn2' := hn2.out
      rw [if_pos hab] at hn1'
      rw [if_pos hab.symm] at hn2'
      rw [hn1', hn2']
      clear hn1' hn2'
      have e1 : ((i : Int) == (j : Int)) = true := by simpa using hij
      clear hab hn1 hn2 hw1 HC HBq HV hij
      go_wp2
      go_ret
      exact ⟨rfl, HB7.out⟩
    · have hij : ¬ (i : Int) = (j : Int) := fun e => hab (HC.out.2.1.2 (by omega))
      have hn1' := hn1.out
      have hn2' := hn2.out
      rw [if_neg hab] at hn1'
      rw [if_neg (fun e => hab e.symm)] at hn2'
      rw [hn1', hn2']
      clear hn1' hn2'
      have e1 : ((i : Int) == (j : Int)) = false := by simpa using hij
      clear hab hn1 hn2 hw1 HC HBq HV hij
      go_wp2
      go_ret
      exact ⟨rfl, HB7.out⟩
end Go.Proofs.Ytiachojhnbicaaa
namespace Go.Proofs.Ytiachojhnbicaaa
open Go.ChangeShapes Go.WideShapes Go.ChangeAt Go.RowKit Go.Joins
set_option linter.unusedSimpArgs false
set_option linter.unusedVariables false

theorem Try.laidOut : laidOutB Try.prog = true := by kernel_rfl
section
variable {H : Type} {enc : TypeId × Value → H} {w : World} {spare : Nat → Bool} {held : Bool}
theorem RwX.map13 {α β : Type} {f : α → Value} {g : β → Value} (h : α → β) {v : Value} {l : List α} (hr : RwX f w v l) (he : ∀ x ∈ l, f x = g (h x)) : RwX g w v (l.map h) := by
  obtain ⟨ao, c, e, hc, hr⟩ := hr
  refine ⟨ao, c, by rw [List.length_map]; exact e, by rw [List.length_map]; exact hc, ?_⟩
  rcases hr with hr | ⟨b, off, e, hr⟩
  · exact .inl (by rw [hr]; rfl)
  · refine .inr ⟨b, off, e, fun j x hj => ?_⟩
    rw [List.getElem?_map] at hj
    cases hx : l[j]? with
    | none => rw [hx] at hj; cases hj
    | some y =>
      rw [hx] at hj
      simp only [Option.map_some, Option.some.injEq] at hj
      rw [hr j y hx, he y (List.mem_of_getElem? hx), hj]
set_option maxRecDepth 100000 in
theorem open_ints13 {t e : TypeId} {k : IntKind} (ht : Try.prog.underlying t = some (.slice e)) (he : Try.prog.underlying e = some (.int k)) (hce : Try.prog.cellsOf e = 1) {r : Reach} {b0 : Nat} {v : Value} {d : DataW H} {p : List MemPlace} (hv : Value.okWide Try.prog w r b0 t v) (h : DataW.Trod enc Try.prog w 0 (fun _ => true) held t v d p) :
    ∃ l : List Int, RowA w 1 v l.length (l.map fun a => .int k a) ∧ RwX (fun a => Value.int k a) w v l ∧ (∀ a ∈ l, (Lit.int k a).wf = true) ∧ (l = [] ∨ ∃ el sp, d = .slice el sp ∧ el.length = l.length) := by
  obtain ⟨a0, len, cap, rfl⟩ := okWide_slice ht hv
  obtain ⟨fuel, hf⟩ := h
  rcases Deep.open_slice ht hf with ⟨hcs, hx⟩ | ⟨a, len', cap', m, n, D, Pl, hcs, _, hl, hm, hmm, hx, hel⟩
  · simp [Value.cells] at hcs
    obtain ⟨rfl, rfl, rfl⟩ := hcs
    exact ⟨[], ⟨rfl, none, 0, rfl, Nat.le_refl _, .inl ⟨rfl, rfl, rfl⟩⟩, ⟨none, 0, rfl, Nat.le_refl _, .inl rfl⟩, (fun _ h => by cases h), .inl rfl⟩
  · simp [Value.cells] at hcs
    obtain ⟨rfl, rfl, rfl⟩ := hcs
    simp at hmm
    subst hmm
    rw [hce] at hel
    obtain ⟨f, hf⟩ := Deep.choose_lt (α := Int) (n := len) (p := fun i x => w.cell? (a.add i) = some (.int k x) ∧ (Lit.int k x).wf = true) (fun i hi => by
      obtain ⟨cs', h1, h2⟩ := hel i (by omega)
      obtain ⟨_, hlen, hc⟩ := World.cells?_some h1
      match cs', hlen with
      | [c0], _ =>
        obtain ⟨x, ex, -, wx⟩ := DataW.trod_int he h2
        simp at ex
        subst ex
        refine ⟨x, ?_, wx⟩
        have := hc 0 (by omega)
        simpa [Addr.add] using this)
    have hlen : ((List.range len).map f).length = len := by simp
    have hcells : ∀ j x, ((List.range len).map f)[j]? = some x → w.cell? (a.add j) = some (.int k x) := by
      intro j x hj
      have hlt : j < len := by have := (List.getElem?_eq_some_iff.1 hj).1; simpa using this
      rw [List.getElem?_map, List.getElem?_range hlt] at hj
      simp only [Option.map_some, Option.some.injEq] at hj
      rw [← hj]; exact (hf j hlt).1
    refine ⟨(List.range len).map f, ⟨by simp, some a, m, by rw [hlen], by rw [hlen]; exact hl, .inr ⟨a, rfl, fun j u hj => ?_⟩⟩, ⟨some a, m, by rw [hlen], by rw [hlen]; exact hl, ?_⟩, ?_, ?_⟩
    · rw [List.getElem?_map] at hj
      cases hx : ((List.range len).map f)[j]? with
      | none => rw [hx] at hj; cases hj
      | some y =>
        rw [hx] at hj
        simp only [Option.map_some, Option.some.injEq] at hj
        rw [← hj]; exact hcells j y hx
    · by_cases hz : len = 0
      · subst hz
        exact .inl (by simp)
      · have h00 := (hf 0 (by omega)).1
        have ea : a = ⟨a.block, a.off, none⟩ := by
          have : a.add 0 = a := by simp [Addr.add]
          rw [this] at h00
          exact spot9 h00
        refine .inr ⟨a.block, a.off, by rw [← ea], fun j u hj => ?_⟩
        have := hcells j u hj
        rw [ea, addA] at this
        exact this
    · intro x hx
      simp only [List.mem_map, List.mem_range] at hx
      obtain ⟨i, hi, rfl⟩ := hx
      exact (hf i hi).2
    · simp only [Prod.mk.injEq] at hx
      exact .inr ⟨_, _, hx.1, by simp⟩
end
end Go.Proofs.Ytiachojhnbicaaa
namespace Go.Proofs.Ytiachojhnbicaaa
open Go.ChangeShapes Go.WideShapes Go.ChangeAt Go.RowKit Go.Joins
set_option linter.unusedSimpArgs false
set_option linter.unusedVariables false

section
variable {H : Type} {enc : TypeId × Value → H} {w : World} {spare : Nat → Bool} {held : Bool}
theorem i64_bd14 {a : Int} (h : (Lit.int .i64 a).wf = true) : -9223372036854775808 ≤ a ∧ a ≤ 9223372036854775807 := by
  simp [Lit.wf, IntKind.min, IntKind.max, IntKind.signed, IntKind.bits] at h; omega
end
end Go.Proofs.Ytiachojhnbicaaa
