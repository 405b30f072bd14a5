/-
  Part 10 of the proof: 5 texts, one behind the other.
-/
import Derived.Test.YtbgoclfifhdonaaPart9
import Derived.Test.YtbgoclfifhdonaaPart4
import Derived.Test.YtbgoclfifhdonaaPart1
import Derived.Deep.Slices
import Derived.Carry
import Derived.SizedLaws
import Derived.ProofKit
import Derived.Lib.SmallJoins
import Derived.Test.YtbgoclfifhdonaaPart3
import Derived.Deep.Strs
namespace Go.Proofs.Ytbgoclfifhdonaa
open Go.RowKit
set_option linter.unusedSimpArgs false
set_option linter.unusedVariables false

structure RB9 (Wb : World) (l k : List Nat) (m2 : Mc) (f1 f3 f5 f7 f8 f9 : Bool) (g : (Nat × Value) × (Value × Nat)) (X : World) : Prop where
  b : Below Wb.heap.size Wb X
  d1 : f1 = true → f3 = false → X.ownsRow Wb.heap.size 5 1 (.slice (some ⟨g.1.1, 0, none⟩) 0 0) 0 []
  d3 : f3 = true → f5 = false → X.ownsRow Wb.heap.size 5 1 g.1.2 l.length (l.map cB)
  d5 : f5 = true → X.ownsRow Wb.heap.size 5 1 g.2.1 (l.length + k.length) ((l ++ k).map cB)
  l8 : f8 = true → f9 = false → X.heap[g.2.2]? = some (.cells #[.int .i64 0, .int .i64 0, .int .i64 0, .int .i64 0, .int .i64 0, .int .i64 0] 29) ∧ Wb.heap.size ≤ g.2.2
  s9 : f9 = true → X.heap[g.2.2]? = some (.cells (rsC m2) 29) ∧ Wb.heap.size ≤ g.2.2
  p1 : f9 = true → f8 = true ∧ f7 = true
  p2 : f7 = true → f5 = true
  p3 : f5 = true → f3 = true
  p4 : f3 = true → f1 = true
set_option maxRecDepth 20000 in
set_option maxHeartbeats 16000000 in
theorem vmBehind_any (F : Int) (v : Value) (l : List Nat) (x : BitVec 128) (u : Value) (k : List Nat) (w : World) (hF0 : -9223372036854775808 ≤ F) (hF1 : F ≤ 9223372036854775807) (hA : RowA w 1 v l.length (l.map cB)) (hR : RwX cB w v l) (hx : ∀ b ∈ l, b < 256) (hB : RowA w 1 u k.length (k.map cB)) (hS : RwX cB w u k) (hy : ∀ b ∈ k, b < 256) :
    Calls Try.prog 6 #[.int .i64 F, v, .agg #[.int .u64 (hI x), .int .u64 (lI x)], u] w fun e w' => e = .returned (.bool true) ∧ Below w.heap.size w w' := by
  obtain ⟨i0, ji, jz0, jz1, jz2⟩ := info13 Try.infoB13
  obtain ⟨ao, cc, rfl, -⟩ := id hR
  obtain ⟨bo, bc, rfl, -⟩ := id hS
  have hsz : (w.alloc (.cells #[.int .u64 (hI x), .int .u64 (lI x)] 25)).heap[w.heap.size]? = some (.cells #[.int .u64 (hI x), .int .u64 (lI x)] 25) := new_16 _ _
  have q1 := bl1 w (.cells #[.int .u64 (hI x), .int .u64 (lI x)] 25)
  obtain ⟨V, hV⟩ : ∃ V, V = w.alloc (.cells #[.int .u64 (hI x), .int .u64 (lI x)] 25) := ⟨_, rfl⟩
  rw [← hV] at hsz q1
  have HQ := hid13 q1
  have HW := hid13 hsz
  have K0 := known19 V
  have HA := hid13 (And.intro hA (And.intro hR hx))
  have HK := hid13 (And.intro hB (And.intro hS hy))
  clear q1 hsz hA hR hx hB hS hy
  by_cases hl : l.length ≤ 32768
  · by_cases hk : k.length ≤ 32768
    · have n1 : ¬ ((l.length : Int) > 32768) := by omega
      have n2 : ¬ ((k.length : Int) > 32768) := by omega
      have n1' : ¬ (32768 < (l.length : Int)) := by omega
      have n2' : ¬ (32768 < (k.length : Int)) := by omega
      have KR := fun W (hW : RwX cB W (.slice ao l.length cc) l) => run19 F _ x 1048576 l W hW (by omega) HA.out.2.2 (by decide)
      have HR2 : Hid (∀ W v, RwX cB W v (l ++ k) → Calls Try.prog 10 #[.int .i64 F, v, .agg #[.int .u64 (hI x), .int .u64 (lI x)], .int .i64 1048576] W fun r w' => r = .returned (rsV (ruM F x (l ++ k) (rightE F x) 1048576)) ∧ Below W.heap.size W w') := hid13 (fun W v hW => run19 F v x 1048576 (l ++ k) W hW (by rw [List.length_append]; omega) (fun b hb => by rcases List.mem_append.1 hb with h | h; exact HA.out.2.2 b h; exact HK.out.2.2 b h) (by decide))
      have HP : Hid ((ruM F x l (rightE F x) 1048576).err = 0 → ruM F x (l ++ k) (rightE F x) 1048576 = ruM F x l (rightE F x) 1048576) := hid13 (fun q => ru_behind k q)
      rw [show (1048576 : Int).toNat = 1048576 from rfl] at KR
      unfold rsV at KR HR2
      generalize hm1 : ruM F x l (rightE F x) 1048576 = m1 at KR HP
      generalize hm2 : ruM F x (l ++ k) (rightE F x) 1048576 = m2 at HR2 HP
      have HL : Hid (l.length ≤ 32768 ∧ k.length ≤ 32768) := ⟨hl, hk⟩
      clear hl hk hm1 hm2
      go_enter Try.func6, Try.ntmps6
      go_wp2_with fail
      rw [← hV]
      clear hV
      refine K0.mono ?_
      rintro e W1 ⟨rfl, hb1⟩
      have HB1 := hid13 hb1
      have hw1 := (hb1.block _ (lt_16 HW.out)).trans HW.out
      have a0 := at_16 hw1 0 _ rfl
      have a1 := at_16 hw1 1 _ rfl
      have K1 := KR W1 ((HA.out.2.1.below HQ.out).below hb1)
      clear K0 KR hb1 hw1
      go_wp2_with fail
      refine K1.mono ?_
      rintro e W2 ⟨rfl, hb2⟩
      obtain ⟨Wb, hWb⟩ : ∃ Wb, Wb = W2.alloc (.cells #[.int .i64 m1.hop, .int .i64 m1.err, .int .i64 m1.st, .int .i64 m1.ex, .int .i64 m1.ix, .int .i64 m1.bt] 29) := ⟨_, rfl⟩
      have q3 := bl1 W2 (.cells #[.int .i64 m1.hop, .int .i64 m1.err, .int .i64 m1.st, .int .i64 m1.ex, .int .i64 m1.ix, .int .i64 m1.bt] 29)
      rw [← hWb] at q3
      have HBb : Hid (Below V.heap.size V Wb) := (HB1.out.trans (hb2.mono HB1.out.size)).trans (q3.mono (Nat.le_trans HB1.out.size hb2.size))
      have HQb : Hid (Below w.heap.size w Wb) := HQ.out.trans (HBb.out.mono HQ.out.size)
      have HR1 : Hid (Wb.heap[W2.heap.size]? = some (.cells #[.int .i64 m1.hop, .int .i64 m1.err, .int .i64 m1.st, .int .i64 m1.ex, .int .i64 m1.ix, .int .i64 m1.bt] 29)) := by rw [hWb]; exact new_16 _ _
      have HWw : Hid (Wb.heap[w.heap.size]? = some (.cells #[.int .u64 (hI x), .int .u64 (lI x)] 25)) := (HBb.out.block _ (lt_16 HW.out)).trans HW.out
      have HAb : Hid (RowA Wb 1 (.slice ao l.length cc) l.length (l.map cB) ∧ RowA Wb 1 (.slice bo k.length bc) k.length (k.map cB)) := ⟨HA.out.1.below HQb.out, HK.out.1.below HQb.out⟩
      have HR0 : Hid (RB9 Wb l k m2 false false false false false false ((0, undef), (undef, 0)) Wb.drew) := ⟨(Below.refl _ _).drew, fun q => (by cases q), fun q => (by cases q), fun q => (by cases q), fun q => (by cases q), fun q => (by cases q), fun q => (by cases q), fun q => (by cases q), fun q => (by cases q), fun q => (by cases q)⟩
      clear K1 hb2 q3 HB1 HQ HBb HW HA HK a0 a1
      go_wp2_with fail
      rw [← hWb]
      clear hWb
      refine gh_region (γ := (Nat × Value) × (Value × Nat)) (qpOk 10 10 (by decide) (fun N => by kernel_rfl) (by kernel_rfl) (by kernel_rfl) (by kernel_rfl) (by kernel_rfl)) (by kernel_rfl) (by kernel_rfl) [some 25, some 26, some 27, some 28, some 29, some 30, some 31, some 32, some 10, none] (fun g => [.int .i64 F, .slice (some ⟨g.1.1, 0, none⟩) 0 0, .slice ao l.length cc, g.1.2, .slice bo k.length bc, g.2.1, .agg #[.int .u64 (hI x), .int .u64 (lI x)], .agg #[.int .i64 m2.hop, .int .i64 m2.err, .int .i64 m2.st, .int .i64 m2.ex, .int .i64 m2.ix, .int .i64 m2.bt], .pointer (some ⟨g.2.2, 0, none⟩), undef]) (by kernel_rfl) (by simp) (fun lp g X => RB9 Wb l k m2 (lp.getD 1 false) (lp.getD 3 false) (lp.getD 5 false) (lp.getD 7 false) (lp.getD 8 false) (lp.getD 9 false) g X) ((0, undef), (undef, 0)) HR0.out ?step6 ?fin6
      case step6 =>
        intro q o lp g w' a' ho hsz hun hdep hR hS K Q' hK
        have hfl : ∀ j, j ≠ q → (lp.setIfInBounds q true).getD j false = lp.getD j false := fun j hj => by rw [Array.getD_eq_getD_getElem?, Array.getD_eq_getD_getElem?, Array.getElem?_setIfInBounds_ne (by omega)]
        have hq : q < 10 := (List.getElem?_eq_some_iff.mp ho).1
        match q, ho, hun, hdep, hK, hfl, hq with
        | 0, ho, hun, hdep, hK, hfl, _ =>
          obtain rfl := Option.some.inj ho
          have o0 : a'.tmps[0]? = some (.int .i64 F) := (hS.old14 0 (by simp)).trans rfl
          have hK' := hK g w' (fun _ _ _ _ _ _ => rfl) (by rw [hfl 1 (by decide), hfl 3 (by decide), hfl 5 (by decide), hfl 7 (by decide), hfl 8 (by decide), hfl 9 (by decide)]; exact hR) (.int .i64 F) (by simp only [valO, Option.bind_some]; (try simp only [putAll, Act.put, List.setIfInBounds_toArray, List.set_cons_zero, List.set_cons_succ]); (try rfl))
          clear hS hdep hR
          refine gh_quiet14 (v := .int .i64 F) ?_ ?_
          · (simp only [execOp, Act.eval, o0]; go_simp; first | done | (simp; done) | (simp [*]; done) | omega | (rw [IntKind.wrap_i64]; omega))
          · exact hK'
        | 1, ho, hun, hdep, hK, hfl, _ =>
          obtain rfl := Option.some.inj ho
          have n3 : lp.getD 3 false = false := by
            cases h : lp.getD 3 false with
            | false => rfl
            | true => have := hR.p4 h; rw [hun] at this; cases this
          have n5 : lp.getD 5 false = false := by
            cases h : lp.getD 5 false with
            | false => rfl
            | true => have := hR.p4 (hR.p3 h); rw [hun] at this; cases this
          have q := bl1 w' (.cells #[] 5)
          have hO : (w'.alloc (.cells #[] 5)).ownsRow w'.heap.size 5 1 (.slice (some ⟨w'.heap.size, 0, none⟩) 0 0) 0 [] := World.ownsRow_made w' #[] 0 (Nat.le_refl _) (by unfold maxLen; omega) (by simp)
          have hK' := hK ((w'.heap.size, g.1.2), g.2) (w'.alloc (.cells #[] 5)) (fun k' ok s hk hl hd => gh_same14 (d := 26) (s := s) (by simp only [putAll, Act.put, List.setIfInBounds_toArray, List.set_cons_zero, List.set_cons_succ]; rfl) (by rintro rfl; have := dstG_of (by kernel_rfl) k' 1 ok _ 26 hk rfl hd rfl; subst this; rw [hun] at hl; cases hl)) (by rw [hfl 3 (by decide), hfl 5 (by decide), hfl 7 (by decide), hfl 8 (by decide), hfl 9 (by decide), getD_set_same (by rw [hsz]; decide)]; exact ⟨keepb q hR.b, fun _ _ => own_base16 hO hR.b.size, fun h1 => (by rw [n3] at h1; cases h1), fun h1 => (by rw [n5] at h1; cases h1), fun h1 h2 => ⟨(q.block _ (lt_16 (hR.l8 h1 h2).1)).trans (hR.l8 h1 h2).1, (hR.l8 h1 h2).2⟩, fun h1 => ⟨(q.block _ (lt_16 (hR.s9 h1).1)).trans (hR.s9 h1).1, (hR.s9 h1).2⟩, hR.p1, hR.p2, hR.p3, fun _ => rfl⟩) (.slice (some ⟨w'.heap.size, 0, none⟩) 0 0) (by simp only [valO, Option.bind_some]; simp only [putAll, Act.put, List.setIfInBounds_toArray, List.set_cons_zero, List.set_cons_succ]; rfl)
          clear hS hdep hR hK q hO
          unfold Oper.wp
          simp only [execOp, Act.eval, Array.getD_eq_getD_getElem?]
          simp [go_sem, Oper.upon]
          exact hK'
        | 2, ho, hun, hdep, hK, hfl, _ =>
          obtain rfl := Option.some.inj ho
          have o1 : a'.tmps[1]? = some (.slice ao l.length cc) := (hS.old14 1 (by simp)).trans rfl
          have hK' := hK g w' (fun _ _ _ _ _ _ => rfl) (by rw [hfl 1 (by decide), hfl 3 (by decide), hfl 5 (by decide), hfl 7 (by decide), hfl 8 (by decide), hfl 9 (by decide)]; exact hR) (.slice ao l.length cc) (by simp only [valO, Option.bind_some]; (try simp only [putAll, Act.put, List.setIfInBounds_toArray, List.set_cons_zero, List.set_cons_succ]); (try rfl))
          clear hS hdep hR
          refine gh_quiet14 (v := .slice ao l.length cc) ?_ ?_
          · (simp only [execOp, Act.eval, o1]; go_simp; first | done | (simp; done) | (simp [*]; done) | omega | (rw [IntKind.wrap_i64]; omega))
          · exact hK'
        | 3, ho, hun, hdep, hK, hfl, _ =>
          obtain rfl := Option.some.inj ho
          have d1 : lp.getD 1 false = true := hdep { on := 1, ground := .data } (by simp) rfl
          have e26 : a'.tmps[26]? = some (.slice (some ⟨g.1.1, 0, none⟩) 0 0) := (hS.don 1 _ 26 rfl d1 rfl).trans (by simp only [putAll, Act.put, List.setIfInBounds_toArray, List.set_cons_zero, List.set_cons_succ]; rfl)
          have d2 : lp.getD 2 false = true := hdep { on := 2, ground := .data } (by simp) rfl
          have e27 : a'.tmps[27]? = some (.slice ao l.length cc) := (hS.don 2 _ 27 rfl d2 rfl).trans (by simp only [putAll, Act.put, List.setIfInBounds_toArray, List.set_cons_zero, List.set_cons_succ]; rfl)
          have n5 : lp.getD 5 false = false := by
            cases h : lp.getD 5 false with
            | false => rfl
            | true => have := hR.p3 h; rw [hun] at this; cases this
          have hO := hR.d1 d1 hun
          obtain ⟨zo, zc, hzv⟩ := own_form hO
          refine wp_append_rowA (.tmp 26) (.tmp 27) 22 rfl Wb.heap.size 5 i0 (.int .u8 0) 1 1 Try.underlying22 ji jz0 jz1 jz2 rfl (by decide) _ 0 [] (by simp [Act.eval, e26]) hO _ l.length (l.map cB) (by simp [Act.eval, e27]) (HAb.out.1.below hR.b) (cB_one _) (by have := HL.out; unfold maxLen; omega) (by have := HL.out; omega) hR.b.size ?_
          intro aoN cN wN hON hgN
          have hbN : Below Wb.heap.size Wb wN := hR.b.grown hgN hR.b.size (fun z hz => (hO.lt z hz).1)
          have hkN : ∀ {z : Nat} {cs : Array Value} {T : TypeId}, w'.heap[z]? = some (Obj.cells cs T) → 5 ≠ T → wN.heap[z]? = some (Obj.cells cs T) := fun hz hT => (hgN.block _ (lt_16 hz) (fun e => own_not18 hO hz hT e.symm)).trans hz
          exact hK ((g.1.1, .slice aoN (0 + l.length) cN), g.2) wN (fun k' ok s hk hl hd => gh_same14 (d := 28) (s := s) (by simp only [putAll, Act.put, List.setIfInBounds_toArray, List.set_cons_zero, List.set_cons_succ]; rfl) (by rintro rfl; have := dstG_of (by kernel_rfl) k' 3 ok _ 28 hk rfl hd rfl; subst this; rw [hun] at hl; cases hl)) (by rw [hfl 1 (by decide), hfl 5 (by decide), hfl 7 (by decide), hfl 8 (by decide), hfl 9 (by decide), getD_set_same (by rw [hsz]; decide)]; exact ⟨hbN, fun _ h => (by cases h), fun _ _ => (by rw [Nat.zero_add, List.nil_append] at hON; rw [Nat.zero_add]; exact hON), fun h1 => (by rw [n5] at h1; cases h1), fun h1 h2 => ⟨hkN (hR.l8 h1 h2).1 (by decide), (hR.l8 h1 h2).2⟩, fun h1 => ⟨hkN (hR.s9 h1).1 (by decide), (hR.s9 h1).2⟩, hR.p1, hR.p2, fun _ => rfl, fun _ => d1⟩) _ (by simp only [valO, Option.bind_some]; simp only [putAll, Act.put, List.setIfInBounds_toArray, List.set_cons_zero, List.set_cons_succ]; rfl)
        | 4, ho, hun, hdep, hK, hfl, _ =>
          obtain rfl := Option.some.inj ho
          have o3 : a'.tmps[3]? = some (.slice bo k.length bc) := (hS.old14 3 (by simp)).trans rfl
          have hK' := hK g w' (fun _ _ _ _ _ _ => rfl) (by rw [hfl 1 (by decide), hfl 3 (by decide), hfl 5 (by decide), hfl 7 (by decide), hfl 8 (by decide), hfl 9 (by decide)]; exact hR) (.slice bo k.length bc) (by simp only [valO, Option.bind_some]; (try simp only [putAll, Act.put, List.setIfInBounds_toArray, List.set_cons_zero, List.set_cons_succ]); (try rfl))
          clear hS hdep hR
          refine gh_quiet14 (v := .slice bo k.length bc) ?_ ?_
          · (simp only [execOp, Act.eval, o3]; go_simp; first | done | (simp; done) | (simp [*]; done) | omega | (rw [IntKind.wrap_i64]; omega))
          · exact hK'
        | 5, ho, hun, hdep, hK, hfl, _ =>
          obtain rfl := Option.some.inj ho
          have d3 : lp.getD 3 false = true := hdep { on := 3, ground := .data } (by simp) rfl
          have e28 : a'.tmps[28]? = some (g.1.2) := (hS.don 3 _ 28 rfl d3 rfl).trans (by simp only [putAll, Act.put, List.setIfInBounds_toArray, List.set_cons_zero, List.set_cons_succ]; rfl)
          have d4 : lp.getD 4 false = true := hdep { on := 4, ground := .data } (by simp) rfl
          have e29 : a'.tmps[29]? = some (.slice bo k.length bc) := (hS.don 4 _ 29 rfl d4 rfl).trans (by simp only [putAll, Act.put, List.setIfInBounds_toArray, List.set_cons_zero, List.set_cons_succ]; rfl)
          have n7 : lp.getD 7 false = false := by
            cases h : lp.getD 7 false with
            | false => rfl
            | true => have := hR.p2 h; rw [hun] at this; cases this
          have hO := hR.d3 d3 hun
          obtain ⟨zo, zc, hzv⟩ := own_form hO
          refine wp_append_rowA (.tmp 28) (.tmp 29) 22 rfl Wb.heap.size 5 i0 (.int .u8 0) 1 1 Try.underlying22 ji jz0 jz1 jz2 rfl (by decide) _ l.length (l.map cB) (by simp [Act.eval, e28]) hO _ k.length (k.map cB) (by simp [Act.eval, e29]) (HAb.out.2.below hR.b) (cB_one _) (by have := HL.out; unfold maxLen; omega) (by have := HL.out; omega) hR.b.size ?_
          intro aoN cN wN hON hgN
          have hbN : Below Wb.heap.size Wb wN := hR.b.grown hgN hR.b.size (fun z hz => (hO.lt z hz).1)
          have hkN : ∀ {z : Nat} {cs : Array Value} {T : TypeId}, w'.heap[z]? = some (Obj.cells cs T) → 5 ≠ T → wN.heap[z]? = some (Obj.cells cs T) := fun hz hT => (hgN.block _ (lt_16 hz) (fun e => own_not18 hO hz hT e.symm)).trans hz
          exact hK (g.1, (.slice aoN (l.length + k.length) cN, g.2.2)) wN (fun k' ok s hk hl hd => gh_same14 (d := 30) (s := s) (by simp only [putAll, Act.put, List.setIfInBounds_toArray, List.set_cons_zero, List.set_cons_succ]; rfl) (by rintro rfl; have := dstG_of (by kernel_rfl) k' 5 ok _ 30 hk rfl hd rfl; subst this; rw [hun] at hl; cases hl)) (by rw [hfl 1 (by decide), hfl 3 (by decide), hfl 7 (by decide), hfl 8 (by decide), hfl 9 (by decide), getD_set_same (by rw [hsz]; decide)]; exact ⟨hbN, fun h1 h2 => (by rw [d3] at h2; cases h2), fun _ h => (by cases h), fun _ => (by rw [List.map_append]; exact hON), fun h1 h2 => ⟨hkN (hR.l8 h1 h2).1 (by decide), (hR.l8 h1 h2).2⟩, fun h1 => ⟨hkN (hR.s9 h1).1 (by decide), (hR.s9 h1).2⟩, hR.p1, fun _ => rfl, fun _ => d3, hR.p4⟩) _ (by simp only [valO, Option.bind_some]; simp only [putAll, Act.put, List.setIfInBounds_toArray, List.set_cons_zero, List.set_cons_succ]; rfl)
        | 6, ho, hun, hdep, hK, hfl, _ =>
          obtain rfl := Option.some.inj ho
          have o6 : a'.tmps[6]? = some (.pointer (some ⟨w.heap.size, 0, none⟩)) := (hS.old14 6 (by simp)).trans rfl
          have hw := (hR.b.block _ (lt_16 HWw.out)).trans HWw.out
          have z0 := at_16 hw 0 _ rfl
          have z1 := at_16 hw 1 _ rfl
          have hK' := hK g w' (fun _ _ _ _ _ _ => rfl) (by rw [hfl 1 (by decide), hfl 3 (by decide), hfl 5 (by decide), hfl 7 (by decide), hfl 8 (by decide), hfl 9 (by decide)]; exact hR) (.agg #[.int .u64 (hI x), .int .u64 (lI x)]) (by simp only [valO, Option.bind_some]; (try simp only [putAll, Act.put, List.setIfInBounds_toArray, List.set_cons_zero, List.set_cons_succ]); (try rfl))
          clear hS hdep hR
          refine gh_quiet14 (v := .agg #[.int .u64 (hI x), .int .u64 (lI x)]) ?_ ?_
          · (simp only [execOp, Act.eval, o6]; go_simp; first | done | (simp; done) | (simp [*]; done) | omega | (rw [IntKind.wrap_i64]; omega))
          · exact hK'
        | 7, ho, hun, hdep, hK, hfl, _ =>
          obtain rfl := Option.some.inj ho
          have d0 : lp.getD 0 false = true := hdep { on := 0, ground := .data } (by simp) rfl
          have e25 : a'.tmps[25]? = some (.int .i64 F) := (hS.don 0 _ 25 rfl d0 rfl).trans (by simp only [putAll, Act.put, List.setIfInBounds_toArray, List.set_cons_zero, List.set_cons_succ]; rfl)
          have d5 : lp.getD 5 false = true := hdep { on := 5, ground := .data } (by simp) rfl
          have e30 : a'.tmps[30]? = some (g.2.1) := (hS.don 5 _ 30 rfl d5 rfl).trans (by simp only [putAll, Act.put, List.setIfInBounds_toArray, List.set_cons_zero, List.set_cons_succ]; rfl)
          have d6 : lp.getD 6 false = true := hdep { on := 6, ground := .data } (by simp) rfl
          have e31 : a'.tmps[31]? = some (.agg #[.int .u64 (hI x), .int .u64 (lI x)]) := (hS.don 6 _ 31 rfl d6 rfl).trans (by simp only [putAll, Act.put, List.setIfInBounds_toArray, List.set_cons_zero, List.set_cons_succ]; rfl)
          have KC := HR2.out w' g.2.1 (own_rwx (l := l ++ k) (by rw [List.length_append]; exact hR.d5 d5))
          clear hdep
          unfold Oper.wp
          simp only [execOp, Act.eval, Array.getD_eq_getD_getElem?]
          simp [go_sem, e25, e30, e31, Oper.upon]
          refine KC.mono ?_
          rintro e W2 ⟨rfl, hb⟩
          exact hK g W2 (fun _ _ _ _ _ _ => rfl) (by rw [hfl 1 (by decide), hfl 3 (by decide), hfl 5 (by decide), hfl 8 (by decide), hfl 9 (by decide), getD_set_same (by rw [hsz]; decide)]; exact ⟨hR.b.trans (hb.mono hR.b.size), fun h1 h2 => (by have := hR.p3 d5; rw [this] at h2; cases h2), fun h1 h2 => (by rw [d5] at h2; cases h2), fun h1 => own_b13 hb (hR.d5 h1), fun h1 h2 => ⟨(hb.block _ (lt_16 (hR.l8 h1 h2).1)).trans (hR.l8 h1 h2).1, (hR.l8 h1 h2).2⟩, fun h1 => ⟨(hb.block _ (lt_16 (hR.s9 h1).1)).trans (hR.s9 h1).1, (hR.s9 h1).2⟩, fun h1 => ⟨(hR.p1 h1).1, rfl⟩, fun _ => d5, hR.p3, hR.p4⟩) _ (by simp only [valO, Option.bind_some]; simp only [putAll, Act.put, List.setIfInBounds_toArray, List.set_cons_zero, List.set_cons_succ]; rfl)
        | 8, ho, hun, hdep, hK, hfl, _ =>
          obtain rfl := Option.some.inj ho
          have n9 : lp.getD 9 false = false := by
            cases h : lp.getD 9 false with
            | false => rfl
            | true => have := (hR.p1 h).1; rw [hun] at this; cases this
          have q := bl1 w' (.cells #[.int .i64 0, .int .i64 0, .int .i64 0, .int .i64 0, .int .i64 0, .int .i64 0] 29)
          have hK' := hK (g.1, (g.2.1, w'.heap.size)) (w'.alloc (.cells #[.int .i64 0, .int .i64 0, .int .i64 0, .int .i64 0, .int .i64 0, .int .i64 0] 29)) (fun k' ok s hk hl hd => gh_same14 (d := 10) (s := s) (by simp only [putAll, Act.put, List.setIfInBounds_toArray, List.set_cons_zero, List.set_cons_succ]; rfl) (by rintro rfl; have := dstG_of (by kernel_rfl) k' 8 ok _ 10 hk rfl hd rfl; subst this; rw [hun] at hl; cases hl)) (by rw [hfl 1 (by decide), hfl 3 (by decide), hfl 5 (by decide), hfl 7 (by decide), hfl 9 (by decide), getD_set_same (by rw [hsz]; decide)]; exact ⟨keepb q hR.b, fun h1 h2 => own_b13 q (hR.d1 h1 h2), fun h1 h2 => own_b13 q (hR.d3 h1 h2), fun h1 => own_b13 q (hR.d5 h1), fun _ _ => ⟨new_16 _ _, hR.b.size⟩, fun h1 => (by rw [n9] at h1; cases h1), fun h1 => ⟨rfl, (hR.p1 h1).2⟩, hR.p2, hR.p3, hR.p4⟩) (.pointer (some ⟨w'.heap.size, 0, none⟩)) (by simp only [valO, Option.bind_some]; simp only [putAll, Act.put, List.setIfInBounds_toArray, List.set_cons_zero, List.set_cons_succ]; rfl)
          clear hS hdep hR hK q
          unfold Oper.wp
          simp only [execOp, Act.eval, Array.getD_eq_getD_getElem?]
          simp [go_sem, Oper.upon]
          exact hK'
        | 9, ho, hun, hdep, hK, hfl, _ =>
          obtain rfl := Option.some.inj ho
          have d8 : lp.getD 8 false = true := hdep { on := 8, ground := .data } (by simp) rfl
          have e10 : a'.tmps[10]? = some (.pointer (some ⟨g.2.2, 0, none⟩)) := (hS.don 8 _ 10 rfl d8 rfl).trans (by simp only [putAll, Act.put, List.setIfInBounds_toArray, List.set_cons_zero, List.set_cons_succ]; rfl)
          have d7 : lp.getD 7 false = true := hdep { on := 7, ground := .data } (by simp) rfl
          have e32 : a'.tmps[32]? = some (.agg #[.int .i64 m2.hop, .int .i64 m2.err, .int .i64 m2.st, .int .i64 m2.ex, .int .i64 m2.ix, .int .i64 m2.bt]) := (hS.don 7 _ 32 rfl d7 rfl).trans (by simp only [putAll, Act.put, List.setIfInBounds_toArray, List.set_cons_zero, List.set_cons_succ]; rfl)
          obtain ⟨l1, l2⟩ := hR.l8 d8 hun
          have k0 := at_16 l1 0 _ rfl
          have k1 := at_16 l1 1 _ rfl
          have k2 := at_16 l1 2 _ rfl
          have k3 := at_16 l1 3 _ rfl
          have k4 := at_16 l1 4 _ rfl
          have k5 := at_16 l1 5 _ rfl
          have f0 := fr_16 (j := 0) l1
          have f1 := fr_16 (j := 1) l1
          have f2 := fr_16 (j := 2) l1
          have f3 := fr_16 (j := 3) l1
          have f4 := fr_16 (j := 4) l1
          have f5 := fr_16 (j := 5) l1
          obtain ⟨W9, hW9, e9, b9, o9⟩ := set6_19 w' g.2.2 l1 (.int .i64 m2.hop) (.int .i64 m2.err) (.int .i64 m2.st) (.int .i64 m2.ex) (.int .i64 m2.ix) (.int .i64 m2.bt)
          have hO5 := hR.d5 (hR.p2 d7)
          have hnb : g.2.1.ownBlock ≠ some g.2.2 := own_not18 hO5 l1 (by decide)
          have hK' := hK g W9 (fun _ _ _ _ _ _ => rfl) (by rw [hfl 1 (by decide), hfl 3 (by decide), hfl 5 (by decide), hfl 7 (by decide), hfl 8 (by decide), getD_set_same (by rw [hsz]; decide)]; exact ⟨hR.b.trans (b9.mono l2), fun h1 h2 => (by have := hR.p3 (hR.p2 d7); rw [this] at h2; cases h2), fun h1 h2 => (by have := hR.p2 d7; rw [this] at h2; cases h2), fun _ => own_keep18 hO5 (fun z hz => o9 z (fun q => hnb (by rw [← q]; exact hz))), fun _ h => (by cases h), fun _ => ⟨e9, l2⟩, fun _ => ⟨d8, d7⟩, hR.p2, hR.p3, hR.p4⟩) undef rfl
          rw [← hW9] at hK'
          clear hS hdep hR hK l1 hnb hO5 hW9 e9 b9 o9
          unfold Oper.wp
          simp only [execOp, Act.eval, Array.getD_eq_getD_getElem?]
          simp [go_sem, e10, e32, k0, k1, k2, k3, k4, k5, f0, f1, f2, f3, f4, f5, Oper.upon]
          exact hK'
        | n + 10, ho, hun, hdep, hK, hfl, hq => exact absurd hq (by omega)
      case fin6 =>
        intro g X hX
        have h9 := hX.s9 rfl
        have hr1 := (hX.b.block _ (lt_16 HR1.out)).trans HR1.out
        have HXq : Hid (Below w.heap.size w X) := HQb.out.trans (hX.b.mono HQb.out.size)
        simp only [putAll, Act.put, List.setIfInBounds_toArray, List.set_cons_zero, List.set_cons_succ]
        have a0 : X.cell? ⟨W2.heap.size, 0, none⟩ = some (.int .i64 m1.hop) := at_16 hr1 0 _ rfl
        have a1 : X.cell? ⟨W2.heap.size, 1, none⟩ = some (.int .i64 m1.err) := at_16 hr1 1 _ rfl
        have a2 : X.cell? ⟨W2.heap.size, 2, none⟩ = some (.int .i64 m1.st) := at_16 hr1 2 _ rfl
        have a3 : X.cell? ⟨W2.heap.size, 3, none⟩ = some (.int .i64 m1.ex) := at_16 hr1 3 _ rfl
        have a4 : X.cell? ⟨W2.heap.size, 4, none⟩ = some (.int .i64 m1.ix) := at_16 hr1 4 _ rfl
        have a5 : X.cell? ⟨W2.heap.size, 5, none⟩ = some (.int .i64 m1.bt) := at_16 hr1 5 _ rfl
        have b0 : X.cell? ⟨g.2.2, 0, none⟩ = some (.int .i64 m2.hop) := at_16 h9.1 0 _ rfl
        have b1 : X.cell? ⟨g.2.2, 1, none⟩ = some (.int .i64 m2.err) := at_16 h9.1 1 _ rfl
        have b2 : X.cell? ⟨g.2.2, 2, none⟩ = some (.int .i64 m2.st) := at_16 h9.1 2 _ rfl
        have b3 : X.cell? ⟨g.2.2, 3, none⟩ = some (.int .i64 m2.ex) := at_16 h9.1 3 _ rfl
        have b4 : X.cell? ⟨g.2.2, 4, none⟩ = some (.int .i64 m2.ix) := at_16 h9.1 4 _ rfl
        have b5 : X.cell? ⟨g.2.2, 5, none⟩ = some (.int .i64 m2.bt) := at_16 h9.1 5 _ rfl
        clear hX h9 hr1 HR0 HR1 HWw HAb HR2 HQb
        by_cases he : m1.err = 0
        · have hm := HP.out he
          have hq := eqR_run m1.hop m1.err m1.st m1.ex m1.ix m1.bt m2.hop m2.err m2.st m2.ex m2.ix m2.bt
          rw [he] at a1 hq
          subst hm
          rw [he] at b1 hq
          simp only [beq_self_eq_true, Bool.and_true, Bool.and_self] at hq
          clear HP
          go_wp2
          go_ret
          exact ⟨rfl, HXq.out⟩
        · have hne : (m1.err != 0) = true := by simpa using he
          have hne2 : (m1.err == 0) = false := by simpa using he
          clear HP
          go_wp2
          go_ret
          exact ⟨rfl, HXq.out⟩
    · have n1 : ¬ ((l.length : Int) > 32768) := by omega
      have n1' : ¬ (32768 < (l.length : Int)) := by omega
      have n2 : ((k.length : Int) > 32768) := by omega
      have n2' : (32768 < (k.length : Int)) := by omega
      clear hl hk HA HK
      go_enter Try.func6, Try.ntmps6
      go_wp2_with fail
      rw [← hV]
      clear hV
      refine K0.mono ?_
      rintro e W1 ⟨rfl, hb1⟩
      have HB1 : Hid (Below w.heap.size w W1) := HQ.out.trans (hb1.mono HQ.out.size)
      clear K0 hb1 HQ HW
      go_wp2
      go_ret
      exact ⟨rfl, HB1.out⟩
  · have n1 : ((l.length : Int) > 32768) := by omega
    have n1' : (32768 < (l.length : Int)) := by omega
    clear hl HA HK
    go_enter Try.func6, Try.ntmps6
    go_wp2_with fail
    rw [← hV]
    clear hV
    refine K0.mono ?_
    rintro e W1 ⟨rfl, hb1⟩
    have HB1 : Hid (Below w.heap.size w W1) := HQ.out.trans (hb1.mono HQ.out.size)
    clear K0 hb1 HQ HW
    go_wp2
    go_ret
    exact ⟨rfl, HB1.out⟩
end Go.Proofs.Ytbgoclfifhdonaa
namespace Go.Proofs.Ytbgoclfifhdonaa
open Go.ChangeShapes Go.WideShapes Go.ChangeAt Go.RowKit Go.Joins
set_option linter.unusedSimpArgs false
set_option linter.unusedVariables false

theorem Try.laidOut : laidOutB Try.prog = true := by kernel_rfl
section
variable {H : Type} {enc : TypeId × Value → H} {w : World} {spare : Nat → Bool} {held : Bool}
theorem RwX.map13 {α β : Type} {f : α → Value} {g : β → Value} (h : α → β) {v : Value} {l : List α} (hr : RwX f w v l) (he : ∀ x ∈ l, f x = g (h x)) : RwX g w v (l.map h) := by
  obtain ⟨ao, c, e, hc, hr⟩ := hr
  refine ⟨ao, c, by rw [List.length_map]; exact e, by rw [List.length_map]; exact hc, ?_⟩
  rcases hr with hr | ⟨b, off, e, hr⟩
  · exact .inl (by rw [hr]; rfl)
  · refine .inr ⟨b, off, e, fun j x hj => ?_⟩
    rw [List.getElem?_map] at hj
    cases hx : l[j]? with
    | none => rw [hx] at hj; cases hj
    | some y =>
      rw [hx] at hj
      simp only [Option.map_some, Option.some.injEq] at hj
      rw [hr j y hx, he y (List.mem_of_getElem? hx), hj]
set_option maxRecDepth 100000 in
theorem open_ints13 {t e : TypeId} {k : IntKind} (ht : Try.prog.underlying t = some (.slice e)) (he : Try.prog.underlying e = some (.int k)) (hce : Try.prog.cellsOf e = 1) {r : Reach} {b0 : Nat} {v : Value} {d : DataW H} {p : List MemPlace} (hv : Value.okWide Try.prog w r b0 t v) (h : DataW.Trod enc Try.prog w 0 (fun _ => true) held t v d p) :
    ∃ l : List Int, RowA w 1 v l.length (l.map fun a => .int k a) ∧ RwX (fun a => Value.int k a) w v l ∧ (∀ a ∈ l, (Lit.int k a).wf = true) ∧ (l = [] ∨ ∃ el sp, d = .slice el sp ∧ el.length = l.length) := by
  obtain ⟨a0, len, cap, rfl⟩ := okWide_slice ht hv
  obtain ⟨fuel, hf⟩ := h
  rcases Deep.open_slice ht hf with ⟨hcs, hx⟩ | ⟨a, len', cap', m, n, D, Pl, hcs, _, hl, hm, hmm, hx, hel⟩
  · simp [Value.cells] at hcs
    obtain ⟨rfl, rfl, rfl⟩ := hcs
    exact ⟨[], ⟨rfl, none, 0, rfl, Nat.le_refl _, .inl ⟨rfl, rfl, rfl⟩⟩, ⟨none, 0, rfl, Nat.le_refl _, .inl rfl⟩, (fun _ h => by cases h), .inl rfl⟩
  · simp [Value.cells] at hcs
    obtain ⟨rfl, rfl, rfl⟩ := hcs
    simp at hmm
    subst hmm
    rw [hce] at hel
    obtain ⟨f, hf⟩ := Deep.choose_lt (α := Int) (n := len) (p := fun i x => w.cell? (a.add i) = some (.int k x) ∧ (Lit.int k x).wf = true) (fun i hi => by
      obtain ⟨cs', h1, h2⟩ := hel i (by omega)
      obtain ⟨_, hlen, hc⟩ := World.cells?_some h1
      match cs', hlen with
      | [c0], _ =>
        obtain ⟨x, ex, -, wx⟩ := DataW.trod_int he h2
        simp at ex
        subst ex
        refine ⟨x, ?_, wx⟩
        have := hc 0 (by omega)
        simpa [Addr.add] using this)
    have hlen : ((List.range len).map f).length = len := by simp
    have hcells : ∀ j x, ((List.range len).map f)[j]? = some x → w.cell? (a.add j) = some (.int k x) := by
      intro j x hj
      have hlt : j < len := by have := (List.getElem?_eq_some_iff.1 hj).1; simpa using this
      rw [List.getElem?_map, List.getElem?_range hlt] at hj
      simp only [Option.map_some, Option.some.injEq] at hj
      rw [← hj]; exact (hf j hlt).1
    refine ⟨(List.range len).map f, ⟨by simp, some a, m, by rw [hlen], by rw [hlen]; exact hl, .inr ⟨a, rfl, fun j u hj => ?_⟩⟩, ⟨some a, m, by rw [hlen], by rw [hlen]; exact hl, ?_⟩, ?_, ?_⟩
    · rw [List.getElem?_map] at hj
      cases hx : ((List.range len).map f)[j]? with
      | none => rw [hx] at hj; cases hj
      | some y =>
        rw [hx] at hj
        simp only [Option.map_some, Option.some.injEq] at hj
        rw [← hj]; exact hcells j y hx
    · by_cases hz : len = 0
      · subst hz
        exact .inl (by simp)
      · have h00 := (hf 0 (by omega)).1
        have ea : a = ⟨a.block, a.off, none⟩ := by
          have : a.add 0 = a := by simp [Addr.add]
          rw [this] at h00
          exact spot9 h00
        refine .inr ⟨a.block, a.off, by rw [← ea], fun j u hj => ?_⟩
        have := hcells j u hj
        rw [ea, addA] at this
        exact this
    · intro x hx
      simp only [List.mem_map, List.mem_range] at hx
      obtain ⟨i, hi, rfl⟩ := hx
      exact (hf i hi).2
    · simp only [Prod.mk.injEq] at hx
      exact .inr ⟨_, _, hx.1, by simp⟩
end
end Go.Proofs.Ytbgoclfifhdonaa
namespace Go.Proofs.Ytbgoclfifhdonaa
open Go.ChangeShapes Go.WideShapes Go.ChangeAt Go.RowKit Go.Joins
set_option linter.unusedSimpArgs false
set_option linter.unusedVariables false

section
variable {H : Type} {enc : TypeId × Value → H} {w : World} {spare : Nat → Bool} {held : Bool}
theorem i64_bd14 {a : Int} (h : (Lit.int .i64 a).wf = true) : -9223372036854775808 ≤ a ∧ a ≤ 9223372036854775807 := by
  simp [Lit.wf, IntKind.min, IntKind.max, IntKind.signed, IntKind.bits] at h; omega
end
end Go.Proofs.Ytbgoclfifhdonaa
namespace Go.Proofs.Ytbgoclfifhdonaa
open Go.ChangeShapes Go.WideShapes Go.ChangeAt Go.RowKit Go.Joins
set_option linter.unusedSimpArgs false
set_option linter.unusedVariables false

section
variable {P : Program} {H : Type} {enc : TypeId × Value → H} {w : World} {base : Nat} {spare : Nat → Bool} {held : Bool}
end
end Go.Proofs.Ytbgoclfifhdonaa
namespace Go.Proofs.Ytbgoclfifhdonaa
open Go.RowKit
theorem Try.cellsW : Try.prog.cellsOf 25 = 2 := by kernel_rfl
theorem u64_bd19 {a : Int} (h : (Lit.int .u64 a).wf = true) : 0 ≤ a ∧ a < 18446744073709551616 := by
  simp [Lit.wf, IntKind.min, IntKind.max, IntKind.signed, IntKind.bits] at h; omega
end Go.Proofs.Ytbgoclfifhdonaa
