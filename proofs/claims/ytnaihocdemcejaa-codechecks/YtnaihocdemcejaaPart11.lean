/-
  Part 11 of the proof: 3 texts, one behind the other.
-/
import Derived.Test.YtnaihocdemcejaaPart10
import Derived.Test.YtnaihocdemcejaaPart2
import Derived.Deep.Slices
import Derived.Carry
import Derived.SizedLaws
import Derived.ProofKit
import Derived.Lib.SmallJoins
import Derived.Test.YtnaihocdemcejaaPart5
import Derived.Deep.Strs
/-
  The law CodeChecks.
-/
namespace Go.Proofs.Ytnaihocdemcejaa
open Go.RowKit
set_option linter.unusedSimpArgs false
set_option linter.unusedVariables false

theorem cU_one14 (l : List (BitVec 32)) : ∀ y ∈ l.map cU, y.oneCell' = true := by
  intro y hy
  obtain ⟨x, -, rfl⟩ := List.mem_map.1 hy
  rfl
theorem wp_append_rowA {P : Program} {w : World} {o : Oper} {a : Act} {K : Act → World → Prop} {Q : Exit → Act → World → Prop} (s x : Operand) (t : TypeId)
    (ho : o.op = .call { callee := .builtin .append, args := #[s, x], argTypes := #[t, t] })
    (base : Nat) (e : TypeId) (i : TypeInfo) (z : Value) (size bytes : Nat) (ht : P.underlying t = some (.slice e)) (hi : P.info? e = some i) (hz : i.zero = some z)
    (hsize : i.size = size) (hby : i.bytes = bytes) (hzs : z.cells.size = size) (hsz : 0 < size)
    (v : Value) (n : Nat) (xs : List Value) (hs : a.eval s = v) (hown : w.ownsRow base e size v n xs)
    (vx : Value) (m : Nat) (news : List Value) (hx : a.eval x = vx) (hsrc : RowA w size vx m news) (h1 : ∀ y ∈ news, y.oneCell' = true)
    (h63 : n + m ≤ maxLen) (hbytes : (n + m) * bytes ≤ 140737488355328) (hbase : base ≤ w.heap.size)
    (h : ∀ ao cap w', w'.ownsRow base e size (.slice ao (n + m) cap) (n + m) (xs ++ news) → w.grownBy w' v.ownBlock → K (a.put o.dst (.slice ao (n + m) cap)) w') : o.wp P a w K Q := by
  obtain ⟨hl, xo, c, rfl, hcc, hsrc⟩ := hsrc
  rcases hsrc with ⟨rfl, rfl, rfl⟩ | ⟨ad, rfl, hc⟩
  · have : news = [] := List.eq_nil_of_length_eq_zero (by omega)
    subst this
    have hrun := run_append_owned_none (P := P) (w := w) base t o.type e i size ht hi v n xs hown
    obtain ⟨ao, cp, hv⟩ := own_form hown
    have hh := h ao cp w (by rw [List.append_nil, Nat.add_zero, ← hv]; exact hown) ⟨rfl, rfl, rfl, Nat.le_refl _, fun _ _ _ => rfl⟩
    rw [Nat.add_zero, ← hv] at hh
    unfold Oper.wp
    simp [execOp, ho, resolve, invoke, builtin, hs, hx, hrun, Result.andThen]
    exact hh
  · refine wp_append_own w s x t ho base e i z size bytes ht hi hz hsize hby hzs hsz v n xs hs hown ad m c news hx hl hc h1 h63 hbytes hbase ?_
    intro v' w' h2 h3 _
    obtain ⟨ao, cp, hv⟩ := own_form h2
    rw [hv]
    rw [hv] at h2
    exact h ao cp w' h2 h3
theorem gh_same4c {x y : Array Value} {d1 d2 s : Nat} (h : (x.toList.set d1 undef).set d2 undef = (y.toList.set d1 undef).set d2 undef) (h1 : s ≠ d1) (h2 : s ≠ d2) : x[s]? = y[s]? := by
  have e := congrArg (fun z => z[s]?) h
  simp only [List.getElem?_set_ne (Ne.symm h1), List.getElem?_set_ne (Ne.symm h2)] at e
  simpa using e
/-- A block of its own: an instruction's variable. -/
def BkI (W : World) (b : Nat) (o n : Int) (v : Value) : Prop := W.heap[b]? = some (.cells #[.int .i64 o, .int .i64 n, v] 24 (0, 0))
theorem BkI.at {W : World} {b : Nat} {o n : Int} {v : Value} (h : BkI W b o n v) : AtIF W b o n v := by
  refine ⟨⟨?_, ?_, ?_⟩, ?_, ?_, ?_⟩ <;> simp [World.cell?, World.frozen?, show W.heap[b]? = _ from h]
theorem BkI.below {W W' : World} {b : Nat} {o n : Int} {v : Value} (h : BkI W b o n v) (hb : Below W.heap.size W W') : BkI W' b o n v := (hb.block b (Array.getElem?_eq_some_iff.1 h).1).trans h
theorem bki_ne {W : World} {b : Nat} {o n : Int} {v vr : Value} {base m : Nat} {xs : List Value} (h : BkI W b o n v) (ho : W.ownsRow base 56 1 vr m xs) : vr.ownBlock ≠ some b := by
  intro e
  rcases ho.2 with ⟨rfl, -⟩ | ⟨g, cap, cur, rfl, h1, h2, -⟩
  · cases e
  · simp only [Value.ownBlock, Option.some.injEq] at e
    subst e
    rw [show W.heap[g]? = _ from h] at h2
    injection h2 with h2
    injection h2 with h2 h3
    exact absurd h3 (by decide)
theorem bsA_size (a : List Nat) : (bsA a).size = a.length := by
  show (a.map UInt8.ofNat).toArray.size = _
  simp
theorem bsA_nil : (bsA []).toList.isEmpty = true := by
  first | decide +kernel | kernel_rfl | (unfold bsA ByteArray.toList ByteArray.toList.loop; simp; done)
theorem bsA_app (a b : List Nat) : bsA a ++ bsA b = bsA (a ++ b) := by
  apply ByteArray.ext
  rw [ByteArray.data_append]
  unfold bsA
  simp
/-- The region 'x := Instr{Op, N, append(..)}'. -/
structure RC (E : World → Prop) (E4 : Nat → World → Prop) (E7 : Value → World → Prop) (E9 : Nat → World → Prop) (E10 : Value → Nat → World → Prop) (f4 f7 f8 f9 f10 : Bool) (g : (Nat × (Option Addr × Nat)) × Nat) (m : Nat) (V : World) : Prop where
  e : E V
  b : f4 = true → f7 = false → E4 g.1.1 V
  c : f7 = true → E7 (.slice g.1.2.1 m g.1.2.2) V
  a : f9 = true → f10 = false → E9 g.2 V
  s : f10 = true → E10 (.slice g.1.2.1 m g.1.2.2) g.2 V
  d7 : f7 = true → f4 = true
  d8 : f8 = true → f7 = true
  d10 : f10 = true → f9 = true ∧ f8 = true
set_option maxRecDepth 100000 in
set_option maxHeartbeats 16000000 in
theorem codeChecks_any (o n : Int) (vm : Value) (m : List (BitVec 32)) (v : Value) (l : List Nat) (w : World) (hm : RwX cU w vm m) (hRm : RowA w 1 vm m.length (m.map cU)) (ho : -9223372036854775808 ≤ o ∧ o ≤ 9223372036854775807) (hn : -9223372036854775808 ≤ n ∧ n ≤ 9223372036854775807) (hA : RowA w 1 v l.length (l.map cB)) (hv : RwX cB w v l) (hx : ∀ b ∈ l, b < 256) :
    Calls Try.prog 3 #[.agg #[.int .i64 o, .int .i64 n, vm], v] w fun e w' => e = .returned (.bool true) ∧ Below w.heap.size w w' := by
  obtain ⟨i0, hi, hz0, hz1, hz2⟩ := info13 Try.infoB13
  obtain ⟨j0, ji, jz0, jz1, jz2⟩ := info13 Try.infoU13
  obtain ⟨ao, c, hvm, -⟩ := id hm
  obtain ⟨vo, vc, hvv, -⟩ := id hv
  have q1 := bl1 w (.cells #[.int .i64 o, .int .i64 n, vm] 24)
  have HA1 := hid13 (ati_new w o n vm 24)
  have HB1 := hid13 q1
  have HM := hid13 hm
  have HRM := hid13 hRm
  have HV := hid13 hA
  have HVx := hid13 hv
  have HX := hid13 hx
  subst hvm hvv
  clear q1 hm hA hv hx hRm ho hn
  go_enter Try.func3, Try.ntmps3
  go_wp2_with fail
  refine (known14 _).mono ?_
  rintro e w2 ⟨rfl, hb2⟩
  have HB2 := hid13 (keepb hb2 HB1.out)
  have HA2 := hid13 (HA1.out.below hb2)
  obtain ⟨b0, b1, b2⟩ := HA2.out
  clear HA1 HB1 hb2
  by_cases h1 : (16384 : Int) < (m.length : Int)
  · go_wp2
    go_ret
    exact ⟨rfl, HB2.out⟩
  by_cases h2 : (16384 : Int) < (l.length : Int)
  · go_wp2
    go_ret
    exact ⟨rfl, HB2.out⟩
  have HL : Hid (m.length ≤ 16384 ∧ l.length ≤ 16384) := ⟨by omega, by omega⟩
  have m9 : IntKind.i64.wrap ((l.length : Int) + 9) = (l.length : Int) + 9 := by rw [IntKind.wrap_i64]; omega
  go_wp2_with (at_make; apply stopHere9)
  refine (show wpList _ _ _ _ _ _ from ?_)
  refine wpList_make_mid _ rfl _ _ 25 rfl w2.heap.size 5 i0 (.int .u8 0) Try.underlying25 hi hz0 hz1 rfl .i64 .i64 _ _ 0 (l.length + 9) rfl rfl rfl (by push_cast; rfl) (by omega) (by rw [hz2]; have := HL.out; omega) (by unfold maxLen; have := HL.out; omega) (Nat.le_refl _) ?_
  intro w3 hO3 hg3
  have hB3 : Below w2.heap.size w2 w3 := (Below.refl _ _).grown hg3 (Nat.le_refl _) (fun z hz => by cases hz)
  have HO3 := hid13 hO3
  have HB3 := hid13 hB3
  have HR3 := hid13 ((HV.out.below HB2.out).below hB3)
  clear hO3 hg3 hB3
  go_wp2_with (at_builtin; apply stopHere9)
  refine (show wpList _ _ _ _ _ _ from ?_)
  refine wpList_append_rowA rfl _ _ 25 rfl w2.heap.size 5 i0 (.int .u8 0) 1 1 Try.underlying25 hi hz0 hz1 hz2 rfl (by decide) _ 0 [] rfl HO3.out _ l.length (l.map cB) rfl HR3.out (cB_one l) (by have := HL.out; unfold maxLen; omega) (by have := HL.out; omega) HB3.out.size ?_
  intro ao4 c4 w4 hO4 hg4
  rw [Nat.zero_add, List.nil_append] at hO4
  rw [Nat.zero_add]
  have hB4 : Below w2.heap.size w2 w4 := HB3.out.grown hg4 HB3.out.size (fun z hz => (HO3.out.lt z hz).1)
  have HB4 := hid13 (keepb hB4 HB2.out)
  have HA4 := hid13 (HA2.out.below hB4)
  have HO4 := hid13 hO4
  have HM4 := hid13 (HRM.out.below HB4.out)
  clear hO4 hg4 hB4 HO3 HB3 HR3 b0 b1 b2 HA2 HB2 m9
  go_wp2_with fail
  refine gh_region (γ := (Nat × (Option Addr × Nat)) × Nat) (qpOk 11 11 (by decide) (fun N => by kernel_rfl) (by kernel_rfl) (by kernel_rfl) (by kernel_rfl) (by kernel_rfl)) (by kernel_rfl) (by kernel_rfl) [some 31, some 32, some 33, some 34, some 35, some 36, some 37, some 38, some 39, some 6, none] (fun g => [.pointer (some ⟨w.heap.size, 0, none⟩), .int .i64 o, .pointer (some ⟨w.heap.size, 1, none⟩), .int .i64 n, .slice (some ⟨g.1.1, 0, none⟩) 0 0, .pointer (some ⟨w.heap.size, 2, none⟩), .slice ao m.length c, .slice g.1.2.1 m.length g.1.2.2, .agg #[.int .i64 o, .int .i64 n, .slice g.1.2.1 m.length g.1.2.2], .pointer (some ⟨g.2, 0, none⟩), undef]) (by kernel_rfl) (by simp) (fun lp g X => RC (fun X => Below w4.heap.size w4 X) (fun g X => X.ownsRow w4.heap.size 56 1 (.slice (some ⟨g, 0, none⟩) 0 0) 0 []) (fun v X => X.ownsRow w4.heap.size 56 1 v m.length (m.map cU)) (fun g X => BkI X g 0 0 (.slice none 0 0) ∧ w4.heap.size ≤ g) (fun v g X => AtI X g o n v) (lp.getD 4 false) (lp.getD 7 false) (lp.getD 8 false) (lp.getD 9 false) (lp.getD 10 false) g m.length X) ((0, (none, 0)), 0) ⟨below_drewN (Below.refl _ _) 1, fun h => (by simp at h), fun h => (by simp at h), fun h => (by simp at h), fun h => (by simp at h), fun h => (by simp at h), fun h => (by simp at h), fun h => (by simp at h)⟩ ?step0 ?fin0
  case step0 =>
    intro q o lp g w' a' ho hsz hun hdep hR hS K Q' hK
    have hfl : ∀ j, j ≠ q → (lp.setIfInBounds q true).getD j false = lp.getD j false := fun j hj => by rw [Array.getD_eq_getD_getElem?, Array.getD_eq_getD_getElem?, Array.getElem?_setIfInBounds_ne (by omega)]
    have hq : q < 11 := (List.getElem?_eq_some_iff.mp ho).1
    match q, ho, hun, hdep, hK, hfl, hq with
    | 0, ho, hun, hdep, hK, hfl, _ =>
      obtain rfl := Option.some.inj ho
      have o2 : a'.tmps[2]? = some (.pointer (some ⟨w.heap.size, 0, none⟩)) := (hS.old14 2 (by simp)).trans rfl
      have hK' := hK g w' (fun _ _ _ _ _ _ => rfl) (by rw [hfl 4 (by decide), hfl 7 (by decide), hfl 8 (by decide), hfl 9 (by decide), hfl 10 (by decide)]; exact hR) (.pointer (some ⟨w.heap.size, 0, none⟩)) (by simp only [valO, Option.bind_some]; (try simp only [putAll, Act.put, List.setIfInBounds_toArray, List.set_cons_zero, List.set_cons_succ]); (try rfl))
      clear hS hdep hR
      refine gh_quiet14 (v := .pointer (some ⟨w.heap.size, 0, none⟩)) ?_ ?_
      · (simp only [execOp, Act.eval, o2]; go_simp; first | done | (simp; done) | (simp [*]; done) | omega | (rw [IntKind.wrap_i64]; omega))
      · exact hK'
    | 1, ho, hun, hdep, hK, hfl, _ =>
      obtain rfl := Option.some.inj ho
      have d0 : lp.getD 0 false = true := hdep { on := 0, ground := .data } (by simp) rfl
      have e31 : a'.tmps[31]? = some (.pointer (some ⟨w.heap.size, 0, none⟩)) := (hS.don 0 _ 31 rfl d0 rfl).trans (by simp only [putAll, Act.put, List.setIfInBounds_toArray, List.set_cons_zero, List.set_cons_succ]; rfl)
      obtain ⟨x0, x1, x2⟩ := HA4.out.below hR.e
      have hK' := hK g w' (fun _ _ _ _ _ _ => rfl) (by rw [hfl 4 (by decide), hfl 7 (by decide), hfl 8 (by decide), hfl 9 (by decide), hfl 10 (by decide)]; exact hR) (.int .i64 o) (by simp only [valO, Option.bind_some]; (try simp only [putAll, Act.put, List.setIfInBounds_toArray, List.set_cons_zero, List.set_cons_succ]); (try rfl))
      clear hS hdep hR
      refine gh_quiet14 (v := .int .i64 o) ?_ ?_
      · (simp only [execOp, Act.eval, e31]; go_simp; first | done | (simp; done) | (simp [*]; done) | omega | (rw [IntKind.wrap_i64]; omega))
      · exact hK'
    | 2, ho, hun, hdep, hK, hfl, _ =>
      obtain rfl := Option.some.inj ho
      have o2 : a'.tmps[2]? = some (.pointer (some ⟨w.heap.size, 0, none⟩)) := (hS.old14 2 (by simp)).trans rfl
      have hK' := hK g w' (fun _ _ _ _ _ _ => rfl) (by rw [hfl 4 (by decide), hfl 7 (by decide), hfl 8 (by decide), hfl 9 (by decide), hfl 10 (by decide)]; exact hR) (.pointer (some ⟨w.heap.size, 1, none⟩)) (by simp only [valO, Option.bind_some]; (try simp only [putAll, Act.put, List.setIfInBounds_toArray, List.set_cons_zero, List.set_cons_succ]); (try rfl))
      clear hS hdep hR
      refine gh_quiet14 (v := .pointer (some ⟨w.heap.size, 1, none⟩)) ?_ ?_
      · (simp only [execOp, Act.eval, o2]; go_simp; first | done | (simp; done) | (simp [*]; done) | omega | (rw [IntKind.wrap_i64]; omega))
      · exact hK'
    | 3, ho, hun, hdep, hK, hfl, _ =>
      obtain rfl := Option.some.inj ho
      have d2 : lp.getD 2 false = true := hdep { on := 2, ground := .data } (by simp) rfl
      have e33 : a'.tmps[33]? = some (.pointer (some ⟨w.heap.size, 1, none⟩)) := (hS.don 2 _ 33 rfl d2 rfl).trans (by simp only [putAll, Act.put, List.setIfInBounds_toArray, List.set_cons_zero, List.set_cons_succ]; rfl)
      obtain ⟨x0, x1, x2⟩ := HA4.out.below hR.e
      have hK' := hK g w' (fun _ _ _ _ _ _ => rfl) (by rw [hfl 4 (by decide), hfl 7 (by decide), hfl 8 (by decide), hfl 9 (by decide), hfl 10 (by decide)]; exact hR) (.int .i64 n) (by simp only [valO, Option.bind_some]; (try simp only [putAll, Act.put, List.setIfInBounds_toArray, List.set_cons_zero, List.set_cons_succ]); (try rfl))
      clear hS hdep hR
      refine gh_quiet14 (v := .int .i64 n) ?_ ?_
      · (simp only [execOp, Act.eval, e33]; go_simp; first | done | (simp; done) | (simp [*]; done) | omega | (rw [IntKind.wrap_i64]; omega))
      · exact hK'
    | 4, ho, hun, hdep, hK, hfl, _ =>
      obtain rfl := Option.some.inj ho
      have hf : lp.getD 7 false = false := by
        cases h : lp.getD 7 false
        · rfl
        · have := hR.d7 h; rw [hun] at this; cases this
      have qq := bl1 w' (.cells #[] 56)
      have hK' := hK ((w'.heap.size, g.1.2), g.2) (w'.alloc (.cells #[] 56)) (fun k ok s hk hl hd => gh_same14 (d := 35) (s := s) (by simp only [putAll, Act.put, List.setIfInBounds_toArray, List.set_cons_zero, List.set_cons_succ]; rfl) (by rintro rfl; have := dstG_of (by kernel_rfl) k 4 ok _ 35 hk rfl hd rfl; subst this; rw [hun] at hl; cases hl)) (by rw [hfl 7 (by decide), hfl 8 (by decide), hfl 9 (by decide), hfl 10 (by decide), getD_set_same (by rw [hsz]; decide)]; exact ⟨keepb qq hR.e, fun _ _ => World.ownsRow_made w' #[] 0 hR.e.size (by unfold maxLen; omega) (by simp), fun h => (by rw [hf] at h; cases h), fun h1 h2 => ⟨(hR.a h1 h2).1.below qq, (hR.a h1 h2).2⟩, fun h => (hR.s h).below qq, fun _ => rfl, hR.d8, hR.d10⟩) (.slice (some ⟨w'.heap.size, 0, none⟩) 0 0) (by simp only [valO, Option.bind_some]; simp only [putAll, Act.put, List.setIfInBounds_toArray, List.set_cons_zero, List.set_cons_succ]; rfl)
      clear hS hdep hR
      unfold Oper.wp
      simp [execOp, Act.eval, go_sem, Oper.upon]
      exact hK'
    | 5, ho, hun, hdep, hK, hfl, _ =>
      obtain rfl := Option.some.inj ho
      have o2 : a'.tmps[2]? = some (.pointer (some ⟨w.heap.size, 0, none⟩)) := (hS.old14 2 (by simp)).trans rfl
      have hK' := hK g w' (fun _ _ _ _ _ _ => rfl) (by rw [hfl 4 (by decide), hfl 7 (by decide), hfl 8 (by decide), hfl 9 (by decide), hfl 10 (by decide)]; exact hR) (.pointer (some ⟨w.heap.size, 2, none⟩)) (by simp only [valO, Option.bind_some]; (try simp only [putAll, Act.put, List.setIfInBounds_toArray, List.set_cons_zero, List.set_cons_succ]); (try rfl))
      clear hS hdep hR
      refine gh_quiet14 (v := .pointer (some ⟨w.heap.size, 2, none⟩)) ?_ ?_
      · (simp only [execOp, Act.eval, o2]; go_simp; first | done | (simp; done) | (simp [*]; done) | omega | (rw [IntKind.wrap_i64]; omega))
      · exact hK'
    | 6, ho, hun, hdep, hK, hfl, _ =>
      obtain rfl := Option.some.inj ho
      have d5 : lp.getD 5 false = true := hdep { on := 5, ground := .data } (by simp) rfl
      have e36 : a'.tmps[36]? = some (.pointer (some ⟨w.heap.size, 2, none⟩)) := (hS.don 5 _ 36 rfl d5 rfl).trans (by simp only [putAll, Act.put, List.setIfInBounds_toArray, List.set_cons_zero, List.set_cons_succ]; rfl)
      obtain ⟨x0, x1, x2⟩ := HA4.out.below hR.e
      have hK' := hK g w' (fun _ _ _ _ _ _ => rfl) (by rw [hfl 4 (by decide), hfl 7 (by decide), hfl 8 (by decide), hfl 9 (by decide), hfl 10 (by decide)]; exact hR) (.slice ao m.length c) (by simp only [valO, Option.bind_some]; (try simp only [putAll, Act.put, List.setIfInBounds_toArray, List.set_cons_zero, List.set_cons_succ]); (try rfl))
      clear hS hdep hR
      refine gh_quiet14 (v := .slice ao m.length c) ?_ ?_
      · (simp only [execOp, Act.eval, e36]; go_simp; first | done | (simp; done) | (simp [*]; done) | omega | (rw [IntKind.wrap_i64]; omega))
      · exact hK'
    | 7, ho, hun, hdep, hK, hfl, _ =>
      obtain rfl := Option.some.inj ho
      have d4 : lp.getD 4 false = true := hdep { on := 4, ground := .data } (by simp) rfl
      have e35 : a'.tmps[35]? = some (.slice (some ⟨g.1.1, 0, none⟩) 0 0) := (hS.don 4 _ 35 rfl d4 rfl).trans (by simp only [putAll, Act.put, List.setIfInBounds_toArray, List.set_cons_zero, List.set_cons_succ]; rfl)
      have d6 : lp.getD 6 false = true := hdep { on := 6, ground := .data } (by simp) rfl
      have e37 : a'.tmps[37]? = some (.slice ao m.length c) := (hS.don 6 _ 37 rfl d6 rfl).trans (by simp only [putAll, Act.put, List.setIfInBounds_toArray, List.set_cons_zero, List.set_cons_succ]; rfl)
      have n8 : lp.getD 8 false = false := by
        cases h : lp.getD 8 false
        · rfl
        · have := hR.d8 h; rw [hun] at this; cases this
      have n10 : lp.getD 10 false = false := by
        cases h : lp.getD 10 false
        · rfl
        · have := (hR.d10 h).2; rw [n8] at this; cases this
      have hO := hR.b d4 hun
      refine wp_append_rowA (.tmp 35) (.tmp 37) 22 rfl w4.heap.size 56 j0 (.int .u32 0) 1 4 Try.underlying22 ji jz0 jz1 jz2 rfl (by decide) _ 0 [] (by simp [Act.eval, e35]) hO _ m.length (m.map cU) (by simp [Act.eval, e37]) (HM4.out.below hR.e) (cU_one14 m) (by have := HL.out; unfold maxLen; omega) (by have := HL.out; omega) hR.e.size ?_
      intro aoN cN wN hON hgN
      rw [Nat.zero_add, List.nil_append] at hON
      rw [Nat.zero_add]
      have hbN : Below w4.heap.size w4 wN := hR.e.grown hgN hR.e.size (fun z hz => (hO.lt z hz).1)
      exact hK ((g.1.1, (aoN, cN)), g.2) wN (fun k ok s hk hl hd => gh_same4c (d1 := 38) (d2 := 39) (s := s) (by simp only [putAll, Act.put, List.setIfInBounds_toArray, List.set_cons_zero, List.set_cons_succ]) (by rintro rfl; have := dstG_of (by kernel_rfl) k 7 ok _ 38 hk rfl hd rfl; subst this; rw [hun] at hl; cases hl) (by rintro rfl; have := dstG_of (by kernel_rfl) k 8 ok _ 39 hk rfl hd rfl; subst this; rw [n8] at hl; cases hl)) (by rw [hfl 4 (by decide), hfl 8 (by decide), hfl 9 (by decide), hfl 10 (by decide), getD_set_same (by rw [hsz]; decide)]; exact ⟨hbN, fun _ h => (by cases h), fun _ => hON, fun h1 h2 => ⟨(hgN.block _ (Array.getElem?_eq_some_iff.1 (hR.a h1 h2).1).1 (fun e => bki_ne (hR.a h1 h2).1 hO e.symm)).trans (hR.a h1 h2).1, (hR.a h1 h2).2⟩, fun h => (by rw [n10] at h; cases h), fun _ => d4, fun h => rfl, hR.d10⟩) _ (by simp only [valO, Option.bind_some]; simp only [putAll, Act.put, List.setIfInBounds_toArray, List.set_cons_zero, List.set_cons_succ]; rfl)
    | 8, ho, hun, hdep, hK, hfl, _ =>
      obtain rfl := Option.some.inj ho
      have d1 : lp.getD 1 false = true := hdep { on := 1, ground := .data } (by simp) rfl
      have e32 : a'.tmps[32]? = some (.int .i64 o) := (hS.don 1 _ 32 rfl d1 rfl).trans (by simp only [putAll, Act.put, List.setIfInBounds_toArray, List.set_cons_zero, List.set_cons_succ]; rfl)
      have d3 : lp.getD 3 false = true := hdep { on := 3, ground := .data } (by simp) rfl
      have e34 : a'.tmps[34]? = some (.int .i64 n) := (hS.don 3 _ 34 rfl d3 rfl).trans (by simp only [putAll, Act.put, List.setIfInBounds_toArray, List.set_cons_zero, List.set_cons_succ]; rfl)
      have d7 : lp.getD 7 false = true := hdep { on := 7, ground := .data } (by simp) rfl
      have e38 : a'.tmps[38]? = some (.slice g.1.2.1 m.length g.1.2.2) := (hS.don 7 _ 38 rfl d7 rfl).trans (by simp only [putAll, Act.put, List.setIfInBounds_toArray, List.set_cons_zero, List.set_cons_succ]; rfl)
      have hK' := hK g w' (fun _ _ _ _ _ _ => rfl) (by rw [hfl 4 (by decide), hfl 7 (by decide), hfl 9 (by decide), hfl 10 (by decide), getD_set_same (by rw [hsz]; decide)]; exact ⟨hR.e, hR.b, hR.c, hR.a, hR.s, hR.d7, fun _ => d7, fun h => ⟨(hR.d10 h).1, rfl⟩⟩) (.agg #[.int .i64 o, .int .i64 n, .slice g.1.2.1 m.length g.1.2.2]) (by simp only [valO, Option.bind_some]; (try simp only [putAll, Act.put, List.setIfInBounds_toArray, List.set_cons_zero, List.set_cons_succ]); (try rfl))
      clear hS hdep hR
      refine gh_quiet14 (v := .agg #[.int .i64 o, .int .i64 n, .slice g.1.2.1 m.length g.1.2.2]) ?_ ?_
      · (simp only [execOp, Act.eval, e32, e34, e38]; go_simp; first | done | (simp; done) | (simp [*]; done) | omega | (rw [IntKind.wrap_i64]; omega))
      · exact hK'
    | 9, ho, hun, hdep, hK, hfl, _ =>
      obtain rfl := Option.some.inj ho
      have n10 : lp.getD 10 false = false := by
        cases h : lp.getD 10 false
        · rfl
        · have := (hR.d10 h).1; rw [hun] at this; cases this
      have qq := bl1 w' (.cells #[.int .i64 0, .int .i64 0, .slice none 0 0] 24)
      have hK' := hK (g.1, w'.heap.size) (w'.alloc (.cells #[.int .i64 0, .int .i64 0, .slice none 0 0] 24)) (fun k ok s hk hl hd => gh_same14 (d := 6) (s := s) (by simp only [putAll, Act.put, List.setIfInBounds_toArray, List.set_cons_zero, List.set_cons_succ]; rfl) (by rintro rfl; have := dstG_of (by kernel_rfl) k 9 ok _ 6 hk rfl hd rfl; subst this; rw [hun] at hl; cases hl)) (by rw [hfl 4 (by decide), hfl 7 (by decide), hfl 8 (by decide), hfl 10 (by decide), getD_set_same (by rw [hsz]; decide)]; exact ⟨keepb qq hR.e, fun h1 h2 => own_b13 qq (hR.b h1 h2), fun h => own_b13 qq (hR.c h), fun _ _ => ⟨World.alloc_heap_new w' _, hR.e.size⟩, fun h => (by rw [n10] at h; cases h), hR.d7, hR.d8, fun h => ⟨rfl, (hR.d10 h).2⟩⟩) (.pointer (some ⟨w'.heap.size, 0, none⟩)) (by simp only [valO, Option.bind_some]; simp only [putAll, Act.put, List.setIfInBounds_toArray, List.set_cons_zero, List.set_cons_succ]; rfl)
      clear hS hdep hR
      unfold Oper.wp
      simp [execOp, Act.eval, go_sem, Oper.upon]
      exact hK'
    | 10, ho, hun, hdep, hK, hfl, _ =>
      obtain rfl := Option.some.inj ho
      have d9 : lp.getD 9 false = true := hdep { on := 9, ground := .data } (by simp) rfl
      have e6 : a'.tmps[6]? = some (.pointer (some ⟨g.2, 0, none⟩)) := (hS.don 9 _ 6 rfl d9 rfl).trans (by simp only [putAll, Act.put, List.setIfInBounds_toArray, List.set_cons_zero, List.set_cons_succ]; rfl)
      have d8 : lp.getD 8 false = true := hdep { on := 8, ground := .data } (by simp) rfl
      have e39 : a'.tmps[39]? = some (.agg #[.int .i64 o, .int .i64 n, .slice g.1.2.1 m.length g.1.2.2]) := (hS.don 8 _ 39 rfl d8 rfl).trans (by simp only [putAll, Act.put, List.setIfInBounds_toArray, List.set_cons_zero, List.set_cons_succ]; rfl)
      obtain ⟨r1, r2⟩ := hR.a d9 hun
      obtain ⟨⟨z0, z1, z2⟩, zf0, zf1, zf2⟩ := r1.at
      have hO := hR.c (hR.d8 d8)
      have hne := bki_ne r1 hO
      have hO' : ((((w'.setCell ⟨g.2, 0, none⟩ (.int .i64 o)).setCell ⟨g.2, 1, none⟩ (.int .i64 n)).setCell ⟨g.2, 2, none⟩ (.slice g.1.2.1 m.length g.1.2.2))).ownsRow w4.heap.size 56 1 (.slice g.1.2.1 m.length g.1.2.2) m.length (m.map cU) := by
        refine ⟨hO.1, ?_⟩
        rcases hO.2 with h1 | ⟨gb, cap, cur, e, h1, h2, h3⟩
        · exact .inl h1
        · refine .inr ⟨gb, cap, cur, e, h1, ?_, h3⟩
          have hgB : ¬ gb = g.2 := by
            intro q
            exact hne (by rw [e]; simp [Value.ownBlock, q])
          exact ((Below.heap_setCell _ ⟨g.2, 2, none⟩ _ gb hgB).trans ((Below.heap_setCell _ ⟨g.2, 1, none⟩ _ gb hgB).trans (Below.heap_setCell _ ⟨g.2, 0, none⟩ _ gb hgB))).trans h2
      have hA' : AtI (((w'.setCell ⟨g.2, 0, none⟩ (.int .i64 o)).setCell ⟨g.2, 1, none⟩ (.int .i64 n)).setCell ⟨g.2, 2, none⟩ (.slice g.1.2.1 m.length g.1.2.2)) g.2 o n (.slice g.1.2.1 m.length g.1.2.2) := by
        refine ⟨?_, ?_, ?_⟩ <;> simp [go_sem, z0, z1, z2]
      have hK' := hK g (((w'.setCell ⟨g.2, 0, none⟩ (.int .i64 o)).setCell ⟨g.2, 1, none⟩ (.int .i64 n)).setCell ⟨g.2, 2, none⟩ (.slice g.1.2.1 m.length g.1.2.2)) (fun _ _ _ _ _ _ => rfl) (by rw [hfl 4 (by decide), hfl 7 (by decide), hfl 8 (by decide), hfl 9 (by decide), getD_set_same (by rw [hsz]; decide)]; exact ⟨bset3i hR.e r2 _ _ _, fun _ h => (by rw [hR.d8 d8] at h; cases h), fun _ => hO', fun _ h => (by cases h), fun _ => hA', hR.d7, hR.d8, fun _ => ⟨d9, d8⟩⟩) undef rfl
      clear hS hdep hR r1 hO hO' hA' hne
      unfold Oper.wp
      simp [execOp, Act.eval, e6, e39, go_sem, z0, z1, z2, zf0, zf1, zf2, Oper.upon]
      exact hK'
    | n + 11, ho, hun, hdep, hK, hfl, hq => exact absurd hq (by omega)
  case fin0 =>
    intro g V2 hR
    have hBv := hR.e
    have hOv := hR.c (by simp)
    have hAv := hR.s (by simp)
    obtain ⟨⟨gb, gao, gc⟩, g6⟩ := g
    have HB5 := hid13 (keepb hBv HB4.out)
    have HA5 := hid13 (HA4.out.below hBv)
    have HO5 := hid13 (own_b13 hBv HO4.out)
    have HI5 := hid13 hAv
    have HP5 := hid13 (own_rwx hOv)
    simp only [putAll, Act.put, List.setIfInBounds_toArray, List.set_cons_zero, List.set_cons_succ]
    clear hR hBv hOv hAv HA4 HB4 HO4 HM4
    refine wl_nil14 (P := Try.prog) (ops := #[]) ?_
    obtain ⟨i1, i2, i3⟩ := HI5.out
    have K6 := check_any o n (.slice gao m.length gc) m V2 HP5.out
    go_wp2_with fail
    refine K6.mono ?_
    rintro e w6 ⟨rfl, hb6⟩
    have HB6 := hid13 (keepb hb6 HB5.out)
    have HA6 := hid13 (HA5.out.below hb6)
    have HO6 := hid13 (own_b13 hb6 HO5.out)
    have HI6 := hid13 (HI5.out.below hb6)
    have HP6 := hid13 (HP5.out.below hb6)
    clear K6 hb6 i1 i2 i3 HB5 HA5 HO5 HI5 HP5
    obtain ⟨i1, i2, i3⟩ := HI6.out
    have K7 := size_any o n (.slice gao m.length gc) m w6 HP6.out (by have := HL.out; omega)
    go_wp2_with fail
    refine K7.mono ?_
    rintro e w7 ⟨rfl, hb7⟩
    have HB7 := hid13 (keepb hb7 HB6.out)
    have HA7 := hid13 (HA6.out.below hb7)
    have HO7 := hid13 (own_b13 hb7 HO6.out)
    have HI7 := hid13 (HI6.out.below hb7)
    have HP7 := hid13 (HP6.out.below hb7)
    clear K7 hb7 i1 i2 i3 HB6 HA6 HO6 HI6 HP6
    obtain ⟨i1, i2, i3⟩ := HI7.out
    have K8 := encode_any (.slice ao4 l.length c4) l o n (.slice gao m.length gc) m w7 (own_rowA HO7.out) HP7.out (by have := HL.out; omega) (by have := HL.out; omega)
    go_wp2_with fail
    refine K8.mono ?_
    rintro e w8 ⟨v8, rfl, hO8, hb8⟩
    obtain ⟨ao8, c8, hv8⟩ := own_form hO8
    subst hv8
    have HB8 := hid13 (keepb hb8 HB7.out)
    have HA8 := hid13 (HA7.out.below hb8)
    have HO8 := hid13 (own_rwx (own_b13 hb8 HO7.out))
    have HI8 := hid13 (HI7.out.below hb8)
    have HP8 := hid13 (HP7.out.below hb8)
    have HC8 := hid13 (own_rwx hO8)
    clear K8 hb8 hO8 i1 i2 i3 HB7 HA7 HO7 HI7 HP7
    obtain ⟨d0, d1, d2⟩ := HA8.out
    have KCk := fun W (h : RwX cU W (.slice ao m.length c) m) => rcheck14 o n (.slice ao m.length c) m W h
    have KSz := fun W (h : RwX cU W (.slice ao m.length c) m) => rsize14 o n (.slice ao m.length c) m W h (by have := HL.out; omega)
    have KSm := fun W (h : RwX cU W (.slice gao m.length gc) m) (h' : RwX cU W (.slice ao m.length c) m) => same_any ⟨o, n, m⟩ ⟨o, n, m⟩ (.slice gao m.length gc) (.slice ao m.length c) W h h' (by have := HL.out; show m.length ≤ _; omega)
    rw [(sameB_iff _ _).2 rfl] at KSm
    unfold insV at KSm
    obtain ⟨Y, hY⟩ : ∃ Y, Y = enL l o n m := ⟨_, rfl⟩
    rw [← hY] at HC8 ⊢
    have HYd := hid13 hY
    have HYx : Hid (∀ b ∈ Y, b < 256) := by
      intro b hb
      rw [hY] at hb
      unfold enL at hb
      split at hb
      · rcases List.mem_append.1 hb with q | q
        · exact HX.out b q
        · exact wdB_lt _ _ _ b q
      · cases hb
    clear hY
    have fin : Hid (∀ (w9 : World) (v9 : Value) (st : ByteArray), Below w8.heap.size w8 w9 → st = bsA Y → True) := fun _ _ _ _ _ => trivial
    clear fin
    obtain ⟨z, hz⟩ : ∃ z, z = chkE o n m := ⟨_, rfl⟩
    rw [← hz] at KCk ⊢
    have HZ := hid13 hz
    clear hz
    by_cases h0 : z = 0
    · subst h0
      have hz0' := HZ.out.symm
      obtain ⟨hO, hk, -⟩ := chk_zero hz0'
      obtain ⟨O, rfl⟩ : ∃ O : Nat, o = (O : Int) := ⟨o.toNat, by omega⟩
      obtain ⟨k, rfl⟩ : ∃ k : Nat, n = (k : Int) := ⟨n.toNat, by omega⟩
      have K9 := rencode14 O k (.slice ao m.length c) m w8 (HM.out.below HB8.out) hz0'
      clear hO hk hz0'
      go_wp2_with fail
      refine K9.mono ?_
      rintro e w9 ⟨v9, rfl, hO9, hb9⟩
      obtain ⟨ao9, c9, hv9⟩ := own_form hO9
      subst hv9
      have hHY : Y = l ++ wdB O k m := by rw [HYd.out]; unfold enL; rw [if_pos HZ.out.symm]; simp
      have HB9 := hid13 (keepb hb9 HB8.out)
      have HA9 := hid13 (HA8.out.below hb9)
      have HO9 := hid13 (HO8.out.below hb9)
      have HI9 := hid13 (HI8.out.below hb9)
      have HP9 := hid13 (HP8.out.below hb9)
      have HC9 := hid13 (HC8.out.below hb9)
      have cv1 := conv13 (HVx.out.below HB9.out) HX.out
      have cv2 := conv13 (own_rwx hO9) (wdB_lt O k m)
      have hcat : bsA l ++ bsA (wdB O k m) = bsA Y := by rw [hHY]; exact bsA_app _ _
      have hszc : ¬ 9223372036854775807 < (bsA l).size + (bsA (wdB O k m)).size := by
        rw [bsA_size, bsA_size, wdB_len]
        have := HL.out
        omega
      clear K9 hO9 hb9 d0 d1 d2 HB8 HA8 HO8 HI8 HP8 HC8 hHY
      obtain ⟨d0, d1, d2⟩ := HA9.out
      obtain ⟨i1, i2, i3⟩ := HI9.out
      have KSm' := KSm w9 HP9.out (HM.out.below HB9.out)
      clear KSm
      go_wp2_with fail
      refine KSm'.mono ?_
      rintro e w10 ⟨rfl, hb10⟩
      have HB10 := hid13 (keepb hb10 HB9.out)
      have HA10 := hid13 (HA9.out.below hb10)
      have cv3 := conv13 (HO9.out.below hb10) HX.out
      have cv4 := conv13 (HVx.out.below HB10.out) HX.out
      have HC10 := hid13 (HC9.out.below hb10)
      have KCk' := KCk w10 (HM.out.below HB10.out)
      clear KSm' hb10 d0 d1 d2 i1 i2 i3 HB9 HA9 HO9 HI9 HP9 HC9 KCk cv1 cv2 hcat hszc
      obtain ⟨d0, d1, d2⟩ := HA10.out
      go_wp2_with fail
      refine KCk'.mono ?_
      rintro e w11 ⟨rfl, hb11⟩
      have HB11 := hid13 (keepb hb11 HB10.out)
      have HC11 := hid13 (HC10.out.below hb11)
      have KSz' := KSz w11 (HM.out.below HB11.out)
      have HA11 := HA10.out.below hb11
      clear KCk' hb11 d0 d1 d2 HB10 HA10 HC10 KSz cv3 cv4
      obtain ⟨d0, d1, d2⟩ := HA11
      go_wp2_with fail
      refine KSz'.mono ?_
      rintro e w12 ⟨rfl, hb12⟩
      have HB12 := hid13 (keepb hb12 HB11.out)
      have cv5 := conv13 (HC11.out.below hb12) HYx.out
      clear KSz' hb12 d0 d1 d2 HB11 HC11
      go_wp2
      go_ret
      exact ⟨rfl, HB12.out⟩
    · have h0' : (z == 0) = false := by simpa using h0
      have K9 := rencode14_no o n (.slice ao m.length c) m w8 (HM.out.below HB8.out) (by rw [← HZ.out]; exact h0)
      rw [← HZ.out] at K9
      go_wp2_with fail
      refine K9.mono ?_
      rintro e w9 ⟨rfl, hb9⟩
      have hHY : Y = [] := by rw [HYd.out]; unfold enL; rw [if_neg (by rw [← HZ.out]; exact h0)]
      have HB9 := hid13 (keepb hb9 HB8.out)
      have HA9 := hid13 (HA8.out.below hb9)
      have HO9 := hid13 (HO8.out.below hb9)
      have HI9 := hid13 (HI8.out.below hb9)
      have HP9 := hid13 (HP8.out.below hb9)
      have HC9 := hid13 (HC8.out.below hb9)
      have hemp : (bsA Y).toList.isEmpty = true := by rw [hHY]; exact bsA_nil
      clear K9 hb9 d0 d1 d2 HB8 HA8 HO8 HI8 HP8 HC8 hHY h0
      obtain ⟨d0, d1, d2⟩ := HA9.out
      obtain ⟨i1, i2, i3⟩ := HI9.out
      have KSm' := KSm w9 HP9.out (HM.out.below HB9.out)
      clear KSm
      go_wp2_with fail
      refine KSm'.mono ?_
      rintro e w10 ⟨rfl, hb10⟩
      have HB10 := hid13 (keepb hb10 HB9.out)
      have HA10 := hid13 (HA9.out.below hb10)
      have cv3 := conv13 (HO9.out.below hb10) HX.out
      have cv4 := conv13 (HVx.out.below HB10.out) HX.out
      have HC10 := hid13 (HC9.out.below hb10)
      have KCk' := KCk w10 (HM.out.below HB10.out)
      clear KSm' hb10 d0 d1 d2 i1 i2 i3 HB9 HA9 HO9 HI9 HP9 HC9 KCk
      obtain ⟨d0, d1, d2⟩ := HA10.out
      go_wp2_with fail
      refine KCk'.mono ?_
      rintro e w11 ⟨rfl, hb11⟩
      have HB11 := hid13 (keepb hb11 HB10.out)
      have HC11 := hid13 (HC10.out.below hb11)
      have KSz' := KSz w11 (HM.out.below HB11.out)
      have HA11 := HA10.out.below hb11
      clear KCk' hb11 d0 d1 d2 HB10 HA10 HC10 KSz cv3 cv4
      obtain ⟨d0, d1, d2⟩ := HA11
      go_wp2_with fail
      refine KSz'.mono ?_
      rintro e w12 ⟨rfl, hb12⟩
      have HB12 := hid13 (keepb hb12 HB11.out)
      have cv5 := conv13 (HC11.out.below hb12) HYx.out
      clear KSz' hb12 d0 d1 d2 HB11 HC11
      go_wp2
      go_ret
      exact ⟨rfl, HB12.out⟩
end Go.Proofs.Ytnaihocdemcejaa
/-
  How rows of numbers that are handed in read as data.
-/
namespace Go.Proofs.Ytnaihocdemcejaa
open Go.ChangeShapes Go.WideShapes Go.ChangeAt Go.RowKit Go.Joins
set_option linter.unusedSimpArgs false
set_option linter.unusedVariables false

theorem Try.laidOut : laidOutB Try.prog = true := by kernel_rfl
theorem reach13 : reachBytes ≤ 140737488351232 := by decide
section
variable {H : Type} {enc : TypeId × Value → H} {w : World} {spare : Nat → Bool} {held : Bool}
theorem RwX.map13 {α β : Type} {f : α → Value} {g : β → Value} (h : α → β) {v : Value} {l : List α} (hr : RwX f w v l) (he : ∀ x ∈ l, f x = g (h x)) : RwX g w v (l.map h) := by
  obtain ⟨ao, c, e, hc, hr⟩ := hr
  refine ⟨ao, c, by rw [List.length_map]; exact e, by rw [List.length_map]; exact hc, ?_⟩
  rcases hr with hr | ⟨b, off, e, hr⟩
  · exact .inl (by rw [hr]; rfl)
  · refine .inr ⟨b, off, e, fun j x hj => ?_⟩
    rw [List.getElem?_map] at hj
    cases hx : l[j]? with
    | none => rw [hx] at hj; cases hj
    | some y =>
      rw [hx] at hj
      simp only [Option.map_some, Option.some.injEq] at hj
      rw [hr j y hx, he y (List.mem_of_getElem? hx), hj]
set_option maxRecDepth 100000 in
theorem open_ints13 {t e : TypeId} {k : IntKind} (ht : Try.prog.underlying t = some (.slice e)) (he : Try.prog.underlying e = some (.int k)) (hce : Try.prog.cellsOf e = 1) {r : Reach} {b0 : Nat} {v : Value} {d : DataW H} {p : List MemPlace} (hv : Value.okWide Try.prog w r b0 t v) (h : DataW.Trod enc Try.prog w 0 (fun _ => true) held t v d p) :
    ∃ l : List Int, RowA w 1 v l.length (l.map fun a => .int k a) ∧ RwX (fun a => Value.int k a) w v l ∧ (∀ a ∈ l, (Lit.int k a).wf = true) ∧ (l = [] ∨ ∃ el sp, d = .slice el sp ∧ el.length = l.length) := by
  obtain ⟨a0, len, cap, rfl⟩ := okWide_slice ht hv
  obtain ⟨fuel, hf⟩ := h
  rcases Deep.open_slice ht hf with ⟨hcs, hx⟩ | ⟨a, len', cap', m, n, D, Pl, hcs, _, hl, hm, hmm, hx, hel⟩
  · simp [Value.cells] at hcs
    obtain ⟨rfl, rfl, rfl⟩ := hcs
    exact ⟨[], ⟨rfl, none, 0, rfl, Nat.le_refl _, .inl ⟨rfl, rfl, rfl⟩⟩, ⟨none, 0, rfl, Nat.le_refl _, .inl rfl⟩, (fun _ h => by cases h), .inl rfl⟩
  · simp [Value.cells] at hcs
    obtain ⟨rfl, rfl, rfl⟩ := hcs
    simp at hmm
    subst hmm
    rw [hce] at hel
    obtain ⟨f, hf⟩ := Deep.choose_lt (α := Int) (n := len) (p := fun i x => w.cell? (a.add i) = some (.int k x) ∧ (Lit.int k x).wf = true) (fun i hi => by
      obtain ⟨cs', h1, h2⟩ := hel i (by omega)
      obtain ⟨_, hlen, hc⟩ := World.cells?_some h1
      match cs', hlen with
      | [c0], _ =>
        obtain ⟨x, ex, -, wx⟩ := DataW.trod_int he h2
        simp at ex
        subst ex
        refine ⟨x, ?_, wx⟩
        have := hc 0 (by omega)
        simpa [Addr.add] using this)
    have hlen : ((List.range len).map f).length = len := by simp
    have hcells : ∀ j x, ((List.range len).map f)[j]? = some x → w.cell? (a.add j) = some (.int k x) := by
      intro j x hj
      have hlt : j < len := by have := (List.getElem?_eq_some_iff.1 hj).1; simpa using this
      rw [List.getElem?_map, List.getElem?_range hlt] at hj
      simp only [Option.map_some, Option.some.injEq] at hj
      rw [← hj]; exact (hf j hlt).1
    refine ⟨(List.range len).map f, ⟨by simp, some a, m, by rw [hlen], by rw [hlen]; exact hl, .inr ⟨a, rfl, fun j u hj => ?_⟩⟩, ⟨some a, m, by rw [hlen], by rw [hlen]; exact hl, ?_⟩, ?_, ?_⟩
    · rw [List.getElem?_map] at hj
      cases hx : ((List.range len).map f)[j]? with
      | none => rw [hx] at hj; cases hj
      | some y =>
        rw [hx] at hj
        simp only [Option.map_some, Option.some.injEq] at hj
        rw [← hj]; exact hcells j y hx
    · by_cases hz : len = 0
      · subst hz
        exact .inl (by simp)
      · have h00 := (hf 0 (by omega)).1
        have ea : a = ⟨a.block, a.off, none⟩ := by
          have : a.add 0 = a := by simp [Addr.add]
          rw [this] at h00
          exact spot9 h00
        refine .inr ⟨a.block, a.off, by rw [← ea], fun j u hj => ?_⟩
        have := hcells j u hj
        rw [ea, addA] at this
        exact this
    · intro x hx
      simp only [List.mem_map, List.mem_range] at hx
      obtain ⟨i, hi, rfl⟩ := hx
      exact (hf i hi).2
    · simp only [Prod.mk.injEq] at hx
      exact .inr ⟨_, _, hx.1, by simp⟩
end
end Go.Proofs.Ytnaihocdemcejaa
/-
  How an instruction that is handed in reads as data.
-/
namespace Go.Proofs.Ytnaihocdemcejaa
open Go.ChangeShapes Go.WideShapes Go.ChangeAt Go.RowKit Go.Joins
set_option linter.unusedSimpArgs false
set_option linter.unusedVariables false

theorem Try.cellsI14 : Try.prog.cellsOf 3 = 1 := by kernel_rfl
theorem Try.cellsM14 : Try.prog.cellsOf 22 = 1 := by kernel_rfl
theorem Try.cellsN14 : Try.prog.cellsOf 24 = 3 := by kernel_rfl
section
variable {H : Type} {enc : TypeId × Value → H} {w : World} {spare : Nat → Bool} {held : Bool}
set_option maxRecDepth 100000 in
theorem trod_ints14 {t e : TypeId} {k : IntKind} (ht : Try.prog.underlying t = some (.slice e)) (he : Try.prog.underlying e = some (.int k)) (hce : Try.prog.cellsOf e = 1) {fuel : Nat} {va : Value} {x : DataW H × List MemPlace} (hf : DataW.trod enc Try.prog w 0 (fun _ => true) held fuel t [va] = some x) :
    ∃ l : List Int, RowA w 1 va l.length (l.map fun a => .int k a) ∧ RwX (fun a => Value.int k a) w va l ∧ (∀ a ∈ l, (Lit.int k a).wf = true) := by
  rcases Deep.open_slice ht hf with ⟨hcs, hx⟩ | ⟨a, len', cap', m, n, D, Pl, hcs, _, hl, hm, hmm, hx, hel⟩
  · simp at hcs
    subst hcs
    exact ⟨[], ⟨rfl, none, 0, rfl, Nat.le_refl _, .inl ⟨rfl, rfl, rfl⟩⟩, ⟨none, 0, rfl, Nat.le_refl _, .inl rfl⟩, (fun _ h => by cases h)⟩
  · simp at hcs
    subst hcs
    simp at hmm
    subst hmm
    rw [hce] at hel
    obtain ⟨f, hf⟩ := Deep.choose_lt (α := Int) (n := len') (p := fun i x => w.cell? (a.add i) = some (.int k x) ∧ (Lit.int k x).wf = true) (fun i hi => by
      obtain ⟨cs', h1, h2⟩ := hel i (by omega)
      obtain ⟨_, hlen, hc⟩ := World.cells?_some h1
      match cs', hlen with
      | [c0], _ =>
        obtain ⟨x, ex, -, wx⟩ := DataW.trod_int he h2
        simp at ex
        subst ex
        refine ⟨x, ?_, wx⟩
        have := hc 0 (by omega)
        simpa [Addr.add] using this)
    have hlen : ((List.range len').map f).length = len' := by simp
    have hcells : ∀ j x, ((List.range len').map f)[j]? = some x → w.cell? (a.add j) = some (.int k x) := by
      intro j x hj
      have hlt : j < len' := by have := (List.getElem?_eq_some_iff.1 hj).1; simpa using this
      rw [List.getElem?_map, List.getElem?_range hlt] at hj
      simp only [Option.map_some, Option.some.injEq] at hj
      rw [← hj]; exact (hf j hlt).1
    refine ⟨(List.range len').map f, ⟨by simp, some a, m, by rw [hlen], by rw [hlen]; exact hl, .inr ⟨a, rfl, fun j u hj => ?_⟩⟩, ⟨some a, m, by rw [hlen], by rw [hlen]; exact hl, ?_⟩, ?_⟩
    · rw [List.getElem?_map] at hj
      cases hx : ((List.range len').map f)[j]? with
      | none => rw [hx] at hj; cases hj
      | some y =>
        rw [hx] at hj
        simp only [Option.map_some, Option.some.injEq] at hj
        rw [← hj]; exact hcells j y hx
    · by_cases hz : len' = 0
      · subst hz
        exact .inl (by simp)
      · have h00 := (hf 0 (by omega)).1
        have ea : a = ⟨a.block, a.off, none⟩ := by
          have : a.add 0 = a := by simp [Addr.add]
          rw [this] at h00
          exact spot9 h00
        refine .inr ⟨a.block, a.off, by rw [← ea], fun j u hj => ?_⟩
        have := hcells j u hj
        rw [ea, addA] at this
        exact this
    · intro x hx
      simp only [List.mem_map, List.mem_range] at hx
      obtain ⟨i, hi, rfl⟩ := hx
      exact (hf i hi).2
theorem u32_bd14 {a : Int} (h : (Lit.int .u32 a).wf = true) : 0 ≤ a ∧ a < 4294967296 := by
  simp [Lit.wf, IntKind.min, IntKind.max, IntKind.signed, IntKind.bits] at h; omega
theorem i64_bd14 {a : Int} (h : (Lit.int .i64 a).wf = true) : -9223372036854775808 ≤ a ∧ a ≤ 9223372036854775807 := by
  simp [Lit.wf, IntKind.min, IntKind.max, IntKind.signed, IntKind.bits] at h; omega
set_option maxRecDepth 100000 in
theorem open_instr {r : Reach} {b0 : Nat} {v : Value} {d : DataW H} {p : List MemPlace} (hv : Value.okWide Try.prog w r b0 24 v) (h : DataW.Trod enc Try.prog w 0 (fun _ => true) held 24 v d p) :
    ∃ (o n : Int) (va : Value) (m : List (BitVec 32)), v = .agg #[.int .i64 o, .int .i64 n, va] ∧ RwX cU w va m ∧ RowA w 1 va m.length (m.map cU) ∧ (-9223372036854775808 ≤ o ∧ o ≤ 9223372036854775807) ∧ (-9223372036854775808 ≤ n ∧ n ≤ 9223372036854775807) := by
  obtain ⟨cs, rfl, hsz⟩ := okWide_struct Try.underlying24 hv
  obtain ⟨c0, c1, va, rfl⟩ := array3 (hsz.trans Try.cellsN14)
  obtain ⟨fuel, hf⟩ := h
  obtain ⟨y0, y1, y2, n, hx, _, h0, h1, h2⟩ := Deep.trod_struct3 Try.underlying24 hf
  have h0' : DataW.trod enc Try.prog w 0 (fun _ => true) held n 3 [c0] = some y0 := by simpa [Value.cells, Try.cellsI14] using h0
  have h1' : DataW.trod enc Try.prog w 0 (fun _ => true) held n 3 [c1] = some y1 := by simpa [Value.cells, Try.cellsI14, Try.cellsM14] using h1
  have h2' : DataW.trod enc Try.prog w 0 (fun _ => true) held n 22 [va] = some y2 := by simpa [Value.cells, Try.cellsI14, Try.cellsM14] using h2
  obtain ⟨o, eo, -, wo⟩ := DataW.trod_int Try.underlying3 h0'
  obtain ⟨k, ek, -, wk⟩ := DataW.trod_int Try.underlying3 h1'
  simp at eo ek
  subst eo ek
  obtain ⟨l, hA, hR, hw⟩ := trod_ints14 Try.underlying22 Try.underlying56 (by kernel_rfl) h2'
  have hq : ∀ x ∈ l, Value.int .u32 x = cU (BitVec.ofNat 32 x.toNat) := fun x hx => by
    have := u32_bd14 (hw x hx)
    unfold cU
    rw [uI_of _ (by omega)]
    congr 1
    omega
  refine ⟨o, k, va, l.map (fun a => BitVec.ofNat 32 a.toNat), rfl, hR.map13 _ hq, ?_, i64_bd14 wo, i64_bd14 wk⟩
  rw [List.length_map, List.map_map]
  have e : l.map (cU ∘ fun a => BitVec.ofNat 32 a.toNat) = l.map (fun a => Value.int .u32 a) := List.map_congr_left fun x hx => (hq x hx).symm
  rw [e]
  exact hA
end
end Go.Proofs.Ytnaihocdemcejaa
