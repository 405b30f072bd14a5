/-
  Part 25 of the proof: 3 texts, one behind the other.
-/
import Derived.Test.YtkgfeegcdohkdaaDoorPart24
import Derived.Test.YtkgfeegcdohkdaaDoorPart23
import Derived.Test.YtkgfeegcdohkdaaDoorRows
import Derived.ProofKit
import Derived.Lib.SmallJoins
import Derived.Test.YtkgfeegcdohkdaaDoorPart18
import Derived.Test.YtkgfeegcdohkdaaDoorPart16
import Derived.Deep.Slices
import Derived.Carry
/-
  The law RangeRows.
-/
namespace Go.Proofs.YtkgfeegcdohkdaaDoor
open Go.RowKit
set_option linter.unusedSimpArgs false
set_option linter.unusedVariables false

theorem rangeRows_many (F : Int) (v : Value) (l : List (BitVec 128 × Int)) (w : World) (hT : Tab w) (hv : Rv w v l) (hl : 2000 < l.length) :
    Calls Tryd.prog 6 #[.int .i64 F, v] w fun e w' => e = .returned (.bool true) ∧ Below w.heap.size w w' := by
  have KN := known4_any w hT
  obtain ⟨ao, c, rfl, -⟩ := hv
  have h1 : (2000 : Int) < (l.length : Int) := by omega
  go_enter Tryd.func6, Tryd.ntmps6
  go_wp2_with fail
  refine KN.mono ?_
  rintro e w1 ⟨rfl, kB⟩
  clear KN
  go_wp2
  go_ret
  exact ⟨rfl, kB⟩
/-- A number's block, looked at as a row of one. -/
theorem one_row (w : World) (base : Nat) (c0 c1 c2 : Int) (hb : base ≤ w.heap.size) : (w.alloc (.cells #[.int .u64 c0, .int .u64 c1, .int .u64 c2] 56)).ownsRow base 56 3 (.slice (some ⟨w.heap.size, 0, none⟩) 1 1) 1 [.int .u64 c0, .int .u64 c1, .int .u64 c2] :=
  ⟨rfl, .inr ⟨w.heap.size, 1, #[.int .u64 c0, .int .u64 c1, .int .u64 c2], rfl, hb, by first | (simp; done) | (unfold World.alloc; simp; done) | (show (w.heap.push _)[w.heap.size]? = _; simp), Nat.le_refl _, by unfold maxLen; omega, rfl, rfl⟩⟩
theorem one_cells {W : World} {base g : Nat} {c0 c1 c2 : Int} (h : W.ownsRow base 56 3 (.slice (some ⟨g, 0, none⟩) 1 1) 1 [.int .u64 c0, .int .u64 c1, .int .u64 c2]) : W.cell? ⟨g, 0, none⟩ = some (.int .u64 c0) ∧ W.cell? ⟨g, 1, none⟩ = some (.int .u64 c1) ∧ W.cell? ⟨g, 2, none⟩ = some (.int .u64 c2) := by
  have a0 := h.cells (g := g) rfl 0 (.int .u64 c0) rfl
  have a1 := h.cells (g := g) rfl 1 (.int .u64 c1) rfl
  have a2 := h.cells (g := g) rfl 2 (.int .u64 c2) rfl
  rw [addA, Nat.zero_add] at a0 a1 a2
  exact ⟨a0, a1, a2⟩
set_option maxRecDepth 20000 in
set_option maxHeartbeats 8000000 in
theorem rangeRows_any (F : Int) (v : Value) (l : List (BitVec 128 × Int)) (w : World) (hT : Tab w) (hv : Rv w v l) :
    Calls Tryd.prog 6 #[.int .i64 F, v] w fun e w' => e = .returned (.bool true) ∧ Below w.heap.size w w' := by
  by_cases hl : 2000 < l.length
  · exact rangeRows_many F v l w hT hv hl
  · have KN := known4_any w hT
    have HV := Hid.mk' hv
    have KL := fun w hv => lend_any v l w hv (by omega)
    have KM := fun v w hv => rows_all F v l w hv (by omega)
    have KC := fun v w hv => count_all F v l w hv (by omega)
    have KG := fun w hv => rrows_all F v l w hv (by omega)
    have KD := fun w hv => rcount_all F v l w hv (by omega)
    have hml := rwL_le F l
    obtain ⟨ao, c, rfl, -⟩ := hv
    have h1 : ¬ (2000 : Int) < (l.length : Int) := by omega
    unfold costV at KC KD
    generalize rwL F l = R at *
    generalize chkE F l = ce at *
    generalize cost0 (ctN F l) = c0 at *
    generalize cost1 (ctN F l) = c1 at *
    generalize cost2 (ctN F l) = c2 at *
    go_enter Tryd.func6, Tryd.ntmps6
    go_wp2_with fail
    refine KN.mono ?_
    rintro e w1 ⟨rfl, kB⟩
    have HV1 := Hid.mk' (HV.out.below kB)
    have HB1 := Hid.mk' kB
    clear KN kB HV
    go_wp2_with fail
    refine (KL _ HV1.out).mono ?_
    rintro e w2 ⟨⟨g, rfl, ho⟩, hb⟩
    have HO2 := Hid.mk' ho
    have HB2 := Hid.mk' hb
    clear ho hb KL
    go_wp2_with fail
    refine (KM _ _ (lent_rw HO2.out)).mono ?_
    rintro e w3 ⟨⟨va, rfl, ha⟩, hb⟩
    have hne : va.ownBlock ≠ some g := fun e => by
      have a1 := (ha.lt g e).1
      have a2 := (HO2.out.lt g (by simp [Value.ownBlock])).2
      omega
    have HA := Hid.mk' ha
    have HNE := Hid.mk' hne
    have HO3 := Hid.mk' (own_below hb HO2.out)
    have HB3 := Hid.mk' (keepb hb HB2.out)
    obtain ⟨ao1, k1, rfl⟩ := own_form ha
    clear ha hb hne KM HO2 HB2
    go_wp2_with fail
    refine (KC _ _ (lent_rw HO3.out)).mono ?_
    rintro e w4 ⟨rfl, hb⟩
    have b4 := bl1 w4 (.cells #[.int .u64 c0, .int .u64 c1, .int .u64 c2] 56)
    have HO4 := Hid.mk' (own_below b4 (own_below hb HO3.out))
    have HB4 := Hid.mk' (keepb b4 (keepb hb HB3.out))
    have HA4 := Hid.mk' (own_below b4 (own_below hb HA.out))
    have HC4 := Hid.mk' (one_row w4 w4.heap.size c0 c1 c2 (Nat.le_refl _))
    have hne4 : (Value.slice (some ⟨w4.heap.size, 0, none⟩) 1 1).ownBlock ≠ some g := fun e => by
      have a2 := ((own_below hb HO3.out).lt g (by simp [Value.ownBlock])).2
      simp [Value.ownBlock] at e
      omega
    have KK := kept_any (.slice ao l.length c) l w1 _ HV1.out HB4.out g HO4.out (by omega)
    have HNE4 := Hid.mk' hne4
    clear hb b4 hne4 KC HO3 HB3 HA HO4 HB4
    go_wp2_with fail
    refine KK.mono ?_
    rintro e w5 ⟨rfl, hb5, hst⟩
    have HA5 := Hid.mk' (hst _ _ _ _ _ _ HA4.out HNE.out)
    have HC5 := Hid.mk' (hst _ _ _ _ _ _ HC4.out HNE4.out)
    have HB5 := Hid.mk' hb5
    clear hst hb5 KK HA4 HC4 HNE HNE4
    go_wp2_with fail
    refine (KG _ (HV1.out.below HB5.out)).mono ?_
    rintro e w6 ⟨⟨vb, rfl, hbq⟩, hb⟩
    have HA6 := Hid.mk' (own_below hb HA5.out)
    have HC6 := Hid.mk' (own_below hb HC5.out)
    have HB6 := Hid.mk' (keepb hb HB5.out)
    have HD6 := Hid.mk' hbq
    obtain ⟨ao2, k2, rfl⟩ := own_form hbq
    clear hbq hb KG HA5 HC5 HB5
    go_wp2_with fail
    refine (KD _ (HV1.out.below HB6.out)).mono ?_
    rintro e w7 ⟨rfl, hb⟩
    have b7 := bl1 w7 (.cells #[.int .u64 c0, .int .u64 c1, .int .u64 c2] 56)
    have HA7 := Hid.mk' (own_below b7 (own_below hb HA6.out))
    have HD7 := Hid.mk' (own_below b7 (own_below hb HD6.out))
    have HB7 := Hid.mk' (keepb b7 (keepb (keepb hb HB6.out) HB1.out))
    obtain ⟨r0, r1, r2⟩ := one_cells (own_below b7 (own_below hb HC6.out))
    obtain ⟨q0, q1, q2⟩ := one_cells (one_row w7 w7.heap.size c0 c1 c2 (Nat.le_refl _))
    have he := fun w => eqC_run c0 c1 c2 w
    clear hb b7 KD HA6 HC6 HB6 HD6 HV1 HB1
    go_wp2_with fail
    go_loopw [15] (fun i wr => ∃ k : Nat, k ≤ R.length ∧ i = .int .i64 k ∧ Below (w7.alloc (.cells #[.int .u64 c0, .int .u64 c1, .int .u64 c2] 56)).heap.size (w7.alloc (.cells #[.int .u64 c0, .int .u64 c1, .int .u64 c2] 56)) wr) (fun i _ => R.length - (intOf i).toNat)
    case atStart => exact ⟨0, by omega, rfl, Below.refl _ _⟩
    case round =>
      obtain ⟨k, hk, rfl, hB⟩ := hrel
      clear r0 r1 r2 q0 q1 q2 he
      by_cases hlt : (k : Int) < (R.length : Int)
      · have hk5 : k < R.length := by omega
        have hd4 := HA7.out
        have hd5 := HD7.out
        rcases hd4.2 with ⟨e, h⟩ | ⟨g1, cap, cur, e, -⟩
        · omega
        · rcases hd5.2 with ⟨e', h⟩ | ⟨g2, cap', cur', e', -⟩
          · omega
          · injection e with e1 e2 e3
            injection e' with e1' e2' e3'
            subst e1
            subst e1'
            clear e2 e3 e2' e3'
            obtain ⟨x0, x1, x2, x3, x4⟩ := rows_cells hd4 rfl k hk5
            obtain ⟨y0, y1, y2, y3, y4⟩ := rows_cells hd5 rfl k hk5
            have x0 := keepc hB x0
            have x1 := keepc hB x1
            have x2 := keepc hB x2
            have x3 := keepc hB x3
            have x4 := keepc hB x4
            have y0 := keepc hB y0
            have y1 := keepc hB y1
            have y2 := keepc hB y2
            have y3 := keepc hB y3
            have y4 := keepc hB y4
            have hE := fun w => eqS_run R[k].1 R[k].2 w
            generalize R[k].1 = px at *
            generalize R[k].2 = py at *
            have mk : IntKind.i64.wrap ((k : Int) + 1) = (k : Int) + 1 := by rw [IntKind.wrap_i64]; omega
            clear hd4 hd5
            go_wp2_with fail
            go_quiet (fail)
            go_wp2
            go_roundw
            case rel => exact ⟨k + 1, by omega, by go_num, below_drewN hB _⟩
            case measure => simp [intOf]; omega
      · have hd5 : ¬ k < R.length := by omega
        have kE := keepb hB HB7.out
        clear hB HB7 HA7 HD7
        go_wp2
        go_ret
        exact ⟨rfl, kE⟩
end Go.Proofs.YtkgfeegcdohkdaaDoor
/-
  How a prefix that is handed in reads as data.
-/
namespace Go.Proofs.YtkgfeegcdohkdaaDoor
open Go.ChangeShapes Go.WideShapes Go.ChangeAt Go.RowKit Go.Joins
set_option linter.unusedSimpArgs false
set_option linter.unusedVariables false

theorem Tryd.cellsW : Tryd.prog.cellsOf 24 = 2 := by kernel_rfl
theorem Tryd.cellsP : Tryd.prog.cellsOf 26 = 3 := by kernel_rfl
theorem Tryd.cellsI : Tryd.prog.cellsOf 3 = 1 := by kernel_rfl
theorem Tryd.cellsU : Tryd.prog.cellsOf 22 = 1 := by kernel_rfl
section
variable {H : Type} {enc : TypeId × Value → H} {w : World} {base : Nat} {spare : Nat → Bool} {held : Bool}
set_option maxRecDepth 100000 in
theorem open_pfx {r : Reach} {b0 : Nat} {v : Value} {d : DataW H} {p : List MemPlace} (hv : Value.okWide Tryd.prog w r b0 26 v) (h : DataW.Trod enc Tryd.prog w base spare held 26 v d p) :
    ∃ a b n : Int, v = .agg #[.int .u64 a, .int .u64 b, .int .i64 n] ∧ d = .agg [.agg [.lit (.int .u64 a), .lit (.int .u64 b)], .lit (.int .i64 n)] ∧ p = [] ∧ (Lit.int .u64 a).wf = true ∧ (Lit.int .u64 b).wf = true ∧ (Lit.int .i64 n).wf = true := by
  obtain ⟨cs, rfl, hsz⟩ := okWide_struct Tryd.underlying26 hv
  obtain ⟨c0, c1, c2, rfl⟩ := array3 (hsz.trans Tryd.cellsP)
  obtain ⟨fuel, hf⟩ := h
  obtain ⟨y0, y1, n, hx, _, h0, h1⟩ := trod_struct2 Tryd.underlying26 hf
  have h0' : DataW.trod enc Tryd.prog w base spare held n 24 [c0, c1] = some y0 := by simpa [Value.cells, Tryd.cellsW] using h0
  have h1' : DataW.trod enc Tryd.prog w base spare held n 3 [c2] = some y1 := by simpa [Value.cells, Tryd.cellsI] using h1
  obtain ⟨u0, u1, m, hu, _, g0, g1⟩ := trod_struct2 Tryd.underlying24 h0'
  have g0' : DataW.trod enc Tryd.prog w base spare held m 22 [c0] = some u0 := by simpa [Value.cells, Tryd.cellsU] using g0
  have g1' : DataW.trod enc Tryd.prog w base spare held m 22 [c1] = some u1 := by simpa [Value.cells, Tryd.cellsU] using g1
  obtain ⟨a, ea, rfl, wa⟩ := DataW.trod_int Tryd.underlying22 g0'
  obtain ⟨b, eb, rfl, wb⟩ := DataW.trod_int Tryd.underlying22 g1'
  obtain ⟨k, ek, rfl, wk⟩ := DataW.trod_int Tryd.underlying3 h1'
  simp at ea eb ek
  subst ea eb ek hu
  simp only [Prod.mk.injEq] at hx
  exact ⟨a, b, k, rfl, hx.1, by simpa using hx.2, wa, wb, wk⟩
set_option maxRecDepth 100000 in
theorem shut_pfx {a b n : Int} (wa : (Lit.int .u64 a).wf = true) (wb : (Lit.int .u64 b).wf = true) (wn : (Lit.int .i64 n).wf = true) :
    DataW.Trod enc Tryd.prog w base spare held 26 (.agg #[.int .u64 a, .int .u64 b, .int .i64 n]) (.agg [.agg [.lit (.int .u64 a), .lit (.int .u64 b)], .lit (.int .i64 n)]) [] := by
  have f : ∀ {z : Int}, (Lit.int .u64 z).wf = true → DataW.trod enc Tryd.prog w base spare held 1 22 [.int .u64 z] = some (.lit (.int .u64 z), []) := fun hz => by simp [DataW.trod, Tryd.underlying22, hz]
  have g : DataW.trod enc Tryd.prog w base spare held 2 3 [.int .i64 n] = some (.lit (.int .i64 n), []) := by simp [DataW.trod, Tryd.underlying3, wn]
  have s : DataW.trod enc Tryd.prog w base spare held 2 24 [.int .u64 a, .int .u64 b] = some (.agg [.lit (.int .u64 a), .lit (.int .u64 b)], []) := by
    have := trod_struct2_mk (enc := enc) (w := w) (base := base) (spare := spare) (held := held) (n := 1) (cs := [.int .u64 a, .int .u64 b]) Tryd.underlying24 (by simp [Tryd.cellsW]) (by simpa [Tryd.cellsU] using f wa) (by simpa [Tryd.cellsU] using f wb)
    simpa using this
  have := trod_struct2_mk (enc := enc) (w := w) (base := base) (spare := spare) (held := held) (n := 2) (cs := [.int .u64 a, .int .u64 b, .int .i64 n]) Tryd.underlying26 (by simp [Tryd.cellsP]) (by simpa [Tryd.cellsW] using s) (by simpa [Tryd.cellsI] using g)
  exact ⟨3, by simpa [Value.cells] using this⟩
end
end Go.Proofs.YtkgfeegcdohkdaaDoor
/-
  How a list of prefixes that is handed in reads as data.
-/
namespace Go.Proofs.YtkgfeegcdohkdaaDoor
open Go.ChangeShapes Go.WideShapes Go.ChangeAt Go.RowKit Go.Joins
set_option linter.unusedSimpArgs false
set_option linter.unusedVariables false

theorem Tryd.laidOut : laidOutB Tryd.prog = true := by kernel_rfl
theorem rowP_all {W : World} {b off : Nat} (l : List (BitVec 128 × Int)) (h : ∀ i (hi : i < l.length), W.cell? ⟨b, off + i * 3, none⟩ = some (.int .u64 (hI l[i].1)) ∧ W.cell? ⟨b, off + (i * 3 + 1), none⟩ = some (.int .u64 (lI l[i].1)) ∧ W.cell? ⟨b, off + (i * 3 + 2), none⟩ = some (.int .i64 l[i].2)) :
    ∀ j u, (rowP l)[j]? = some u → W.cell? ⟨b, off + j, none⟩ = some u := by
  intro j u hj
  have hlt : j < (rowP l).length := (List.getElem?_eq_some_iff.1 hj).1
  rw [rowP_len] at hlt
  have hi : j / 3 < l.length := by omega
  obtain ⟨a0, a1, a2⟩ := h (j / 3) hi
  obtain ⟨b0, b1, b2⟩ := rowP_get l (j / 3) hi
  have hm : j % 3 = 0 ∨ j % 3 = 1 ∨ j % 3 = 2 := by omega
  rcases hm with hm | hm | hm
  · have e : j = j / 3 * 3 := by omega
    rw [e, b0] at hj
    rw [e, ← hj]; exact a0
  · have e : j = j / 3 * 3 + 1 := by omega
    rw [e, b1] at hj
    rw [e, ← hj]; exact a1
  · have e : j = j / 3 * 3 + 2 := by omega
    rw [e, b2] at hj
    rw [e, ← hj]; exact a2
section
variable {H : Type} {enc : TypeId × Value → H} {w : World} {spare : Nat → Bool} {held : Bool}
set_option maxRecDepth 100000 in
theorem trod_pfx {n : Nat} {c0 c1 c2 : Value} {x : DataW H × List MemPlace} (h : DataW.trod enc Tryd.prog w 0 spare held n 26 [c0, c1, c2] = some x) :
    ∃ a b n : Int, c0 = .int .u64 a ∧ c1 = .int .u64 b ∧ c2 = .int .i64 n ∧ (Lit.int .u64 a).wf = true ∧ (Lit.int .u64 b).wf = true := by
  obtain ⟨y0, y1, n, hx, _, h0, h1⟩ := trod_struct2 Tryd.underlying26 h
  have h0' : DataW.trod enc Tryd.prog w 0 spare held n 24 [c0, c1] = some y0 := by simpa [Value.cells, Tryd.cellsW] using h0
  have h1' : DataW.trod enc Tryd.prog w 0 spare held n 3 [c2] = some y1 := by simpa [Value.cells, Tryd.cellsI] using h1
  obtain ⟨u0, u1, m, hu, _, g0, g1⟩ := trod_struct2 Tryd.underlying24 h0'
  have g0' : DataW.trod enc Tryd.prog w 0 spare held m 22 [c0] = some u0 := by simpa [Value.cells, Tryd.cellsU] using g0
  have g1' : DataW.trod enc Tryd.prog w 0 spare held m 22 [c1] = some u1 := by simpa [Value.cells, Tryd.cellsU] using g1
  obtain ⟨a, ea, rfl, wa⟩ := DataW.trod_int Tryd.underlying22 g0'
  obtain ⟨b, eb, rfl, wb⟩ := DataW.trod_int Tryd.underlying22 g1'
  obtain ⟨k, ek, rfl, wk⟩ := DataW.trod_int Tryd.underlying3 h1'
  simp at ea eb ek
  exact ⟨a, b, k, ea, eb, ek, wa, wb⟩
theorem spot_none {W : World} {a : Addr} {u : Value} (h : W.cell? a = some u) : a = ⟨a.block, a.off, none⟩ := by
  obtain ⟨b, o, s⟩ := a
  cases s with
  | none => rfl
  | some z =>
    unfold World.cell? at h
    split at h
    · simp at h
    · cases h
set_option maxRecDepth 100000 in
theorem open_pfxs {r : Reach} {b0 : Nat} {v : Value} {d : DataW H} {p : List MemPlace} (hv : Value.okWide Tryd.prog w r b0 29 v) (h : DataW.Trod enc Tryd.prog w 0 (fun _ => true) held 29 v d p) :
    ∃ l : List (BitVec 128 × Int), Rv w v l := by
  obtain ⟨a0, len, cap, rfl⟩ := okWide_slice Tryd.underlying29 hv
  obtain ⟨fuel, hf⟩ := h
  rcases Deep.open_slice Tryd.underlying29 hf with ⟨hcs, hx⟩ | ⟨a, len', cap', m, n, D, Pl, hcs, _, hl, hm, hmm, hx, hel⟩
  · simp [Value.cells] at hcs
    obtain ⟨rfl, rfl, rfl⟩ := hcs
    exact ⟨[], none, 0, rfl, .inl rfl⟩
  · simp [Value.cells] at hcs
    obtain ⟨rfl, rfl, rfl⟩ := hcs
    simp at hmm
    subst hmm
    rw [Tryd.cellsP] at hel
    obtain ⟨f, hf⟩ := Deep.choose_lt (α := BitVec 128 × Int) (n := len) (p := fun i x => w.cell? (a.add (i * 3)) = some (.int .u64 (hI x.1)) ∧ w.cell? ((a.add (i * 3)).add 1) = some (.int .u64 (lI x.1)) ∧ w.cell? ((a.add (i * 3)).add 2) = some (.int .i64 x.2)) (fun i hi => by
      obtain ⟨cs', h1, h2⟩ := hel i (by omega)
      obtain ⟨_, hlen, hc⟩ := World.cells?_some h1
      match cs', hlen with
      | [c0, c1, c2], _ =>
        obtain ⟨x, y, k, rfl, rfl, rfl, wx, wy⟩ := trod_pfx h2
        have bx : 0 ≤ x ∧ x < 18446744073709551616 := by simp [Lit.wf, IntKind.min, IntKind.max, IntKind.signed, IntKind.bits] at wx; omega
        have bY : 0 ≤ y ∧ y < 18446744073709551616 := by simp [Lit.wf, IntKind.min, IntKind.max, IntKind.signed, IntKind.bits] at wy; omega
        refine ⟨(mkW x y, k), ?_, ?_, ?_⟩
        · have := hc 0 (by omega)
          rw [hI_mk x y bx.1 bx.2]
          simpa [Addr.add] using this
        · rw [lI_mk x y bY.1 bY.2]
          simpa using hc 1 (by omega)
        · simpa using hc 2 (by omega))
    refine ⟨(List.range len).map f, some a, _, by simp; rfl, ?_⟩
    by_cases hz : len = 0
    · subst hz
      exact .inl (by simp)
    · have h00 := (hf 0 (by omega)).1
      have ea : a = ⟨a.block, a.off, none⟩ := by
        have : a.add (0 * 3) = a := by simp [Addr.add]
        rw [this] at h00
        exact spot_none h00
      refine .inr ⟨a.block, a.off, by rw [← ea], ?_⟩
      refine rowP_all _ ?_
      intro i hi
      have hi' : i < len := by simpa using hi
      have := hf i hi'
      rw [ea] at this
      simp only [addA] at this
      simpa [Nat.add_assoc] using this
end
end Go.Proofs.YtkgfeegcdohkdaaDoor
