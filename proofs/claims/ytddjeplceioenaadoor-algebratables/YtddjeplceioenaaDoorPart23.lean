/-
  Part 23 of the proof: 3 texts, one behind the other.
-/
import Derived.Test.YtddjeplceioenaaDoorPart22
import Derived.Test.YtddjeplceioenaaDoorRows
import Derived.ProofKit
import Derived.Lib.SmallJoins
import Derived.Test.YtddjeplceioenaaDoorPart3
import Derived.Deep.Slices
import Derived.Deep.Strs
import Derived.Carry
/-
  The law AlgebraTables: any segments.
-/
namespace Go.Proofs.YtddjeplceioenaaDoor
open Go.RowKit
set_option linter.unusedSimpArgs false
set_option linter.unusedVariables false

/-- append(a, b...) where a is the call's own and b is a list that was handed in. -/
theorem wpList_append_src {P : Program} {w : World} {ops : Array Oper} {rest : List Oper} {o : Oper} {a : Act} {Q : Exit → Act → World → Prop} (hgd : o.guard = none) (s x : Operand) (t : TypeId)
    (ho : o.op = .call { callee := .builtin .append, args := #[s, x], argTypes := #[t, t] })
    (base : Nat) (e : TypeId) (i : TypeInfo) (z : Value) (size bytes : Nat) (ht : P.underlying t = some (.slice e)) (hi : P.info? e = some i) (hz : i.zero = some z)
    (hsize : i.size = size) (hby : i.bytes = bytes) (hzs : z.cells.size = size) (hsz : 0 < size)
    (v : Value) (n : Nat) (xs : List Value) (hs : a.eval s = v) (hown : w.ownsRow base e size v n xs)
    (vx : Value) (m : Nat) (news : List Value) (hx : a.eval x = vx) (hl : news.length = m * size) (hsrc : (vx = .slice none 0 0 ∧ m = 0) ∨ ∃ ad c, vx = .slice (some ad) m c ∧ ∀ j u, news[j]? = some u → w.cell? (ad.add j) = some u) (h1 : ∀ y ∈ news, y.oneCell' = true)
    (h63 : n + m ≤ maxLen) (hbytes : (n + m) * bytes ≤ 140737488355328) (hbase : base ≤ w.heap.size)
    (h : ∀ ao cap w', w'.ownsRow base e size (.slice ao (n + m) cap) (n + m) (xs ++ news) → w.grownBy w' v.ownBlock → wpList P ops Q rest (a.put o.dst (.slice ao (n + m) cap)) w') : wpList P ops Q (o :: rest) a w := by
  rcases hsrc with ⟨rfl, rfl⟩ | ⟨ad, c, rfl, hc⟩
  · have : news = [] := List.eq_nil_of_length_eq_zero (by omega)
    subst this
    refine wpList_append_own_none hgd s x t ho base e i size ht hi v n xs hs hown hx ?_
    obtain ⟨ao, cp, hv⟩ := own_form hown
    have := h ao cp w (by rw [List.append_nil, Nat.add_zero, ← hv]; exact hown) ⟨rfl, rfl, rfl, Nat.le_refl _, fun _ _ _ => rfl⟩
    rw [Nat.add_zero, ← hv] at this
    exact this
  · refine wpList_append_own w hgd s x t ho base e i z size bytes ht hi hz hsize hby hzs hsz v n xs hs hown ad m c news hx hl hc h1 h63 hbytes hbase ?_
    intro v' w' h2 h3 _
    obtain ⟨ao, cp, hv⟩ := own_form h2
    rw [hv]
    rw [hv] at h2
    exact h ao cp w' h2 h3
theorem rwg_src {w : World} {v : Value} {l : List Sg} (h : RwG w v l) (hf : v = .slice none 0 0 ∨ ∃ a n c, v = .slice (some a) n c) : (v = .slice none 0 0 ∧ l.length = 0) ∨ ∃ ad c, v = .slice (some ad) l.length c ∧ ∀ j u, (rowG l)[j]? = some u → w.cell? (ad.add j) = some u := by
  obtain ⟨ao, c, e, h⟩ := h
  rcases hf with hf | ⟨a, n, c', hf⟩
  · left
    rw [hf] at e
    injection e with _ e2
    exact ⟨hf, e2.symm⟩
  · right
    rw [hf] at e
    injection e with e1 e2 e3
    subst e1; subst e2; subst e3
    refine ⟨a, c', hf, ?_⟩
    rcases h with h | ⟨b, off, e, hc⟩
    · subst h
      intro j u hj
      simp [rowG] at hj
    · injection e with e
      subst e
      intro j u hj
      rw [addA]
      exact hc j u hj
theorem stopHere6 {P : Program} {w : World} {ops : Array Oper} {rest : List Oper} {a : Act} {Q : Exit → Act → World → Prop} {o : Oper} (h : Hid (wpList P ops Q (o :: rest) a w)) : wpList P ops Q (o :: rest) a w := h.out
set_option maxRecDepth 20000 in
set_option maxHeartbeats 8000000 in
theorem algebraTables_any (F : Int) (v : Value) (l : List Sg) (w : World) (hT : Tab w) (hvf : RwG w v l ∧ (v = .slice none 0 0 ∨ ∃ a n c, v = .slice (some a) n c)) :
    Calls Tryd.prog 3 #[.int .i64 F, v] w fun e w' => e = .returned (.bool true) ∧ Below w.heap.size w w' := by
  obtain ⟨j0, ji, jz0, jz1, jz2⟩ := info_parts Tryd.infoG
  have KK := fun w => known6_any w
  obtain ⟨hv, hf⟩ := hvf
  obtain ⟨ao, c, e, hvb⟩ := id hv
  subst e
  have HV := hidR hv
  have HF := hidR hf
  have HT := hidR hT
  clear hv hf hvb hT
  go_enter Tryd.func3, Tryd.ntmps3
  go_wp2_with fail
  refine (KK _).mono ?_
  rintro e w1 ⟨rfl, hb⟩
  have HB1 := hidR hb
  have HV1 := hidR (HV.out.below hb)
  clear KK hb
  by_cases hl : (3000 : Int) < (l.length : Int)
  · have dl : decide ((3000 : Int) < (l.length : Int)) = true := by simpa using hl
    go_wp2
    go_ret
    exact ⟨rfl, HB1.out⟩
  · have dl : decide ((3000 : Int) < (l.length : Int)) = false := by simpa using hl
    go_wp2_with (at_builtin; apply stopHere6)
    refine (show wpList _ _ _ _ _ _ from ?_)
    have al1 := bl1 w1 (.cells #[] 46)
    refine wpList_append_src rfl _ _ 22 rfl w1.heap.size 46 j0 (.agg #[.int .u64 0, .int .u64 0, .int .u64 0, .int .u64 0, .int .i64 0]) 5 40 Tryd.underlying22 ji jz0 jz1 jz2 rfl (by decide) (.slice (some ⟨w1.heap.size, 0, none⟩) 0 0) 0 [] rfl (World.ownsRow_made w1 #[] 0 (Nat.le_refl _) (by unfold maxLen; omega) (by simp)) (.slice ao l.length c) l.length (rowG l) rfl (rowG_len l) (rwg_src (HV1.out.below al1) HF.out) (rowG_cell _) (by unfold maxLen; omega) (by omega) (by simp) ?_
    intro ao2 c2 w2 ha hgrow
    rw [Nat.zero_add, List.nil_append] at ha
    rw [Nat.zero_add]
    have hb : Below w1.heap.size w1 w2 := ((Below.refl _ _).alloc (Nat.le_refl _) _).grown hgrow (by simp) (fun z hz => by simp [Value.ownBlock] at hz; omega)
    have HB2 := hidR (keepb hb HB1.out)
    have HV2 := hidR (HV1.out.below hb)
    have HM2 := hidR (own_rwg ha)
    have HT2 := hidR (HT.out.keep HB2.out)
    clear ha hgrow hb al1 HB1 HV1
    have K1 := table6_any F (.slice ao2 l.length c2) l w2 HT2.out HM2.out (by omega)
    have K2 := fun w h => rtab6_any F (.slice ao l.length c) l w h (by omega)
    have K3 := fun w h1 h2 => sameSegs_any (.slice ao2 l.length c2) (.slice ao l.length c) l w h1 h2 (by omega)
    have hbl : (tL F l).length ≤ 1000000000 := by
      have h1 := covR_len F l
      unfold tL tabL
      split
      · split
        · omega
        · simp
      · simp
    have K4 := fun v1 v2 w h1 h2 => sameT_any (tW F l) v1 v2 (tL F l) w h1 h2 hbl
    clear hbl
    revert K1 K2 K4
    generalize tW F l = tw
    generalize tX F l = tx
    generalize tL F l = tl
    intro K1 K2 K4
    go_wp2_with fail
    refine K1.mono ?_
    rintro e w3 ⟨⟨va, rfl, ha⟩, hb⟩
    obtain ⟨aa, ca, rfl⟩ := own_form ha
    have b3 := bl1 w3 (.cells #[.int .i64 tw, .slice aa tl.length ca] 26)
    have HA3 := hidR ((own_rwr ha).below b3)
    have HU3 := hidR (att_new w3 w3.heap.size tw (.slice aa tl.length ca) 26 rfl)
    have HB3 := hidR (keepb b3 (keepb hb HB2.out))
    have HV3 := hidR ((HV2.out.below hb).below b3)
    have HM3 := hidR ((HM2.out.below hb).below b3)
    clear K1 ha hb b3 HB2 HV2 HM2 HT2
    have K2' := K2 _ HV3.out
    go_wp2_with fail
    refine K2'.mono ?_
    rintro e w4 ⟨⟨vb, rfl, ha⟩, hb⟩
    obtain ⟨ab, cb, rfl⟩ := own_form ha
    have b4 := bl1 w4 (.cells #[.int .i64 tw, .slice ab tl.length cb] 26)
    have HA4 := hidR ((HA3.out.below hb).below b4)
    have HC4 := hidR ((own_rwr ha).below b4)
    have HU4 := hidR ((HU3.out.below hb).below b4)
    have HW4 := hidR (att_new w4 w4.heap.size tw (.slice ab tl.length cb) 26 rfl)
    have HB4 := hidR (keepb b4 (keepb hb HB3.out))
    have HV4 := hidR ((HV3.out.below hb).below b4)
    have HM4 := hidR ((HM3.out.below hb).below b4)
    clear K2 K2' ha hb b4 HB3 HV3 HM3 HA3 HU3
    have K3' := K3 _ HM4.out HV4.out
    go_wp2_with fail
    refine K3'.mono ?_
    rintro e w5 ⟨rfl, hb⟩
    have HB5 := hidR (keepb hb HB4.out)
    obtain ⟨p0, p1⟩ := HU4.out.below hb
    obtain ⟨q0, q1⟩ := HW4.out.below hb
    have K4' := K4 _ _ _ (HA4.out.below hb) (HC4.out.below hb)
    have dx : (tx == tx) = true := by simp
    clear K3 K3' K4 hb HB4 HV4 HM4 HA4 HC4 HU4 HW4
    go_wp2_with fail
    refine K4'.mono ?_
    rintro e w6 ⟨rfl, hb⟩
    have HB6 := hidR (keepb hb HB5.out)
    clear K4' hb HB5 p0 p1 q0 q1
    go_wp2
    go_ret
    exact ⟨rfl, HB6.out⟩
end Go.Proofs.YtddjeplceioenaaDoor
/-
  How a prefix that is handed in reads as data.
-/
namespace Go.Proofs.YtddjeplceioenaaDoor
open Go.ChangeShapes Go.WideShapes Go.ChangeAt Go.RowKit Go.Joins
set_option linter.unusedSimpArgs false
set_option linter.unusedVariables false

theorem Tryd.cellsW : Tryd.prog.cellsOf 37 = 2 := by kernel_rfl
theorem Tryd.cellsP : Tryd.prog.cellsOf 40 = 3 := by kernel_rfl
theorem Tryd.cellsI : Tryd.prog.cellsOf 3 = 1 := by kernel_rfl
theorem Tryd.cellsU : Tryd.prog.cellsOf 35 = 1 := by kernel_rfl
section
variable {H : Type} {enc : TypeId × Value → H} {w : World} {base : Nat} {spare : Nat → Bool} {held : Bool}
set_option maxRecDepth 100000 in
theorem open_pfx {r : Reach} {b0 : Nat} {v : Value} {d : DataW H} {p : List MemPlace} (hv : Value.okWide Tryd.prog w r b0 40 v) (h : DataW.Trod enc Tryd.prog w base spare held 40 v d p) :
    ∃ a b n : Int, v = .agg #[.int .u64 a, .int .u64 b, .int .i64 n] ∧ d = .agg [.agg [.lit (.int .u64 a), .lit (.int .u64 b)], .lit (.int .i64 n)] ∧ p = [] ∧ (Lit.int .u64 a).wf = true ∧ (Lit.int .u64 b).wf = true ∧ (Lit.int .i64 n).wf = true := by
  obtain ⟨cs, rfl, hsz⟩ := okWide_struct Tryd.underlying40 hv
  obtain ⟨c0, c1, c2, rfl⟩ := array3 (hsz.trans Tryd.cellsP)
  obtain ⟨fuel, hf⟩ := h
  obtain ⟨y0, y1, n, hx, _, h0, h1⟩ := trod_struct2 Tryd.underlying40 hf
  have h0' : DataW.trod enc Tryd.prog w base spare held n 37 [c0, c1] = some y0 := by simpa [Value.cells, Tryd.cellsW] using h0
  have h1' : DataW.trod enc Tryd.prog w base spare held n 3 [c2] = some y1 := by simpa [Value.cells, Tryd.cellsI] using h1
  obtain ⟨u0, u1, m, hu, _, g0, g1⟩ := trod_struct2 Tryd.underlying37 h0'
  have g0' : DataW.trod enc Tryd.prog w base spare held m 35 [c0] = some u0 := by simpa [Value.cells, Tryd.cellsU] using g0
  have g1' : DataW.trod enc Tryd.prog w base spare held m 35 [c1] = some u1 := by simpa [Value.cells, Tryd.cellsU] using g1
  obtain ⟨a, ea, rfl, wa⟩ := DataW.trod_int Tryd.underlying35 g0'
  obtain ⟨b, eb, rfl, wb⟩ := DataW.trod_int Tryd.underlying35 g1'
  obtain ⟨k, ek, rfl, wk⟩ := DataW.trod_int Tryd.underlying3 h1'
  simp at ea eb ek
  subst ea eb ek hu
  simp only [Prod.mk.injEq] at hx
  exact ⟨a, b, k, rfl, hx.1, by simpa using hx.2, wa, wb, wk⟩
set_option maxRecDepth 100000 in
theorem shut_pfx {a b n : Int} (wa : (Lit.int .u64 a).wf = true) (wb : (Lit.int .u64 b).wf = true) (wn : (Lit.int .i64 n).wf = true) :
    DataW.Trod enc Tryd.prog w base spare held 40 (.agg #[.int .u64 a, .int .u64 b, .int .i64 n]) (.agg [.agg [.lit (.int .u64 a), .lit (.int .u64 b)], .lit (.int .i64 n)]) [] := by
  have f : ∀ {z : Int}, (Lit.int .u64 z).wf = true → DataW.trod enc Tryd.prog w base spare held 1 35 [.int .u64 z] = some (.lit (.int .u64 z), []) := fun hz => by simp [DataW.trod, Tryd.underlying35, hz]
  have g : DataW.trod enc Tryd.prog w base spare held 2 3 [.int .i64 n] = some (.lit (.int .i64 n), []) := by simp [DataW.trod, Tryd.underlying3, wn]
  have s : DataW.trod enc Tryd.prog w base spare held 2 37 [.int .u64 a, .int .u64 b] = some (.agg [.lit (.int .u64 a), .lit (.int .u64 b)], []) := by
    have := trod_struct2_mk (enc := enc) (w := w) (base := base) (spare := spare) (held := held) (n := 1) (cs := [.int .u64 a, .int .u64 b]) Tryd.underlying37 (by simp [Tryd.cellsW]) (by simpa [Tryd.cellsU] using f wa) (by simpa [Tryd.cellsU] using f wb)
    simpa using this
  have := trod_struct2_mk (enc := enc) (w := w) (base := base) (spare := spare) (held := held) (n := 2) (cs := [.int .u64 a, .int .u64 b, .int .i64 n]) Tryd.underlying40 (by simp [Tryd.cellsP]) (by simpa [Tryd.cellsW] using s) (by simpa [Tryd.cellsI] using g)
  exact ⟨3, by simpa [Value.cells] using this⟩
end
end Go.Proofs.YtddjeplceioenaaDoor
/-
  How a list of segments that is handed in reads as data.
-/
namespace Go.Proofs.YtddjeplceioenaaDoor
open Go.ChangeShapes Go.WideShapes Go.ChangeAt Go.RowKit Go.Joins
set_option linter.unusedSimpArgs false
set_option linter.unusedVariables false

theorem Tryd.laidOut : laidOutB Tryd.prog = true := by kernel_rfl
theorem Tryd.cellsG : Tryd.prog.cellsOf 46 = 5 := by kernel_rfl
theorem rowG_all {W : World} {b off : Nat} (l : List Sg) (h : ∀ i (hi : i < l.length), W.cell? ⟨b, off + i * 5, none⟩ = some (.int .u64 (hI l[i].1.1)) ∧ W.cell? ⟨b, off + (i * 5 + 1), none⟩ = some (.int .u64 (lI l[i].1.1)) ∧ W.cell? ⟨b, off + (i * 5 + 2), none⟩ = some (.int .u64 (hI l[i].1.2)) ∧ W.cell? ⟨b, off + (i * 5 + 3), none⟩ = some (.int .u64 (lI l[i].1.2)) ∧ W.cell? ⟨b, off + (i * 5 + 4), none⟩ = some (.int .i64 l[i].2)) :
    ∀ j u, (rowG l)[j]? = some u → W.cell? ⟨b, off + j, none⟩ = some u := by
  intro j u hj
  have hlt : j < (rowG l).length := (List.getElem?_eq_some_iff.1 hj).1
  rw [rowG_len] at hlt
  have hi : j / 5 < l.length := by omega
  obtain ⟨a0, a1, a2, a3, a4⟩ := h (j / 5) hi
  obtain ⟨b0, b1, b2, b3, b4⟩ := rowG_get l (j / 5) hi
  have hm : j % 5 = 0 ∨ j % 5 = 1 ∨ j % 5 = 2 ∨ j % 5 = 3 ∨ j % 5 = 4 := by omega
  rcases hm with hm | hm | hm | hm | hm
  · have e : j = j / 5 * 5 := by omega
    rw [e, b0] at hj
    rw [e, ← hj]; exact a0
  · have e : j = j / 5 * 5 + 1 := by omega
    rw [e, b1] at hj
    rw [e, ← hj]; exact a1
  · have e : j = j / 5 * 5 + 2 := by omega
    rw [e, b2] at hj
    rw [e, ← hj]; exact a2
  · have e : j = j / 5 * 5 + 3 := by omega
    rw [e, b3] at hj
    rw [e, ← hj]; exact a3
  · have e : j = j / 5 * 5 + 4 := by omega
    rw [e, b4] at hj
    rw [e, ← hj]; exact a4
section
variable {H : Type} {enc : TypeId × Value → H} {w : World} {spare : Nat → Bool} {held : Bool}
set_option maxRecDepth 100000 in
theorem trod_word {n : Nat} {c0 c1 : Value} {x : DataW H × List MemPlace} (h : DataW.trod enc Tryd.prog w 0 spare held n 37 [c0, c1] = some x) :
    ∃ a b : Int, c0 = .int .u64 a ∧ c1 = .int .u64 b ∧ (Lit.int .u64 a).wf = true ∧ (Lit.int .u64 b).wf = true := by
  obtain ⟨u0, u1, m, hu, _, g0, g1⟩ := trod_struct2 Tryd.underlying37 h
  have g0' : DataW.trod enc Tryd.prog w 0 spare held m 35 [c0] = some u0 := by simpa [Value.cells, Tryd.cellsU] using g0
  have g1' : DataW.trod enc Tryd.prog w 0 spare held m 35 [c1] = some u1 := by simpa [Value.cells, Tryd.cellsU] using g1
  obtain ⟨a, ea, rfl, wa⟩ := DataW.trod_int Tryd.underlying35 g0'
  obtain ⟨b, eb, rfl, wb⟩ := DataW.trod_int Tryd.underlying35 g1'
  simp at ea eb
  exact ⟨a, b, ea, eb, wa, wb⟩
set_option maxRecDepth 100000 in
theorem trod_seg {n : Nat} {c0 c1 c2 c3 c4 : Value} {x : DataW H × List MemPlace} (h : DataW.trod enc Tryd.prog w 0 spare held n 46 [c0, c1, c2, c3, c4] = some x) :
    ∃ a b a' b' k : Int, c0 = .int .u64 a ∧ c1 = .int .u64 b ∧ c2 = .int .u64 a' ∧ c3 = .int .u64 b' ∧ c4 = .int .i64 k ∧ (Lit.int .u64 a).wf = true ∧ (Lit.int .u64 b).wf = true ∧ (Lit.int .u64 a').wf = true ∧ (Lit.int .u64 b').wf = true := by
  obtain ⟨y0, y1, y2, n, hx, _, h0, h1, h2⟩ := Deep.trod_struct3 Tryd.underlying46 h
  have h0' : DataW.trod enc Tryd.prog w 0 spare held n 37 [c0, c1] = some y0 := by simpa [Value.cells, Tryd.cellsW] using h0
  have h1' : DataW.trod enc Tryd.prog w 0 spare held n 37 [c2, c3] = some y1 := by simpa [Value.cells, Tryd.cellsW] using h1
  have h2' : DataW.trod enc Tryd.prog w 0 spare held n 3 [c4] = some y2 := by simpa [Value.cells, Tryd.cellsI, Tryd.cellsW] using h2
  obtain ⟨a, b, e0, e1, wa, wb⟩ := trod_word h0'
  obtain ⟨a', b', e2, e3, wa', wb'⟩ := trod_word h1'
  obtain ⟨k, ek, rfl, wk⟩ := DataW.trod_int Tryd.underlying3 h2'
  simp at ek
  exact ⟨a, b, a', b', k, e0, e1, e2, e3, ek, wa, wb, wa', wb'⟩
theorem spot_none {W : World} {a : Addr} {u : Value} (h : W.cell? a = some u) : a = ⟨a.block, a.off, none⟩ := by
  obtain ⟨b, o, s⟩ := a
  cases s with
  | none => rfl
  | some z =>
    unfold World.cell? at h
    split at h
    · simp at h
    · cases h
set_option maxRecDepth 100000 in
theorem open_segs {r : Reach} {b0 : Nat} {v : Value} {d : DataW H} {p : List MemPlace} (hv : Value.okWide Tryd.prog w r b0 22 v) (h : DataW.Trod enc Tryd.prog w 0 (fun _ => true) held 22 v d p) :
    ∃ l : List Sg, RwG w v l ∧ (v = .slice none 0 0 ∨ ∃ a n c, v = .slice (some a) n c) := by
  obtain ⟨a0, len, cap, rfl⟩ := okWide_slice Tryd.underlying22 hv
  obtain ⟨fuel, hf⟩ := h
  rcases Deep.open_slice Tryd.underlying22 hf with ⟨hcs, hx⟩ | ⟨a, len', cap', m, n, D, Pl, hcs, _, hl, hm, hmm, hx, hel⟩
  · simp [Value.cells] at hcs
    obtain ⟨rfl, rfl, rfl⟩ := hcs
    exact ⟨[], ⟨none, 0, rfl, .inl rfl⟩, .inl rfl⟩
  · simp [Value.cells] at hcs
    obtain ⟨rfl, rfl, rfl⟩ := hcs
    simp at hmm
    subst hmm
    rw [Tryd.cellsG] at hel
    obtain ⟨f, hf⟩ := Deep.choose_lt (α := Sg) (n := len) (p := fun i x => w.cell? (a.add (i * 5)) = some (.int .u64 (hI x.1.1)) ∧ w.cell? ((a.add (i * 5)).add 1) = some (.int .u64 (lI x.1.1)) ∧ w.cell? ((a.add (i * 5)).add 2) = some (.int .u64 (hI x.1.2)) ∧ w.cell? ((a.add (i * 5)).add 3) = some (.int .u64 (lI x.1.2)) ∧ w.cell? ((a.add (i * 5)).add 4) = some (.int .i64 x.2)) (fun i hi => by
      obtain ⟨cs', h1, h2⟩ := hel i (by omega)
      obtain ⟨_, hlen, hc⟩ := World.cells?_some h1
      match cs', hlen with
      | [c0, c1, c2, c3, c4], _ =>
        obtain ⟨x, y, x', y', k, rfl, rfl, rfl, rfl, rfl, wx, wy, wx', wy'⟩ := trod_seg h2
        have bx : 0 ≤ x ∧ x < 18446744073709551616 := by simp [Lit.wf, IntKind.min, IntKind.max, IntKind.signed, IntKind.bits] at wx; omega
        have bY : 0 ≤ y ∧ y < 18446744073709551616 := by simp [Lit.wf, IntKind.min, IntKind.max, IntKind.signed, IntKind.bits] at wy; omega
        have bx' : 0 ≤ x' ∧ x' < 18446744073709551616 := by simp [Lit.wf, IntKind.min, IntKind.max, IntKind.signed, IntKind.bits] at wx'; omega
        have bY' : 0 ≤ y' ∧ y' < 18446744073709551616 := by simp [Lit.wf, IntKind.min, IntKind.max, IntKind.signed, IntKind.bits] at wy'; omega
        refine ⟨((mkW x y, mkW x' y'), k), ?_, ?_, ?_, ?_, ?_⟩
        · have := hc 0 (by omega)
          rw [hI_mk x y bx.1 bx.2]
          simpa [Addr.add] using this
        · rw [lI_mk x y bY.1 bY.2]
          simpa using hc 1 (by omega)
        · rw [hI_mk x' y' bx'.1 bx'.2]
          simpa using hc 2 (by omega)
        · rw [lI_mk x' y' bY'.1 bY'.2]
          simpa using hc 3 (by omega)
        · simpa using hc 4 (by omega))
    refine ⟨(List.range len).map f, ⟨some a, _, by simp; rfl, ?_⟩, .inr ⟨_, _, _, rfl⟩⟩
    by_cases hz : len = 0
    · subst hz
      exact .inl (by simp)
    · have h00 := (hf 0 (by omega)).1
      have ea : a = ⟨a.block, a.off, none⟩ := by
        have : a.add (0 * 5) = a := by simp [Addr.add]
        rw [this] at h00
        exact spot_none h00
      refine .inr ⟨a.block, a.off, by rw [← ea], ?_⟩
      refine rowG_all _ ?_
      intro i hi
      have hi' : i < len := by simpa using hi
      have := hf i hi'
      rw [ea] at this
      simp only [addA] at this
      simpa [Nat.add_assoc] using this
end
end Go.Proofs.YtddjeplceioenaaDoor
