/-
  Part 22 of the proof: 1 texts, one behind the other.
-/
import Derived.Test.YtoejhhoniflpeabPart21
/-
  The law TrieDown.
-/
namespace Go.Proofs.Ytoejhhoniflpeab
open Go.RowKit Go.Shelf
set_option linter.unusedSimpArgs false
set_option linter.unusedVariables false
attribute [local go_sem] Oper.semAt_some

/-- The law's variables: the table, the bits, the answer, the tree, the node's prefix. -/
structure V9 (w : World) (F : Int) (v : Value) (bv : Int) (r : Bool) (B X Pp : Nat) (px : BitVec 128) (pn : Int) (W : World) : Prop where
  t : W.heap[w.heap.size]? = some (.cells #[.int .i64 F, v] 24)
  x : W.heap[w.heap.size + 1]? = some (.cells #[.int .i64 bv] 3)
  r : W.heap[w.heap.size + 2]? = some (.cells #[.bool r] 4)
  p : W.heap[X]? = some (.cells #[.pointer (some ⟨B, 0, none⟩)] 26)
  q : W.heap[Pp]? = some (.cells #[.int .u64 (hI px), .int .u64 (lI px), .int .i64 pn] 34)
section
variable {w W W' : World} {F : Int} {v : Value} {bv pn : Int} {px : BitVec 128} {r : Bool} {B X Pp : Nat}
theorem V9.below (k : V9 w F v bv r B X Pp px pn W) (hb : Below W.heap.size W W') : V9 w F v bv r B X Pp px pn W' := ⟨(hb.block _ (blk_lt k.t)).trans k.t, (hb.block _ (blk_lt k.x)).trans k.x, (hb.block _ (blk_lt k.r)).trans k.r, (hb.block _ (blk_lt k.p)).trans k.p, (hb.block _ (blk_lt k.q)).trans k.q⟩
theorem V9.kept (k : V9 w F v bv r B X Pp px pn W) {row : Option Nat} (hg : W.grownBy W' row) (hr : ∀ r, row = some r → ∃ o : Obj, W.heap[r]? = some o ∧ o.isCells = false) : V9 w F v bv r B X Pp px pn W' := ⟨blk_kept k.t hg hr, blk_kept k.x hg hr, blk_kept k.r hg hr, blk_kept k.p hg hr, blk_kept k.q hg hr⟩
theorem V9.set (k : V9 w F v bv r B X Pp px pn W) {z o : Nat} (u : Value) (h1 : w.heap.size ≠ z) (h2 : w.heap.size + 1 ≠ z) (h3 : w.heap.size + 2 ≠ z) (h4 : X ≠ z) (h5 : Pp ≠ z) : V9 w F v bv r B X Pp px pn (W.setCell ⟨z, o, none⟩ u) := ⟨(setB u h1).trans k.t, (setB u h2).trans k.x, (setB u h3).trans k.r, (setB u h4).trans k.p, (setB u h5).trans k.q⟩
end
/-- A round: what it keeps, and the law's variables. -/
structure Rd9 (w : World) (F : Int) (v : Value) (bv : Int) (B X Pp : Nat) (px : BitVec 128) (pn : Int) (g cap wg wc : Nat) (L : List Nd) (ws : List (BitVec 128)) (H M : Nat) (V : World) (kv lv : Int) (A : World) : Prop where
  k1 : KeepsFrom M V A
  k2 : KW (fun z => z = B ∨ z = g) (M + 2) V A
  tr : TrT A B F g cap wg wc L ws
  v9 : V9 w F v bv false B X Pp px pn A
  k : Cl1 A H (.int .i64 kv)
  l : Cl1 A (H + 1) (.int .i64 lv)
  b : Below w.heap.size w A
section
variable {w V A A' : World} {F : Int} {v : Value} {bv pn : Int} {px : BitVec 128} {B X Pp g cap wg wc : Nat} {L : List Nd} {ws : List (BitVec 128)} {H M : Nat} {kv lv : Int}
theorem Rd9.below (k : Rd9 w F v bv B X Pp px pn g cap wg wc L ws H M V kv lv A) (hb : Below A.heap.size A A') : Rd9 w F v bv B X Pp px pn g cap wg wc L ws H M V kv lv A' :=
  ⟨⟨Nat.le_trans k.k1.1 hb.size, fun z o h1 h2 h3 => by
    have := k.k1.same z o h1 h2 h3
    exact (hb.block z (blk_lt this)).trans this⟩, k.k2.trans (kw_below hb), k.tr.below hb, k.v9.below hb, k.k.below hb, k.l.below hb, keepb hb k.b⟩
/-- What lies where. -/
def Wh9 (w : World) (B X Pp g wg H M : Nat) : Prop := ((w.heap.size + 2 < H ∧ X < H ∧ Pp < H) ∧ B < H ∧ g < H ∧ wg < H) ∧ H + 1 < M
theorem Rd9.set (k : Rd9 w F v bv B X Pp px pn g cap wg wc L ws H M V kv lv A) (hw : Wh9 w B X Pp g wg H M) (b : Nat) (hb : b = H ∨ b = H + 1) (u : Value) : KeepsFrom M V (A.setCell ⟨b, 0, none⟩ u) ∧ KW (fun z => z = B ∨ z = g) (M + 2) V (A.setCell ⟨b, 0, none⟩ u) ∧ TrT (A.setCell ⟨b, 0, none⟩ u) B F g cap wg wc L ws ∧ V9 w F v bv false B X Pp px pn (A.setCell ⟨b, 0, none⟩ u) ∧ Below w.heap.size w (A.setCell ⟨b, 0, none⟩ u) := by
  obtain ⟨⟨⟨a1, a2, a7⟩, a3, a4, a5⟩, a6⟩ := hw
  refine ⟨⟨by simpa using k.k1.1, fun z o h1 h2 h3 => (setB u (by omega)).trans (k.k1.same z o h1 h2 h3)⟩, k.k2.trans (kw_set (by rintro (q | q) <;> omega) (by omega) A u), k.tr.heap (setB u (by omega)) (setB u (by omega)) (setB u (by omega)), k.v9.set u (by omega) (by omega) (by omega) (by omega) (by omega), k.b.setCell (p := ⟨b, 0, none⟩) (by show w.heap.size ≤ b; omega) u⟩
theorem Rd9.setL (k : Rd9 w F v bv B X Pp px pn g cap wg wc L ws H M V kv lv A) (hw : Wh9 w B X Pp g wg H M) (m : Int) : Rd9 w F v bv B X Pp px pn g cap wg wc L ws H M V kv m (A.setCell ⟨H + 1, 0, none⟩ (.int .i64 m)) := by
  obtain ⟨c1, c2, c3, c4, c5⟩ := k.set hw (H + 1) (.inr rfl) (.int .i64 m)
  exact ⟨c1, c2, c3, c4, k.k.heap (setB _ (by omega)), k.l.set _, c5⟩
theorem Rd9.setK (k : Rd9 w F v bv B X Pp px pn g cap wg wc L ws H M V kv lv A) (hw : Wh9 w B X Pp g wg H M) (m : Int) : Rd9 w F v bv B X Pp px pn g cap wg wc L ws H M V m lv (A.setCell ⟨H, 0, none⟩ (.int .i64 m)) := by
  obtain ⟨c1, c2, c3, c4, c5⟩ := k.set hw H (.inl rfl) (.int .i64 m)
  exact ⟨c1, c2, c3, c4, k.k.set _, k.l.heap (setB _ (by omega)), c5⟩
end
set_option maxRecDepth 100000 in
theorem seqnil9 (a b c : Value) (W : World) : (binOp BinOp.eql 38 (.func (.func 24) #[.agg #[a, b, c]] #[]) .nilFunc).run Try.prog W = .ok (.bool false) W := by
  kernel_rfl
set_option maxRecDepth 100000 in
set_option maxHeartbeats 32000000 in
theorem trieDown_any (F : Int) (v : Value) (l : List Rte) (n bits : Int) (w : World) (hv : RwR w v l) :
    Calls Try.prog 3 #[.agg #[.int .i64 F, v], .int .i64 n, .int .i64 bits] w fun e w' => e = .returned (.bool true) ∧ Below w.heap.size w w' := by
  have q1 := bl1 w (.cells #[.int .i64 F, v] 24)
  have q2 := bl1 (w.alloc (.cells #[.int .i64 F, v] 24)) (.cells #[.int .i64 bits] 3)
  have q3 := bl1 ((w.alloc (.cells #[.int .i64 F, v] 24)).alloc (.cells #[.int .i64 bits] 3)) (.cells #[.bool false] 4)
  have HB0 := hidX (keepb q3 (keepb q2 q1))
  have HV0 := hidX (((hv.below q1).below q2).below q3)
  have s1 : (w.alloc (.cells #[.int .i64 F, v] 24)).heap.size = w.heap.size + 1 := by simp
  have s2 : ((w.alloc (.cells #[.int .i64 F, v] 24)).alloc (.cells #[.int .i64 bits] 3)).heap.size = w.heap.size + 2 := by simp
  have HL0 : Hid (∀ X, X = (((w.alloc (.cells #[.int .i64 F, v] 24)).alloc (.cells #[.int .i64 bits] 3)).alloc (.cells #[.bool false] 4)) → X.heap[w.heap.size]? = some (.cells #[.int .i64 F, v] 24) ∧ X.heap[w.heap.size + 1]? = some (.cells #[.int .i64 bits] 3) ∧ X.heap[w.heap.size + 2]? = some (.cells #[.bool false] 4)) := hidX (by
    rintro X rfl
    refine ⟨?_, ?_, ?_⟩
    · rw [q3.block _ (by omega), q2.block _ (by omega)]
      exact Array.getElem?_push_size
    · rw [q3.block _ (by omega), ← s1]
      exact Array.getElem?_push_size
    · rw [← s2]
      exact Array.getElem?_push_size)
  obtain ⟨ao, c, rfl, -⟩ := hv
  have KK := fun w => known8_any w
  clear q1 q2 q3 s1 s2
  refine (callsIn_wide (n := 9)).1 ?_
  refine callsIn_of_wp_marks Try.func3 rfl trivial ?_ rfl
  simp only [Try.ntmps3, List.size_toArray, List.length_cons, List.length_nil, Nat.reduceAdd, Nat.reduceSub, Array.replicate_succ, Array.replicate_zero, List.push_toArray, List.append_toArray, List.nil_append, List.cons_append]
  refine wpIn_wide.2 ?_
  go_wp2_with fail
  revert HB0 HV0 HL0
  generalize ((w.alloc (.cells #[.int .i64 F, (.slice ao l.length c)] 24)).alloc (.cells #[.int .i64 bits] 3)).alloc (.cells #[.bool false] 4) = W3
  intro HB0 HV0 HL0
  refine (KK W3).mono ?_
  rintro e w1 ⟨rfl, hb⟩
  obtain ⟨k1, k2, k3⟩ := HL0.out W3 rfl
  have HB1 := hidX (keepb hb HB0.out)
  have HV1 := hidX (HV0.out.below hb)
  have HL1 := hidX (And.intro ((hb.block _ (blk_lt k1)).trans k1) (And.intro ((hb.block _ (blk_lt k2)).trans k2) ((hb.block _ (blk_lt k3)).trans k3)))
  have hw1 : w.heap.size + 2 < w1.heap.size := blk_lt HL1.out.2.2
  clear KK hb k1 k2 k3 HB0 HV0 HL0
  have KM := made8_any F (.slice ao l.length c) l w1 HV1.out
  have t0 := at_block HL1.out.1 0 (.int .i64 F) rfl
  have t1 := at_block HL1.out.1 1 (.slice ao l.length c) rfl
  go_wp2_with fail
  refine KM.mono ?_
  rintro e w2 ⟨hM, hb⟩
  have HB2 := hidX (keepb hb HB1.out)
  have HV2 := hidX (HV1.out.below hb)
  have HL2 := hidX (And.intro ((hb.block _ (blk_lt HL1.out.1)).trans HL1.out.1) (And.intro ((hb.block _ (blk_lt HL1.out.2.1)).trans HL1.out.2.1) ((hb.block _ (blk_lt HL1.out.2.2)).trans HL1.out.2.2)))
  clear KM hb t0 t1 HB1 HV1 HL1
  have hw2 : w.heap.size + 2 < w2.heap.size := blk_lt HL2.out.2.2
  rcases hM with ⟨hn, rfl⟩ | ⟨⟨hR, hl3⟩, B, g, cap, wg, wc, ws, L, rfl, k1, k2, hBw, hgw, hww⟩
  · have q5 := bl1 w2 (.cells #[.pointer none] 26)
    have KR := rightI_any F (.slice ao l.length c) l _ (HV2.out.below q5)
    have t0 := at_block HL2.out.1 0 (.int .i64 F) rfl
    have t1 := at_block HL2.out.1 1 (.slice ao l.length c) rfl
    have HB5 := hidX (keepb q5 HB2.out)
    have HT5 := hidX ((q5.block _ (blk_lt HL2.out.1)).trans HL2.out.1)
    have HR5 := hidX ((q5.block _ (blk_lt HL2.out.2.2)).trans HL2.out.2.2)
    have hw3 : w.heap.size < w2.heap.size := by omega
    clear q5 HB2 HV2 HL2
    go_wp2_with fail
    clear t0 t1
    revert KR HB5 HT5 HR5
    generalize w2.alloc (.cells #[.pointer none] 26) = W5
    intro KR HB5 HT5 HR5
    refine KR.mono ?_
    rintro e w3 ⟨⟨r, hr, rfl⟩, hb⟩
    have HB6 := hidX (keepb hb HB5.out)
    have HT6 := hidX ((hb.block _ (blk_lt HT5.out)).trans HT5.out)
    have HR6 := hidX ((hb.block _ (blk_lt HR5.out)).trans HR5.out)
    clear KR hb HB5 HT5 HR5
    have t0 := at_block HT6.out 0 (.int .i64 F) rfl
    have t1 := at_block HT6.out 1 (.slice ao l.length c) rfl
    have r0 := at_block HR6.out 0 (.bool false) rfl
    have rf := fr_blk (j := 0) HR6.out
    have HRs := hidX (set_blk (o := 0) HR6.out (.bool true))
    have HBs := hidX (HB6.out.setCell (p := ⟨w.heap.size + 2, 0, none⟩) (by simp) (.bool true))
    cases r with
    | false =>
      clear hr hn
      go_wp2
      have z0 := at_block HRs.out 0 (.bool true) rfl
      refine ⟨.bool true, ?_, rfl, HBs.out⟩
      simp [results, Try.results3, go_sem, z0]
    | true =>
      have hl : (300 : Int) < (l.length : Int) := by
        have := hr.mp rfl
        apply Classical.byContradiction; intro q
        exact hn ⟨this, by omega⟩
      clear hr hn
      go_wp2
      have z0 := at_block HRs.out 0 (.bool true) rfl
      refine ⟨.bool true, ?_, rfl, HBs.out⟩
      simp [results, Try.results3, go_sem, z0, hl]
  · have Hx := hidX (Ctx.of k2 (right_zero hR))
    have hLp := k2.pos
    have hLl : L.length ≤ 38401 := by have := k2.nl; omega
    have q5 := bl1 w2 (.cells #[.pointer (some ⟨B, 0, none⟩)] 26)
    have b0 := at_block HL2.out.2.1 0 (.int .i64 bits) rfl
    have hw3 : w.heap.size < w2.heap.size := by omega
    have hw4 : w.heap.size + 1 < w2.heap.size := by omega
    have HB5 := hidX (keepb q5 HB2.out)
    have HTr5 := hidX (k1.below q5)
    have HL5 : Hid ((w2.alloc (.cells #[.pointer (some ⟨B, 0, none⟩)] 26)).heap[w.heap.size]? = some (.cells #[.int .i64 F, (.slice ao l.length c)] 24) ∧ (w2.alloc (.cells #[.pointer (some ⟨B, 0, none⟩)] 26)).heap[w.heap.size + 1]? = some (.cells #[.int .i64 bits] 3) ∧ (w2.alloc (.cells #[.pointer (some ⟨B, 0, none⟩)] 26)).heap[w.heap.size + 2]? = some (.cells #[.bool false] 4) ∧ (w2.alloc (.cells #[.pointer (some ⟨B, 0, none⟩)] 26)).heap[w2.heap.size]? = some (.cells #[.pointer (some ⟨B, 0, none⟩)] 26)) := hidX ⟨(q5.block _ (blk_lt HL2.out.1)).trans HL2.out.1, (q5.block _ (blk_lt HL2.out.2.1)).trans HL2.out.2.1, (q5.block _ (blk_lt HL2.out.2.2)).trans HL2.out.2.2, Array.getElem?_push_size⟩
    have HXn : Hid (w.heap.size + 2 < w2.heap.size) := hidX hw2
    have Hvn : Hid (w.heap.size + 2 < B ∧ w.heap.size + 2 < g ∧ w.heap.size + 2 < wg) := hidX ⟨by omega, by omega, by omega⟩
    have KL := fun W h => tlen_any B F g cap (.slice (some ⟨wg, 0, none⟩) ws.length wc) L W h
    have hn0 : ¬ (L.length : Int) = 0 := by omega
    have hnb : ((L.length : Int) == 0) = false := by rw [beq_eq_false_iff_ne]; exact hn0
    have HLp := hidX hLp
    clear q5 HB2 HV2 HL2 k1 k2 hR hBw hgw hww b0 hLp
    go_wp2_with fail
    clear hw2 hw3 hw4
    revert HB5 HTr5 HL5 HXn
    generalize w2.alloc (.cells #[.pointer (some ⟨B, 0, none⟩)] 26) = W5
    generalize w2.heap.size = X
    intro HB5 HTr5 HL5 HXn
    refine (KL W5 HTr5.out.tn).mono ?_
    rintro e w6 ⟨rfl, rfl⟩
    obtain ⟨b, hbd⟩ : ∃ b : Nat, (0 ≤ bits.tmod 130 ∧ bits.tmod 130 = (b : Int)) ∨ (bits.tmod 130 < 0 ∧ -(bits.tmod 130) = (b : Int)) := by
      by_cases h : 0 ≤ bits.tmod 130
      · exact ⟨(bits.tmod 130).toNat, .inl ⟨h, by omega⟩⟩
      · exact ⟨(-(bits.tmod 130)).toNat, .inr ⟨by omega, by omega⟩⟩
    have hb9 : b ≤ 130 := by
      have h1 := tmod_ways bits 130 (by omega)
      have h2 := Int.emod_nonneg bits (b := 130) (by omega)
      have h3 := Int.emod_lt_of_pos bits (b := 130) (by omega)
      omega
    obtain ⟨k, hkk⟩ : ∃ k : Nat, k < L.length ∧ ((0 ≤ n.tmod (L.length : Int) ∧ n.tmod (L.length : Int) = (k : Int)) ∨ (n.tmod (L.length : Int) < 0 ∧ n.tmod (L.length : Int) + L.length = (k : Int) ∧ -(L.length : Int) ≤ n.tmod (L.length : Int))) := by
      have h1 := tmod_ways n (L.length : Int) (by have := HLp.out; omega)
      have h2 := Int.emod_nonneg n (b := (L.length : Int)) (by omega)
      have h3 := Int.emod_lt_of_pos n (b := (L.length : Int)) (by have := HLp.out; omega)
      by_cases h : 0 ≤ n.tmod (L.length : Int)
      · exact ⟨(n.tmod (L.length : Int)).toNat, by omega, .inl ⟨h, by omega⟩⟩
      · exact ⟨(n.tmod (L.length : Int) + L.length).toNat, by omega, .inr ⟨by omega, by omega, by omega⟩⟩
    obtain ⟨tn, htn⟩ : ∃ tn, n.tmod (L.length : Int) = tn := ⟨_, rfl⟩
    obtain ⟨tb, htb⟩ : ∃ tb, bits.tmod 130 = tb := ⟨_, rfl⟩
    rw [htn] at hkk
    rw [htb] at hbd
    obtain ⟨hkL, hkk⟩ := hkk
    have hkk9 := hkk
    clear hkk9
    rcases hkk with hkk | hkk
    · rcases hbd with hbd | hbd
      · obtain ⟨h1, h2⟩ := hkk
        subst h2
        have w1 : IntKind.i64.wrap (k : Int) = (k : Int) := by rw [IntKind.wrap_i64]; omega
        have h1 : ¬ (k : Int) < 0 := by omega
        obtain ⟨g1, g2⟩ := hbd
        subst g2
        have w3 : IntKind.i64.wrap (b : Int) = (b : Int) := by rw [IntKind.wrap_i64]; omega
        have g1 : ¬ (b : Int) < 0 := by omega
        have p0 := at_block HL5.out.2.2.2 0 (.pointer (some ⟨B, 0, none⟩)) rfl
        have b0 := at_block HL5.out.2.1 0 (.int .i64 bits) rfl
        have bf := fr_blk (j := 0) HL5.out.2.1
        have hX2 : ¬ X = w.heap.size + 1 := by have := HXn.out; omega
        have hs : ∀ z, ¬ z = w.heap.size + 1 → (w6.setCell ⟨w.heap.size + 1, 0, none⟩ (.int .i64 (b : Int))).heap[z]? = w6.heap[z]? := fun z hz => by rw [setB _ hz]
        have HB7 := hidX (HB5.out.setCell (p := ⟨w.heap.size + 1, 0, none⟩) (by simp) (.int .i64 (b : Int)))
        have HTr7 := hidX (HTr5.out.heap (hs B (by have := Hvn.out.1; omega)) (hs g (by have := Hvn.out.2.1; omega)) (hs wg (by have := Hvn.out.2.2; omega)))
        have HL7 : Hid ((w6.setCell ⟨w.heap.size + 1, 0, none⟩ (.int .i64 (b : Int))).heap[w.heap.size]? = some (.cells #[.int .i64 F, (.slice ao l.length c)] 24) ∧ (w6.setCell ⟨w.heap.size + 1, 0, none⟩ (.int .i64 (b : Int))).heap[w.heap.size + 1]? = some (.cells #[.int .i64 (b : Int)] 3) ∧ (w6.setCell ⟨w.heap.size + 1, 0, none⟩ (.int .i64 (b : Int))).heap[w.heap.size + 2]? = some (.cells #[.bool false] 4) ∧ (w6.setCell ⟨w.heap.size + 1, 0, none⟩ (.int .i64 (b : Int))).heap[X]? = some (.cells #[.pointer (some ⟨B, 0, none⟩)] 26)) := hidX ⟨(hs _ (by omega)).trans HL5.out.1, by simpa using set_blk (o := 0) HL5.out.2.1 (.int .i64 (b : Int)), (hs _ (by omega)).trans HL5.out.2.2.1, (hs _ hX2).trans HL5.out.2.2.2⟩
        have HT6 := HTr5
        clear HB5 HTr5 HL5 hs
        go_wp2_with fail
        clear p0 b0 bf hX2 HT6
        revert HB7 HTr7 HL7
        generalize w6.setCell ⟨w.heap.size + 1, 0, none⟩ (.int .i64 (b : Int)) = W7
        intro HB7 HTr7 HL7
        refine (tat8_any Hx.out B g cap wg wc k W7 HTr7.out hkL).mono ?_
        rintro e w8 ⟨rfl, hb⟩
        have HB8 := hidX (keepb hb HB7.out)
        have hT8 := HTr7.out.below hb
        have hL8 := HL7.out
        have c1 := (hb.block _ (blk_lt hL8.1)).trans hL8.1
        have c2 := (hb.block _ (blk_lt hL8.2.1)).trans hL8.2.1
        have c3 := (hb.block _ (blk_lt hL8.2.2.1)).trans hL8.2.2.1
        have c4 := (hb.block _ (blk_lt hL8.2.2.2)).trans hL8.2.2.2
        have q1 := bl1 w8 (.cells #[.int .u64 (hI (pfA ws L k)), .int .u64 (lI (pfA ws L k)), .int .i64 (ln L k)] 34)
        have HB9 := hidX (keepb q1 HB8.out)
        have HTr9 := hidX (hT8.below q1)
        have HL9 : Hid (V9 w F (.slice ao l.length c) (b : Int) false B X w8.heap.size (pfA ws L k) (ln L k) (w8.alloc (.cells #[.int .u64 (hI (pfA ws L k)), .int .u64 (lI (pfA ws L k)), .int .i64 (ln L k)] 34))) := hidX ⟨(q1.block _ (blk_lt c1)).trans c1, (q1.block _ (blk_lt c2)).trans c2, (q1.block _ (blk_lt c3)).trans c3, (q1.block _ (blk_lt c4)).trans c4, Array.getElem?_push_size⟩
        have p0 := at_block c4 0 (.pointer (some ⟨B, 0, none⟩)) rfl
        have b0 := at_block c2 0 (.int .i64 (b : Int)) rfl
        have l1 : X < w8.heap.size := blk_lt c4
        have l2 : w.heap.size + 1 < w8.heap.size := blk_lt c2
        have HPl : Hid (w.heap.size + 2 < w8.heap.size ∧ X < w8.heap.size) := hidX ⟨blk_lt c3, blk_lt c4⟩
        clear hb HB7 HTr7 HL7 HB8 hT8 hL8 c1 c2 c3 c4 q1
        go_wp2_with fail
        clear p0 b0 l1 l2
        revert HB9 HTr9 HL9 HPl
        generalize w8.alloc (.cells #[.int .u64 (hI (pfA ws L k)), .int .u64 (lI (pfA ws L k)), .int .i64 (ln L k)] 34) = W9
        generalize w8.heap.size = Pp
        intro HB9 HTr9 HL9 HPl
        refine (tdown_any B (k : Int) (b : Int) W9).mono ?_
        rintro e w9 ⟨rfl, rfl⟩
        have q1 := bl1 w9 (.cells #[.int .i64 0] 3)
        have q2 := bl1 (w9.alloc (.cells #[.int .i64 0] 3)) (.cells #[.int .i64 (-1)] 3)
        have s1 : (w9.alloc (.cells #[.int .i64 0] 3)).heap.size = w9.heap.size + 1 := by simp
        have HB10 := hidX (keepb q2 (keepb q1 HB9.out))
        have HTr10 := hidX ((HTr9.out.below q1).below q2)
        have HL10 := hidX ((HL9.out.below q1).below q2)
        have HK10 := hidX ((cl1_new w9 w9.heap.size (.int .i64 0) 3 rfl).below q2)
        have HA10 := hidX (cl1_new (w9.alloc (.cells #[.int .i64 0] 3)) (w9.heap.size + 1) (.int .i64 (-1)) 3 s1.symm)
        have HHn : Hid ((w.heap.size + 2 < w9.heap.size ∧ X < w9.heap.size ∧ Pp < w9.heap.size) ∧ B < w9.heap.size ∧ g < w9.heap.size ∧ wg < w9.heap.size) := hidX ⟨⟨blk_lt HL9.out.r, blk_lt HL9.out.p, blk_lt HL9.out.q⟩, cell_in HTr9.out.tn.w, cell_in (HTr9.out.tn.row 0 Hx.out.t.pos).1, cell_in (HTr9.out.wd 0 (by rw [Hx.out.t.wl]; omega)).1⟩
        have E0 := fun W => seqnil9 (.pointer (some ⟨B, 0, none⟩)) (.int .i64 (k : Int)) (.int .i64 (b : Int)) W
        clear q1 q2 s1 HB9 HTr9 HL9
        go_wp2_with fail
        clear E0
        revert HB10 HTr10 HL10 HK10 HA10 HHn
        generalize (w9.alloc (.cells #[.int .i64 0] 3)).alloc (.cells #[.int .i64 (-1)] 3) = Wl
        generalize hHe : w9.heap.size = H
        intro HB10 HTr10 HL10 HK10 HA10 HHn
        clear hHe
        obtain ⟨en, hE, -, -⟩ := Hx.out.t.node hkL
        have hWl : H + 1 < Wl.heap.size := HA10.out.lt
        have hdw : dwnL L (k : Int) (b : Int) = atL L (ln L k + b) k (en - k) := by
          unfold dwnL
          rw [if_pos ⟨by unfold isN; simp; omega, by omega⟩, Int.toNat_natCast]
          exact Hx.out.t.dn b k en hE
        have Hdw := hidX hdw
        have HE := hidX hE
        have hvn := Hvn.out
        have hhn := HHn.out
        clear hdw hE
        refine (wpIn_wide (n := 9)).1 ?_
        refine rangeYA 9 (by decide) (gf := 24) (ba := #[.agg #[.pointer (some ⟨B, 0, none⟩), .int .i64 (k : Int), .int .i64 (b : Int)]]) (lb := #[]) rfl (enters_of Try.func24 (by kernel_rfl) rfl)
          (below_each (9 - 1) (fun z => z = B ∨ z = g) (Wl.heap.size + 2) B F g cap (.slice (some ⟨wg, 0, none⟩) ws.length wc) L (k : Int) (b : Int) (by omega) Wl HTr10.out.tn (.inl (.inl rfl)) (.inl (.inr rfl)) Hx.out.ok (by have := Hx.out.len; omega)) (Nat.le_refl _) (fun A => KW.refl _ _ _) (fun h k => h.trans k) (fun V o o' h1 h2 => kw_put (by rintro (q | q) <;> omega) (by omega) V o o' h1 h2) (Below.refl _ _) (fun _ => rfl)
          (fun pre V => (TrT V B F g cap wg wc L ws ∧ V9 w F (.slice ao l.length c) (b : Int) false B X Pp (pfA ws L k) (ln L k) V ∧ Cl1 V H (.int .i64 (pre.length : Int)) ∧ Cl1 V (H + 1) (.int .i64 (lstI pre))) ∧ Below w.heap.size w V)
          (fun c pre V => False)
          (OwnFrom.and (Own.from (fun s A B row hs hg hr => ⟨hs.1.kept hg hr, hs.2.1.kept hg hr, hs.2.2.1.kept hg hr, hs.2.2.2.kept hg hr⟩) _) (ownFrom_below (Nat.le_refl _) (by omega)))
          (fun c s A B row hs hg hr => hs)
          ⟨⟨HTr10.out, HL10.out, HK10.out, HA10.out⟩, HB10.out⟩
          ?AX00 ?assign00 ?body00 ?done00 ?stop00
        case assign00 =>
          intro lo y V K hK
          unfold encI
          simp only [List.zip_toArray, List.zip_cons_cons, List.zip_nil_left, List.zip_nil_right, List.foldl_toArray, List.foldl_cons, List.foldl_nil, List.setIfInBounds_toArray, List.set_cons_zero, List.set_cons_succ, Array.zip]
          have HKK := hidX hK
          clear hK
          gi_wp2
          exact HKK.out
        case body00 =>
          rintro lo pre y V hl - ⟨⟨hi1, hi2, hi3, hi4⟩, hi5⟩ hlt
          rw [Hdw.out] at hlt
          obtain ⟨m, rfl, m1, m2, m3⟩ := atL_mem L _ k _ y (hlt.subset (by simp))
          have hmE : m < en := by have := HE.out.1; omega
          have hmL : m < L.length := by have := HE.out.2.1; omega
          have hls := lst_lt (atL_inc L (ln L k + b) k (en - k)) hlt (by omega)
          have KA := tat8_any Hx.out B g cap wg wc m V hi1 hmL
          have HW : Hid (Wh9 w B X Pp g wg H Wl.heap.size) := hidX ⟨hhn, hWl⟩
          have HD := hidX (show Rd9 w F (.slice ao l.length c) (b : Int) B X Pp (pfA ws L k) (ln L k) g cap wg wc L ws H Wl.heap.size V (pre.length : Int) (lstI pre) V from ⟨KeepsFrom.refl _ _, KW.refl _ _ _, hi1, hi2, hi3, hi4, hi5⟩)
          have p0 := at_block hi2.p 0 (.pointer (some ⟨B, 0, none⟩)) rfl
          have hb1 := Hx.out.lnF hkL
          have hb2 := Hx.out.lnF hmL
          have hF9 := Hx.out.F0
          have KWi := fun W => rwithin_any (pfA ws L m) (ln L m) (pfA ws L k) (ln L k) W
          rw [within_eq _ _ _ _ hb1.1 (by omega) (by unfold pfA; rw [cut_cut2 _ _ _ hb1.1 (Int.le_refl _)]), (Hx.out.within HE.out hmL).mpr ⟨m1, hmE⟩] at KWi
          have wv : IntKind.i64.wrap (ln L k + (b : Int)) = ln L m := by rw [IntKind.wrap_i64]; omega
          have hle : ¬ (m : Int) ≤ lstI pre := by omega
          have hpl : pre.length ≤ 40000 := by
            have h1 := hlt.length_le
            have h2 := atL_len L (ln L k + b) k (en - k)
            have h3 := HE.out.2.1
            simp only [List.length_append, List.length_singleton] at h1
            omega
          have wn : IntKind.i64.wrap ((pre.length : Int) + 1) = ((pre ++ [(m : Int)]).length : Int) := by
            rw [IntKind.wrap_i64]; simp; omega
          have hl2 := lstI_one pre (m : Int)
          have Hl2 := hidX hl2
          revert wn
          generalize hn2 : ((pre ++ [(m : Int)]).length : Int) = n2
          intro wn
          have Hn2 := hidX hn2
          revert HD hle
          generalize lstI pre = la
          intro HD hle
          have Hm3 := hidX m3
          clear hi1 hi2 hi3 hi4 hi5 hlt hls hn2 hl2 m3 hb1 hb2 hF9 hpl m1 m2
          gi_wp2_with fail
          refine ⟨trivial, ?_⟩
          have KA2 : CallsIn (Fence.wide.inRound lo) 6 Try.prog 9 #[.pointer (some ⟨B, 0, none⟩), .int .i64 (m : Int)] V _ := (callsIn_wide (n := 6)).2 KA
          refine KA2.mono ?_
          clear KA2 KA p0
          rintro e V2 ⟨rfl, hb⟩
          have q2 := bl1 V2 (.cells #[.int .u64 (hI (pfA ws L m)), .int .u64 (lI (pfA ws L m)), .int .i64 (ln L m)] 34)
          have hD2 := HD.out.below hb
          have HD3 := hidX (hD2.below q2)
          obtain ⟨n0, -⟩ := hD2.l
          have y0 := at_block hD2.v9.q 0 (.int .u64 (hI (pfA ws L k))) rfl
          have y1 := at_block hD2.v9.q 1 (.int .u64 (lI (pfA ws L k))) rfl
          have y2 := at_block hD2.v9.q 2 (.int .i64 (ln L k)) rfl
          have z0 := at_block hD2.v9.x 0 (.int .i64 (b : Int)) rfl
          have l1 : H + 1 < V2.heap.size := hD2.l.lt
          have l2 : w.heap.size + 1 < V2.heap.size := blk_lt hD2.v9.x
          have l3 : Pp < V2.heap.size := blk_lt hD2.v9.q
          clear hb q2 hD2 HD
          gi_wp2_with fail
          clear n0 y0 y1 y2 z0 l1 l2 l3
          revert HD3
          generalize V2.alloc (.cells #[.int .u64 (hI (pfA ws L m)), .int .u64 (lI (pfA ws L m)), .int .i64 (ln L m)] 34) = V3
          intro HD3
          refine ⟨trivial, ?_⟩
          have KA2 : CallsIn (Fence.wide.inRound lo) 6 Try.prog 11 #[.agg #[.int .u64 (hI (pfA ws L m)), .int .u64 (lI (pfA ws L m)), .int .i64 (ln L m)], .agg #[.int .u64 (hI (pfA ws L k)), .int .u64 (lI (pfA ws L k)), .int .i64 (ln L k)]] V3 _ := (callsIn_wide (n := 6)).2 (KWi V3)
          refine KA2.mono ?_
          clear KA2 KWi
          rintro e V4 ⟨rfl, hb⟩
          have hD4 := HD3.out.below hb
          obtain ⟨n0, nf⟩ := hD4.l
          obtain ⟨k0, kf⟩ := hD4.k
          have HD5 := hidX ((hD4.setL HW.out (m : Int)).setK HW.out n2)
          clear hb HD3 hD4
          gi_wp2
          exact ⟨HD5.out.k1, HD5.out.k2, ⟨HD5.out.tr, HD5.out.v9, by rw [Hn2.out]; exact HD5.out.k, by rw [Hl2.out]; exact HD5.out.l⟩, HD5.out.b⟩
        case done00 =>
          rintro D ys V hD rfl ⟨⟨hi1, hi2, hi3, hi4⟩, hi5⟩ hK
          have hdl : ((dwnL L (k : Int) (b : Int)).length : Int) = ((atL L (ln L k + b) k (en - k)).length : Int) := by rw [Hdw.out]
          rw [hdl] at hi3
          obtain ⟨v0, hv0⟩ : ∃ v0, v0 = ln L k + (b : Int) := ⟨_, rfl⟩
          rw [← hv0] at hi3
          obtain ⟨tot, htot⟩ : ∃ tot : Int, tot = ((atL L v0 k (en - k)).length : Int) := ⟨_, rfl⟩
          rw [← htot] at hi3
          have hb1 := Hx.out.lnF hkL
          have hF9 := Hx.out.F0
          have wv : IntKind.i64.wrap (ln L k + (b : Int)) = v0 := by rw [← hv0, IntKind.wrap_i64]; omega
          have HS : Hid (∀ j, j ≤ L.length → cwD L v0 k en j ≤ tot ∧ tot ≤ 40000) := hidX (fun j hj => by
            have h3 := HE.out.2.1
            have h2 := atL_len L v0 k (en - k)
            have h4 := cwD_bd L v0 k en j
            refine ⟨?_, by omega⟩
            rw [htot]
            unfold cwD
            have e1 := HE.out.1
            by_cases q : j < k
            · rw [show min j en - k = 0 by omega]; simp [atL]
            · have := atL_add L v0 k (min j en - k) (en - k - (min j en - k))
              rw [show min j en - k + (en - k - (min j en - k)) = en - k by omega] at this
              rw [this, List.length_append]; omega)
          have H0 := hidX (And.intro (show cwD L v0 k en 0 = 0 from cwD_zero L v0 k en) (show cwD L v0 k en L.length = tot by rw [cwD_end L v0 k en L.length HE.out.2.1, htot]))
          have Hv0 := hidX hv0
          have hDn : w.heap.size + 2 < D ∧ H + 1 < D := by have := HHn.out.1.1; omega
          have hP9 : Hid (∀ A A' : World, ∀ kv, ((TrT A B F g cap wg wc L ws ∧ V9 w F (.slice ao l.length c) (b : Int) false B X Pp (pfA ws L k) (ln L k) A ∧ Cl1 A H (.int .i64 kv)) ∧ Below w.heap.size w A ∧ A.heap[D]? = some (.deferred (some []))) → Below A.heap.size A A' → ((TrT A' B F g cap wg wc L ws ∧ V9 w F (.slice ao l.length c) (b : Int) false B X Pp (pfA ws L k) (ln L k) A' ∧ Cl1 A' H (.int .i64 kv)) ∧ Below w.heap.size w A' ∧ A'.heap[D]? = some (.deferred (some [])))) := hidX (fun A A' kv h hb => ⟨⟨h.1.1.below hb, h.1.2.1.below hb, h.1.2.2.below hb⟩, keepb hb h.2.1, (hb.block _ (blk_lt h.2.2)).trans h.2.2⟩)
          have HI := hidX (And.intro (And.intro hi1 (And.intro hi2 hi3)) (And.intro hi5 hK))
          clear hi1 hi2 hi3 hi4 hi5 hK hdl hv0 htot hb1 hF9
          refine wl_nil8 (P := Try.prog) (ops := #[]) ?_
          go_wp2_with fail
          go_loopw [16] (fun i wr => ∃ j : Nat, j ≤ L.length ∧ i = .int .i64 j ∧ Hid ((TrT wr B F g cap wg wc L ws ∧ V9 w F (.slice ao l.length c) (b : Int) false B X Pp (pfA ws L k) (ln L k) wr ∧ Cl1 wr H (.int .i64 (tot - cwD L v0 k en j))) ∧ Below w.heap.size w wr ∧ wr.heap[D]? = some (.deferred (some [])))) (fun i _ => L.length - (intOf i).toNat)
          case atStart => exact ⟨0, by omega, rfl, by rw [H0.out.1, Int.sub_zero]; exact HI⟩
          case round =>
            clear HI
            obtain ⟨j, hj, rfl, HI⟩ := hrel
            have p0 := at_block HI.out.1.2.1.p 0 (.pointer (some ⟨B, 0, none⟩)) rfl
            by_cases hlt : (j : Int) < (L.length : Int)
            · have hjs : j < L.length := by omega
              have Hjs := hidR hjs
              have hst := cwD_step L v0 k en j
              have w10 : IntKind.i64.wrap ((j : Int) + 1) = ((j + 1 : Nat) : Int) := by rw [IntKind.wrap_i64]; push_cast; omega
              have KLj := KL wr HI.out.1.1.tn
              have KAj := tat8_any Hx.out B g cap wg wc j wr HI.out.1.1 hjs
              have hsb := HS.out j (by omega)
              have hs1 := HS.out (j + 1) (by omega)
              have hcb := (cwD_bd L v0 k en j).1
              have hbj := Hx.out.lnF hjs
              have hbk := Hx.out.lnF hkL
              have hF9 := Hx.out.F0
              have KWi := fun W => rwithin_any (pfA ws L j) (ln L j) (pfA ws L k) (ln L k) W
              rw [within_eq _ _ _ _ hbk.1 (by omega) (by unfold pfA; rw [cut_cut2 _ _ _ hbk.1 (Int.le_refl _)])] at KWi
              have hwi := Hx.out.within HE.out hjs
              clear hbj hbk hF9
              go_wp2_with fail
              refine KLj.mono ?_
              rintro e V5 ⟨rfl, rfl⟩
              clear KLj
              go_wp2_with fail
              refine KAj.mono ?_
              rintro e V6 ⟨rfl, hb⟩
              have hI6 := hP9.out _ _ _ HI.out hb
              have q6 := bl1 V6 (.cells #[.int .u64 (hI (pfA ws L j)), .int .u64 (lI (pfA ws L j)), .int .i64 (ln L j)] 34)
              have HI7 := hidX (hP9.out _ _ _ hI6 q6)
              have y0 := at_block hI6.1.2.1.q 0 (.int .u64 (hI (pfA ws L k))) rfl
              have y1 := at_block hI6.1.2.1.q 1 (.int .u64 (lI (pfA ws L k))) rfl
              have y2 := at_block hI6.1.2.1.q 2 (.int .i64 (ln L k)) rfl
              have z0 := at_block hI6.1.2.1.x 0 (.int .i64 (b : Int)) rfl
              have l2 : w.heap.size + 1 < V6.heap.size := blk_lt hI6.1.2.1.x
              have l3 : Pp < V6.heap.size := blk_lt hI6.1.2.1.q
              clear hb hI6 q6 HI KAj p0
              by_cases c : ln L j = v0
              · have c' : (ln L j == v0) = true := by simpa using c
                have Hc := hidX c
                clear c
                go_wp2_with fail
                clear y0 y1 y2 z0 l2 l3
                revert HI7
                generalize V6.alloc (.cells #[.int .u64 (hI (pfA ws L j)), .int .u64 (lI (pfA ws L j)), .int .i64 (ln L j)] 34) = V7
                intro HI7
                refine (KWi V7).mono ?_
                rintro e V8 ⟨rfl, hb⟩
                have HI8 := hidX (hP9.out _ _ _ HI7.out hb)
                clear hb HI7 KWi
                by_cases d : k ≤ j ∧ j < en
                · rw [hwi.mpr d]
                  rw [if_pos ⟨d, Hc.out⟩] at hst
                  have wk : IntKind.i64.wrap (tot - cwD L v0 k en j - 1) = tot - cwD L v0 k en (j + 1) := by rw [IntKind.wrap_i64, hst]; omega
                  obtain ⟨k0, kf⟩ := HI8.out.1.2.2
                  have hW9 := HHn.out
                  have HI9 : Hid ((TrT (V8.setCell ⟨H, 0, none⟩ (.int .i64 (tot - cwD L v0 k en (j + 1)))) B F g cap wg wc L ws ∧ V9 w F (.slice ao l.length c) (b : Int) false B X Pp (pfA ws L k) (ln L k) (V8.setCell ⟨H, 0, none⟩ (.int .i64 (tot - cwD L v0 k en (j + 1)))) ∧ Cl1 (V8.setCell ⟨H, 0, none⟩ (.int .i64 (tot - cwD L v0 k en (j + 1)))) H (.int .i64 (tot - cwD L v0 k en (j + 1)))) ∧ Below w.heap.size w (V8.setCell ⟨H, 0, none⟩ (.int .i64 (tot - cwD L v0 k en (j + 1)))) ∧ (V8.setCell ⟨H, 0, none⟩ (.int .i64 (tot - cwD L v0 k en (j + 1)))).heap[D]? = some (.deferred (some []))) := hidX ⟨⟨HI8.out.1.1.heap (setB _ (by omega)) (setB _ (by omega)) (setB _ (by omega)), HI8.out.1.2.1.set _ (by omega) (by omega) (by omega) (by omega) (by omega), HI8.out.1.2.2.set _⟩, HI8.out.2.1.setCell (p := ⟨H, 0, none⟩) (by show w.heap.size ≤ H; omega) _, (setB _ (by omega)).trans HI8.out.2.2⟩
                  clear HI8 hW9 hst hsb hs1 hcb hwi d
                  go_wp2
                  go_roundw
                  case rel => exact ⟨j + 1, by have := Hjs.out; omega, rfl, HI9⟩
                  case measure => simp [intOf]; have := Hjs.out; omega
                · have hwf : withinB (pfA ws L j) (ln L j) (pfA ws L k) (ln L k) = false := by
                    cases hz : withinB (pfA ws L j) (ln L j) (pfA ws L k) (ln L k)
                    · rfl
                    · exact absurd (hwi.mp hz) d
                  rw [hwf]
                  rw [if_neg (fun q => d q.1), Int.add_zero] at hst
                  have Hst := hidX hst
                  clear hst hsb hs1 hcb hwi d hwf
                  go_wp2
                  go_roundw
                  case rel => exact ⟨j + 1, by have := Hjs.out; omega, rfl, by rw [Hst.out]; exact HI8⟩
                  case measure => simp [intOf]; have := Hjs.out; omega
              · have c' : (ln L j == v0) = false := by simpa using c
                rw [if_neg (fun q => c q.2), Int.add_zero] at hst
                have Hst := hidX hst
                clear c hst hsb hs1 hcb hwi KWi
                go_wp2
                go_roundw
                case rel => exact ⟨j + 1, by have := Hjs.out; omega, rfl, by rw [Hst.out]; exact HI7⟩
                case measure => simp [intOf]; have := Hjs.out; omega
            · have hje : j = L.length := by omega
              subst hje
              rw [H0.out.2, Int.sub_self] at HI
              have hd : decide ((L.length : Int) < (L.length : Int)) = false := decide_eq_false hlt
              have KLj := KL wr HI.out.1.1.tn
              go_wp2_with fail
              refine KLj.mono ?_
              rintro e V5 ⟨rfl, rfl⟩
              obtain ⟨k0, -⟩ := HI.out.1.2.2
              have hr : Cl1 V5 (w.heap.size + 2) (.bool false) := ⟨at_block HI.out.1.2.1.r 0 _ rfl, fr_blk HI.out.1.2.1.r⟩
              have HR := hidX (hr.set (.bool true))
              have HBz := hidX (HI.out.2.1.setCell (p := ⟨w.heap.size + 2, 0, none⟩) (by simp) (.bool true))
              have HK : Hid ((V5.setCell ⟨w.heap.size + 2, 0, none⟩ (.bool true)).heap[D]? = some (.deferred (some []))) := hidX ((setB _ (by omega)).trans HI.out.2.2)
              obtain ⟨r0, rf⟩ := hr
              clear HI KLj p0
              go_wp2
              refine ⟨by simp, .inl ⟨_, _, rfl, run_takeDeferred HK.out, ?_⟩⟩
              obtain ⟨z0, -⟩ := HR.out.kept (grownBy_putObj' _ D (.deferred none)) (fun r e => by cases e; exact ⟨_, HK.out, rfl⟩)
              refine ⟨.bool true, ?_, rfl, HBz.out.trans (belowK_b (w := w) (Nat.le_refl _) _ D _ _ (by omega) HK.out rfl rfl)⟩
              simp [results, Try.results3, go_sem, z0]
        case stop00 =>
          rintro D c pre V hD hpre hi hK
          exact hi.elim
      · obtain ⟨h1, h2⟩ := hkk
        subst h2
        have w1 : IntKind.i64.wrap (k : Int) = (k : Int) := by rw [IntKind.wrap_i64]; omega
        have h1 : ¬ (k : Int) < 0 := by omega
        obtain ⟨g1, g2⟩ := hbd
        have w3 : IntKind.i64.wrap tb = tb := by rw [IntKind.wrap_i64]; omega
        have w4 : IntKind.i64.wrap (-tb) = (b : Int) := by rw [IntKind.wrap_i64]; omega
        have w5 : IntKind.i64.wrap (0 - tb) = (b : Int) := by rw [IntKind.wrap_i64]; omega
        clear g2
        have p0 := at_block HL5.out.2.2.2 0 (.pointer (some ⟨B, 0, none⟩)) rfl
        have b0 := at_block HL5.out.2.1 0 (.int .i64 bits) rfl
        have bf := fr_blk (j := 0) HL5.out.2.1
        have hX2 : ¬ X = w.heap.size + 1 := by have := HXn.out; omega
        have hs : ∀ z, ¬ z = w.heap.size + 1 → ((w6.setCell ⟨w.heap.size + 1, 0, none⟩ (.int .i64 tb)).setCell ⟨w.heap.size + 1, 0, none⟩ (.int .i64 (b : Int))).heap[z]? = w6.heap[z]? := fun z hz => by rw [setB _ hz, setB _ hz]
        have HB7 := hidX ((HB5.out.setCell (p := ⟨w.heap.size + 1, 0, none⟩) (by simp) (.int .i64 tb)).setCell (p := ⟨w.heap.size + 1, 0, none⟩) (by simp) (.int .i64 (b : Int)))
        have HTr7 := hidX (HTr5.out.heap (hs B (by have := Hvn.out.1; omega)) (hs g (by have := Hvn.out.2.1; omega)) (hs wg (by have := Hvn.out.2.2; omega)))
        have HL7 : Hid (((w6.setCell ⟨w.heap.size + 1, 0, none⟩ (.int .i64 tb)).setCell ⟨w.heap.size + 1, 0, none⟩ (.int .i64 (b : Int))).heap[w.heap.size]? = some (.cells #[.int .i64 F, (.slice ao l.length c)] 24) ∧ ((w6.setCell ⟨w.heap.size + 1, 0, none⟩ (.int .i64 tb)).setCell ⟨w.heap.size + 1, 0, none⟩ (.int .i64 (b : Int))).heap[w.heap.size + 1]? = some (.cells #[.int .i64 (b : Int)] 3) ∧ ((w6.setCell ⟨w.heap.size + 1, 0, none⟩ (.int .i64 tb)).setCell ⟨w.heap.size + 1, 0, none⟩ (.int .i64 (b : Int))).heap[w.heap.size + 2]? = some (.cells #[.bool false] 4) ∧ ((w6.setCell ⟨w.heap.size + 1, 0, none⟩ (.int .i64 tb)).setCell ⟨w.heap.size + 1, 0, none⟩ (.int .i64 (b : Int))).heap[X]? = some (.cells #[.pointer (some ⟨B, 0, none⟩)] 26)) := hidX ⟨(hs _ (by omega)).trans HL5.out.1, by simpa using set_blk (o := 0) (set_blk (o := 0) HL5.out.2.1 (.int .i64 tb)) (.int .i64 (b : Int)), (hs _ (by omega)).trans HL5.out.2.2.1, (hs _ hX2).trans HL5.out.2.2.2⟩
        have HT6 := HTr5
        clear HB5 HTr5 HL5 hs
        go_wp2_with fail
        clear p0 b0 bf hX2 HT6
        revert HB7 HTr7 HL7
        generalize (w6.setCell ⟨w.heap.size + 1, 0, none⟩ (.int .i64 tb)).setCell ⟨w.heap.size + 1, 0, none⟩ (.int .i64 (b : Int)) = W7
        intro HB7 HTr7 HL7
        refine (tat8_any Hx.out B g cap wg wc k W7 HTr7.out hkL).mono ?_
        rintro e w8 ⟨rfl, hb⟩
        have HB8 := hidX (keepb hb HB7.out)
        have hT8 := HTr7.out.below hb
        have hL8 := HL7.out
        have c1 := (hb.block _ (blk_lt hL8.1)).trans hL8.1
        have c2 := (hb.block _ (blk_lt hL8.2.1)).trans hL8.2.1
        have c3 := (hb.block _ (blk_lt hL8.2.2.1)).trans hL8.2.2.1
        have c4 := (hb.block _ (blk_lt hL8.2.2.2)).trans hL8.2.2.2
        have q1 := bl1 w8 (.cells #[.int .u64 (hI (pfA ws L k)), .int .u64 (lI (pfA ws L k)), .int .i64 (ln L k)] 34)
        have HB9 := hidX (keepb q1 HB8.out)
        have HTr9 := hidX (hT8.below q1)
        have HL9 : Hid (V9 w F (.slice ao l.length c) (b : Int) false B X w8.heap.size (pfA ws L k) (ln L k) (w8.alloc (.cells #[.int .u64 (hI (pfA ws L k)), .int .u64 (lI (pfA ws L k)), .int .i64 (ln L k)] 34))) := hidX ⟨(q1.block _ (blk_lt c1)).trans c1, (q1.block _ (blk_lt c2)).trans c2, (q1.block _ (blk_lt c3)).trans c3, (q1.block _ (blk_lt c4)).trans c4, Array.getElem?_push_size⟩
        have p0 := at_block c4 0 (.pointer (some ⟨B, 0, none⟩)) rfl
        have b0 := at_block c2 0 (.int .i64 (b : Int)) rfl
        have l1 : X < w8.heap.size := blk_lt c4
        have l2 : w.heap.size + 1 < w8.heap.size := blk_lt c2
        have HPl : Hid (w.heap.size + 2 < w8.heap.size ∧ X < w8.heap.size) := hidX ⟨blk_lt c3, blk_lt c4⟩
        clear hb HB7 HTr7 HL7 HB8 hT8 hL8 c1 c2 c3 c4 q1
        go_wp2_with fail
        clear p0 b0 l1 l2
        revert HB9 HTr9 HL9 HPl
        generalize w8.alloc (.cells #[.int .u64 (hI (pfA ws L k)), .int .u64 (lI (pfA ws L k)), .int .i64 (ln L k)] 34) = W9
        generalize w8.heap.size = Pp
        intro HB9 HTr9 HL9 HPl
        refine (tdown_any B (k : Int) (b : Int) W9).mono ?_
        rintro e w9 ⟨rfl, rfl⟩
        have q1 := bl1 w9 (.cells #[.int .i64 0] 3)
        have q2 := bl1 (w9.alloc (.cells #[.int .i64 0] 3)) (.cells #[.int .i64 (-1)] 3)
        have s1 : (w9.alloc (.cells #[.int .i64 0] 3)).heap.size = w9.heap.size + 1 := by simp
        have HB10 := hidX (keepb q2 (keepb q1 HB9.out))
        have HTr10 := hidX ((HTr9.out.below q1).below q2)
        have HL10 := hidX ((HL9.out.below q1).below q2)
        have HK10 := hidX ((cl1_new w9 w9.heap.size (.int .i64 0) 3 rfl).below q2)
        have HA10 := hidX (cl1_new (w9.alloc (.cells #[.int .i64 0] 3)) (w9.heap.size + 1) (.int .i64 (-1)) 3 s1.symm)
        have HHn : Hid ((w.heap.size + 2 < w9.heap.size ∧ X < w9.heap.size ∧ Pp < w9.heap.size) ∧ B < w9.heap.size ∧ g < w9.heap.size ∧ wg < w9.heap.size) := hidX ⟨⟨blk_lt HL9.out.r, blk_lt HL9.out.p, blk_lt HL9.out.q⟩, cell_in HTr9.out.tn.w, cell_in (HTr9.out.tn.row 0 Hx.out.t.pos).1, cell_in (HTr9.out.wd 0 (by rw [Hx.out.t.wl]; omega)).1⟩
        have E0 := fun W => seqnil9 (.pointer (some ⟨B, 0, none⟩)) (.int .i64 (k : Int)) (.int .i64 (b : Int)) W
        clear q1 q2 s1 HB9 HTr9 HL9
        go_wp2_with fail
        clear E0
        revert HB10 HTr10 HL10 HK10 HA10 HHn
        generalize (w9.alloc (.cells #[.int .i64 0] 3)).alloc (.cells #[.int .i64 (-1)] 3) = Wl
        generalize hHe : w9.heap.size = H
        intro HB10 HTr10 HL10 HK10 HA10 HHn
        clear hHe
        obtain ⟨en, hE, -, -⟩ := Hx.out.t.node hkL
        have hWl : H + 1 < Wl.heap.size := HA10.out.lt
        have hdw : dwnL L (k : Int) (b : Int) = atL L (ln L k + b) k (en - k) := by
          unfold dwnL
          rw [if_pos ⟨by unfold isN; simp; omega, by omega⟩, Int.toNat_natCast]
          exact Hx.out.t.dn b k en hE
        have Hdw := hidX hdw
        have HE := hidX hE
        have hvn := Hvn.out
        have hhn := HHn.out
        clear hdw hE
        refine (wpIn_wide (n := 9)).1 ?_
        refine rangeYA 9 (by decide) (gf := 24) (ba := #[.agg #[.pointer (some ⟨B, 0, none⟩), .int .i64 (k : Int), .int .i64 (b : Int)]]) (lb := #[]) rfl (enters_of Try.func24 (by kernel_rfl) rfl)
          (below_each (9 - 1) (fun z => z = B ∨ z = g) (Wl.heap.size + 2) B F g cap (.slice (some ⟨wg, 0, none⟩) ws.length wc) L (k : Int) (b : Int) (by omega) Wl HTr10.out.tn (.inl (.inl rfl)) (.inl (.inr rfl)) Hx.out.ok (by have := Hx.out.len; omega)) (Nat.le_refl _) (fun A => KW.refl _ _ _) (fun h k => h.trans k) (fun V o o' h1 h2 => kw_put (by rintro (q | q) <;> omega) (by omega) V o o' h1 h2) (Below.refl _ _) (fun _ => rfl)
          (fun pre V => (TrT V B F g cap wg wc L ws ∧ V9 w F (.slice ao l.length c) (b : Int) false B X Pp (pfA ws L k) (ln L k) V ∧ Cl1 V H (.int .i64 (pre.length : Int)) ∧ Cl1 V (H + 1) (.int .i64 (lstI pre))) ∧ Below w.heap.size w V)
          (fun c pre V => False)
          (OwnFrom.and (Own.from (fun s A B row hs hg hr => ⟨hs.1.kept hg hr, hs.2.1.kept hg hr, hs.2.2.1.kept hg hr, hs.2.2.2.kept hg hr⟩) _) (ownFrom_below (Nat.le_refl _) (by omega)))
          (fun c s A B row hs hg hr => hs)
          ⟨⟨HTr10.out, HL10.out, HK10.out, HA10.out⟩, HB10.out⟩
          ?AX01 ?assign01 ?body01 ?done01 ?stop01
        case assign01 =>
          intro lo y V K hK
          unfold encI
          simp only [List.zip_toArray, List.zip_cons_cons, List.zip_nil_left, List.zip_nil_right, List.foldl_toArray, List.foldl_cons, List.foldl_nil, List.setIfInBounds_toArray, List.set_cons_zero, List.set_cons_succ, Array.zip]
          have HKK := hidX hK
          clear hK
          gi_wp2
          exact HKK.out
        case body01 =>
          rintro lo pre y V hl - ⟨⟨hi1, hi2, hi3, hi4⟩, hi5⟩ hlt
          rw [Hdw.out] at hlt
          obtain ⟨m, rfl, m1, m2, m3⟩ := atL_mem L _ k _ y (hlt.subset (by simp))
          have hmE : m < en := by have := HE.out.1; omega
          have hmL : m < L.length := by have := HE.out.2.1; omega
          have hls := lst_lt (atL_inc L (ln L k + b) k (en - k)) hlt (by omega)
          have KA := tat8_any Hx.out B g cap wg wc m V hi1 hmL
          have HW : Hid (Wh9 w B X Pp g wg H Wl.heap.size) := hidX ⟨hhn, hWl⟩
          have HD := hidX (show Rd9 w F (.slice ao l.length c) (b : Int) B X Pp (pfA ws L k) (ln L k) g cap wg wc L ws H Wl.heap.size V (pre.length : Int) (lstI pre) V from ⟨KeepsFrom.refl _ _, KW.refl _ _ _, hi1, hi2, hi3, hi4, hi5⟩)
          have p0 := at_block hi2.p 0 (.pointer (some ⟨B, 0, none⟩)) rfl
          have hb1 := Hx.out.lnF hkL
          have hb2 := Hx.out.lnF hmL
          have hF9 := Hx.out.F0
          have KWi := fun W => rwithin_any (pfA ws L m) (ln L m) (pfA ws L k) (ln L k) W
          rw [within_eq _ _ _ _ hb1.1 (by omega) (by unfold pfA; rw [cut_cut2 _ _ _ hb1.1 (Int.le_refl _)]), (Hx.out.within HE.out hmL).mpr ⟨m1, hmE⟩] at KWi
          have wv : IntKind.i64.wrap (ln L k + (b : Int)) = ln L m := by rw [IntKind.wrap_i64]; omega
          have hle : ¬ (m : Int) ≤ lstI pre := by omega
          have hpl : pre.length ≤ 40000 := by
            have h1 := hlt.length_le
            have h2 := atL_len L (ln L k + b) k (en - k)
            have h3 := HE.out.2.1
            simp only [List.length_append, List.length_singleton] at h1
            omega
          have wn : IntKind.i64.wrap ((pre.length : Int) + 1) = ((pre ++ [(m : Int)]).length : Int) := by
            rw [IntKind.wrap_i64]; simp; omega
          have hl2 := lstI_one pre (m : Int)
          have Hl2 := hidX hl2
          revert wn
          generalize hn2 : ((pre ++ [(m : Int)]).length : Int) = n2
          intro wn
          have Hn2 := hidX hn2
          revert HD hle
          generalize lstI pre = la
          intro HD hle
          have Hm3 := hidX m3
          clear hi1 hi2 hi3 hi4 hi5 hlt hls hn2 hl2 m3 hb1 hb2 hF9 hpl m1 m2
          gi_wp2_with fail
          refine ⟨trivial, ?_⟩
          have KA2 : CallsIn (Fence.wide.inRound lo) 6 Try.prog 9 #[.pointer (some ⟨B, 0, none⟩), .int .i64 (m : Int)] V _ := (callsIn_wide (n := 6)).2 KA
          refine KA2.mono ?_
          clear KA2 KA p0
          rintro e V2 ⟨rfl, hb⟩
          have q2 := bl1 V2 (.cells #[.int .u64 (hI (pfA ws L m)), .int .u64 (lI (pfA ws L m)), .int .i64 (ln L m)] 34)
          have hD2 := HD.out.below hb
          have HD3 := hidX (hD2.below q2)
          obtain ⟨n0, -⟩ := hD2.l
          have y0 := at_block hD2.v9.q 0 (.int .u64 (hI (pfA ws L k))) rfl
          have y1 := at_block hD2.v9.q 1 (.int .u64 (lI (pfA ws L k))) rfl
          have y2 := at_block hD2.v9.q 2 (.int .i64 (ln L k)) rfl
          have z0 := at_block hD2.v9.x 0 (.int .i64 (b : Int)) rfl
          have l1 : H + 1 < V2.heap.size := hD2.l.lt
          have l2 : w.heap.size + 1 < V2.heap.size := blk_lt hD2.v9.x
          have l3 : Pp < V2.heap.size := blk_lt hD2.v9.q
          clear hb q2 hD2 HD
          gi_wp2_with fail
          clear n0 y0 y1 y2 z0 l1 l2 l3
          revert HD3
          generalize V2.alloc (.cells #[.int .u64 (hI (pfA ws L m)), .int .u64 (lI (pfA ws L m)), .int .i64 (ln L m)] 34) = V3
          intro HD3
          refine ⟨trivial, ?_⟩
          have KA2 : CallsIn (Fence.wide.inRound lo) 6 Try.prog 11 #[.agg #[.int .u64 (hI (pfA ws L m)), .int .u64 (lI (pfA ws L m)), .int .i64 (ln L m)], .agg #[.int .u64 (hI (pfA ws L k)), .int .u64 (lI (pfA ws L k)), .int .i64 (ln L k)]] V3 _ := (callsIn_wide (n := 6)).2 (KWi V3)
          refine KA2.mono ?_
          clear KA2 KWi
          rintro e V4 ⟨rfl, hb⟩
          have hD4 := HD3.out.below hb
          obtain ⟨n0, nf⟩ := hD4.l
          obtain ⟨k0, kf⟩ := hD4.k
          have HD5 := hidX ((hD4.setL HW.out (m : Int)).setK HW.out n2)
          clear hb HD3 hD4
          gi_wp2
          exact ⟨HD5.out.k1, HD5.out.k2, ⟨HD5.out.tr, HD5.out.v9, by rw [Hn2.out]; exact HD5.out.k, by rw [Hl2.out]; exact HD5.out.l⟩, HD5.out.b⟩
        case done01 =>
          rintro D ys V hD rfl ⟨⟨hi1, hi2, hi3, hi4⟩, hi5⟩ hK
          have hdl : ((dwnL L (k : Int) (b : Int)).length : Int) = ((atL L (ln L k + b) k (en - k)).length : Int) := by rw [Hdw.out]
          rw [hdl] at hi3
          obtain ⟨v0, hv0⟩ : ∃ v0, v0 = ln L k + (b : Int) := ⟨_, rfl⟩
          rw [← hv0] at hi3
          obtain ⟨tot, htot⟩ : ∃ tot : Int, tot = ((atL L v0 k (en - k)).length : Int) := ⟨_, rfl⟩
          rw [← htot] at hi3
          have hb1 := Hx.out.lnF hkL
          have hF9 := Hx.out.F0
          have wv : IntKind.i64.wrap (ln L k + (b : Int)) = v0 := by rw [← hv0, IntKind.wrap_i64]; omega
          have HS : Hid (∀ j, j ≤ L.length → cwD L v0 k en j ≤ tot ∧ tot ≤ 40000) := hidX (fun j hj => by
            have h3 := HE.out.2.1
            have h2 := atL_len L v0 k (en - k)
            have h4 := cwD_bd L v0 k en j
            refine ⟨?_, by omega⟩
            rw [htot]
            unfold cwD
            have e1 := HE.out.1
            by_cases q : j < k
            · rw [show min j en - k = 0 by omega]; simp [atL]
            · have := atL_add L v0 k (min j en - k) (en - k - (min j en - k))
              rw [show min j en - k + (en - k - (min j en - k)) = en - k by omega] at this
              rw [this, List.length_append]; omega)
          have H0 := hidX (And.intro (show cwD L v0 k en 0 = 0 from cwD_zero L v0 k en) (show cwD L v0 k en L.length = tot by rw [cwD_end L v0 k en L.length HE.out.2.1, htot]))
          have Hv0 := hidX hv0
          have hDn : w.heap.size + 2 < D ∧ H + 1 < D := by have := HHn.out.1.1; omega
          have hP9 : Hid (∀ A A' : World, ∀ kv, ((TrT A B F g cap wg wc L ws ∧ V9 w F (.slice ao l.length c) (b : Int) false B X Pp (pfA ws L k) (ln L k) A ∧ Cl1 A H (.int .i64 kv)) ∧ Below w.heap.size w A ∧ A.heap[D]? = some (.deferred (some []))) → Below A.heap.size A A' → ((TrT A' B F g cap wg wc L ws ∧ V9 w F (.slice ao l.length c) (b : Int) false B X Pp (pfA ws L k) (ln L k) A' ∧ Cl1 A' H (.int .i64 kv)) ∧ Below w.heap.size w A' ∧ A'.heap[D]? = some (.deferred (some [])))) := hidX (fun A A' kv h hb => ⟨⟨h.1.1.below hb, h.1.2.1.below hb, h.1.2.2.below hb⟩, keepb hb h.2.1, (hb.block _ (blk_lt h.2.2)).trans h.2.2⟩)
          have HI := hidX (And.intro (And.intro hi1 (And.intro hi2 hi3)) (And.intro hi5 hK))
          clear hi1 hi2 hi3 hi4 hi5 hK hdl hv0 htot hb1 hF9
          refine wl_nil8 (P := Try.prog) (ops := #[]) ?_
          go_wp2_with fail
          go_loopw [16] (fun i wr => ∃ j : Nat, j ≤ L.length ∧ i = .int .i64 j ∧ Hid ((TrT wr B F g cap wg wc L ws ∧ V9 w F (.slice ao l.length c) (b : Int) false B X Pp (pfA ws L k) (ln L k) wr ∧ Cl1 wr H (.int .i64 (tot - cwD L v0 k en j))) ∧ Below w.heap.size w wr ∧ wr.heap[D]? = some (.deferred (some [])))) (fun i _ => L.length - (intOf i).toNat)
          case atStart => exact ⟨0, by omega, rfl, by rw [H0.out.1, Int.sub_zero]; exact HI⟩
          case round =>
            clear HI
            obtain ⟨j, hj, rfl, HI⟩ := hrel
            have p0 := at_block HI.out.1.2.1.p 0 (.pointer (some ⟨B, 0, none⟩)) rfl
            by_cases hlt : (j : Int) < (L.length : Int)
            · have hjs : j < L.length := by omega
              have Hjs := hidR hjs
              have hst := cwD_step L v0 k en j
              have w10 : IntKind.i64.wrap ((j : Int) + 1) = ((j + 1 : Nat) : Int) := by rw [IntKind.wrap_i64]; push_cast; omega
              have KLj := KL wr HI.out.1.1.tn
              have KAj := tat8_any Hx.out B g cap wg wc j wr HI.out.1.1 hjs
              have hsb := HS.out j (by omega)
              have hs1 := HS.out (j + 1) (by omega)
              have hcb := (cwD_bd L v0 k en j).1
              have hbj := Hx.out.lnF hjs
              have hbk := Hx.out.lnF hkL
              have hF9 := Hx.out.F0
              have KWi := fun W => rwithin_any (pfA ws L j) (ln L j) (pfA ws L k) (ln L k) W
              rw [within_eq _ _ _ _ hbk.1 (by omega) (by unfold pfA; rw [cut_cut2 _ _ _ hbk.1 (Int.le_refl _)])] at KWi
              have hwi := Hx.out.within HE.out hjs
              clear hbj hbk hF9
              go_wp2_with fail
              refine KLj.mono ?_
              rintro e V5 ⟨rfl, rfl⟩
              clear KLj
              go_wp2_with fail
              refine KAj.mono ?_
              rintro e V6 ⟨rfl, hb⟩
              have hI6 := hP9.out _ _ _ HI.out hb
              have q6 := bl1 V6 (.cells #[.int .u64 (hI (pfA ws L j)), .int .u64 (lI (pfA ws L j)), .int .i64 (ln L j)] 34)
              have HI7 := hidX (hP9.out _ _ _ hI6 q6)
              have y0 := at_block hI6.1.2.1.q 0 (.int .u64 (hI (pfA ws L k))) rfl
              have y1 := at_block hI6.1.2.1.q 1 (.int .u64 (lI (pfA ws L k))) rfl
              have y2 := at_block hI6.1.2.1.q 2 (.int .i64 (ln L k)) rfl
              have z0 := at_block hI6.1.2.1.x 0 (.int .i64 (b : Int)) rfl
              have l2 : w.heap.size + 1 < V6.heap.size := blk_lt hI6.1.2.1.x
              have l3 : Pp < V6.heap.size := blk_lt hI6.1.2.1.q
              clear hb hI6 q6 HI KAj p0
              by_cases c : ln L j = v0
              · have c' : (ln L j == v0) = true := by simpa using c
                have Hc := hidX c
                clear c
                go_wp2_with fail
                clear y0 y1 y2 z0 l2 l3
                revert HI7
                generalize V6.alloc (.cells #[.int .u64 (hI (pfA ws L j)), .int .u64 (lI (pfA ws L j)), .int .i64 (ln L j)] 34) = V7
                intro HI7
                refine (KWi V7).mono ?_
                rintro e V8 ⟨rfl, hb⟩
                have HI8 := hidX (hP9.out _ _ _ HI7.out hb)
                clear hb HI7 KWi
                by_cases d : k ≤ j ∧ j < en
                · rw [hwi.mpr d]
                  rw [if_pos ⟨d, Hc.out⟩] at hst
                  have wk : IntKind.i64.wrap (tot - cwD L v0 k en j - 1) = tot - cwD L v0 k en (j + 1) := by rw [IntKind.wrap_i64, hst]; omega
                  obtain ⟨k0, kf⟩ := HI8.out.1.2.2
                  have hW9 := HHn.out
                  have HI9 : Hid ((TrT (V8.setCell ⟨H, 0, none⟩ (.int .i64 (tot - cwD L v0 k en (j + 1)))) B F g cap wg wc L ws ∧ V9 w F (.slice ao l.length c) (b : Int) false B X Pp (pfA ws L k) (ln L k) (V8.setCell ⟨H, 0, none⟩ (.int .i64 (tot - cwD L v0 k en (j + 1)))) ∧ Cl1 (V8.setCell ⟨H, 0, none⟩ (.int .i64 (tot - cwD L v0 k en (j + 1)))) H (.int .i64 (tot - cwD L v0 k en (j + 1)))) ∧ Below w.heap.size w (V8.setCell ⟨H, 0, none⟩ (.int .i64 (tot - cwD L v0 k en (j + 1)))) ∧ (V8.setCell ⟨H, 0, none⟩ (.int .i64 (tot - cwD L v0 k en (j + 1)))).heap[D]? = some (.deferred (some []))) := hidX ⟨⟨HI8.out.1.1.heap (setB _ (by omega)) (setB _ (by omega)) (setB _ (by omega)), HI8.out.1.2.1.set _ (by omega) (by omega) (by omega) (by omega) (by omega), HI8.out.1.2.2.set _⟩, HI8.out.2.1.setCell (p := ⟨H, 0, none⟩) (by show w.heap.size ≤ H; omega) _, (setB _ (by omega)).trans HI8.out.2.2⟩
                  clear HI8 hW9 hst hsb hs1 hcb hwi d
                  go_wp2
                  go_roundw
                  case rel => exact ⟨j + 1, by have := Hjs.out; omega, rfl, HI9⟩
                  case measure => simp [intOf]; have := Hjs.out; omega
                · have hwf : withinB (pfA ws L j) (ln L j) (pfA ws L k) (ln L k) = false := by
                    cases hz : withinB (pfA ws L j) (ln L j) (pfA ws L k) (ln L k)
                    · rfl
                    · exact absurd (hwi.mp hz) d
                  rw [hwf]
                  rw [if_neg (fun q => d q.1), Int.add_zero] at hst
                  have Hst := hidX hst
                  clear hst hsb hs1 hcb hwi d hwf
                  go_wp2
                  go_roundw
                  case rel => exact ⟨j + 1, by have := Hjs.out; omega, rfl, by rw [Hst.out]; exact HI8⟩
                  case measure => simp [intOf]; have := Hjs.out; omega
              · have c' : (ln L j == v0) = false := by simpa using c
                rw [if_neg (fun q => c q.2), Int.add_zero] at hst
                have Hst := hidX hst
                clear c hst hsb hs1 hcb hwi KWi
                go_wp2
                go_roundw
                case rel => exact ⟨j + 1, by have := Hjs.out; omega, rfl, by rw [Hst.out]; exact HI7⟩
                case measure => simp [intOf]; have := Hjs.out; omega
            · have hje : j = L.length := by omega
              subst hje
              rw [H0.out.2, Int.sub_self] at HI
              have hd : decide ((L.length : Int) < (L.length : Int)) = false := decide_eq_false hlt
              have KLj := KL wr HI.out.1.1.tn
              go_wp2_with fail
              refine KLj.mono ?_
              rintro e V5 ⟨rfl, rfl⟩
              obtain ⟨k0, -⟩ := HI.out.1.2.2
              have hr : Cl1 V5 (w.heap.size + 2) (.bool false) := ⟨at_block HI.out.1.2.1.r 0 _ rfl, fr_blk HI.out.1.2.1.r⟩
              have HR := hidX (hr.set (.bool true))
              have HBz := hidX (HI.out.2.1.setCell (p := ⟨w.heap.size + 2, 0, none⟩) (by simp) (.bool true))
              have HK : Hid ((V5.setCell ⟨w.heap.size + 2, 0, none⟩ (.bool true)).heap[D]? = some (.deferred (some []))) := hidX ((setB _ (by omega)).trans HI.out.2.2)
              obtain ⟨r0, rf⟩ := hr
              clear HI KLj p0
              go_wp2
              refine ⟨by simp, .inl ⟨_, _, rfl, run_takeDeferred HK.out, ?_⟩⟩
              obtain ⟨z0, -⟩ := HR.out.kept (grownBy_putObj' _ D (.deferred none)) (fun r e => by cases e; exact ⟨_, HK.out, rfl⟩)
              refine ⟨.bool true, ?_, rfl, HBz.out.trans (belowK_b (w := w) (Nat.le_refl _) _ D _ _ (by omega) HK.out rfl rfl)⟩
              simp [results, Try.results3, go_sem, z0]
        case stop01 =>
          rintro D c pre V hD hpre hi hK
          exact hi.elim
    · rcases hbd with hbd | hbd
      · obtain ⟨h1, h2, h3⟩ := hkk
        have w1 : IntKind.i64.wrap tn = tn := by rw [IntKind.wrap_i64]; omega
        have w2 : IntKind.i64.wrap (tn + (L.length : Int)) = (k : Int) := by rw [IntKind.wrap_i64]; omega
        clear h2 h3
        obtain ⟨g1, g2⟩ := hbd
        subst g2
        have w3 : IntKind.i64.wrap (b : Int) = (b : Int) := by rw [IntKind.wrap_i64]; omega
        have g1 : ¬ (b : Int) < 0 := by omega
        have p0 := at_block HL5.out.2.2.2 0 (.pointer (some ⟨B, 0, none⟩)) rfl
        have b0 := at_block HL5.out.2.1 0 (.int .i64 bits) rfl
        have bf := fr_blk (j := 0) HL5.out.2.1
        have hX2 : ¬ X = w.heap.size + 1 := by have := HXn.out; omega
        have hs : ∀ z, ¬ z = w.heap.size + 1 → (w6.setCell ⟨w.heap.size + 1, 0, none⟩ (.int .i64 (b : Int))).heap[z]? = w6.heap[z]? := fun z hz => by rw [setB _ hz]
        have HB7 := hidX (HB5.out.setCell (p := ⟨w.heap.size + 1, 0, none⟩) (by simp) (.int .i64 (b : Int)))
        have HTr7 := hidX (HTr5.out.heap (hs B (by have := Hvn.out.1; omega)) (hs g (by have := Hvn.out.2.1; omega)) (hs wg (by have := Hvn.out.2.2; omega)))
        have HL7 : Hid ((w6.setCell ⟨w.heap.size + 1, 0, none⟩ (.int .i64 (b : Int))).heap[w.heap.size]? = some (.cells #[.int .i64 F, (.slice ao l.length c)] 24) ∧ (w6.setCell ⟨w.heap.size + 1, 0, none⟩ (.int .i64 (b : Int))).heap[w.heap.size + 1]? = some (.cells #[.int .i64 (b : Int)] 3) ∧ (w6.setCell ⟨w.heap.size + 1, 0, none⟩ (.int .i64 (b : Int))).heap[w.heap.size + 2]? = some (.cells #[.bool false] 4) ∧ (w6.setCell ⟨w.heap.size + 1, 0, none⟩ (.int .i64 (b : Int))).heap[X]? = some (.cells #[.pointer (some ⟨B, 0, none⟩)] 26)) := hidX ⟨(hs _ (by omega)).trans HL5.out.1, by simpa using set_blk (o := 0) HL5.out.2.1 (.int .i64 (b : Int)), (hs _ (by omega)).trans HL5.out.2.2.1, (hs _ hX2).trans HL5.out.2.2.2⟩
        have HT6 := HTr5
        clear HB5 HTr5 HL5 hs
        go_wp2_with fail
        refine (KL w6 HT6.out.tn).mono ?_
        rintro e w7 ⟨rfl, rfl⟩
        go_wp2_with fail
        clear p0 b0 bf hX2 HT6
        revert HB7 HTr7 HL7
        generalize w7.setCell ⟨w.heap.size + 1, 0, none⟩ (.int .i64 (b : Int)) = W7
        intro HB7 HTr7 HL7
        refine (tat8_any Hx.out B g cap wg wc k W7 HTr7.out hkL).mono ?_
        rintro e w8 ⟨rfl, hb⟩
        have HB8 := hidX (keepb hb HB7.out)
        have hT8 := HTr7.out.below hb
        have hL8 := HL7.out
        have c1 := (hb.block _ (blk_lt hL8.1)).trans hL8.1
        have c2 := (hb.block _ (blk_lt hL8.2.1)).trans hL8.2.1
        have c3 := (hb.block _ (blk_lt hL8.2.2.1)).trans hL8.2.2.1
        have c4 := (hb.block _ (blk_lt hL8.2.2.2)).trans hL8.2.2.2
        have q1 := bl1 w8 (.cells #[.int .u64 (hI (pfA ws L k)), .int .u64 (lI (pfA ws L k)), .int .i64 (ln L k)] 34)
        have HB9 := hidX (keepb q1 HB8.out)
        have HTr9 := hidX (hT8.below q1)
        have HL9 : Hid (V9 w F (.slice ao l.length c) (b : Int) false B X w8.heap.size (pfA ws L k) (ln L k) (w8.alloc (.cells #[.int .u64 (hI (pfA ws L k)), .int .u64 (lI (pfA ws L k)), .int .i64 (ln L k)] 34))) := hidX ⟨(q1.block _ (blk_lt c1)).trans c1, (q1.block _ (blk_lt c2)).trans c2, (q1.block _ (blk_lt c3)).trans c3, (q1.block _ (blk_lt c4)).trans c4, Array.getElem?_push_size⟩
        have p0 := at_block c4 0 (.pointer (some ⟨B, 0, none⟩)) rfl
        have b0 := at_block c2 0 (.int .i64 (b : Int)) rfl
        have l1 : X < w8.heap.size := blk_lt c4
        have l2 : w.heap.size + 1 < w8.heap.size := blk_lt c2
        have HPl : Hid (w.heap.size + 2 < w8.heap.size ∧ X < w8.heap.size) := hidX ⟨blk_lt c3, blk_lt c4⟩
        clear hb HB7 HTr7 HL7 HB8 hT8 hL8 c1 c2 c3 c4 q1
        go_wp2_with fail
        clear p0 b0 l1 l2
        revert HB9 HTr9 HL9 HPl
        generalize w8.alloc (.cells #[.int .u64 (hI (pfA ws L k)), .int .u64 (lI (pfA ws L k)), .int .i64 (ln L k)] 34) = W9
        generalize w8.heap.size = Pp
        intro HB9 HTr9 HL9 HPl
        refine (tdown_any B (k : Int) (b : Int) W9).mono ?_
        rintro e w9 ⟨rfl, rfl⟩
        have q1 := bl1 w9 (.cells #[.int .i64 0] 3)
        have q2 := bl1 (w9.alloc (.cells #[.int .i64 0] 3)) (.cells #[.int .i64 (-1)] 3)
        have s1 : (w9.alloc (.cells #[.int .i64 0] 3)).heap.size = w9.heap.size + 1 := by simp
        have HB10 := hidX (keepb q2 (keepb q1 HB9.out))
        have HTr10 := hidX ((HTr9.out.below q1).below q2)
        have HL10 := hidX ((HL9.out.below q1).below q2)
        have HK10 := hidX ((cl1_new w9 w9.heap.size (.int .i64 0) 3 rfl).below q2)
        have HA10 := hidX (cl1_new (w9.alloc (.cells #[.int .i64 0] 3)) (w9.heap.size + 1) (.int .i64 (-1)) 3 s1.symm)
        have HHn : Hid ((w.heap.size + 2 < w9.heap.size ∧ X < w9.heap.size ∧ Pp < w9.heap.size) ∧ B < w9.heap.size ∧ g < w9.heap.size ∧ wg < w9.heap.size) := hidX ⟨⟨blk_lt HL9.out.r, blk_lt HL9.out.p, blk_lt HL9.out.q⟩, cell_in HTr9.out.tn.w, cell_in (HTr9.out.tn.row 0 Hx.out.t.pos).1, cell_in (HTr9.out.wd 0 (by rw [Hx.out.t.wl]; omega)).1⟩
        have E0 := fun W => seqnil9 (.pointer (some ⟨B, 0, none⟩)) (.int .i64 (k : Int)) (.int .i64 (b : Int)) W
        clear q1 q2 s1 HB9 HTr9 HL9
        go_wp2_with fail
        clear E0
        revert HB10 HTr10 HL10 HK10 HA10 HHn
        generalize (w9.alloc (.cells #[.int .i64 0] 3)).alloc (.cells #[.int .i64 (-1)] 3) = Wl
        generalize hHe : w9.heap.size = H
        intro HB10 HTr10 HL10 HK10 HA10 HHn
        clear hHe
        obtain ⟨en, hE, -, -⟩ := Hx.out.t.node hkL
        have hWl : H + 1 < Wl.heap.size := HA10.out.lt
        have hdw : dwnL L (k : Int) (b : Int) = atL L (ln L k + b) k (en - k) := by
          unfold dwnL
          rw [if_pos ⟨by unfold isN; simp; omega, by omega⟩, Int.toNat_natCast]
          exact Hx.out.t.dn b k en hE
        have Hdw := hidX hdw
        have HE := hidX hE
        have hvn := Hvn.out
        have hhn := HHn.out
        clear hdw hE
        refine (wpIn_wide (n := 9)).1 ?_
        refine rangeYA 9 (by decide) (gf := 24) (ba := #[.agg #[.pointer (some ⟨B, 0, none⟩), .int .i64 (k : Int), .int .i64 (b : Int)]]) (lb := #[]) rfl (enters_of Try.func24 (by kernel_rfl) rfl)
          (below_each (9 - 1) (fun z => z = B ∨ z = g) (Wl.heap.size + 2) B F g cap (.slice (some ⟨wg, 0, none⟩) ws.length wc) L (k : Int) (b : Int) (by omega) Wl HTr10.out.tn (.inl (.inl rfl)) (.inl (.inr rfl)) Hx.out.ok (by have := Hx.out.len; omega)) (Nat.le_refl _) (fun A => KW.refl _ _ _) (fun h k => h.trans k) (fun V o o' h1 h2 => kw_put (by rintro (q | q) <;> omega) (by omega) V o o' h1 h2) (Below.refl _ _) (fun _ => rfl)
          (fun pre V => (TrT V B F g cap wg wc L ws ∧ V9 w F (.slice ao l.length c) (b : Int) false B X Pp (pfA ws L k) (ln L k) V ∧ Cl1 V H (.int .i64 (pre.length : Int)) ∧ Cl1 V (H + 1) (.int .i64 (lstI pre))) ∧ Below w.heap.size w V)
          (fun c pre V => False)
          (OwnFrom.and (Own.from (fun s A B row hs hg hr => ⟨hs.1.kept hg hr, hs.2.1.kept hg hr, hs.2.2.1.kept hg hr, hs.2.2.2.kept hg hr⟩) _) (ownFrom_below (Nat.le_refl _) (by omega)))
          (fun c s A B row hs hg hr => hs)
          ⟨⟨HTr10.out, HL10.out, HK10.out, HA10.out⟩, HB10.out⟩
          ?AX10 ?assign10 ?body10 ?done10 ?stop10
        case assign10 =>
          intro lo y V K hK
          unfold encI
          simp only [List.zip_toArray, List.zip_cons_cons, List.zip_nil_left, List.zip_nil_right, List.foldl_toArray, List.foldl_cons, List.foldl_nil, List.setIfInBounds_toArray, List.set_cons_zero, List.set_cons_succ, Array.zip]
          have HKK := hidX hK
          clear hK
          gi_wp2
          exact HKK.out
        case body10 =>
          rintro lo pre y V hl - ⟨⟨hi1, hi2, hi3, hi4⟩, hi5⟩ hlt
          rw [Hdw.out] at hlt
          obtain ⟨m, rfl, m1, m2, m3⟩ := atL_mem L _ k _ y (hlt.subset (by simp))
          have hmE : m < en := by have := HE.out.1; omega
          have hmL : m < L.length := by have := HE.out.2.1; omega
          have hls := lst_lt (atL_inc L (ln L k + b) k (en - k)) hlt (by omega)
          have KA := tat8_any Hx.out B g cap wg wc m V hi1 hmL
          have HW : Hid (Wh9 w B X Pp g wg H Wl.heap.size) := hidX ⟨hhn, hWl⟩
          have HD := hidX (show Rd9 w F (.slice ao l.length c) (b : Int) B X Pp (pfA ws L k) (ln L k) g cap wg wc L ws H Wl.heap.size V (pre.length : Int) (lstI pre) V from ⟨KeepsFrom.refl _ _, KW.refl _ _ _, hi1, hi2, hi3, hi4, hi5⟩)
          have p0 := at_block hi2.p 0 (.pointer (some ⟨B, 0, none⟩)) rfl
          have hb1 := Hx.out.lnF hkL
          have hb2 := Hx.out.lnF hmL
          have hF9 := Hx.out.F0
          have KWi := fun W => rwithin_any (pfA ws L m) (ln L m) (pfA ws L k) (ln L k) W
          rw [within_eq _ _ _ _ hb1.1 (by omega) (by unfold pfA; rw [cut_cut2 _ _ _ hb1.1 (Int.le_refl _)]), (Hx.out.within HE.out hmL).mpr ⟨m1, hmE⟩] at KWi
          have wv : IntKind.i64.wrap (ln L k + (b : Int)) = ln L m := by rw [IntKind.wrap_i64]; omega
          have hle : ¬ (m : Int) ≤ lstI pre := by omega
          have hpl : pre.length ≤ 40000 := by
            have h1 := hlt.length_le
            have h2 := atL_len L (ln L k + b) k (en - k)
            have h3 := HE.out.2.1
            simp only [List.length_append, List.length_singleton] at h1
            omega
          have wn : IntKind.i64.wrap ((pre.length : Int) + 1) = ((pre ++ [(m : Int)]).length : Int) := by
            rw [IntKind.wrap_i64]; simp; omega
          have hl2 := lstI_one pre (m : Int)
          have Hl2 := hidX hl2
          revert wn
          generalize hn2 : ((pre ++ [(m : Int)]).length : Int) = n2
          intro wn
          have Hn2 := hidX hn2
          revert HD hle
          generalize lstI pre = la
          intro HD hle
          have Hm3 := hidX m3
          clear hi1 hi2 hi3 hi4 hi5 hlt hls hn2 hl2 m3 hb1 hb2 hF9 hpl m1 m2
          gi_wp2_with fail
          refine ⟨trivial, ?_⟩
          have KA2 : CallsIn (Fence.wide.inRound lo) 6 Try.prog 9 #[.pointer (some ⟨B, 0, none⟩), .int .i64 (m : Int)] V _ := (callsIn_wide (n := 6)).2 KA
          refine KA2.mono ?_
          clear KA2 KA p0
          rintro e V2 ⟨rfl, hb⟩
          have q2 := bl1 V2 (.cells #[.int .u64 (hI (pfA ws L m)), .int .u64 (lI (pfA ws L m)), .int .i64 (ln L m)] 34)
          have hD2 := HD.out.below hb
          have HD3 := hidX (hD2.below q2)
          obtain ⟨n0, -⟩ := hD2.l
          have y0 := at_block hD2.v9.q 0 (.int .u64 (hI (pfA ws L k))) rfl
          have y1 := at_block hD2.v9.q 1 (.int .u64 (lI (pfA ws L k))) rfl
          have y2 := at_block hD2.v9.q 2 (.int .i64 (ln L k)) rfl
          have z0 := at_block hD2.v9.x 0 (.int .i64 (b : Int)) rfl
          have l1 : H + 1 < V2.heap.size := hD2.l.lt
          have l2 : w.heap.size + 1 < V2.heap.size := blk_lt hD2.v9.x
          have l3 : Pp < V2.heap.size := blk_lt hD2.v9.q
          clear hb q2 hD2 HD
          gi_wp2_with fail
          clear n0 y0 y1 y2 z0 l1 l2 l3
          revert HD3
          generalize V2.alloc (.cells #[.int .u64 (hI (pfA ws L m)), .int .u64 (lI (pfA ws L m)), .int .i64 (ln L m)] 34) = V3
          intro HD3
          refine ⟨trivial, ?_⟩
          have KA2 : CallsIn (Fence.wide.inRound lo) 6 Try.prog 11 #[.agg #[.int .u64 (hI (pfA ws L m)), .int .u64 (lI (pfA ws L m)), .int .i64 (ln L m)], .agg #[.int .u64 (hI (pfA ws L k)), .int .u64 (lI (pfA ws L k)), .int .i64 (ln L k)]] V3 _ := (callsIn_wide (n := 6)).2 (KWi V3)
          refine KA2.mono ?_
          clear KA2 KWi
          rintro e V4 ⟨rfl, hb⟩
          have hD4 := HD3.out.below hb
          obtain ⟨n0, nf⟩ := hD4.l
          obtain ⟨k0, kf⟩ := hD4.k
          have HD5 := hidX ((hD4.setL HW.out (m : Int)).setK HW.out n2)
          clear hb HD3 hD4
          gi_wp2
          exact ⟨HD5.out.k1, HD5.out.k2, ⟨HD5.out.tr, HD5.out.v9, by rw [Hn2.out]; exact HD5.out.k, by rw [Hl2.out]; exact HD5.out.l⟩, HD5.out.b⟩
        case done10 =>
          rintro D ys V hD rfl ⟨⟨hi1, hi2, hi3, hi4⟩, hi5⟩ hK
          have hdl : ((dwnL L (k : Int) (b : Int)).length : Int) = ((atL L (ln L k + b) k (en - k)).length : Int) := by rw [Hdw.out]
          rw [hdl] at hi3
          obtain ⟨v0, hv0⟩ : ∃ v0, v0 = ln L k + (b : Int) := ⟨_, rfl⟩
          rw [← hv0] at hi3
          obtain ⟨tot, htot⟩ : ∃ tot : Int, tot = ((atL L v0 k (en - k)).length : Int) := ⟨_, rfl⟩
          rw [← htot] at hi3
          have hb1 := Hx.out.lnF hkL
          have hF9 := Hx.out.F0
          have wv : IntKind.i64.wrap (ln L k + (b : Int)) = v0 := by rw [← hv0, IntKind.wrap_i64]; omega
          have HS : Hid (∀ j, j ≤ L.length → cwD L v0 k en j ≤ tot ∧ tot ≤ 40000) := hidX (fun j hj => by
            have h3 := HE.out.2.1
            have h2 := atL_len L v0 k (en - k)
            have h4 := cwD_bd L v0 k en j
            refine ⟨?_, by omega⟩
            rw [htot]
            unfold cwD
            have e1 := HE.out.1
            by_cases q : j < k
            · rw [show min j en - k = 0 by omega]; simp [atL]
            · have := atL_add L v0 k (min j en - k) (en - k - (min j en - k))
              rw [show min j en - k + (en - k - (min j en - k)) = en - k by omega] at this
              rw [this, List.length_append]; omega)
          have H0 := hidX (And.intro (show cwD L v0 k en 0 = 0 from cwD_zero L v0 k en) (show cwD L v0 k en L.length = tot by rw [cwD_end L v0 k en L.length HE.out.2.1, htot]))
          have Hv0 := hidX hv0
          have hDn : w.heap.size + 2 < D ∧ H + 1 < D := by have := HHn.out.1.1; omega
          have hP9 : Hid (∀ A A' : World, ∀ kv, ((TrT A B F g cap wg wc L ws ∧ V9 w F (.slice ao l.length c) (b : Int) false B X Pp (pfA ws L k) (ln L k) A ∧ Cl1 A H (.int .i64 kv)) ∧ Below w.heap.size w A ∧ A.heap[D]? = some (.deferred (some []))) → Below A.heap.size A A' → ((TrT A' B F g cap wg wc L ws ∧ V9 w F (.slice ao l.length c) (b : Int) false B X Pp (pfA ws L k) (ln L k) A' ∧ Cl1 A' H (.int .i64 kv)) ∧ Below w.heap.size w A' ∧ A'.heap[D]? = some (.deferred (some [])))) := hidX (fun A A' kv h hb => ⟨⟨h.1.1.below hb, h.1.2.1.below hb, h.1.2.2.below hb⟩, keepb hb h.2.1, (hb.block _ (blk_lt h.2.2)).trans h.2.2⟩)
          have HI := hidX (And.intro (And.intro hi1 (And.intro hi2 hi3)) (And.intro hi5 hK))
          clear hi1 hi2 hi3 hi4 hi5 hK hdl hv0 htot hb1 hF9
          refine wl_nil8 (P := Try.prog) (ops := #[]) ?_
          go_wp2_with fail
          go_loopw [16] (fun i wr => ∃ j : Nat, j ≤ L.length ∧ i = .int .i64 j ∧ Hid ((TrT wr B F g cap wg wc L ws ∧ V9 w F (.slice ao l.length c) (b : Int) false B X Pp (pfA ws L k) (ln L k) wr ∧ Cl1 wr H (.int .i64 (tot - cwD L v0 k en j))) ∧ Below w.heap.size w wr ∧ wr.heap[D]? = some (.deferred (some [])))) (fun i _ => L.length - (intOf i).toNat)
          case atStart => exact ⟨0, by omega, rfl, by rw [H0.out.1, Int.sub_zero]; exact HI⟩
          case round =>
            clear HI
            obtain ⟨j, hj, rfl, HI⟩ := hrel
            have p0 := at_block HI.out.1.2.1.p 0 (.pointer (some ⟨B, 0, none⟩)) rfl
            by_cases hlt : (j : Int) < (L.length : Int)
            · have hjs : j < L.length := by omega
              have Hjs := hidR hjs
              have hst := cwD_step L v0 k en j
              have w10 : IntKind.i64.wrap ((j : Int) + 1) = ((j + 1 : Nat) : Int) := by rw [IntKind.wrap_i64]; push_cast; omega
              have KLj := KL wr HI.out.1.1.tn
              have KAj := tat8_any Hx.out B g cap wg wc j wr HI.out.1.1 hjs
              have hsb := HS.out j (by omega)
              have hs1 := HS.out (j + 1) (by omega)
              have hcb := (cwD_bd L v0 k en j).1
              have hbj := Hx.out.lnF hjs
              have hbk := Hx.out.lnF hkL
              have hF9 := Hx.out.F0
              have KWi := fun W => rwithin_any (pfA ws L j) (ln L j) (pfA ws L k) (ln L k) W
              rw [within_eq _ _ _ _ hbk.1 (by omega) (by unfold pfA; rw [cut_cut2 _ _ _ hbk.1 (Int.le_refl _)])] at KWi
              have hwi := Hx.out.within HE.out hjs
              clear hbj hbk hF9
              go_wp2_with fail
              refine KLj.mono ?_
              rintro e V5 ⟨rfl, rfl⟩
              clear KLj
              go_wp2_with fail
              refine KAj.mono ?_
              rintro e V6 ⟨rfl, hb⟩
              have hI6 := hP9.out _ _ _ HI.out hb
              have q6 := bl1 V6 (.cells #[.int .u64 (hI (pfA ws L j)), .int .u64 (lI (pfA ws L j)), .int .i64 (ln L j)] 34)
              have HI7 := hidX (hP9.out _ _ _ hI6 q6)
              have y0 := at_block hI6.1.2.1.q 0 (.int .u64 (hI (pfA ws L k))) rfl
              have y1 := at_block hI6.1.2.1.q 1 (.int .u64 (lI (pfA ws L k))) rfl
              have y2 := at_block hI6.1.2.1.q 2 (.int .i64 (ln L k)) rfl
              have z0 := at_block hI6.1.2.1.x 0 (.int .i64 (b : Int)) rfl
              have l2 : w.heap.size + 1 < V6.heap.size := blk_lt hI6.1.2.1.x
              have l3 : Pp < V6.heap.size := blk_lt hI6.1.2.1.q
              clear hb hI6 q6 HI KAj p0
              by_cases c : ln L j = v0
              · have c' : (ln L j == v0) = true := by simpa using c
                have Hc := hidX c
                clear c
                go_wp2_with fail
                clear y0 y1 y2 z0 l2 l3
                revert HI7
                generalize V6.alloc (.cells #[.int .u64 (hI (pfA ws L j)), .int .u64 (lI (pfA ws L j)), .int .i64 (ln L j)] 34) = V7
                intro HI7
                refine (KWi V7).mono ?_
                rintro e V8 ⟨rfl, hb⟩
                have HI8 := hidX (hP9.out _ _ _ HI7.out hb)
                clear hb HI7 KWi
                by_cases d : k ≤ j ∧ j < en
                · rw [hwi.mpr d]
                  rw [if_pos ⟨d, Hc.out⟩] at hst
                  have wk : IntKind.i64.wrap (tot - cwD L v0 k en j - 1) = tot - cwD L v0 k en (j + 1) := by rw [IntKind.wrap_i64, hst]; omega
                  obtain ⟨k0, kf⟩ := HI8.out.1.2.2
                  have hW9 := HHn.out
                  have HI9 : Hid ((TrT (V8.setCell ⟨H, 0, none⟩ (.int .i64 (tot - cwD L v0 k en (j + 1)))) B F g cap wg wc L ws ∧ V9 w F (.slice ao l.length c) (b : Int) false B X Pp (pfA ws L k) (ln L k) (V8.setCell ⟨H, 0, none⟩ (.int .i64 (tot - cwD L v0 k en (j + 1)))) ∧ Cl1 (V8.setCell ⟨H, 0, none⟩ (.int .i64 (tot - cwD L v0 k en (j + 1)))) H (.int .i64 (tot - cwD L v0 k en (j + 1)))) ∧ Below w.heap.size w (V8.setCell ⟨H, 0, none⟩ (.int .i64 (tot - cwD L v0 k en (j + 1)))) ∧ (V8.setCell ⟨H, 0, none⟩ (.int .i64 (tot - cwD L v0 k en (j + 1)))).heap[D]? = some (.deferred (some []))) := hidX ⟨⟨HI8.out.1.1.heap (setB _ (by omega)) (setB _ (by omega)) (setB _ (by omega)), HI8.out.1.2.1.set _ (by omega) (by omega) (by omega) (by omega) (by omega), HI8.out.1.2.2.set _⟩, HI8.out.2.1.setCell (p := ⟨H, 0, none⟩) (by show w.heap.size ≤ H; omega) _, (setB _ (by omega)).trans HI8.out.2.2⟩
                  clear HI8 hW9 hst hsb hs1 hcb hwi d
                  go_wp2
                  go_roundw
                  case rel => exact ⟨j + 1, by have := Hjs.out; omega, rfl, HI9⟩
                  case measure => simp [intOf]; have := Hjs.out; omega
                · have hwf : withinB (pfA ws L j) (ln L j) (pfA ws L k) (ln L k) = false := by
                    cases hz : withinB (pfA ws L j) (ln L j) (pfA ws L k) (ln L k)
                    · rfl
                    · exact absurd (hwi.mp hz) d
                  rw [hwf]
                  rw [if_neg (fun q => d q.1), Int.add_zero] at hst
                  have Hst := hidX hst
                  clear hst hsb hs1 hcb hwi d hwf
                  go_wp2
                  go_roundw
                  case rel => exact ⟨j + 1, by have := Hjs.out; omega, rfl, by rw [Hst.out]; exact HI8⟩
                  case measure => simp [intOf]; have := Hjs.out; omega
              · have c' : (ln L j == v0) = false := by simpa using c
                rw [if_neg (fun q => c q.2), Int.add_zero] at hst
                have Hst := hidX hst
                clear c hst hsb hs1 hcb hwi KWi
                go_wp2
                go_roundw
                case rel => exact ⟨j + 1, by have := Hjs.out; omega, rfl, by rw [Hst.out]; exact HI7⟩
                case measure => simp [intOf]; have := Hjs.out; omega
            · have hje : j = L.length := by omega
              subst hje
              rw [H0.out.2, Int.sub_self] at HI
              have hd : decide ((L.length : Int) < (L.length : Int)) = false := decide_eq_false hlt
              have KLj := KL wr HI.out.1.1.tn
              go_wp2_with fail
              refine KLj.mono ?_
              rintro e V5 ⟨rfl, rfl⟩
              obtain ⟨k0, -⟩ := HI.out.1.2.2
              have hr : Cl1 V5 (w.heap.size + 2) (.bool false) := ⟨at_block HI.out.1.2.1.r 0 _ rfl, fr_blk HI.out.1.2.1.r⟩
              have HR := hidX (hr.set (.bool true))
              have HBz := hidX (HI.out.2.1.setCell (p := ⟨w.heap.size + 2, 0, none⟩) (by simp) (.bool true))
              have HK : Hid ((V5.setCell ⟨w.heap.size + 2, 0, none⟩ (.bool true)).heap[D]? = some (.deferred (some []))) := hidX ((setB _ (by omega)).trans HI.out.2.2)
              obtain ⟨r0, rf⟩ := hr
              clear HI KLj p0
              go_wp2
              refine ⟨by simp, .inl ⟨_, _, rfl, run_takeDeferred HK.out, ?_⟩⟩
              obtain ⟨z0, -⟩ := HR.out.kept (grownBy_putObj' _ D (.deferred none)) (fun r e => by cases e; exact ⟨_, HK.out, rfl⟩)
              refine ⟨.bool true, ?_, rfl, HBz.out.trans (belowK_b (w := w) (Nat.le_refl _) _ D _ _ (by omega) HK.out rfl rfl)⟩
              simp [results, Try.results3, go_sem, z0]
        case stop10 =>
          rintro D c pre V hD hpre hi hK
          exact hi.elim
      · obtain ⟨h1, h2, h3⟩ := hkk
        have w1 : IntKind.i64.wrap tn = tn := by rw [IntKind.wrap_i64]; omega
        have w2 : IntKind.i64.wrap (tn + (L.length : Int)) = (k : Int) := by rw [IntKind.wrap_i64]; omega
        clear h2 h3
        obtain ⟨g1, g2⟩ := hbd
        have w3 : IntKind.i64.wrap tb = tb := by rw [IntKind.wrap_i64]; omega
        have w4 : IntKind.i64.wrap (-tb) = (b : Int) := by rw [IntKind.wrap_i64]; omega
        have w5 : IntKind.i64.wrap (0 - tb) = (b : Int) := by rw [IntKind.wrap_i64]; omega
        clear g2
        have p0 := at_block HL5.out.2.2.2 0 (.pointer (some ⟨B, 0, none⟩)) rfl
        have b0 := at_block HL5.out.2.1 0 (.int .i64 bits) rfl
        have bf := fr_blk (j := 0) HL5.out.2.1
        have hX2 : ¬ X = w.heap.size + 1 := by have := HXn.out; omega
        have hs : ∀ z, ¬ z = w.heap.size + 1 → ((w6.setCell ⟨w.heap.size + 1, 0, none⟩ (.int .i64 tb)).setCell ⟨w.heap.size + 1, 0, none⟩ (.int .i64 (b : Int))).heap[z]? = w6.heap[z]? := fun z hz => by rw [setB _ hz, setB _ hz]
        have HB7 := hidX ((HB5.out.setCell (p := ⟨w.heap.size + 1, 0, none⟩) (by simp) (.int .i64 tb)).setCell (p := ⟨w.heap.size + 1, 0, none⟩) (by simp) (.int .i64 (b : Int)))
        have HTr7 := hidX (HTr5.out.heap (hs B (by have := Hvn.out.1; omega)) (hs g (by have := Hvn.out.2.1; omega)) (hs wg (by have := Hvn.out.2.2; omega)))
        have HL7 : Hid (((w6.setCell ⟨w.heap.size + 1, 0, none⟩ (.int .i64 tb)).setCell ⟨w.heap.size + 1, 0, none⟩ (.int .i64 (b : Int))).heap[w.heap.size]? = some (.cells #[.int .i64 F, (.slice ao l.length c)] 24) ∧ ((w6.setCell ⟨w.heap.size + 1, 0, none⟩ (.int .i64 tb)).setCell ⟨w.heap.size + 1, 0, none⟩ (.int .i64 (b : Int))).heap[w.heap.size + 1]? = some (.cells #[.int .i64 (b : Int)] 3) ∧ ((w6.setCell ⟨w.heap.size + 1, 0, none⟩ (.int .i64 tb)).setCell ⟨w.heap.size + 1, 0, none⟩ (.int .i64 (b : Int))).heap[w.heap.size + 2]? = some (.cells #[.bool false] 4) ∧ ((w6.setCell ⟨w.heap.size + 1, 0, none⟩ (.int .i64 tb)).setCell ⟨w.heap.size + 1, 0, none⟩ (.int .i64 (b : Int))).heap[X]? = some (.cells #[.pointer (some ⟨B, 0, none⟩)] 26)) := hidX ⟨(hs _ (by omega)).trans HL5.out.1, by simpa using set_blk (o := 0) (set_blk (o := 0) HL5.out.2.1 (.int .i64 tb)) (.int .i64 (b : Int)), (hs _ (by omega)).trans HL5.out.2.2.1, (hs _ hX2).trans HL5.out.2.2.2⟩
        have HT6 := HTr5
        clear HB5 HTr5 HL5 hs
        go_wp2_with fail
        refine (KL w6 HT6.out.tn).mono ?_
        rintro e w7 ⟨rfl, rfl⟩
        go_wp2_with fail
        clear p0 b0 bf hX2 HT6
        revert HB7 HTr7 HL7
        generalize (w7.setCell ⟨w.heap.size + 1, 0, none⟩ (.int .i64 tb)).setCell ⟨w.heap.size + 1, 0, none⟩ (.int .i64 (b : Int)) = W7
        intro HB7 HTr7 HL7
        refine (tat8_any Hx.out B g cap wg wc k W7 HTr7.out hkL).mono ?_
        rintro e w8 ⟨rfl, hb⟩
        have HB8 := hidX (keepb hb HB7.out)
        have hT8 := HTr7.out.below hb
        have hL8 := HL7.out
        have c1 := (hb.block _ (blk_lt hL8.1)).trans hL8.1
        have c2 := (hb.block _ (blk_lt hL8.2.1)).trans hL8.2.1
        have c3 := (hb.block _ (blk_lt hL8.2.2.1)).trans hL8.2.2.1
        have c4 := (hb.block _ (blk_lt hL8.2.2.2)).trans hL8.2.2.2
        have q1 := bl1 w8 (.cells #[.int .u64 (hI (pfA ws L k)), .int .u64 (lI (pfA ws L k)), .int .i64 (ln L k)] 34)
        have HB9 := hidX (keepb q1 HB8.out)
        have HTr9 := hidX (hT8.below q1)
        have HL9 : Hid (V9 w F (.slice ao l.length c) (b : Int) false B X w8.heap.size (pfA ws L k) (ln L k) (w8.alloc (.cells #[.int .u64 (hI (pfA ws L k)), .int .u64 (lI (pfA ws L k)), .int .i64 (ln L k)] 34))) := hidX ⟨(q1.block _ (blk_lt c1)).trans c1, (q1.block _ (blk_lt c2)).trans c2, (q1.block _ (blk_lt c3)).trans c3, (q1.block _ (blk_lt c4)).trans c4, Array.getElem?_push_size⟩
        have p0 := at_block c4 0 (.pointer (some ⟨B, 0, none⟩)) rfl
        have b0 := at_block c2 0 (.int .i64 (b : Int)) rfl
        have l1 : X < w8.heap.size := blk_lt c4
        have l2 : w.heap.size + 1 < w8.heap.size := blk_lt c2
        have HPl : Hid (w.heap.size + 2 < w8.heap.size ∧ X < w8.heap.size) := hidX ⟨blk_lt c3, blk_lt c4⟩
        clear hb HB7 HTr7 HL7 HB8 hT8 hL8 c1 c2 c3 c4 q1
        go_wp2_with fail
        clear p0 b0 l1 l2
        revert HB9 HTr9 HL9 HPl
        generalize w8.alloc (.cells #[.int .u64 (hI (pfA ws L k)), .int .u64 (lI (pfA ws L k)), .int .i64 (ln L k)] 34) = W9
        generalize w8.heap.size = Pp
        intro HB9 HTr9 HL9 HPl
        refine (tdown_any B (k : Int) (b : Int) W9).mono ?_
        rintro e w9 ⟨rfl, rfl⟩
        have q1 := bl1 w9 (.cells #[.int .i64 0] 3)
        have q2 := bl1 (w9.alloc (.cells #[.int .i64 0] 3)) (.cells #[.int .i64 (-1)] 3)
        have s1 : (w9.alloc (.cells #[.int .i64 0] 3)).heap.size = w9.heap.size + 1 := by simp
        have HB10 := hidX (keepb q2 (keepb q1 HB9.out))
        have HTr10 := hidX ((HTr9.out.below q1).below q2)
        have HL10 := hidX ((HL9.out.below q1).below q2)
        have HK10 := hidX ((cl1_new w9 w9.heap.size (.int .i64 0) 3 rfl).below q2)
        have HA10 := hidX (cl1_new (w9.alloc (.cells #[.int .i64 0] 3)) (w9.heap.size + 1) (.int .i64 (-1)) 3 s1.symm)
        have HHn : Hid ((w.heap.size + 2 < w9.heap.size ∧ X < w9.heap.size ∧ Pp < w9.heap.size) ∧ B < w9.heap.size ∧ g < w9.heap.size ∧ wg < w9.heap.size) := hidX ⟨⟨blk_lt HL9.out.r, blk_lt HL9.out.p, blk_lt HL9.out.q⟩, cell_in HTr9.out.tn.w, cell_in (HTr9.out.tn.row 0 Hx.out.t.pos).1, cell_in (HTr9.out.wd 0 (by rw [Hx.out.t.wl]; omega)).1⟩
        have E0 := fun W => seqnil9 (.pointer (some ⟨B, 0, none⟩)) (.int .i64 (k : Int)) (.int .i64 (b : Int)) W
        clear q1 q2 s1 HB9 HTr9 HL9
        go_wp2_with fail
        clear E0
        revert HB10 HTr10 HL10 HK10 HA10 HHn
        generalize (w9.alloc (.cells #[.int .i64 0] 3)).alloc (.cells #[.int .i64 (-1)] 3) = Wl
        generalize hHe : w9.heap.size = H
        intro HB10 HTr10 HL10 HK10 HA10 HHn
        clear hHe
        obtain ⟨en, hE, -, -⟩ := Hx.out.t.node hkL
        have hWl : H + 1 < Wl.heap.size := HA10.out.lt
        have hdw : dwnL L (k : Int) (b : Int) = atL L (ln L k + b) k (en - k) := by
          unfold dwnL
          rw [if_pos ⟨by unfold isN; simp; omega, by omega⟩, Int.toNat_natCast]
          exact Hx.out.t.dn b k en hE
        have Hdw := hidX hdw
        have HE := hidX hE
        have hvn := Hvn.out
        have hhn := HHn.out
        clear hdw hE
        refine (wpIn_wide (n := 9)).1 ?_
        refine rangeYA 9 (by decide) (gf := 24) (ba := #[.agg #[.pointer (some ⟨B, 0, none⟩), .int .i64 (k : Int), .int .i64 (b : Int)]]) (lb := #[]) rfl (enters_of Try.func24 (by kernel_rfl) rfl)
          (below_each (9 - 1) (fun z => z = B ∨ z = g) (Wl.heap.size + 2) B F g cap (.slice (some ⟨wg, 0, none⟩) ws.length wc) L (k : Int) (b : Int) (by omega) Wl HTr10.out.tn (.inl (.inl rfl)) (.inl (.inr rfl)) Hx.out.ok (by have := Hx.out.len; omega)) (Nat.le_refl _) (fun A => KW.refl _ _ _) (fun h k => h.trans k) (fun V o o' h1 h2 => kw_put (by rintro (q | q) <;> omega) (by omega) V o o' h1 h2) (Below.refl _ _) (fun _ => rfl)
          (fun pre V => (TrT V B F g cap wg wc L ws ∧ V9 w F (.slice ao l.length c) (b : Int) false B X Pp (pfA ws L k) (ln L k) V ∧ Cl1 V H (.int .i64 (pre.length : Int)) ∧ Cl1 V (H + 1) (.int .i64 (lstI pre))) ∧ Below w.heap.size w V)
          (fun c pre V => False)
          (OwnFrom.and (Own.from (fun s A B row hs hg hr => ⟨hs.1.kept hg hr, hs.2.1.kept hg hr, hs.2.2.1.kept hg hr, hs.2.2.2.kept hg hr⟩) _) (ownFrom_below (Nat.le_refl _) (by omega)))
          (fun c s A B row hs hg hr => hs)
          ⟨⟨HTr10.out, HL10.out, HK10.out, HA10.out⟩, HB10.out⟩
          ?AX11 ?assign11 ?body11 ?done11 ?stop11
        case assign11 =>
          intro lo y V K hK
          unfold encI
          simp only [List.zip_toArray, List.zip_cons_cons, List.zip_nil_left, List.zip_nil_right, List.foldl_toArray, List.foldl_cons, List.foldl_nil, List.setIfInBounds_toArray, List.set_cons_zero, List.set_cons_succ, Array.zip]
          have HKK := hidX hK
          clear hK
          gi_wp2
          exact HKK.out
        case body11 =>
          rintro lo pre y V hl - ⟨⟨hi1, hi2, hi3, hi4⟩, hi5⟩ hlt
          rw [Hdw.out] at hlt
          obtain ⟨m, rfl, m1, m2, m3⟩ := atL_mem L _ k _ y (hlt.subset (by simp))
          have hmE : m < en := by have := HE.out.1; omega
          have hmL : m < L.length := by have := HE.out.2.1; omega
          have hls := lst_lt (atL_inc L (ln L k + b) k (en - k)) hlt (by omega)
          have KA := tat8_any Hx.out B g cap wg wc m V hi1 hmL
          have HW : Hid (Wh9 w B X Pp g wg H Wl.heap.size) := hidX ⟨hhn, hWl⟩
          have HD := hidX (show Rd9 w F (.slice ao l.length c) (b : Int) B X Pp (pfA ws L k) (ln L k) g cap wg wc L ws H Wl.heap.size V (pre.length : Int) (lstI pre) V from ⟨KeepsFrom.refl _ _, KW.refl _ _ _, hi1, hi2, hi3, hi4, hi5⟩)
          have p0 := at_block hi2.p 0 (.pointer (some ⟨B, 0, none⟩)) rfl
          have hb1 := Hx.out.lnF hkL
          have hb2 := Hx.out.lnF hmL
          have hF9 := Hx.out.F0
          have KWi := fun W => rwithin_any (pfA ws L m) (ln L m) (pfA ws L k) (ln L k) W
          rw [within_eq _ _ _ _ hb1.1 (by omega) (by unfold pfA; rw [cut_cut2 _ _ _ hb1.1 (Int.le_refl _)]), (Hx.out.within HE.out hmL).mpr ⟨m1, hmE⟩] at KWi
          have wv : IntKind.i64.wrap (ln L k + (b : Int)) = ln L m := by rw [IntKind.wrap_i64]; omega
          have hle : ¬ (m : Int) ≤ lstI pre := by omega
          have hpl : pre.length ≤ 40000 := by
            have h1 := hlt.length_le
            have h2 := atL_len L (ln L k + b) k (en - k)
            have h3 := HE.out.2.1
            simp only [List.length_append, List.length_singleton] at h1
            omega
          have wn : IntKind.i64.wrap ((pre.length : Int) + 1) = ((pre ++ [(m : Int)]).length : Int) := by
            rw [IntKind.wrap_i64]; simp; omega
          have hl2 := lstI_one pre (m : Int)
          have Hl2 := hidX hl2
          revert wn
          generalize hn2 : ((pre ++ [(m : Int)]).length : Int) = n2
          intro wn
          have Hn2 := hidX hn2
          revert HD hle
          generalize lstI pre = la
          intro HD hle
          have Hm3 := hidX m3
          clear hi1 hi2 hi3 hi4 hi5 hlt hls hn2 hl2 m3 hb1 hb2 hF9 hpl m1 m2
          gi_wp2_with fail
          refine ⟨trivial, ?_⟩
          have KA2 : CallsIn (Fence.wide.inRound lo) 6 Try.prog 9 #[.pointer (some ⟨B, 0, none⟩), .int .i64 (m : Int)] V _ := (callsIn_wide (n := 6)).2 KA
          refine KA2.mono ?_
          clear KA2 KA p0
          rintro e V2 ⟨rfl, hb⟩
          have q2 := bl1 V2 (.cells #[.int .u64 (hI (pfA ws L m)), .int .u64 (lI (pfA ws L m)), .int .i64 (ln L m)] 34)
          have hD2 := HD.out.below hb
          have HD3 := hidX (hD2.below q2)
          obtain ⟨n0, -⟩ := hD2.l
          have y0 := at_block hD2.v9.q 0 (.int .u64 (hI (pfA ws L k))) rfl
          have y1 := at_block hD2.v9.q 1 (.int .u64 (lI (pfA ws L k))) rfl
          have y2 := at_block hD2.v9.q 2 (.int .i64 (ln L k)) rfl
          have z0 := at_block hD2.v9.x 0 (.int .i64 (b : Int)) rfl
          have l1 : H + 1 < V2.heap.size := hD2.l.lt
          have l2 : w.heap.size + 1 < V2.heap.size := blk_lt hD2.v9.x
          have l3 : Pp < V2.heap.size := blk_lt hD2.v9.q
          clear hb q2 hD2 HD
          gi_wp2_with fail
          clear n0 y0 y1 y2 z0 l1 l2 l3
          revert HD3
          generalize V2.alloc (.cells #[.int .u64 (hI (pfA ws L m)), .int .u64 (lI (pfA ws L m)), .int .i64 (ln L m)] 34) = V3
          intro HD3
          refine ⟨trivial, ?_⟩
          have KA2 : CallsIn (Fence.wide.inRound lo) 6 Try.prog 11 #[.agg #[.int .u64 (hI (pfA ws L m)), .int .u64 (lI (pfA ws L m)), .int .i64 (ln L m)], .agg #[.int .u64 (hI (pfA ws L k)), .int .u64 (lI (pfA ws L k)), .int .i64 (ln L k)]] V3 _ := (callsIn_wide (n := 6)).2 (KWi V3)
          refine KA2.mono ?_
          clear KA2 KWi
          rintro e V4 ⟨rfl, hb⟩
          have hD4 := HD3.out.below hb
          obtain ⟨n0, nf⟩ := hD4.l
          obtain ⟨k0, kf⟩ := hD4.k
          have HD5 := hidX ((hD4.setL HW.out (m : Int)).setK HW.out n2)
          clear hb HD3 hD4
          gi_wp2
          exact ⟨HD5.out.k1, HD5.out.k2, ⟨HD5.out.tr, HD5.out.v9, by rw [Hn2.out]; exact HD5.out.k, by rw [Hl2.out]; exact HD5.out.l⟩, HD5.out.b⟩
        case done11 =>
          rintro D ys V hD rfl ⟨⟨hi1, hi2, hi3, hi4⟩, hi5⟩ hK
          have hdl : ((dwnL L (k : Int) (b : Int)).length : Int) = ((atL L (ln L k + b) k (en - k)).length : Int) := by rw [Hdw.out]
          rw [hdl] at hi3
          obtain ⟨v0, hv0⟩ : ∃ v0, v0 = ln L k + (b : Int) := ⟨_, rfl⟩
          rw [← hv0] at hi3
          obtain ⟨tot, htot⟩ : ∃ tot : Int, tot = ((atL L v0 k (en - k)).length : Int) := ⟨_, rfl⟩
          rw [← htot] at hi3
          have hb1 := Hx.out.lnF hkL
          have hF9 := Hx.out.F0
          have wv : IntKind.i64.wrap (ln L k + (b : Int)) = v0 := by rw [← hv0, IntKind.wrap_i64]; omega
          have HS : Hid (∀ j, j ≤ L.length → cwD L v0 k en j ≤ tot ∧ tot ≤ 40000) := hidX (fun j hj => by
            have h3 := HE.out.2.1
            have h2 := atL_len L v0 k (en - k)
            have h4 := cwD_bd L v0 k en j
            refine ⟨?_, by omega⟩
            rw [htot]
            unfold cwD
            have e1 := HE.out.1
            by_cases q : j < k
            · rw [show min j en - k = 0 by omega]; simp [atL]
            · have := atL_add L v0 k (min j en - k) (en - k - (min j en - k))
              rw [show min j en - k + (en - k - (min j en - k)) = en - k by omega] at this
              rw [this, List.length_append]; omega)
          have H0 := hidX (And.intro (show cwD L v0 k en 0 = 0 from cwD_zero L v0 k en) (show cwD L v0 k en L.length = tot by rw [cwD_end L v0 k en L.length HE.out.2.1, htot]))
          have Hv0 := hidX hv0
          have hDn : w.heap.size + 2 < D ∧ H + 1 < D := by have := HHn.out.1.1; omega
          have hP9 : Hid (∀ A A' : World, ∀ kv, ((TrT A B F g cap wg wc L ws ∧ V9 w F (.slice ao l.length c) (b : Int) false B X Pp (pfA ws L k) (ln L k) A ∧ Cl1 A H (.int .i64 kv)) ∧ Below w.heap.size w A ∧ A.heap[D]? = some (.deferred (some []))) → Below A.heap.size A A' → ((TrT A' B F g cap wg wc L ws ∧ V9 w F (.slice ao l.length c) (b : Int) false B X Pp (pfA ws L k) (ln L k) A' ∧ Cl1 A' H (.int .i64 kv)) ∧ Below w.heap.size w A' ∧ A'.heap[D]? = some (.deferred (some [])))) := hidX (fun A A' kv h hb => ⟨⟨h.1.1.below hb, h.1.2.1.below hb, h.1.2.2.below hb⟩, keepb hb h.2.1, (hb.block _ (blk_lt h.2.2)).trans h.2.2⟩)
          have HI := hidX (And.intro (And.intro hi1 (And.intro hi2 hi3)) (And.intro hi5 hK))
          clear hi1 hi2 hi3 hi4 hi5 hK hdl hv0 htot hb1 hF9
          refine wl_nil8 (P := Try.prog) (ops := #[]) ?_
          go_wp2_with fail
          go_loopw [16] (fun i wr => ∃ j : Nat, j ≤ L.length ∧ i = .int .i64 j ∧ Hid ((TrT wr B F g cap wg wc L ws ∧ V9 w F (.slice ao l.length c) (b : Int) false B X Pp (pfA ws L k) (ln L k) wr ∧ Cl1 wr H (.int .i64 (tot - cwD L v0 k en j))) ∧ Below w.heap.size w wr ∧ wr.heap[D]? = some (.deferred (some [])))) (fun i _ => L.length - (intOf i).toNat)
          case atStart => exact ⟨0, by omega, rfl, by rw [H0.out.1, Int.sub_zero]; exact HI⟩
          case round =>
            clear HI
            obtain ⟨j, hj, rfl, HI⟩ := hrel
            have p0 := at_block HI.out.1.2.1.p 0 (.pointer (some ⟨B, 0, none⟩)) rfl
            by_cases hlt : (j : Int) < (L.length : Int)
            · have hjs : j < L.length := by omega
              have Hjs := hidR hjs
              have hst := cwD_step L v0 k en j
              have w10 : IntKind.i64.wrap ((j : Int) + 1) = ((j + 1 : Nat) : Int) := by rw [IntKind.wrap_i64]; push_cast; omega
              have KLj := KL wr HI.out.1.1.tn
              have KAj := tat8_any Hx.out B g cap wg wc j wr HI.out.1.1 hjs
              have hsb := HS.out j (by omega)
              have hs1 := HS.out (j + 1) (by omega)
              have hcb := (cwD_bd L v0 k en j).1
              have hbj := Hx.out.lnF hjs
              have hbk := Hx.out.lnF hkL
              have hF9 := Hx.out.F0
              have KWi := fun W => rwithin_any (pfA ws L j) (ln L j) (pfA ws L k) (ln L k) W
              rw [within_eq _ _ _ _ hbk.1 (by omega) (by unfold pfA; rw [cut_cut2 _ _ _ hbk.1 (Int.le_refl _)])] at KWi
              have hwi := Hx.out.within HE.out hjs
              clear hbj hbk hF9
              go_wp2_with fail
              refine KLj.mono ?_
              rintro e V5 ⟨rfl, rfl⟩
              clear KLj
              go_wp2_with fail
              refine KAj.mono ?_
              rintro e V6 ⟨rfl, hb⟩
              have hI6 := hP9.out _ _ _ HI.out hb
              have q6 := bl1 V6 (.cells #[.int .u64 (hI (pfA ws L j)), .int .u64 (lI (pfA ws L j)), .int .i64 (ln L j)] 34)
              have HI7 := hidX (hP9.out _ _ _ hI6 q6)
              have y0 := at_block hI6.1.2.1.q 0 (.int .u64 (hI (pfA ws L k))) rfl
              have y1 := at_block hI6.1.2.1.q 1 (.int .u64 (lI (pfA ws L k))) rfl
              have y2 := at_block hI6.1.2.1.q 2 (.int .i64 (ln L k)) rfl
              have z0 := at_block hI6.1.2.1.x 0 (.int .i64 (b : Int)) rfl
              have l2 : w.heap.size + 1 < V6.heap.size := blk_lt hI6.1.2.1.x
              have l3 : Pp < V6.heap.size := blk_lt hI6.1.2.1.q
              clear hb hI6 q6 HI KAj p0
              by_cases c : ln L j = v0
              · have c' : (ln L j == v0) = true := by simpa using c
                have Hc := hidX c
                clear c
                go_wp2_with fail
                clear y0 y1 y2 z0 l2 l3
                revert HI7
                generalize V6.alloc (.cells #[.int .u64 (hI (pfA ws L j)), .int .u64 (lI (pfA ws L j)), .int .i64 (ln L j)] 34) = V7
                intro HI7
                refine (KWi V7).mono ?_
                rintro e V8 ⟨rfl, hb⟩
                have HI8 := hidX (hP9.out _ _ _ HI7.out hb)
                clear hb HI7 KWi
                by_cases d : k ≤ j ∧ j < en
                · rw [hwi.mpr d]
                  rw [if_pos ⟨d, Hc.out⟩] at hst
                  have wk : IntKind.i64.wrap (tot - cwD L v0 k en j - 1) = tot - cwD L v0 k en (j + 1) := by rw [IntKind.wrap_i64, hst]; omega
                  obtain ⟨k0, kf⟩ := HI8.out.1.2.2
                  have hW9 := HHn.out
                  have HI9 : Hid ((TrT (V8.setCell ⟨H, 0, none⟩ (.int .i64 (tot - cwD L v0 k en (j + 1)))) B F g cap wg wc L ws ∧ V9 w F (.slice ao l.length c) (b : Int) false B X Pp (pfA ws L k) (ln L k) (V8.setCell ⟨H, 0, none⟩ (.int .i64 (tot - cwD L v0 k en (j + 1)))) ∧ Cl1 (V8.setCell ⟨H, 0, none⟩ (.int .i64 (tot - cwD L v0 k en (j + 1)))) H (.int .i64 (tot - cwD L v0 k en (j + 1)))) ∧ Below w.heap.size w (V8.setCell ⟨H, 0, none⟩ (.int .i64 (tot - cwD L v0 k en (j + 1)))) ∧ (V8.setCell ⟨H, 0, none⟩ (.int .i64 (tot - cwD L v0 k en (j + 1)))).heap[D]? = some (.deferred (some []))) := hidX ⟨⟨HI8.out.1.1.heap (setB _ (by omega)) (setB _ (by omega)) (setB _ (by omega)), HI8.out.1.2.1.set _ (by omega) (by omega) (by omega) (by omega) (by omega), HI8.out.1.2.2.set _⟩, HI8.out.2.1.setCell (p := ⟨H, 0, none⟩) (by show w.heap.size ≤ H; omega) _, (setB _ (by omega)).trans HI8.out.2.2⟩
                  clear HI8 hW9 hst hsb hs1 hcb hwi d
                  go_wp2
                  go_roundw
                  case rel => exact ⟨j + 1, by have := Hjs.out; omega, rfl, HI9⟩
                  case measure => simp [intOf]; have := Hjs.out; omega
                · have hwf : withinB (pfA ws L j) (ln L j) (pfA ws L k) (ln L k) = false := by
                    cases hz : withinB (pfA ws L j) (ln L j) (pfA ws L k) (ln L k)
                    · rfl
                    · exact absurd (hwi.mp hz) d
                  rw [hwf]
                  rw [if_neg (fun q => d q.1), Int.add_zero] at hst
                  have Hst := hidX hst
                  clear hst hsb hs1 hcb hwi d hwf
                  go_wp2
                  go_roundw
                  case rel => exact ⟨j + 1, by have := Hjs.out; omega, rfl, by rw [Hst.out]; exact HI8⟩
                  case measure => simp [intOf]; have := Hjs.out; omega
              · have c' : (ln L j == v0) = false := by simpa using c
                rw [if_neg (fun q => c q.2), Int.add_zero] at hst
                have Hst := hidX hst
                clear c hst hsb hs1 hcb hwi KWi
                go_wp2
                go_roundw
                case rel => exact ⟨j + 1, by have := Hjs.out; omega, rfl, by rw [Hst.out]; exact HI7⟩
                case measure => simp [intOf]; have := Hjs.out; omega
            · have hje : j = L.length := by omega
              subst hje
              rw [H0.out.2, Int.sub_self] at HI
              have hd : decide ((L.length : Int) < (L.length : Int)) = false := decide_eq_false hlt
              have KLj := KL wr HI.out.1.1.tn
              go_wp2_with fail
              refine KLj.mono ?_
              rintro e V5 ⟨rfl, rfl⟩
              obtain ⟨k0, -⟩ := HI.out.1.2.2
              have hr : Cl1 V5 (w.heap.size + 2) (.bool false) := ⟨at_block HI.out.1.2.1.r 0 _ rfl, fr_blk HI.out.1.2.1.r⟩
              have HR := hidX (hr.set (.bool true))
              have HBz := hidX (HI.out.2.1.setCell (p := ⟨w.heap.size + 2, 0, none⟩) (by simp) (.bool true))
              have HK : Hid ((V5.setCell ⟨w.heap.size + 2, 0, none⟩ (.bool true)).heap[D]? = some (.deferred (some []))) := hidX ((setB _ (by omega)).trans HI.out.2.2)
              obtain ⟨r0, rf⟩ := hr
              clear HI KLj p0
              go_wp2
              refine ⟨by simp, .inl ⟨_, _, rfl, run_takeDeferred HK.out, ?_⟩⟩
              obtain ⟨z0, -⟩ := HR.out.kept (grownBy_putObj' _ D (.deferred none)) (fun r e => by cases e; exact ⟨_, HK.out, rfl⟩)
              refine ⟨.bool true, ?_, rfl, HBz.out.trans (belowK_b (w := w) (Nat.le_refl _) _ D _ _ (by omega) HK.out rfl rfl)⟩
              simp [results, Try.results3, go_sem, z0]
        case stop11 =>
          rintro D c pre V hD hpre hi hK
          exact hi.elim
end Go.Proofs.Ytoejhhoniflpeab
