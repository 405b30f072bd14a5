/-
  Part 19 of the proof: 3 texts, one behind the other.
-/
import Derived.Test.YtmkjlcfoedglmabDoorPart18
import Derived.Test.YtmkjlcfoedglmabDoorRows
import Derived.ProofKit
import Derived.Lib.SmallJoins
import Derived.Test.YtmkjlcfoedglmabDoorPart5
import Derived.Deep.Slices
import Derived.Deep.Strs
import Derived.Carry
/-
  The law AlgebraOwn: what is told is the caller's own.
-/
namespace Go.Proofs.YtmkjlcfoedglmabDoor
open Go.RowKit
set_option linter.unusedSimpArgs false
set_option linter.unusedVariables false

theorem endT_len (F : Int) : ∀ (op : List Rte) (t : T3), (endT F op t).2.2.length ≤ op.length + t.2.2.length
  | [], t => by simp [endT]
  | o :: os, t => by
    rw [endT]
    have h1 := endT_len F os (tell3 F (lastW F o.1.1 o.1.2) o.2 t)
    have h2 := tell3_len F (lastW F o.1.1 o.1.2) o.2 t
    simp only [List.length_cons]
    omega
theorem swpGo_len (F : Int) : ∀ (L op : List Rte) (t : T3), (swpGo F op t L).2.2.length ≤ op.length + t.2.2.length + 2 * L.length
  | [], op, t => by rw [swpGo]; have := endT_len F op t; simp only [List.length_nil]; omega
  | r :: L, op, t => by
    rw [swpGo]
    have h1 := swpGo_len F L (r :: popO r op) (entT F r (hopO (popO r op)) (popT F r op t))
    have h2 := entT_len F r (hopO (popO r op)) (popT F r op t)
    have h3 := popT_len F r op t
    simp only [List.length_cons] at h1 ⊢
    omega
theorem swp_len (F : Int) (l : List Rte) : (swp F l).length ≤ 1 + 2 * l.length := by
  have := swpGo_len F l op0 t30
  unfold swp
  rw [List.length_reverse]
  have e : op0.length + t30.2.2.length = 1 := rfl
  omega
theorem tL_len (F : Int) (l : List Sg) : (tL F l).length ≤ 1048576 := by
  unfold tL tabL okL
  split
  · split
    · rename_i h; simpa using h
    · simp
  · simp
theorem own_bel {w w' : World} {base e size n : Nat} {v : Value} {xs : List Value} (h : w.ownsRow base e size v n xs) (hb : Below w.heap.size w w') : w'.ownsRow base e size v n xs := own_heap h (fun g q => hb.block g (h.lt g q).2)
theorem right_tab {F : Int} {l : List Rte} (h : RightT F l) (z : Int) (hz : TabE F l z) : z = 0 := by
  rcases hz.2 h.2.1 with ⟨_, q⟩ | ⟨q, _⟩
  · exact q
  · exact absurd h.2.2 q
theorem own_made0 (W : World) (base B e size : Nat) (hb : base ≤ W.heap.size) (hB : B = W.heap.size) : (W.alloc (.cells #[] e)).ownsRow base e size (.slice (some ⟨B, 0, none⟩) 0 0) 0 [] := by
  subst hB
  exact World.ownsRow_made W #[] 0 hb (by unfold maxLen; omega) (by simp)
theorem newsRB (W : World) (B : Nat) (hB : B = W.heap.size) (a b c d : Value) (t : TypeId) : ∀ j u, [a, b, c, d][j]? = some u → (W.alloc (.cells #[a, b, c, d] t)).cell? ((⟨B, 0, none⟩ : Addr).add j) = some u := newsB W B hB a b c d t
theorem stopHere7 {P : Program} {w : World} {ops : Array Oper} {rest : List Oper} {a : Act} {Q : Exit → Act → World → Prop} {o : Oper} (h : Hid (wpList P ops Q (o :: rest) a w)) : wpList P ops Q (o :: rest) a w := h.out
set_option maxRecDepth 40000 in
set_option maxHeartbeats 32000000 in
theorem algebraOwn_any (F : Int) (v : Value) (l : List Rte) (w : World) (hT : Tab w) (hv : RwR w v l) :
    Calls Tryd.prog 5 #[.agg #[.int .i64 F, v]] w fun e w' => e = .returned (.bool true) ∧ Below w.heap.size w w' := by
  obtain ⟨j0, ji, jz0, jz1, jz2⟩ := info_parts Tryd.infoG
  obtain ⟨i0, hi, hz0, hz1, hz2⟩ := info_parts Tryd.infoR6
  have KK := fun w => known6_any w
  have HU0 := hidR (att_new w w.heap.size F v 24 rfl)
  have HV0 := hidR (hv.below (bl1 w (.cells #[.int .i64 F, v] 24)))
  have HT0 := hidR (hT.keep (bl1 w (.cells #[.int .i64 F, v] 24)))
  have HW0 := hidR (bl1 w (.cells #[.int .i64 F, v] 24))
  have hs0 : w.heap.size < (w.alloc (.cells #[.int .i64 F, v] 24)).heap.size := by simp
  obtain ⟨ao, c, e, -⟩ := id hv
  have K1 : ∀ W, RwR W v l → RightT F l → Calls Tryd.prog 14 #[.agg #[.int .i64 F, v]] W fun e w' => (∃ v', e = .returned (.tuple #[v', .int .i64 0]) ∧ w'.ownsRow W.heap.size 48 5 v' (swp F l).length (rowG (swp F l))) ∧ Below W.heap.size W w' := fun W h hR => by
    refine (segs_any F v l W h).mono ?_
    rintro e w' ⟨⟨z, v', hz, rfl, h1, -⟩, hb⟩
    have := right_tab hR z hz
    subst this
    exact ⟨⟨v', rfl, h1 rfl⟩, hb⟩
  have KR := fun W (h : RwR W v l) => rightT_any F v l W h
  have HL : Hid (RightT F l → (swp F l).length ≤ 6001) := hidR (fun h => by have := swp_len F l; have := h.1; omega)
  have K2 : ∀ W v', Tab W → RwG W v' (swp F l) → (swp F l).length ≤ 6001 → Calls Tryd.prog 15 #[.int .i64 F, v'] W fun e w' => (∃ v2, e = .returned (.tuple #[.agg #[.int .i64 (tW F (swp F l)), v2], .int .i64 (tX F (swp F l))]) ∧ w'.ownsRow W.heap.size 50 4 v2 (tL F (swp F l)).length (rowR (tL F (swp F l)))) ∧ Below W.heap.size W w' := fun W v' hT h hl => table6_any F v' (swp F l) W hT h (by omega)
  have hRl := tL_len F (swp F l)
  subst e
  clear hT hv
  generalize hw0 : w.alloc (.cells #[.int .i64 F, .slice ao l.length c] 24) = w0 at *
  go_enter Tryd.func5, Tryd.ntmps5
  go_wp2_with fail
  try rw [hw0]
  clear hw0
  refine (KK _).mono ?_
  rintro e w1 ⟨rfl, hb⟩
  have HB1 := hidR hb
  clear KK hb
  obtain ⟨t0, t1⟩ := HU0.out.below HB1.out
  have KR1 := KR w1 (HV0.out.below HB1.out)
  go_wp2_with fail
  refine KR1.mono ?_
  rintro e w2 ⟨⟨r, hr, rfl⟩, hb⟩
  have HB2 := hidR (keepb hb HB1.out)
  have HRt := hidR hr
  clear KR KR1 hb hr t0 t1 HB1
  cases r with
  | false =>
    go_wp2
    go_ret
    exact ⟨rfl, keepb HB2.out HW0.out⟩
  | true =>
    have hR := HRt.out rfl
    have hS := HL.out hR
    have K1 := fun W h => K1 W h hR
    have K2 := fun W v' hT h => K2 W v' hT h hS
    clear HRt HL hR
    revert K1 K2 hS hRl
    generalize tW F (swp F l) = tw
    generalize tX F (swp F l) = tx
    generalize tL F (swp F l) = R
    generalize swp F l = S
    intro hRl hS K1 K2
    obtain ⟨t0, t1⟩ := HU0.out.below HB2.out
    have K1' := K1 w2 (HV0.out.below HB2.out)
    go_wp2_with fail
    refine K1'.mono ?_
    rintro e w3 ⟨⟨va, rfl, ha⟩, hb⟩
    have HB3 := hidR (keepb hb HB2.out)
    have Ia := hidR ha.lt
    have A3 := hidR ha
    have z23 := hb.size
    obtain ⟨aa, ca, rfl⟩ := own_form ha
    clear K1' ha hb t0 t1
    obtain ⟨t0, t1⟩ := HU0.out.below HB3.out
    have K1' := K1 w3 (HV0.out.below HB3.out)
    go_wp2_with fail
    refine K1'.mono ?_
    rintro e w4 ⟨⟨vb, rfl, ha⟩, hb⟩
    have HB4 := hidR (keepb hb HB3.out)
    have Ib := hidR ha.lt
    have B4 := hidR ha
    have A4 := hidR (own_bel A3.out hb)
    have z34 := hb.size
    obtain ⟨ab, cb, rfl⟩ := own_form ha
    clear K1' ha hb t0 t1 A3
    go_wp2_with (at_builtin; apply stopHere7)
    refine (show wpList _ _ _ _ _ _ from ?_)
    have al4 := bl1 w4 (.cells #[] 48)
    refine wpList_append_row rfl _ _ 43 rfl w4.heap.size 48 j0 (.agg #[.int .u64 0, .int .u64 0, .int .u64 0, .int .u64 0, .int .i64 0]) 5 40 Tryd.underlying43 ji jz0 jz1 jz2 rfl (by decide) (.slice (some ⟨w4.heap.size, 0, none⟩) 0 0) 0 [] rfl (World.ownsRow_made w4 #[] 0 (Nat.le_refl _) (by unfold maxLen; omega) (by simp)) (.slice ab S.length cb) S.length (rowG S) rfl (own_row (own_bel B4.out al4)) (rowG_cell _) (by unfold maxLen; omega) (by omega) (by simp) ?_
    intro ac cc w5 ha hgrow
    rw [Nat.zero_add, List.nil_append] at ha
    rw [Nat.zero_add]
    have hb : Below w4.heap.size w4 w5 := ((Below.refl _ _).alloc (Nat.le_refl _) _).grown hgrow (by simp) (fun z hz => by simp [Value.ownBlock] at hz; omega)
    have HB5 := hidR (keepb hb HB4.out)
    have Ic := hidR ha.lt
    have C5 := hidR ha
    have A5 := hidR (own_bel A4.out hb)
    have B5 := hidR (own_bel B4.out hb)
    have z45 := hb.size
    clear ha hb hgrow al4 A4 B4
    obtain ⟨t0, t1⟩ := HU0.out.below HB5.out
    have K2' := K2 w5 (.slice ab S.length cb) (HT0.out.keep HB5.out) (own_rwg B5.out)
    go_wp2_with fail
    refine K2'.mono ?_
    rintro e w6 ⟨⟨vu, rfl, ha⟩, hb⟩
    have z56 := hb.size
    have Iu := hidR ha.lt
    obtain ⟨au, cu, rfl⟩ := own_form ha
    have b6 := bl1 w6 (.cells #[.int .i64 tw, .slice au R.length cu] 24)
    have HB6 := hidR (keepb b6 (keepb hb HB5.out))
    have A6 := hidR (own_bel (own_bel A5.out hb) b6)
    have B6 := hidR (own_bel (own_bel B5.out hb) b6)
    have C6 := hidR (own_bel (own_bel C5.out hb) b6)
    have U6 := hidR (own_bel ha b6)
    have UB6 := hidR (atu_new w6 w6.heap.size tw (.slice au R.length cu) 24 rfl)
    have z6a : (w6.alloc (.cells #[.int .i64 tw, .slice au R.length cu] 24)).heap.size = w6.heap.size + 1 := by simp
    clear K2' ha hb t0 t1 b6 A5 B5 C5
    obtain ⟨t0, t1⟩ := HU0.out.below HB6.out
    have K2' := K2 _ (.slice ab S.length cb) (HT0.out.keep HB6.out) (own_rwg B6.out)
    go_wp2_with fail
    refine K2'.mono ?_
    rintro e w7 ⟨⟨vv, rfl, ha⟩, hb⟩
    have z67 := hb.size
    rw [z6a] at z67
    have Iv := hidR ha.lt
    rw [z6a] at Iv
    obtain ⟨av, cv, rfl⟩ := own_form ha
    have b7 := bl1 w7 (.cells #[.int .i64 tw, .slice av R.length cv] 24)
    have HB7 := hidR (keepb b7 (keepb hb HB6.out))
    have A7 := hidR (own_bel (own_bel A6.out hb) b7)
    have B7 := hidR (own_bel (own_bel B6.out hb) b7)
    have C7 := hidR (own_bel (own_bel C6.out hb) b7)
    have U7 := hidR (own_bel (own_bel U6.out hb) b7)
    have UB7 := hidR ((UB6.out.heap (hb.block _ UB6.out.lt)).heap (hAl (.cells #[.int .i64 tw, .slice av R.length cv] 24) (by have := UB6.out.lt; omega)))
    have V7 := hidR (own_bel ha b7)
    have VB7 := hidR (atu_new w7 w7.heap.size tw (.slice av R.length cv) 24 rfl)
    have z7a : (w7.alloc (.cells #[.int .i64 tw, .slice av R.length cv] 24)).heap.size = w7.heap.size + 1 := by simp
    clear K2' ha hb t0 t1 b7 A6 B6 C6 U6 UB6
    obtain ⟨s0, s1, -, -⟩ := VB7.out
    go_wp2_with (at_builtin; apply stopHere7)
    refine (show wpList _ _ _ _ _ _ from ?_)
    have s1' := keepc (bl1 _ (.cells #[] 50)) s1
    have al7 := bl1 (w7.alloc (.cells #[.int .i64 tw, .slice av R.length cv] 24)) (.cells #[] 50)
    refine wpList_append_row rfl _ _ 22 rfl (w7.heap.size + 1) 50 i0 (.agg #[.int .u64 0, .int .u64 0, .int .i64 0, .int .i64 0]) 4 32 Tryd.underlying22 hi hz0 hz1 hz2 rfl (by decide) (.slice (some ⟨w7.heap.size + 1, 0, none⟩) 0 0) 0 [] rfl (own_made0 _ _ _ _ _ (by simp) (by simp)) (.slice av R.length cv) R.length (rowR R) rfl (own_row (own_bel V7.out al7)) (rowR_cell _) (by unfold maxLen; omega) (by omega) (by simp) ?_
    intro ad cd w8 ha hgrow
    rw [Nat.zero_add, List.nil_append] at ha
    rw [Nat.zero_add]
    have hb : Below (w7.alloc (.cells #[.int .i64 tw, .slice av R.length cv] 24)).heap.size (w7.alloc (.cells #[.int .i64 tw, .slice av R.length cv] 24)) w8 := ((Below.refl _ _).alloc (Nat.le_refl _) _).grown hgrow (by simp) (fun z hz => by simp [Value.ownBlock] at hz; simp; omega)
    have z78 := hb.size
    rw [z7a] at z78
    have Id := hidR ha.lt
    have HB8 := hidR (keepb hb HB7.out)
    have A8 := hidR (own_bel A7.out hb)
    have B8 := hidR (own_bel B7.out hb)
    have C8 := hidR (own_bel C7.out hb)
    have U8 := hidR (own_bel U7.out hb)
    have V8 := hidR (own_bel V7.out hb)
    have D8 := hidR ha
    have UB8 := hidR (UB7.out.heap (hb.block _ UB7.out.lt))
    have VB8 := hidR (VB7.out.heap (hb.block _ VB7.out.lt))
    clear ha hb hgrow al7 s0 s1 s1' A7 B7 C7 U7 V7 UB7 VB7
    have hw02 := HB2.out.size
    obtain ⟨M, hM⟩ : ∃ M : Nat → Prop, ∀ z, M z ↔ ((Value.slice aa S.length ca).ownBlock = some z ∨ (Value.slice au R.length cu).ownBlock = some z ∨ z = w6.heap.size) := ⟨_, fun _ => Iff.rfl⟩
    have HO := hidR (⟨⟨_, own_wide A8.out hw02⟩, ⟨_, own_wide U8.out (by omega)⟩, UB8.out, Bt.refl M w8, fun z e e2 => by have h1 := Ia.out z e; have h2 := Iu.out z e2; omega, fun e => by have h1 := Ia.out _ e; omega, fun e => by have h1 := Iu.out _ e; omega, fun z e => .inl ((hM z).2 (.inl e)), fun z e => .inl ((hM z).2 (.inr (.inl e))), (hM _).2 (.inr (.inr rfl)), HB8.out.size⟩ : OwS M w8 w0.heap.size (.slice aa S.length ca) S.length (.slice au R.length cu) R.length w6.heap.size tw w8)
    have HML : Hid (∀ z, M z → w0.heap.size ≤ z) := hidR (fun z hz => by
      rcases (hM z).1 hz with e | e | e
      · have h1 := Ia.out z e; omega
      · have h1 := Iu.out z e; omega
      · omega)
    have nb : Hid (∀ z, (Value.slice ab S.length cb).ownBlock = some z → ¬ M z) := hidR (fun z e hz => by
      have h0 := Ib.out z e
      rcases (hM z).1 hz with e | e | e
      · have h1 := Ia.out z e; omega
      · have h1 := Iu.out z e; omega
      · omega)
    have nc : Hid (∀ z, (Value.slice ac S.length cc).ownBlock = some z → ¬ M z) := hidR (fun z e hz => by
      have h0 := Ic.out z e
      rcases (hM z).1 hz with e | e | e
      · have h1 := Ia.out z e; omega
      · have h1 := Iu.out z e; omega
      · omega)
    have nv : Hid (∀ z, (Value.slice av R.length cv).ownBlock = some z → ¬ M z) := hidR (fun z e hz => by
      have h0 := Iv.out z e
      rcases (hM z).1 hz with e | e | e
      · have h1 := Ia.out z e; omega
      · have h1 := Iu.out z e; omega
      · omega)
    have nd : Hid (∀ z, (Value.slice ad R.length cd).ownBlock = some z → ¬ M z) := hidR (fun z e hz => by
      have h0 := Id.out z e
      rcases (hM z).1 hz with e | e | e
      · have h1 := Ia.out z e; omega
      · have h1 := Iu.out z e; omega
      · omega)
    have nV : ¬ M w7.heap.size := fun hz => by
      rcases (hM _).1 hz with e | e | e
      · have h1 := Ia.out _ e; omega
      · have h1 := Iu.out _ e; omega
      · omega
    have NV := hidR nV
    -- what stays, in whatever world the two rows were written over and grown
    have HK : Hid (∀ W, Bt M w8 W → RwG W (.slice ab S.length cb) S ∧ RwG W (.slice ac S.length cc) S ∧ RwR W (.slice av R.length cv) R ∧ RwR W (.slice ad R.length cd) R ∧ AtU W w7.heap.size tw (.slice av R.length cv) ∧ Below w0.heap.size w0 W) := hidR (fun W h =>
      ⟨own_rwg (own_heap B8.out (fun g e => h.blk g (B8.out.lt g e).2 (nb.out g e))), own_rwg (own_heap C8.out (fun g e => h.blk g (C8.out.lt g e).2 (nc.out g e))), own_rwr (own_heap V8.out (fun g e => h.blk g (V8.out.lt g e).2 (nv.out g e))), own_rwr (own_heap D8.out (fun g e => h.blk g (D8.out.lt g e).2 (nd.out g e))), VB8.out.heap (h.blk _ VB8.out.lt NV.out), h.low HB8.out HML.out⟩)
    clear A8 B8 C8 U8 V8 D8 UB8 VB8 nb nc nv nd NV nV HML hM Ia Ib Ic Iu Iv Id HB2 HB3 HB4 HB5 HB6 HB7 HB8 z23 z34 z45 z56 z67 z78 z6a z7a hw02
    generalize w6.heap.size = UB at *
    generalize w7.heap.size = VB at *
    go_wp2_with fail
    go_loopw [13] (fun i wr => ∃ k : Nat, k ≤ S.length ∧ i = .int .i64 k ∧ Hid (OwS M w8 w0.heap.size (.slice aa S.length ca) S.length (.slice au R.length cu) R.length UB tw wr)) (fun i _ => S.length - (intOf i).toNat)
    case atStart => exact ⟨0, by omega, rfl, HO⟩
    case round =>
      clear HO
      obtain ⟨k, hk, rfl, HO⟩ := hrel
      by_cases hlt : (k : Int) < (S.length : Int)
      · have hks : k < S.length := by omega
        obtain ⟨xs, hA⟩ := HO.out.a
        obtain ⟨g, hg, -⟩ : ∃ g, aa = some ⟨g, 0, none⟩ ∧ True := by
          rcases hA.2 with ⟨e, e2⟩ | ⟨g, cap, cur, e, _⟩
          · omega
          · injection e with e1
            exact ⟨g, e1, trivial⟩
        subst hg
        obtain ⟨⟨u0, c0⟩, f0⟩ := own_any hA (k * 5) (by omega)
        obtain ⟨⟨u1, c1⟩, f1⟩ := own_any hA (k * 5 + 1) (by omega)
        obtain ⟨⟨u2, c2⟩, f2⟩ := own_any hA (k * 5 + 2) (by omega)
        obtain ⟨⟨u3, c3⟩, f3⟩ := own_any hA (k * 5 + 3) (by omega)
        obtain ⟨⟨u4, c4⟩, f4⟩ := own_any hA (k * 5 + 4) (by omega)
        have mk : IntKind.i64.wrap ((k : Int) + 1) = (k : Int) + 1 := by rw [IntKind.wrap_i64]; omega
        have HO2 := hidR (((((HO.out.setA (k * 5) (.int .u64 0)).setA (k * 5 + 1) (.int .u64 0)).setA (k * 5 + 2) (.int .u64 0)).setA (k * 5 + 3) (.int .u64 0)).setA (k * 5 + 4) (.int .i64 99))
        clear hA
        go_wp2
        go_roundw
        case rel => exact ⟨k + 1, by omega, by simp, HO2⟩
        case measure => simp [intOf]; omega
      · have hd : decide ((k : Int) < (S.length : Int)) = false := by simpa using hlt
        go_wp2_with fail
        go_loopw [14] (fun i wr => ∃ k : Nat, k ≤ R.length ∧ i = .int .i64 k ∧ Hid (OwS M w8 w0.heap.size (.slice aa S.length ca) S.length (.slice au R.length cu) R.length UB tw wr)) (fun i _ => R.length - (intOf i).toNat)
        case atStart => exact ⟨0, by omega, rfl, HO⟩
        case round =>
          clear HO hd hlt hk
          obtain ⟨k, hk, rfl, HO⟩ := hrel
          obtain ⟨p0, p1, -, -⟩ := HO.out.t
          by_cases hlt : (k : Int) < (R.length : Int)
          · have hks : k < R.length := by omega
            obtain ⟨xs, hA⟩ := HO.out.u
            obtain ⟨g, hg, -⟩ : ∃ g, au = some ⟨g, 0, none⟩ ∧ True := by
              rcases hA.2 with ⟨e, e2⟩ | ⟨g, cap, cur, e, _⟩
              · omega
              · injection e with e1
                exact ⟨g, e1, trivial⟩
            subst hg
            obtain ⟨⟨u0, c0⟩, f0⟩ := own_any hA (k * 4) (by omega)
            obtain ⟨⟨u1, c1⟩, f1⟩ := own_any hA (k * 4 + 1) (by omega)
            obtain ⟨⟨u2, c2⟩, f2⟩ := own_any hA (k * 4 + 2) (by omega)
            obtain ⟨⟨u3, c3⟩, f3⟩ := own_any hA (k * 4 + 3) (by omega)
            have mk : IntKind.i64.wrap ((k : Int) + 1) = (k : Int) + 1 := by rw [IntKind.wrap_i64]; omega
            have HO2 := hidR ((((HO.out.setU (k * 4) (.int .u64 0)).setU (k * 4 + 1) (.int .u64 0)).setU (k * 4 + 2) (.int .i64 0)).setU (k * 4 + 3) (.int .i64 99))
            clear hA
            go_wp2
            go_roundw
            case rel => exact ⟨k + 1, by omega, by simp, HO2⟩
            case measure => simp [intOf]; omega
          · have hd : decide ((k : Int) < (R.length : Int)) = false := by simpa using hlt
            have hn0 : S.length ≤ 6001 := hS
            have hm0 : R.length ≤ 1048576 := hRl
            go_wp2_with fail
            go_loopw [3, 15] (fun av2 i wr => ∃ (k n m : Nat) (a2 u2 : Option Addr) (c2 d2 : Nat), k ≤ 30 ∧ i = .int .i64 k ∧ av2 = .slice a2 n c2 ∧ n ≤ 6001 + k ∧ m ≤ 1048576 + k ∧ Hid (OwS M w8 w0.heap.size (.slice a2 n c2) n (.slice u2 m d2) m UB tw wr)) (fun _ i _ => 30 - (intOf i).toNat)
            case atStart => exact ⟨0, S.length, R.length, aa, au, ca, cu, by omega, rfl, rfl, by omega, by omega, HO⟩
            case round =>
              clear HO hd hlt hk p0 p1
              obtain ⟨k, n, m, a2, u2, c2, d2, hk, rfl, rfl, hn, hm, HO⟩ := hrel
              by_cases hlt : (k : Int) < 30
              · obtain ⟨xs, hA⟩ := HO.out.a
                have hsz := HO.out.bt.size
                have hbs := HO.out.bs
                have mk : IntKind.i64.wrap ((k : Int) + 1) = (k : Int) + 1 := by rw [IntKind.wrap_i64]; omega
                have h63 : n + 1 ≤ maxLen := by unfold maxLen; omega
                have h47 : (n + 1) * 40 ≤ 140737488355328 := by omega
                go_wp2_with (first | (
                    at_builtin
                    refine wpList_append_lies _ rfl _ _ 43 rfl w0.heap.size 48 j0 (.agg #[.int .u64 0, .int .u64 0, .int .u64 0, .int .u64 0, .int .i64 0]) 5 40 Tryd.underlying43 ji jz0 jz1 jz2 rfl (by decide) _ _ _ rfl (hA.alloc _) ⟨wr.heap.size, 0, none⟩ 1 1 [.int .u64 0, .int .u64 0, .int .u64 0, .int .u64 0, .int .i64 98] rfl rfl (newsGB _ _ rfl _ _ _ _ _ _) (fiveG _ _ _ _ _) (by decide) h63 h47 (by simp; omega) _ rfl ?_
                    intro g4 cap4 w9 hown4 hgrow hat hlt4
                    have HO2 := hidR ((HO.out.al _).appA hown4 hgrow hat)
                    clear hgrow hat hown4 hlt4 h63 h47 hA
                    apply stopHere7))
                refine (show wpList _ _ _ _ _ _ from ?_)
                obtain ⟨ys, hU⟩ := HO2.out.u
                obtain ⟨p0, p1, -, -⟩ := HO2.out.t
                have p1' := keepc (bl1 w9 (.cells #[.int .u64 0, .int .u64 0, .int .i64 0, .int .i64 98] 50)) p1
                have hsz2 := HO2.out.bt.size
                have h63 : m + 1 ≤ maxLen := by unfold maxLen; omega
                have h47 : (m + 1) * 32 ≤ 140737488355328 := by omega
                go_wp2_with (first | (
                    at_builtin
                    refine wpList_append_lies _ rfl _ _ 22 rfl w0.heap.size 50 i0 (.agg #[.int .u64 0, .int .u64 0, .int .i64 0, .int .i64 0]) 4 32 Tryd.underlying22 hi hz0 hz1 hz2 rfl (by decide) _ _ _ rfl (hU.alloc _) ⟨w9.heap.size, 0, none⟩ 1 1 [.int .u64 0, .int .u64 0, .int .i64 0, .int .i64 98] rfl rfl (newsRB _ _ rfl _ _ _ _ _) (fourR6 _ _ _ _) (by decide) h63 h47 (by simp; omega) _ rfl ?_
                    intro g5 cap5 w10 hown5 hgrow5 hat5 hlt5
                    have HO3 := hidR ((HO2.out.al _).appU hown5 hgrow5 hat5)
                    clear hgrow5 hat5 hown5 hlt5 h63 h47 hU p0 p1 p1'
                    apply stopHere7))
                refine (show wpList _ _ _ _ _ _ from ?_)
                obtain ⟨q0, q1, q2, q3⟩ := HO3.out.1
                have HO4 := hidR HO3.out.2
                clear HO3 HO2 HO
                go_wp2
                go_roundw
                case rel => exact ⟨k + 1, n + 1, m + 1, _, _, _, _, by omega, by simp, rfl, by omega, by omega, HO4⟩
                case measure => simp [intOf]; omega
              · have hd : decide ((k : Int) < 30) = false := by simpa using hlt
                have hbt := HO.out.bt
                obtain ⟨kb, kc, kv, kd, kV, kw⟩ := HK.out wr hbt
                have HD9 := hidR kd
                have HC9 := hidR kc
                have HV9 := hidR kV
                have HR9 := hidR kv
                have HB9 := hidR kw
                have K3 := fun w x y h1 h2 => sameSegs_any x y S w h1 h2 (by omega)
                have K4 := fun w x y h1 h2 => sameRoutes_any x y R w h1 h2 (by omega)
                have K3' := K3 wr _ _ kb kc
                clear hbt kb kc kv kd kV kw HO HK
                go_wp2_with fail
                refine K3'.mono ?_
                rintro e w9 ⟨rfl, hb⟩
                have HDA := hidR (HD9.out.below hb)
                have HCA := hidR (HC9.out.below hb)
                have HRA := hidR (HR9.out.below hb)
                have HBA := hidR (keepb hb HB9.out)
                obtain ⟨q0, q1, -, -⟩ := HV9.out.heap (hb.block _ HV9.out.lt)
                clear K3' hb HD9 HC9 HV9 HR9 HB9
                have K4' := K4 w9 _ _ HRA.out HDA.out
                go_wp2_with fail
                refine K4'.mono ?_
                rintro e w10 ⟨rfl, hb⟩
                have HDB := hidR (HDA.out.below hb)
                have HCB := hidR (HCA.out.below hb)
                have HBB := hidR (keepb hb HBA.out)
                clear K4' hb HDA HCA HRA HBA q0 q1
                obtain ⟨t0, t1⟩ := HU0.out.below HBB.out
                have K1' := K1 w10 (HV0.out.below HBB.out)
                go_wp2_with fail
                refine K1'.mono ?_
                rintro e w11 ⟨⟨vx, rfl, ha⟩, hb⟩
                have HDC := hidR (HDB.out.below hb)
                have HCC := hidR (HCB.out.below hb)
                have HBC := hidR (keepb hb HBB.out)
                have HXC := hidR (own_rwg ha)
                obtain ⟨ax, cx, rfl⟩ := own_form ha
                clear K1' ha hb HDB HCB HBB t0 t1
                obtain ⟨t0, t1⟩ := HU0.out.below HBC.out
                have K2' := K2 w11 _ (HT0.out.keep HBC.out) HXC.out
                go_wp2_with fail
                refine K2'.mono ?_
                rintro e w12 ⟨⟨vy, rfl, ha⟩, hb⟩
                obtain ⟨ay, cy, rfl⟩ := own_form ha
                have b12 := bl1 w12 (.cells #[.int .i64 tw, .slice ay R.length cy] 24)
                have HDD := hidR ((HDC.out.below hb).below b12)
                have HCD := hidR ((HCC.out.below hb).below b12)
                have HXD := hidR ((HXC.out.below hb).below b12)
                have HBD := hidR (keepb b12 (keepb hb HBC.out))
                have HYD := hidR ((own_rwr ha).below b12)
                have HYB := hidR (atu_new w12 w12.heap.size tw (.slice ay R.length cy) 24 rfl)
                clear K2' ha hb b12 HDC HCC HBC HXC t0 t1
                have K3' := K3 _ _ _ HXD.out HCD.out
                go_wp2_with fail
                refine K3'.mono ?_
                rintro e w13 ⟨rfl, hb⟩
                obtain ⟨q0, q1, -, -⟩ := HYB.out.heap (hb.block _ HYB.out.lt)
                have HBE := hidR (keepb hb HBD.out)
                have K4' := K4 w13 _ _ (HYD.out.below hb) (HDD.out.below hb)
                clear K3' hb HDD HCD HXD HBD HYD HYB
                go_wp2_with fail
                refine K4'.mono ?_
                rintro e w14 ⟨rfl, hb⟩
                have HBF := hidR (keepb hb HBE.out)
                clear K4' hb HBE q0 q1
                go_wp2
                go_ret
                exact ⟨rfl, keepb HBF.out HW0.out⟩
end Go.Proofs.YtmkjlcfoedglmabDoor
/-
  How a prefix that is handed in reads as data.
-/
namespace Go.Proofs.YtmkjlcfoedglmabDoor
open Go.ChangeShapes Go.WideShapes Go.ChangeAt Go.RowKit Go.Joins
set_option linter.unusedSimpArgs false
set_option linter.unusedVariables false

theorem Tryd.cellsW : Tryd.prog.cellsOf 34 = 2 := by kernel_rfl
theorem Tryd.cellsP : Tryd.prog.cellsOf 36 = 3 := by kernel_rfl
theorem Tryd.cellsI : Tryd.prog.cellsOf 3 = 1 := by kernel_rfl
theorem Tryd.cellsU : Tryd.prog.cellsOf 32 = 1 := by kernel_rfl
section
variable {H : Type} {enc : TypeId × Value → H} {w : World} {base : Nat} {spare : Nat → Bool} {held : Bool}
set_option maxRecDepth 100000 in
theorem open_pfx {r : Reach} {b0 : Nat} {v : Value} {d : DataW H} {p : List MemPlace} (hv : Value.okWide Tryd.prog w r b0 36 v) (h : DataW.Trod enc Tryd.prog w base spare held 36 v d p) :
    ∃ a b n : Int, v = .agg #[.int .u64 a, .int .u64 b, .int .i64 n] ∧ d = .agg [.agg [.lit (.int .u64 a), .lit (.int .u64 b)], .lit (.int .i64 n)] ∧ p = [] ∧ (Lit.int .u64 a).wf = true ∧ (Lit.int .u64 b).wf = true ∧ (Lit.int .i64 n).wf = true := by
  obtain ⟨cs, rfl, hsz⟩ := okWide_struct Tryd.underlying36 hv
  obtain ⟨c0, c1, c2, rfl⟩ := array3 (hsz.trans Tryd.cellsP)
  obtain ⟨fuel, hf⟩ := h
  obtain ⟨y0, y1, n, hx, _, h0, h1⟩ := trod_struct2 Tryd.underlying36 hf
  have h0' : DataW.trod enc Tryd.prog w base spare held n 34 [c0, c1] = some y0 := by simpa [Value.cells, Tryd.cellsW] using h0
  have h1' : DataW.trod enc Tryd.prog w base spare held n 3 [c2] = some y1 := by simpa [Value.cells, Tryd.cellsI] using h1
  obtain ⟨u0, u1, m, hu, _, g0, g1⟩ := trod_struct2 Tryd.underlying34 h0'
  have g0' : DataW.trod enc Tryd.prog w base spare held m 32 [c0] = some u0 := by simpa [Value.cells, Tryd.cellsU] using g0
  have g1' : DataW.trod enc Tryd.prog w base spare held m 32 [c1] = some u1 := by simpa [Value.cells, Tryd.cellsU] using g1
  obtain ⟨a, ea, rfl, wa⟩ := DataW.trod_int Tryd.underlying32 g0'
  obtain ⟨b, eb, rfl, wb⟩ := DataW.trod_int Tryd.underlying32 g1'
  obtain ⟨k, ek, rfl, wk⟩ := DataW.trod_int Tryd.underlying3 h1'
  simp at ea eb ek
  subst ea eb ek hu
  simp only [Prod.mk.injEq] at hx
  exact ⟨a, b, k, rfl, hx.1, by simpa using hx.2, wa, wb, wk⟩
set_option maxRecDepth 100000 in
theorem shut_pfx {a b n : Int} (wa : (Lit.int .u64 a).wf = true) (wb : (Lit.int .u64 b).wf = true) (wn : (Lit.int .i64 n).wf = true) :
    DataW.Trod enc Tryd.prog w base spare held 36 (.agg #[.int .u64 a, .int .u64 b, .int .i64 n]) (.agg [.agg [.lit (.int .u64 a), .lit (.int .u64 b)], .lit (.int .i64 n)]) [] := by
  have f : ∀ {z : Int}, (Lit.int .u64 z).wf = true → DataW.trod enc Tryd.prog w base spare held 1 32 [.int .u64 z] = some (.lit (.int .u64 z), []) := fun hz => by simp [DataW.trod, Tryd.underlying32, hz]
  have g : DataW.trod enc Tryd.prog w base spare held 2 3 [.int .i64 n] = some (.lit (.int .i64 n), []) := by simp [DataW.trod, Tryd.underlying3, wn]
  have s : DataW.trod enc Tryd.prog w base spare held 2 34 [.int .u64 a, .int .u64 b] = some (.agg [.lit (.int .u64 a), .lit (.int .u64 b)], []) := by
    have := trod_struct2_mk (enc := enc) (w := w) (base := base) (spare := spare) (held := held) (n := 1) (cs := [.int .u64 a, .int .u64 b]) Tryd.underlying34 (by simp [Tryd.cellsW]) (by simpa [Tryd.cellsU] using f wa) (by simpa [Tryd.cellsU] using f wb)
    simpa using this
  have := trod_struct2_mk (enc := enc) (w := w) (base := base) (spare := spare) (held := held) (n := 2) (cs := [.int .u64 a, .int .u64 b, .int .i64 n]) Tryd.underlying36 (by simp [Tryd.cellsP]) (by simpa [Tryd.cellsW] using s) (by simpa [Tryd.cellsI] using g)
  exact ⟨3, by simpa [Value.cells] using this⟩
end
end Go.Proofs.YtmkjlcfoedglmabDoor
/-
  How a table that is handed in reads as data.
-/
namespace Go.Proofs.YtmkjlcfoedglmabDoor
open Go.ChangeShapes Go.WideShapes Go.ChangeAt Go.RowKit Go.Joins
set_option linter.unusedSimpArgs false
set_option linter.unusedVariables false

theorem Tryd.laidOut : laidOutB Tryd.prog = true := by kernel_rfl
theorem Tryd.cellsR : Tryd.prog.cellsOf 50 = 4 := by kernel_rfl
theorem Tryd.cellsT : Tryd.prog.cellsOf 24 = 2 := by kernel_rfl
theorem Tryd.cellsL : Tryd.prog.cellsOf 22 = 1 := by kernel_rfl
theorem addT (g o j : Nat) : (⟨g, o, none⟩ : Addr).add j = ⟨g, o + j, none⟩ := by unfold Addr.add; split <;> simp_all
theorem rowR_lenF (l : List Rte) : (rowR l).length = l.length * 4 := by
  induction l with
  | nil => rfl
  | cons r l ih => simp [rowR, ih]; omega
theorem rowR_all {W : World} {b off : Nat} (l : List Rte) (h : ∀ i (hi : i < l.length), W.cell? ⟨b, off + i * 4, none⟩ = some (.int .u64 (hI l[i].1.1)) ∧ W.cell? ⟨b, off + (i * 4 + 1), none⟩ = some (.int .u64 (lI l[i].1.1)) ∧ W.cell? ⟨b, off + (i * 4 + 2), none⟩ = some (.int .i64 l[i].1.2) ∧ W.cell? ⟨b, off + (i * 4 + 3), none⟩ = some (.int .i64 l[i].2)) :
    ∀ j u, (rowR l)[j]? = some u → W.cell? ⟨b, off + j, none⟩ = some u := by
  intro j u hj
  have hlt : j < (rowR l).length := (List.getElem?_eq_some_iff.1 hj).1
  rw [rowR_lenF] at hlt
  have hi : j / 4 < l.length := by omega
  obtain ⟨a0, a1, a2, a3⟩ := h (j / 4) hi
  obtain ⟨b0, b1, b2, b3⟩ := rowR_get l (j / 4) hi
  have hm : j % 4 = 0 ∨ j % 4 = 1 ∨ j % 4 = 2 ∨ j % 4 = 3 := by omega
  rcases hm with hm | hm | hm | hm
  · have e : j = j / 4 * 4 := by omega
    rw [e, b0] at hj
    rw [e, ← hj]; exact a0
  · have e : j = j / 4 * 4 + 1 := by omega
    rw [e, b1] at hj
    rw [e, ← hj]; exact a1
  · have e : j = j / 4 * 4 + 2 := by omega
    rw [e, b2] at hj
    rw [e, ← hj]; exact a2
  · have e : j = j / 4 * 4 + 3 := by omega
    rw [e, b3] at hj
    rw [e, ← hj]; exact a3
section
variable {H : Type} {enc : TypeId × Value → H} {w : World} {spare : Nat → Bool} {held : Bool}
set_option maxRecDepth 100000 in
theorem trod_word {n : Nat} {c0 c1 : Value} {x : DataW H × List MemPlace} (h : DataW.trod enc Tryd.prog w 0 spare held n 34 [c0, c1] = some x) :
    ∃ a b : Int, c0 = .int .u64 a ∧ c1 = .int .u64 b ∧ (Lit.int .u64 a).wf = true ∧ (Lit.int .u64 b).wf = true := by
  obtain ⟨u0, u1, m, hu, _, g0, g1⟩ := trod_struct2 Tryd.underlying34 h
  have g0' : DataW.trod enc Tryd.prog w 0 spare held m 32 [c0] = some u0 := by simpa [Value.cells, Tryd.cellsU] using g0
  have g1' : DataW.trod enc Tryd.prog w 0 spare held m 32 [c1] = some u1 := by simpa [Value.cells, Tryd.cellsU] using g1
  obtain ⟨a, ea, rfl, wa⟩ := DataW.trod_int Tryd.underlying32 g0'
  obtain ⟨b, eb, rfl, wb⟩ := DataW.trod_int Tryd.underlying32 g1'
  simp at ea eb
  exact ⟨a, b, ea, eb, wa, wb⟩
set_option maxRecDepth 100000 in
theorem trod_rte {n : Nat} {c0 c1 c2 c3 : Value} {x : DataW H × List MemPlace} (h : DataW.trod enc Tryd.prog w 0 spare held n 50 [c0, c1, c2, c3] = some x) :
    ∃ a b k g : Int, c0 = .int .u64 a ∧ c1 = .int .u64 b ∧ c2 = .int .i64 k ∧ c3 = .int .i64 g ∧ (Lit.int .u64 a).wf = true ∧ (Lit.int .u64 b).wf = true := by
  obtain ⟨y0, y1, n, hx, _, h0, h1⟩ := trod_struct2 Tryd.underlying50 h
  have h0' : DataW.trod enc Tryd.prog w 0 spare held n 36 [c0, c1, c2] = some y0 := by simpa [Value.cells, Tryd.cellsP] using h0
  have h1' : DataW.trod enc Tryd.prog w 0 spare held n 3 [c3] = some y1 := by simpa [Value.cells, Tryd.cellsI, Tryd.cellsP] using h1
  obtain ⟨z0, z1, n2, hz, _, k0, k1⟩ := trod_struct2 Tryd.underlying36 h0'
  have k0' : DataW.trod enc Tryd.prog w 0 spare held n2 34 [c0, c1] = some z0 := by simpa [Value.cells, Tryd.cellsW] using k0
  have k1' : DataW.trod enc Tryd.prog w 0 spare held n2 3 [c2] = some z1 := by simpa [Value.cells, Tryd.cellsI, Tryd.cellsW] using k1
  obtain ⟨a, b, e0, e1, wa, wb⟩ := trod_word k0'
  obtain ⟨k, ek, rfl, wk⟩ := DataW.trod_int Tryd.underlying3 k1'
  obtain ⟨g, eg, rfl, wg⟩ := DataW.trod_int Tryd.underlying3 h1'
  simp at ek eg
  exact ⟨a, b, k, g, e0, e1, ek, eg, wa, wb⟩
theorem spot_none {W : World} {a : Addr} {u : Value} (h : W.cell? a = some u) : a = ⟨a.block, a.off, none⟩ := by
  obtain ⟨b, o, s⟩ := a
  cases s with
  | none => rfl
  | some z =>
    unfold World.cell? at h
    split at h
    · simp at h
    · cases h
theorem array2v {cs : Array Value} (h : cs.size = 2) : ∃ a b, cs = #[a, b] := by
  obtain ⟨l⟩ := cs
  match l, h with
  | [a, b], _ => exact ⟨a, b, rfl⟩
set_option maxRecDepth 100000 in
theorem open_tab {r : Reach} {b0 : Nat} {v : Value} {d : DataW H} {p : List MemPlace} (hv : Value.okWide Tryd.prog w r b0 24 v) (h : DataW.Trod enc Tryd.prog w 0 (fun _ => true) held 24 v d p) :
    ∃ (F : Int) (va : Value) (l : List Rte), v = .agg #[.int .i64 F, va] ∧ RwR w va l := by
  obtain ⟨cs, rfl, hsz⟩ := okWide_struct Tryd.underlying24 hv
  obtain ⟨c0, va, rfl⟩ := array2v (hsz.trans Tryd.cellsT)
  obtain ⟨fuel, hf⟩ := h
  obtain ⟨y0, y1, n, hx, _, h0, h1⟩ := trod_struct2 Tryd.underlying24 hf
  have h0' : DataW.trod enc Tryd.prog w 0 (fun _ => true) held n 3 [c0] = some y0 := by simpa [Value.cells, Tryd.cellsI] using h0
  have h1' : DataW.trod enc Tryd.prog w 0 (fun _ => true) held n 22 [va] = some y1 := by simpa [Value.cells, Tryd.cellsI, Tryd.cellsL] using h1
  obtain ⟨F, eF, rfl, wF⟩ := DataW.trod_int Tryd.underlying3 h0'
  simp at eF
  subst eF
  refine ⟨F, va, ?_⟩
  rcases Deep.open_slice Tryd.underlying22 h1' with ⟨hcs, hx⟩ | ⟨a, len, cap, m, n, D, Pl, hcs, _, hl, hm, hmm, hx, hel⟩
  · simp at hcs
    subst hcs
    exact ⟨[], rfl, none, 0, rfl, .inl rfl⟩
  · simp at hcs
    subst hcs
    simp at hmm
    subst hmm
    rw [Tryd.cellsR] at hel
    obtain ⟨f, hf⟩ := Deep.choose_lt (α := Rte) (n := len) (p := fun i x => w.cell? (a.add (i * 4)) = some (.int .u64 (hI x.1.1)) ∧ w.cell? ((a.add (i * 4)).add 1) = some (.int .u64 (lI x.1.1)) ∧ w.cell? ((a.add (i * 4)).add 2) = some (.int .i64 x.1.2) ∧ w.cell? ((a.add (i * 4)).add 3) = some (.int .i64 x.2)) (fun i hi => by
      obtain ⟨cs', h1, h2⟩ := hel i (by omega)
      obtain ⟨_, hlen, hc⟩ := World.cells?_some h1
      match cs', hlen with
      | [c0, c1, c2, c3], _ =>
        obtain ⟨x, y, k, g, rfl, rfl, rfl, rfl, wx, wy⟩ := trod_rte h2
        have bx : 0 ≤ x ∧ x < 18446744073709551616 := by simp [Lit.wf, IntKind.min, IntKind.max, IntKind.signed, IntKind.bits] at wx; omega
        have bY : 0 ≤ y ∧ y < 18446744073709551616 := by simp [Lit.wf, IntKind.min, IntKind.max, IntKind.signed, IntKind.bits] at wy; omega
        refine ⟨((mkW x y, k), g), ?_, ?_, ?_, ?_⟩
        · have := hc 0 (by omega)
          rw [hI_mk x y bx.1 bx.2]
          simpa [Addr.add] using this
        · rw [lI_mk x y bY.1 bY.2]
          simpa using hc 1 (by omega)
        · simpa using hc 2 (by omega)
        · simpa using hc 3 (by omega))
    refine ⟨(List.range len).map f, rfl, some a, _, by simp; rfl, ?_⟩
    by_cases hz : len = 0
    · subst hz
      exact .inl (by simp)
    · have h00 := (hf 0 (by omega)).1
      have ea : a = ⟨a.block, a.off, none⟩ := by
        have : a.add (0 * 4) = a := by simp [Addr.add]
        rw [this] at h00
        exact spot_none h00
      refine .inr ⟨a.block, a.off, by rw [← ea], ?_⟩
      refine rowR_all _ ?_
      intro i hi
      have hi' : i < len := by simpa using hi
      have := hf i hi'
      rw [ea] at this
      simp only [addT] at this
      simpa [Nat.add_assoc] using this
end
end Go.Proofs.YtmkjlcfoedglmabDoor
