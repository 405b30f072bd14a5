/-
  Part 27 of the proof: 1 texts, one behind the other.
-/
import Derived.Test.YtmkjlcfoedglmaaDoorPart21
import Derived.Test.YtmkjlcfoedglmaaDoorPart26
import Derived.Test.YtmkjlcfoedglmaaDoorPart23
import Derived.Test.YtmkjlcfoedglmaaDoorPart14
import Derived.Test.YtmkjlcfoedglmaaDoorPart12
/-
  The law AlgebraSays: the segments say of each address where the table leads it.
-/
namespace Go.Proofs.YtmkjlcfoedglmaaDoor
open Go.RowKit
set_option linter.unusedSimpArgs false
set_option linter.unusedVariables false

theorem at_zero6 (w : World) : At (w.alloc (.cells #[.int .u64 0, .int .u64 0] 27)) w.heap.size 0#128 := at_new w w.heap.size 0#128 27 rfl
theorem right_tab7 {F : Int} {l : List Rte} (h : RightT F l) (z : Int) (hz : TabE F l z) : z = 0 := by
  rcases hz.2 h.2.1 with ⟨_, q⟩ | ⟨q, _⟩
  · exact q
  · exact absurd h.2.2 q
theorem rightT_tab7 {F : Int} {l : List Rte} (h : RightT F l) : TabE F l 0 := ⟨fun q => absurd h.2.1 q, fun _ => .inl ⟨h.2.2, rfl⟩⟩
theorem own_bel7 {w w' : World} {base e size n : Nat} {v : Value} {xs : List Value} (h : w.ownsRow base e size v n xs) (hb : Below w.heap.size w w') : w'.ownsRow base e size v n xs := own_heap h (fun g q => hb.block g (h.lt g q).2)
theorem right_mask6 (F : Int) (hf : fam F = true) (x : BitVec 128) : rightE F (x &&& maskW F) = 0 := by
  refine right_of F _ hf ?_
  unfold cutW
  rw [BitVec.and_assoc, BitVec.and_self]
def CS (w5 : World) (T0 : Nat) (F : Int) (v : Value) (x : BitVec 128) (W : World) : Prop := AtT W T0 F v ∧ At W (T0 + 1) x ∧ Below w5.heap.size w5 W
theorem CS.below {w5 : World} {T0 : Nat} {F : Int} {v : Value} {x : BitVec 128} {W W' : World} (k : CS w5 T0 F v x W) (hb : Below W.heap.size W W') : CS w5 T0 F v x W' := ⟨k.1.below hb, k.2.1.below hb, keepb hb k.2.2⟩
def C7 (w5 : World) (T0 g n1 : Nat) (F : Int) (v : Value) (x mk : BitVec 128) (W : World) : Prop := CS w5 T0 F v x W ∧ (W.cell? ⟨g, 0, none⟩ = some (.int .u64 0) ∧ W.cell? ⟨g, 1, none⟩ = some (.int .u64 0)) ∧ (W.cell? ⟨g, n1 * 5 + 2, none⟩ = some (.int .u64 (hI mk)) ∧ W.cell? ⟨g, n1 * 5 + 3, none⟩ = some (.int .u64 (lI mk)))
theorem C7.below {w5 : World} {T0 g n1 : Nat} {F : Int} {v : Value} {x mk : BitVec 128} {W W' : World} (k : C7 w5 T0 g n1 F v x mk W) (hb : Below W.heap.size W W') : C7 w5 T0 g n1 F v x mk W' := ⟨k.1.below hb, ⟨keepc hb k.2.1.1, keepc hb k.2.1.2⟩, ⟨keepc hb k.2.2.1, keepc hb k.2.2.2⟩⟩
theorem C7.drewN {w5 : World} {T0 g n1 : Nat} {F : Int} {v : Value} {x mk : BitVec 128} {W : World} (k : C7 w5 T0 g n1 F v x mk W) : C7 w5 T0 g n1 F v x mk W.drew := k.below (below_drewN (Below.refl _ _) 1)
def Sgc (W : World) (g o : Nat) (ax ay : BitVec 128) (ah : Int) : Prop := W.cell? ⟨g, o, none⟩ = some (.int .u64 (hI ax)) ∧ W.cell? ⟨g, o + 1, none⟩ = some (.int .u64 (lI ax)) ∧ W.cell? ⟨g, o + 2, none⟩ = some (.int .u64 (hI ay)) ∧ W.cell? ⟨g, o + 3, none⟩ = some (.int .u64 (lI ay)) ∧ W.cell? ⟨g, o + 4, none⟩ = some (.int .i64 ah)
theorem Sgc.below {W W' : World} {g o : Nat} {ax ay : BitVec 128} {ah : Int} (k : Sgc W g o ax ay ah) (hb : Below W.heap.size W W') : Sgc W' g o ax ay ah := ⟨keepc hb k.1, keepc hb k.2.1, keepc hb k.2.2.1, keepc hb k.2.2.2.1, keepc hb k.2.2.2.2⟩
def CR (w5 : World) (T0 g j : Nat) (F : Int) (v : Value) (x ax ay : BitVec 128) (ah : Int) (bx by' : BitVec 128) (bh : Int) (W : World) : Prop := CS w5 T0 F v x W ∧ Sgc W g (j * 5) ax ay ah ∧ Sgc W g ((j + 1) * 5) bx by' bh
theorem CR.below {w5 : World} {T0 g j : Nat} {F : Int} {v : Value} {x ax ay : BitVec 128} {ah : Int} {bx by' : BitVec 128} {bh : Int} {W W' : World} (k : CR w5 T0 g j F v x ax ay ah bx by' bh W) (hb : Below W.heap.size W W') : CR w5 T0 g j F v x ax ay ah bx by' bh W' := ⟨k.1.below hb, k.2.1.below hb, k.2.2.below hb⟩
theorem CR.drewN {w5 : World} {T0 g j : Nat} {F : Int} {v : Value} {x ax ay : BitVec 128} {ah : Int} {bx by' : BitVec 128} {bh : Int} {W : World} (k : CR w5 T0 g j F v x ax ay ah bx by' bh W) : CR w5 T0 g j F v x ax ay ah bx by' bh W.drew := k.below (below_drewN (Below.refl _ _) 1)
theorem CR.set {w5 : World} {T0 g j : Nat} {F : Int} {v : Value} {x ax ay : BitVec 128} {ah : Int} {bx by' : BitVec 128} {bh : Int} {W : World} {N : Nat} (k : CR w5 T0 g j F v x ax ay ah bx by' bh W) (hg : g < w5.heap.size) (hT : T0 + 1 < w5.heap.size) (hN : w5.heap.size ≤ N) (p q : Value) : CR w5 T0 g j F v x ax ay ah bx by' bh ((W.setCell ⟨N, 0, none⟩ p).setCell ⟨N, 1, none⟩ q) := by
  have hh : ∀ z, z < w5.heap.size → ((W.setCell ⟨N, 0, none⟩ p).setCell ⟨N, 1, none⟩ q).heap[z]? = W.heap[z]? := fun z hz => by
    have hne : ¬ z = N := by omega
    rw [hSet _ hne, hSet _ hne]
  have h1 := hh T0 (by omega)
  have h2 := hh (T0 + 1) hT
  have h3 := hh g hg
  obtain ⟨⟨a1, a2, a3⟩, ⟨b0, b1, b2, b3, b4⟩, ⟨c0, c1, c2, c3, c4⟩⟩ := k
  refine ⟨⟨⟨by rw [cellH h1]; exact a1.1, by rw [cellH h1]; exact a1.2⟩, a2.heap h2 (by simp), bset2 a3 hN p q⟩, ⟨?_, ?_, ?_, ?_, ?_⟩, ⟨?_, ?_, ?_, ?_, ?_⟩⟩
  all_goals (rw [cellH h3]; assumption)
def CN (w5 : World) (T0 g j N : Nat) (F : Int) (v : Value) (x ax ay : BitVec 128) (ah : Int) (bx by' : BitVec 128) (bh : Int) (W : World) : Prop := CR w5 T0 g j F v x ax ay ah bx by' bh W ∧ At W N bx
theorem CN.below {w5 : World} {T0 g j N : Nat} {F : Int} {v : Value} {x ax ay : BitVec 128} {ah : Int} {bx by' : BitVec 128} {bh : Int} {W W' : World} (k : CN w5 T0 g j N F v x ax ay ah bx by' bh W) (hb : Below W.heap.size W W') : CN w5 T0 g j N F v x ax ay ah bx by' bh W' := ⟨k.1.below hb, k.2.below hb⟩
def NxL (F : Int) (S : List Sg) : Prop := ∀ j (h : j + 1 < S.length), nextB F S[j].1.2 = true ∧ nextV F S[j].1.2 = S[j + 1].1.1 ∧ ¬ S[j + 1].2 = S[j].2 ∧ rightE F S[j].1.2 = 0
def FsL (F : Int) (S : List Sg) : Prop := (∃ h : 0 < S.length, (S[0]'h).1.1 = 0#128) ∧ ∀ n (h : n < S.length), n + 1 = S.length → S[n].1.2 = maskW F
set_option maxRecDepth 40000 in
set_option maxHeartbeats 32000000 in
theorem algebraSays_any (F : Int) (v : Value) (l : List Rte) (xw : BitVec 128) (w : World) (hT : Tab w) (hv : RwR w v l) :
    Calls Tryd.prog 3 #[.agg #[.int .i64 F, v], .agg #[.int .u64 (hI xw), .int .u64 (lI xw)]] w fun e w' => e = .returned (.bool true) ∧ Below w.heap.size w w' := by
  have KK := fun w => known6_any w
  have q1 := bl1 w (.cells #[.int .i64 F, v] 24)
  have q2 := bl1 (w.alloc (.cells #[.int .i64 F, v] 24)) (.cells #[.int .u64 (hI xw), .int .u64 (lI xw)] 27)
  have HU0 := hidR ((att_new w w.heap.size F v 24 rfl).below q2)
  have HX0 := hidR (at_new (w.alloc (.cells #[.int .i64 F, v] 24)) (w.heap.size + 1) xw 27 (by simp))
  have HW0 := hidR (keepb q2 q1)
  have HV := hidR hv
  have HTb := hidR hT
  obtain ⟨ao, c, e, -⟩ := id hv
  have KR := fun W (h : RwR W v l) => rightT_any F v l W h
  subst e
  clear hT hv q1 q2
  generalize hw0 : (w.alloc (.cells #[.int .i64 F, .slice ao l.length c] 24)).alloc (.cells #[.int .u64 (hI xw), .int .u64 (lI xw)] 27) = w0 at *
  go_enter Tryd.func3, Tryd.ntmps3
  go_wp2_with fail
  try rw [hw0]
  clear hw0
  refine (KK _).mono ?_
  rintro e w1 ⟨rfl, hb⟩
  have HB1 := hidR (keepb hb HW0.out)
  have HU1 := hidR (HU0.out.below hb)
  have HX1 := hidR (HX0.out.below hb)
  clear KK hb HU0 HX0 HW0
  obtain ⟨t0, t1⟩ := HU1.out
  have KR1 := KR w1 (HV.out.below HB1.out)
  go_wp2_with fail
  refine KR1.mono ?_
  rintro e w2 ⟨⟨r, hr, rfl⟩, hb⟩
  have HB2 := hidR (keepb hb HB1.out)
  have HU2 := hidR (HU1.out.below hb)
  have HX2 := hidR (HX1.out.below hb)
  have HRt := hidR hr
  clear KR KR1 hb hr t0 t1 HB1 HU1 HX1
  cases r with
  | false =>
    go_wp2
    go_ret
    exact ⟨rfl, HB2.out⟩
  | true =>
    have hR := HRt.out rfl
    have hn := hR.1
    obtain ⟨e1, e2, e3, hf, e4⟩ := tab_segs F l (rightT_tab7 hR) (by omega)
    obtain ⟨_, _, hL, hO⟩ := tab_ok (rightT_tab7 hR)
    have hF0 : 0 ≤ F ∧ F ≤ 128 := by rcases fam_ways F hf with rfl | rfl <;> decide
    have KF := fun w => Fitted_zero F xw w hF0.1 hF0.2
    have hx := right_mask6 F hf xw
    revert KF hx
    generalize xw &&& maskW F = x
    intro KF hx
    obtain ⟨sw1, sw2⟩ := swp_right F hf l hL hO
    have hsl := swp_len F l
    have hok := swp_fits F hf l hL hO (by omega)
    have hcl : (covR F (swp F l)).length ≤ 1048576 := by unfold okL at hok; simpa using hok
    have hct := covR_tab F hf _ sw1 hcl
    obtain ⟨_, _, cL, cO⟩ := tab_ok hct
    have hcs := covR_swp F hf _ _ sw1 sw2
    have hlk := (covR_table F hf _ sw1).2.2.2 _ sw2 x hx
    have K1 : ∀ W, RwR W (.slice ao l.length c) l → Calls Tryd.prog 9 #[.agg #[.int .i64 F, .slice ao l.length c]] W fun e w' => (∃ v', e = .returned (.tuple #[v', .int .i64 0]) ∧ w'.ownsRow W.heap.size 39 5 v' (swp F l).length (rowG (swp F l))) ∧ Below W.heap.size W w' := fun W h => by
      refine (segs_any F (.slice ao l.length c) l W h).mono ?_
      rintro e w' ⟨⟨z, v', hz, rfl, h1, -⟩, hb⟩
      have := right_tab7 hR z hz
      subst this
      exact ⟨⟨v', rfl, h1 rfl⟩, hb⟩
    have K2 : ∀ W v', Tab W → RwG W v' (swp F l) → Calls Tryd.prog 14 #[.int .i64 F, v'] W fun e w' => (∃ v2, e = .returned (.tuple #[.agg #[.int .i64 F, v2], .int .i64 0]) ∧ w'.ownsRow W.heap.size 53 4 v2 (covR F (swp F l)).length (rowR (covR F (swp F l)))) ∧ Below W.heap.size W w' := fun W v' hT h => by
      have k := table6_any F v' (swp F l) W hT h (by omega)
      rw [e1, e2, e3] at k
      exact k
    have K3 : ∀ W vr, RwR W vr (covR F (swp F l)) → Calls Tryd.prog 9 #[.agg #[.int .i64 F, vr]] W fun e w' => (∃ v', e = .returned (.tuple #[v', .int .i64 0]) ∧ w'.ownsRow W.heap.size 39 5 v' (swp F l).length (rowG (swp F l))) ∧ Below W.heap.size W w' := fun W vr h => by
      have k := segs_any F vr _ W h
      rw [hcs] at k
      refine k.mono ?_
      rintro e w' ⟨⟨z, v', hz, rfl, h1, -⟩, hb⟩
      have := tabE_one hct z hz
      subst this
      exact ⟨⟨v', rfl, h1 rfl⟩, hb⟩
    have K4 : ∀ W, RwR W (.slice ao l.length c) l → Calls Tryd.prog 13 #[.agg #[.int .i64 F, .slice ao l.length c], .agg #[.int .u64 (hI x), .int .u64 (lI x)]] W fun e w' => e = .returned (.int .i64 (look x 0 l)) ∧ Below W.heap.size W w' := fun W h => by
      have k := rlookup_any F x _ l W h (by omega) (ro_cells hf hL)
      rw [show hopM (mat x none l) = look x 0 l from mat_look F x l none (fun o e => by cases e) hL hO] at k
      exact k
    have K5 : ∀ W vr, RwR W vr (covR F (swp F l)) → Calls Tryd.prog 13 #[.agg #[.int .i64 F, vr], .agg #[.int .u64 (hI x), .int .u64 (lI x)]] W fun e w' => e = .returned (.int .i64 (look x 0 l)) ∧ Below W.heap.size W w' := fun W vr h => by
      have k := rlookup_any F x _ _ W h (by omega) (ro_cells hf cL)
      rw [show hopM (mat x none (covR F (swp F l))) = look x 0 l from (mat_look F x _ none (fun o e => by cases e) cL cO).trans hlk] at k
      exact k
    have K6 : ∀ W vr, RwR W vr (covR F (swp F l)) → Calls Tryd.prog 16 #[.agg #[.int .i64 F, vr]] W fun e w' => e = .returned (.int .i64 0) ∧ Below W.heap.size W w' := fun W vr h => by
      refine (rcheckT_any F vr _ W h).mono ?_
      rintro e w' ⟨⟨z, hz, rfl⟩, hb⟩
      have := tabE_one hct z hz
      subst this
      exact ⟨rfl, hb⟩
    have K7 : ∀ W vs, RwG W vs (swp F l) → Calls Tryd.prog 12 #[vs, .agg #[.int .u64 (hI x), .int .u64 (lI x)]] W fun e w' => e = .returned (.tuple #[.int .i64 (look x 0 l), .bool true]) ∧ Below W.heap.size W w' := by
      have hs0 : ∃ s L, swp F l = s :: L := by
        cases q : swp F l with
        | nil => rw [q] at sw1; simp [sgsGo, moO] at sw1
        | cons s L => exact ⟨s, L, rfl⟩
      obtain ⟨s, L, hs0⟩ := hs0
      rw [hs0] at sw1 sw2 hsl ⊢
      obtain ⟨g1, g2, g3, g4, g5⟩ := sgsGo_cons F none s L sw1
      have z : s.1.1.toNat = 0 := by rw [g3]; rfl
      obtain ⟨k, hk, c1, c2, c3⟩ := segs_at F x hx L s g1 g5 (by omega)
      intro W vs h
      have a := at6_in x vs (s :: L) k hk (fun j hj => by unfold toG; rw [cmp_lt0]; exact c3 j hj) (by rw [cmp_lt0]; omega) W h (by omega)
      rw [sw2 _ (List.getElem_mem hk) x hx c1 c2] at a
      exact a
    have K8 := fun W v' u' (h1 : RwG W v' (swp F l)) (h2 : RwG W u' (swp F l)) => sameSegs_any v' u' (swp F l) W h1 h2 (by omega)
    have hNx : NxL F (swp F l) := segs_next F (swp F l) none sw1
    have hFs : FsL F (swp F l) := ⟨segs_first F _ sw1, segs_last F hf _ none sw1⟩
    clear hR HRt hn e1 e2 e3 hf e4 hL hO hF0 hx sw1 sw2 hok hct cL cO hcs hlk
    revert K1 K2 K3 K4 K5 K6 K7 K8 hNx hFs hsl hcl
    generalize look x 0 l = hx
    generalize covR F (swp F l) = R
    generalize swp F l = S
    intro hsl hcl K1 K2 K3 K4 K5 K6 K7 K8 hNx hFs
    have HNx := hidR hNx
    have HFs := hidR hFs
    have hSl : S.length ≤ 1000000000 := by omega
    clear hNx hFs hsl
    obtain ⟨t0, t1⟩ := HU2.out
    obtain ⟨z0, z1, -⟩ := HX2.out
    go_wp2_with fail
    refine (KF _).mono ?_
    rintro e w3 ⟨rfl, hb⟩
    have HX3 := HX2.out.below hb
    have HT3 := HU2.out.below hb
    have hne1 : ¬ w.heap.size = w.heap.size + 1 := by omega
    have HX4 := hidR (HX3.setE x)
    have HB4 := hidR (bset2 (C := w.heap.size + 1) (keepb hb HB2.out) (by omega) (.int .u64 (hI x)) (.int .u64 (lI x)))
    have ee1 : ((w3.setCell ⟨w.heap.size + 1, 0, none⟩ (.int .u64 (hI x))).setCell ⟨w.heap.size + 1, 1, none⟩ (.int .u64 (lI x))).heap[w.heap.size]? = w3.heap[w.heap.size]? := by rw [hSet _ hne1, hSet _ hne1]
    have HU4 : Hid (AtT ((w3.setCell ⟨w.heap.size + 1, 0, none⟩ (.int .u64 (hI x))).setCell ⟨w.heap.size + 1, 1, none⟩ (.int .u64 (lI x))) w.heap.size F (.slice ao l.length c)) := hidR ⟨by rw [cellH ee1]; exact HT3.1, by rw [cellH ee1]; exact HT3.2⟩
    obtain ⟨y0, y1, y2, y3, y4⟩ := HX3
    clear hb HT3 hne1 ee1 KF t0 t1 z0 z1 HX2 HU2 HB2
    obtain ⟨t0, t1⟩ := HU4.out
    have K1' := K1 _ (HV.out.below HB4.out)
    go_wp2_with fail
    refine K1'.mono ?_
    rintro e w5 ⟨⟨vs, rfl, hs⟩, hb⟩
    have HB5 := hidR (keepb hb HB4.out)
    have HC5 : Hid (CS w5 w.heap.size F (.slice ao l.length c) x w5) := hidR ⟨HU4.out.below hb, HX4.out.below hb, Below.refl _ _⟩
    have HS5 := hidR hs
    obtain ⟨as5, cs, rfl⟩ := own_form hs
    clear hs hb K1' K1 t0 t1 HU4 HX4 HB4 y0 y1 y2 y3 y4
    have KM := fun w => rmask_any F w
    obtain ⟨⟨hn0, hz0⟩, hlast⟩ := HFs.out
    obtain ⟨n1, hn1⟩ : ∃ n1, n1 + 1 = S.length := ⟨S.length - 1, by omega⟩
    have hn1l : n1 < S.length := by omega
    rcases HS5.out.2 with ⟨e, h⟩ | ⟨g, cap, cur, e, -⟩
    · omega
    · injection e with e1 e2 e3
      subst e1
      clear e2 e3
      have hg5 : g < w5.heap.size := (HS5.out.lt g rfl).2
      have hT5 : w.heap.size + 1 < w5.heap.size := cell_in HC5.out.2.1.1
      have hGT := hidR (And.intro hg5 hT5)
      have hC7 : C7 w5 w.heap.size g n1 F (.slice ao l.length c) x (maskW F) w5 := by
        obtain ⟨a0, a1, -⟩ := ownG_cells HS5.out 0 hn0
        obtain ⟨-, -, b2, b3, -⟩ := ownG_cells HS5.out n1 hn1l
        rw [hz0] at a0 a1
        rw [hlast n1 hn1l hn1] at b2 b3
        simp only [hI_zero, lI_zero, Nat.zero_mul, Nat.zero_add] at a0 a1
        exact ⟨HC5.out, ⟨a0, a1⟩, ⟨b2, b3⟩⟩
      have HC7 := hidR hC7.drewN
      clear hC7 hlast hz0 HFs hg5
      generalize hT0 : w.heap.size = T0 at *
      revert KM HC7
      generalize maskW F = mk
      intro KM HC7
      have hEm := fun w => eqW_run mk mk w
      rw [beq_self_eq_true] at hEm
      have m7 : IntKind.i64.wrap ((S.length : Int) - 1) = (n1 : Int) := by rw [IntKind.wrap_i64]; omega
      have i7 : (n1 : Int) < (S.length : Int) := by omega
      have i8 : (0 : Int) < (S.length : Int) := by omega
      have i9 : ¬ (S.length : Int) = 0 := by omega
      have i10 : ¬ S.length = 0 := by omega
      go_wp2_with fail
      refine qw_region (C := C7 w5 T0 g n1 F (.slice ao l.length c) x mk) (by kernel_rfl) (by kernel_rfl) HC7.out ?_
      clear HC7
      refine qw_run (v := .int .i64 0) (by rfl) ?_ ?_
      · (intro w1 hC; obtain ⟨⟨⟨t0, t1⟩, ⟨y0, y1, -, -, -⟩, -⟩, ⟨c0, c1⟩, ⟨d0, d1⟩⟩ := hC; go_simp; first | done | (simp; done) | (simp [*]; done) | omega | (simp; omega) | (rw [IntKind.wrap_i64]; omega) | (intro hx; omega) | rfl)
      simp only [Act.put, List.setIfInBounds_toArray, List.set_cons_zero, List.set_cons_succ]
      refine qw_run (v := .bool false) (by rfl) ?_ ?_
      · (intro w1 hC; obtain ⟨⟨⟨t0, t1⟩, ⟨y0, y1, -, -, -⟩, -⟩, ⟨c0, c1⟩, ⟨d0, d1⟩⟩ := hC; go_simp; first | done | (simp; done) | (simp [*]; done) | omega | (simp; omega) | (rw [IntKind.wrap_i64]; omega) | (intro hx; omega) | rfl)
      simp only [Act.put, List.setIfInBounds_toArray, List.set_cons_zero, List.set_cons_succ]
      refine qw_run (v := .bool false) (by rfl) ?_ ?_
      · (intro w1 hC; obtain ⟨⟨⟨t0, t1⟩, ⟨y0, y1, -, -, -⟩, -⟩, ⟨c0, c1⟩, ⟨d0, d1⟩⟩ := hC; go_simp; first | done | (simp; done) | (simp [*]; done) | omega | (simp; omega) | (rw [IntKind.wrap_i64]; omega) | (intro hx; omega) | rfl)
      simp only [Act.put, List.setIfInBounds_toArray, List.set_cons_zero, List.set_cons_succ]
      refine qw_run (v := .slice (some ⟨g, 0, none⟩) S.length cs) (by rfl) ?_ ?_
      · (intro w1 hC; obtain ⟨⟨⟨t0, t1⟩, ⟨y0, y1, -, -, -⟩, -⟩, ⟨c0, c1⟩, ⟨d0, d1⟩⟩ := hC; go_simp; first | done | (simp; done) | (simp [*]; done) | omega | (simp; omega) | (rw [IntKind.wrap_i64]; omega) | (intro hx; omega) | rfl)
      simp only [Act.put, List.setIfInBounds_toArray, List.set_cons_zero, List.set_cons_succ]
      refine qw_run (v := .int .i64 (S.length : Int)) (by rfl) ?_ ?_
      · (intro w1 hC; obtain ⟨⟨⟨t0, t1⟩, ⟨y0, y1, -, -, -⟩, -⟩, ⟨c0, c1⟩, ⟨d0, d1⟩⟩ := hC; go_simp; first | done | (simp; done) | (simp [*]; done) | omega | (simp; omega) | (rw [IntKind.wrap_i64]; omega) | (intro hx; omega) | rfl)
      simp only [Act.put, List.setIfInBounds_toArray, List.set_cons_zero, List.set_cons_succ]
      refine qw_run (v := .bool false) (by rfl) ?_ ?_
      · (intro w1 hC; obtain ⟨⟨⟨t0, t1⟩, ⟨y0, y1, -, -, -⟩, -⟩, ⟨c0, c1⟩, ⟨d0, d1⟩⟩ := hC; go_simp; first | done | (simp; done) | (simp [*]; done) | omega | (simp; omega) | (rw [IntKind.wrap_i64]; omega) | (intro hx; omega) | rfl)
      simp only [Act.put, List.setIfInBounds_toArray, List.set_cons_zero, List.set_cons_succ]
      refine qw_run (v := .bool false) (by rfl) ?_ ?_
      · (intro w1 hC; obtain ⟨⟨⟨t0, t1⟩, ⟨y0, y1, -, -, -⟩, -⟩, ⟨c0, c1⟩, ⟨d0, d1⟩⟩ := hC; go_simp; first | done | (simp; done) | (simp [*]; done) | omega | (simp; omega) | (rw [IntKind.wrap_i64]; omega) | (intro hx; omega) | rfl)
      simp only [Act.put, List.setIfInBounds_toArray, List.set_cons_zero, List.set_cons_succ]
      refine qw_run (v := .bool false) (by rfl) ?_ ?_
      · (intro w1 hC; obtain ⟨⟨⟨t0, t1⟩, ⟨y0, y1, -, -, -⟩, -⟩, ⟨c0, c1⟩, ⟨d0, d1⟩⟩ := hC; go_simp; first | done | (simp; done) | (simp [*]; done) | omega | (simp; omega) | (rw [IntKind.wrap_i64]; omega) | (intro hx; omega) | rfl)
      simp only [Act.put, List.setIfInBounds_toArray, List.set_cons_zero, List.set_cons_succ]
      refine qw_run (v := .slice (some ⟨g, 0, none⟩) S.length cs) (by rfl) ?_ ?_
      · (intro w1 hC; obtain ⟨⟨⟨t0, t1⟩, ⟨y0, y1, -, -, -⟩, -⟩, ⟨c0, c1⟩, ⟨d0, d1⟩⟩ := hC; go_simp; first | done | (simp; done) | (simp [*]; done) | omega | (simp; omega) | (rw [IntKind.wrap_i64]; omega) | (intro hx; omega) | rfl)
      simp only [Act.put, List.setIfInBounds_toArray, List.set_cons_zero, List.set_cons_succ]
      refine qw_run (v := .pointer (some ⟨g, 0, none⟩)) (by rfl) ?_ ?_
      · (intro w1 hC; obtain ⟨⟨⟨t0, t1⟩, ⟨y0, y1, -, -, -⟩, -⟩, ⟨c0, c1⟩, ⟨d0, d1⟩⟩ := hC; go_simp; first | done | (simp; done) | (simp [*]; done) | omega | (simp; omega) | (rw [IntKind.wrap_i64]; omega) | (intro hx; omega) | rfl)
      simp only [Act.put, List.setIfInBounds_toArray, List.set_cons_zero, List.set_cons_succ]
      refine qw_run (v := .pointer (some ⟨g, 0, none⟩)) (by rfl) ?_ ?_
      · (intro w1 hC; obtain ⟨⟨⟨t0, t1⟩, ⟨y0, y1, -, -, -⟩, -⟩, ⟨c0, c1⟩, ⟨d0, d1⟩⟩ := hC; go_simp; first | done | (simp; done) | (simp [*]; done) | omega | (simp; omega) | (rw [IntKind.wrap_i64]; omega) | (intro hx; omega) | rfl)
      simp only [Act.put, List.setIfInBounds_toArray, List.set_cons_zero, List.set_cons_succ]
      refine qw_run (v := .agg #[.int .u64 0, .int .u64 0]) (by rfl) ?_ ?_
      · (intro w1 hC; obtain ⟨⟨⟨t0, t1⟩, ⟨y0, y1, -, -, -⟩, -⟩, ⟨c0, c1⟩, ⟨d0, d1⟩⟩ := hC; go_simp; first | done | (simp; done) | (simp [*]; done) | omega | (simp; omega) | (rw [IntKind.wrap_i64]; omega) | (intro hx; omega) | rfl)
      simp only [Act.put, List.setIfInBounds_toArray, List.set_cons_zero, List.set_cons_succ]
      refine qw_run (v := .agg #[.int .u64 0, .int .u64 0]) (by rfl) ?_ ?_
      · (intro w1 hC; obtain ⟨⟨⟨t0, t1⟩, ⟨y0, y1, -, -, -⟩, -⟩, ⟨c0, c1⟩, ⟨d0, d1⟩⟩ := hC; go_simp; first | done | (simp; done) | (simp [*]; done) | omega | (simp; omega) | (rw [IntKind.wrap_i64]; omega) | (intro hx; omega) | rfl)
      simp only [Act.put, List.setIfInBounds_toArray, List.set_cons_zero, List.set_cons_succ]
      refine qw_run (v := .bool false) (by rfl) ?_ ?_
      · (intro w1 hC; obtain ⟨⟨⟨t0, t1⟩, ⟨y0, y1, -, -, -⟩, -⟩, ⟨c0, c1⟩, ⟨d0, d1⟩⟩ := hC; go_simp; first | done | (simp; done) | (simp [*]; done) | omega | (simp; omega) | (rw [IntKind.wrap_i64]; omega) | (intro hx; omega) | rfl)
      simp only [Act.put, List.setIfInBounds_toArray, List.set_cons_zero, List.set_cons_succ]
      refine qw_run (v := .bool false) (by rfl) ?_ ?_
      · (intro w1 hC; obtain ⟨⟨⟨t0, t1⟩, ⟨y0, y1, -, -, -⟩, -⟩, ⟨c0, c1⟩, ⟨d0, d1⟩⟩ := hC; go_simp; first | done | (simp; done) | (simp [*]; done) | omega | (simp; omega) | (rw [IntKind.wrap_i64]; omega) | (intro hx; omega) | rfl)
      simp only [Act.put, List.setIfInBounds_toArray, List.set_cons_zero, List.set_cons_succ]
      refine qw_run (v := .bool false) (by rfl) ?_ ?_
      · (intro w1 hC; obtain ⟨⟨⟨t0, t1⟩, ⟨y0, y1, -, -, -⟩, -⟩, ⟨c0, c1⟩, ⟨d0, d1⟩⟩ := hC; go_simp; first | done | (simp; done) | (simp [*]; done) | omega | (simp; omega) | (rw [IntKind.wrap_i64]; omega) | (intro hx; omega) | rfl)
      simp only [Act.put, List.setIfInBounds_toArray, List.set_cons_zero, List.set_cons_succ]
      refine qw_run (v := .slice (some ⟨g, 0, none⟩) S.length cs) (by rfl) ?_ ?_
      · (intro w1 hC; obtain ⟨⟨⟨t0, t1⟩, ⟨y0, y1, -, -, -⟩, -⟩, ⟨c0, c1⟩, ⟨d0, d1⟩⟩ := hC; go_simp; first | done | (simp; done) | (simp [*]; done) | omega | (simp; omega) | (rw [IntKind.wrap_i64]; omega) | (intro hx; omega) | rfl)
      simp only [Act.put, List.setIfInBounds_toArray, List.set_cons_zero, List.set_cons_succ]
      refine qw_run (v := .slice (some ⟨g, 0, none⟩) S.length cs) (by rfl) ?_ ?_
      · (intro w1 hC; obtain ⟨⟨⟨t0, t1⟩, ⟨y0, y1, -, -, -⟩, -⟩, ⟨c0, c1⟩, ⟨d0, d1⟩⟩ := hC; go_simp; first | done | (simp; done) | (simp [*]; done) | omega | (simp; omega) | (rw [IntKind.wrap_i64]; omega) | (intro hx; omega) | rfl)
      simp only [Act.put, List.setIfInBounds_toArray, List.set_cons_zero, List.set_cons_succ]
      refine qw_run (v := .int .i64 (S.length : Int)) (by rfl) ?_ ?_
      · (intro w1 hC; obtain ⟨⟨⟨t0, t1⟩, ⟨y0, y1, -, -, -⟩, -⟩, ⟨c0, c1⟩, ⟨d0, d1⟩⟩ := hC; go_simp; first | done | (simp; done) | (simp [*]; done) | omega | (simp; omega) | (rw [IntKind.wrap_i64]; omega) | (intro hx; omega) | rfl)
      simp only [Act.put, List.setIfInBounds_toArray, List.set_cons_zero, List.set_cons_succ]
      refine qw_run (v := .int .i64 (n1 : Int)) (by rfl) ?_ ?_
      · (intro w1 hC; obtain ⟨⟨⟨t0, t1⟩, ⟨y0, y1, -, -, -⟩, -⟩, ⟨c0, c1⟩, ⟨d0, d1⟩⟩ := hC; go_simp; first | done | (simp; done) | (simp [*]; done) | omega | (simp; omega) | (rw [IntKind.wrap_i64]; omega) | (intro hx; omega) | rfl)
      simp only [Act.put, List.setIfInBounds_toArray, List.set_cons_zero, List.set_cons_succ]
      refine qw_run (v := .pointer (some ⟨g, n1 * 5, none⟩)) (by rfl) ?_ ?_
      · (intro w1 hC; obtain ⟨⟨⟨t0, t1⟩, ⟨y0, y1, -, -, -⟩, -⟩, ⟨c0, c1⟩, ⟨d0, d1⟩⟩ := hC; go_simp; first | done | (simp; done) | (simp [*]; done) | omega | (simp; omega) | (rw [IntKind.wrap_i64]; omega) | (intro hx; omega) | rfl)
      simp only [Act.put, List.setIfInBounds_toArray, List.set_cons_zero, List.set_cons_succ]
      refine qw_run (v := .pointer (some ⟨g, n1 * 5 + 2, none⟩)) (by rfl) ?_ ?_
      · (intro w1 hC; obtain ⟨⟨⟨t0, t1⟩, ⟨y0, y1, -, -, -⟩, -⟩, ⟨c0, c1⟩, ⟨d0, d1⟩⟩ := hC; go_simp; first | done | (simp; done) | (simp [*]; done) | omega | (simp; omega) | (rw [IntKind.wrap_i64]; omega) | (intro hx; omega) | rfl)
      simp only [Act.put, List.setIfInBounds_toArray, List.set_cons_zero, List.set_cons_succ]
      refine qw_run (v := .agg #[.int .u64 (hI mk), .int .u64 (lI mk)]) (by rfl) ?_ ?_
      · (intro w1 hC; obtain ⟨⟨⟨t0, t1⟩, ⟨y0, y1, -, -, -⟩, -⟩, ⟨c0, c1⟩, ⟨d0, d1⟩⟩ := hC; go_simp; first | done | (simp; done) | (simp [*]; done) | omega | (simp; omega) | (rw [IntKind.wrap_i64]; omega) | (intro hx; omega) | rfl)
      simp only [Act.put, List.setIfInBounds_toArray, List.set_cons_zero, List.set_cons_succ]
      refine qw_run (v := .pointer (some ⟨T0, 0, none⟩)) (by rfl) ?_ ?_
      · (intro w1 hC; obtain ⟨⟨⟨t0, t1⟩, ⟨y0, y1, -, -, -⟩, -⟩, ⟨c0, c1⟩, ⟨d0, d1⟩⟩ := hC; go_simp; first | done | (simp; done) | (simp [*]; done) | omega | (simp; omega) | (rw [IntKind.wrap_i64]; omega) | (intro hx; omega) | rfl)
      simp only [Act.put, List.setIfInBounds_toArray, List.set_cons_zero, List.set_cons_succ]
      refine qw_run (v := .int .i64 F) (by rfl) ?_ ?_
      · (intro w1 hC; obtain ⟨⟨⟨t0, t1⟩, ⟨y0, y1, -, -, -⟩, -⟩, ⟨c0, c1⟩, ⟨d0, d1⟩⟩ := hC; go_simp; first | done | (simp; done) | (simp [*]; done) | omega | (simp; omega) | (rw [IntKind.wrap_i64]; omega) | (intro hx; omega) | rfl)
      simp only [Act.put, List.setIfInBounds_toArray, List.set_cons_zero, List.set_cons_succ]
      refine qw_call (v := .agg #[.int .u64 (hI mk), .int .u64 (lI mk)]) (f := 10) (args := #[.int .i64 F]) (by rfl) ?_ ?_ ?_
      · (intro w1 hC; clear hC; go_simp)
      · exact fun w1 hC => (KM w1).mono fun e w' ⟨he, hb⟩ => ⟨he, hC.below hb⟩
      simp only [Act.put, List.setIfInBounds_toArray, List.set_cons_zero, List.set_cons_succ]
      refine qw_run (v := .bool false) (by rfl) ?_ ?_
      · (intro w1 hC; obtain ⟨⟨⟨t0, t1⟩, ⟨y0, y1, -, -, -⟩, -⟩, ⟨c0, c1⟩, ⟨d0, d1⟩⟩ := hC; go_simp; first | done | (simp; done) | (simp [*]; done) | omega | (simp; omega) | (rw [IntKind.wrap_i64]; omega) | (intro hx; omega) | rfl)
      simp only [Act.put, List.setIfInBounds_toArray, List.set_cons_zero, List.set_cons_succ]
      refine qw_run (v := .bool false) (by rfl) ?_ ?_
      · (intro w1 hC; obtain ⟨⟨⟨t0, t1⟩, ⟨y0, y1, -, -, -⟩, -⟩, ⟨c0, c1⟩, ⟨d0, d1⟩⟩ := hC; go_simp; first | done | (simp; done) | (simp [*]; done) | omega | (simp; omega) | (rw [IntKind.wrap_i64]; omega) | (intro hx; omega) | rfl)
      simp only [Act.put, List.setIfInBounds_toArray, List.set_cons_zero, List.set_cons_succ]
      refine qw_nil ?_
      intro W7 hC7
      have HC := hidR hC7.1
      clear hC7 KM hEm m7 i7 i8 i9 i10 HC5
      go_wp2_with fail
      go_loopw [7] (fun i wr => ∃ k : Nat, 1 ≤ k ∧ k ≤ S.length ∧ i = .int .i64 k ∧ Hid (CS w5 T0 F (.slice ao l.length c) x wr)) (fun i _ => S.length - (intOf i).toNat)
      case atStart => exact ⟨1, by omega, by omega, rfl, HC⟩
      case round =>
        clear HC
        obtain ⟨k5, hk5, hk6, rfl, HC0⟩ := hrel
        by_cases hlt : (k5 : Int) < (S.length : Int)
        · obtain ⟨j, rfl⟩ : ∃ j, k5 = j + 1 := ⟨k5 - 1, by omega⟩
          have hj : j + 1 < S.length := by omega
          have i3 : j < S.length := by omega
          obtain ⟨nx1, nx2, nx3, nx4⟩ := HNx.out j hj
          have HC := hidR (show CR w5 T0 g j F (.slice ao l.length c) x S[j].1.1 S[j].1.2 S[j].2 S[j + 1].1.1 S[j + 1].1.2 S[j + 1].2 wr from ⟨HC0.out, ownG_cells (own_bel7 HS5.out HC0.out.2.2) j i3, ownG_cells (own_bel7 HS5.out HC0.out.2.2) (j + 1) hj⟩)
          have KN := fun w => rnext_any F S[j].1.2 w
          rw [nx1, nx2] at KN
          have e1 : ((j + 1 : Nat) : Int) = (j : Int) + 1 := by omega
          have m1 : IntKind.i64.wrap ((j : Int) + 1 - 1) = (j : Int) := by rw [IntKind.wrap_i64]; omega
          have m2 : IntKind.i64.wrap (j : Int) = (j : Int) := by rw [IntKind.wrap_i64]; omega
          have mk1 : IntKind.i64.wrap ((j : Int) + 1 + 1) = (j : Int) + 1 + 1 := by rw [IntKind.wrap_i64]; omega
          have i1 : (j : Int) < (S.length : Int) := by omega
          have i2 : (j : Int) + 1 < (S.length : Int) := by omega
          rw [e1]
          clear nx1 nx2 nx4 e1 HC0
          revert KN nx3 HC
          generalize S[j].1.1 = ax
          generalize S[j].1.2 = ay
          generalize S[j].2 = ah
          generalize S[j + 1].1.1 = bx
          generalize S[j + 1].1.2 = by'
          generalize S[j + 1].2 = bh
          intro nx3 HC KN
          have hEb := fun w => eqW_run bx bx w
          rw [beq_self_eq_true] at hEb
          go_wp2_with fail
          refine two_region 14 12 13 (alOk (qpOk 14 12 (by decide) (fun N => by kernel_rfl) (by kernel_rfl) (by kernel_rfl) (by kernel_rfl) (by kernel_rfl)) (by decide) rfl rfl (by kernel_rfl)) (alOk (qpOk 14 13 (by decide) (fun N => by kernel_rfl) (by kernel_rfl) (by kernel_rfl) (by kernel_rfl) (by kernel_rfl)) (by decide) rfl rfl (by kernel_rfl)) (by decide) (by kernel_rfl) rfl (D := CR w5 T0 g j F (.slice ao l.length c) x ax ay ah bx by' bh) (C1 := fun N W => CR w5 T0 g j F (.slice ao l.length c) x ax ay ah bx by' bh W ∧ At W N 0#128 ∧ w5.heap.size ≤ N) (C2 := fun N W => CR w5 T0 g j F (.slice ao l.length c) x ax ay ah bx by' bh W ∧ At W N bx ∧ w5.heap.size ≤ N) (obj := .cells #[.int .u64 0, .int .u64 0] 27) [some 69, some 70, some 71, some 72, some 73, some 74, some 75, some 76, some 77, some 68, some 78, some 79, some 8, none] (fun N => [.pointer (some ⟨T0, 0, none⟩), .int .i64 F, .slice (some ⟨g, 0, none⟩) S.length cs, .int .i64 ((j : Int) + 1), .int .i64 (j : Int), .pointer (some ⟨g, j * 5, none⟩), .pointer (some ⟨g, j * 5 + 2, none⟩), .agg #[.int .u64 (hI ay), .int .u64 (lI ay)], .tuple #[.agg #[.int .u64 (hI bx), .int .u64 (lI bx)], .bool true], .tuple #[.agg #[.int .u64 (hI bx), .int .u64 (lI bx)], .bool true], .agg #[.int .u64 (hI bx), .int .u64 (lI bx)], .bool true, .pointer (some ⟨N, 0, none⟩), undef]) 8 [8, 78] (by kernel_rfl) (fun N => by kernel_rfl) rfl ?hA12 ?hAd12 (by kernel_rfl) ?hal12 ?hC12 ?hst12 HC.out.drewN ?walk12 ?fin12
          case hA12 => intro N; simp only [putAll, Act.put, List.setIfInBounds_toArray, List.set_cons_zero, List.set_cons_succ]; rfl
          case hAd12 => intro N; simp only [putAll, Act.put, List.setIfInBounds_toArray, List.set_cons_zero, List.set_cons_succ]; rfl
          case hal12 => intro W a _; go_simp
          case hC12 => intro W h; exact ⟨h.below (bl1 W _), at_zero6 W, h.1.2.2.size⟩
          case hst12 =>
            intro N W a' hC hr K Q' hK
            have e8 : a'.tmps[8]? = some (.pointer (some ⟨N, 0, none⟩)) := (hr 8 (by simp)).trans (by simp only [putAll, Act.put, List.setIfInBounds_toArray, List.set_cons_zero, List.set_cons_succ]; rfl)
            have e78 : a'.tmps[78]? = some (.agg #[.int .u64 (hI bx), .int .u64 (lI bx)]) := (hr 78 (by simp)).trans (by simp only [putAll, Act.put, List.setIfInBounds_toArray, List.set_cons_zero, List.set_cons_succ]; rfl)
            obtain ⟨hE, hZ, hN⟩ := hC
            obtain ⟨z0, z1, z2, z3, z4⟩ := id hZ
            have hK' := hK _ ⟨hE.set hGT.out.1 hGT.out.2 hN (.int .u64 (hI bx)) (.int .u64 (lI bx)), hZ.set bx, hN⟩
            unfold Oper.wp
            simp [execOp, e8, e78, go_sem, z0, z1, z2, z3, Oper.upon]
            exact hK'
          case walk12 =>
            intro N X hX
            have hXD : ∀ W, X W → CR w5 T0 g j F (.slice ao l.length c) x ax ay ah bx by' bh W := by
              rcases hX with rfl | rfl | rfl
              · exact fun W h => h
              · exact fun W h => h.1
              · exact fun W h => h.1
            have hXb : ∀ W W', X W → Below W.heap.size W W' → X W' := by
              rcases hX with rfl | rfl | rfl
              · exact fun W W' h hb => h.below hb
              · exact fun W W' h hb => ⟨h.1.below hb, h.2.1.below hb, h.2.2⟩
              · exact fun W W' h hb => ⟨h.1.below hb, h.2.1.below hb, h.2.2⟩
            clear hX HC
            dsimp only [rep, List.take, List.modify, List.modifyTailIdx, List.modifyTailIdx.go, List.modifyHead]
            refine q_run (v := .pointer (some ⟨T0, 0, none⟩)) (by rfl) ?_ ?_
            · (intro w1 hC; obtain ⟨⟨⟨t0, t1⟩, ⟨y0, y1, -, -, -⟩, -⟩, ⟨x0, x1, x2, x3, x4⟩, ⟨u0, u1, u2, u3, u4⟩⟩ := hXD w1 hC; go_simp; first | done | (simp; done) | (simp [*]; done) | omega | (simp; omega) | (rw [IntKind.wrap_i64]; omega) | (intro hx; omega) | rfl)
            simp only [Act.put, List.setIfInBounds_toArray, List.set_cons_zero, List.set_cons_succ]
            refine q_run (v := .int .i64 F) (by rfl) ?_ ?_
            · (intro w1 hC; obtain ⟨⟨⟨t0, t1⟩, ⟨y0, y1, -, -, -⟩, -⟩, ⟨x0, x1, x2, x3, x4⟩, ⟨u0, u1, u2, u3, u4⟩⟩ := hXD w1 hC; go_simp; first | done | (simp; done) | (simp [*]; done) | omega | (simp; omega) | (rw [IntKind.wrap_i64]; omega) | (intro hx; omega) | rfl)
            simp only [Act.put, List.setIfInBounds_toArray, List.set_cons_zero, List.set_cons_succ]
            refine q_run (v := .slice (some ⟨g, 0, none⟩) S.length cs) (by rfl) ?_ ?_
            · (intro w1 hC; obtain ⟨⟨⟨t0, t1⟩, ⟨y0, y1, -, -, -⟩, -⟩, ⟨x0, x1, x2, x3, x4⟩, ⟨u0, u1, u2, u3, u4⟩⟩ := hXD w1 hC; go_simp; first | done | (simp; done) | (simp [*]; done) | omega | (simp; omega) | (rw [IntKind.wrap_i64]; omega) | (intro hx; omega) | rfl)
            simp only [Act.put, List.setIfInBounds_toArray, List.set_cons_zero, List.set_cons_succ]
            refine q_run (v := .int .i64 ((j : Int) + 1)) (by rfl) ?_ ?_
            · (intro w1 hC; obtain ⟨⟨⟨t0, t1⟩, ⟨y0, y1, -, -, -⟩, -⟩, ⟨x0, x1, x2, x3, x4⟩, ⟨u0, u1, u2, u3, u4⟩⟩ := hXD w1 hC; go_simp; first | done | (simp; done) | (simp [*]; done) | omega | (simp; omega) | (rw [IntKind.wrap_i64]; omega) | (intro hx; omega) | rfl)
            simp only [Act.put, List.setIfInBounds_toArray, List.set_cons_zero, List.set_cons_succ]
            refine q_run (v := .int .i64 (j : Int)) (by rfl) ?_ ?_
            · (intro w1 hC; obtain ⟨⟨⟨t0, t1⟩, ⟨y0, y1, -, -, -⟩, -⟩, ⟨x0, x1, x2, x3, x4⟩, ⟨u0, u1, u2, u3, u4⟩⟩ := hXD w1 hC; go_simp; first | done | (simp; done) | (simp [*]; done) | omega | (simp; omega) | (rw [IntKind.wrap_i64]; omega) | (intro hx; omega) | rfl)
            simp only [Act.put, List.setIfInBounds_toArray, List.set_cons_zero, List.set_cons_succ]
            refine q_run (v := .pointer (some ⟨g, j * 5, none⟩)) (by rfl) ?_ ?_
            · (intro w1 hC; obtain ⟨⟨⟨t0, t1⟩, ⟨y0, y1, -, -, -⟩, -⟩, ⟨x0, x1, x2, x3, x4⟩, ⟨u0, u1, u2, u3, u4⟩⟩ := hXD w1 hC; go_simp; first | done | (simp; done) | (simp [*]; done) | omega | (simp; omega) | (rw [IntKind.wrap_i64]; omega) | (intro hx; omega) | rfl)
            simp only [Act.put, List.setIfInBounds_toArray, List.set_cons_zero, List.set_cons_succ]
            refine q_run (v := .pointer (some ⟨g, j * 5 + 2, none⟩)) (by rfl) ?_ ?_
            · (intro w1 hC; obtain ⟨⟨⟨t0, t1⟩, ⟨y0, y1, -, -, -⟩, -⟩, ⟨x0, x1, x2, x3, x4⟩, ⟨u0, u1, u2, u3, u4⟩⟩ := hXD w1 hC; go_simp; first | done | (simp; done) | (simp [*]; done) | omega | (simp; omega) | (rw [IntKind.wrap_i64]; omega) | (intro hx; omega) | rfl)
            simp only [Act.put, List.setIfInBounds_toArray, List.set_cons_zero, List.set_cons_succ]
            refine q_run (v := .agg #[.int .u64 (hI ay), .int .u64 (lI ay)]) (by rfl) ?_ ?_
            · (intro w1 hC; obtain ⟨⟨⟨t0, t1⟩, ⟨y0, y1, -, -, -⟩, -⟩, ⟨x0, x1, x2, x3, x4⟩, ⟨u0, u1, u2, u3, u4⟩⟩ := hXD w1 hC; go_simp; first | done | (simp; done) | (simp [*]; done) | omega | (simp; omega) | (rw [IntKind.wrap_i64]; omega) | (intro hx; omega) | rfl)
            simp only [Act.put, List.setIfInBounds_toArray, List.set_cons_zero, List.set_cons_succ]
            refine q_call (v := .tuple #[.agg #[.int .u64 (hI bx), .int .u64 (lI bx)], .bool true]) (f := 11) (args := #[.int .i64 F, .agg #[.int .u64 (hI ay), .int .u64 (lI ay)]]) (by rfl) ?_ ?_ ?_
            · (intro w1 hC; clear hC; go_simp)
            · exact fun w1 hC => (KN w1).mono fun e w' ⟨he, hb⟩ => ⟨he, hXb w1 _ hC hb⟩
            simp only [Act.put, List.setIfInBounds_toArray, List.set_cons_zero, List.set_cons_succ]
            refine q_run (v := .tuple #[.agg #[.int .u64 (hI bx), .int .u64 (lI bx)], .bool true]) (by rfl) ?_ ?_
            · (intro w1 hC; obtain ⟨⟨⟨t0, t1⟩, ⟨y0, y1, -, -, -⟩, -⟩, ⟨x0, x1, x2, x3, x4⟩, ⟨u0, u1, u2, u3, u4⟩⟩ := hXD w1 hC; go_simp; first | done | (simp; done) | (simp [*]; done) | omega | (simp; omega) | (rw [IntKind.wrap_i64]; omega) | (intro hx; omega) | rfl)
            simp only [Act.put, List.setIfInBounds_toArray, List.set_cons_zero, List.set_cons_succ]
            refine q_run (v := .agg #[.int .u64 (hI bx), .int .u64 (lI bx)]) (by rfl) ?_ ?_
            · (intro w1 hC; obtain ⟨⟨⟨t0, t1⟩, ⟨y0, y1, -, -, -⟩, -⟩, ⟨x0, x1, x2, x3, x4⟩, ⟨u0, u1, u2, u3, u4⟩⟩ := hXD w1 hC; go_simp; first | done | (simp; done) | (simp [*]; done) | omega | (simp; omega) | (rw [IntKind.wrap_i64]; omega) | (intro hx; omega) | rfl)
            simp only [Act.put, List.setIfInBounds_toArray, List.set_cons_zero, List.set_cons_succ]
            refine q_run (v := .bool true) (by rfl) ?_ ?_
            · (intro w1 hC; obtain ⟨⟨⟨t0, t1⟩, ⟨y0, y1, -, -, -⟩, -⟩, ⟨x0, x1, x2, x3, x4⟩, ⟨u0, u1, u2, u3, u4⟩⟩ := hXD w1 hC; go_simp; first | done | (simp; done) | (simp [*]; done) | omega | (simp; omega) | (rw [IntKind.wrap_i64]; omega) | (intro hx; omega) | rfl)
            simp only [Act.put, List.setIfInBounds_toArray, List.set_cons_zero, List.set_cons_succ]
            refine q_run (v := .pointer (some ⟨N, 0, none⟩)) (by rfl) ?_ ?_
            · (intro w1 hC; go_simp)
            simp only [putAll, Act.put, List.setIfInBounds_toArray, List.set_cons_zero, List.set_cons_succ]
            refine q_run (v := undef) (by rfl) ?_ ?_
            · (intro w1 hC; go_simp)
            refine wpQuiet_nil ?_
            simp only [putAll, Act.put, List.setIfInBounds_toArray, List.set_cons_zero, List.set_cons_succ]
          case fin12 =>
            intro N W hC
            have HE := hidR hC
            clear hC HC KN
            simp only [putAll, Act.put, List.setIfInBounds_toArray, List.set_cons_zero, List.set_cons_succ]
            dsimp only [List.drop]
            have HC13 : Hid (CN w5 T0 g j N F (.slice ao l.length c) x ax ay ah bx by' bh W) := hidR ⟨HE.out.1, HE.out.2.1⟩
            clear HE
            go_wp2_with fail
            refine qw_region (C := CN w5 T0 g j N F (.slice ao l.length c) x ax ay ah bx by' bh) (by kernel_rfl) (by kernel_rfl) (HC13.out.below (below_drewN (Below.refl _ _) 1)) ?_
            clear HC13
            refine qw_run (v := .bool true) (by rfl) ?_ ?_
            · (intro w1 hC; obtain ⟨⟨⟨⟨t0, t1⟩, ⟨y0, y1, -, -, -⟩, -⟩, ⟨x0, x1, x2, x3, x4⟩, ⟨u0, u1, u2, u3, u4⟩⟩, ⟨n0, n1, -, -, -⟩⟩ := hC; go_simp; first | done | (simp; done) | (simp [*]; done) | omega | (simp; omega) | (rw [IntKind.wrap_i64]; omega) | (intro hx; omega) | rfl)
            simp only [Act.put, List.setIfInBounds_toArray, List.set_cons_zero, List.set_cons_succ]
            refine qw_run (v := .bool false) (by rfl) ?_ ?_
            · (intro w1 hC; obtain ⟨⟨⟨⟨t0, t1⟩, ⟨y0, y1, -, -, -⟩, -⟩, ⟨x0, x1, x2, x3, x4⟩, ⟨u0, u1, u2, u3, u4⟩⟩, ⟨n0, n1, -, -, -⟩⟩ := hC; go_simp; first | done | (simp; done) | (simp [*]; done) | omega | (simp; omega) | (rw [IntKind.wrap_i64]; omega) | (intro hx; omega) | rfl)
            simp only [Act.put, List.setIfInBounds_toArray, List.set_cons_zero, List.set_cons_succ]
            refine qw_run (v := .bool false) (by rfl) ?_ ?_
            · (intro w1 hC; obtain ⟨⟨⟨⟨t0, t1⟩, ⟨y0, y1, -, -, -⟩, -⟩, ⟨x0, x1, x2, x3, x4⟩, ⟨u0, u1, u2, u3, u4⟩⟩, ⟨n0, n1, -, -, -⟩⟩ := hC; go_simp; first | done | (simp; done) | (simp [*]; done) | omega | (simp; omega) | (rw [IntKind.wrap_i64]; omega) | (intro hx; omega) | rfl)
            simp only [Act.put, List.setIfInBounds_toArray, List.set_cons_zero, List.set_cons_succ]
            refine qw_run (v := .agg #[.int .u64 (hI bx), .int .u64 (lI bx)]) (by rfl) ?_ ?_
            · (intro w1 hC; obtain ⟨⟨⟨⟨t0, t1⟩, ⟨y0, y1, -, -, -⟩, -⟩, ⟨x0, x1, x2, x3, x4⟩, ⟨u0, u1, u2, u3, u4⟩⟩, ⟨n0, n1, -, -, -⟩⟩ := hC; go_simp; first | done | (simp; done) | (simp [*]; done) | omega | (simp; omega) | (rw [IntKind.wrap_i64]; omega) | (intro hx; omega) | rfl)
            simp only [Act.put, List.setIfInBounds_toArray, List.set_cons_zero, List.set_cons_succ]
            refine qw_run (v := .slice (some ⟨g, 0, none⟩) S.length cs) (by rfl) ?_ ?_
            · (intro w1 hC; obtain ⟨⟨⟨⟨t0, t1⟩, ⟨y0, y1, -, -, -⟩, -⟩, ⟨x0, x1, x2, x3, x4⟩, ⟨u0, u1, u2, u3, u4⟩⟩, ⟨n0, n1, -, -, -⟩⟩ := hC; go_simp; first | done | (simp; done) | (simp [*]; done) | omega | (simp; omega) | (rw [IntKind.wrap_i64]; omega) | (intro hx; omega) | rfl)
            simp only [Act.put, List.setIfInBounds_toArray, List.set_cons_zero, List.set_cons_succ]
            refine qw_run (v := .int .i64 ((j : Int) + 1)) (by rfl) ?_ ?_
            · (intro w1 hC; obtain ⟨⟨⟨⟨t0, t1⟩, ⟨y0, y1, -, -, -⟩, -⟩, ⟨x0, x1, x2, x3, x4⟩, ⟨u0, u1, u2, u3, u4⟩⟩, ⟨n0, n1, -, -, -⟩⟩ := hC; go_simp; first | done | (simp; done) | (simp [*]; done) | omega | (simp; omega) | (rw [IntKind.wrap_i64]; omega) | (intro hx; omega) | rfl)
            simp only [Act.put, List.setIfInBounds_toArray, List.set_cons_zero, List.set_cons_succ]
            refine qw_run (v := .pointer (some ⟨g, (j + 1) * 5, none⟩)) (by rfl) ?_ ?_
            · (intro w1 hC; obtain ⟨⟨⟨⟨t0, t1⟩, ⟨y0, y1, -, -, -⟩, -⟩, ⟨x0, x1, x2, x3, x4⟩, ⟨u0, u1, u2, u3, u4⟩⟩, ⟨n0, n1, -, -, -⟩⟩ := hC; go_simp; first | done | (simp; done) | (simp [*]; done) | omega | (simp; omega) | (rw [IntKind.wrap_i64]; omega) | (intro hx; omega) | rfl)
            simp only [Act.put, List.setIfInBounds_toArray, List.set_cons_zero, List.set_cons_succ]
            refine qw_run (v := .pointer (some ⟨g, (j + 1) * 5, none⟩)) (by rfl) ?_ ?_
            · (intro w1 hC; obtain ⟨⟨⟨⟨t0, t1⟩, ⟨y0, y1, -, -, -⟩, -⟩, ⟨x0, x1, x2, x3, x4⟩, ⟨u0, u1, u2, u3, u4⟩⟩, ⟨n0, n1, -, -, -⟩⟩ := hC; go_simp; first | done | (simp; done) | (simp [*]; done) | omega | (simp; omega) | (rw [IntKind.wrap_i64]; omega) | (intro hx; omega) | rfl)
            simp only [Act.put, List.setIfInBounds_toArray, List.set_cons_zero, List.set_cons_succ]
            refine qw_run (v := .agg #[.int .u64 (hI bx), .int .u64 (lI bx)]) (by rfl) ?_ ?_
            · (intro w1 hC; obtain ⟨⟨⟨⟨t0, t1⟩, ⟨y0, y1, -, -, -⟩, -⟩, ⟨x0, x1, x2, x3, x4⟩, ⟨u0, u1, u2, u3, u4⟩⟩, ⟨n0, n1, -, -, -⟩⟩ := hC; go_simp; first | done | (simp; done) | (simp [*]; done) | omega | (simp; omega) | (rw [IntKind.wrap_i64]; omega) | (intro hx; omega) | rfl)
            simp only [Act.put, List.setIfInBounds_toArray, List.set_cons_zero, List.set_cons_succ]
            refine qw_run (v := .bool false) (by rfl) ?_ ?_
            · (intro w1 hC; obtain ⟨⟨⟨⟨t0, t1⟩, ⟨y0, y1, -, -, -⟩, -⟩, ⟨x0, x1, x2, x3, x4⟩, ⟨u0, u1, u2, u3, u4⟩⟩, ⟨n0, n1, -, -, -⟩⟩ := hC; go_simp; first | done | (simp; done) | (simp [*]; done) | omega | (simp; omega) | (rw [IntKind.wrap_i64]; omega) | (intro hx; omega) | rfl)
            simp only [Act.put, List.setIfInBounds_toArray, List.set_cons_zero, List.set_cons_succ]
            refine qw_run (v := .bool false) (by rfl) ?_ ?_
            · (intro w1 hC; obtain ⟨⟨⟨⟨t0, t1⟩, ⟨y0, y1, -, -, -⟩, -⟩, ⟨x0, x1, x2, x3, x4⟩, ⟨u0, u1, u2, u3, u4⟩⟩, ⟨n0, n1, -, -, -⟩⟩ := hC; go_simp; first | done | (simp; done) | (simp [*]; done) | omega | (simp; omega) | (rw [IntKind.wrap_i64]; omega) | (intro hx; omega) | rfl)
            simp only [Act.put, List.setIfInBounds_toArray, List.set_cons_zero, List.set_cons_succ]
            refine qw_run (v := .bool false) (by rfl) ?_ ?_
            · (intro w1 hC; obtain ⟨⟨⟨⟨t0, t1⟩, ⟨y0, y1, -, -, -⟩, -⟩, ⟨x0, x1, x2, x3, x4⟩, ⟨u0, u1, u2, u3, u4⟩⟩, ⟨n0, n1, -, -, -⟩⟩ := hC; go_simp; first | done | (simp; done) | (simp [*]; done) | omega | (simp; omega) | (rw [IntKind.wrap_i64]; omega) | (intro hx; omega) | rfl)
            simp only [Act.put, List.setIfInBounds_toArray, List.set_cons_zero, List.set_cons_succ]
            refine qw_run (v := .slice (some ⟨g, 0, none⟩) S.length cs) (by rfl) ?_ ?_
            · (intro w1 hC; obtain ⟨⟨⟨⟨t0, t1⟩, ⟨y0, y1, -, -, -⟩, -⟩, ⟨x0, x1, x2, x3, x4⟩, ⟨u0, u1, u2, u3, u4⟩⟩, ⟨n0, n1, -, -, -⟩⟩ := hC; go_simp; first | done | (simp; done) | (simp [*]; done) | omega | (simp; omega) | (rw [IntKind.wrap_i64]; omega) | (intro hx; omega) | rfl)
            simp only [Act.put, List.setIfInBounds_toArray, List.set_cons_zero, List.set_cons_succ]
            refine qw_run (v := .int .i64 ((j : Int) + 1)) (by rfl) ?_ ?_
            · (intro w1 hC; obtain ⟨⟨⟨⟨t0, t1⟩, ⟨y0, y1, -, -, -⟩, -⟩, ⟨x0, x1, x2, x3, x4⟩, ⟨u0, u1, u2, u3, u4⟩⟩, ⟨n0, n1, -, -, -⟩⟩ := hC; go_simp; first | done | (simp; done) | (simp [*]; done) | omega | (simp; omega) | (rw [IntKind.wrap_i64]; omega) | (intro hx; omega) | rfl)
            simp only [Act.put, List.setIfInBounds_toArray, List.set_cons_zero, List.set_cons_succ]
            refine qw_run (v := .pointer (some ⟨g, (j + 1) * 5, none⟩)) (by rfl) ?_ ?_
            · (intro w1 hC; obtain ⟨⟨⟨⟨t0, t1⟩, ⟨y0, y1, -, -, -⟩, -⟩, ⟨x0, x1, x2, x3, x4⟩, ⟨u0, u1, u2, u3, u4⟩⟩, ⟨n0, n1, -, -, -⟩⟩ := hC; go_simp; first | done | (simp; done) | (simp [*]; done) | omega | (simp; omega) | (rw [IntKind.wrap_i64]; omega) | (intro hx; omega) | rfl)
            simp only [Act.put, List.setIfInBounds_toArray, List.set_cons_zero, List.set_cons_succ]
            refine qw_run (v := .pointer (some ⟨g, (j + 1) * 5 + 4, none⟩)) (by rfl) ?_ ?_
            · (intro w1 hC; obtain ⟨⟨⟨⟨t0, t1⟩, ⟨y0, y1, -, -, -⟩, -⟩, ⟨x0, x1, x2, x3, x4⟩, ⟨u0, u1, u2, u3, u4⟩⟩, ⟨n0, n1, -, -, -⟩⟩ := hC; go_simp; first | done | (simp; done) | (simp [*]; done) | omega | (simp; omega) | (rw [IntKind.wrap_i64]; omega) | (intro hx; omega) | rfl)
            simp only [Act.put, List.setIfInBounds_toArray, List.set_cons_zero, List.set_cons_succ]
            refine qw_run (v := .int .i64 bh) (by rfl) ?_ ?_
            · (intro w1 hC; obtain ⟨⟨⟨⟨t0, t1⟩, ⟨y0, y1, -, -, -⟩, -⟩, ⟨x0, x1, x2, x3, x4⟩, ⟨u0, u1, u2, u3, u4⟩⟩, ⟨n0, n1, -, -, -⟩⟩ := hC; go_simp; first | done | (simp; done) | (simp [*]; done) | omega | (simp; omega) | (rw [IntKind.wrap_i64]; omega) | (intro hx; omega) | rfl)
            simp only [Act.put, List.setIfInBounds_toArray, List.set_cons_zero, List.set_cons_succ]
            refine qw_run (v := .slice (some ⟨g, 0, none⟩) S.length cs) (by rfl) ?_ ?_
            · (intro w1 hC; obtain ⟨⟨⟨⟨t0, t1⟩, ⟨y0, y1, -, -, -⟩, -⟩, ⟨x0, x1, x2, x3, x4⟩, ⟨u0, u1, u2, u3, u4⟩⟩, ⟨n0, n1, -, -, -⟩⟩ := hC; go_simp; first | done | (simp; done) | (simp [*]; done) | omega | (simp; omega) | (rw [IntKind.wrap_i64]; omega) | (intro hx; omega) | rfl)
            simp only [Act.put, List.setIfInBounds_toArray, List.set_cons_zero, List.set_cons_succ]
            refine qw_run (v := .int .i64 ((j : Int) + 1)) (by rfl) ?_ ?_
            · (intro w1 hC; obtain ⟨⟨⟨⟨t0, t1⟩, ⟨y0, y1, -, -, -⟩, -⟩, ⟨x0, x1, x2, x3, x4⟩, ⟨u0, u1, u2, u3, u4⟩⟩, ⟨n0, n1, -, -, -⟩⟩ := hC; go_simp; first | done | (simp; done) | (simp [*]; done) | omega | (simp; omega) | (rw [IntKind.wrap_i64]; omega) | (intro hx; omega) | rfl)
            simp only [Act.put, List.setIfInBounds_toArray, List.set_cons_zero, List.set_cons_succ]
            refine qw_run (v := .int .i64 (j : Int)) (by rfl) ?_ ?_
            · (intro w1 hC; obtain ⟨⟨⟨⟨t0, t1⟩, ⟨y0, y1, -, -, -⟩, -⟩, ⟨x0, x1, x2, x3, x4⟩, ⟨u0, u1, u2, u3, u4⟩⟩, ⟨n0, n1, -, -, -⟩⟩ := hC; go_simp; first | done | (simp; done) | (simp [*]; done) | omega | (simp; omega) | (rw [IntKind.wrap_i64]; omega) | (intro hx; omega) | rfl)
            simp only [Act.put, List.setIfInBounds_toArray, List.set_cons_zero, List.set_cons_succ]
            refine qw_run (v := .pointer (some ⟨g, j * 5, none⟩)) (by rfl) ?_ ?_
            · (intro w1 hC; obtain ⟨⟨⟨⟨t0, t1⟩, ⟨y0, y1, -, -, -⟩, -⟩, ⟨x0, x1, x2, x3, x4⟩, ⟨u0, u1, u2, u3, u4⟩⟩, ⟨n0, n1, -, -, -⟩⟩ := hC; go_simp; first | done | (simp; done) | (simp [*]; done) | omega | (simp; omega) | (rw [IntKind.wrap_i64]; omega) | (intro hx; omega) | rfl)
            simp only [Act.put, List.setIfInBounds_toArray, List.set_cons_zero, List.set_cons_succ]
            refine qw_run (v := .pointer (some ⟨g, j * 5 + 4, none⟩)) (by rfl) ?_ ?_
            · (intro w1 hC; obtain ⟨⟨⟨⟨t0, t1⟩, ⟨y0, y1, -, -, -⟩, -⟩, ⟨x0, x1, x2, x3, x4⟩, ⟨u0, u1, u2, u3, u4⟩⟩, ⟨n0, n1, -, -, -⟩⟩ := hC; go_simp; first | done | (simp; done) | (simp [*]; done) | omega | (simp; omega) | (rw [IntKind.wrap_i64]; omega) | (intro hx; omega) | rfl)
            simp only [Act.put, List.setIfInBounds_toArray, List.set_cons_zero, List.set_cons_succ]
            refine qw_run (v := .int .i64 ah) (by rfl) ?_ ?_
            · (intro w1 hC; obtain ⟨⟨⟨⟨t0, t1⟩, ⟨y0, y1, -, -, -⟩, -⟩, ⟨x0, x1, x2, x3, x4⟩, ⟨u0, u1, u2, u3, u4⟩⟩, ⟨n0, n1, -, -, -⟩⟩ := hC; go_simp; first | done | (simp; done) | (simp [*]; done) | omega | (simp; omega) | (rw [IntKind.wrap_i64]; omega) | (intro hx; omega) | rfl)
            simp only [Act.put, List.setIfInBounds_toArray, List.set_cons_zero, List.set_cons_succ]
            refine qw_run (v := .bool false) (by rfl) ?_ ?_
            · (intro w1 hC; obtain ⟨⟨⟨⟨t0, t1⟩, ⟨y0, y1, -, -, -⟩, -⟩, ⟨x0, x1, x2, x3, x4⟩, ⟨u0, u1, u2, u3, u4⟩⟩, ⟨n0, n1, -, -, -⟩⟩ := hC; go_simp; first | done | (simp; done) | (simp [*]; done) | omega | (simp; omega) | (rw [IntKind.wrap_i64]; omega) | (intro hx; omega) | rfl)
            simp only [Act.put, List.setIfInBounds_toArray, List.set_cons_zero, List.set_cons_succ]
            refine qw_run (v := .bool false) (by rfl) ?_ ?_
            · (intro w1 hC; obtain ⟨⟨⟨⟨t0, t1⟩, ⟨y0, y1, -, -, -⟩, -⟩, ⟨x0, x1, x2, x3, x4⟩, ⟨u0, u1, u2, u3, u4⟩⟩, ⟨n0, n1, -, -, -⟩⟩ := hC; go_simp; first | done | (simp; done) | (simp [*]; done) | omega | (simp; omega) | (rw [IntKind.wrap_i64]; omega) | (intro hx; omega) | rfl)
            simp only [Act.put, List.setIfInBounds_toArray, List.set_cons_zero, List.set_cons_succ]
            refine qw_nil ?_
            intro W9 hC9
            have HC9 := hidR hC9.1.1
            clear hC9 hEb
            go_wp2
            go_roundw
            case rel => exact ⟨j + 1 + 1, by omega, by omega, by simp, HC9⟩
            case measure => simp [intOf]; omega
        · have hd5 : ¬ k5 < S.length := by omega
          have HB := hidR (keepb HC0.out.2.2 (show Below w.heap.size w w5 by rw [hT0]; exact HB5.out))
          have HSw := hidR (own_bel7 HS5.out HC0.out.2.2)
          obtain ⟨⟨t0, t1⟩, ⟨y0, y1, -⟩, -⟩ := HC0.out
          have k7 := K7 wr _ (own_rwg HSw.out)
          clear hk5 hk6 HS5 HNx HB5 K7
          go_wp2_with fail
          refine k7.mono ?_
          rintro e w8 ⟨rfl, hb⟩
          have HB8 := hidR (keepb hb HB.out)
          have HC8 := hidR (HC0.out.below hb)
          have HS8 := hidR (own_bel7 HSw.out hb)
          have k4 := K4 w8 (HV.out.below HB8.out)
          clear hb k7 K4 HB HC0 HSw t0 t1 y0 y1
          obtain ⟨⟨t0, t1⟩, ⟨y0, y1, -⟩, -⟩ := HC8.out
          go_wp2_with fail
          refine k4.mono ?_
          rintro e w9 ⟨rfl, hb⟩
          have HB9 := hidR (keepb hb HB8.out)
          have HC9 := hidR (HC8.out.below hb)
          have HS9 := hidR (own_bel7 HS8.out hb)
          have k2 := K2 w9 _ (HTb.out.keep HB9.out) (own_rwg HS9.out)
          clear hb k4 K2 HB8 HC8 HS8 t0 t1 y0 y1
          obtain ⟨⟨t0, t1⟩, ⟨y0, y1, -⟩, -⟩ := HC9.out
          go_wp2_with fail
          refine k2.mono ?_
          rintro e w10 ⟨⟨vr, rfl, hr⟩, hb⟩
          obtain ⟨ar, cr, rfl⟩ := own_form hr
          have b6 := bl1 w10 (.cells #[.int .i64 F, .slice ar R.length cr] 24)
          have HB11 := hidR (keepb b6 (keepb hb HB9.out))
          have HC11 := hidR ((HC9.out.below hb).below b6)
          have HS11 := hidR (own_bel7 (own_bel7 HS9.out hb) b6)
          have HR11 := hidR (own_bel7 hr b6)
          have HA11 := hidR (att_new w10 w10.heap.size F (.slice ar R.length cr) 24 rfl)
          clear hb hr b6 k2 HB9 HC9 HS9 t0 t1 y0 y1
          generalize hw11 : w10.alloc (.cells #[.int .i64 F, .slice ar R.length cr] 24) = w11 at *
          generalize hU : w10.heap.size = U at *
          have k3 := K3 w11 _ (own_rwr HR11.out)
          obtain ⟨s0, s1⟩ := HA11.out
          go_wp2_with fail
          try rw [hw11]
          try rw [hU]
          refine k3.mono ?_
          rintro e w12 ⟨⟨vm, rfl, hm⟩, hb⟩
          obtain ⟨am, cm, rfl⟩ := own_form hm
          have HB12 := hidR (keepb hb HB11.out)
          have HC12 := hidR (HC11.out.below hb)
          have HR12 := hidR (own_bel7 HR11.out hb)
          have HA12 := hidR (HA11.out.below hb)
          have k8 := K8 w12 _ _ (own_rwg (own_bel7 HS11.out hb)) (own_rwg hm)
          clear hb hm k3 K3 K8 HB11 HC11 HS11 HR11 HA11 s0 s1
          go_wp2_with fail
          refine k8.mono ?_
          rintro e w13 ⟨rfl, hb⟩
          have HB13 := hidR (keepb hb HB12.out)
          have HC13 := hidR (HC12.out.below hb)
          have HR13 := hidR (own_bel7 HR12.out hb)
          have HA13 := hidR (HA12.out.below hb)
          have k6 := K6 w13 _ (own_rwr HR13.out)
          clear hb k8 K6 HB12 HC12 HR12 HA12
          obtain ⟨s0, s1⟩ := HA13.out
          go_wp2_with fail
          refine k6.mono ?_
          rintro e w14 ⟨rfl, hb⟩
          have HB14 := hidR (keepb hb HB13.out)
          have HC14 := hidR (HC13.out.below hb)
          have HA14 := hidR (HA13.out.below hb)
          have k5 := K5 w14 _ (own_rwr (own_bel7 HR13.out hb))
          clear hb k6 K5 HB13 HC13 HR13 HA13 s0 s1
          obtain ⟨s0, s1⟩ := HA14.out
          obtain ⟨-, ⟨y0, y1, -⟩, -⟩ := HC14.out
          go_wp2_with fail
          refine k5.mono ?_
          rintro e w15 ⟨rfl, hb⟩
          have HB15 := hidR (keepb hb HB14.out)
          clear hb k5
          go_wp2
          go_ret
          first | exact ⟨rfl, HB15.out⟩ | (rw [← hT0]; exact ⟨rfl, HB15.out⟩)
end Go.Proofs.YtmkjlcfoedglmaaDoor
