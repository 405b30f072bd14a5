/-
  Part 15 of the proof: 1 texts, one behind the other.
-/
import Derived.Test.YtiachojhnbicaabDoorPart7
import Derived.Test.YtiachojhnbicaabDoorPart5
import Derived.Test.YtiachojhnbicaabDoorPart3
import Derived.Lib.SlBytesConst
import Derived.Lib.SmallJoins
namespace Go.Proofs.YtiachojhnbicaabDoor
open Go.RowKit Go.Shelf
set_option linter.unusedSimpArgs false
set_option linter.unusedVariables false
attribute [local go_sem] Oper.semAt_some

theorem crS_lt21 (l : List Nat) : (crS l).toNat < 4294967296 := (crS l).isLt
structure RB21 (base : Nat) (w0 : World) (PB : Nat) (cs : Array Value) (ns : Array Value) (O O1 O2 : List Nat) (vo : Value) (f0 f11 f12 f15 f16 : Bool) (g : (Nat × Value) × (Value × Value)) (X : World) : Prop where
  b : Below base w0 X
  s : base ≤ X.heap.size
  c : X.heap[PB]? = some (.cells cs 38)
  d0 : f12 = false → X.ownsRow base 5 1 vo O.length (O.map cB)
  d11 : f11 = true → X.heap[g.1.1]? = some (.cells ns 31)
  d12 : f12 = true → f15 = false → X.ownsRow base 5 1 g.1.2 O1.length (O1.map cB)
  d15 : f15 = true → X.ownsRow base 5 1 g.2.1 O2.length (O2.map cB)
  d16 : f16 = true → X.ownsRow base 5 1 g.2.2 O2.length (O2.map cB)
  p1 : f16 = true → f15 = true
  p2 : f15 = true → f12 = true
  p3 : f12 = true → f11 = true
  p4 : f12 = true → f0 = true
set_option maxRecDepth 100000 in
set_option maxHeartbeats 32000000 in
theorem bytes21 (u : Value) (a : List Nat) (v : Value) (L : List Pt) (w : World) (hA : RwX cB w u a) (hx : ∀ z ∈ a, z < 256) (hv : PtR21 w v L) (hpb : ∀ p ∈ L, ∀ z ∈ p.x, z < 256) (ha : a.length < 4294967296) (hl : L.length < 4294967296) (hw : wt21 L < 4294967296) (hT : Hf w) :
    Calls Tryd.prog 5 #[u, v] w fun e w' => ∃ v', e = .returned (.tuple #[v', .int .i64 (byE a L)]) ∧ w'.ownsRow w.heap.size 5 1 v' (byB a L).length ((byB a L).map cB) ∧ Below w.heap.size w w' := by
  obtain ⟨i0, ji, jz0, jz1, jz2⟩ := info13 Tryd.infoB13
  obtain ⟨uo, uc, huf, huc, -⟩ := id hA
  obtain ⟨ao, c, hvf, -⟩ := id hv
  subst huf hvf
  have K1 := mayBe21 a.length (.slice ao L.length c) L w ha hv hl hw
  have HA := hid13 (And.intro hA hx)
  have HT := hid13 hv
  have HTb := hid13 hT
  have HPb := hid13 hpb
  have HL : Hid (a.length < 4294967296 ∧ L.length < 4294967296 ∧ wt21 L < 4294967296) := ⟨ha, hl, hw⟩
  clear hA hv hl hw huc ha hx hT hpb
  cases hfb : fitB (a.length : Int) L with
  | false =>
    have HE : Hid (byE a L = 33 ∧ byB a L = []) := ⟨by unfold byE; rw [hfb]; rfl, by unfold byB; rw [hfb]; rfl⟩
    rw [hfb] at K1
    simp only [Bool.false_eq_true, if_false] at K1
    rw [HE.out.1, HE.out.2]
    clear hfb
    go_enter Tryd.func5, Tryd.ntmps5
    go_wp2_with fail
    refine K1.mono ?_
    rintro e w1 ⟨rfl, hb⟩
    have HB1 := hid13 hb
    clear hb K1
    go_wp2
    exact bodyPost_ret (v := .tuple #[.slice none 0 0, .int .i64 33]) (by simp [results, Tryd.results5, go_sem, *]) rfl ⟨_, rfl, World.ownsRow_nil _ _ _ _, HB1.out⟩
  | true =>
    have HF : Hid (fitB (a.length : Int) L = true) := hfb
    have HPl : Hid (∀ p ∈ L, p.k.toNat < 4294967296 ∧ p.d.toNat < 4294967296 ∧ p.x.length < 4294967296) := by
      intro p hp
      obtain ⟨j, hj⟩ := List.getElem?_of_mem hp
      obtain ⟨m, hm⟩ := ftS_some j hfb
      have h1 := (ftS_ok hfb hj hm).1
      have h2 := ftS_bd (Int.natCast_nonneg a.length) _ _ hm
      have h3 := len_le_wt21 hj
      have h4 := HL.out
      obtain ⟨o1, o2, o3, o4⟩ := h1
      exact ⟨by omega, by omega, by omega⟩
    have HE : Hid (byE a L = 0 ∧ byB a L = bySum (byS a L.length L)) := ⟨by unfold byE; rw [hfb]; rfl, by unfold byB; rw [hfb]; rfl⟩
    rw [hfb] at K1
    simp only [if_true] at K1
    rw [HE.out.1]
    clear hfb
    go_enter Tryd.func5, Tryd.ntmps5
    go_wp2_with fail
    refine K1.mono ?_
    rintro e w1 ⟨rfl, hb⟩
    have HB1 := hid13 hb
    clear hb K1
    have c1 : IntKind.u32.wrap (a.length : Int) = (a.length : Int) := by rw [IntKind.wrap_u32]; have := HL.out; omega
    have c2 : IntKind.u32.wrap (L.length : Int) = (L.length : Int) := by rw [IntKind.wrap_u32]; have := HL.out; omega
    have kc1 := Go.Joins.run_convert_bytes_const_at (P := Tryd.prog) w1 22 5 #[.int .u8 84, .int .u8 80, .int .u8 68, .int .u8 49] 4 4 w1.heap.size rfl Tryd.underlying22 Tryd.underlying5
    have q1 := bl1 w1 (.cells #[.int .u8 84, .int .u8 80, .int .u8 68, .int .u8 49] 5 (4, 5))
    have o1 := lit_rwx21 (f := cB) w1 #[.int .u8 84, .int .u8 80, .int .u8 68, .int .u8 49] 5 (4, 5) [84, 80, 68, 49] rfl
    have q2 := bl1 (w1.alloc (.cells #[.int .u8 84, .int .u8 80, .int .u8 68, .int .u8 49] 5 (4, 5))) (.cells #[.slice uo a.length uc] 22)
    obtain ⟨w2, hw2⟩ : ∃ w2, w2 = (w1.alloc (.cells #[.int .u8 84, .int .u8 80, .int .u8 68, .int .u8 49] 5 (4, 5))).alloc (.cells #[.slice uo a.length uc] 22) := ⟨_, rfl⟩
    have hcell : w2.cell? ⟨w1.heap.size + 1, 0, none⟩ = some (.slice uo a.length uc) := by
      have := at_16 (new_16 (w1.alloc (.cells #[.int .u8 84, .int .u8 80, .int .u8 68, .int .u8 49] 5 (4, 5))) (.cells #[.slice uo a.length uc] 22)) 0 _ rfl
      rw [← hw2] at this
      have e : (w1.alloc (.cells #[.int .u8 84, .int .u8 80, .int .u8 68, .int .u8 49] 5 (4, 5))).heap.size = w1.heap.size + 1 := by simp
      rw [e] at this
      exact this
    rw [← hw2] at q2
    have hb2 : Below w.heap.size w w2 := keepb q2 (keepb q1 HB1.out)
    have K2 := sum_one hcell (HA.out.1.below hb2) (by have := HL.out; omega) HA.out.2 (HTb.out.below hb2)
    have ho2 := o1.below q2
    have HB2 := hid13 hb2
    have HO2 := hid13 (And.intro ho2 (ho2.row (fun h => by cases h)))
    have HW2 : Hid (w2 = (w1.alloc (.cells #[.int .u8 84, .int .u8 80, .int .u8 68, .int .u8 49] 5 (4, 5))).alloc (.cells #[.slice uo a.length uc] 22)) := hw2
    clear q1 o1 q2 hw2 hcell hb2 ho2
    go_wp2_with fail
    rw [← HW2.out]
    refine K2.mono ?_
    rintro e w3 ⟨rfl, hw3⟩
    replace hw3 := hw3.symm
    subst hw3
    obtain ⟨sa, hsa⟩ : ∃ sa : Nat, (sa : Int) = uI (crS a) ∧ sa = (crS a).toNat := ⟨(crS a).toNat, by rw [uI_eq], rfl⟩
    have HSa : Hid (sa = (crS a).toNat) := hsa.2
    rw [← hsa.1]
    clear hsa K2
    have q3 := bl1 w2 (.cells #[.int .u32 (a.length : Int), .int .u32 (sa : Int), .int .u32 (L.length : Int)] 31)
    obtain ⟨w3, hw3⟩ : ∃ w3, w3 = w2.alloc (.cells #[.int .u32 (a.length : Int), .int .u32 (sa : Int), .int .u32 (L.length : Int)] 31) := ⟨_, rfl⟩
    have hnb : w3.heap[w2.heap.size]? = some (.cells #[.int .u32 (a.length : Int), .int .u32 (sa : Int), .int .u32 (L.length : Int)] 31) := by rw [hw3]; exact new_16 _ _
    rw [← hw3] at q3
    have HB3 := hid13 (keepb q3 HB2.out)
    have K3 := laid21 w.heap.size (.slice (some ⟨w1.heap.size, 0, none⟩) 4 4) [84, 80, 68, 49] w2.heap.size _ [a.length, sa, L.length] w3 (.inr ⟨⟨_, rfl⟩, HO2.out.2.below q3⟩) HB3.out.size hnb rfl (by show 3 ≤ 1000; decide) (by
      intro n hn
      have := HL.out
      have := crS_lt21 a
      have := HSa.out
      simp only [List.mem_cons, List.mem_nil_iff, or_false] at hn
      rcases hn with rfl | rfl | rfl <;> omega) (by decide)
    have HW3 : Hid (w3 = w2.alloc (.cells #[.int .u32 (a.length : Int), .int .u32 (sa : Int), .int .u32 (L.length : Int)] 31)) := hw3
    have HP : Hid (ld21 [84, 80, 68, 49] [a.length, sa, L.length] = byH a L.length) := by show _ = _; unfold byH; rw [HSa.out]
    rw [HP.out] at K3
    clear q3 hnb hw3 HO2 HP HSa
    go_wp2_with fail
    rw [← HW3.out]
    refine K3.mono ?_
    rintro e w4 ⟨v4, rfl, -, ho4, hb4, -⟩
    have HB4 : Hid (Below w.heap.size w w4) := hid13 (HB3.out.trans hb4)
    have HO4 := hid13 (ho4 (by show 0 < 3; decide))
    obtain ⟨o4, k4, hv4⟩ := own_form HO4.out
    subst hv4
    clear K3 ho4 hb4 HB3 HW3 HW2 HB2 HB1 kc1 c1 c2
    go_wp2
    go_loopg [7, 32] L.length (fun g vo x wr => ∃ (k : Nat) (O : List Nat) (oo : Option Addr) (oc : Nat), k + g = L.length ∧ vo = .slice oo O.length oc ∧ x = .int .i64 (k : Int) ∧ Hid (O = byS a L.length (L.take k)) ∧ Hid (wr.ownsRow w.heap.size 5 1 (.slice oo O.length oc) O.length (O.map cB)) ∧ Hid (Below w.heap.size w wr))
    case atStart => exact ⟨0, byH a L.length, o4, k4, by omega, rfl, rfl, rfl, HO4.out, HB4.out⟩
    case round =>
      clear HB4 HO4
      obtain ⟨k, O, oo, oc, hk, rfl, rfl, HS, HO, HB⟩ := hrel
      have hol : O.length = 16 + 12 * (L.take k).length + wt21 (L.take k) := by rw [HS.out]; exact byS_len _ _ _
      have hwl := wt21_le (L := L) k
      have HOl : Hid (O.length ≤ 70000000000) := by
        show _ ≤ _
        have := HL.out
        rw [List.length_take] at hol
        omega
      by_cases hlt : k < L.length
      rotate_left 1
      · have l1 : ¬ (k : Int) < (L.length : Int) := by omega
        have HEa : Hid (O = byS a L.length L) := by
          have := HS.out
          rw [List.take_of_length_le (by omega)] at this
          exact this
        have HOx : Hid (∀ z ∈ O, z < 256) := by rw [HEa.out]; exact byS_lt _ _ _ HPb.out (by have := HL.out; omega) (by have := HL.out; omega) (fun p hp => HPl.out p hp)
        clear hlt hk hol hwl
        have q5 := bl1 wr (.cells #[.slice oo O.length oc] 22)
        obtain ⟨w5, hw5⟩ : ∃ w5, w5 = wr.alloc (.cells #[.slice oo O.length oc] 22) := ⟨_, rfl⟩
        have hcell : w5.cell? ⟨wr.heap.size, 0, none⟩ = some (.slice oo O.length oc) := by rw [hw5]; exact at_16 (new_16 _ _) 0 _ rfl
        rw [← hw5] at q5
        have hb5 : Below w.heap.size w w5 := keepb q5 HB.out
        have ho5 := own_b13 q5 HO.out
        have K5 := sum_one hcell (own_rwx ho5) (by have := HOl.out; omega) HOx.out (HTb.out.below hb5)
        have HW5 : Hid (w5 = wr.alloc (.cells #[.slice oo O.length oc] 22)) := hw5
        have HB5 := hid13 hb5
        have HO5 := hid13 ho5
        clear q5 hw5 hcell hb5 ho5
        go_wp2_with fail
        rw [← HW5.out]
        refine K5.mono ?_
        rintro e w6 ⟨rfl, hw6⟩
        replace hw6 := hw6.symm
        subst hw6
        obtain ⟨sa, hsa⟩ : ∃ sa : Nat, (sa : Int) = uI (crS O) ∧ sa = (crS O).toNat := ⟨(crS O).toNat, by rw [uI_eq], rfl⟩
        have HSa : Hid (sa = (crS O).toNat) := hsa.2
        rw [← hsa.1]
        clear hsa K5
        have q6 := bl1 w5 (.cells #[.int .u32 (sa : Int)] 31)
        obtain ⟨w6, hw6⟩ : ∃ w6, w6 = w5.alloc (.cells #[.int .u32 (sa : Int)] 31) := ⟨_, rfl⟩
        have hnb : w6.heap[w5.heap.size]? = some (.cells #[.int .u32 (sa : Int)] 31) := by rw [hw6]; exact new_16 _ _
        rw [← hw6] at q6
        have HB6 := hid13 (keepb q6 HB5.out)
        have K6 := laid21 w.heap.size (.slice oo O.length oc) O w5.heap.size _ [sa] w6 (.inl (own_b13 q6 HO5.out)) HB6.out.size hnb rfl (by show 1 ≤ 1000; decide) (by
          intro n hn
          have := crS_lt21 O
          have := HSa.out
          simp only [List.mem_cons, List.mem_nil_iff, or_false] at hn
          rcases hn with rfl
          omega) (by have := HOl.out; omega)
        have HW6 : Hid (w6 = w5.alloc (.cells #[.int .u32 (sa : Int)] 31)) := hw6
        have HP : Hid (ld21 O [sa] = byB a L) := by show _ = _; rw [HE.out.2, ← HEa.out]; unfold bySum; rw [HSa.out]
        rw [HP.out] at K6
        clear q6 hnb hw6 HO5 HB5 HP HSa
        go_wp2_with fail
        rw [← HW6.out]
        refine K6.mono ?_
        rintro e w7 ⟨v7, rfl, -, ho7, hb7, -⟩
        have HB7 : Hid (Below w.heap.size w w7) := hid13 (HB6.out.trans hb7)
        have HO7 := hid13 (ho7 (by show 0 < 1; decide))
        clear K6 ho7 hb7 HB6 HW6
        go_wp2
        exact bodyPost_ret (v := .tuple #[v7, .int .i64 0]) (by simp [results, Tryd.results5, go_sem, *]) rfl ⟨_, rfl, HO7.out, HB7.out⟩
      have l1 : (k : Int) < (L.length : Int) := by omega
      obtain ⟨p, hp⟩ : ∃ p, L[k]? = some p := ⟨L[k], by simp [hlt]⟩
      obtain ⟨b1, f1, xo, xc, hao, r0, r1, r2, -, hpx⟩ := ptr_at (HT.out.below HB.out) hp
      subst hao
      obtain ⟨m, hm⟩ := ftS_some k HF.out
      obtain ⟨hok, hnx⟩ := ftS_ok HF.out hp hm
      have hmb := ftS_bd (Int.natCast_nonneg a.length) _ _ hm
      have hpx0 : RowA w 1 (.slice xo p.x.length xc) p.x.length (p.x.map cB) := by
        obtain ⟨b2, f2, yo, yc, e1, -, -, q2, -, q3⟩ := ptr_at HT.out hp
        have q4 := keepc HB.out q2
        injection e1 with e1
        injection e1 with e1 e2
        subst e1 e2
        rw [r2] at q4
        injection q4 with q4
        injection q4 with q5 q6 q7
        subst q5 q7
        exact q3
      obtain ⟨kp, hkp⟩ : ∃ z : Nat, p.k = (z : Int) := ⟨p.k.toNat, by have := hok.1; omega⟩
      obtain ⟨dp, hdp⟩ : ∃ z : Nat, p.d = (z : Int) := ⟨p.d.toNat, by have := hok.2.2.1; omega⟩
      have hxl := len_le_wt21 hp
      have c3 : IntKind.u32.wrap (kp : Int) = (kp : Int) := by rw [IntKind.wrap_u32]; have := HL.out; have := hok.2.1; omega
      have c4 : IntKind.u32.wrap (dp : Int) = (dp : Int) := by rw [IntKind.wrap_u32]; have := HL.out; have := hok.2.1; have := hok.1; have := hok.2.2.2; omega
      have c5 : IntKind.u32.wrap (p.x.length : Int) = (p.x.length : Int) := by rw [IntKind.wrap_u32]; have := HL.out; omega
      have HNs : Hid (∀ n ∈ [kp, dp, p.x.length], n < 4294967296) := by
        intro n hn
        have := HL.out
        obtain ⟨o1, o2, o3, o4⟩ := hok
        simp only [List.mem_cons, List.mem_nil_iff, or_false] at hn
        rcases hn with rfl | rfl | rfl <;> omega
      obtain ⟨O1, hO1⟩ : ∃ O1, O1 = ld21 O [kp, dp, p.x.length] := ⟨_, rfl⟩
      obtain ⟨O2, hO2⟩ : ∃ O2, O2 = O1 ++ p.x := ⟨_, rfl⟩
      have HO12 : Hid (O1 = ld21 O [kp, dp, p.x.length] ∧ O2 = O1 ++ p.x ∧ O1.length + p.x.length = O2.length ∧ O2 = byS a L.length (L.take (k + 1)) ∧ O1.length ≤ 80000000000 ∧ p.x.length < 4294967296) := by
        refine ⟨hO1, hO2, by rw [hO2, List.length_append], ?_, ?_, by have := HL.out; omega⟩
        · rw [byS_take hp, ← HS.out, hO2, hO1]
          unfold byF
          rw [hkp, hdp, Int.toNat_natCast, Int.toNat_natCast]
        · rw [hO1, ld21_len]
          have := HOl.out
          show O.length + 4 * 3 ≤ _
          omega
      rw [hkp] at r0
      rw [hdp] at r1
      have wk : IntKind.i64.wrap ((k : Int) + 1) = (k : Int) + 1 := by rw [IntKind.wrap_i64]; have := HL.out; omega
      have HX2 : Hid (RowA w 1 (.slice xo p.x.length xc) p.x.length (p.x.map cB)) := hpx0
      have HK : Hid (k < L.length ∧ k + gk = L.length) := ⟨hlt, hk⟩
      have q1 := bl1 wr (.cells #[.int .i64 (kp : Int), .int .i64 (dp : Int), .slice xo p.x.length xc] 38)
      obtain ⟨W1, hW1⟩ : ∃ W1, W1 = wr.alloc (.cells #[.int .i64 (kp : Int), .int .i64 (dp : Int), .slice xo p.x.length xc] 38) := ⟨_, rfl⟩
      have hcb : W1.heap[wr.heap.size]? = some (.cells #[.int .i64 (kp : Int), .int .i64 (dp : Int), .slice xo p.x.length xc] 38) := by rw [hW1]; exact new_16 _ _
      rw [← hW1] at q1
      have HR0 : Hid (RB21 w.heap.size w wr.heap.size #[.int .i64 (kp : Int), .int .i64 (dp : Int), .slice xo p.x.length xc] #[.int .u32 (kp : Int), .int .u32 (dp : Int), .int .u32 (p.x.length : Int)] O O1 O2 (.slice oo O.length oc) false false false false false ((0, undef), (undef, undef)) W1.drew) := by
        have q2 := (keepb q1 HB.out)
        exact ⟨q2.drew, q2.drew.size, hcb, fun _ => own_b13 (q1.trans (Below.refl _ _).drew) HO.out, fun q => (by cases q), fun q => (by cases q), fun q => (by cases q), fun q => (by cases q), fun q => (by cases q), fun q => (by cases q), fun q => (by cases q), fun q => (by cases q)⟩
      clear hp hlt hk HS HO hok hnx hpx hpx0 hkp hdp hm hmb hxl hol hwl q1 hcb hO1 hO2 HF
      go_wp2_with fail
      rw [← hW1]
      clear hW1 HB
      refine gh_region (γ := (Nat × Value) × (Value × Value)) (qpOk 17 17 (by decide) (fun N => by kernel_rfl) (by kernel_rfl) (by kernel_rfl) (by kernel_rfl) (by kernel_rfl)) (by kernel_rfl) (by kernel_rfl) [some 36, some 37, some 38, some 39, some 40, some 41, some 42, some 43, some 44, some 45, some 46, some 47, some 48, some 49, some 50, some 51, some 7] (fun g => [.slice oo O.length oc, .pointer (some ⟨wr.heap.size, 0, none⟩), .int .i64 (kp : Int), .int .u32 (kp : Int), .pointer (some ⟨wr.heap.size, 1, none⟩), .int .i64 (dp : Int), .int .u32 (dp : Int), .pointer (some ⟨wr.heap.size, 2, none⟩), .slice xo p.x.length xc, .int .i64 (p.x.length : Int), .int .u32 (p.x.length : Int), .slice (some ⟨g.1.1, 0, none⟩) 3 3, g.1.2, .pointer (some ⟨wr.heap.size, 2, none⟩), .slice xo p.x.length xc, g.2.1, g.2.2]) (by kernel_rfl) (by simp) (fun lp g X => RB21 w.heap.size w wr.heap.size #[.int .i64 (kp : Int), .int .i64 (dp : Int), .slice xo p.x.length xc] #[.int .u32 (kp : Int), .int .u32 (dp : Int), .int .u32 (p.x.length : Int)] O O1 O2 (.slice oo O.length oc) (lp.getD 0 false) (lp.getD 11 false) (lp.getD 12 false) (lp.getD 15 false) (lp.getD 16 false) g X) ((0, undef), (undef, undef)) HR0.out ?step8 ?fin8
      case step8 =>
        intro q o lp g w' a' ho hsz hun hdep hR hS K Q' hK
        have hfl : ∀ j, j ≠ q → (lp.setIfInBounds q true).getD j false = lp.getD j false := fun j hj => by rw [Array.getD_eq_getD_getElem?, Array.getD_eq_getD_getElem?, Array.getElem?_setIfInBounds_ne (by omega)]
        have hq : q < 17 := (List.getElem?_eq_some_iff.mp ho).1
        match q, ho, hun, hdep, hK, hfl, hq with
        | 0, ho, hun, hdep, hK, hfl, _ =>
          obtain rfl := Option.some.inj ho
          have n12 : lp.getD 12 false = false := by
            cases h : lp.getD 12 false with
            | false => rfl
            | true => have := hR.p4 h; rw [hun] at this; cases this
          have n16 : lp.getD 16 false = false := by
            cases h : lp.getD 16 false with
            | false => rfl
            | true => have := hR.p4 (hR.p2 (hR.p1 h)); rw [hun] at this; cases this
          have o7 : a'.tmps[7]? = some (.slice oo O.length oc) := (hS.oth 7 (fun k' ok hk hl e => by have := dstG_of (by kernel_rfl) k' 16 ok _ 7 hk rfl e rfl; subst this; rw [n16] at hl; cases hl)).trans rfl
          have hK' := hK g w' (fun _ _ _ _ _ _ => rfl) (by rw [hfl 11 (by decide), hfl 12 (by decide), hfl 15 (by decide), hfl 16 (by decide), getD_set_same (by rw [hsz]; decide)]; exact ⟨hR.b, hR.s, hR.c, hR.d0, hR.d11, hR.d12, hR.d15, hR.d16, hR.p1, hR.p2, hR.p3, fun _ => rfl⟩) (.slice oo O.length oc) (by simp only [valO, Option.bind_some]; simp only [putAll, Act.put, List.setIfInBounds_toArray, List.set_cons_zero, List.set_cons_succ]; rfl)
          clear hS hdep hR
          refine gh_quiet14 (v := .slice oo O.length oc) ?_ ?_
          · (simp only [execOp, Act.eval, o7]; go_simp; first | done | (simp; done))
          · exact hK'
        | 1, ho, hun, hdep, hK, hfl, _ =>
          obtain rfl := Option.some.inj ho
          have o9 : a'.tmps[9]? = some (.pointer (some ⟨wr.heap.size, 0, none⟩)) := (hS.old14 9 (by simp)).trans rfl
          have hK' := hK g w' (fun _ _ _ _ _ _ => rfl) (by rw [hfl 0 (by decide), hfl 11 (by decide), hfl 12 (by decide), hfl 15 (by decide), hfl 16 (by decide)]; exact hR) (.pointer (some ⟨wr.heap.size, 0, none⟩)) (by simp only [valO, Option.bind_some]; (try simp only [putAll, Act.put, List.setIfInBounds_toArray, List.set_cons_zero, List.set_cons_succ]); (try rfl))
          clear hS hdep hR
          refine gh_quiet14 (v := .pointer (some ⟨wr.heap.size, 0, none⟩)) ?_ ?_
          · (simp only [execOp, Act.eval, o9]; go_simp; first | done | (simp; done) | (simp [*]; done) | omega | (rw [IntKind.wrap_i64]; omega))
          · exact hK'
        | 2, ho, hun, hdep, hK, hfl, _ =>
          obtain rfl := Option.some.inj ho
          have d1 : lp.getD 1 false = true := hdep { on := 1, ground := .data } (by simp) rfl
          have e37 : a'.tmps[37]? = some (.pointer (some ⟨wr.heap.size, 0, none⟩)) := (hS.don 1 _ 37 rfl d1 rfl).trans (by simp only [putAll, Act.put, List.setIfInBounds_toArray, List.set_cons_zero, List.set_cons_succ]; rfl)
          have z0 := at_16 hR.c 0 _ rfl
          have z1 := at_16 hR.c 1 _ rfl
          have z2 := at_16 hR.c 2 _ rfl
          have hK' := hK g w' (fun _ _ _ _ _ _ => rfl) (by rw [hfl 0 (by decide), hfl 11 (by decide), hfl 12 (by decide), hfl 15 (by decide), hfl 16 (by decide)]; exact hR) (.int .i64 (kp : Int)) (by simp only [valO, Option.bind_some]; (try simp only [putAll, Act.put, List.setIfInBounds_toArray, List.set_cons_zero, List.set_cons_succ]); (try rfl))
          clear hS hdep hR
          refine gh_quiet14 (v := .int .i64 (kp : Int)) ?_ ?_
          · (simp only [execOp, Act.eval, e37]; go_simp; first | done | (simp; done) | (simp [*]; done) | omega | (rw [IntKind.wrap_i64]; omega))
          · exact hK'
        | 3, ho, hun, hdep, hK, hfl, _ =>
          obtain rfl := Option.some.inj ho
          have d2 : lp.getD 2 false = true := hdep { on := 2, ground := .data } (by simp) rfl
          have e38 : a'.tmps[38]? = some (.int .i64 (kp : Int)) := (hS.don 2 _ 38 rfl d2 rfl).trans (by simp only [putAll, Act.put, List.setIfInBounds_toArray, List.set_cons_zero, List.set_cons_succ]; rfl)
          have hK' := hK g w' (fun _ _ _ _ _ _ => rfl) (by rw [hfl 0 (by decide), hfl 11 (by decide), hfl 12 (by decide), hfl 15 (by decide), hfl 16 (by decide)]; exact hR) (.int .u32 (kp : Int)) (by simp only [valO, Option.bind_some]; (try simp only [putAll, Act.put, List.setIfInBounds_toArray, List.set_cons_zero, List.set_cons_succ]); (try rfl))
          clear hS hdep hR
          refine gh_quiet14 (v := .int .u32 (kp : Int)) ?_ ?_
          · (simp only [execOp, Act.eval, e38]; go_simp; first | done | (simp; done) | (simp [*]; done) | omega | (rw [IntKind.wrap_i64]; omega))
          · exact hK'
        | 4, ho, hun, hdep, hK, hfl, _ =>
          obtain rfl := Option.some.inj ho
          have o9 : a'.tmps[9]? = some (.pointer (some ⟨wr.heap.size, 0, none⟩)) := (hS.old14 9 (by simp)).trans rfl
          have hK' := hK g w' (fun _ _ _ _ _ _ => rfl) (by rw [hfl 0 (by decide), hfl 11 (by decide), hfl 12 (by decide), hfl 15 (by decide), hfl 16 (by decide)]; exact hR) (.pointer (some ⟨wr.heap.size, 1, none⟩)) (by simp only [valO, Option.bind_some]; (try simp only [putAll, Act.put, List.setIfInBounds_toArray, List.set_cons_zero, List.set_cons_succ]); (try rfl))
          clear hS hdep hR
          refine gh_quiet14 (v := .pointer (some ⟨wr.heap.size, 1, none⟩)) ?_ ?_
          · (simp only [execOp, Act.eval, o9]; go_simp; first | done | (simp; done) | (simp [*]; done) | omega | (rw [IntKind.wrap_i64]; omega))
          · exact hK'
        | 5, ho, hun, hdep, hK, hfl, _ =>
          obtain rfl := Option.some.inj ho
          have d4 : lp.getD 4 false = true := hdep { on := 4, ground := .data } (by simp) rfl
          have e40 : a'.tmps[40]? = some (.pointer (some ⟨wr.heap.size, 1, none⟩)) := (hS.don 4 _ 40 rfl d4 rfl).trans (by simp only [putAll, Act.put, List.setIfInBounds_toArray, List.set_cons_zero, List.set_cons_succ]; rfl)
          have z0 := at_16 hR.c 0 _ rfl
          have z1 := at_16 hR.c 1 _ rfl
          have z2 := at_16 hR.c 2 _ rfl
          have hK' := hK g w' (fun _ _ _ _ _ _ => rfl) (by rw [hfl 0 (by decide), hfl 11 (by decide), hfl 12 (by decide), hfl 15 (by decide), hfl 16 (by decide)]; exact hR) (.int .i64 (dp : Int)) (by simp only [valO, Option.bind_some]; (try simp only [putAll, Act.put, List.setIfInBounds_toArray, List.set_cons_zero, List.set_cons_succ]); (try rfl))
          clear hS hdep hR
          refine gh_quiet14 (v := .int .i64 (dp : Int)) ?_ ?_
          · (simp only [execOp, Act.eval, e40]; go_simp; first | done | (simp; done) | (simp [*]; done) | omega | (rw [IntKind.wrap_i64]; omega))
          · exact hK'
        | 6, ho, hun, hdep, hK, hfl, _ =>
          obtain rfl := Option.some.inj ho
          have d5 : lp.getD 5 false = true := hdep { on := 5, ground := .data } (by simp) rfl
          have e41 : a'.tmps[41]? = some (.int .i64 (dp : Int)) := (hS.don 5 _ 41 rfl d5 rfl).trans (by simp only [putAll, Act.put, List.setIfInBounds_toArray, List.set_cons_zero, List.set_cons_succ]; rfl)
          have hK' := hK g w' (fun _ _ _ _ _ _ => rfl) (by rw [hfl 0 (by decide), hfl 11 (by decide), hfl 12 (by decide), hfl 15 (by decide), hfl 16 (by decide)]; exact hR) (.int .u32 (dp : Int)) (by simp only [valO, Option.bind_some]; (try simp only [putAll, Act.put, List.setIfInBounds_toArray, List.set_cons_zero, List.set_cons_succ]); (try rfl))
          clear hS hdep hR
          refine gh_quiet14 (v := .int .u32 (dp : Int)) ?_ ?_
          · (simp only [execOp, Act.eval, e41]; go_simp; first | done | (simp; done) | (simp [*]; done) | omega | (rw [IntKind.wrap_i64]; omega))
          · exact hK'
        | 7, ho, hun, hdep, hK, hfl, _ =>
          obtain rfl := Option.some.inj ho
          have o9 : a'.tmps[9]? = some (.pointer (some ⟨wr.heap.size, 0, none⟩)) := (hS.old14 9 (by simp)).trans rfl
          have hK' := hK g w' (fun _ _ _ _ _ _ => rfl) (by rw [hfl 0 (by decide), hfl 11 (by decide), hfl 12 (by decide), hfl 15 (by decide), hfl 16 (by decide)]; exact hR) (.pointer (some ⟨wr.heap.size, 2, none⟩)) (by simp only [valO, Option.bind_some]; (try simp only [putAll, Act.put, List.setIfInBounds_toArray, List.set_cons_zero, List.set_cons_succ]); (try rfl))
          clear hS hdep hR
          refine gh_quiet14 (v := .pointer (some ⟨wr.heap.size, 2, none⟩)) ?_ ?_
          · (simp only [execOp, Act.eval, o9]; go_simp; first | done | (simp; done) | (simp [*]; done) | omega | (rw [IntKind.wrap_i64]; omega))
          · exact hK'
        | 8, ho, hun, hdep, hK, hfl, _ =>
          obtain rfl := Option.some.inj ho
          have d7 : lp.getD 7 false = true := hdep { on := 7, ground := .data } (by simp) rfl
          have e43 : a'.tmps[43]? = some (.pointer (some ⟨wr.heap.size, 2, none⟩)) := (hS.don 7 _ 43 rfl d7 rfl).trans (by simp only [putAll, Act.put, List.setIfInBounds_toArray, List.set_cons_zero, List.set_cons_succ]; rfl)
          have z0 := at_16 hR.c 0 _ rfl
          have z1 := at_16 hR.c 1 _ rfl
          have z2 := at_16 hR.c 2 _ rfl
          have hK' := hK g w' (fun _ _ _ _ _ _ => rfl) (by rw [hfl 0 (by decide), hfl 11 (by decide), hfl 12 (by decide), hfl 15 (by decide), hfl 16 (by decide)]; exact hR) (.slice xo p.x.length xc) (by simp only [valO, Option.bind_some]; (try simp only [putAll, Act.put, List.setIfInBounds_toArray, List.set_cons_zero, List.set_cons_succ]); (try rfl))
          clear hS hdep hR
          refine gh_quiet14 (v := .slice xo p.x.length xc) ?_ ?_
          · (simp only [execOp, Act.eval, e43]; go_simp; first | done | (simp; done) | (simp [*]; done) | omega | (rw [IntKind.wrap_i64]; omega))
          · exact hK'
        | 9, ho, hun, hdep, hK, hfl, _ =>
          obtain rfl := Option.some.inj ho
          have d8 : lp.getD 8 false = true := hdep { on := 8, ground := .data } (by simp) rfl
          have e44 : a'.tmps[44]? = some (.slice xo p.x.length xc) := (hS.don 8 _ 44 rfl d8 rfl).trans (by simp only [putAll, Act.put, List.setIfInBounds_toArray, List.set_cons_zero, List.set_cons_succ]; rfl)
          have hK' := hK g w' (fun _ _ _ _ _ _ => rfl) (by rw [hfl 0 (by decide), hfl 11 (by decide), hfl 12 (by decide), hfl 15 (by decide), hfl 16 (by decide)]; exact hR) (.int .i64 (p.x.length : Int)) (by simp only [valO, Option.bind_some]; (try simp only [putAll, Act.put, List.setIfInBounds_toArray, List.set_cons_zero, List.set_cons_succ]); (try rfl))
          clear hS hdep hR
          refine gh_quiet14 (v := .int .i64 (p.x.length : Int)) ?_ ?_
          · (simp only [execOp, Act.eval, e44]; go_simp; first | done | (simp; done) | (simp [*]; done) | omega | (rw [IntKind.wrap_i64]; omega))
          · exact hK'
        | 10, ho, hun, hdep, hK, hfl, _ =>
          obtain rfl := Option.some.inj ho
          have d9 : lp.getD 9 false = true := hdep { on := 9, ground := .data } (by simp) rfl
          have e45 : a'.tmps[45]? = some (.int .i64 (p.x.length : Int)) := (hS.don 9 _ 45 rfl d9 rfl).trans (by simp only [putAll, Act.put, List.setIfInBounds_toArray, List.set_cons_zero, List.set_cons_succ]; rfl)
          have hK' := hK g w' (fun _ _ _ _ _ _ => rfl) (by rw [hfl 0 (by decide), hfl 11 (by decide), hfl 12 (by decide), hfl 15 (by decide), hfl 16 (by decide)]; exact hR) (.int .u32 (p.x.length : Int)) (by simp only [valO, Option.bind_some]; (try simp only [putAll, Act.put, List.setIfInBounds_toArray, List.set_cons_zero, List.set_cons_succ]); (try rfl))
          clear hS hdep hR
          refine gh_quiet14 (v := .int .u32 (p.x.length : Int)) ?_ ?_
          · (simp only [execOp, Act.eval, e45]; go_simp; first | done | (simp; done) | (simp [*]; done) | omega | (rw [IntKind.wrap_i64]; omega))
          · exact hK'
        | 11, ho, hun, hdep, hK, hfl, _ =>
          obtain rfl := Option.some.inj ho
          have d3 : lp.getD 3 false = true := hdep { on := 3, ground := .data } (by simp) rfl
          have e39 : a'.tmps[39]? = some (.int .u32 (kp : Int)) := (hS.don 3 _ 39 rfl d3 rfl).trans (by simp only [putAll, Act.put, List.setIfInBounds_toArray, List.set_cons_zero, List.set_cons_succ]; rfl)
          have d6 : lp.getD 6 false = true := hdep { on := 6, ground := .data } (by simp) rfl
          have e42 : a'.tmps[42]? = some (.int .u32 (dp : Int)) := (hS.don 6 _ 42 rfl d6 rfl).trans (by simp only [putAll, Act.put, List.setIfInBounds_toArray, List.set_cons_zero, List.set_cons_succ]; rfl)
          have d10 : lp.getD 10 false = true := hdep { on := 10, ground := .data } (by simp) rfl
          have e46 : a'.tmps[46]? = some (.int .u32 (p.x.length : Int)) := (hS.don 10 _ 46 rfl d10 rfl).trans (by simp only [putAll, Act.put, List.setIfInBounds_toArray, List.set_cons_zero, List.set_cons_succ]; rfl)
          have n12 : lp.getD 12 false = false := by
            cases h : lp.getD 12 false with
            | false => rfl
            | true => have := hR.p3 h; rw [hun] at this; cases this
          have q := bl1 w' (.cells #[.int .u32 (kp : Int), .int .u32 (dp : Int), .int .u32 (p.x.length : Int)] 31)
          have hK' := hK ((w'.heap.size, g.1.2), g.2) (w'.alloc (.cells #[.int .u32 (kp : Int), .int .u32 (dp : Int), .int .u32 (p.x.length : Int)] 31)) (fun k' ok s hk hl hd => gh_same14 (d := 47) (s := s) (by simp only [putAll, Act.put, List.setIfInBounds_toArray, List.set_cons_zero, List.set_cons_succ]; rfl) (by rintro rfl; have := dstG_of (by kernel_rfl) k' 11 ok _ 47 hk rfl hd rfl; subst this; rw [hun] at hl; cases hl)) (by rw [hfl 0 (by decide), hfl 12 (by decide), hfl 15 (by decide), hfl 16 (by decide), getD_set_same (by rw [hsz]; decide)]; exact ⟨hR.b.trans (q.mono hR.s), Nat.le_trans hR.s q.size, (q.block _ (lt_16 hR.c)).trans hR.c, fun h => own_b13 q (hR.d0 h), fun _ => new_16 _ _, fun h1 h2 => own_b13 q (hR.d12 h1 h2), fun h => own_b13 q (hR.d15 h), fun h => own_b13 q (hR.d16 h), hR.p1, hR.p2, fun _ => rfl, hR.p4⟩) (.slice (some ⟨w'.heap.size, 0, none⟩) 3 3) (by simp only [valO, Option.bind_some]; simp only [putAll, Act.put, List.setIfInBounds_toArray, List.set_cons_zero, List.set_cons_succ]; rfl)
          clear hS hdep hR hK q
          unfold Oper.wp
          simp only [execOp, Act.eval, Array.getD_eq_getD_getElem?]
          simp [go_sem, e39, e42, e46, Oper.upon]
          exact hK'
        | 12, ho, hun, hdep, hK, hfl, _ =>
          obtain rfl := Option.some.inj ho
          have d0 : lp.getD 0 false = true := hdep { on := 0, ground := .data } (by simp) rfl
          have e36 : a'.tmps[36]? = some (.slice oo O.length oc) := (hS.don 0 _ 36 rfl d0 rfl).trans (by simp only [putAll, Act.put, List.setIfInBounds_toArray, List.set_cons_zero, List.set_cons_succ]; rfl)
          have d11 : lp.getD 11 false = true := hdep { on := 11, ground := .data } (by simp) rfl
          have e47 : a'.tmps[47]? = some (.slice (some ⟨g.1.1, 0, none⟩) 3 3) := (hS.don 11 _ 47 rfl d11 rfl).trans (by simp only [putAll, Act.put, List.setIfInBounds_toArray, List.set_cons_zero, List.set_cons_succ]; rfl)
          have n15 : lp.getD 15 false = false := by
            cases h : lp.getD 15 false with
            | false => rfl
            | true => have := hR.p2 h; rw [hun] at this; cases this
          have n16 : lp.getD 16 false = false := by
            cases h : lp.getD 16 false with
            | false => rfl
            | true => have := hR.p2 (hR.p1 h); rw [hun] at this; cases this
          have KC := laid21 w.heap.size (.slice oo O.length oc) O g.1.1 _ [kp, dp, p.x.length] w' (.inl (hR.d0 hun)) hR.s (hR.d11 d11) rfl (by show 3 ≤ 1000; decide) HNs.out (by have := HOl.out; omega)
          rw [← HO12.out.1] at KC
          clear hdep
          unfold Oper.wp
          simp only [execOp, Act.eval, Array.getD_eq_getD_getElem?]
          simp [go_sem, e36, e47, Oper.upon]
          refine KC.mono ?_
          rintro e W2 ⟨v2, rfl, -, ho2, hb2, ht2⟩
          exact hK ((g.1.1, v2), g.2) W2 (fun k' ok s hk hl hd => gh_same14 (d := 48) (s := s) (by simp only [putAll, Act.put, List.setIfInBounds_toArray, List.set_cons_zero, List.set_cons_succ]; rfl) (by rintro rfl; have := dstG_of (by kernel_rfl) k' 12 ok _ 48 hk rfl hd rfl; subst this; rw [hun] at hl; cases hl)) (by rw [hfl 0 (by decide), hfl 11 (by decide), hfl 15 (by decide), hfl 16 (by decide), getD_set_same (by rw [hsz]; decide)]; exact ⟨hR.b.trans hb2, Nat.le_trans hR.s (by have := hb2.size; omega), ht2 _ _ _ _ (by decide) hR.c, fun h => (by cases h), fun h => ht2 _ _ _ _ (by decide) (hR.d11 h), fun _ _ => ho2 (by show 0 < 3; decide), fun h => (by rw [n15] at h; cases h), fun h => (by rw [n16] at h; cases h), hR.p1, fun _ => rfl, fun _ => d11, fun _ => d0⟩) _ (by simp only [valO, Option.bind_some]; simp only [putAll, Act.put, List.setIfInBounds_toArray, List.set_cons_zero, List.set_cons_succ]; rfl)
        | 13, ho, hun, hdep, hK, hfl, _ =>
          obtain rfl := Option.some.inj ho
          have o9 : a'.tmps[9]? = some (.pointer (some ⟨wr.heap.size, 0, none⟩)) := (hS.old14 9 (by simp)).trans rfl
          have hK' := hK g w' (fun _ _ _ _ _ _ => rfl) (by rw [hfl 0 (by decide), hfl 11 (by decide), hfl 12 (by decide), hfl 15 (by decide), hfl 16 (by decide)]; exact hR) (.pointer (some ⟨wr.heap.size, 2, none⟩)) (by simp only [valO, Option.bind_some]; (try simp only [putAll, Act.put, List.setIfInBounds_toArray, List.set_cons_zero, List.set_cons_succ]); (try rfl))
          clear hS hdep hR
          refine gh_quiet14 (v := .pointer (some ⟨wr.heap.size, 2, none⟩)) ?_ ?_
          · (simp only [execOp, Act.eval, o9]; go_simp; first | done | (simp; done) | (simp [*]; done) | omega | (rw [IntKind.wrap_i64]; omega))
          · exact hK'
        | 14, ho, hun, hdep, hK, hfl, _ =>
          obtain rfl := Option.some.inj ho
          have d13 : lp.getD 13 false = true := hdep { on := 13, ground := .data } (by simp) rfl
          have e49 : a'.tmps[49]? = some (.pointer (some ⟨wr.heap.size, 2, none⟩)) := (hS.don 13 _ 49 rfl d13 rfl).trans (by simp only [putAll, Act.put, List.setIfInBounds_toArray, List.set_cons_zero, List.set_cons_succ]; rfl)
          have z0 := at_16 hR.c 0 _ rfl
          have z1 := at_16 hR.c 1 _ rfl
          have z2 := at_16 hR.c 2 _ rfl
          have hK' := hK g w' (fun _ _ _ _ _ _ => rfl) (by rw [hfl 0 (by decide), hfl 11 (by decide), hfl 12 (by decide), hfl 15 (by decide), hfl 16 (by decide)]; exact hR) (.slice xo p.x.length xc) (by simp only [valO, Option.bind_some]; (try simp only [putAll, Act.put, List.setIfInBounds_toArray, List.set_cons_zero, List.set_cons_succ]); (try rfl))
          clear hS hdep hR
          refine gh_quiet14 (v := .slice xo p.x.length xc) ?_ ?_
          · (simp only [execOp, Act.eval, e49]; go_simp; first | done | (simp; done) | (simp [*]; done) | omega | (rw [IntKind.wrap_i64]; omega))
          · exact hK'
        | 15, ho, hun, hdep, hK, hfl, _ =>
          obtain rfl := Option.some.inj ho
          have d12 : lp.getD 12 false = true := hdep { on := 12, ground := .data } (by simp) rfl
          have e48 : a'.tmps[48]? = some (g.1.2) := (hS.don 12 _ 48 rfl d12 rfl).trans (by simp only [putAll, Act.put, List.setIfInBounds_toArray, List.set_cons_zero, List.set_cons_succ]; rfl)
          have d14 : lp.getD 14 false = true := hdep { on := 14, ground := .data } (by simp) rfl
          have e50 : a'.tmps[50]? = some (.slice xo p.x.length xc) := (hS.don 14 _ 50 rfl d14 rfl).trans (by simp only [putAll, Act.put, List.setIfInBounds_toArray, List.set_cons_zero, List.set_cons_succ]; rfl)
          have n16 : lp.getD 16 false = false := by
            cases h : lp.getD 16 false with
            | false => rfl
            | true => have := hR.p1 h; rw [hun] at this; cases this
          have hO := hR.d12 d12 hun
          obtain ⟨zo, zc, hzv⟩ := own_form hO
          refine wp_append_rowA (.tmp 48) (.tmp 50) 22 rfl w.heap.size 5 i0 (.int .u8 0) 1 1 Tryd.underlying22 ji jz0 jz1 jz2 rfl (by decide) _ O1.length (O1.map cB) (by simp [Act.eval, e48]) hO _ p.x.length (p.x.map cB) (by simp [Act.eval, e50]) (HX2.out.below hR.b) (cB_one _) (by have := HO12.out; unfold maxLen; omega) (by have := HO12.out; omega) hR.s ?_
          intro aoN cN wN hON hgN
          have hbN : Below w.heap.size w wN := hR.b.grown hgN hR.s (fun z hz => (hO.lt z hz).1)
          have hsN : w.heap.size ≤ wN.heap.size := hbN.size
          have hkN := KT21.grown (e := 0) hO hgN
          rw [← List.map_append, ← HO12.out.2.1, HO12.out.2.2.1] at hON
          rw [HO12.out.2.2.1]
          exact hK (g.1, (.slice aoN O2.length cN, g.2.2)) wN (fun k' ok s hk hl hd => gh_same14 (d := 51) (s := s) (by simp only [putAll, Act.put, List.setIfInBounds_toArray, List.set_cons_zero, List.set_cons_succ]; rfl) (by rintro rfl; have := dstG_of (by kernel_rfl) k' 15 ok _ 51 hk rfl hd rfl; subst this; rw [hun] at hl; cases hl)) (by rw [hfl 0 (by decide), hfl 11 (by decide), hfl 12 (by decide), hfl 16 (by decide), getD_set_same (by rw [hsz]; decide)]; exact ⟨hbN, hsN, hkN _ _ _ _ (by decide) hR.c, fun h => (by rw [d12] at h; cases h), fun h => hkN _ _ _ _ (by decide) (hR.d11 h), fun _ h => (by cases h), fun _ => hON, fun h => (by rw [n16] at h; cases h), fun _ => rfl, fun _ => d12, hR.p3, hR.p4⟩) _ (by simp only [valO, Option.bind_some]; simp only [putAll, Act.put, List.setIfInBounds_toArray, List.set_cons_zero, List.set_cons_succ]; rfl)
        | 16, ho, hun, hdep, hK, hfl, _ =>
          obtain rfl := Option.some.inj ho
          have d15 : lp.getD 15 false = true := hdep { on := 15, ground := .data } (by simp) rfl
          have e51 : a'.tmps[51]? = some (g.2.1) := (hS.don 15 _ 51 rfl d15 rfl).trans (by simp only [putAll, Act.put, List.setIfInBounds_toArray, List.set_cons_zero, List.set_cons_succ]; rfl)
          have hK' := hK (g.1, (g.2.1, g.2.1)) w' (fun k' ok s hk hl hd => gh_same14 (d := 7) (s := s) (by simp only [putAll, Act.put, List.setIfInBounds_toArray, List.set_cons_zero, List.set_cons_succ]; rfl) (by rintro rfl; have := dstG_of (by kernel_rfl) k' 16 ok _ 7 hk rfl hd rfl; subst this; rw [hun] at hl; cases hl)) (by rw [hfl 0 (by decide), hfl 11 (by decide), hfl 12 (by decide), hfl 15 (by decide), getD_set_same (by rw [hsz]; decide)]; exact ⟨hR.b, hR.s, hR.c, hR.d0, hR.d11, hR.d12, hR.d15, fun _ => hR.d15 d15, fun _ => d15, hR.p2, hR.p3, hR.p4⟩) g.2.1 (by simp only [valO, Option.bind_some]; simp only [putAll, Act.put, List.setIfInBounds_toArray, List.set_cons_zero, List.set_cons_succ]; rfl)
          clear hS hdep hR hK
          refine gh_quiet14 (v := g.2.1) ?_ ?_
          · (simp only [execOp, Act.eval, e51]; go_simp; first | done | (simp; done) | (simp [*]; done))
          · exact hK'
        | n + 17, ho, hun, hdep, hK, hfl, hq => exact absurd hq (by omega)
      case fin8 =>
        intro g X hX
        have h9 := hX.d16 rfl
        have HBX : Hid (Below w.heap.size w X) := hX.b
        simp only [putAll, Act.put, List.setIfInBounds_toArray, List.set_cons_zero, List.set_cons_succ]
        obtain ⟨vb, hvb⟩ : ∃ vb, vb = g.2.2 := ⟨_, rfl⟩
        rw [← hvb] at h9 ⊢
        clear hX hvb HR0 HX2
        obtain ⟨zo, zc, hzv⟩ := own_form h9
        subst hzv
        have HO := hid13 h9
        clear h9
        go_wp2
        go_roundg (gk - 1)
        case measure => have := HK.out; omega
        case rel => exact ⟨k + 1, O2, zo, zc, by have := HK.out; omega, rfl, rfl, HO12.out.2.2.2.1, HO, HBX⟩
end Go.Proofs.YtiachojhnbicaabDoor
