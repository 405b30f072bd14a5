/-
  Part 17 of the proof: 1 texts, one behind the other.
-/
import Derived.Test.YtiachojhnbicaabDoorPart14
import Derived.Test.YtiachojhnbicaabDoorPart15
import Derived.Test.YtiachojhnbicaabDoorPart16
namespace Go.Proofs.YtiachojhnbicaabDoor
open Go.RowKit Go.Shelf
set_option linter.unusedSimpArgs false
set_option linter.unusedVariables false
attribute [local go_sem] Oper.semAt_some

theorem own_cut21 {W : World} {base e size n m g c : Nat} {xs : List Value} (h : W.ownsRow base e size (.slice (some ⟨g, 0, none⟩) n c) n xs) (hm : m ≤ n) : W.ownsRow base e size (.slice (some ⟨g, 0, none⟩) m c) m (xs.take (m * size)) := by
  rcases h.2 with ⟨h', _⟩ | ⟨g', cap', cur, h', hb, hg, hnc, hcm, hcs, htake⟩
  · cases h'
  · simp only [Value.slice.injEq, Option.some.injEq, Addr.mk.injEq, and_true, true_and] at h'
    obtain ⟨rfl, rfl⟩ := h'
    refine ⟨by rw [List.length_take, h.1, Nat.min_eq_left (Nat.mul_le_mul_right _ hm)], .inr ⟨g, c, cur, rfl, hb, hg, by omega, hcm, hcs, ?_⟩⟩
    rw [← htake, List.take_take, Nat.min_eq_left (Nat.mul_le_mul_right _ hm)]
structure RT21 (w3 : World) (gc n cap : Nat) (C D : List Nat) (f0 f1 f2 f3 f4 f5 f6 f7 f8 f9 f10 f11 f12 : Bool) (g : Value × Value) (X : World) : Prop where
  b : Below w3.heap.size w3 X
  oc : f11 = false → X.ownsRow w3.heap.size 5 1 (.slice (some ⟨gc, 0, none⟩) n cap) n (C.map cB)
  d11 : f11 = true → X.ownsRow w3.heap.size 5 1 g.1 D.length (D.map cB)
  d12 : f12 = true → X.ownsRow w3.heap.size 5 1 g.2 D.length (D.map cB)
  q2 : f2 = true → f1 = true
  q3 : f3 = true → f2 = true
  q4 : f4 = true → f0 = true ∧ f3 = true
  q7 : f7 = true → f6 = true
  q8 : f8 = true → f7 = true
  q9 : f9 = true → f5 = true ∧ f8 = true
  q10 : f10 = true → f9 = true
  q11 : f11 = true → f4 = true ∧ f10 = true
  q12 : f12 = true → f11 = true
set_option maxRecDepth 100000 in
set_option maxHeartbeats 64000000 in
theorem deltaTurned_any (v : Value) (a : List Nat) (u : Value) (b : List Nat) (at0 : Int) (by0 : Nat) (right : Bool) (w : World) (hA : RowA w 1 v a.length (a.map cB)) (hv : RwX cB w v a) (hal : a.length * 1 ≤ 140737488351232) (hx : ∀ z ∈ a, z < 256) (hB : RowA w 1 u b.length (b.map cB)) (hu : RwX cB w u b) (hbl : b.length * 1 ≤ 140737488351232) (hy : ∀ z ∈ b, z < 256) (hat0 : -9223372036854775808 ≤ at0) (hat1 : at0 ≤ 9223372036854775807) (hby : by0 < 256) (hT : Hf w) :
    Calls Tryd.prog 3 #[v, u, .int .i64 at0, .int .u8 (by0 : Int), .bool right] w fun e w' => e = .returned (.bool true) ∧ Below w.heap.size w w' := by
  obtain ⟨i0, ji, jz0, jz1, jz2⟩ := info13 Tryd.infoB13
  obtain ⟨ao, c, hvf, hc, -⟩ := id hv
  obtain ⟨bo, d, huf, hd, -⟩ := id hu
  have HV : Hid (RowA w 1 v a.length (a.map cB) ∧ RwX cB w v a ∧ RowA w 1 u b.length (b.map cB) ∧ RwX cB w u b ∧ (∀ z ∈ a, z < 256) ∧ (∀ z ∈ b, z < 256) ∧ Hf w) := ⟨hA, hv, hB, hu, hx, hy, hT⟩
  have HBy := hid13 hby
  subst hvf huf
  clear hA hv hB hu hx hy hc hd hal hbl hT hat0 hat1 hby
  go_enter Tryd.func3, Tryd.ntmps3
  go_wp2_with fail
  refine (known21 w).mono ?_
  rintro e w1 ⟨rfl, hb⟩
  have HB1 := hid13 hb
  clear hb
  by_cases h1 : (32768 : Int) < (a.length : Int)
  · have d1 : decide ((32768 : Int) < (a.length : Int)) = true := decide_eq_true h1
    go_wp2
    go_ret
    exact ⟨rfl, HB1.out⟩
  have d1 : decide ((32768 : Int) < (a.length : Int)) = false := decide_eq_false h1
  by_cases h2 : (32768 : Int) < (b.length : Int)
  · have d2 : decide ((32768 : Int) < (b.length : Int)) = true := decide_eq_true h2
    go_wp2
    go_ret
    exact ⟨rfl, HB1.out⟩
  have d2 : decide ((32768 : Int) < (b.length : Int)) = false := decide_eq_false h2
  have HL : Hid (a.length ≤ 32768 ∧ b.length ≤ 32768) := ⟨by omega, by omega⟩
  go_wp2_with fail
  refine (diff21 _ _ a b w1 (HV.out.2.1.below HB1.out) (HV.out.2.2.2.1.below HB1.out) (HV.out.1.below HB1.out) (HV.out.2.2.1.below HB1.out) HV.out.2.2.2.2.1 HV.out.2.2.2.2.2.1 (by have := HL.out; omega) (by have := HL.out; omega)).mono ?_
  rintro e w2 ⟨v2, rfl, hd2, hb⟩
  have HB2 : Hid (Below w.heap.size w w2) := keepb hb HB1.out
  have hwt := wt_df a b
  have hfit := fit_df a b
  have hE2 : byE a (dfL a b) = 0 := by unfold byE; rw [if_pos hfit]
  have hlen := dfL_len a b
  have hlb := dfL_lt (a := a) HV.out.2.2.2.2.2.1
  have hbl := byB_lt a (dfL a b) hlb (by omega) (by rw [dfL_len]; split <;> decide) (by omega)
  have hbn : (byB a (dfL a b)).length ≤ 200000 ∧ 20 ≤ (byB a (dfL a b)).length := by
    unfold byB
    rw [if_pos hfit]
    unfold bySum
    rw [ld21_len, byS_len, hlen]
    show _ + 4 * 1 ≤ _ ∧ _ ≤ _ + 4 * 1
    constructor
    · split <;> omega
    · omega
  have hxw : ∀ p ∈ dfL a b, p.x.length < 4294967296 := by
    intro p hp
    obtain ⟨j, hj⟩ := List.getElem?_of_mem hp
    have := len_le_wt21 hj
    omega
  have hcut := ps_cut a (dfL a b) hfit (by rw [hlen]; split <;> decide) hxw
  have hoth := ps_other a (dfL a b) hfit (by omega) 1
  have HD2 := hid13 (dfo_ptr hd2)
  have HF : Hid (byE a (dfL a b) = 0 ∧ (∀ z ∈ byB a (dfL a b), z < 256) ∧ (byB a (dfL a b)).length ≤ 200000 ∧ 20 ≤ (byB a (dfL a b)).length ∧ (dfL a b).length ≤ 1 ∧ (∀ p ∈ dfL a b, ∀ z ∈ p.x, z < 256) ∧ wt21 (dfL a b) ≤ b.length) := ⟨hE2, hbl, hbn.1, hbn.2, by rw [hlen]; split <;> decide, hlb, hwt⟩
  have HC : Hid ((∀ k, k < (byB a (dfL a b)).length → (psR a ((byB a (dfL a b)).take k)).1 ≠ 0) ∧ psR (a ++ [1]) (byB a (dfL a b)) = (33, [])) := ⟨hcut, hoth⟩
  obtain ⟨o2, c2, hv2⟩ : ∃ o c, v2 = .slice o (dfL a b).length c := by obtain ⟨o, c, h, -⟩ := HD2.out; exact ⟨o, c, h⟩
  subst hv2
  clear hd2 hb hwt hfit hE2 hlen hbl hbn hxw hcut hoth hlb HB1 d1 d2 h1 h2
  generalize dfL a b = L at *
  go_wp2_with fail
  refine (bytes21 _ a _ L w2 (HV.out.2.1.below HB2.out) HV.out.2.2.2.2.1 HD2.out HF.out.2.2.2.2.2.1 (by have := HL.out; omega) (by have := HF.out; omega) (by have := HF.out; have := HL.out; omega) (HV.out.2.2.2.2.2.2.below HB2.out)).mono ?_
  rintro e w3 ⟨v3, rfl, ho3, hb⟩
  rw [HF.out.1]
  have HB3 : Hid (Below w.heap.size w w3) := keepb hb HB2.out
  have HS3 := hid13 (own_base16 ho3 HB2.out.size)
  have hs3 := HS3.out
  obtain ⟨gs, ks, hv3, hg3a, hg3b⟩ := World.ownsRow.form hs3 (by have := HF.out; omega)
  subst hv3
  obtain ⟨B, hBe⟩ : ∃ B, B = byB a L := ⟨_, rfl⟩
  rw [← hBe] at HF HC HS3
  rw [← hBe]
  have HSb : Hid (gs < w3.heap.size ∧ B.length ≤ ks) := by
    refine ⟨hg3b, ?_⟩
    obtain ⟨o, c, e, h, -⟩ := own_rwx HS3.out
    injection e with e1 e2 e3
    omega
  have n20 : ¬ (B.length : Int) < 20 := by have := HF.out; omega
  have w4' : IntKind.i64.wrap ((B.length : Int) - 4) = ((B.length - 4 : Nat) : Int) := by rw [IntKind.wrap_i64]; have := HF.out; omega
  clear hb ho3 HD2 HB2 hs3 hg3a hg3b hBe
  go_wp2_with (at_builtin; apply stopHere9)
  have q3 := bl1 w3 (.cells #[] 5)
  have o3 : (w3.alloc (.cells #[] 5)).ownsRow w3.heap.size 5 1 (.slice (some ⟨w3.heap.size, 0, none⟩) 0 0) 0 [] := World.ownsRow_made w3 #[] 0 (Nat.le_refl _) (by unfold maxLen; omega) (by simp)
  have r3 := (own_rowA HS3.out).below q3
  refine (show wpList _ _ _ _ _ _ from ?_)
  refine wpList_append_rowA rfl _ _ 22 rfl w3.heap.size 5 i0 (.int .u8 0) 1 1 Tryd.underlying22 ji jz0 jz1 jz2 rfl (by decide) _ 0 [] rfl o3 _ B.length (B.map cB) rfl r3 (cB_one B) (by have := HF.out; unfold maxLen; omega) (by have := HF.out; omega) q3.size ?_
  intro co cap w4 hO hg
  rw [Nat.zero_add, List.nil_append] at hO
  rw [Nat.zero_add]
  have HB4 : Hid (Below w3.heap.size w3 w4) := hid13 (q3.grown hg q3.size (fun z hz => (o3.lt z hz).1))
  obtain ⟨gc, kc, hco, hgc1, hgc2⟩ := World.ownsRow.form hO (by have := HF.out; omega)
  injection hco with hc1 hc2 hc3
  subst hc1 hc3
  have HO4 := hid13 hO
  obtain ⟨i, hi⟩ : ∃ i : Nat, (i : Int) = wth at0 ((B.length - 4 : Nat) : Int) := ⟨(wth at0 ((B.length - 4 : Nat) : Int)).toNat, by have := wth_in at0 ((B.length - 4 : Nat) : Int) (by have := HF.out; omega); omega⟩
  have hil : i < B.length - 4 := by have := wth_in at0 ((B.length - 4 : Nat) : Int) (by have := HF.out; omega); omega
  have KI := within21 at0 ((B.length - 4 : Nat) : Int) (by have := HF.out; omega) (by have := HF.out; omega) w4
  rw [← hi] at KI
  obtain ⟨x0, hx0⟩ : ∃ x, B[i]? = some x := ⟨B[i], List.getElem?_eq_getElem (by omega)⟩
  have xc0 : w4.cell? ⟨gc, i, none⟩ = some (.int .u8 (x0 : Int)) := by
    rw [HO4.out.cellAt i (by omega), List.getElem?_map, hx0]
    rfl
  have xf0 := HO4.out.frozenAt i
  obtain ⟨y, hy⟩ : ∃ y, y = (x0 + by0) % 256 := ⟨_, rfl⟩
  have hyl : y < 256 := by omega
  have wy : IntKind.u8.wrap ((x0 : Int) + (by0 : Int)) = (y : Int) := by rw [IntKind.wrap_u8]; omega
  have r5 := (HO4.out.stored i (.int .u8 (y : Int))).1
  obtain ⟨C, hC⟩ : ∃ C, C = B.set i y := ⟨_, rfl⟩
  have HCl : Hid (C.length = B.length ∧ ∀ z ∈ C, z < 256) := by
    refine ⟨by rw [hC, List.length_set], fun z hz => ?_⟩
    rw [hC] at hz
    rcases List.mem_or_eq_of_mem_set hz with h | h
    · exact HF.out.2.1 z h
    · omega
  have HO5 : Hid ((w4.setCell ⟨gc, i, none⟩ (.int .u8 (y : Int))).ownsRow w3.heap.size 5 1 (.slice (some ⟨gc, 0, none⟩) B.length cap) B.length (C.map cB)) := by
    show World.ownsRow _ _ _ _ _ _ _
    rw [hC, List.map_set]; exact r5
  have HB5 : Hid (Below w3.heap.size w3 (w4.setCell ⟨gc, i, none⟩ (.int .u8 (y : Int)))) := HB4.out.setCell (p := ⟨gc, i, none⟩) hgc1 _
  have HI : Hid (i < B.length ∧ B.length - 4 + 4 = B.length) := ⟨by omega, by have := HF.out; omega⟩
  have hin : (i : Int) < (B.length : Int) := by omega
  obtain ⟨n4, hn4⟩ : ∃ n, n = B.length - 4 := ⟨_, rfl⟩
  rw [← hn4] at KI w4'
  have HN4 := hid13 hn4
  clear hO hg o3 r3 q3 hi hil hx0 hy hyl r5 hC hgc2 hn4 HB4
  go_wp2_with fail
  refine KI.mono ?_
  rintro e wq ⟨rfl, hwq⟩
  replace hwq := hwq.symm
  subst hwq
  clear KI HO4
  cases right with
  | false =>
    go_wp2_with fail
    obtain ⟨X6, hX6⟩ : ∃ X, X = w4.setCell ⟨gc, i, none⟩ (.int .u8 (y : Int)) := ⟨_, rfl⟩
    rw [← hX6] at HO5 HB5 ⊢
    have HX6 : Hid (Below w.heap.size w X6) := HB3.out.trans (HB5.out.mono HB3.out.size)
    have HC6 : Hid (X6.ownsRow w3.heap.size 5 1 (.slice (some ⟨gc, 0, none⟩) C.length cap) C.length (C.map cB)) := by rw [HCl.out.1]; exact HO5.out
    have HS6 : Hid (X6.ownsRow w.heap.size 5 1 (.slice (some ⟨gs, 0, none⟩) B.length ks) B.length (B.map cB)) := own_b13 HB5.out HS3.out
    have HCl6 := HCl
    clear hX6 HO5 HB5 HS3 HB3 xc0 xf0
    have HRd := deltaReads_any _ a _ C X6 (HV.out.1.below HX6.out) (HV.out.2.1.below HX6.out) (by have := HL.out; omega) HV.out.2.2.2.2.1 (own_rowA HC6.out) (own_rwx HC6.out) (by have := HCl6.out; have := HF.out; omega) HCl6.out.2 (HV.out.2.2.2.2.2.2.below HX6.out)
    rw [HCl6.out.1] at HRd
    have HSx := hid13 HS6.out
    clear HC6 HS6
    go_wp2_with fail
    refine HRd.mono ?_
    rintro e w7 ⟨rfl, hb⟩
    have HB7 : Hid (Below w.heap.size w w7) := keepb hb HX6.out
    have HS7 := hid13 (own_b13 hb HSx.out)
    have HRd2 := deltaReads_any _ b _ B w7 (HV.out.2.2.1.below HB7.out) (HV.out.2.2.2.1.below HB7.out) (by have := HL.out; omega) HV.out.2.2.2.2.2.1 (own_rowA HS7.out) (own_rwx HS7.out) (by have := HF.out; omega) HF.out.2.1 (HV.out.2.2.2.2.2.2.below HB7.out)
    clear hb HRd HSx HX6
    go_wp2_with fail
    refine HRd2.mono ?_
    rintro e w8 ⟨rfl, hb⟩
    have HB8 : Hid (Below w.heap.size w w8) := keepb hb HB7.out
    have HS8 := hid13 (own_b13 hb HS7.out)
    clear hb HRd2 HS7 HB7
    obtain ⟨k, hk⟩ : ∃ k : Nat, (k : Int) = wth at0 (B.length : Int) := ⟨(wth at0 (B.length : Int)).toNat, by have := wth_in at0 (B.length : Int) (by have := HF.out; omega); omega⟩
    have hkl : k < B.length := by have := wth_in at0 (B.length : Int) (by have := HF.out; omega); omega
    have KK := within21 at0 (B.length : Int) (by have := HF.out; omega) (by have := HF.out; omega) w8
    rw [← hk] at KK
    have hsk : ∀ X, Sem.run Tryd.prog (Instr.sliceAt 22 (.slice (some ⟨gs, 0, none⟩) B.length ks) none (some (.int .i64 (k : Int))) none) X = .ok (.slice (some ⟨gs, 0, none⟩) k ks) X := fun X => run_slice_to (P := Tryd.prog) (w := X) Tryd.underlying22 ji (some ⟨gs, 0, none⟩) B.length ks k (by have := HSb.out; omega)
    have hkc : (k : Int) ≤ (ks : Int) := by have := HSb.out; omega
    have HKf := hid13 (HC.out.1 k hkl)
    have hlk : (B.take k).length = k := by rw [List.length_take]; omega
    have hck := own_cut21 HS8.out (m := k) (by omega)
    rw [Nat.mul_one, ← List.map_take] at hck
    have KP := parse21 _ a (.slice (some ⟨gs, 0, none⟩) k ks) (B.take k) w8 (HV.out.2.1.below HB8.out) HV.out.2.2.2.2.1 (by have := HL.out; omega) (rwx_take21 (own_rwx HS8.out) (by omega)) (by rw [hlk]; exact rowA_take21 (own_rowA HS8.out) (by omega)) (fun z hz => HF.out.2.1 z (List.mem_of_mem_take hz)) (by rw [hlk]; have := HF.out; omega) (HV.out.2.2.2.2.2.2.below HB8.out)
    obtain ⟨pe, hpe⟩ : ∃ e, e = (psR a (B.take k)).1 := ⟨_, rfl⟩
    rw [← hpe] at HKf
    have HPe := hid13 hpe
    clear hk hkl hlk hck hpe
    go_wp2_with fail
    refine KK.mono ?_
    rintro e wq ⟨rfl, hwq⟩
    replace hwq := hwq.symm
    subst hwq
    clear KK
    go_wp2_with fail
    refine KP.mono ?_
    rintro e w9 ⟨v9, rfl, hp9, hb⟩
    rw [← HPe.out]
    have HB9 : Hid (Below w.heap.size w w9) := keepb hb HB8.out
    have HS9 := hid13 (own_b13 hb HS8.out)
    obtain ⟨o9, c9, hv9⟩ : ∃ o c, v9 = .slice o (psR a (B.take k)).2.length c := by obtain ⟨o, c, h, -⟩ := hp9; exact ⟨o, c, h⟩
    subst hv9
    generalize (psR a (B.take k)).2.length = n9 at *
    clear hb hp9 KP HS8 HB8 hsk
    have qa := bl1 w9 (.cells #[] 5)
    have oa : (w9.alloc (.cells #[] 5)).ownsRow w9.heap.size 5 1 (.slice (some ⟨w9.heap.size, 0, none⟩) 0 0) 0 [] := World.ownsRow_made w9 #[] 0 (Nat.le_refl _) (by unfold maxLen; omega) (by simp)
    have ra := (HV.out.1.below HB9.out).below qa
    go_wp2_with (at_builtin; apply stopHere9)
    refine (show wpList _ _ _ _ _ _ from ?_)
    refine wpList_append_rowA rfl _ _ 22 rfl w9.heap.size 5 i0 (.int .u8 0) 1 1 Tryd.underlying22 ji jz0 jz1 jz2 rfl (by decide) _ 0 [] rfl oa _ a.length (a.map cB) rfl ra (cB_one a) (by have := HL.out; unfold maxLen; omega) (by have := HL.out; omega) qa.size ?_
    intro ao1 ac1 w10 hO hg
    rw [Nat.zero_add, List.nil_append] at hO
    rw [Nat.zero_add]
    have HB10 : Hid (Below w9.heap.size w9 w10) := hid13 (qa.grown hg qa.size (fun z hz => (oa.lt z hz).1))
    have HO10 := hid13 hO
    clear hO hg oa ra qa
    have qb := bl1 w10 (.cells #[.int .u8 1] 5)
    have rb := lit_rwx21 (f := cB) w10 #[.int .u8 1] 5 (0, 0) [1] rfl
    have ob := own_b13 qb HO10.out
    have HBb : Hid (Below w9.heap.size w9 (w10.alloc (.cells #[.int .u8 1] 5))) := hid13 (HB10.out.trans (qb.mono HB10.out.size))
    go_wp2_with (at_builtin; apply stopHere9)
    refine (show wpList _ _ _ _ _ _ from ?_)
    refine wpList_append_rowA rfl _ _ 22 rfl w9.heap.size 5 i0 (.int .u8 0) 1 1 Tryd.underlying22 ji jz0 jz1 jz2 rfl (by decide) _ a.length (a.map cB) rfl ob _ 1 ([1].map cB) rfl (rb.row (fun h => by cases h)) (cB_one [1]) (by have := HL.out; unfold maxLen; omega) (by have := HL.out; omega) HBb.out.size ?_
    intro ao2 ac2 w11 hO hg
    have HB11 : Hid (Below w9.heap.size w9 w11) := hid13 (HBb.out.grown hg HBb.out.size (fun z hz => (ob.lt z hz).1))
    rw [← List.map_append] at hO
    have hl1 : a.length + 1 = (a ++ [1]).length := by simp
    rw [hl1] at hO ⊢
    have HO11 := hid13 hO
    have HBz : Hid (Below w.heap.size w w11) := HB9.out.trans (HB11.out.mono HB9.out.size)
    have HS11 := hid13 (own_b13 HB11.out HS9.out)
    have HPa := HC.out.2
    have HA1 : Hid ((a ++ [1]).length ≤ 40000 ∧ ∀ z ∈ a ++ [1], z < 256) := by
      refine ⟨by rw [List.length_append]; have := HL.out; show a.length + 1 ≤ _; omega, fun z hz => ?_⟩
      rcases List.mem_append.1 hz with h | h
      · exact HV.out.2.2.2.2.1 z h
      · simp at h; omega
    obtain ⟨a1, ha1⟩ : ∃ a1, a1 = a ++ [1] := ⟨_, rfl⟩
    rw [← ha1] at HO11 HPa HA1 ⊢
    have HPa2 := hid13 HPa
    clear hO hg ob rb qb hl1 HB10 HO10 HBb HB11 HS9 HB9 ha1 HPa
    have KP2 := parse21 _ a1 _ B w11 (own_rwx HO11.out) HA1.out.2 (by have := HA1.out; omega) (own_rwx HS11.out) (own_rowA HS11.out) HF.out.2.1 (by have := HF.out; omega) (HV.out.2.2.2.2.2.2.below HBz.out)
    have hne : (pe != 0) = true := by have := HKf.out; simpa using this
    go_wp2_with fail
    refine KP2.mono ?_
    rintro e w12 ⟨v12, rfl, hp12, hb⟩
    rw [HPa2.out] at hp12 ⊢
    simp only at hp12 ⊢
    have HB12 : Hid (Below w.heap.size w w12) := keepb hb HBz.out
    obtain ⟨o12, c12, hv12⟩ : ∃ o c, v12 = .slice o 0 c := by obtain ⟨o, c, h, -⟩ := hp12; exact ⟨o, c, h⟩
    subst hv12
    clear hb hp12 KP2 HS11
    go_wp2
    go_ret
    exact ⟨by first | rfl | simp, HB12.out⟩
  | true =>
    obtain ⟨sc, hsc⟩ : ∃ s : Nat, (s : Int) = uI (crS (C.take n4)) ∧ s = (crS (C.take n4)).toNat := ⟨(crS (C.take n4)).toNat, by rw [uI_eq], rfl⟩
    have HSc : Hid ((sc : Int) = uI (crS (C.take n4)) ∧ sc < 4294967296) := ⟨hsc.1, by rw [hsc.2]; exact (crS _).isLt⟩
    obtain ⟨D, hD⟩ : ∃ D, D = ld21 (C.take n4) [sc] := ⟨_, rfl⟩
    have HD : Hid (D = ld21 (C.take n4) [sc] ∧ D.length = B.length ∧ ∀ z ∈ D, z < 256) := by
      refine ⟨hD, ?_, ?_⟩
      · rw [hD, ld21_len, List.length_take, HCl.out.1]
        have := HN4.out
        have := HI.out
        show min n4 B.length + 4 * 1 = _
        omega
      · rw [hD]
        refine ld21_lt (fun z hz => HCl.out.2 z (List.mem_of_mem_take hz)) ?_
        intro n hn
        rw [List.mem_singleton] at hn
        rw [hn]; exact HSc.out.2
    have HKc : Hid (n4 ≤ cap ∧ n4 ≤ B.length) := by
      obtain ⟨o, c, e, h, -⟩ := own_row HO5.out |>.2
      injection e with e1 e2 e3
      have := HN4.out
      exact ⟨by omega, by omega⟩
    have HS1 : Hid (∀ X, Sem.run Tryd.prog (Instr.sliceAt 22 (.slice (some ⟨gc, 0, none⟩) B.length cap) none (some (.int .i64 (n4 : Int))) none) X = .ok (.slice (some ⟨gc, 0, none⟩) n4 cap) X) := fun X => run_slice_to (P := Tryd.prog) (w := X) Tryd.underlying22 ji (some ⟨gc, 0, none⟩) B.length cap n4 HKc.out.1
    clear hsc hD
    have HR0 : Hid (RT21 w3 gc B.length cap C D false false false false false false false false false false false false false (undef, undef) (w4.setCell ⟨gc, i, none⟩ (.int .u8 (y : Int))).drew) := ⟨HB5.out.drew, fun _ => HO5.out.drew, fun q => (by cases q), fun q => (by cases q), fun q => (by cases q), fun q => (by cases q), fun q => (by cases q), fun q => (by cases q), fun q => (by cases q), fun q => (by cases q), fun q => (by cases q), fun q => (by cases q), fun q => (by cases q)⟩
    have HT3 : Hid (∀ X, Below w3.heap.size w3 X → Hf X) := fun X h => HV.out.2.2.2.2.2.2.below (HB3.out.trans (h.mono HB3.out.size))
    go_wp2_with fail
    refine gh_region (γ := Value × Value) (qpOk 13 13 (by decide) (fun N => by kernel_rfl) (by kernel_rfl) (by kernel_rfl) (by kernel_rfl) (by kernel_rfl)) (by kernel_rfl) (by kernel_rfl) [some 62, some 63, some 64, some 65, some 66, some 67, some 68, some 69, some 70, some 71, some 72, some 73, some 13] (fun g => [.slice (some ⟨gc, 0, none⟩) B.length cap, .slice (some ⟨gc, 0, none⟩) B.length cap, .int .i64 (B.length : Int), .int .i64 (n4 : Int), .slice (some ⟨gc, 0, none⟩) n4 cap, .slice (some ⟨gc, 0, none⟩) B.length cap, .slice (some ⟨gc, 0, none⟩) B.length cap, .int .i64 (B.length : Int), .int .i64 (n4 : Int), .slice (some ⟨gc, 0, none⟩) n4 cap, .int .u32 (sc : Int), g.1, g.2]) (by kernel_rfl) (by simp) (fun lp g X => RT21 w3 gc B.length cap C D (lp.getD 0 false) (lp.getD 1 false) (lp.getD 2 false) (lp.getD 3 false) (lp.getD 4 false) (lp.getD 5 false) (lp.getD 6 false) (lp.getD 7 false) (lp.getD 8 false) (lp.getD 9 false) (lp.getD 10 false) (lp.getD 11 false) (lp.getD 12 false) g X) (undef, undef) HR0.out ?step12 ?fin12
    case step12 =>
      intro q o lp g w' a' ho hsz hun hdep hR hS K Q' hK
      have hfl : ∀ j, j ≠ q → (lp.setIfInBounds q true).getD j false = lp.getD j false := fun j hj => by rw [Array.getD_eq_getD_getElem?, Array.getD_eq_getD_getElem?, Array.getElem?_setIfInBounds_ne (by omega)]
      have hq : q < 13 := (List.getElem?_eq_some_iff.mp ho).1
      match q, ho, hun, hdep, hK, hfl, hq with
      | 0, ho, hun, hdep, hK, hfl, _ =>
        obtain rfl := Option.some.inj ho
        have n12 : lp.getD 12 false = false := by
          cases h : lp.getD 12 false with
          | false => rfl
          | true => have := (hR.q4 (hR.q11 (hR.q12 h)).1).1; rw [hun] at this; cases this
        have o13 : a'.tmps[13]? = some (.slice (some ⟨gc, 0, none⟩) B.length cap) := (hS.oth 13 (fun k' ok hk hl e => by have := dstG_of (by kernel_rfl) k' 12 ok _ 13 hk rfl e rfl; subst this; rw [n12] at hl; cases hl)).trans rfl
        have hK' := hK g w' (fun _ _ _ _ _ _ => rfl) (by rw [hfl 1 (by decide), hfl 2 (by decide), hfl 3 (by decide), hfl 4 (by decide), hfl 5 (by decide), hfl 6 (by decide), hfl 7 (by decide), hfl 8 (by decide), hfl 9 (by decide), hfl 10 (by decide), hfl 11 (by decide), hfl 12 (by decide), getD_set_same (by rw [hsz]; decide)]; exact ⟨hR.b, hR.oc, hR.d11, hR.d12, hR.q2, hR.q3, fun h => ⟨rfl, (hR.q4 h).2⟩, hR.q7, hR.q8, hR.q9, hR.q10, hR.q11, hR.q12⟩) (.slice (some ⟨gc, 0, none⟩) B.length cap) (by simp only [valO, Option.bind_some]; simp only [putAll, Act.put, List.setIfInBounds_toArray, List.set_cons_zero, List.set_cons_succ]; rfl)
        clear hS hdep hR
        refine gh_quiet14 (v := .slice (some ⟨gc, 0, none⟩) B.length cap) ?_ ?_
        · (simp only [execOp, Act.eval, o13]; go_simp; first | done | (simp; done))
        · exact hK'
      | 1, ho, hun, hdep, hK, hfl, _ =>
        obtain rfl := Option.some.inj ho
        have n12 : lp.getD 12 false = false := by
          cases h : lp.getD 12 false with
          | false => rfl
          | true => have := hR.q2 (hR.q3 (hR.q4 (hR.q11 (hR.q12 h)).1).2); rw [hun] at this; cases this
        have o13 : a'.tmps[13]? = some (.slice (some ⟨gc, 0, none⟩) B.length cap) := (hS.oth 13 (fun k' ok hk hl e => by have := dstG_of (by kernel_rfl) k' 12 ok _ 13 hk rfl e rfl; subst this; rw [n12] at hl; cases hl)).trans rfl
        have hK' := hK g w' (fun _ _ _ _ _ _ => rfl) (by rw [hfl 0 (by decide), hfl 2 (by decide), hfl 3 (by decide), hfl 4 (by decide), hfl 5 (by decide), hfl 6 (by decide), hfl 7 (by decide), hfl 8 (by decide), hfl 9 (by decide), hfl 10 (by decide), hfl 11 (by decide), hfl 12 (by decide), getD_set_same (by rw [hsz]; decide)]; exact ⟨hR.b, hR.oc, hR.d11, hR.d12, fun h => rfl, hR.q3, hR.q4, hR.q7, hR.q8, hR.q9, hR.q10, hR.q11, hR.q12⟩) (.slice (some ⟨gc, 0, none⟩) B.length cap) (by simp only [valO, Option.bind_some]; simp only [putAll, Act.put, List.setIfInBounds_toArray, List.set_cons_zero, List.set_cons_succ]; rfl)
        clear hS hdep hR
        refine gh_quiet14 (v := .slice (some ⟨gc, 0, none⟩) B.length cap) ?_ ?_
        · (simp only [execOp, Act.eval, o13]; go_simp; first | done | (simp; done))
        · exact hK'
      | 2, ho, hun, hdep, hK, hfl, _ =>
        obtain rfl := Option.some.inj ho
        have d1 : lp.getD 1 false = true := hdep { on := 1, ground := .data } (by simp) rfl
        have e63 : a'.tmps[63]? = some (.slice (some ⟨gc, 0, none⟩) B.length cap) := (hS.don 1 _ 63 rfl d1 rfl).trans (by simp only [putAll, Act.put, List.setIfInBounds_toArray, List.set_cons_zero, List.set_cons_succ]; rfl)
        have hK' := hK g w' (fun _ _ _ _ _ _ => rfl) (by rw [hfl 0 (by decide), hfl 1 (by decide), hfl 3 (by decide), hfl 4 (by decide), hfl 5 (by decide), hfl 6 (by decide), hfl 7 (by decide), hfl 8 (by decide), hfl 9 (by decide), hfl 10 (by decide), hfl 11 (by decide), hfl 12 (by decide), getD_set_same (by rw [hsz]; decide)]; exact ⟨hR.b, hR.oc, hR.d11, hR.d12, fun _ => d1, fun h => rfl, hR.q4, hR.q7, hR.q8, hR.q9, hR.q10, hR.q11, hR.q12⟩) (.int .i64 (B.length : Int)) (by simp only [valO, Option.bind_some]; (try simp only [putAll, Act.put, List.setIfInBounds_toArray, List.set_cons_zero, List.set_cons_succ]); (try rfl))
        clear hS hdep hR
        refine gh_quiet14 (v := .int .i64 (B.length : Int)) ?_ ?_
        · (simp only [execOp, Act.eval, e63]; go_simp; first | done | (simp; done) | (simp [*]; done) | omega | (rw [IntKind.wrap_i64]; omega))
        · exact hK'
      | 3, ho, hun, hdep, hK, hfl, _ =>
        obtain rfl := Option.some.inj ho
        have d2 : lp.getD 2 false = true := hdep { on := 2, ground := .data } (by simp) rfl
        have e64 : a'.tmps[64]? = some (.int .i64 (B.length : Int)) := (hS.don 2 _ 64 rfl d2 rfl).trans (by simp only [putAll, Act.put, List.setIfInBounds_toArray, List.set_cons_zero, List.set_cons_succ]; rfl)
        have hK' := hK g w' (fun _ _ _ _ _ _ => rfl) (by rw [hfl 0 (by decide), hfl 1 (by decide), hfl 2 (by decide), hfl 4 (by decide), hfl 5 (by decide), hfl 6 (by decide), hfl 7 (by decide), hfl 8 (by decide), hfl 9 (by decide), hfl 10 (by decide), hfl 11 (by decide), hfl 12 (by decide), getD_set_same (by rw [hsz]; decide)]; exact ⟨hR.b, hR.oc, hR.d11, hR.d12, hR.q2, fun _ => d2, fun h => ⟨(hR.q4 h).1, rfl⟩, hR.q7, hR.q8, hR.q9, hR.q10, hR.q11, hR.q12⟩) (.int .i64 (n4 : Int)) (by simp only [valO, Option.bind_some]; (try simp only [putAll, Act.put, List.setIfInBounds_toArray, List.set_cons_zero, List.set_cons_succ]); (try rfl))
        clear hS hdep hR
        refine gh_quiet14 (v := .int .i64 (n4 : Int)) ?_ ?_
        · (simp only [execOp, Act.eval, e64]; go_simp; first | done | (simp; done) | (simp [*]; done) | omega | (rw [IntKind.wrap_i64]; omega))
        · exact hK'
      | 4, ho, hun, hdep, hK, hfl, _ =>
        obtain rfl := Option.some.inj ho
        have d0 : lp.getD 0 false = true := hdep { on := 0, ground := .data } (by simp) rfl
        have e62 : a'.tmps[62]? = some (.slice (some ⟨gc, 0, none⟩) B.length cap) := (hS.don 0 _ 62 rfl d0 rfl).trans (by simp only [putAll, Act.put, List.setIfInBounds_toArray, List.set_cons_zero, List.set_cons_succ]; rfl)
        have d3 : lp.getD 3 false = true := hdep { on := 3, ground := .data } (by simp) rfl
        have e65 : a'.tmps[65]? = some (.int .i64 (n4 : Int)) := (hS.don 3 _ 65 rfl d3 rfl).trans (by simp only [putAll, Act.put, List.setIfInBounds_toArray, List.set_cons_zero, List.set_cons_succ]; rfl)
        have hK' := hK g w' (fun _ _ _ _ _ _ => rfl) (by rw [hfl 0 (by decide), hfl 1 (by decide), hfl 2 (by decide), hfl 3 (by decide), hfl 5 (by decide), hfl 6 (by decide), hfl 7 (by decide), hfl 8 (by decide), hfl 9 (by decide), hfl 10 (by decide), hfl 11 (by decide), hfl 12 (by decide), getD_set_same (by rw [hsz]; decide)]; exact ⟨hR.b, hR.oc, hR.d11, hR.d12, hR.q2, hR.q3, fun _ => ⟨d0, d3⟩, hR.q7, hR.q8, hR.q9, hR.q10, fun h => ⟨rfl, (hR.q11 h).2⟩, hR.q12⟩) (.slice (some ⟨gc, 0, none⟩) n4 cap) (by simp only [valO, Option.bind_some]; simp only [putAll, Act.put, List.setIfInBounds_toArray, List.set_cons_zero, List.set_cons_succ]; rfl)
        clear hS hdep hR
        refine gh_quiet14 (v := .slice (some ⟨gc, 0, none⟩) n4 cap) ?_ ?_
        · (simp only [execOp, Act.eval, Option.map_some, Option.map_none, Array.getD_eq_getD_getElem?, e62, e65, Option.getD_some]; exact ex17 (HS1.out w'))
        · exact hK'
      | 5, ho, hun, hdep, hK, hfl, _ =>
        obtain rfl := Option.some.inj ho
        have n12 : lp.getD 12 false = false := by
          cases h : lp.getD 12 false with
          | false => rfl
          | true => have := (hR.q9 (hR.q10 (hR.q11 (hR.q12 h)).2)).1; rw [hun] at this; cases this
        have o13 : a'.tmps[13]? = some (.slice (some ⟨gc, 0, none⟩) B.length cap) := (hS.oth 13 (fun k' ok hk hl e => by have := dstG_of (by kernel_rfl) k' 12 ok _ 13 hk rfl e rfl; subst this; rw [n12] at hl; cases hl)).trans rfl
        have hK' := hK g w' (fun _ _ _ _ _ _ => rfl) (by rw [hfl 0 (by decide), hfl 1 (by decide), hfl 2 (by decide), hfl 3 (by decide), hfl 4 (by decide), hfl 6 (by decide), hfl 7 (by decide), hfl 8 (by decide), hfl 9 (by decide), hfl 10 (by decide), hfl 11 (by decide), hfl 12 (by decide), getD_set_same (by rw [hsz]; decide)]; exact ⟨hR.b, hR.oc, hR.d11, hR.d12, hR.q2, hR.q3, hR.q4, hR.q7, hR.q8, fun h => ⟨rfl, (hR.q9 h).2⟩, hR.q10, hR.q11, hR.q12⟩) (.slice (some ⟨gc, 0, none⟩) B.length cap) (by simp only [valO, Option.bind_some]; simp only [putAll, Act.put, List.setIfInBounds_toArray, List.set_cons_zero, List.set_cons_succ]; rfl)
        clear hS hdep hR
        refine gh_quiet14 (v := .slice (some ⟨gc, 0, none⟩) B.length cap) ?_ ?_
        · (simp only [execOp, Act.eval, o13]; go_simp; first | done | (simp; done))
        · exact hK'
      | 6, ho, hun, hdep, hK, hfl, _ =>
        obtain rfl := Option.some.inj ho
        have n12 : lp.getD 12 false = false := by
          cases h : lp.getD 12 false with
          | false => rfl
          | true => have := hR.q7 (hR.q8 (hR.q9 (hR.q10 (hR.q11 (hR.q12 h)).2)).2); rw [hun] at this; cases this
        have o13 : a'.tmps[13]? = some (.slice (some ⟨gc, 0, none⟩) B.length cap) := (hS.oth 13 (fun k' ok hk hl e => by have := dstG_of (by kernel_rfl) k' 12 ok _ 13 hk rfl e rfl; subst this; rw [n12] at hl; cases hl)).trans rfl
        have hK' := hK g w' (fun _ _ _ _ _ _ => rfl) (by rw [hfl 0 (by decide), hfl 1 (by decide), hfl 2 (by decide), hfl 3 (by decide), hfl 4 (by decide), hfl 5 (by decide), hfl 7 (by decide), hfl 8 (by decide), hfl 9 (by decide), hfl 10 (by decide), hfl 11 (by decide), hfl 12 (by decide), getD_set_same (by rw [hsz]; decide)]; exact ⟨hR.b, hR.oc, hR.d11, hR.d12, hR.q2, hR.q3, hR.q4, fun h => rfl, hR.q8, hR.q9, hR.q10, hR.q11, hR.q12⟩) (.slice (some ⟨gc, 0, none⟩) B.length cap) (by simp only [valO, Option.bind_some]; simp only [putAll, Act.put, List.setIfInBounds_toArray, List.set_cons_zero, List.set_cons_succ]; rfl)
        clear hS hdep hR
        refine gh_quiet14 (v := .slice (some ⟨gc, 0, none⟩) B.length cap) ?_ ?_
        · (simp only [execOp, Act.eval, o13]; go_simp; first | done | (simp; done))
        · exact hK'
      | 7, ho, hun, hdep, hK, hfl, _ =>
        obtain rfl := Option.some.inj ho
        have d6 : lp.getD 6 false = true := hdep { on := 6, ground := .data } (by simp) rfl
        have e68 : a'.tmps[68]? = some (.slice (some ⟨gc, 0, none⟩) B.length cap) := (hS.don 6 _ 68 rfl d6 rfl).trans (by simp only [putAll, Act.put, List.setIfInBounds_toArray, List.set_cons_zero, List.set_cons_succ]; rfl)
        have hK' := hK g w' (fun _ _ _ _ _ _ => rfl) (by rw [hfl 0 (by decide), hfl 1 (by decide), hfl 2 (by decide), hfl 3 (by decide), hfl 4 (by decide), hfl 5 (by decide), hfl 6 (by decide), hfl 8 (by decide), hfl 9 (by decide), hfl 10 (by decide), hfl 11 (by decide), hfl 12 (by decide), getD_set_same (by rw [hsz]; decide)]; exact ⟨hR.b, hR.oc, hR.d11, hR.d12, hR.q2, hR.q3, hR.q4, fun _ => d6, fun h => rfl, hR.q9, hR.q10, hR.q11, hR.q12⟩) (.int .i64 (B.length : Int)) (by simp only [valO, Option.bind_some]; (try simp only [putAll, Act.put, List.setIfInBounds_toArray, List.set_cons_zero, List.set_cons_succ]); (try rfl))
        clear hS hdep hR
        refine gh_quiet14 (v := .int .i64 (B.length : Int)) ?_ ?_
        · (simp only [execOp, Act.eval, e68]; go_simp; first | done | (simp; done) | (simp [*]; done) | omega | (rw [IntKind.wrap_i64]; omega))
        · exact hK'
      | 8, ho, hun, hdep, hK, hfl, _ =>
        obtain rfl := Option.some.inj ho
        have d7 : lp.getD 7 false = true := hdep { on := 7, ground := .data } (by simp) rfl
        have e69 : a'.tmps[69]? = some (.int .i64 (B.length : Int)) := (hS.don 7 _ 69 rfl d7 rfl).trans (by simp only [putAll, Act.put, List.setIfInBounds_toArray, List.set_cons_zero, List.set_cons_succ]; rfl)
        have hK' := hK g w' (fun _ _ _ _ _ _ => rfl) (by rw [hfl 0 (by decide), hfl 1 (by decide), hfl 2 (by decide), hfl 3 (by decide), hfl 4 (by decide), hfl 5 (by decide), hfl 6 (by decide), hfl 7 (by decide), hfl 9 (by decide), hfl 10 (by decide), hfl 11 (by decide), hfl 12 (by decide), getD_set_same (by rw [hsz]; decide)]; exact ⟨hR.b, hR.oc, hR.d11, hR.d12, hR.q2, hR.q3, hR.q4, hR.q7, fun _ => d7, fun h => ⟨(hR.q9 h).1, rfl⟩, hR.q10, hR.q11, hR.q12⟩) (.int .i64 (n4 : Int)) (by simp only [valO, Option.bind_some]; (try simp only [putAll, Act.put, List.setIfInBounds_toArray, List.set_cons_zero, List.set_cons_succ]); (try rfl))
        clear hS hdep hR
        refine gh_quiet14 (v := .int .i64 (n4 : Int)) ?_ ?_
        · (simp only [execOp, Act.eval, e69]; go_simp; first | done | (simp; done) | (simp [*]; done) | omega | (rw [IntKind.wrap_i64]; omega))
        · exact hK'
      | 9, ho, hun, hdep, hK, hfl, _ =>
        obtain rfl := Option.some.inj ho
        have d5 : lp.getD 5 false = true := hdep { on := 5, ground := .data } (by simp) rfl
        have e67 : a'.tmps[67]? = some (.slice (some ⟨gc, 0, none⟩) B.length cap) := (hS.don 5 _ 67 rfl d5 rfl).trans (by simp only [putAll, Act.put, List.setIfInBounds_toArray, List.set_cons_zero, List.set_cons_succ]; rfl)
        have d8 : lp.getD 8 false = true := hdep { on := 8, ground := .data } (by simp) rfl
        have e70 : a'.tmps[70]? = some (.int .i64 (n4 : Int)) := (hS.don 8 _ 70 rfl d8 rfl).trans (by simp only [putAll, Act.put, List.setIfInBounds_toArray, List.set_cons_zero, List.set_cons_succ]; rfl)
        have hK' := hK g w' (fun _ _ _ _ _ _ => rfl) (by rw [hfl 0 (by decide), hfl 1 (by decide), hfl 2 (by decide), hfl 3 (by decide), hfl 4 (by decide), hfl 5 (by decide), hfl 6 (by decide), hfl 7 (by decide), hfl 8 (by decide), hfl 10 (by decide), hfl 11 (by decide), hfl 12 (by decide), getD_set_same (by rw [hsz]; decide)]; exact ⟨hR.b, hR.oc, hR.d11, hR.d12, hR.q2, hR.q3, hR.q4, hR.q7, hR.q8, fun _ => ⟨d5, d8⟩, fun h => rfl, hR.q11, hR.q12⟩) (.slice (some ⟨gc, 0, none⟩) n4 cap) (by simp only [valO, Option.bind_some]; simp only [putAll, Act.put, List.setIfInBounds_toArray, List.set_cons_zero, List.set_cons_succ]; rfl)
        clear hS hdep hR
        refine gh_quiet14 (v := .slice (some ⟨gc, 0, none⟩) n4 cap) ?_ ?_
        · (simp only [execOp, Act.eval, Option.map_some, Option.map_none, Array.getD_eq_getD_getElem?, e67, e70, Option.getD_some]; exact ex17 (HS1.out w'))
        · exact hK'
      | 10, ho, hun, hdep, hK, hfl, _ =>
        obtain rfl := Option.some.inj ho
        have d9 : lp.getD 9 false = true := hdep { on := 9, ground := .data } (by simp) rfl
        have e71 : a'.tmps[71]? = some (.slice (some ⟨gc, 0, none⟩) n4 cap) := (hS.don 9 _ 71 rfl d9 rfl).trans (by simp only [putAll, Act.put, List.setIfInBounds_toArray, List.set_cons_zero, List.set_cons_succ]; rfl)
        have n11 : lp.getD 11 false = false := by
          cases h : lp.getD 11 false with
          | false => rfl
          | true => have := (hR.q11 h).2; rw [hun] at this; cases this
        have KC := rsum13 (.slice (some ⟨gc, 0, none⟩) n4 cap) (C.take n4) w' (rwx_take21 (own_rwx (by rw [HCl.out.1]; exact hR.oc n11)) (by rw [HCl.out.1]; exact HKc.out.2)) (by rw [List.length_take, HCl.out.1]; have := HF.out; omega) (fun z hz => HCl.out.2 z (List.mem_of_mem_take hz))
        rw [← HSc.out.1] at KC
        clear hdep
        unfold Oper.wp
        simp only [execOp, Act.eval, Array.getD_eq_getD_getElem?]
        simp [go_sem, e71, Oper.upon]
        refine KC.mono ?_
        rintro e W2 ⟨rfl, hw2⟩
        replace hw2 := hw2.symm
        subst hw2
        exact hK g w' (fun _ _ _ _ _ _ => rfl) (by rw [hfl 0 (by decide), hfl 1 (by decide), hfl 2 (by decide), hfl 3 (by decide), hfl 4 (by decide), hfl 5 (by decide), hfl 6 (by decide), hfl 7 (by decide), hfl 8 (by decide), hfl 9 (by decide), hfl 11 (by decide), hfl 12 (by decide), getD_set_same (by rw [hsz]; decide)]; exact ⟨hR.b, hR.oc, hR.d11, hR.d12, hR.q2, hR.q3, hR.q4, hR.q7, hR.q8, hR.q9, fun _ => d9, fun h => ⟨(hR.q11 h).1, rfl⟩, hR.q12⟩) _ (by simp only [valO, Option.bind_some]; simp only [putAll, Act.put, List.setIfInBounds_toArray, List.set_cons_zero, List.set_cons_succ]; rfl)
      | 11, ho, hun, hdep, hK, hfl, _ =>
        obtain rfl := Option.some.inj ho
        have d4 : lp.getD 4 false = true := hdep { on := 4, ground := .data } (by simp) rfl
        have e66 : a'.tmps[66]? = some (.slice (some ⟨gc, 0, none⟩) n4 cap) := (hS.don 4 _ 66 rfl d4 rfl).trans (by simp only [putAll, Act.put, List.setIfInBounds_toArray, List.set_cons_zero, List.set_cons_succ]; rfl)
        have d10 : lp.getD 10 false = true := hdep { on := 10, ground := .data } (by simp) rfl
        have e72 : a'.tmps[72]? = some (.int .u32 (sc : Int)) := (hS.don 10 _ 72 rfl d10 rfl).trans (by simp only [putAll, Act.put, List.setIfInBounds_toArray, List.set_cons_zero, List.set_cons_succ]; rfl)
        have n12 : lp.getD 12 false = false := by
          cases h : lp.getD 12 false with
          | false => rfl
          | true => have := hR.q12 h; rw [hun] at this; cases this
        have hcut := own_cut21 (hR.oc hun) (m := n4) HKc.out.2
        rw [Nat.mul_one, ← List.map_take] at hcut
        have hl4 : (C.take n4).length = n4 := by rw [List.length_take, HCl.out.1]; have := HKc.out; omega
        have KC := rput21 w3 (.slice (some ⟨gc, 0, none⟩) n4 cap) (C.take n4) sc w' ⟨hR.b, .inl (by rw [hl4]; exact hcut)⟩ (by rw [hl4]; have := HKc.out; have := HF.out; omega) HSc.out.2
        rw [← HD.out.1] at KC
        clear hdep
        unfold Oper.wp
        simp only [execOp, Act.eval, Array.getD_eq_getD_getElem?]
        simp [go_sem, e66, e72, Oper.upon]
        refine KC.mono ?_
        rintro e W2 ⟨v2, rfl, ho2, hb2⟩
        exact hK (v2, g.2) W2 (fun k' ok s hk hl hd => gh_same14 (d := 73) (s := s) (by simp only [putAll, Act.put, List.setIfInBounds_toArray, List.set_cons_zero, List.set_cons_succ]; rfl) (by rintro rfl; have := dstG_of (by kernel_rfl) k' 11 ok _ 73 hk rfl hd rfl; subst this; rw [hun] at hl; cases hl)) (by rw [hfl 0 (by decide), hfl 1 (by decide), hfl 2 (by decide), hfl 3 (by decide), hfl 4 (by decide), hfl 5 (by decide), hfl 6 (by decide), hfl 7 (by decide), hfl 8 (by decide), hfl 9 (by decide), hfl 10 (by decide), hfl 12 (by decide), getD_set_same (by rw [hsz]; decide)]; exact ⟨hb2, fun h => (by cases h), fun _ => ho2, fun h => (by rw [n12] at h; cases h), hR.q2, hR.q3, hR.q4, hR.q7, hR.q8, hR.q9, hR.q10, fun _ => ⟨d4, d10⟩, fun h => rfl⟩) _ (by simp only [valO, Option.bind_some]; simp only [putAll, Act.put, List.setIfInBounds_toArray, List.set_cons_zero, List.set_cons_succ]; rfl)
      | 12, ho, hun, hdep, hK, hfl, _ =>
        obtain rfl := Option.some.inj ho
        have d11 : lp.getD 11 false = true := hdep { on := 11, ground := .data } (by simp) rfl
        have e73 : a'.tmps[73]? = some (g.1) := (hS.don 11 _ 73 rfl d11 rfl).trans (by simp only [putAll, Act.put, List.setIfInBounds_toArray, List.set_cons_zero, List.set_cons_succ]; rfl)
        have hK' := hK (g.1, g.1) w' (fun k' ok s hk hl hd => gh_same14 (d := 13) (s := s) (by simp only [putAll, Act.put, List.setIfInBounds_toArray, List.set_cons_zero, List.set_cons_succ]; rfl) (by rintro rfl; have := dstG_of (by kernel_rfl) k' 12 ok _ 13 hk rfl hd rfl; subst this; rw [hun] at hl; cases hl)) (by rw [hfl 0 (by decide), hfl 1 (by decide), hfl 2 (by decide), hfl 3 (by decide), hfl 4 (by decide), hfl 5 (by decide), hfl 6 (by decide), hfl 7 (by decide), hfl 8 (by decide), hfl 9 (by decide), hfl 10 (by decide), hfl 11 (by decide), getD_set_same (by rw [hsz]; decide)]; exact ⟨hR.b, hR.oc, hR.d11, fun _ => hR.d11 d11, hR.q2, hR.q3, hR.q4, hR.q7, hR.q8, hR.q9, hR.q10, hR.q11, fun _ => d11⟩) g.1 (by simp only [valO, Option.bind_some]; simp only [putAll, Act.put, List.setIfInBounds_toArray, List.set_cons_zero, List.set_cons_succ]; rfl)
        clear hS hdep hR hK
        refine gh_quiet14 (v := g.1) ?_ ?_
        · (simp only [execOp, Act.eval, e73]; go_simp; first | done | (simp; done) | (simp [*]; done))
        · exact hK'
      | n + 13, ho, hun, hdep, hK, hfl, hq => exact absurd hq (by omega)
    case fin12 =>
      intro g X hX
      have h12 := hX.d12 rfl
      have hbX := hX.b
      simp only [putAll, Act.put, List.setIfInBounds_toArray, List.set_cons_zero, List.set_cons_succ]
      obtain ⟨vb, hvb⟩ : ∃ vb, vb = g.2 := ⟨_, rfl⟩
      rw [← hvb] at h12 ⊢
      clear hX hvb HR0 HS1
      obtain ⟨zo, zc, hzv⟩ := own_form h12
      subst hzv
      obtain ⟨X6, hX6⟩ : ∃ X6, X6 = X := ⟨_, rfl⟩
      rw [← hX6] at h12 hbX ⊢
      have HX6 : Hid (Below w.heap.size w X6) := HB3.out.trans (hbX.mono HB3.out.size)
      have HC6 : Hid (X6.ownsRow w3.heap.size 5 1 (.slice zo D.length zc) D.length (D.map cB)) := h12
      have HS6 : Hid (X6.ownsRow w.heap.size 5 1 (.slice (some ⟨gs, 0, none⟩) B.length ks) B.length (B.map cB)) := own_b13 hbX HS3.out
      have HCl6 : Hid (D.length = B.length ∧ ∀ z ∈ D, z < 256) := HD.out.2
      clear hX6 HO5 HB5 HS3 HB3 xc0 xf0 h12 hbX HD HSc HCl HKc
      rw [HCl6.out.1]
      go_wp2_with fail
      have HRd := deltaReads_any _ a _ D X6 (HV.out.1.below HX6.out) (HV.out.2.1.below HX6.out) (by have := HL.out; omega) HV.out.2.2.2.2.1 (own_rowA HC6.out) (own_rwx HC6.out) (by have := HCl6.out; have := HF.out; omega) HCl6.out.2 (HV.out.2.2.2.2.2.2.below HX6.out)
      rw [HCl6.out.1] at HRd
      have HSx := hid13 HS6.out
      clear HC6 HS6
      go_wp2_with fail
      refine HRd.mono ?_
      rintro e w7 ⟨rfl, hb⟩
      have HB7 : Hid (Below w.heap.size w w7) := keepb hb HX6.out
      have HS7 := hid13 (own_b13 hb HSx.out)
      have HRd2 := deltaReads_any _ b _ B w7 (HV.out.2.2.1.below HB7.out) (HV.out.2.2.2.1.below HB7.out) (by have := HL.out; omega) HV.out.2.2.2.2.2.1 (own_rowA HS7.out) (own_rwx HS7.out) (by have := HF.out; omega) HF.out.2.1 (HV.out.2.2.2.2.2.2.below HB7.out)
      clear hb HRd HSx HX6
      go_wp2_with fail
      refine HRd2.mono ?_
      rintro e w8 ⟨rfl, hb⟩
      have HB8 : Hid (Below w.heap.size w w8) := keepb hb HB7.out
      have HS8 := hid13 (own_b13 hb HS7.out)
      clear hb HRd2 HS7 HB7
      obtain ⟨k, hk⟩ : ∃ k : Nat, (k : Int) = wth at0 (B.length : Int) := ⟨(wth at0 (B.length : Int)).toNat, by have := wth_in at0 (B.length : Int) (by have := HF.out; omega); omega⟩
      have hkl : k < B.length := by have := wth_in at0 (B.length : Int) (by have := HF.out; omega); omega
      have KK := within21 at0 (B.length : Int) (by have := HF.out; omega) (by have := HF.out; omega) w8
      rw [← hk] at KK
      have hsk : ∀ X, Sem.run Tryd.prog (Instr.sliceAt 22 (.slice (some ⟨gs, 0, none⟩) B.length ks) none (some (.int .i64 (k : Int))) none) X = .ok (.slice (some ⟨gs, 0, none⟩) k ks) X := fun X => run_slice_to (P := Tryd.prog) (w := X) Tryd.underlying22 ji (some ⟨gs, 0, none⟩) B.length ks k (by have := HSb.out; omega)
      have hkc : (k : Int) ≤ (ks : Int) := by have := HSb.out; omega
      have HKf := hid13 (HC.out.1 k hkl)
      have hlk : (B.take k).length = k := by rw [List.length_take]; omega
      have hck := own_cut21 HS8.out (m := k) (by omega)
      rw [Nat.mul_one, ← List.map_take] at hck
      have KP := parse21 _ a (.slice (some ⟨gs, 0, none⟩) k ks) (B.take k) w8 (HV.out.2.1.below HB8.out) HV.out.2.2.2.2.1 (by have := HL.out; omega) (rwx_take21 (own_rwx HS8.out) (by omega)) (by rw [hlk]; exact rowA_take21 (own_rowA HS8.out) (by omega)) (fun z hz => HF.out.2.1 z (List.mem_of_mem_take hz)) (by rw [hlk]; have := HF.out; omega) (HV.out.2.2.2.2.2.2.below HB8.out)
      obtain ⟨pe, hpe⟩ : ∃ e, e = (psR a (B.take k)).1 := ⟨_, rfl⟩
      rw [← hpe] at HKf
      have HPe := hid13 hpe
      clear hk hkl hlk hck hpe
      go_wp2_with fail
      refine KK.mono ?_
      rintro e wq ⟨rfl, hwq⟩
      replace hwq := hwq.symm
      subst hwq
      clear KK
      go_wp2_with fail
      refine KP.mono ?_
      rintro e w9 ⟨v9, rfl, hp9, hb⟩
      rw [← HPe.out]
      have HB9 : Hid (Below w.heap.size w w9) := keepb hb HB8.out
      have HS9 := hid13 (own_b13 hb HS8.out)
      obtain ⟨o9, c9, hv9⟩ : ∃ o c, v9 = .slice o (psR a (B.take k)).2.length c := by obtain ⟨o, c, h, -⟩ := hp9; exact ⟨o, c, h⟩
      subst hv9
      generalize (psR a (B.take k)).2.length = n9 at *
      clear hb hp9 KP HS8 HB8 hsk
      have qa := bl1 w9 (.cells #[] 5)
      have oa : (w9.alloc (.cells #[] 5)).ownsRow w9.heap.size 5 1 (.slice (some ⟨w9.heap.size, 0, none⟩) 0 0) 0 [] := World.ownsRow_made w9 #[] 0 (Nat.le_refl _) (by unfold maxLen; omega) (by simp)
      have ra := (HV.out.1.below HB9.out).below qa
      go_wp2_with (at_builtin; apply stopHere9)
      refine (show wpList _ _ _ _ _ _ from ?_)
      refine wpList_append_rowA rfl _ _ 22 rfl w9.heap.size 5 i0 (.int .u8 0) 1 1 Tryd.underlying22 ji jz0 jz1 jz2 rfl (by decide) _ 0 [] rfl oa _ a.length (a.map cB) rfl ra (cB_one a) (by have := HL.out; unfold maxLen; omega) (by have := HL.out; omega) qa.size ?_
      intro ao1 ac1 w10 hO hg
      rw [Nat.zero_add, List.nil_append] at hO
      rw [Nat.zero_add]
      have HB10 : Hid (Below w9.heap.size w9 w10) := hid13 (qa.grown hg qa.size (fun z hz => (oa.lt z hz).1))
      have HO10 := hid13 hO
      clear hO hg oa ra qa
      have qb := bl1 w10 (.cells #[.int .u8 1] 5)
      have rb := lit_rwx21 (f := cB) w10 #[.int .u8 1] 5 (0, 0) [1] rfl
      have ob := own_b13 qb HO10.out
      have HBb : Hid (Below w9.heap.size w9 (w10.alloc (.cells #[.int .u8 1] 5))) := hid13 (HB10.out.trans (qb.mono HB10.out.size))
      go_wp2_with (at_builtin; apply stopHere9)
      refine (show wpList _ _ _ _ _ _ from ?_)
      refine wpList_append_rowA rfl _ _ 22 rfl w9.heap.size 5 i0 (.int .u8 0) 1 1 Tryd.underlying22 ji jz0 jz1 jz2 rfl (by decide) _ a.length (a.map cB) rfl ob _ 1 ([1].map cB) rfl (rb.row (fun h => by cases h)) (cB_one [1]) (by have := HL.out; unfold maxLen; omega) (by have := HL.out; omega) HBb.out.size ?_
      intro ao2 ac2 w11 hO hg
      have HB11 : Hid (Below w9.heap.size w9 w11) := hid13 (HBb.out.grown hg HBb.out.size (fun z hz => (ob.lt z hz).1))
      rw [← List.map_append] at hO
      have hl1 : a.length + 1 = (a ++ [1]).length := by simp
      rw [hl1] at hO ⊢
      have HO11 := hid13 hO
      have HBz : Hid (Below w.heap.size w w11) := HB9.out.trans (HB11.out.mono HB9.out.size)
      have HS11 := hid13 (own_b13 HB11.out HS9.out)
      have HPa := HC.out.2
      have HA1 : Hid ((a ++ [1]).length ≤ 40000 ∧ ∀ z ∈ a ++ [1], z < 256) := by
        refine ⟨by rw [List.length_append]; have := HL.out; show a.length + 1 ≤ _; omega, fun z hz => ?_⟩
        rcases List.mem_append.1 hz with h | h
        · exact HV.out.2.2.2.2.1 z h
        · simp at h; omega
      obtain ⟨a1, ha1⟩ : ∃ a1, a1 = a ++ [1] := ⟨_, rfl⟩
      rw [← ha1] at HO11 HPa HA1 ⊢
      have HPa2 := hid13 HPa
      clear hO hg ob rb qb hl1 HB10 HO10 HBb HB11 HS9 HB9 ha1 HPa
      have KP2 := parse21 _ a1 _ B w11 (own_rwx HO11.out) HA1.out.2 (by have := HA1.out; omega) (own_rwx HS11.out) (own_rowA HS11.out) HF.out.2.1 (by have := HF.out; omega) (HV.out.2.2.2.2.2.2.below HBz.out)
      have hne : (pe != 0) = true := by have := HKf.out; simpa using this
      go_wp2_with fail
      refine KP2.mono ?_
      rintro e w12 ⟨v12, rfl, hp12, hb⟩
      rw [HPa2.out] at hp12 ⊢
      simp only at hp12 ⊢
      have HB12 : Hid (Below w.heap.size w w12) := keepb hb HBz.out
      obtain ⟨o12, c12, hv12⟩ : ∃ o c, v12 = .slice o 0 c := by obtain ⟨o, c, h, -⟩ := hp12; exact ⟨o, c, h⟩
      subst hv12
      clear hb hp12 KP2 HS11
      go_wp2
      go_ret
      exact ⟨by first | rfl | simp, HB12.out⟩
end Go.Proofs.YtiachojhnbicaabDoor
