/-
  Part 7 of the proof: 3 texts, one behind the other.
-/
import Derived.Test.YtiachojhnbicaabPart6
import Derived.Test.YtiachojhnbicaabPart1
import Derived.Deep.Slices
import Derived.Carry
import Derived.SizedLaws
import Derived.ProofKit
import Derived.Lib.SmallJoins
import Derived.Test.YtiachojhnbicaabPart2
import Derived.Deep.Strs
namespace Go.Proofs.Ytiachojhnbicaab
open Go.RowKit Go.Shelf
set_option linter.unusedSimpArgs false
set_option linter.unusedVariables false
attribute [local go_sem] Oper.semAt_some

theorem len_le_wtO {L : List Pt} {k : Nat} {p : Pt} (h : L[k]? = some p) : p.x.length ≤ wt21 L := by
  have h1 := wt21_take h
  have h2 := wt21_le (L := L) (k + 1)
  omega
theorem own_start21 {w w4 w6 : World} {N3 : Nat} {v : Value} {a b : List Nat} (h : DfO N3 w4 v a b) (hb : Below w4.heap.size w4 w6) (hw : Below w.heap.size w w6) (hl : 0 < (dfL a b).length) : ∃ z K D vb R, v = .slice (some ⟨z, 0, none⟩) 1 1 ∧ OwX21 w w6 w6 N3 w4.heap.size z K D vb R ∧ N3 ≤ z ∧ z < w4.heap.size ∧ R.length ≤ b.length := by
  unfold DfO at h
  have hwt := wt_dfO a b
  unfold dfL at hl hwt
  by_cases hab : a = b
  · rw [if_pos hab] at hl; exact absurd hl (by decide)
  · rw [if_neg hab] at h hwt
    obtain ⟨z, vx, rfl, h1, h2, h3⟩ := h
    refine ⟨z, (dfP a b).k, (dfP a b).d, vx, (dfP a b).x, rfl, ⟨hw, KX.refl _ _, ?_, own_b13 hb h2, fun g hg => ⟨.inl (h2.lt g hg), fun e => h3 (by rw [← e]; exact hg)⟩⟩, (h1.lt z rfl).1, (h1.lt z rfl).2, by simp only [wt21, List.map_cons, List.map_nil, List.sum_cons, List.sum_nil] at hwt; omega⟩
    rw [hb.block z (h1.lt z rfl).2]
    rcases h1.2 with ⟨h, _⟩ | ⟨g, cap, cur, h, -, hg, -, -, hcs, htk⟩
    · cases h
    · injection h with e1 e2 e3
      injection e1 with e1
      injection e1 with e1
      subst e1 e3
      rw [hg]
      congr 2
      have hs : cur.toList.length = 3 := by simpa using hcs
      rw [List.take_of_length_le (by rw [hs]; decide)] at htk
      rw [← htk]
set_option maxRecDepth 100000 in
set_option maxHeartbeats 64000000 in
theorem deltaOwn_any (v : Value) (a : List Nat) (u : Value) (b : List Nat) (w : World) (hA : RowA w 1 v a.length (a.map cB)) (hv : RwX cB w v a) (hx : ∀ z ∈ a, z < 256) (hB : RowA w 1 u b.length (b.map cB)) (hu : RwX cB w u b) (hy : ∀ z ∈ b, z < 256) :
    Calls Try.prog 3 #[v, u] w fun e w' => e = .returned (.bool true) ∧ Below w.heap.size w w' := by
  obtain ⟨i0, hi, hz0, hz1, hz2⟩ := info13 Try.infoB13
  obtain ⟨ao, c, hvf, hc, -⟩ := id hv
  obtain ⟨bo, d, huf, hd, -⟩ := id hu
  have HV : Hid (RowA w 1 v a.length (a.map cB) ∧ RwX cB w v a ∧ RowA w 1 u b.length (b.map cB) ∧ RwX cB w u b ∧ (∀ z ∈ a, z < 256) ∧ (∀ z ∈ b, z < 256)) := ⟨hA, hv, hB, hu, hx, hy⟩
  subst hvf huf
  clear hA hv hB hu hx hy hc hd
  go_enter Try.func3, Try.ntmps3
  go_wp2_with fail
  refine (known21 w).mono ?_
  rintro e w1 ⟨rfl, hb⟩
  have HB1 := hid13 hb
  clear hb
  by_cases h1 : (32768 : Int) < (a.length : Int)
  · have d1 : decide ((32768 : Int) < (a.length : Int)) = true := decide_eq_true h1
    go_wp2
    go_ret
    exact ⟨rfl, HB1.out⟩
  have d1 : decide ((32768 : Int) < (a.length : Int)) = false := decide_eq_false h1
  by_cases h2 : (32768 : Int) < (b.length : Int)
  · have d2 : decide ((32768 : Int) < (b.length : Int)) = true := decide_eq_true h2
    go_wp2
    go_ret
    exact ⟨rfl, HB1.out⟩
  have d2 : decide ((32768 : Int) < (b.length : Int)) = false := decide_eq_false h2
  have HL : Hid (a.length ≤ 32768 ∧ b.length ≤ 32768) := ⟨by omega, by omega⟩
  have wa : IntKind.i64.wrap ((a.length : Int) + 20) = (a.length : Int) + 20 := by rw [IntKind.wrap_i64]; omega
  have wb : IntKind.i64.wrap ((b.length : Int) + 20) = (b.length : Int) + 20 := by rw [IntKind.wrap_i64]; omega
  obtain ⟨cur1, hmk1, hcs1⟩ := make0_21 w1 i0 hi hz0 hz1 hz2 (a.length + 20) (by have := HL.out; omega)
  rw [show ((a.length + 20 : Nat) : Int) = (a.length : Int) + 20 from by omega] at hmk1
  have q1 := bl1 w1 (.cells cur1 5)
  have o1 : (w1.alloc (.cells cur1 5)).ownsRow w.heap.size 5 1 (.slice (some ⟨w1.heap.size, 0, none⟩) 0 (a.length + 20)) 0 [] := World.ownsRow_made w1 cur1 (a.length + 20) HB1.out.size (by have := HL.out; unfold maxLen; omega) hcs1
  have r1 := HV.out.1.below (keepb q1 HB1.out)
  go_wp2_with (at_builtin; apply stopHere9)
  refine (show wpList _ _ _ _ _ _ from ?_)
  refine wpList_append_rowA rfl _ _ 22 rfl w.heap.size 5 i0 (.int .u8 0) 1 1 Try.underlying22 hi hz0 hz1 hz2 rfl (by decide) _ 0 [] rfl o1 _ a.length (a.map cB) rfl r1 (cB_one a) (by have := HL.out; unfold maxLen; omega) (by have := HL.out; omega) (keepb q1 HB1.out).size ?_
  intro x1o x1c w2 hO hg
  rw [Nat.zero_add, List.nil_append] at hO
  rw [Nat.zero_add]
  have HB2 : Hid (Below w.heap.size w w2) := hid13 ((keepb q1 HB1.out).grown hg (keepb q1 HB1.out).size (fun z hz => (o1.lt z hz).1))
  have hbn1 : Below w1.heap.size w1 w2 := q1.grown hg q1.size (fun z hz => by injection hz with hz; subst hz; exact Nat.le_refl _)
  have HX2 := hid13 hO
  clear hO hg o1 r1 q1 hbn1 HB1 hmk1 hcs1 h1 h2 wa d1 d2
  obtain ⟨cur2, hmk2, hcs2⟩ := make0_21 w2 i0 hi hz0 hz1 hz2 (b.length + 20) (by have := HL.out; omega)
  rw [show ((b.length + 20 : Nat) : Int) = (b.length : Int) + 20 from by omega] at hmk2
  have q2 := bl1 w2 (.cells cur2 5)
  have o2 : (w2.alloc (.cells cur2 5)).ownsRow w.heap.size 5 1 (.slice (some ⟨w2.heap.size, 0, none⟩) 0 (b.length + 20)) 0 [] := World.ownsRow_made w2 cur2 (b.length + 20) HB2.out.size (by have := HL.out; unfold maxLen; omega) hcs2
  have r2 := HV.out.2.2.1.below (keepb q2 HB2.out)
  go_wp2_with (at_builtin; apply stopHere9)
  refine (show wpList _ _ _ _ _ _ from ?_)
  refine wpList_append_rowA rfl _ _ 22 rfl w.heap.size 5 i0 (.int .u8 0) 1 1 Try.underlying22 hi hz0 hz1 hz2 rfl (by decide) _ 0 [] rfl o2 _ b.length (b.map cB) rfl r2 (cB_one b) (by have := HL.out; unfold maxLen; omega) (by have := HL.out; omega) (keepb q2 HB2.out).size ?_
  intro x2o x2c w3 hO hg
  rw [Nat.zero_add, List.nil_append] at hO
  rw [Nat.zero_add]
  have HB3 : Hid (Below w.heap.size w w3) := hid13 ((keepb q2 HB2.out).grown hg (keepb q2 HB2.out).size (fun z hz => (o2.lt z hz).1))
  have hbn2 : Below w2.heap.size w2 w3 := q2.grown hg q2.size (fun z hz => by injection hz with hz; subst hz; exact Nat.le_refl _)
  have HX3 := hid13 (own_b13 hbn2 HX2.out)
  have HY3 := hid13 hO
  clear hO hg o2 r2 q2 hbn2 HB2 hmk2 hcs2 wb HX2
  go_wp2_with fail
  refine (diff21 _ _ a b w3 (own_rwx HX3.out) (own_rwx HY3.out) (own_rowA HX3.out) (own_rowA HY3.out) HV.out.2.2.2.2.1 HV.out.2.2.2.2.2 (by have := HL.out; omega) (by have := HL.out; omega)).mono ?_
  rintro e w4 ⟨v4, rfl, hd4, hb4⟩
  have HB4 : Hid (Below w.heap.size w w4) := keepb hb4 HB3.out
  have HX4 := hid13 (own_b13 hb4 HX3.out)
  have HY4 := hid13 (own_b13 hb4 HY3.out)
  have HXl : Hid (∀ g, (Value.slice x1o a.length x1c).ownBlock = some g → g < w3.heap.size) := fun g hg => (HX3.out.lt g hg).2
  have HYl : Hid (∀ g, (Value.slice x2o b.length x2c).ownBlock = some g → g < w3.heap.size) := fun g hg => (HY3.out.lt g hg).2
  have HD4 := hid13 hd4
  have HS4 : Hid (w.heap.size ≤ w3.heap.size ∧ w3.heap.size ≤ w4.heap.size) := ⟨HB3.out.size, hb4.size⟩
  obtain ⟨xo, xc, hv4⟩ : ∃ o c, v4 = .slice o (dfL a b).length c := by obtain ⟨o, c, h, -⟩ := dfo_ptr hd4; exact ⟨o, c, h⟩
  subst hv4
  clear hd4 hb4 HX3 HY3 HB3
  go_wp2_with fail
  refine (diff21 _ _ a b w4 (own_rwx HX4.out) (own_rwx HY4.out) (own_rowA HX4.out) (own_rowA HY4.out) HV.out.2.2.2.2.1 HV.out.2.2.2.2.2 (by have := HL.out; omega) (by have := HL.out; omega)).mono ?_
  rintro e w5 ⟨v5, rfl, hd5, hb5⟩
  have HB5 : Hid (Below w.heap.size w w5) := keepb hb5 HB4.out
  have HX5 := hid13 (own_b13 hb5 HX4.out)
  have HY5 := hid13 (own_b13 hb5 HY4.out)
  have HD5 := hid13 hd5
  have HS5 := hid13 hb5
  obtain ⟨yo, yc, hv5⟩ : ∃ o c, v5 = .slice o (dfL a b).length c := by obtain ⟨o, c, h, -⟩ := dfo_ptr hd5; exact ⟨o, c, h⟩
  subst hv5
  clear hd5 hb5 HX4 HY4 HB4
  have hwt := wt_dfO a b
  have hfit := fit_dfO a b
  have hln : (dfL a b).length ≤ 1 := by rw [dfL_len]; split <;> decide
  have hbd : ∀ p ∈ dfL a b, p.x.length ≤ b.length := by
    intro p hp
    obtain ⟨j, hj⟩ := List.getElem?_of_mem hp
    have := len_le_wtO hj
    omega
  have HE : Hid (apE a (dfL a b) = 0 ∧ apL a (dfL a b) = b ∧ (dfL a b).length ≤ 1 ∧ wt21 (dfL a b) ≤ b.length ∧ ∀ p ∈ dfL a b, ∀ z ∈ p.x, z < 256) := ⟨by unfold apE; rw [if_pos hfit], ap_dfO a b, hln, hwt, dfL_lt HV.out.2.2.2.2.2⟩
  have KT := twinM21 _ (dfL a b) w5 (dfo_ptr HD5.out) (by omega) (fun p hp => by have := hbd p hp; have := HL.out; omega)
  clear hwt hfit hln hbd
  go_wp2_with fail
  refine KT.mono ?_
  rintro e w6 ⟨v6, rfl, hd6, hb6⟩
  have HB6 : Hid (Below w.heap.size w w6) := keepb hb6 HB5.out
  have HX6 := hid13 (own_b13 hb6 HX5.out)
  have HY6 := hid13 (own_b13 hb6 HY5.out)
  have HXS : Hid (0 < (dfL a b).length → ∃ z K D vb R, Value.slice xo (dfL a b).length xc = .slice (some ⟨z, 0, none⟩) 1 1 ∧ OwX21 w w6 w6 w3.heap.size w4.heap.size z K D vb R ∧ w3.heap.size ≤ z ∧ z < w4.heap.size ∧ R.length ≤ b.length) := own_start21 HD4.out (HS5.out.trans (hb6.mono HS5.out.size)) HB6.out
  obtain ⟨F, hF⟩ : ∃ F : Nat → Prop, F = fun z => w3.heap.size ≤ z ∧ z < w4.heap.size := ⟨_, rfl⟩
  have HPk : Hid (∀ W, KX F w6 W → RwX cB W (.slice x1o a.length x1c) a ∧ RowA W 1 (.slice x1o a.length x1c) a.length (a.map cB)) := fun W hW => by
    have h := own_keep18 HX6.out (fun g hg => hW.2 g (HX6.out.lt g hg).2 (by rw [hF]; have := HXl.out g hg; dsimp only; omega))
    exact ⟨own_rwx h, own_rowA h⟩
  have HQk : Hid (∀ W, KX F w6 W → RwX cB W (.slice x2o b.length x2c) b) := fun W hW => own_rwx (own_keep18 HY6.out (fun g hg => hW.2 g (HY6.out.lt g hg).2 (by rw [hF]; have := HYl.out g hg; dsimp only; omega)))
  have HYk : Hid (∀ W, KX F w6 W → PtR21 W (.slice yo (dfL a b).length yc) (dfL a b)) := fun W hW => dfo_ptM HD5.out W (fun z h1 h2 => (hW.2 z (by have := hb6.size; omega) (by rw [hF]; dsimp only; omega)).trans (hb6.block z h2))
  have HWk : Hid (∀ W, KX F w6 W → PtR21 W v6 (dfL a b)) := fun W hW => hd6 W (fun z h1 h2 => hW.2 z h2 (by rw [hF]; have := HS5.out.size; dsimp only; omega))
  obtain ⟨zo, zc, hv6⟩ : ∃ o c, v6 = .slice o (dfL a b).length c := by obtain ⟨o, c, h, -⟩ := HWk.out w6 (KX.refl _ _); exact ⟨o, c, h⟩
  subst hv6
  have HNs : Hid (w.heap.size ≤ w3.heap.size ∧ w4.heap.size ≤ w6.heap.size) := ⟨HS4.out.1, by have := HS5.out.size; have := hb6.size; omega⟩
  obtain ⟨N3, hN3⟩ : ∃ N, N = w3.heap.size := ⟨_, rfl⟩
  obtain ⟨N4, hN4⟩ : ∃ N, N = w4.heap.size := ⟨_, rfl⟩
  rw [← hN3, ← hN4] at HXS hF
  rw [← hN3, ← hN4] at HNs
  have HF := hid13 hF
  clear KT hd6 hb6 HX5 HY5 HB5 HX6 HY6 HD4 HD5 HS4 HS5 HXl HYl hF hN3 hN4
  generalize dfL a b = L at *
  go_wp2_with fail
  go_loopg [10] L.length (fun g i wr => ∃ (j : Nat), j + g = L.length ∧ i = .int .i64 (j : Int) ∧ Hid (j = 0 → 0 < L.length → ∃ z K D vb R, Value.slice xo L.length xc = .slice (some ⟨z, 0, none⟩) 1 1 ∧ OwX21 w w6 wr N3 N4 z K D vb R ∧ N3 ≤ z ∧ z < N4 ∧ R.length ≤ b.length) ∧ Hid (Below w.heap.size w wr ∧ KX F w6 wr))
  case atStart => exact ⟨0, by omega, rfl, fun _ h => HXS.out h, ⟨HB6.out, KX.refl _ _⟩⟩
  case round =>
    clear HXS HB6
    obtain ⟨j, hj, rfl, HX, HK⟩ := hrel
    by_cases hlt : j < L.length
    · have hj0 : j = 0 := by have := HE.out.2.2.1; omega
      subst hj0
      obtain ⟨z, K, D, vb, R, hv4, hW, hz1, hz2, hRl⟩ := HX.out rfl hlt
      injection hv4 with e1 e2 e3
      subst e1
      have li : ((0 : Nat) : Int) < (L.length : Int) := by omega
      have li0 : (0 : Int) < (L.length : Int) := by omega
      have HG : Hid (0 < gk ∧ L.length = 1) := ⟨by omega, e2⟩
      obtain ⟨vo, vc, hvb⟩ := own_form hW.o
      subst hvb
      have HW0 := hid13 hW
      have HZ : Hid (w.heap.size ≤ N3 ∧ N3 ≤ z ∧ z < N4 ∧ N4 ≤ w6.heap.size) := ⟨HNs.out.1, hz1, hz2, HNs.out.2⟩
      have HRl : Hid (R.length ≤ 32768) := by have := HL.out; show _ ≤ _; omega
      have e0 : ((0 : Nat) : Int) = 0 := rfl
      clear hW hz1 hz2 hRl hj hlt HX HK e2 e3
      go_wp2_with fail
      go_loopg [11] R.length (fun g i wr => ∃ (k : Nat) (R2 : List Nat), k + g = R.length ∧ i = .int .i64 (k : Int) ∧ Hid (OwX21 w w6 wr N3 N4 z K D (.slice vo R2.length vc) R2) ∧ Hid (R2.length = R.length))
      case atStart => exact ⟨0, R, by omega, rfl, HW0, rfl⟩
      case round =>
        clear HW0
        obtain ⟨k, R2, hk, rfl, HW, HR2⟩ := hrel
        have x2 := at_16 HW.out.i 2 _ rfl
        rw [HR2.out] at x2
        by_cases hlt : k < R.length
        · have hli : (k : Int) < (R.length : Int) := by omega
          obtain ⟨g, cg, hv, -, -⟩ := HW.out.o.form (by rw [HR2.out]; omega)
          injection hv with e1 e2 e3
          subst e1
          have hcell : ∃ u, wr.cell? ⟨g, k, none⟩ = some u := by
            rw [HW.out.o.cellAt k (by rw [HR2.out]; omega)]
            exact ⟨_, List.getElem?_eq_getElem (by rw [List.length_map, HR2.out]; exact hlt)⟩
          obtain ⟨u, hu⟩ := hcell
          have hf := HW.out.o.frozenAt k
          have HST := hid13 (HW.out.store (j := k) HZ.out.1 238)
          have HR3 : Hid ((R2.set k 238).length = R.length) := by show _ = _; rw [List.length_set]; exact HR2.out
          have mj : IntKind.i64.wrap ((k : Int) + 1) = (k : Int) + 1 := by rw [IntKind.wrap_i64]; have := HRl.out; omega
          have HJ : Hid (k + gk = R.length ∧ k < R.length) := ⟨hk, hlt⟩
          clear hk hlt e2 e3 HW HR2
          go_wp2
          go_roundg (gk - 1)
          case measure => have := HJ.out; omega
          case rel => exact ⟨k + 1, R2.set k 238, by have := HJ.out; omega, rfl, HST, HR3⟩
        · have hli : ¬ (k : Int) < (R.length : Int) := by omega
          have HR3 : Hid (R2.length ≤ 32768) := by show _ ≤ _; rw [HR2.out]; exact HRl.out
          clear hk hlt HR2
          go_wp2_with fail
          go_loopg [12] 20 (fun g i wr => ∃ (t : Nat) (vb : Value) (R3 : List Nat), t + g = 20 ∧ i = .int .i64 (t : Int) ∧ Hid (OwX21 w w6 wr N3 N4 z K D vb R3) ∧ Hid (R3.length ≤ 32768 + t))
          case atStart => exact ⟨0, _, R2, by omega, rfl, HW, by have := HR3.out; show _ ≤ _; omega⟩
          case round =>
            clear HW HR3 x2 hli
            obtain ⟨t, vb, R3, ht, rfl, HW, HR3⟩ := hrel
            by_cases hlt : t < 20
            · have hli : (t : Int) < 20 := by omega
              have q11 := bl1 wr (.cells #[.int .u8 221] 5)
              have HW4 := hid13 (HW.out.below q11)
              obtain ⟨vo3, vc3, hvv⟩ := own_form HW.out.o
              subst hvv
              have p2 := at_16 HW.out.i 2 _ rfl
              have h63 : R3.length + 1 ≤ maxLen := by have := HR3.out; unfold maxLen; omega
              have h47 : (R3.length + 1) * 1 ≤ 140737488355328 := by have := HR3.out; omega
              have hAs : N3 ≤ (wr.alloc (.cells #[.int .u8 221] 5)).heap.size := by have := HZ.out; have := HW4.out.k.1; omega
              have mj : IntKind.i64.wrap ((t : Int) + 1) = (t : Int) + 1 := by rw [IntKind.wrap_i64]; omega
              have HJ : Hid (t + gk = 20 ∧ t < 20) := ⟨ht, hlt⟩
              clear ht hlt q11 HW
              go_wp2_with (at_builtin; apply stopHere9)
              refine (show wpList _ _ _ _ _ _ from ?_)
              refine wpList_append_lies _ rfl _ _ 22 rfl N3 5 i0 (.int .u8 0) 1 1 Try.underlying22 hi hz0 hz1 hz2 rfl (by decide) _ R3.length (R3.map cB) rfl HW4.out.o ⟨wr.heap.size, 0, none⟩ 1 1 [.int .u8 221] rfl rfl (news13 (by simp [go_sem])) (by intro u hu; simp at hu; subst hu; rfl) (by decide) h63 h47 hAs _ rfl ?_
              intro g4 cap4 w14 hown4 hgrow hat hlt4
              obtain ⟨hi4, hd4⟩ := HW4.out.app HZ.out.1 HZ.out.2.1 HZ.out.2.2.1 HZ.out.2.2.2 (R' := R3 ++ [221]) (v' := .slice (some ⟨g4, 0, none⟩) (R3.length + 1) cap4) (by rw [List.length_append, List.map_append]; exact hown4) hgrow (fun z hz => by simp only [Value.ownBlock, Option.some.injEq] at hz; subst hz; exact hat)
              have HD4 := hid13 hd4
              have y2 := at_16 hi4 2 _ rfl
              have z2 := fr_16 (j := 2) hi4
              clear hown4 hgrow hat hlt4 h63 h47 hAs HW4 hd4 p2 hi4
              go_wp2
              go_roundg (gk - 1)
              case measure => have := HJ.out; omega
              case rel => exact ⟨t + 1, _, R3 ++ [221], by have := HJ.out; omega, rfl, HD4, by show _ ≤ _; rw [List.length_append]; have := HR3.out; show R3.length + 1 ≤ _; omega⟩
            · have hli : ¬ (t : Int) < 20 := by omega
              have HPt := hid13 (HW.out.put HZ.out.1 HZ.out.2.1 HZ.out.2.2.1 (.int .i64 (-1)) (.int .i64 0) (.slice none 0 0))
              have hi4 := HW.out.i
              have y0 := at_16 hi4 0 _ rfl
              have y1 := at_16 hi4 1 _ rfl
              have y2 := at_16 hi4 2 _ rfl
              have z0 := fr_16 (j := 0) hi4
              have z1 := fr_16 (j := 1) hi4
              have z2 := fr_16 (j := 2) hi4
              have HPt2 : Hid (Below w.heap.size w (((wr.setCell ⟨z, 0, none⟩ (.int .i64 (-1))).setCell ⟨z, 1, none⟩ (.int .i64 0)).setCell ⟨z, 2, none⟩ (.slice none 0 0)) ∧ KX F w6 (((wr.setCell ⟨z, 0, none⟩ (.int .i64 (-1))).setCell ⟨z, 1, none⟩ (.int .i64 0)).setCell ⟨z, 2, none⟩ (.slice none 0 0))) := by rw [HF.out]; exact HPt.out
              clear HW HR3 ht hlt hi4 HPt
              go_wp2
              go_roundg 0
              case measure => exact HG.out.1
              case rel => exact ⟨1, by have := HG.out; omega, rfl, fun h => absurd h (by decide), HPt2⟩
    · have hli : ¬ (j : Int) < (L.length : Int) := by omega
      clear hj hlt HX
      have HP0 := hid13 (HPk.out wr HK.out.2)
      have HQ0 := hid13 (HQk.out wr HK.out.2)
      have KS := same21 _ _ L L wr (HYk.out wr HK.out.2) (HWk.out wr HK.out.2) HE.out.2.2.2.2 HE.out.2.2.2.2 (by have := HE.out; omega)
      rw [smL_self] at KS
      go_wp2_with fail
      refine KS.mono ?_
      rintro e w7 ⟨rfl, hb7⟩
      have HB7 := hid13 (keepb hb7 HK.out.1)
      have HK7 := hid13 (HK.out.2.below hb7)
      have cv1 := conv13 (HPk.out w7 HK7.out).1 HV.out.2.2.2.2.1
      have cv2 := conv13 (HV.out.2.1.below HB7.out) HV.out.2.2.2.2.1
      have cv3 := conv13 (HQk.out w7 HK7.out) HV.out.2.2.2.2.2
      have cv4 := conv13 (HV.out.2.2.2.1.below HB7.out) HV.out.2.2.2.2.2
      have KA := apply21 _ a _ L w7 (HPk.out w7 HK7.out).2 (HYk.out w7 HK7.out) (by have := HE.out; omega) (by have := HE.out; have := HL.out; omega)
      rw [HE.out.1, HE.out.2.1] at KA
      clear KS hb7 HP0 HQ0 HK
      go_wp2_with fail
      refine KA.mono ?_
      rintro e w8 ⟨v8, rfl, ho8, hb8⟩
      have HB8 := hid13 (keepb hb8 HB7.out)
      have HK8 := hid13 (HK7.out.below hb8)
      have HO8 := hid13 ho8
      have HS8 := hid13 hb8.size
      have KA := apply21 _ a _ L w8 (HPk.out w8 HK8.out).2 (HYk.out w8 HK8.out) (by have := HE.out; omega) (by have := HE.out; have := HL.out; omega)
      rw [HE.out.1, HE.out.2.1] at KA
      obtain ⟨co, cc, hv8⟩ := own_form ho8
      subst hv8
      clear cv1 cv2 cv3 cv4 ho8 hb8
      go_wp2_with fail
      refine KA.mono ?_
      rintro e w9 ⟨v9, rfl, ho9, hb9⟩
      obtain ⟨eo, ec, hv9⟩ := own_form ho9
      subst hv9
      have HB9 := hid13 (keepb hb9 HB8.out)
      have HK9 := hid13 (HK8.out.below hb9)
      obtain ⟨N7, hN7⟩ : ∃ N, N = w7.heap.size := ⟨_, rfl⟩
      obtain ⟨N8, hN8⟩ : ∃ N, N = w8.heap.size := ⟨_, rfl⟩
      have HC0 : Hid (OwC21 w w9 w9 N7 N8 (.slice co b.length cc) b) := ⟨HB9.out, KX.refl _ _, by rw [hN7]; exact own_b13 hb9 HO8.out, fun z hz => .inl (by rw [hN7, hN8]; exact HO8.out.lt z hz)⟩
      have HNn : Hid (w.heap.size ≤ N7 ∧ w6.heap.size ≤ N7 ∧ w.heap.size ≤ w9.heap.size ∧ w6.heap.size ≤ w9.heap.size) := by rw [hN7]; exact ⟨HB7.out.size, HK7.out.1, HB9.out.size, HK9.out.1⟩
      have HNs7 : Hid (N7 ≤ w9.heap.size) := by show _ ≤ _; rw [hN7]; have := HS8.out; have := hb9.size; omega
      have HDk : Hid (∀ W, KX (fun z => N7 ≤ z ∧ z < N8) w9 W → RwX cB W (.slice eo b.length ec) b ∧ KX F w6 W) := fun W hW => by
        refine ⟨own_rwx (own_keep18 ho9 (fun g hg => hW.2 g (ho9.lt g hg).2 (by have := (ho9.lt g hg).1; rw [hN8]; omega))), Nat.le_trans HK9.out.1 hW.1, fun z h1 h2 => (hW.2 z (by have := HK9.out.1; omega) (by have := HNn.out; omega)).trans (HK9.out.2 z h1 h2)⟩
      clear KA ho9 hb9 HB7 HK7 HO8 HS8 HB8 HK8 hN7 hN8 HB9 HK9
      go_wp2_with fail
      go_loopg [17] b.length (fun g i wr => ∃ (k : Nat) (R : List Nat), k + g = b.length ∧ i = .int .i64 (k : Int) ∧ Hid (OwC21 w w9 wr N7 N8 (.slice co R.length cc) R) ∧ Hid (R.length = b.length))
      case atStart => exact ⟨0, b, by omega, rfl, HC0, rfl⟩
      case round =>
        clear HC0
        obtain ⟨k, R, hk, rfl, HW, HR⟩ := hrel
        by_cases hlt : k < b.length
        · have hli : (k : Int) < (b.length : Int) := by omega
          obtain ⟨g, cg, hv, -, -⟩ := HW.out.o.form (by rw [HR.out]; omega)
          injection hv with e1 e2 e3
          subst e1
          have hcell : ∃ u, wr.cell? ⟨g, k, none⟩ = some u := by
            rw [HW.out.o.cellAt k (by rw [HR.out]; omega)]
            exact ⟨_, List.getElem?_eq_getElem (by rw [List.length_map, HR.out]; exact hlt)⟩
          obtain ⟨u, hu⟩ := hcell
          have hf := HW.out.o.frozenAt k
          have HST := hid13 (HW.out.store (j := k) HNn.out.1 238)
          have HR3 : Hid ((R.set k 238).length = b.length) := by show _ = _; rw [List.length_set]; exact HR.out
          have mj : IntKind.i64.wrap ((k : Int) + 1) = (k : Int) + 1 := by rw [IntKind.wrap_i64]; have := HL.out; omega
          have HJ : Hid (k + gk = b.length ∧ k < b.length) := ⟨hk, hlt⟩
          clear hk hlt e2 e3 HW HR
          go_wp2
          go_roundg (gk - 1)
          case measure => have := HJ.out; omega
          case rel => exact ⟨k + 1, R.set k 238, by have := HJ.out; omega, rfl, HST, HR3⟩
        · have hli : ¬ (k : Int) < (b.length : Int) := by omega
          have HW2 : Hid (OwC21 w w9 wr N7 N8 (.slice co b.length cc) R ∧ R.length = b.length) := ⟨by have := HW.out; rw [HR.out] at this; exact this, HR.out⟩
          clear hk hlt HR HW
          go_wp2_with fail
          go_loopg [13, 18] 20 (fun g vb i wr => ∃ (t : Nat) (R3 : List Nat), t + g = 20 ∧ i = .int .i64 (t : Int) ∧ Hid (OwC21 w w9 wr N7 N8 vb R3) ∧ Hid (R3.length ≤ 32768 + t))
          case atStart => exact ⟨0, R, by omega, rfl, HW2.out.1, by show _ ≤ _; rw [HW2.out.2]; have := HL.out; omega⟩
          case round =>
            clear HW2 hli
            obtain ⟨t, R3, ht, rfl, HW, HR3⟩ := hrel
            by_cases hlt : t < 20
            · have hli : (t : Int) < 20 := by omega
              have q11 := bl1 wr (.cells #[.int .u8 1] 5)
              have HW4 := hid13 (HW.out.below q11)
              obtain ⟨vo3, vc3, hvv⟩ := own_form HW.out.o
              subst hvv
              have h63 : R3.length + 1 ≤ maxLen := by have := HR3.out; unfold maxLen; omega
              have h47 : (R3.length + 1) * 1 ≤ 140737488355328 := by have := HR3.out; omega
              have hAs : N7 ≤ (wr.alloc (.cells #[.int .u8 1] 5)).heap.size := (by
                have h0 := HNs7.out; have := HW4.out.k.1; omega)
              have mj : IntKind.i64.wrap ((t : Int) + 1) = (t : Int) + 1 := by rw [IntKind.wrap_i64]; omega
              have HJ : Hid (t + gk = 20 ∧ t < 20) := ⟨ht, hlt⟩
              clear ht hlt q11 HW
              go_wp2_with (at_builtin; apply stopHere9)
              refine (show wpList _ _ _ _ _ _ from ?_)
              refine wpList_append_lies _ rfl _ _ 22 rfl N7 5 i0 (.int .u8 0) 1 1 Try.underlying22 hi hz0 hz1 hz2 rfl (by decide) _ R3.length (R3.map cB) rfl HW4.out.o ⟨wr.heap.size, 0, none⟩ 1 1 [.int .u8 1] rfl rfl (news13 (by simp [go_sem])) (by intro u hu; simp at hu; subst hu; rfl) (by decide) h63 h47 hAs _ rfl ?_
              intro g4 cap4 w14 hown4 hgrow hat hlt4
              have HD4 := hid13 (HW4.out.app HNn.out.1 HNn.out.2.2.1 (R' := R3 ++ [1]) (v' := .slice (some ⟨g4, 0, none⟩) (R3.length + 1) cap4) (by rw [List.length_append, List.map_append]; exact hown4) hgrow (fun z hz => by simp only [Value.ownBlock, Option.some.injEq] at hz; subst hz; exact hat))
              clear hown4 hgrow hat hlt4 h63 h47 hAs HW4
              go_wp2
              go_roundg (gk - 1)
              case measure => have := HJ.out; omega
              case rel => exact ⟨t + 1, R3 ++ [1], by have := HJ.out; omega, rfl, HD4, by show _ ≤ _; rw [List.length_append]; have := HR3.out; show R3.length + 1 ≤ _; omega⟩
            · have hli : ¬ (t : Int) < 20 := by omega
              have HDw := hid13 (HDk.out wr HW.out.k)
              have HBw := hid13 HW.out.b
              have cv1 := conv13 HDw.out.1 HV.out.2.2.2.2.2
              have cv2 := conv13 (HV.out.2.2.2.1.below HBw.out) HV.out.2.2.2.2.2
              have cv3 := conv13 (HPk.out wr HDw.out.2).1 HV.out.2.2.2.2.1
              have cv4 := conv13 (HV.out.2.1.below HBw.out) HV.out.2.2.2.2.1
              have KS := same21 _ _ L L wr (HYk.out wr HDw.out.2) (HWk.out wr HDw.out.2) HE.out.2.2.2.2 HE.out.2.2.2.2 (by have := HE.out; omega)
              rw [smL_self] at KS
              clear HW HR3 ht hlt
              go_wp2_with fail
              refine KS.mono ?_
              rintro e w20 ⟨rfl, hb20⟩
              have HBz := hid13 (keepb hb20 HBw.out)
              clear KS hb20 cv1 cv2 cv3 cv4
              go_wp2
              go_ret
              exact ⟨rfl, HBz.out⟩
end Go.Proofs.Ytiachojhnbicaab
namespace Go.Proofs.Ytiachojhnbicaab
open Go.ChangeShapes Go.WideShapes Go.ChangeAt Go.RowKit Go.Joins
set_option linter.unusedSimpArgs false
set_option linter.unusedVariables false

theorem Try.laidOut : laidOutB Try.prog = true := by kernel_rfl
section
variable {H : Type} {enc : TypeId × Value → H} {w : World} {spare : Nat → Bool} {held : Bool}
theorem RwX.map13 {α β : Type} {f : α → Value} {g : β → Value} (h : α → β) {v : Value} {l : List α} (hr : RwX f w v l) (he : ∀ x ∈ l, f x = g (h x)) : RwX g w v (l.map h) := by
  obtain ⟨ao, c, e, hc, hr⟩ := hr
  refine ⟨ao, c, by rw [List.length_map]; exact e, by rw [List.length_map]; exact hc, ?_⟩
  rcases hr with hr | ⟨b, off, e, hr⟩
  · exact .inl (by rw [hr]; rfl)
  · refine .inr ⟨b, off, e, fun j x hj => ?_⟩
    rw [List.getElem?_map] at hj
    cases hx : l[j]? with
    | none => rw [hx] at hj; cases hj
    | some y =>
      rw [hx] at hj
      simp only [Option.map_some, Option.some.injEq] at hj
      rw [hr j y hx, he y (List.mem_of_getElem? hx), hj]
set_option maxRecDepth 100000 in
theorem open_ints13 {t e : TypeId} {k : IntKind} (ht : Try.prog.underlying t = some (.slice e)) (he : Try.prog.underlying e = some (.int k)) (hce : Try.prog.cellsOf e = 1) {r : Reach} {b0 : Nat} {v : Value} {d : DataW H} {p : List MemPlace} (hv : Value.okWide Try.prog w r b0 t v) (h : DataW.Trod enc Try.prog w 0 (fun _ => true) held t v d p) :
    ∃ l : List Int, RowA w 1 v l.length (l.map fun a => .int k a) ∧ RwX (fun a => Value.int k a) w v l ∧ (∀ a ∈ l, (Lit.int k a).wf = true) ∧ (l = [] ∨ ∃ el sp, d = .slice el sp ∧ el.length = l.length) := by
  obtain ⟨a0, len, cap, rfl⟩ := okWide_slice ht hv
  obtain ⟨fuel, hf⟩ := h
  rcases Deep.open_slice ht hf with ⟨hcs, hx⟩ | ⟨a, len', cap', m, n, D, Pl, hcs, _, hl, hm, hmm, hx, hel⟩
  · simp [Value.cells] at hcs
    obtain ⟨rfl, rfl, rfl⟩ := hcs
    exact ⟨[], ⟨rfl, none, 0, rfl, Nat.le_refl _, .inl ⟨rfl, rfl, rfl⟩⟩, ⟨none, 0, rfl, Nat.le_refl _, .inl rfl⟩, (fun _ h => by cases h), .inl rfl⟩
  · simp [Value.cells] at hcs
    obtain ⟨rfl, rfl, rfl⟩ := hcs
    simp at hmm
    subst hmm
    rw [hce] at hel
    obtain ⟨f, hf⟩ := Deep.choose_lt (α := Int) (n := len) (p := fun i x => w.cell? (a.add i) = some (.int k x) ∧ (Lit.int k x).wf = true) (fun i hi => by
      obtain ⟨cs', h1, h2⟩ := hel i (by omega)
      obtain ⟨_, hlen, hc⟩ := World.cells?_some h1
      match cs', hlen with
      | [c0], _ =>
        obtain ⟨x, ex, -, wx⟩ := DataW.trod_int he h2
        simp at ex
        subst ex
        refine ⟨x, ?_, wx⟩
        have := hc 0 (by omega)
        simpa [Addr.add] using this)
    have hlen : ((List.range len).map f).length = len := by simp
    have hcells : ∀ j x, ((List.range len).map f)[j]? = some x → w.cell? (a.add j) = some (.int k x) := by
      intro j x hj
      have hlt : j < len := by have := (List.getElem?_eq_some_iff.1 hj).1; simpa using this
      rw [List.getElem?_map, List.getElem?_range hlt] at hj
      simp only [Option.map_some, Option.some.injEq] at hj
      rw [← hj]; exact (hf j hlt).1
    refine ⟨(List.range len).map f, ⟨by simp, some a, m, by rw [hlen], by rw [hlen]; exact hl, .inr ⟨a, rfl, fun j u hj => ?_⟩⟩, ⟨some a, m, by rw [hlen], by rw [hlen]; exact hl, ?_⟩, ?_, ?_⟩
    · rw [List.getElem?_map] at hj
      cases hx : ((List.range len).map f)[j]? with
      | none => rw [hx] at hj; cases hj
      | some y =>
        rw [hx] at hj
        simp only [Option.map_some, Option.some.injEq] at hj
        rw [← hj]; exact hcells j y hx
    · by_cases hz : len = 0
      · subst hz
        exact .inl (by simp)
      · have h00 := (hf 0 (by omega)).1
        have ea : a = ⟨a.block, a.off, none⟩ := by
          have : a.add 0 = a := by simp [Addr.add]
          rw [this] at h00
          exact spot9 h00
        refine .inr ⟨a.block, a.off, by rw [← ea], fun j u hj => ?_⟩
        have := hcells j u hj
        rw [ea, addA] at this
        exact this
    · intro x hx
      simp only [List.mem_map, List.mem_range] at hx
      obtain ⟨i, hi, rfl⟩ := hx
      exact (hf i hi).2
    · simp only [Prod.mk.injEq] at hx
      exact .inr ⟨_, _, hx.1, by simp⟩
end
end Go.Proofs.Ytiachojhnbicaab
namespace Go.Proofs.Ytiachojhnbicaab
open Go.ChangeShapes Go.WideShapes Go.ChangeAt Go.RowKit Go.Joins
set_option linter.unusedSimpArgs false
set_option linter.unusedVariables false

section
variable {H : Type} {enc : TypeId × Value → H} {w : World} {spare : Nat → Bool} {held : Bool}
end
end Go.Proofs.Ytiachojhnbicaab
