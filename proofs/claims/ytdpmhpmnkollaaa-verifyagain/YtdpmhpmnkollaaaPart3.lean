/-
  Part 3 of the proof: 5 texts, one behind the other.
-/
import Derived.Test.YtdpmhpmnkollaaaPart2
import Derived.Test.YtdpmhpmnkollaaaPart1
import Derived.Lib.BitFns
import Derived.OrdersIn
import Derived.TacticsIn
import Derived.RangeFuncSeq
namespace Go.Proofs.Ytdpmhpmnkollaaa
open Go.RowKit
set_option linter.unusedSimpArgs false
set_option linter.unusedVariables false

structure Ins where
  op : Int
  n : Int
  m : List (BitVec 32)
noncomputable def insO (l : List Nat) (k : Nat) : Int := uI (wdV l k) / 16777216
noncomputable def insN (l : List Nat) (k : Nat) : Int := uI (wdV l k) % 16777216
def tkB (o n : Int) : Bool := decide (kLo o ≤ n) && decide (n ≤ kHi o)
noncomputable def rdP (l : List Nat) (k : Nat) : List (BitVec 32) × Int :=
  if isOp (insO l k) = true then
    if insN l k ≤ kRm (insO l k) then
      if tkB (insO l k) (insN l k) = true then
        if insO l k = 2 then rmP l (k + 1) (insN l k).toNat else ([], 0)
      else ([], 1)
    else ([], 24)
  else ([], 24)
def AtIF (w : World) (B : Nat) (op n : Int) (v : Value) : Prop := AtI w B op n v ∧ w.frozen? ⟨B, 0, none⟩ = false ∧ w.frozen? ⟨B, 1, none⟩ = false ∧ w.frozen? ⟨B, 2, none⟩ = false
theorem AtIF.below {w w' : World} {B : Nat} {op n : Int} {v : Value} (h : AtIF w B op n v) (hb : Below w.heap.size w w') : AtIF w' B op n v :=
  ⟨h.1.below hb, keepf hb h.1.1 h.2.1, keepf hb h.1.2.1 h.2.2.1, keepf hb h.1.2.2 h.2.2.2⟩
theorem atif_new (w : World) (op n : Int) (v : Value) (T : TypeId) : AtIF (w.alloc (.cells #[.int .i64 op, .int .i64 n, v] T)) w.heap.size op n v := by
  refine ⟨ati_new w op n v T, ?_, ?_, ?_⟩ <;> simp [go_sem]
theorem bset3i {n C : Nat} {w W : World} (h : Below n w W) (hp : n ≤ C) (u0 u1 u2 : Value) : Below n w (((W.setCell ⟨C, 0, none⟩ u0).setCell ⟨C, 1, none⟩ u1).setCell ⟨C, 2, none⟩ u2) := ((h.setCell (p := ⟨C, 0, none⟩) hp _).setCell (p := ⟨C, 1, none⟩) hp _).setCell (p := ⟨C, 2, none⟩) hp _
set_option maxRecDepth 100000 in
set_option maxHeartbeats 8000000 in
theorem read_out (v : Value) (l : List Nat) (a : Int) (w : World) (hv : RwX cB w v l) (hl : l.length ≤ 140737488355328) (ha : stB l.length a 1 = false) :
    Calls Try.prog 61 #[v, .int .i64 a] w fun e w' => e = .returned (.tuple #[.agg #[.int .i64 0, .int .i64 0, .slice none 0 0], .int .i64 30]) ∧ Below w.heap.size w w' := by
  obtain ⟨ao, cc, rfl, -⟩ := hv
  have K1 := fun w => cstand_any ao l.length cc a 1 w ⟨by omega, by omega⟩ hl
  rw [ha] at K1
  clear ha hl
  go_enter Try.func61, Try.ntmps61
  go_wp2_with (go_at_call 78; refine (K1 _).mono ?_; rintro e w1 ⟨rfl, hw1⟩; replace hw1 := hw1.symm; subst hw1)
  exact bodyPost_ret (v := .tuple #[.agg #[.int .i64 0, .int .i64 0, .slice none 0 0], .int .i64 30]) (by simp [results, Try.results61, go_sem]) rfl ⟨rfl, bl1 _ _⟩
set_option maxRecDepth 100000 in
set_option maxHeartbeats 16000000 in
theorem read_in (v : Value) (l : List Nat) (k : Nat) (w : World) (hv : RwX cB w v l) (hl : l.length ≤ 140737488355328) (hx : ∀ b ∈ l, b < 256) (hk : k < l.length / 4) :
    Calls Try.prog 61 #[v, .int .i64 (k : Int)] w fun e w' => ∃ v', e = .returned (.tuple #[.agg #[.int .i64 (insO l k), .int .i64 (insN l k), v'], .int .i64 (rdP l k).2]) ∧ w'.ownsRow w.heap.size 96 1 v' (rdP l k).1.length ((rdP l k).1.map cU) ∧ Below w.heap.size w w' := by
  obtain ⟨ao, cc, hvf, -⟩ := id hv
  have K1 := fun w => cstand_any ao l.length cc (k : Int) 1 w ⟨by omega, by omega⟩ hl
  have e : stB l.length (k : Int) 1 = true := by unfold stB; simp; omega
  rw [e] at K1
  have q1 := bl1 w (.cells #[.int .i64 0, .int .i64 0, .slice none 0 0] 67)
  have a1 := atif_new w 0 0 (.slice none 0 0) 67
  have K2 := wordAt_any v l k _ (hv.below q1) hl hx hk
  have HV := hid13 hv
  have HL := hid13 hl
  have HX := hid13 hx
  have HK := hid13 hk
  have HB1 := hid13 q1
  have HA1 := hid13 a1
  have hX0 := uI_lo (wdV l k)
  have hX1 := uI_up (wdV l k)
  obtain ⟨X, hX⟩ : ∃ X, X = uI (wdV l k) := ⟨_, rfl⟩
  obtain ⟨O, hO⟩ : ∃ O : Nat, (O : Int) = insO l k := ⟨(insO l k).toNat, by unfold insO; omega⟩
  obtain ⟨N, hN⟩ : ∃ N : Nat, (N : Int) = insN l k := ⟨(insN l k).toNat, by unfold insN; omega⟩
  have HR : Hid (rdP l k = if isOp (O : Int) = true then (if (N : Int) ≤ kRm (O : Int) then (if tkB (O : Int) (N : Int) = true then (if (O : Int) = 2 then rmP l (k + 1) N else ([], (0 : Int))) else ([], 1)) else ([], 24)) else ([], 24)) := by
    show _ = _
    unfold rdP
    rw [← hO, ← hN, Int.toNat_natCast]
  have HQ : Hid (((O : Nat) : Int) = insO l k ∧ ((N : Nat) : Int) = insN l k) := ⟨hO, hN⟩
  have x1 : X / 16777216 = (O : Int) := by rw [hX, hO]; rfl
  have x2 : X % 16777216 = (N : Int) := by rw [hX, hN]; rfl
  rw [← hX] at K2 hX0 hX1
  rw [← hO, ← hN]
  subst hvf
  clear e q1 a1 hv hl hx hk hX hO hN
  go_enter Try.func61, Try.ntmps61
  go_wp2_with (go_at_call 78; refine (K1 _).mono ?_; rintro e w1 ⟨rfl, hw1⟩; replace hw1 := hw1.symm; subst hw1)
  refine K2.mono ?_
  rintro e w2 ⟨rfl, hb2⟩
  have HB2 := hid13 (keepb hb2 HB1.out)
  have HA2 := hid13 (HA1.out.below hb2)
  clear K1 K2 HB1 HA1 hb2
  have q3 := bl1 w2 (.cells #[.int .i64 (O : Int), .int .i64 (N : Int), .slice none 0 0] 67)
  have a3 := atif_new w2 (O : Int) (N : Int) (.slice none 0 0) 67
  have HB3 := hid13 (keepb q3 HB2.out)
  have HA3 := hid13 (HA2.out.below q3)
  have HI3 := hid13 a3
  have hsz : w.heap.size ≤ w2.heap.size := HB2.out.size
  have hne : ¬ w2.heap.size = w.heap.size := by have := cell_in HA2.out.1.1; omega
  obtain ⟨B, hB⟩ : ∃ B, B = w2.heap.size := ⟨_, rfl⟩
  go_wp2_with fail
  refine (kindOf_any (O : Int) _).mono ?_
  rintro e w4 ⟨rfl, hb4⟩
  have HB4 := hid13 (keepb hb4 HB3.out)
  have HA4 := hid13 (HA3.out.below hb4)
  have HI4 := hid13 (HI3.out.below hb4)
  clear HB3 HA3 HI3 hb4 q3 a3 HB2 HA2
  rw [← hB] at HI4 hsz hne ⊢
  clear hB
  cases ho : isOp (O : Int) with
  | false =>
    have HR2 : Hid (rdP l k = ([], 24)) := by show _ = _; rw [HR.out, if_neg (by rw [ho]; decide)]
    rw [kindV_no ho]
    have q5 := bl1 w4 (.cells #[.int .i64 0, .int .i64 0, .int .i64 0, .bool false] 150)
    have HB5 := hid13 (keepb q5 HB4.out)
    obtain ⟨⟨g0, g1, g2⟩, f0, f1, f2⟩ := HA4.out.below q5
    obtain ⟨⟨i0, i1, i2⟩, -⟩ := HI4.out.below q5
    clear HR HI4 HA4 HB4 q5 ho
    go_wp2
    exact bodyPost_ret (v := .tuple #[.agg #[.int .i64 (O : Int), .int .i64 (N : Int), .slice none 0 0], .int .i64 24]) (by simp [results, Try.results61, go_sem, *]) rfl ⟨_, by rw [HR2.out], by rw [HR2.out]; exact World.ownsRow_nil _ _ _ _, bset3i HB5.out (Nat.le_refl _) _ _ _⟩
  | true =>
    have HR2 : Hid (rdP l k = if (N : Int) ≤ kRm (O : Int) then (if tkB (O : Int) (N : Int) = true then (if (O : Int) = 2 then rmP l (k + 1) N else ([], (0 : Int))) else ([], 1)) else ([], 24)) := by show _ = _; rw [HR.out, if_pos ho]
    rw [kindV_op ho]
    have q5 := bl1 w4 (.cells #[.int .i64 (kLo (O : Int)), .int .i64 (kHi (O : Int)), .int .i64 (kRm (O : Int)), .bool ((O : Int) == 2)] 150)
    have HB5 := hid13 (keepb q5 HB4.out)
    have HA5 := hid13 (HA4.out.below q5)
    have HI5 := hid13 (HI4.out.below q5)
    have K6 := fun w => takes_any (kLo (O : Int)) (kHi (O : Int)) (kRm (O : Int)) ((O : Int) == 2) (N : Int) w
    have HT : Hid (tkB (O : Int) (N : Int) = (decide (kLo (O : Int) ≤ (N : Int)) && decide ((N : Int) ≤ kHi (O : Int)))) := rfl
    have HT2 : Hid (tkB (O : Int) (N : Int) = true → (O : Int) = 2 → N ≤ 24) := by
      intro h1 h2
      rw [h2] at h1
      unfold tkB at h1
      simp at h1
      have := h1.2
      unfold kHi at this
      simp at this
      omega
    rw [← HT.out] at K6
    obtain ⟨⟨g0, g1, g2⟩, f0, f1, f2⟩ := HA5.out
    obtain ⟨⟨i0, i1, i2⟩, j0, j1, j2⟩ := HI5.out
    obtain ⟨b, hb⟩ : ∃ b, b = ((O : Int) == 2) := ⟨_, rfl⟩
    have HBO := hid13 hb
    rw [← hb] at K6 HB5 HA5 HI5 g0 g1 g2 f0 f1 f2 i0 i1 i2 j0 j1 j2 ⊢
    generalize kLo (O : Int) = lo at *
    generalize kHi (O : Int) = hi at *
    generalize kRm (O : Int) = rm at *
    generalize tkB (O : Int) (N : Int) = t at *
    clear HR HA4 HI4 HB4 q5 ho hb HT
    by_cases hr : (N : Int) ≤ rm
    · have HR3 : Hid (rdP l k = if t = true then (if (O : Int) = 2 then rmP l (k + 1) N else ([], (0 : Int))) else ([], 1)) := by show _ = _; rw [HR2.out, if_pos hr]
      clear HR2
      go_wp2_with fail
      refine (K6 _).mono ?_
      rintro e w6 ⟨rfl, hb6⟩
      have HB6 := hid13 (keepb hb6 HB5.out)
      have HA6 := hid13 (HA5.out.below hb6)
      have HI6 := hid13 (HI5.out.below hb6)
      have k6 : w6.cell? ⟨w4.heap.size, 3, none⟩ = some (.bool b) := keepc hb6 (by simp [go_sem])
      clear g0 g1 g2 f0 f1 f2 i0 i1 i2 j0 j1 j2 HB5 HA5 HI5 K6 hb6
      obtain ⟨⟨g0, g1, g2⟩, f0, f1, f2⟩ := HA6.out
      obtain ⟨⟨i0, i1, i2⟩, j0, j1, j2⟩ := HI6.out
      cases t with
      | false =>
        have HR4 : Hid (rdP l k = ([], 1)) := HR3
        clear HR3 HI6 HA6
        go_wp2
        exact bodyPost_ret (v := .tuple #[.agg #[.int .i64 (O : Int), .int .i64 (N : Int), .slice none 0 0], .int .i64 1]) (by simp [results, Try.results61, go_sem, *]) rfl ⟨_, by rw [HR4.out], by rw [HR4.out]; exact World.ownsRow_nil _ _ _ _, bset3i HB6.out (Nat.le_refl _) _ _ _⟩
      | true =>
        have HR4 : Hid (rdP l k = if (O : Int) = 2 then rmP l (k + 1) N else ([], (0 : Int))) := HR3
        clear HR3
        cases b with
        | false =>
          have h2 : ¬ (O : Int) = 2 := by intro e; have := HBO.out; rw [e] at this; cases this
          have HR5 : Hid (rdP l k = ([], 0)) := by show _ = _; rw [HR4.out, if_neg h2]
          clear HR4 HI6 HA6 h2
          go_wp2
          exact bodyPost_ret (v := .tuple #[.agg #[.int .i64 (O : Int), .int .i64 (N : Int), .slice none 0 0], .int .i64 0]) (by simp [results, Try.results61, go_sem, *]) rfl ⟨_, by rw [HR5.out], by rw [HR5.out]; exact World.ownsRow_nil _ _ _ _, bset3i HB6.out (Nat.le_refl _) _ _ _⟩
        | true =>
          have h2 : (O : Int) = 2 := by have := HBO.out; simpa using this.symm
          have HR5 : Hid (rdP l k = rmP l (k + 1) N) := by show _ = _; rw [HR4.out, if_pos h2]
          have hk1 : k + 1 ≤ 140737488355328 := by have := HK.out; have := HL.out; omega
          have K7 := readMap_any (.slice ao l.length cc) l (k + 1) N w6 (HV.out.below HB6.out) HL.out HX.out (HT2.out rfl h2) hk1
          rw [show ((k + 1 : Nat) : Int) = (k : Int) + 1 by omega] at K7
          have mk : IntKind.i64.wrap ((k : Int) + 1) = (k : Int) + 1 := by rw [IntKind.wrap_i64]; omega
          rw [← HR5.out] at K7
          clear HR4 h2 hk1 HR5 HT2 HBO
          go_wp2_with fail
          refine K7.mono ?_
          rintro e w8 ⟨v8, rfl, hO8, hb8⟩
          have HB8 := hid13 (keepb hb8 HB6.out)
          have HO8 := hid13 hO8
          clear g0 g1 g2 f0 f1 f2 i0 i1 i2 j0 j1 j2
          obtain ⟨⟨g0, g1, g2⟩, f0, f1, f2⟩ := HA6.out.below hb8
          obtain ⟨⟨i0, i1, i2⟩, j0, j1, j2⟩ := HI6.out.below hb8
          have hlt8 : Hid (B < w6.heap.size ∧ w.heap.size ≤ B ∧ w.heap.size < w6.heap.size) := ⟨cell_in HI6.out.1.1, hsz, cell_in HA6.out.1.1⟩
          obtain ⟨ao8, c8, hv8⟩ := own_form hO8
          obtain ⟨z, hz⟩ : ∃ z, z = (rdP l k).2 := ⟨_, rfl⟩
          obtain ⟨M, hM⟩ : ∃ M, M = (rdP l k).1 := ⟨_, rfl⟩
          rw [← hM] at hv8 HO8
          rw [← hz]
          subst hv8
          have HZ : Hid (z = (rdP l k).2 ∧ M = (rdP l k).1) := ⟨hz, hM⟩
          clear hb8 hO8 HA6 HI6 K7 HB6 k6 hz hM
          go_wp2
          refine bodyPost_ret (v := .tuple #[.agg #[.int .i64 (O : Int), .int .i64 (N : Int), .slice ao8 M.length c8], .int .i64 z]) (by simp [results, Try.results61, go_sem, *]) rfl ⟨_, by rw [HZ.out.1], ?_, bset3i (HB8.out.setCell (p := ⟨B, 2, none⟩) hsz _) (Nat.le_refl _) _ _ _⟩
          rw [← HZ.out.2]
          have h1 := hlt8.out
          exact own_wide13 (ownsRow_setCell_below (ownsRow_setCell_below (ownsRow_setCell_below (ownsRow_setCell_below HO8.out h1.1 _) h1.2.2 _) h1.2.2 _) h1.2.2 _) (by omega)
    · have HR3 : Hid (rdP l k = ([], 24)) := by show _ = _; rw [HR2.out, if_neg hr]
      clear HR2 HT2
      go_wp2
      exact bodyPost_ret (v := .tuple #[.agg #[.int .i64 (O : Int), .int .i64 (N : Int), .slice none 0 0], .int .i64 24]) (by simp [results, Try.results61, go_sem, *]) rfl ⟨_, by rw [HR3.out], by rw [HR3.out]; exact World.ownsRow_nil _ _ _ _, bset3i HB5.out (Nat.le_refl _) _ _ _⟩
noncomputable def dcE (l : List Nat) (a : Int) : Int := if stB l.length a 1 = true then (rdP l a.toNat).2 else 30
noncomputable def dcI (l : List Nat) (a : Int) : Ins := if dcE l a = 0 then ⟨insO l a.toNat, insN l a.toNat, (rdP l a.toNat).1⟩ else ⟨0, 0, []⟩
noncomputable def dcZ (l : List Nat) (a : Int) : Int := if dcE l a = 0 then 1 + ((dcI l a).m.length : Int) else 0
def insV (i : Ins) (v : Value) : Value := .agg #[.int .i64 i.op, .int .i64 i.n, v]
theorem rdP_len (l : List Nat) (k : Nat) : (rdP l k).1.length ≤ 524288 := by
  unfold rdP
  split
  · split
    · split
      · rename_i h1 h2 h3
        split
        · rename_i h4
          unfold rmP
          split
          · split
            · rw [mpL_len]
              rw [h4] at h3
              unfold tkB at h3
              simp at h3
              have := h3.2
              unfold kHi at this
              simp at this
              exact mwN_hi _ (by omega)
            · simp
          · simp
        · simp
      · simp
    · simp
  · simp
set_option maxRecDepth 100000 in
set_option maxHeartbeats 16000000 in
theorem decode_any (v : Value) (l : List Nat) (a : Int) (w : World) (hv : RwX cB w v l) (hl : l.length ≤ 140737488355328) (hx : ∀ b ∈ l, b < 256) :
    Calls Try.prog 47 #[v, .int .i64 a] w fun e w' => ∃ v', e = .returned (.tuple #[insV (dcI l a) v', .int .i64 (dcZ l a), .int .i64 (dcE l a)]) ∧ w'.ownsRow w.heap.size 96 1 v' (dcI l a).m.length ((dcI l a).m.map cU) ∧ Below w.heap.size w w' := by
  have q1 := bl1 w (.cells #[.int .i64 0, .int .i64 0, .slice none 0 0] 67)
  have a1 := atif_new w 0 0 (.slice none 0 0) 67
  have HA1 := hid13 a1
  have HB1 := hid13 q1
  have hcap : Hid (w.heap.size < (w.alloc (.cells #[.int .i64 0, .int .i64 0, .slice none 0 0] 67)).heap.size) := by show _ < _; simp
  obtain ⟨O, N, M, z, HZ, K1⟩ : ∃ (O N : Int) (M : List (BitVec 32)) (z : Int), Hid (z = dcE l a ∧ M.length ≤ 524288 ∧ (z = 0 → dcI l a = ⟨O, N, M⟩ ∧ dcZ l a = 1 + (M.length : Int))) ∧ Calls Try.prog 61 #[v, .int .i64 a] (w.alloc (.cells #[.int .i64 0, .int .i64 0, .slice none 0 0] 67)) fun e w' => ∃ v', e = .returned (.tuple #[.agg #[.int .i64 O, .int .i64 N, v'], .int .i64 z]) ∧ w'.ownsRow (w.alloc (.cells #[.int .i64 0, .int .i64 0, .slice none 0 0] 67)).heap.size 96 1 v' M.length (M.map cU) ∧ Below (w.alloc (.cells #[.int .i64 0, .int .i64 0, .slice none 0 0] 67)).heap.size (w.alloc (.cells #[.int .i64 0, .int .i64 0, .slice none 0 0] 67)) w' := by
    cases hs : stB l.length a 1 with
    | false =>
      refine ⟨0, 0, [], 30, ⟨by unfold dcE; rw [if_neg (by rw [hs]; decide)], by simp, fun h => by cases h⟩, ?_⟩
      refine (read_out v l a _ (hv.below q1) hl hs).mono ?_
      rintro e w' ⟨rfl, hb⟩
      exact ⟨_, rfl, World.ownsRow_nil _ _ _ _, hb⟩
    | true =>
      have h2 : 0 ≤ a ∧ a.toNat < l.length / 4 := by unfold stB at hs; simp at hs; constructor <;> omega
      obtain ⟨k, rfl⟩ : ∃ k : Nat, a = (k : Int) := ⟨a.toNat, by omega⟩
      rw [Int.toNat_natCast] at h2
      have he : dcE l (k : Int) = (rdP l k).2 := by unfold dcE; rw [if_pos hs, Int.toNat_natCast]
      refine ⟨insO l k, insN l k, (rdP l k).1, (rdP l k).2, ⟨he.symm, rdP_len l k, fun h => ?_⟩, read_in v l k _ (hv.below q1) hl hx h2.2⟩
      have e1 : dcI l (k : Int) = ⟨insO l k, insN l k, (rdP l k).1⟩ := by unfold dcI; rw [if_pos (he.trans h), Int.toNat_natCast]
      exact ⟨e1, by unfold dcZ; rw [if_pos (he.trans h), e1]⟩
  obtain ⟨ao, cc, hvf, -⟩ := id hv
  subst hvf
  clear q1 a1 hv hl hx
  go_enter Try.func47, Try.ntmps47
  go_wp2_with fail
  refine K1.mono ?_
  rintro e w2 ⟨v2, rfl, hO2, hb2⟩
  have HB2 := hid13 (keepb hb2 HB1.out)
  have HA2 := hid13 (HA1.out.below hb2)
  obtain ⟨ao2, c2, hv2⟩ := own_form hO2
  subst hv2
  have q3 := bl1 w2 (.cells #[.int .i64 O, .int .i64 N, .slice ao2 M.length c2] 67)
  have HO3 := hid13 (own_b13 q3 hO2)
  obtain ⟨⟨g0, g1, g2⟩, f0, f1, f2⟩ := HA2.out.below q3
  have HB3 := hid13 (keepb q3 HB2.out)
  have hne : ¬ w2.heap.size = w.heap.size := by have := cell_in HA2.out.1.1; omega
  have mw : IntKind.i64.wrap (1 + (M.length : Int)) = 1 + (M.length : Int) := by rw [IntKind.wrap_i64]; have := HZ.out.2.1; omega
  clear q3 HA2 HB2 hb2 hO2 HA1 HB1 K1
  by_cases h0 : z = 0
  · subst h0
    have HF := hid13 (HZ.out.2.2 rfl)
    have HE : Hid (dcE l a = 0) := HZ.out.1.symm
    clear HZ
    obtain ⟨w3, hw3⟩ : ∃ w3, w3 = w2.alloc (.cells #[.int .i64 O, .int .i64 N, .slice ao2 M.length c2] 67) := ⟨_, rfl⟩
    have hi0 : w3.cell? ⟨w2.heap.size, 0, none⟩ = some (.int .i64 O) := by rw [hw3]; simp [go_sem]
    have hi1 : w3.cell? ⟨w2.heap.size, 1, none⟩ = some (.int .i64 N) := by rw [hw3]; simp [go_sem]
    have hi2 : w3.cell? ⟨w2.heap.size, 2, none⟩ = some (.slice ao2 M.length c2) := by rw [hw3]; simp [go_sem]
    rw [← hw3] at HO3 g0 g1 g2 f0 f1 f2 HB3
    go_wp2
    rw [← hw3]
    clear hw3
    go_region
    go_wp2
    refine bodyPost_ret (v := .tuple #[.agg #[.int .i64 O, .int .i64 N, .slice ao2 M.length c2], .int .i64 (1 + (M.length : Int)), .int .i64 0]) (by simp [results, Try.results47, go_sem, *]) rfl ⟨_, by rw [HF.out.1, HF.out.2, HE.out]; rfl, ?_, (bset3i HB3.out (Nat.le_refl _) _ _ _).drew⟩
    rw [HF.out.1]
    have h1 := hcap.out
    exact own_b13 (below_drewN (Below.refl _ _) 1) (own_wide13 (ownsRow_setCell_below (ownsRow_setCell_below (ownsRow_setCell_below HO3.out h1 _) h1 _) h1 _) (by omega))
  · have HF : Hid (dcI l a = ⟨0, 0, []⟩ ∧ dcZ l a = 0 ∧ dcE l a = z) := by
      have h1 : ¬ dcE l a = 0 := by rw [← HZ.out.1]; exact h0
      exact ⟨by unfold dcI; rw [if_neg h1], by unfold dcZ; rw [if_neg h1], HZ.out.1.symm⟩
    clear HZ HO3
    go_wp2
    refine bodyPost_ret (v := .tuple #[.agg #[.int .i64 0, .int .i64 0, .slice none 0 0], .int .i64 0, .int .i64 z]) (by simp [results, Try.results47, go_sem, *]) rfl ⟨_, by rw [HF.out.1, HF.out.2.1, HF.out.2.2]; rfl, by rw [HF.out.1]; exact World.ownsRow_nil _ _ _ _, bset3i HB3.out (Nat.le_refl _) _ _ _⟩
end Go.Proofs.Ytdpmhpmnkollaaa
namespace Go.Proofs.Ytdpmhpmnkollaaa
open Go.RowKit
set_option linter.unusedSimpArgs false
set_option linter.unusedVariables false

def bsN : Nat → Nat → Nat
  | 0, _ => 0
  | k + 1, x => x % 2 + bsN k (x / 2)
theorem bsN_pop : ∀ k x, Lib.popAux k x = bsN k x
  | 0, _ => rfl
  | k + 1, x => by simp only [Lib.popAux, bsN]; rw [bsN_pop k]
theorem bsN_zero : ∀ k, bsN k 0 = 0
  | 0 => rfl
  | k + 1 => by simp only [bsN, Nat.zero_mod, Nat.zero_div]; rw [bsN_zero k]
theorem bsN_add : ∀ m k x, bsN (m + k) x = bsN m x + bsN k (x / 2 ^ m)
  | 0, k, x => by simp [bsN]
  | m + 1, k, x => by
    rw [Nat.succ_add]
    simp only [bsN]
    rw [bsN_add m k (x / 2), Nat.div_div_eq_div_mul, Nat.pow_succ, Nat.mul_comm 2]
    omega
theorem bsN_mod : ∀ k x, bsN k (x % 2 ^ k) = bsN k x
  | 0, x => rfl
  | k + 1, x => by
    simp only [bsN]
    have h1 : x % 2 ^ (k + 1) % 2 = x % 2 := by rw [Nat.pow_succ, Nat.mod_mul_left_mod]
    have h2 : x % 2 ^ (k + 1) / 2 = x / 2 % 2 ^ k := by rw [Nat.pow_succ, Nat.mul_comm, Nat.mod_mul_right_div_self]
    rw [h1, h2, bsN_mod k]
theorem bsN_le : ∀ k x, bsN k x ≤ k
  | 0, _ => Nat.le_refl _
  | k + 1, x => by have := bsN_le k (x / 2); simp only [bsN]; omega
theorem bsN_small (m k x : Nat) (h : x < 2 ^ m) : bsN (m + k) x = bsN m x := by
  rw [bsN_add, Nat.div_eq_of_lt h, bsN_zero]; omega
theorem ones8 (b : Nat) (h : b < 256) : Lib.onesCount b = bsN 8 b := by
  unfold Lib.onesCount
  rw [bsN_pop]
  exact bsN_small 8 56 b h
theorem bs32 (x : Nat) (h : x < 4294967296) : bsN 32 x = bsN 8 (x / 16777216) + bsN 8 (x / 65536 % 256) + bsN 8 (x / 256 % 256) + bsN 8 (x % 256) := by
  have e1 := bsN_add 8 24 x
  have e2 := bsN_add 8 16 (x / 2 ^ 8)
  have e3 := bsN_add 8 8 (x / 2 ^ 8 / 2 ^ 8)
  have m1 := bsN_mod 8 x
  have m2 := bsN_mod 8 (x / 2 ^ 8)
  have m3 := bsN_mod 8 (x / 2 ^ 8 / 2 ^ 8)
  have p : (2 : Nat) ^ 8 = 256 := by decide
  rw [p] at e1 e2 e3 m1 m2 m3
  have d1 : x / 256 / 256 = x / 65536 := by omega
  have d2 : x / 65536 / 256 = x / 16777216 := by omega
  rw [d1] at e2 e3 m3
  rw [d2] at e3
  show bsN (8 + 24) x = _
  rw [e1]
  show _ + bsN (8 + 16) _ = _
  rw [e2]
  show _ + (_ + bsN (8 + 8) _) = _
  rw [e3]
  omega
def on32 (x : BitVec 32) : Nat := bsN 32 x.toNat
def fr32 (x : BitVec 32) (k : Nat) : Nat := bsN k (x.toNat / 2 ^ (32 - k))
def bt (x : BitVec 32) (p : Nat) : Bool := x.getLsbD (31 - p)
theorem fr_zero (x : BitVec 32) : fr32 x 0 = 0 := rfl
theorem fr_all (x : BitVec 32) : fr32 x 32 = on32 x := by unfold fr32 on32; simp
theorem bit_val (x : BitVec 32) (i : Nat) : x.toNat / 2 ^ i % 2 = (x.getLsbD i).toNat := by
  have : x.getLsbD i = decide (x.toNat / 2 ^ i % 2 = 1) := by
    unfold BitVec.getLsbD; rw [Nat.testBit_eq_decide_div_mod_eq]
  rw [this]
  by_cases c : x.toNat / 2 ^ i % 2 = 1
  · simp [c]
  · simp [c]; omega
theorem fr_succ (x : BitVec 32) (k : Nat) (h : k < 32) : fr32 x (k + 1) = fr32 x k + (bt x k).toNat := by
  unfold fr32 bt
  rw [show 32 - (k + 1) = 31 - k by omega]
  simp only [bsN]
  rw [bit_val, Nat.div_div_eq_div_mul, ← Nat.pow_succ, show (31 - k).succ = 32 - k by omega]
  omega
def plc (U : List (BitVec 32)) (p : Nat) : Bool := bt (U.getD (p / 32) 0#32) (p % 32)
def cnt (U : List (BitVec 32)) : Nat → Nat
  | 0 => 0
  | k + 1 => cnt U k + (plc U k).toNat
def sumW (U : List (BitVec 32)) : Nat → Nat
  | 0 => 0
  | a + 1 => sumW U a + on32 (U.getD a 0#32)
theorem cnt_word (U : List (BitVec 32)) (a : Nat) : ∀ r, r ≤ 32 → cnt U (32 * a + r) = cnt U (32 * a) + fr32 (U.getD a 0#32) r
  | 0, _ => by simp [fr_zero]
  | r + 1, h => by
    rw [← Nat.add_assoc]
    simp only [cnt]
    rw [cnt_word U a r (by omega), fr_succ _ r (by omega)]
    unfold plc
    rw [show (32 * a + r) / 32 = a by omega, show (32 * a + r) % 32 = r by omega]
    omega
theorem cnt_words (U : List (BitVec 32)) : ∀ a, cnt U (32 * a) = sumW U a
  | 0 => rfl
  | a + 1 => by
    rw [show 32 * (a + 1) = 32 * a + 32 by omega, cnt_word U a 32 (Nat.le_refl _), cnt_words U a, fr_all]
    rfl
theorem cnt_mono (U : List (BitVec 32)) : ∀ p q, p ≤ q → cnt U p ≤ cnt U q := by
  intro p q h
  induction q with
  | zero => have : p = 0 := by omega
            subst this; exact Nat.le_refl _
  | succ q ih =>
    by_cases c : p = q + 1
    · subst c; exact Nat.le_refl _
    · have := ih (by omega); simp only [cnt]; omega
end Go.Proofs.Ytdpmhpmnkollaaa
namespace Go.Proofs.Ytdpmhpmnkollaaa
open Go.RowKit
set_option linter.unusedSimpArgs false
set_option linter.unusedVariables false

noncomputable def enE (l : List Nat) (p : Int) (es : List (Int × Int)) : Int :=
  if dcE l p ≠ 0 then dcE l p else if (dcI l p).op < 3 then 24 else
    match es.getLast? with
    | none => 0
    | some j => if j.1 = (dcI l p).op ∧ ((dcI l p).op = 4 ∧ (dcI l p).n = j.2 ∨ (dcI l p).op = 3 ∧ (dcI l p).n = j.2 - 1) then 25 else 0
noncomputable def enG (l : List Nat) (en : Int) : Nat → Nat → List (Int × Int) → List (Int × Int) × Int × Int
  | 0, k, es => (es, 0, 0)
  | r + 1, k, es => if enE l (en + k) es = 0 then enG l en r (k + 1) (es ++ [((dcI l (en + k)).op, (dcI l (en + k)).n)]) else (es, enE l (en + k) es, en + k)
noncomputable def bkE (l : List Nat) (a : Int) : Int × Int :=
  if dcE l a ≠ 0 then (dcE l a, a) else if (dcI l a).op ≠ 1 then (24, a) else
  if dcE l (a + 1) ≠ 0 then (dcE l (a + 1), a + 1) else if (dcI l (a + 1)).op ≠ 2 then (24, a + 1) else
  if (dcI l (a + 1)).n ≠ (dcI l a).n then (25, a + 1) else (enG l (a + 1 + dcZ l (a + 1)) (sumW (dcI l (a + 1)).m (dcI l (a + 1)).m.length) 0 []).2
theorem enG_succ (l : List Nat) (en : Int) (r k : Nat) (es : List (Int × Int)) : enG l en (r + 1) k es = if enE l (en + k) es = 0 then enG l en r (k + 1) (es ++ [((dcI l (en + k)).op, (dcI l (en + k)).n)]) else (es, enE l (en + k) es, en + k) := rfl
theorem dcZ_zero {l : List Nat} {a : Int} (h : dcE l a = 0) : dcZ l a = 1 + ((dcI l a).m.length : Int) := by unfold dcZ; rw [if_pos h]
structure PB where
  a : Int
  t : Int
  m : List (BitVec 32)
  es : List (Bool × Int)
def prX (p : Int) (e : Int × Int) : Bool × Int := (e.1 == 3, if e.1 == 3 then p + e.2 else e.2)
def prE : Int → List (Int × Int) → List (Bool × Int)
  | _, [] => []
  | p, e :: t => prX p e :: prE (p + 1) t
theorem prE_app : ∀ (p : Int) (A : List (Int × Int)) (e : Int × Int), prE p (A ++ [e]) = prE p A ++ [prX (p + A.length) e]
  | p, [], e => by simp [prE]
  | p, x :: A, e => by
    have : p + 1 + (A.length : Int) = p + ((x :: A).length : Nat) := by simp; omega
    show prX p x :: prE (p + 1) (A ++ [e]) = _
    rw [prE_app (p + 1) A e, this]; rfl
theorem prE_len : ∀ (p : Int) (A : List (Int × Int)), (prE p A).length = A.length
  | p, [] => rfl
  | p, x :: A => by
    show (prE (p + 1) A).length + 1 = _
    rw [prE_len]; rfl
theorem prE_last (p : Int) (A : List (Int × Int)) : (prE p A).getLast? = A.getLast?.map (prX (p + (A.length : Int) - 1)) := by
  rcases List.eq_nil_or_concat A with rfl | ⟨B, e, rfl⟩
  · rfl
  · rw [List.concat_eq_append, prE_app]
    simp only [List.getLast?_append, List.getLast?_singleton, Option.some_or, Option.map_some, List.length_append, List.length_singleton]
    congr 2
    push_cast
    omega
theorem enE_pr (l : List Nat) (en : Int) (es : List (Int × Int)) (h : dcE l (en + es.length) = 0) (ho : (dcI l (en + es.length)).op = 3 ∨ (dcI l (en + es.length)).op = 4) (hes : ∀ e ∈ es, e.1 = 3 ∨ e.1 = 4) :
    enE l (en + es.length) es = if (prE en es).getLast? = some (prX (en + es.length) ((dcI l (en + es.length)).op, (dcI l (en + es.length)).n)) then 25 else 0 := by
  unfold enE
  rw [if_neg (by simp [h]), if_neg (by rcases ho with q | q <;> rw [q] <;> decide), prE_last]
  cases hg : es.getLast? with
  | none => simp
  | some j =>
    have hj := hes j (List.mem_of_getLast? hg)
    obtain ⟨jo, jn⟩ := j
    dsimp only at hj
    dsimp only [Option.map_some]
    generalize (dcI l (en + es.length)).op = o at *
    generalize (dcI l (en + es.length)).n = n at *
    have hiff : (jo = o ∧ (o = 4 ∧ n = jn ∨ o = 3 ∧ n = jn - 1)) ↔ (some (prX (en + (es.length : Int) - 1) (jo, jn)) = some (prX (en + (es.length : Int)) (o, n))) := by
      unfold prX
      rcases ho with rfl | rfl <;> rcases hj with rfl | rfl <;> simp <;> omega
    by_cases hc : (jo = o ∧ (o = 4 ∧ n = jn ∨ o = 3 ∧ n = jn - 1))
    · rw [if_pos hc, if_pos (hiff.1 hc)]
    · rw [if_neg hc, if_neg (fun q => hc (hiff.2 q))]
end Go.Proofs.Ytdpmhpmnkollaaa
namespace Go.Proofs.Ytdpmhpmnkollaaa
open Go.RowKit
set_option linter.unusedSimpArgs false
set_option linter.unusedVariables false

section
variable {P : Program}

theorem put_size (a : Act) (dst : Option Tmp) (v : Value) : (a.put dst v).tmps.size = a.tmps.size := by
  unfold Act.put; cases dst <;> simp
theorem put_other (a : Act) (dst : Option Tmp) (v : Value) (s : Nat) (h : dst ≠ some s) : (a.put dst v).tmps[s]? = a.tmps[s]? := by
  unfold Act.put
  cases dst with
  | none => rfl
  | some d =>
    have : d ≠ s := fun e => h (by rw [e])
    simp [Array.getElem?_setIfInBounds, this]
def rep (l : List Oper) (j : Nat) (N : Value) : List Oper := l.modify j fun o => { o with op := .assign (.const N) }
theorem rep_len (l : List Oper) (j : Nat) (N : Value) : (rep l j N).length = l.length := by unfold rep; simp
theorem rep_ne (l : List Oper) (j : Nat) (N : Value) (i : Nat) (h : i ≠ j) : (rep l j N)[i]? = l[i]? := by
  unfold rep; rw [List.getElem?_modify]; simp [Ne.symm h]
theorem rep_same (l : List Oper) (j : Nat) (N : Value) (i : Nat) : ((rep l j N)[i]?).map (fun o => (o.dst, o.after, o.guard)) = (l[i]?).map (fun o => (o.dst, o.after, o.guard)) := by
  unfold rep
  rw [List.getElem?_modify]
  cases l[i]? <;> simp
  split <;> simp
theorem rep_of (l : List Oper) (j : Nat) (N : Value) (i : Nat) (o : Oper) (h : l[i]? = some o) : ∃ o', (rep l j N)[i]? = some o' ∧ o'.dst = o.dst ∧ o'.after = o.after ∧ o'.guard = o.guard := by
  have := rep_same l j N i
  rw [h] at this
  cases e : (rep l j N)[i]? with
  | none => rw [e] at this; simp at this
  | some o' => rw [e] at this; simp at this; exact ⟨o', rfl, this.1, this.2.1, this.2.2⟩
theorem rep_yield (l : List Oper) (j : Nat) (N : Value) (tmps : Array Value) (k : Nat) : yielded (rep l j N).toArray tmps k = yielded l.toArray tmps k := by
  unfold yielded
  have := rep_same l j N k
  simp only [List.getElem?_toArray]
  cases e : l[k]? with
  | none =>
    cases e' : (rep l j N)[k]? with
    | none => rfl
    | some o => rw [e, e'] at this; simp at this
  | some o =>
    cases e' : (rep l j N)[k]? with
    | none => rw [e, e'] at this; simp at this
    | some o' => rw [e, e'] at this; simp at this; simp [this.1]
theorem yield_take (l : List Oper) (m : Nat) (tmps : Array Value) (k : Nat) (hk : k < m) : yielded (l.take m).toArray tmps k = yielded l.toArray tmps k := by
  unfold yielded
  simp [List.getElem?_take, hk]
def seqB (md : Region.Mode) (ops : Array Oper) : Nat → Nat → Array Bool → Bool
  | 0, _, listed => Region.ready md ops listed == []
  | f + 1, k, listed => (Region.ready md ops listed == [k]) && seqB md ops f (k + 1) (listed.setIfInBounds k true)
theorem any_seq {md : Region.Mode} {ops : Array Oper} {Q : Exit → Act → World → Prop} : ∀ (l : List Oper) (k : Nat) (listed : Array Bool) (a : Act) (w : World), (∀ i, l[i]? = ops[k + i]?) → seqB md ops l.length k listed = true →
    wpList P ops Q l a w → wpAny P md ops Q l.length listed a w
  | [], k, listed, a, w, _, hB, h => by
    simp only [List.length_nil, seqB, beq_iff_eq] at hB
    exact ⟨hB, h⟩
  | o :: l, k, listed, a, w, hl, hB, h => by
    simp only [List.length_cons, seqB, Bool.and_eq_true, beq_iff_eq] at hB
    refine ⟨fun e => (by rw [hB.1] at e; cases e), fun i hi => ?_⟩
    rw [hB.1] at hi
    have e : i = k := by simpa using hi
    subst e
    have h0 : ops[i]? = some o := by simpa using (hl 0).symm
    unfold wpOp
    simp only [h0]
    have ih : ∀ a w, wpList P ops Q l a w → wpAny P md ops Q l.length (listed.setIfInBounds i true) a w := fun a w h => any_seq l (i + 1) (listed.setIfInBounds i true) a w (fun q => by have := hl (q + 1); simpa [Nat.add_assoc, Nat.add_comm 1 q] using this) hB.2 h
    unfold wpList at h
    split
    · rename_i hw
      rw [if_pos hw] at h
      exact h.imp (Oper.wp_mono ih) id
    · rename_i hw
      rw [if_neg hw] at h
      exact ih _ _ h

theorem get_app_lt (lp : Array Bool) (p i : Nat) (h : i < lp.size) (d : Bool) : (lp ++ Array.replicate p false).getD i d = lp.getD i d := by
  simp [Array.getElem?_append, h]
theorem get_app_false (lp : Array Bool) (p i : Nat) : (lp ++ Array.replicate p false).getD i false = lp.getD i false := by
  by_cases h : i < lp.size
  · exact get_app_lt lp p i h false
  · simp [Array.getElem?_append, h, Array.getElem?_replicate]
    split <;> rfl
theorem set_app (lp : Array Bool) (p i : Nat) (h : i < lp.size) : (lp ++ Array.replicate p false).setIfInBounds i true = lp.setIfInBounds i true ++ Array.replicate p false := by
  apply Array.ext
  · simp
  · intro q h1 h2
    rw [Array.getElem_setIfInBounds (hj := by simpa using h1)]
    rw [Array.getElem_append, Array.getElem_append]
    by_cases c : i = q
    · subst c
      simp [h]
    · rw [if_neg c]
      simp only [Array.size_setIfInBounds]
      split
      · rw [Array.getElem_setIfInBounds, if_neg c]
      · rfl
def unl (lp : Array Bool) : Nat := lp.toList.count false
theorem count_set : ∀ (l : List Bool) (i : Nat), l[i]? = some false → (l.set i true).count false + 1 = l.count false := by
  intro l
  induction l with
  | nil => intro i h; simp at h
  | cons b l ih =>
    intro i h
    cases i with
    | zero => simp at h; subst h; simp
    | succ i =>
      have := ih i (by simpa using h)
      simp only [List.set_cons_succ, List.count_cons]
      omega
theorem unl_set (lp : Array Bool) (i : Nat) (h : lp.getD i true = false) : unl (lp.setIfInBounds i true) + 1 = unl lp := by
  unfold unl
  rw [Array.toList_setIfInBounds]
  apply count_set
  rw [Array.getElem?_toList]
  cases e : lp[i]? with
  | none => rw [Array.getD_eq_getD_getElem?, e] at h; simp at h
  | some b => rw [Array.getD_eq_getD_getElem?, e] at h; simp at h; rw [h]
theorem unl_zero (lp : Array Bool) (h : unl lp = 0) : lp = Array.replicate lp.size true := by
  unfold unl at h
  rw [List.count_eq_zero] at h
  apply Array.ext
  · simp
  · intro i h1 h2
    simp
    cases e : lp[i] with
    | true => rfl
    | false => exact absurd (by rw [← e]; simp) h
theorem unl_some (lp : Array Bool) (f : Nat) (h : unl lp = f + 1) : ∃ k, k < lp.size ∧ lp.getD k true = false := by
  unfold unl at h
  have : false ∈ lp.toList := List.count_pos_iff.mp (by omega)
  obtain ⟨k, hk, e⟩ := List.getElem_of_mem this
  have hk' : k < lp.size := by simpa using hk
  exact ⟨k, hk', by rw [Array.getD_eq_getD_getElem?]; simp [hk']; simpa using e⟩
def waitB (l : List Oper) (m : Nat) : Bool := (l.drop m).all fun o => (List.range m).all fun k => o.after.any fun e => Region.binds .any e && e.on == k
theorem ready_pre (l : List Oper) (m j : Nat) (N : Value) (hml : m ≤ l.length) (hw : waitB l m = true) (lp : Array Bool) (hs : lp.size = m) (f : Nat) (hu : unl lp = f + 1) (i : Nat)
    (hi : i ∈ Region.ready .any l.toArray (lp ++ Array.replicate (l.length - m) false)) : i < m ∧ i ∈ Region.ready .any (rep (l.take m) j N).toArray lp := by
  obtain ⟨hun, o, ho, hall⟩ := mem_ready.1 hi
  have ho' : l[i]? = some o := by simpa using ho
  have him : i < m := by
    apply Classical.byContradiction
    intro c
    obtain ⟨k, hk, hf⟩ := unl_some lp f hu
    have hmem : o ∈ l.drop m := by
      have : (l.drop m)[i - m]? = some o := by rw [List.getElem?_drop, show m + (i - m) = i by omega]; exact ho'
      exact List.mem_of_getElem? this
    have h1 := List.all_eq_true.mp hw o hmem
    have h2 := List.all_eq_true.mp h1 k (List.mem_range.mpr (by omega))
    obtain ⟨e, he, heq⟩ := Array.any_eq_true'.mp h2
    simp only [Bool.and_eq_true, beq_iff_eq] at heq
    have h3 := hall e he heq.1
    rw [heq.2, get_app_false] at h3
    rw [Array.getD_eq_getD_getElem?] at h3 hf
    cases q : lp[k]? with
    | none => rw [q] at h3; simp at h3
    | some b => rw [q] at h3 hf; simp at h3 hf; rw [h3] at hf; cases hf
  refine ⟨him, mem_ready.2 ⟨by rw [get_app_lt lp _ i (by omega)] at hun; exact hun, ?_⟩⟩
  obtain ⟨o', h1, h2, h3, h4⟩ := rep_of (l.take m) j N i o (by rw [List.getElem?_take, if_pos him]; exact ho')
  refine ⟨o', by simpa using h1, fun e he hb => ?_⟩
  rw [h3] at he
  have := hall e he hb
  rwa [get_app_false] at this

theorem wanted_rep (l : List Oper) (m j : Nat) (N : Value) (a : Act) (o o' : Oper) (hg : o'.guard = o.guard) (hlt : ∀ k b, o.guard = some (k, b) → k < m) : Region.wanted o' (yielded (rep (l.take m) j N).toArray a.tmps) = Region.wanted o (yielded l.toArray a.tmps) := by
  unfold Region.wanted
  rw [hg]
  cases e : o.guard with
  | none => rfl
  | some kb =>
    obtain ⟨k, b⟩ := kb
    simp only
    rw [rep_yield, yield_take l m a.tmps k (hlt k b e)]
theorem wp_of_yields {ops ops' : Array Oper} {C : World → Prop} {Q : Exit → Act → World → Prop} {i : Nat} {o : Oper} {v : Value} {a : Act} {w : World} {K : Act → World → Prop} (ho : ops[i]? = some o) (hw : Region.wanted o (yielded ops' a.tmps) = Region.wanted o (yielded ops a.tmps))
    (hy : YieldsIn P ops' C o v a) (hC : C w) (h : ∀ w', C w' → K (a.put o.dst v) w') : wpOp P ops Q i K a w := by
  unfold wpOp
  simp only [ho]
  rcases hy with ⟨h1, h2⟩ | ⟨h1, h2⟩
  · rw [if_pos (by rw [← hw]; exact h1)]
    exact .inl (Oper.wp_of_quiet (K := fun a' => a' = a.put o.dst v) hC (fun a' w' hw' e => by rw [e]; exact h w' hw') ⟨v, h2, rfl⟩)
  · rw [if_neg (by rw [← hw, h1]; decide)]
    rw [← h2]
    exact h w hC
structure QpOk (l : List Oper) (m j : Nat) : Prop where
  ml : m ≤ l.length
  lex : ∀ N, Region.lexB .any (rep (l.take m) j N).toArray = true
  wait : waitB l m = true
  seq : seqB .any l.toArray (l.length - m) m (Array.replicate m true ++ Array.replicate (l.length - m) false) = true
  guards : ∀ (i : Nat) o, l[i]? = some o → ∀ k b, o.guard = some (k, b) → k < m
  edges : ∀ (i : Nat) o, l[i]? = some o → ∀ e ∈ o.after, Region.binds .any e = true → e.on < i
def guardsB (l : List Oper) (m : Nat) : Bool := l.all fun o => match o.guard with | some (k, _) => decide (k < m) | none => true
theorem guards_of {l : List Oper} {m : Nat} (h : guardsB l m = true) : ∀ (i : Nat) o, l[i]? = some o → ∀ k b, o.guard = some (k, b) → k < m := by
  intro i o ho k b hg
  have := List.all_eq_true.mp h o (List.mem_of_getElem? ho)
  rw [hg] at this
  simpa using this
def edgesB (l : List Oper) : Bool := (List.range l.length).all fun i => match l[i]? with | some o => o.after.all fun e => !Region.binds .any e || decide (e.on < i) | none => true
theorem edges_of {l : List Oper} (h : edgesB l = true) : ∀ (i : Nat) o, l[i]? = some o → ∀ e ∈ o.after, Region.binds .any e = true → e.on < i := by
  intro i o ho e he hb
  have hi : i < l.length := (List.getElem?_eq_some_iff.mp ho).1
  have h1 := List.all_eq_true.mp h i (List.mem_range.mpr hi)
  simp only [ho] at h1
  have := Array.all_eq_true_iff_forall_mem.1 h1 e he
  simpa [hb] using this
theorem qpOk {l : List Oper} (m j : Nat) (h1 : m ≤ l.length) (h2 : ∀ N, Region.lexB .any (rep (l.take m) j N).toArray = true) (h3 : waitB l m = true)
    (h4 : seqB .any l.toArray (l.length - m) m (Array.replicate m true ++ Array.replicate (l.length - m) false) = true) (h5 : guardsB l m = true) (h6 : edgesB l = true) : QpOk l m j :=
  ⟨h1, h2, h3, h4, guards_of h5, edges_of h6⟩
theorem erase_get (l l' : List Value) (d s : Nat) (h : l.eraseIdx d = l'.eraseIdx d) (hs : s ≠ d) : l[s]? = l'[s]? := by
  rcases Nat.lt_or_gt_of_ne hs with q | q
  · have := congrArg (fun x => x[s]?) h
    simpa [List.getElem?_eraseIdx, q] using this
  · have := congrArg (fun x => x[s - 1]?) h
    simp only [List.getElem?_eraseIdx] at this
    rw [if_neg (by omega), if_neg (by omega), show s - 1 + 1 = s by omega] at this
    exact this
theorem some_ready {l : List Oper} {m j : Nat} (ok : QpOk l m j) (lp : Array Bool) (hs : lp.size = m) : ∀ k, k < m → lp.getD k true = false → Region.ready .any l.toArray (lp ++ Array.replicate (l.length - m) false) ≠ [] := by
  intro k
  induction k using Nat.strongRecOn with
  | ind k ih =>
    intro hk hf hr
    have hkl : k < l.length := by have := ok.ml; omega
    by_cases c : ∀ e ∈ (l[k]).after, Region.binds .any e = true → (lp ++ Array.replicate (l.length - m) false).getD e.on false = true
    · have : k ∈ Region.ready .any l.toArray (lp ++ Array.replicate (l.length - m) false) := mem_ready.2 ⟨by rw [get_app_lt lp _ k (by omega)]; exact hf, l[k], by simp [hkl], c⟩
      rw [hr] at this
      cases this
    · simp only [Classical.not_forall] at c
      obtain ⟨e, he, hb, hn⟩ := c
      have hlt := ok.edges k l[k] (by simp [hkl]) e he hb
      rw [get_app_false] at hn
      refine ih e.on hlt (by omega) ?_ hr
      have hlt2 : e.on < lp.size := by omega
      rw [Array.getD_eq_getD_getElem?] at hn ⊢
      simp [hlt2] at hn ⊢
      exact hn
theorem done_any {l : List Oper} {m j : Nat} (ok : QpOk l m j) {C : World → Prop} {N : Value} {A : Act} {Q : Exit → Act → World → Prop}
    (hpost : ∀ w, C w → wpList P l.toArray Q (l.drop m) A w) : ∀ (fuel : Nat) (lp : Array Bool) (a : Act) (w : World), lp.size = m → unl lp = fuel → (j < m → lp.getD j false = true) → C w →
      wpAnyQ P .any (rep (l.take m) j N).toArray C (fun a' => a' = A) fuel lp a → wpAny P .any l.toArray Q (fuel + (l.length - m)) (lp ++ Array.replicate (l.length - m) false) a w := by
  intro fuel
  induction fuel with
  | zero =>
    intro lp a w hs hu hj hC h
    rw [h.2, unl_zero lp hu, hs, Nat.zero_add, show l.length - m = (l.drop m).length by simp]
    refine any_seq (l.drop m) m _ A w (fun i => by simp) ?_ (hpost w hC)
    have := ok.seq
    rwa [show l.length - m = (l.drop m).length by simp] at this
  | succ fuel ih =>
    intro lp a w hs hu hj hC h
    rw [show fuel + 1 + (l.length - m) = (fuel + (l.length - m)) + 1 by omega]
    have key : ∀ i ∈ Region.ready .any l.toArray (lp ++ Array.replicate (l.length - m) false), wpOp P l.toArray Q i (wpAny P .any l.toArray Q (fuel + (l.length - m)) ((lp ++ Array.replicate (l.length - m) false).setIfInBounds i true)) a w := by
      intro i hi
      obtain ⟨him, hir⟩ := ready_pre l m j N ok.ml ok.wait lp hs fuel hu i hi
      obtain ⟨hun, _⟩ := mem_ready.1 hir
      have hij : i ≠ j := by
        intro e
        subst e
        have hj := hj him
        rw [Array.getD_eq_getD_getElem?] at hun hj
        cases q : lp[i]? with
        | none => rw [q] at hun; simp at hun
        | some b => rw [q] at hun hj; simp at hun hj; rw [hun] at hj; cases hj
      obtain ⟨_, o, ho, _⟩ := mem_ready.1 hi
      have ho' : l[i]? = some o := by simpa using ho
      have hor : (rep (l.take m) j N).toArray[i]? = some o := by
        simp only [List.getElem?_toArray]
        rw [rep_ne _ _ _ _ hij, List.getElem?_take, if_pos him]; exact ho'
      obtain ⟨v, hy, hK⟩ := yieldsIn_of_qOp hor (h.2 i hir)
      refine wp_of_yields ho (wanted_rep l m j N a o o rfl (ok.guards i o ho')) hy hC (fun w' hw' => ?_)
      rw [set_app lp _ i (by omega)]
      refine ih _ _ w' (by simp [hs]) (by have := unl_set lp i hun; omega) ?_ hw' hK
      exact fun q => getD_set_true (hj q)
    refine ⟨fun e => ?_, key⟩
    obtain ⟨k, hk, hf⟩ := unl_some lp fuel hu
    exact absurd e (some_ready ok lp hs k (by omega) hf)
theorem rep_out (l : List Oper) (j : Nat) (N : Value) (h : l.length ≤ j) : rep l j N = l := by
  apply List.ext_getElem?
  intro i
  by_cases c : i = j
  · subst c
    rw [List.getElem?_eq_none (by rw [rep_len]; exact h), List.getElem?_eq_none h]
  · exact rep_ne l j N i c
def putAll (a : Act) : List (Option Tmp) → List Value → Act
  | d :: ds, v :: vs => putAll (a.put d v) ds vs
  | _, _ => a
end
end Go.Proofs.Ytdpmhpmnkollaaa
namespace Go.Proofs.Ytdpmhpmnkollaaa
open Go.RowKit
set_option linter.unusedSimpArgs false
set_option linter.unusedVariables false

section
variable {P : Program}

end
end Go.Proofs.Ytdpmhpmnkollaaa
