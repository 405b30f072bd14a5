/-
  Part 3 of the proof: 4 texts, one behind the other.
-/
import Derived.Test.YtbgoclfifhdonaaPart2
import Derived.OrdersIn
import Derived.TacticsIn
import Derived.RangeFuncSeq
import Derived.RangeFuncNested
import Derived.RangeFuncBound
import Derived.RangeFuncCalls
import Derived.RangeFuncLeaves
import Derived.Shelf.Abstract
import Derived.Shelf.RegionOpen
import Derived.WalkKit
import Derived.OwnWalkIn
import Derived.TacticsInMore
import Derived.LoopNIn
import Derived.LoopIn
namespace Go.Proofs.Ytbgoclfifhdonaa
open Go.RowKit
set_option linter.unusedSimpArgs false
set_option linter.unusedVariables false

structure Ins where
  op : Int
  n : Int
  m : List (BitVec 32)
noncomputable def insO (l : List Nat) (k : Nat) : Int := uI (wdV l k) / 16777216
noncomputable def insN (l : List Nat) (k : Nat) : Int := uI (wdV l k) % 16777216
def tkB (o n : Int) : Bool := decide (kLo o ≤ n) && decide (n ≤ kHi o)
noncomputable def rdP (l : List Nat) (k : Nat) : List (BitVec 32) × Int :=
  if isOp (insO l k) = true then
    if insN l k ≤ kRm (insO l k) then
      if tkB (insO l k) (insN l k) = true then
        if insO l k = 2 then rmP l (k + 1) (insN l k).toNat else ([], 0)
      else ([], 1)
    else ([], 24)
  else ([], 24)
def AtIF (w : World) (B : Nat) (op n : Int) (v : Value) : Prop := AtI w B op n v ∧ w.frozen? ⟨B, 0, none⟩ = false ∧ w.frozen? ⟨B, 1, none⟩ = false ∧ w.frozen? ⟨B, 2, none⟩ = false
theorem AtIF.below {w w' : World} {B : Nat} {op n : Int} {v : Value} (h : AtIF w B op n v) (hb : Below w.heap.size w w') : AtIF w' B op n v :=
  ⟨h.1.below hb, keepf hb h.1.1 h.2.1, keepf hb h.1.2.1 h.2.2.1, keepf hb h.1.2.2 h.2.2.2⟩
theorem atif_new (w : World) (op n : Int) (v : Value) (T : TypeId) : AtIF (w.alloc (.cells #[.int .i64 op, .int .i64 n, v] T)) w.heap.size op n v := by
  refine ⟨ati_new w op n v T, ?_, ?_, ?_⟩ <;> simp [go_sem]
theorem bset3i {n C : Nat} {w W : World} (h : Below n w W) (hp : n ≤ C) (u0 u1 u2 : Value) : Below n w (((W.setCell ⟨C, 0, none⟩ u0).setCell ⟨C, 1, none⟩ u1).setCell ⟨C, 2, none⟩ u2) := ((h.setCell (p := ⟨C, 0, none⟩) hp _).setCell (p := ⟨C, 1, none⟩) hp _).setCell (p := ⟨C, 2, none⟩) hp _
set_option maxRecDepth 100000 in
set_option maxHeartbeats 8000000 in
theorem read_out (v : Value) (l : List Nat) (a : Int) (w : World) (hv : RwX cB w v l) (hl : l.length ≤ 140737488355328) (ha : stB l.length a 1 = false) :
    Calls Try.prog 45 #[v, .int .i64 a] w fun e w' => e = .returned (.tuple #[.agg #[.int .i64 0, .int .i64 0, .slice none 0 0], .int .i64 30]) ∧ Below w.heap.size w w' := by
  obtain ⟨ao, cc, rfl, -⟩ := hv
  have K1 := fun w => cstand_any ao l.length cc a 1 w ⟨by omega, by omega⟩ hl
  rw [ha] at K1
  clear ha hl
  go_enter Try.func45, Try.ntmps45
  go_wp2_with (go_at_call 51; refine (K1 _).mono ?_; rintro e w1 ⟨rfl, hw1⟩; replace hw1 := hw1.symm; subst hw1)
  exact bodyPost_ret (v := .tuple #[.agg #[.int .i64 0, .int .i64 0, .slice none 0 0], .int .i64 30]) (by simp [results, Try.results45, go_sem]) rfl ⟨rfl, bl1 _ _⟩
set_option maxRecDepth 100000 in
set_option maxHeartbeats 16000000 in
theorem read_in (v : Value) (l : List Nat) (k : Nat) (w : World) (hv : RwX cB w v l) (hl : l.length ≤ 140737488355328) (hx : ∀ b ∈ l, b < 256) (hk : k < l.length / 4) :
    Calls Try.prog 45 #[v, .int .i64 (k : Int)] w fun e w' => ∃ v', e = .returned (.tuple #[.agg #[.int .i64 (insO l k), .int .i64 (insN l k), v'], .int .i64 (rdP l k).2]) ∧ w'.ownsRow w.heap.size 71 1 v' (rdP l k).1.length ((rdP l k).1.map cU) ∧ Below w.heap.size w w' := by
  obtain ⟨ao, cc, hvf, -⟩ := id hv
  have K1 := fun w => cstand_any ao l.length cc (k : Int) 1 w ⟨by omega, by omega⟩ hl
  have e : stB l.length (k : Int) 1 = true := by unfold stB; simp; omega
  rw [e] at K1
  have q1 := bl1 w (.cells #[.int .i64 0, .int .i64 0, .slice none 0 0] 56)
  have a1 := atif_new w 0 0 (.slice none 0 0) 56
  have K2 := wordAt_any v l k _ (hv.below q1) hl hx hk
  have HV := hid13 hv
  have HL := hid13 hl
  have HX := hid13 hx
  have HK := hid13 hk
  have HB1 := hid13 q1
  have HA1 := hid13 a1
  have hX0 := uI_lo (wdV l k)
  have hX1 := uI_up (wdV l k)
  obtain ⟨X, hX⟩ : ∃ X, X = uI (wdV l k) := ⟨_, rfl⟩
  obtain ⟨O, hO⟩ : ∃ O : Nat, (O : Int) = insO l k := ⟨(insO l k).toNat, by unfold insO; omega⟩
  obtain ⟨N, hN⟩ : ∃ N : Nat, (N : Int) = insN l k := ⟨(insN l k).toNat, by unfold insN; omega⟩
  have HR : Hid (rdP l k = if isOp (O : Int) = true then (if (N : Int) ≤ kRm (O : Int) then (if tkB (O : Int) (N : Int) = true then (if (O : Int) = 2 then rmP l (k + 1) N else ([], (0 : Int))) else ([], 1)) else ([], 24)) else ([], 24)) := by
    show _ = _
    unfold rdP
    rw [← hO, ← hN, Int.toNat_natCast]
  have HQ : Hid (((O : Nat) : Int) = insO l k ∧ ((N : Nat) : Int) = insN l k) := ⟨hO, hN⟩
  have x1 : X / 16777216 = (O : Int) := by rw [hX, hO]; rfl
  have x2 : X % 16777216 = (N : Int) := by rw [hX, hN]; rfl
  rw [← hX] at K2 hX0 hX1
  rw [← hO, ← hN]
  subst hvf
  clear e q1 a1 hv hl hx hk hX hO hN
  go_enter Try.func45, Try.ntmps45
  go_wp2_with (go_at_call 51; refine (K1 _).mono ?_; rintro e w1 ⟨rfl, hw1⟩; replace hw1 := hw1.symm; subst hw1)
  refine K2.mono ?_
  rintro e w2 ⟨rfl, hb2⟩
  have HB2 := hid13 (keepb hb2 HB1.out)
  have HA2 := hid13 (HA1.out.below hb2)
  clear K1 K2 HB1 HA1 hb2
  have q3 := bl1 w2 (.cells #[.int .i64 (O : Int), .int .i64 (N : Int), .slice none 0 0] 56)
  have a3 := atif_new w2 (O : Int) (N : Int) (.slice none 0 0) 56
  have HB3 := hid13 (keepb q3 HB2.out)
  have HA3 := hid13 (HA2.out.below q3)
  have HI3 := hid13 a3
  have hsz : w.heap.size ≤ w2.heap.size := HB2.out.size
  have hne : ¬ w2.heap.size = w.heap.size := by have := cell_in HA2.out.1.1; omega
  obtain ⟨B, hB⟩ : ∃ B, B = w2.heap.size := ⟨_, rfl⟩
  go_wp2_with fail
  refine (kindOf_any (O : Int) _).mono ?_
  rintro e w4 ⟨rfl, hb4⟩
  have HB4 := hid13 (keepb hb4 HB3.out)
  have HA4 := hid13 (HA3.out.below hb4)
  have HI4 := hid13 (HI3.out.below hb4)
  clear HB3 HA3 HI3 hb4 q3 a3 HB2 HA2
  rw [← hB] at HI4 hsz hne ⊢
  clear hB
  cases ho : isOp (O : Int) with
  | false =>
    have HR2 : Hid (rdP l k = ([], 24)) := by show _ = _; rw [HR.out, if_neg (by rw [ho]; decide)]
    rw [kindV_no ho]
    have q5 := bl1 w4 (.cells #[.int .i64 0, .int .i64 0, .int .i64 0, .bool false] 88)
    have HB5 := hid13 (keepb q5 HB4.out)
    obtain ⟨⟨g0, g1, g2⟩, f0, f1, f2⟩ := HA4.out.below q5
    obtain ⟨⟨i0, i1, i2⟩, -⟩ := HI4.out.below q5
    clear HR HI4 HA4 HB4 q5 ho
    go_wp2
    exact bodyPost_ret (v := .tuple #[.agg #[.int .i64 (O : Int), .int .i64 (N : Int), .slice none 0 0], .int .i64 24]) (by simp [results, Try.results45, go_sem, *]) rfl ⟨_, by rw [HR2.out], by rw [HR2.out]; exact World.ownsRow_nil _ _ _ _, bset3i HB5.out (Nat.le_refl _) _ _ _⟩
  | true =>
    have HR2 : Hid (rdP l k = if (N : Int) ≤ kRm (O : Int) then (if tkB (O : Int) (N : Int) = true then (if (O : Int) = 2 then rmP l (k + 1) N else ([], (0 : Int))) else ([], 1)) else ([], 24)) := by show _ = _; rw [HR.out, if_pos ho]
    rw [kindV_op ho]
    have q5 := bl1 w4 (.cells #[.int .i64 (kLo (O : Int)), .int .i64 (kHi (O : Int)), .int .i64 (kRm (O : Int)), .bool ((O : Int) == 2)] 88)
    have HB5 := hid13 (keepb q5 HB4.out)
    have HA5 := hid13 (HA4.out.below q5)
    have HI5 := hid13 (HI4.out.below q5)
    have K6 := fun w => takes_any (kLo (O : Int)) (kHi (O : Int)) (kRm (O : Int)) ((O : Int) == 2) (N : Int) w
    have HT : Hid (tkB (O : Int) (N : Int) = (decide (kLo (O : Int) ≤ (N : Int)) && decide ((N : Int) ≤ kHi (O : Int)))) := rfl
    have HT2 : Hid (tkB (O : Int) (N : Int) = true → (O : Int) = 2 → N ≤ 24) := by
      intro h1 h2
      rw [h2] at h1
      unfold tkB at h1
      simp at h1
      have := h1.2
      unfold kHi at this
      simp at this
      omega
    rw [← HT.out] at K6
    obtain ⟨⟨g0, g1, g2⟩, f0, f1, f2⟩ := HA5.out
    obtain ⟨⟨i0, i1, i2⟩, j0, j1, j2⟩ := HI5.out
    obtain ⟨b, hb⟩ : ∃ b, b = ((O : Int) == 2) := ⟨_, rfl⟩
    have HBO := hid13 hb
    rw [← hb] at K6 HB5 HA5 HI5 g0 g1 g2 f0 f1 f2 i0 i1 i2 j0 j1 j2 ⊢
    generalize kLo (O : Int) = lo at *
    generalize kHi (O : Int) = hi at *
    generalize kRm (O : Int) = rm at *
    generalize tkB (O : Int) (N : Int) = t at *
    clear HR HA4 HI4 HB4 q5 ho hb HT
    by_cases hr : (N : Int) ≤ rm
    · have HR3 : Hid (rdP l k = if t = true then (if (O : Int) = 2 then rmP l (k + 1) N else ([], (0 : Int))) else ([], 1)) := by show _ = _; rw [HR2.out, if_pos hr]
      clear HR2
      go_wp2_with fail
      refine (K6 _).mono ?_
      rintro e w6 ⟨rfl, hb6⟩
      have HB6 := hid13 (keepb hb6 HB5.out)
      have HA6 := hid13 (HA5.out.below hb6)
      have HI6 := hid13 (HI5.out.below hb6)
      have k6 : w6.cell? ⟨w4.heap.size, 3, none⟩ = some (.bool b) := keepc hb6 (by simp [go_sem])
      clear g0 g1 g2 f0 f1 f2 i0 i1 i2 j0 j1 j2 HB5 HA5 HI5 K6 hb6
      obtain ⟨⟨g0, g1, g2⟩, f0, f1, f2⟩ := HA6.out
      obtain ⟨⟨i0, i1, i2⟩, j0, j1, j2⟩ := HI6.out
      cases t with
      | false =>
        have HR4 : Hid (rdP l k = ([], 1)) := HR3
        clear HR3 HI6 HA6
        go_wp2
        exact bodyPost_ret (v := .tuple #[.agg #[.int .i64 (O : Int), .int .i64 (N : Int), .slice none 0 0], .int .i64 1]) (by simp [results, Try.results45, go_sem, *]) rfl ⟨_, by rw [HR4.out], by rw [HR4.out]; exact World.ownsRow_nil _ _ _ _, bset3i HB6.out (Nat.le_refl _) _ _ _⟩
      | true =>
        have HR4 : Hid (rdP l k = if (O : Int) = 2 then rmP l (k + 1) N else ([], (0 : Int))) := HR3
        clear HR3
        cases b with
        | false =>
          have h2 : ¬ (O : Int) = 2 := by intro e; have := HBO.out; rw [e] at this; cases this
          have HR5 : Hid (rdP l k = ([], 0)) := by show _ = _; rw [HR4.out, if_neg h2]
          clear HR4 HI6 HA6 h2
          go_wp2
          exact bodyPost_ret (v := .tuple #[.agg #[.int .i64 (O : Int), .int .i64 (N : Int), .slice none 0 0], .int .i64 0]) (by simp [results, Try.results45, go_sem, *]) rfl ⟨_, by rw [HR5.out], by rw [HR5.out]; exact World.ownsRow_nil _ _ _ _, bset3i HB6.out (Nat.le_refl _) _ _ _⟩
        | true =>
          have h2 : (O : Int) = 2 := by have := HBO.out; simpa using this.symm
          have HR5 : Hid (rdP l k = rmP l (k + 1) N) := by show _ = _; rw [HR4.out, if_pos h2]
          have hk1 : k + 1 ≤ 140737488355328 := by have := HK.out; have := HL.out; omega
          have K7 := readMap_any (.slice ao l.length cc) l (k + 1) N w6 (HV.out.below HB6.out) HL.out HX.out (HT2.out rfl h2) hk1
          rw [show ((k + 1 : Nat) : Int) = (k : Int) + 1 by omega] at K7
          have mk : IntKind.i64.wrap ((k : Int) + 1) = (k : Int) + 1 := by rw [IntKind.wrap_i64]; omega
          rw [← HR5.out] at K7
          clear HR4 h2 hk1 HR5 HT2 HBO
          go_wp2_with fail
          refine K7.mono ?_
          rintro e w8 ⟨v8, rfl, hO8, hb8⟩
          have HB8 := hid13 (keepb hb8 HB6.out)
          have HO8 := hid13 hO8
          clear g0 g1 g2 f0 f1 f2 i0 i1 i2 j0 j1 j2
          obtain ⟨⟨g0, g1, g2⟩, f0, f1, f2⟩ := HA6.out.below hb8
          obtain ⟨⟨i0, i1, i2⟩, j0, j1, j2⟩ := HI6.out.below hb8
          have hlt8 : Hid (B < w6.heap.size ∧ w.heap.size ≤ B ∧ w.heap.size < w6.heap.size) := ⟨cell_in HI6.out.1.1, hsz, cell_in HA6.out.1.1⟩
          obtain ⟨ao8, c8, hv8⟩ := own_form hO8
          obtain ⟨z, hz⟩ : ∃ z, z = (rdP l k).2 := ⟨_, rfl⟩
          obtain ⟨M, hM⟩ : ∃ M, M = (rdP l k).1 := ⟨_, rfl⟩
          rw [← hM] at hv8 HO8
          rw [← hz]
          subst hv8
          have HZ : Hid (z = (rdP l k).2 ∧ M = (rdP l k).1) := ⟨hz, hM⟩
          clear hb8 hO8 HA6 HI6 K7 HB6 k6 hz hM
          go_wp2
          refine bodyPost_ret (v := .tuple #[.agg #[.int .i64 (O : Int), .int .i64 (N : Int), .slice ao8 M.length c8], .int .i64 z]) (by simp [results, Try.results45, go_sem, *]) rfl ⟨_, by rw [HZ.out.1], ?_, bset3i (HB8.out.setCell (p := ⟨B, 2, none⟩) hsz _) (Nat.le_refl _) _ _ _⟩
          rw [← HZ.out.2]
          have h1 := hlt8.out
          exact own_wide13 (ownsRow_setCell_below (ownsRow_setCell_below (ownsRow_setCell_below (ownsRow_setCell_below HO8.out h1.1 _) h1.2.2 _) h1.2.2 _) h1.2.2 _) (by omega)
    · have HR3 : Hid (rdP l k = ([], 24)) := by show _ = _; rw [HR2.out, if_neg hr]
      clear HR2 HT2
      go_wp2
      exact bodyPost_ret (v := .tuple #[.agg #[.int .i64 (O : Int), .int .i64 (N : Int), .slice none 0 0], .int .i64 24]) (by simp [results, Try.results45, go_sem, *]) rfl ⟨_, by rw [HR3.out], by rw [HR3.out]; exact World.ownsRow_nil _ _ _ _, bset3i HB5.out (Nat.le_refl _) _ _ _⟩
noncomputable def dcE (l : List Nat) (a : Int) : Int := if stB l.length a 1 = true then (rdP l a.toNat).2 else 30
noncomputable def dcI (l : List Nat) (a : Int) : Ins := if dcE l a = 0 then ⟨insO l a.toNat, insN l a.toNat, (rdP l a.toNat).1⟩ else ⟨0, 0, []⟩
noncomputable def dcZ (l : List Nat) (a : Int) : Int := if dcE l a = 0 then 1 + ((dcI l a).m.length : Int) else 0
def insV (i : Ins) (v : Value) : Value := .agg #[.int .i64 i.op, .int .i64 i.n, v]
theorem rdP_len (l : List Nat) (k : Nat) : (rdP l k).1.length ≤ 524288 := by
  unfold rdP
  split
  · split
    · split
      · rename_i h1 h2 h3
        split
        · rename_i h4
          unfold rmP
          split
          · split
            · rw [mpL_len]
              rw [h4] at h3
              unfold tkB at h3
              simp at h3
              have := h3.2
              unfold kHi at this
              simp at this
              exact mwN_hi _ (by omega)
            · simp
          · simp
        · simp
      · simp
    · simp
  · simp
set_option maxRecDepth 100000 in
set_option maxHeartbeats 16000000 in
theorem decode_any (v : Value) (l : List Nat) (a : Int) (w : World) (hv : RwX cB w v l) (hl : l.length ≤ 140737488355328) (hx : ∀ b ∈ l, b < 256) :
    Calls Try.prog 30 #[v, .int .i64 a] w fun e w' => ∃ v', e = .returned (.tuple #[insV (dcI l a) v', .int .i64 (dcZ l a), .int .i64 (dcE l a)]) ∧ w'.ownsRow w.heap.size 71 1 v' (dcI l a).m.length ((dcI l a).m.map cU) ∧ Below w.heap.size w w' := by
  have q1 := bl1 w (.cells #[.int .i64 0, .int .i64 0, .slice none 0 0] 56)
  have a1 := atif_new w 0 0 (.slice none 0 0) 56
  have HA1 := hid13 a1
  have HB1 := hid13 q1
  have hcap : Hid (w.heap.size < (w.alloc (.cells #[.int .i64 0, .int .i64 0, .slice none 0 0] 56)).heap.size) := by show _ < _; simp
  obtain ⟨O, N, M, z, HZ, K1⟩ : ∃ (O N : Int) (M : List (BitVec 32)) (z : Int), Hid (z = dcE l a ∧ M.length ≤ 524288 ∧ (z = 0 → dcI l a = ⟨O, N, M⟩ ∧ dcZ l a = 1 + (M.length : Int))) ∧ Calls Try.prog 45 #[v, .int .i64 a] (w.alloc (.cells #[.int .i64 0, .int .i64 0, .slice none 0 0] 56)) fun e w' => ∃ v', e = .returned (.tuple #[.agg #[.int .i64 O, .int .i64 N, v'], .int .i64 z]) ∧ w'.ownsRow (w.alloc (.cells #[.int .i64 0, .int .i64 0, .slice none 0 0] 56)).heap.size 71 1 v' M.length (M.map cU) ∧ Below (w.alloc (.cells #[.int .i64 0, .int .i64 0, .slice none 0 0] 56)).heap.size (w.alloc (.cells #[.int .i64 0, .int .i64 0, .slice none 0 0] 56)) w' := by
    cases hs : stB l.length a 1 with
    | false =>
      refine ⟨0, 0, [], 30, ⟨by unfold dcE; rw [if_neg (by rw [hs]; decide)], by simp, fun h => by cases h⟩, ?_⟩
      refine (read_out v l a _ (hv.below q1) hl hs).mono ?_
      rintro e w' ⟨rfl, hb⟩
      exact ⟨_, rfl, World.ownsRow_nil _ _ _ _, hb⟩
    | true =>
      have h2 : 0 ≤ a ∧ a.toNat < l.length / 4 := by unfold stB at hs; simp at hs; constructor <;> omega
      obtain ⟨k, rfl⟩ : ∃ k : Nat, a = (k : Int) := ⟨a.toNat, by omega⟩
      rw [Int.toNat_natCast] at h2
      have he : dcE l (k : Int) = (rdP l k).2 := by unfold dcE; rw [if_pos hs, Int.toNat_natCast]
      refine ⟨insO l k, insN l k, (rdP l k).1, (rdP l k).2, ⟨he.symm, rdP_len l k, fun h => ?_⟩, read_in v l k _ (hv.below q1) hl hx h2.2⟩
      have e1 : dcI l (k : Int) = ⟨insO l k, insN l k, (rdP l k).1⟩ := by unfold dcI; rw [if_pos (he.trans h), Int.toNat_natCast]
      exact ⟨e1, by unfold dcZ; rw [if_pos (he.trans h), e1]⟩
  obtain ⟨ao, cc, hvf, -⟩ := id hv
  subst hvf
  clear q1 a1 hv hl hx
  go_enter Try.func30, Try.ntmps30
  go_wp2_with fail
  refine K1.mono ?_
  rintro e w2 ⟨v2, rfl, hO2, hb2⟩
  have HB2 := hid13 (keepb hb2 HB1.out)
  have HA2 := hid13 (HA1.out.below hb2)
  obtain ⟨ao2, c2, hv2⟩ := own_form hO2
  subst hv2
  have q3 := bl1 w2 (.cells #[.int .i64 O, .int .i64 N, .slice ao2 M.length c2] 56)
  have HO3 := hid13 (own_b13 q3 hO2)
  obtain ⟨⟨g0, g1, g2⟩, f0, f1, f2⟩ := HA2.out.below q3
  have HB3 := hid13 (keepb q3 HB2.out)
  have hne : ¬ w2.heap.size = w.heap.size := by have := cell_in HA2.out.1.1; omega
  have mw : IntKind.i64.wrap (1 + (M.length : Int)) = 1 + (M.length : Int) := by rw [IntKind.wrap_i64]; have := HZ.out.2.1; omega
  clear q3 HA2 HB2 hb2 hO2 HA1 HB1 K1
  by_cases h0 : z = 0
  · subst h0
    have HF := hid13 (HZ.out.2.2 rfl)
    have HE : Hid (dcE l a = 0) := HZ.out.1.symm
    clear HZ
    obtain ⟨w3, hw3⟩ : ∃ w3, w3 = w2.alloc (.cells #[.int .i64 O, .int .i64 N, .slice ao2 M.length c2] 56) := ⟨_, rfl⟩
    have hi0 : w3.cell? ⟨w2.heap.size, 0, none⟩ = some (.int .i64 O) := by rw [hw3]; simp [go_sem]
    have hi1 : w3.cell? ⟨w2.heap.size, 1, none⟩ = some (.int .i64 N) := by rw [hw3]; simp [go_sem]
    have hi2 : w3.cell? ⟨w2.heap.size, 2, none⟩ = some (.slice ao2 M.length c2) := by rw [hw3]; simp [go_sem]
    rw [← hw3] at HO3 g0 g1 g2 f0 f1 f2 HB3
    go_wp2
    rw [← hw3]
    clear hw3
    go_region
    go_wp2
    refine bodyPost_ret (v := .tuple #[.agg #[.int .i64 O, .int .i64 N, .slice ao2 M.length c2], .int .i64 (1 + (M.length : Int)), .int .i64 0]) (by simp [results, Try.results30, go_sem, *]) rfl ⟨_, by rw [HF.out.1, HF.out.2, HE.out]; rfl, ?_, (bset3i HB3.out (Nat.le_refl _) _ _ _).drew⟩
    rw [HF.out.1]
    have h1 := hcap.out
    exact own_b13 (below_drewN (Below.refl _ _) 1) (own_wide13 (ownsRow_setCell_below (ownsRow_setCell_below (ownsRow_setCell_below HO3.out h1 _) h1 _) h1 _) (by omega))
  · have HF : Hid (dcI l a = ⟨0, 0, []⟩ ∧ dcZ l a = 0 ∧ dcE l a = z) := by
      have h1 : ¬ dcE l a = 0 := by rw [← HZ.out.1]; exact h0
      exact ⟨by unfold dcI; rw [if_neg h1], by unfold dcZ; rw [if_neg h1], HZ.out.1.symm⟩
    clear HZ HO3
    go_wp2
    refine bodyPost_ret (v := .tuple #[.agg #[.int .i64 0, .int .i64 0, .slice none 0 0], .int .i64 0, .int .i64 z]) (by simp [results, Try.results30, go_sem, *]) rfl ⟨_, by rw [HF.out.1, HF.out.2.1, HF.out.2.2]; rfl, by rw [HF.out.1]; exact World.ownsRow_nil _ _ _ _, bset3i HB3.out (Nat.le_refl _) _ _ _⟩
end Go.Proofs.Ytbgoclfifhdonaa
namespace Go.Proofs.Ytbgoclfifhdonaa
open Go.RowKit
set_option linter.unusedSimpArgs false
set_option linter.unusedVariables false

section
variable {P : Program}

theorem put_size (a : Act) (dst : Option Tmp) (v : Value) : (a.put dst v).tmps.size = a.tmps.size := by
  unfold Act.put; cases dst <;> simp
theorem put_other (a : Act) (dst : Option Tmp) (v : Value) (s : Nat) (h : dst ≠ some s) : (a.put dst v).tmps[s]? = a.tmps[s]? := by
  unfold Act.put
  cases dst with
  | none => rfl
  | some d =>
    have : d ≠ s := fun e => h (by rw [e])
    simp [Array.getElem?_setIfInBounds, this]
theorem put_same {a : Act} {dst : Option Tmp} {v v' : Value} (h : ∀ s, dst = some s → (a.put dst v).tmps[s]? = (a.put dst v').tmps[s]?) : a.put dst v = a.put dst v' := by
  cases dst with
  | none => rfl
  | some d =>
    have := h d rfl
    unfold Act.put at *
    simp only at this ⊢
    by_cases c : d < a.tmps.size
    · simp [Array.getElem?_setIfInBounds, c] at this
      rw [this]
    · have c' : a.tmps.size ≤ d := Nat.le_of_not_lt c
      rw [Array.setIfInBounds_eq_of_size_le c', Array.setIfInBounds_eq_of_size_le c']
theorem q_fin {ops : Array Oper} {C : World → Prop} {A : Act} {md : Region.Mode} : ∀ (fuel : Nat) (listed : Array Bool) (a : Act), wpAnyQ P md ops C (fun a' => a' = A) fuel listed a →
    ∀ s : Nat, (∀ i o, ops[i]? = some o → listed.getD i true = false → o.dst ≠ some s) → A.tmps[s]? = a.tmps[s]? := by
  intro fuel
  induction fuel with
  | zero => intro listed a h s _; rw [h.2]
  | succ fuel ih =>
    intro listed a h s hs
    cases hr : Region.ready md ops listed with
    | nil => rw [h.1 hr]
    | cons i rs =>
      have hi : i ∈ Region.ready md ops listed := by rw [hr]; simp
      obtain ⟨hun, o, ho, _⟩ := mem_ready.1 hi
      obtain ⟨v, _, hK⟩ := yieldsIn_of_qOp ho (h.2 i hi)
      have := ih _ _ hK s (fun k ok hk hl => hs k ok hk (by
        by_cases e : i = k
        · subst e; exact hun
        · rw [getD_set_ne true e] at hl; exact hl))
      rw [this]
      exact put_other _ _ _ _ (hs i o ho hun)

def rep (l : List Oper) (j : Nat) (N : Value) : List Oper := l.modify j fun o => { o with op := .assign (.const N) }
theorem rep_len (l : List Oper) (j : Nat) (N : Value) : (rep l j N).length = l.length := by unfold rep; simp
theorem rep_ne (l : List Oper) (j : Nat) (N : Value) (i : Nat) (h : i ≠ j) : (rep l j N)[i]? = l[i]? := by
  unfold rep; rw [List.getElem?_modify]; simp [Ne.symm h]
theorem rep_same (l : List Oper) (j : Nat) (N : Value) (i : Nat) : ((rep l j N)[i]?).map (fun o => (o.dst, o.after, o.guard)) = (l[i]?).map (fun o => (o.dst, o.after, o.guard)) := by
  unfold rep
  rw [List.getElem?_modify]
  cases l[i]? <;> simp
  split <;> simp
theorem rep_of (l : List Oper) (j : Nat) (N : Value) (i : Nat) (o : Oper) (h : l[i]? = some o) : ∃ o', (rep l j N)[i]? = some o' ∧ o'.dst = o.dst ∧ o'.after = o.after ∧ o'.guard = o.guard := by
  have := rep_same l j N i
  rw [h] at this
  cases e : (rep l j N)[i]? with
  | none => rw [e] at this; simp at this
  | some o' => rw [e] at this; simp at this; exact ⟨o', rfl, this.1, this.2.1, this.2.2⟩
def seqB (md : Region.Mode) (ops : Array Oper) : Nat → Nat → Array Bool → Bool
  | 0, _, listed => Region.ready md ops listed == []
  | f + 1, k, listed => (Region.ready md ops listed == [k]) && seqB md ops f (k + 1) (listed.setIfInBounds k true)
theorem any_seq {md : Region.Mode} {ops : Array Oper} {Q : Exit → Act → World → Prop} : ∀ (l : List Oper) (k : Nat) (listed : Array Bool) (a : Act) (w : World), (∀ i, l[i]? = ops[k + i]?) → seqB md ops l.length k listed = true →
    wpList P ops Q l a w → wpAny P md ops Q l.length listed a w
  | [], k, listed, a, w, _, hB, h => by
    simp only [List.length_nil, seqB, beq_iff_eq] at hB
    exact ⟨hB, h⟩
  | o :: l, k, listed, a, w, hl, hB, h => by
    simp only [List.length_cons, seqB, Bool.and_eq_true, beq_iff_eq] at hB
    refine ⟨fun e => (by rw [hB.1] at e; cases e), fun i hi => ?_⟩
    rw [hB.1] at hi
    have e : i = k := by simpa using hi
    subst e
    have h0 : ops[i]? = some o := by simpa using (hl 0).symm
    unfold wpOp
    simp only [h0]
    have ih : ∀ a w, wpList P ops Q l a w → wpAny P md ops Q l.length (listed.setIfInBounds i true) a w := fun a w h => any_seq l (i + 1) (listed.setIfInBounds i true) a w (fun q => by have := hl (q + 1); simpa [Nat.add_assoc, Nat.add_comm 1 q] using this) hB.2 h
    unfold wpList at h
    split
    · rename_i hw
      rw [if_pos hw] at h
      exact h.imp (Oper.wp_mono ih) id
    · rename_i hw
      rw [if_neg hw] at h
      exact ih _ _ h

theorem get_app_lt (lp : Array Bool) (p i : Nat) (h : i < lp.size) (d : Bool) : (lp ++ Array.replicate p false).getD i d = lp.getD i d := by
  simp [Array.getElem?_append, h]
theorem get_app_false (lp : Array Bool) (p i : Nat) : (lp ++ Array.replicate p false).getD i false = lp.getD i false := by
  by_cases h : i < lp.size
  · exact get_app_lt lp p i h false
  · simp [Array.getElem?_append, h, Array.getElem?_replicate]
    split <;> rfl
theorem set_app (lp : Array Bool) (p i : Nat) (h : i < lp.size) : (lp ++ Array.replicate p false).setIfInBounds i true = lp.setIfInBounds i true ++ Array.replicate p false := by
  apply Array.ext
  · simp
  · intro q h1 h2
    rw [Array.getElem_setIfInBounds (hj := by simpa using h1)]
    rw [Array.getElem_append, Array.getElem_append]
    by_cases c : i = q
    · subst c
      simp [h]
    · rw [if_neg c]
      simp only [Array.size_setIfInBounds]
      split
      · rw [Array.getElem_setIfInBounds, if_neg c]
      · rfl
def unl (lp : Array Bool) : Nat := lp.toList.count false
theorem count_set : ∀ (l : List Bool) (i : Nat), l[i]? = some false → (l.set i true).count false + 1 = l.count false := by
  intro l
  induction l with
  | nil => intro i h; simp at h
  | cons b l ih =>
    intro i h
    cases i with
    | zero => simp at h; subst h; simp
    | succ i =>
      have := ih i (by simpa using h)
      simp only [List.set_cons_succ, List.count_cons]
      omega
theorem unl_set (lp : Array Bool) (i : Nat) (h : lp.getD i true = false) : unl (lp.setIfInBounds i true) + 1 = unl lp := by
  unfold unl
  rw [Array.toList_setIfInBounds]
  apply count_set
  rw [Array.getElem?_toList]
  cases e : lp[i]? with
  | none => rw [Array.getD_eq_getD_getElem?, e] at h; simp at h
  | some b => rw [Array.getD_eq_getD_getElem?, e] at h; simp at h; rw [h]
theorem unl_zero (lp : Array Bool) (h : unl lp = 0) : lp = Array.replicate lp.size true := by
  unfold unl at h
  rw [List.count_eq_zero] at h
  apply Array.ext
  · simp
  · intro i h1 h2
    simp
    cases e : lp[i] with
    | true => rfl
    | false => exact absurd (by rw [← e]; simp) h
theorem unl_some (lp : Array Bool) (f : Nat) (h : unl lp = f + 1) : ∃ k, k < lp.size ∧ lp.getD k true = false := by
  unfold unl at h
  have : false ∈ lp.toList := List.count_pos_iff.mp (by omega)
  obtain ⟨k, hk, e⟩ := List.getElem_of_mem this
  have hk' : k < lp.size := by simpa using hk
  exact ⟨k, hk', by rw [Array.getD_eq_getD_getElem?]; simp [hk']; simpa using e⟩
def waitB (l : List Oper) (m : Nat) : Bool := (l.drop m).all fun o => (List.range m).all fun k => o.after.any fun e => Region.binds .any e && e.on == k
theorem ready_pre (l : List Oper) (m j : Nat) (N : Value) (hml : m ≤ l.length) (hw : waitB l m = true) (lp : Array Bool) (hs : lp.size = m) (f : Nat) (hu : unl lp = f + 1) (i : Nat)
    (hi : i ∈ Region.ready .any l.toArray (lp ++ Array.replicate (l.length - m) false)) : i < m ∧ i ∈ Region.ready .any (rep (l.take m) j N).toArray lp := by
  obtain ⟨hun, o, ho, hall⟩ := mem_ready.1 hi
  have ho' : l[i]? = some o := by simpa using ho
  have him : i < m := by
    apply Classical.byContradiction
    intro c
    obtain ⟨k, hk, hf⟩ := unl_some lp f hu
    have hmem : o ∈ l.drop m := by
      have : (l.drop m)[i - m]? = some o := by rw [List.getElem?_drop, show m + (i - m) = i by omega]; exact ho'
      exact List.mem_of_getElem? this
    have h1 := List.all_eq_true.mp hw o hmem
    have h2 := List.all_eq_true.mp h1 k (List.mem_range.mpr (by omega))
    obtain ⟨e, he, heq⟩ := Array.any_eq_true'.mp h2
    simp only [Bool.and_eq_true, beq_iff_eq] at heq
    have h3 := hall e he heq.1
    rw [heq.2, get_app_false] at h3
    rw [Array.getD_eq_getD_getElem?] at h3 hf
    cases q : lp[k]? with
    | none => rw [q] at h3; simp at h3
    | some b => rw [q] at h3 hf; simp at h3 hf; rw [h3] at hf; cases hf
  refine ⟨him, mem_ready.2 ⟨by rw [get_app_lt lp _ i (by omega)] at hun; exact hun, ?_⟩⟩
  obtain ⟨o', h1, h2, h3, h4⟩ := rep_of (l.take m) j N i o (by rw [List.getElem?_take, if_pos him]; exact ho')
  refine ⟨o', by simpa using h1, fun e he hb => ?_⟩
  rw [h3] at he
  have := hall e he hb
  rwa [get_app_false] at this

theorem wp_of_yields {ops ops' : Array Oper} {C : World → Prop} {Q : Exit → Act → World → Prop} {i : Nat} {o : Oper} {v : Value} {a : Act} {w : World} {K : Act → World → Prop} (ho : ops[i]? = some o) (hw : Region.wanted o (yielded ops' a.tmps) = Region.wanted o (yielded ops a.tmps))
    (hy : YieldsIn P ops' C o v a) (hC : C w) (h : ∀ w', C w' → K (a.put o.dst v) w') : wpOp P ops Q i K a w := by
  unfold wpOp
  simp only [ho]
  rcases hy with ⟨h1, h2⟩ | ⟨h1, h2⟩
  · rw [if_pos (by rw [← hw]; exact h1)]
    exact .inl (Oper.wp_of_quiet (K := fun a' => a' = a.put o.dst v) hC (fun a' w' hw' e => by rw [e]; exact h w' hw') ⟨v, h2, rfl⟩)
  · rw [if_neg (by rw [← hw, h1]; decide)]
    rw [← h2]
    exact h w hC
structure QpOk (l : List Oper) (m j : Nat) : Prop where
  ml : m ≤ l.length
  lex : ∀ N, Region.lexB .any (rep (l.take m) j N).toArray = true
  wait : waitB l m = true
  seq : seqB .any l.toArray (l.length - m) m (Array.replicate m true ++ Array.replicate (l.length - m) false) = true
  guards : ∀ (i : Nat) o, l[i]? = some o → ∀ k b, o.guard = some (k, b) → k < m
  edges : ∀ (i : Nat) o, l[i]? = some o → ∀ e ∈ o.after, Region.binds .any e = true → e.on < i
structure AlOk (l : List Oper) (m j : Nat) (oj : Oper) : Prop extends QpOk l m j where
  jm : j < m
  here : l[j]? = some oj
  guard : oj.guard = none
  dst : ∀ i k oi ok s, l[i]? = some oi → l[k]? = some ok → i < m → k < m → oi.dst = some s → ok.dst = some s → i = k
def guardsB (l : List Oper) (m : Nat) : Bool := l.all fun o => match o.guard with | some (k, _) => decide (k < m) | none => true
theorem guards_of {l : List Oper} {m : Nat} (h : guardsB l m = true) : ∀ (i : Nat) o, l[i]? = some o → ∀ k b, o.guard = some (k, b) → k < m := by
  intro i o ho k b hg
  have := List.all_eq_true.mp h o (List.mem_of_getElem? ho)
  rw [hg] at this
  simpa using this
def edgesB (l : List Oper) : Bool := (List.range l.length).all fun i => match l[i]? with | some o => o.after.all fun e => !Region.binds .any e || decide (e.on < i) | none => true
theorem edges_of {l : List Oper} (h : edgesB l = true) : ∀ (i : Nat) o, l[i]? = some o → ∀ e ∈ o.after, Region.binds .any e = true → e.on < i := by
  intro i o ho e he hb
  have hi : i < l.length := (List.getElem?_eq_some_iff.mp ho).1
  have h1 := List.all_eq_true.mp h i (List.mem_range.mpr hi)
  simp only [ho] at h1
  have := Array.all_eq_true_iff_forall_mem.1 h1 e he
  simpa [hb] using this
def dstB (l : List Oper) (m : Nat) : Bool := (List.range m).all fun i => (List.range m).all fun k => (i == k) || !((l[i]?).bind (·.dst)).isSome || (l[i]?).bind (·.dst) != (l[k]?).bind (·.dst)
theorem dst_of {l : List Oper} {m : Nat} (h : dstB l m = true) : ∀ i k oi ok s, l[i]? = some oi → l[k]? = some ok → i < m → k < m → oi.dst = some s → ok.dst = some s → i = k := by
  intro i k oi ok s h1 h2 h3 h4 h5 h6
  have a := List.all_eq_true.mp h i (List.mem_range.mpr h3)
  have b := List.all_eq_true.mp a k (List.mem_range.mpr h4)
  rw [h1, h2] at b
  simp [h5, h6] at b
  exact b
theorem qpOk {l : List Oper} (m j : Nat) (h1 : m ≤ l.length) (h2 : ∀ N, Region.lexB .any (rep (l.take m) j N).toArray = true) (h3 : waitB l m = true)
    (h4 : seqB .any l.toArray (l.length - m) m (Array.replicate m true ++ Array.replicate (l.length - m) false) = true) (h5 : guardsB l m = true) (h6 : edgesB l = true) : QpOk l m j :=
  ⟨h1, h2, h3, h4, guards_of h5, edges_of h6⟩
theorem alOk {l : List Oper} {m j : Nat} {oj : Oper} (q : QpOk l m j) (h1 : j < m) (h2 : l[j]? = some oj) (h3 : oj.guard = none) (h4 : dstB l m = true) : AlOk l m j oj := ⟨q, h1, h2, h3, dst_of h4⟩
theorem erase_get (l l' : List Value) (d s : Nat) (h : l.eraseIdx d = l'.eraseIdx d) (hs : s ≠ d) : l[s]? = l'[s]? := by
  rcases Nat.lt_or_gt_of_ne hs with q | q
  · have := congrArg (fun x => x[s]?) h
    simpa [List.getElem?_eraseIdx, q] using this
  · have := congrArg (fun x => x[s - 1]?) h
    simp only [List.getElem?_eraseIdx] at this
    rw [if_neg (by omega), if_neg (by omega), show s - 1 + 1 = s by omega] at this
    exact this
theorem alA {l : List Oper} {m j : Nat} {oj : Oper} (ok : AlOk l m j oj) {A : Nat → Act} (d : Nat) (hd : oj.dst = some d) (h : ∀ N, (A N).tmps.toList.eraseIdx d = (A 0).tmps.toList.eraseIdx d) :
    ∀ (i : Nat) o s N, l[i]? = some o → i < m → i ≠ j → o.dst = some s → (A N).tmps[s]? = (A 0).tmps[s]? := by
  intro i o s N ho hi hij hs
  have : s ≠ d := fun e => hij (ok.dst i j o oj s ho ok.here hi ok.jm hs (by rw [hd, e]))
  have := erase_get _ _ d s (h N) this
  simpa using this
theorem some_ready {l : List Oper} {m j : Nat} (ok : QpOk l m j) (lp : Array Bool) (hs : lp.size = m) : ∀ k, k < m → lp.getD k true = false → Region.ready .any l.toArray (lp ++ Array.replicate (l.length - m) false) ≠ [] := by
  intro k
  induction k using Nat.strongRecOn with
  | ind k ih =>
    intro hk hf hr
    have hkl : k < l.length := by have := ok.ml; omega
    by_cases c : ∀ e ∈ (l[k]).after, Region.binds .any e = true → (lp ++ Array.replicate (l.length - m) false).getD e.on false = true
    · have : k ∈ Region.ready .any l.toArray (lp ++ Array.replicate (l.length - m) false) := mem_ready.2 ⟨by rw [get_app_lt lp _ k (by omega)]; exact hf, l[k], by simp [hkl], c⟩
      rw [hr] at this
      cases this
    · simp only [Classical.not_forall] at c
      obtain ⟨e, he, hb, hn⟩ := c
      have hlt := ok.edges k l[k] (by simp [hkl]) e he hb
      rw [get_app_false] at hn
      refine ih e.on hlt (by omega) ?_ hr
      have hlt2 : e.on < lp.size := by omega
      rw [Array.getD_eq_getD_getElem?] at hn ⊢
      simp [hlt2] at hn ⊢
      exact hn
def readB (l : List Oper) (m : Nat) (oj : Oper) (rd : List Nat) : Bool := rd.all fun s => (List.range m).all fun k => ((l[k]?).bind (·.dst)) != some s || oj.after.any fun e => Region.binds .any e && e.on == k
theorem read_of {l : List Oper} {m : Nat} {oj : Oper} {rd : List Nat} (h : readB l m oj rd = true) : ∀ s ∈ rd, ∀ (k : Nat) o, l[k]? = some o → k < m → o.dst = some s → ∃ e ∈ oj.after, Region.binds .any e = true ∧ e.on = k := by
  intro s hs k o ho hk hd
  have a := List.all_eq_true.mp h s hs
  have b := List.all_eq_true.mp a k (List.mem_range.mpr hk)
  rw [ho] at b
  simp only [Option.bind_some, hd, bne_self_eq_false, Bool.false_or] at b
  obtain ⟨e, he, heq⟩ := Array.any_eq_true'.mp b
  simp only [Bool.and_eq_true, beq_iff_eq] at heq
  exact ⟨e, he, heq.1, heq.2⟩
def putAll (a : Act) : List (Option Tmp) → List Value → Act
  | d :: ds, v :: vs => putAll (a.put d v) ds vs
  | _, _ => a
end
end Go.Proofs.Ytbgoclfifhdonaa
namespace Go.Proofs.Ytbgoclfifhdonaa
open Go.RowKit
set_option linter.unusedSimpArgs false
set_option linter.unusedVariables false

section
variable {P : Program}

end
end Go.Proofs.Ytbgoclfifhdonaa
namespace Go.Proofs.Ytbgoclfifhdonaa
open Go.RowKit Go.Shelf
set_option linter.unusedSimpArgs false
set_option linter.unusedVariables false

section
variable {P : Program}
structure Bk (B : Nat) (r : Loop) (W : World) : Prop where
  rec' : W.heap[B + 1]? = some (.loop r)
  dfr : W.heap[B]? = some (.deferred (some []))
theorem Bk.lt {B : Nat} {r : Loop} {W : World} (k : Bk B r W) : B + 1 < W.heap.size := (Array.getElem?_eq_some_iff.1 k.rec').1
theorem Bk.grown {B : Nat} {r : Loop} {W W' : World} {row : Option Nat} (k : Bk B r W) (h : W.grownBy W' row) (hr : ∀ z, row = some z → B + 2 ≤ z) : Bk B r W' := by
  have hl := k.lt
  exact ⟨(h.block _ hl (fun e => by have := hr _ e.symm; omega)).trans k.rec', (h.block _ (by omega) (fun e => by have := hr _ e.symm; omega)).trans k.dfr⟩
def KW (Z : Nat → Prop) (B : Nat) (W W' : World) : Prop := W.heap.size ≤ W'.heap.size ∧ ∀ (z : Nat) (o : Obj), W.heap[z]? = some o → (Z z ∨ B ≤ z) → W'.heap[z]? = some o
theorem KW.trans {Z : Nat → Prop} {B : Nat} {X Y V : World} (h : KW Z B X Y) (g : KW Z B Y V) : KW Z B X V := ⟨Nat.le_trans h.1 g.1, fun z o h1 h2 => g.2 z o (h.2 z o h1 h2) h2⟩
theorem KW.refl (Z : Nat → Prop) (B : Nat) (W : World) : KW Z B W W := ⟨Nat.le_refl _, fun _ _ h _ => h⟩
end
end Go.Proofs.Ytbgoclfifhdonaa
