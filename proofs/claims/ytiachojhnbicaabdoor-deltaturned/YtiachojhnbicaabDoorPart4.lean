/-
  Part 4 of the proof: 5 texts, one behind the other.
-/
import Derived.Test.YtiachojhnbicaabDoorPart1
import Derived.Test.YtiachojhnbicaabDoorPart3
import Derived.Deep.Slices
import Derived.Laws.OwnMore
namespace Go.Proofs.YtiachojhnbicaabDoor
open Go.RowKit
set_option linter.unusedSimpArgs false
set_option linter.unusedVariables false

def Bo21 (W : World) (v u : Value) (a b : List Nat) : Prop := RwX cB W v a ∧ RwX cB W u b
theorem Bo21.below {W W' : World} {v u : Value} {a b : List Nat} (h : Bo21 W v u a b) (hb : Below W.heap.size W W') : Bo21 W' v u a b := ⟨h.1.below hb, h.2.below hb⟩
theorem rwx_get {w : World} {ao : Option Addr} {n c : Nat} {l : List Nat} (h : RwX cB w (.slice ao n c) l) (hl : 0 < l.length) : ∃ b off, ao = some ⟨b, off, none⟩ ∧ ∀ (j x : Nat), l[j]? = some x → w.cell? ⟨b, off + j, none⟩ = some (.int .u8 (x : Int)) := by
  obtain ⟨ao', c', e, hc, h⟩ := h
  injection e with e1 e2 e3
  subst e1
  rcases h with h | ⟨b, off, e2, h⟩
  · rw [h] at hl; cases hl
  · exact ⟨b, off, e2, h⟩
theorem min_21 (a b : Int) (w : World) : (Builtin.min_ #[3, 3] 3 #[.int .i64 a, .int .i64 b]).run Tryd.prog w = .ok (.int .i64 (min a b)) w := by
  by_cases h : a ≤ b
  · rw [Int.min_eq_left h]
    by_cases h2 : a = b
    · subst h2; go_simp
    · have h3 : a < b := by omega
      go_simp
      try simp [*]
      try omega
  · rw [Int.min_eq_right (by omega)]
    have h3 : ¬ a < b := by omega
    have h4 : b < a := by omega
    go_simp
    try simp [*]
    try omega
theorem u8_bne {x y : Nat} (h : ¬ x = y) : ((x : Int) == (y : Int)) = false := by simp; omega
set_option maxRecDepth 100000 in
set_option maxHeartbeats 4000000 in
theorem first21 (v u : Value) (a b : List Nat) (w : World) (hv : RwX cB w v a) (hu : RwX cB w u b) (hl : a.length ≤ 140737488355328) :
    Calls Tryd.prog 16 #[v, u] w fun e w' => e = .returned (.int .i64 ((cpN a b : Nat) : Int)) ∧ Below w.heap.size w w' := by
  obtain ⟨ao, c, hvf, -⟩ := id hv
  obtain ⟨bo, d, huf, -⟩ := id hu
  subst hvf huf
  have mn := min_21 (a.length : Int) (b.length : Int)
  obtain ⟨m, hm⟩ : ∃ m : Int, m = min (a.length : Int) (b.length : Int) := ⟨_, rfl⟩
  rw [← hm] at mn
  have HM : Hid (m = ((min a.length b.length : Nat) : Int)) := by show _ = _; rw [hm]; omega
  have HT : Hid (Bo21 w (.slice ao a.length c) (.slice bo b.length d) a b) := ⟨hv, hu⟩
  have HB : Hid (Below w.heap.size w w) := Below.refl _ _
  have HL := hid13 hl
  clear hm hv hu hl
  go_enter Tryd.func16, Tryd.ntmps16
  go_wp2
  go_loopg [5] (min a.length b.length) (fun g x wr => ∃ (k : Nat), k + g = min a.length b.length ∧ x = .int .i64 (k : Int) ∧ Hid (Bo21 wr (.slice ao a.length c) (.slice bo b.length d) a b ∧ Below w.heap.size w wr) ∧ Hid (a.take k = b.take k))
  case atStart => exact ⟨0, by omega, rfl, ⟨HT.out, HB.out⟩, by show _ = _; simp⟩
  case round =>
    clear HT HB
    obtain ⟨k, hk, rfl, HW, HP⟩ := hrel
    by_cases hlt : k < min a.length b.length
    · have hl1 : k < a.length := by omega
      have hl2 : k < b.length := by omega
      have l1 : (k : Int) < (a.length : Int) := by omega
      have l2 : (k : Int) < (b.length : Int) := by omega
      have lm : (k : Int) < m := by rw [HM.out]; omega
      obtain ⟨x, hx⟩ : ∃ x, a[k]? = some x := ⟨a[k], by simp [hl1]⟩
      obtain ⟨y, hy⟩ : ∃ y, b[k]? = some y := ⟨b[k], by simp [hl2]⟩
      obtain ⟨b1, f1, hao, hc1⟩ := rwx_get HW.out.1.1 (by omega)
      obtain ⟨b2, f2, hbo, hc2⟩ := rwx_get HW.out.1.2 (by omega)
      subst hao hbo
      have r1 := hc1 k x hx
      have r2 := hc2 k y hy
      have mk : IntKind.i64.wrap ((k : Int) + 1) = (k : Int) + 1 := by rw [IntKind.wrap_i64]; have := HL.out; omega
      have HX : Hid (a[k]? = some x ∧ b[k]? = some y ∧ k < min a.length b.length ∧ k + gk = min a.length b.length) := ⟨hx, hy, hlt, hk⟩
      clear hc1 hc2 hx hy hlt hl1 hl2 hk
      by_cases hxy : x = y
      · subst hxy
        have HP2 : Hid (a.take (k + 1) = b.take (k + 1)) := by
          show _ = _
          rw [List.take_add_one, List.take_add_one, HX.out.1, HX.out.2.1, HP.out]
        clear HP
        go_wp2
        go_quiet (fail)
        have HW2 : Hid (Bo21 (wr.drewN nq) _ _ a b ∧ Below w.heap.size w (wr.drewN nq)) := ⟨HW.out.1.below (below_drewN (Below.refl _ _) nq), below_drewN HW.out.2 nq⟩
        clear HW r1 r2
        go_wp2
        go_roundg (gk - 1)
        case measure => have := HX.out; omega
        case rel => exact ⟨k + 1, by have := HX.out; omega, rfl, HW2, HP2⟩
      · have eb : ((x : Int) == (y : Int)) = false := u8_bne hxy
        have HF : Hid (cpN a b = k) := by
          show _ = _
          refine cpN_of a b k HP.out (by have := HX.out; omega) (by have := HX.out; omega) (.inr (.inr ?_))
          rw [HX.out.1, HX.out.2.1]
          intro e
          injection e with e
          exact hxy e
        clear HP hxy
        go_wp2
        go_quiet (fail)
        have HW2 : Hid (Below w.heap.size w (wr.drewN nq)) := below_drewN HW.out.2 nq
        clear HW r1 r2
        go_wp2
        go_ret
        exact ⟨by rw [HF.out]; rfl, HW2.out⟩
    · have lm : decide ((k : Int) < m) = false := by rw [HM.out]; exact decide_eq_false (by omega)
      have HF : Hid (cpN a b = k) := by
        show _ = _
        exact cpN_of a b k HP.out (by omega) (by omega) (by omega)
      clear HP hlt hk
      go_wp2
      go_quiet (fail)
      have HW2 : Hid (Below w.heap.size w (wr.drewN nq)) := below_drewN HW.out.2 nq
      clear HW
      go_wp2
      go_ret
      exact ⟨by rw [HF.out]; rfl, HW2.out⟩
set_option maxRecDepth 100000 in
set_option maxHeartbeats 4000000 in
theorem last21 (v u : Value) (a b : List Nat) (w : World) (hv : RwX cB w v a) (hu : RwX cB w u b) (hl : a.length ≤ 140737488355328) (hl2 : b.length ≤ 140737488355328) :
    Calls Tryd.prog 17 #[v, u] w fun e w' => e = .returned (.int .i64 ((csN a b : Nat) : Int)) ∧ Below w.heap.size w w' := by
  obtain ⟨ao, c, hvf, -⟩ := id hv
  obtain ⟨bo, d, huf, -⟩ := id hu
  subst hvf huf
  have mn := min_21 (a.length : Int) (b.length : Int)
  obtain ⟨m, hm⟩ : ∃ m : Int, m = min (a.length : Int) (b.length : Int) := ⟨_, rfl⟩
  rw [← hm] at mn
  have HM : Hid (m = ((min a.length b.length : Nat) : Int)) := by show _ = _; rw [hm]; omega
  have HT : Hid (Bo21 w (.slice ao a.length c) (.slice bo b.length d) a b) := ⟨hv, hu⟩
  have HB : Hid (Below w.heap.size w w) := Below.refl _ _
  have HL := hid13 hl
  have HL2 := hid13 hl2
  clear hm hv hu hl hl2
  go_enter Tryd.func17, Tryd.ntmps17
  go_wp2
  go_loopg [5] (min a.length b.length) (fun g x wr => ∃ (k : Nat), k + g = min a.length b.length ∧ x = .int .i64 (k : Int) ∧ Hid (Bo21 wr (.slice ao a.length c) (.slice bo b.length d) a b ∧ Below w.heap.size w wr) ∧ Hid (∀ j < k, a[a.length - 1 - j]? = b[b.length - 1 - j]?))
  case atStart => exact ⟨0, by omega, rfl, ⟨HT.out, HB.out⟩, fun j hj => absurd hj (Nat.not_lt_zero _)⟩
  case round =>
    clear HT HB
    obtain ⟨k, hk, rfl, HW, HP⟩ := hrel
    by_cases hlt : k < min a.length b.length
    · have hl1 : k < a.length := by omega
      have hl2 : k < b.length := by omega
      have l1 : (k : Int) < (a.length : Int) := by omega
      have l2 : (k : Int) < (b.length : Int) := by omega
      have lm : (k : Int) < m := by rw [HM.out]; omega
      obtain ⟨x, hx⟩ : ∃ x, a[a.length - 1 - k]? = some x := ⟨a[a.length - 1 - k], List.getElem?_eq_getElem (by omega)⟩
      obtain ⟨y, hy⟩ : ∃ y, b[b.length - 1 - k]? = some y := ⟨b[b.length - 1 - k], List.getElem?_eq_getElem (by omega)⟩
      obtain ⟨b1, f1, hao, hc1⟩ := rwx_get HW.out.1.1 (by omega)
      obtain ⟨b2, f2, hbo, hc2⟩ := rwx_get HW.out.1.2 (by omega)
      subst hao hbo
      have r1 := hc1 _ x hx
      have r2 := hc2 _ y hy
      have wa1 : IntKind.i64.wrap ((a.length : Int) - 1) = (a.length : Int) - 1 := by rw [IntKind.wrap_i64]; have := HL.out; omega
      have wa2 : IntKind.i64.wrap ((a.length : Int) - 1 - (k : Int)) = ((a.length - 1 - k : Nat) : Int) := by rw [IntKind.wrap_i64]; have := HL.out; omega
      have wb1 : IntKind.i64.wrap ((b.length : Int) - 1) = (b.length : Int) - 1 := by rw [IntKind.wrap_i64]; have := HL2.out; omega
      have wb2 : IntKind.i64.wrap ((b.length : Int) - 1 - (k : Int)) = ((b.length - 1 - k : Nat) : Int) := by rw [IntKind.wrap_i64]; have := HL2.out; omega
      have l1' : ((a.length - 1 - k : Nat) : Int) < (a.length : Int) := by omega
      have l2' : ((b.length - 1 - k : Nat) : Int) < (b.length : Int) := by omega
      have mk : IntKind.i64.wrap ((k : Int) + 1) = (k : Int) + 1 := by rw [IntKind.wrap_i64]; have := HL.out; omega
      have HX : Hid (a[a.length - 1 - k]? = some x ∧ b[b.length - 1 - k]? = some y ∧ k < min a.length b.length ∧ k + gk = min a.length b.length) := ⟨hx, hy, hlt, hk⟩
      clear hc1 hc2 hx hy hlt hl1 hl2 hk
      by_cases hxy : x = y
      · subst hxy
        have HP2 : Hid (∀ j < k + 1, a[a.length - 1 - j]? = b[b.length - 1 - j]?) := by
          intro j hj
          by_cases e : j = k
          · rw [e, HX.out.1, HX.out.2.1]
          · exact HP.out j (by omega)
        clear HP
        go_wp2
        go_quiet (fail)
        have HW2 : Hid (Bo21 (wr.drewN nq) _ _ a b ∧ Below w.heap.size w (wr.drewN nq)) := ⟨HW.out.1.below (below_drewN (Below.refl _ _) nq), below_drewN HW.out.2 nq⟩
        clear HW r1 r2
        go_wp2
        go_roundg (gk - 1)
        case measure => have := HX.out; omega
        case rel => exact ⟨k + 1, by have := HX.out; omega, rfl, HW2, HP2⟩
      · have eb : ((x : Int) == (y : Int)) = false := u8_bne hxy
        have HF : Hid (csN a b = k) := by
          show _ = _
          refine csN_of a b k HP.out (by have := HX.out; omega) (by have := HX.out; omega) (.inr (.inr ?_))
          rw [HX.out.1, HX.out.2.1]
          intro e
          injection e with e
          exact hxy e
        clear HP hxy
        go_wp2
        go_quiet (fail)
        have HW2 : Hid (Below w.heap.size w (wr.drewN nq)) := below_drewN HW.out.2 nq
        clear HW r1 r2
        go_wp2
        go_ret
        exact ⟨by rw [HF.out]; rfl, HW2.out⟩
    · have lm : decide ((k : Int) < m) = false := by rw [HM.out]; exact decide_eq_false (by omega)
      have HF : Hid (csN a b = k) := by
        show _ = _
        exact csN_of a b k HP.out (by omega) (by omega) (by omega)
      clear HP hlt hk
      go_wp2
      go_quiet (fail)
      have HW2 : Hid (Below w.heap.size w (wr.drewN nq)) := below_drewN HW.out.2 nq
      clear HW
      go_wp2
      go_ret
      exact ⟨by rw [HF.out]; rfl, HW2.out⟩
end Go.Proofs.YtiachojhnbicaabDoor
namespace Go.Proofs.YtiachojhnbicaabDoor
open Go.RowKit Go.Shelf
set_option linter.unusedSimpArgs false
set_option linter.unusedVariables false

section
variable {P : Program}
end
end Go.Proofs.YtiachojhnbicaabDoor
namespace Go.Proofs.YtiachojhnbicaabDoor
open Go.RowKit Go.Shelf
set_option linter.unusedSimpArgs false
set_option linter.unusedVariables false
attribute [local go_sem] Oper.semAt_some

end Go.Proofs.YtiachojhnbicaabDoor
namespace Go.Proofs.YtiachojhnbicaabDoor
open Go.RowKit Go.Shelf
set_option linter.unusedSimpArgs false
set_option linter.unusedVariables false

set_option maxRecDepth 20000 in
set_option maxHeartbeats 2000000 in
theorem equal21 (v u : Value) (a b : List Nat) (w : World) (hv : RwX cB w v a) (hu : RwX cB w u b) (hx : ∀ z ∈ a, z < 256) (hy : ∀ z ∈ b, z < 256) :
    Calls Tryd.prog 15 #[v, u] w fun e w' => e = .returned (.bool (decide (a = b))) ∧ Below w.heap.size w w' := by
  have c1 := conv13 hv hx
  have c2 := conv13 hu hy
  have hb := bsA_eq hx hy
  obtain ⟨ao, c, hvf, -⟩ := id hv
  obtain ⟨bo, d, huf, -⟩ := id hu
  subst hvf huf
  generalize bsA a = s at *
  generalize bsA b = t at *
  obtain ⟨q, hq⟩ : ∃ q, q = decide (a = b) := ⟨_, rfl⟩
  rw [← hq] at hb ⊢
  clear hq hv hu hx hy
  go_enter Tryd.func15, Tryd.ntmps15
  go_wp2
  go_ret
  exact ⟨by first | rfl | (rw [← hb]; rfl), Below.refl _ _⟩
set_option maxRecDepth 20000 in
set_option maxHeartbeats 2000000 in
theorem clone21 (v : Value) (l : List Nat) (w : World) (hA : RowA w 1 v l.length (l.map cB)) (hl : l.length ≤ 140737480000000) :
    Calls Tryd.prog 18 #[v] w fun e w' => ∃ v', e = .returned v' ∧ w'.ownsRow w.heap.size 5 1 v' l.length (l.map cB) ∧ Below w.heap.size w w' := by
  obtain ⟨i0, hi, hz0, hz1, hz2⟩ := info13 Tryd.infoB13
  obtain ⟨-, ao, c, hvf, -⟩ := id hA
  subst hvf
  have hq : ∀ (w : World) (a : Option Addr) (n c n' c' : Nat), (binOp .eql 22 (.slice a n c) (.slice none n' c')).run Tryd.prog w = .ok (.bool a.isNone) w := fun w a n c n' c' => Lib.run_eql_slice_nil w 22 5 a n c n' c' Tryd.underlying22
  have q3 := bl1 w (.cells #[] 5)
  have HR3 := hid13 (hA.below q3)
  have HO3 : Hid ((w.alloc (.cells #[] 5)).ownsRow w.heap.size 5 1 (.slice (some ⟨w.heap.size, 0, none⟩) 0 0) 0 []) := World.ownsRow_made w #[] 0 (Nat.le_refl _) (by unfold maxLen; omega) (by simp)
  have HQ := hid13 q3
  cases ao with
  | none =>
    have hl0 : l = [] := by
      obtain ⟨-, ao', c', e, -, h⟩ := hA
      injection e with e1 e2 e3
      subst e1
      rcases h with ⟨-, -, h⟩ | ⟨b, h, -⟩
      · simpa using h
      · cases h
    subst hl0
    clear hA q3 HR3 HO3 HQ
    go_enter Tryd.func18, Tryd.ntmps18
    go_wp2
    go_ret
    exact ⟨_, rfl, World.ownsRow_nil _ _ _ _, Below.refl _ _⟩
  | some ad =>
    clear hA
    go_enter Tryd.func18, Tryd.ntmps18
    go_wp2_with (at_builtin; apply stopHere9)
    refine (show wpList _ _ _ _ _ _ from ?_)
    refine wpList_append_rowA rfl _ _ 22 rfl w.heap.size 5 i0 (.int .u8 0) 1 1 Tryd.underlying22 hi hz0 hz1 hz2 rfl (by decide) _ 0 [] rfl HO3.out _ l.length (l.map cB) rfl HR3.out (cB_one l) (by unfold maxLen; omega) (by omega) q3.size ?_
    intro ao4 c4 w4 hO4 hg4
    rw [Nat.zero_add, List.nil_append] at hO4
    rw [Nat.zero_add]
    have HB4 : Hid (Below w.heap.size w w4) := hid13 (HQ.out.grown hg4 HQ.out.size (fun z hz => (HO3.out.lt z hz).1))
    have HO4 := hid13 hO4
    clear hO4 hg4 q3 HR3 HO3 HQ
    go_wp2
    go_ret
    exact ⟨_, rfl, HO4.out, HB4.out⟩
theorem rowA_mid21 {W : World} {ao : Option Addr} {n c k z : Nat} {l : List Nat} (h : RowA W 1 (.slice ao n c) n (l.map cB)) (hk : k + z ≤ n) : RowA W 1 (.slice (if c = k then ao else ao.map (·.add (k * 1))) z (c - k)) z (((l.drop k).take z).map cB) := by
  obtain ⟨hl, ao', c', e, hc, h⟩ := h
  injection e with e1 e2 e3
  subst e1 e3
  rw [List.length_map, Nat.mul_one] at hl
  refine ⟨by rw [List.length_map, List.length_take, List.length_drop]; omega, _, _, rfl, by omega, ?_⟩
  rcases h with ⟨rfl, rfl, rfl⟩ | ⟨a, rfl, h⟩
  · left
    exact ⟨by split <;> rfl, by omega, by omega⟩
  · right
    by_cases hck : c = k
    · subst hck
      refine ⟨a, by simp, fun j u hj => ?_⟩
      have hj' := (List.getElem?_eq_some_iff.1 hj).1
      rw [List.length_map, List.length_take, List.length_drop] at hj'
      omega
    · refine ⟨a.add (k * 1), by rw [if_neg hck]; rfl, fun j u hj => ?_⟩
      have hj' := (List.getElem?_eq_some_iff.1 hj).1
      rw [List.length_map, List.length_take, List.length_drop] at hj'
      rw [List.getElem?_map, List.getElem?_take_of_lt (by omega), List.getElem?_drop, ← List.getElem?_map] at hj
      have := h (k + j) u hj
      rw [Deep.add_add, Nat.mul_one]
      exact this
theorem rwx_mid21 {W : World} {ao : Option Addr} {n c k z : Nat} {l : List Nat} (h : RwX cB W (.slice ao n c) l) (hk : k + z ≤ l.length) : RwX cB W (.slice (if c = k then ao else ao.map (·.add (k * 1))) z (c - k)) ((l.drop k).take z) := by
  have h1 := rwx_from h (k := k) (by omega)
  have h2 : RwX cB W (.slice (if c = k then ao else ao.map (·.add (k * 1))) (l.length - k) (c - k)) ((l.drop k).take z ++ (l.drop k).drop z) := by rw [List.take_append_drop]; exact h1
  have h3 := rwx_take h2
  rw [List.length_take, List.length_drop, Nat.min_eq_left (by omega)] at h3
  exact h3
def DfO (base : Nat) (W : World) (v : Value) (a b : List Nat) : Prop :=
  if a = b then v = .slice none 0 0 else ∃ z vx, v = .slice (some ⟨z, 0, none⟩) 1 1 ∧ W.ownsRow base 38 3 v 1 [.int .i64 (dfP a b).k, .int .i64 (dfP a b).d, vx] ∧ W.ownsRow base 5 1 vx (dfP a b).x.length ((dfP a b).x.map cB) ∧ vx.ownBlock ≠ some z
set_option maxRecDepth 20000 in
set_option maxHeartbeats 4000000 in
theorem diff21 (v u : Value) (a b : List Nat) (w : World) (hv : RwX cB w v a) (hu : RwX cB w u b) (hA : RowA w 1 v a.length (a.map cB)) (hB : RowA w 1 u b.length (b.map cB)) (hx : ∀ z ∈ a, z < 256) (hy : ∀ z ∈ b, z < 256) (hl : a.length ≤ 140737480000000) (hl2 : b.length ≤ 140737480000000) :
    Calls Tryd.prog 6 #[v, u] w fun e w' => ∃ v', e = .returned v' ∧ DfO w.heap.size w' v' a b ∧ Below w.heap.size w w' := by
  obtain ⟨i0, hi, hz0, hz1, hz2⟩ := info13 Tryd.infoB13
  have K1 := equal21 v u a b w hv hu hx hy
  obtain ⟨ao, c, hvf, hc, -⟩ := id hv
  obtain ⟨bo, d, huf, hd, -⟩ := id hu
  subst hvf huf
  by_cases hab : a = b
  · have HD : Hid (∀ w', DfO w.heap.size w' (.slice none 0 0) a b) := by
      intro w'
      unfold DfO
      rw [if_pos hab]
    rw [decide_eq_true hab] at K1
    clear hv hu hA hB hx hy hl hl2 hab hi hz0 hz1 hz2 hc hd
    go_enter Tryd.func6, Tryd.ntmps6
    go_wp2_with fail
    refine K1.mono ?_
    rintro e w1 ⟨rfl, hb⟩
    have HB1 := hid13 hb
    clear hb K1
    go_wp2
    go_ret
    exact ⟨_, rfl, HD.out _, HB1.out⟩
  · rw [decide_eq_false hab] at K1
    have HD : Hid (∀ w' v', (∃ z vx, v' = .slice (some ⟨z, 0, none⟩) 1 1 ∧ w'.ownsRow w.heap.size 38 3 v' 1 [.int .i64 (dfP a b).k, .int .i64 (dfP a b).d, vx] ∧ w'.ownsRow w.heap.size 5 1 vx (dfP a b).x.length ((dfP a b).x.map cB) ∧ vx.ownBlock ≠ some z) → DfO w.heap.size w' v' a b) := by
      intro w' v' h
      unfold DfO
      rw [if_neg hab]
      exact h
    have hle := df_le a b
    have hXl := dfX_len a b
    obtain ⟨K, hK⟩ : ∃ K, K = dfK a b := ⟨_, rfl⟩
    obtain ⟨T, hT⟩ : ∃ T, T = dfT a b := ⟨_, rfl⟩
    have eP : dfP a b = ⟨(K : Int), (a.length : Int) - K - T, (b.drop K).take (b.length - K - T)⟩ := by unfold dfP dfX; rw [← hK, ← hT]
    rw [← hK, ← hT] at hle hXl
    have HV : Hid (RwX cB w (.slice ao a.length c) a ∧ RwX cB w (.slice bo b.length d) b ∧ RowA w 1 (.slice bo b.length d) b.length (b.map cB)) := ⟨hv, hu, hB⟩
    have HL : Hid (a.length ≤ 140737480000000 ∧ b.length ≤ 140737480000000 ∧ K + T ≤ a.length ∧ K + T ≤ b.length) := ⟨hl, hl2, hle.1, hle.2⟩
    have HKT : Hid (cpN a b = K ∧ csN (a.drop K) (b.drop K) = T) := ⟨hK.symm, by rw [hT, hK]; rfl⟩
    have kn : (K : Int) ≤ (a.length : Int) := by omega
    obtain ⟨avo, hav⟩ : ∃ x : Option Addr, x = (if c = K then ao else ao.map (·.add (K * 1))) := ⟨_, rfl⟩
    obtain ⟨bvo, hbv⟩ : ∃ x : Option Addr, x = (if d = K then bo else bo.map (·.add (K * 1))) := ⟨_, rfl⟩
    have s1 : ∀ X, Sem.run Tryd.prog (Instr.sliceAt 22 (.slice ao a.length c) (some (.int .i64 (K : Int))) none none) X = .ok (.slice avo (a.length - K) (c - K)) X := fun X => by
      rw [hav]; exact run_slice_from (P := Tryd.prog) (w := X) Tryd.underlying22 hi hz1 ao a.length c K (by omega)
    have s2 : ∀ X, Sem.run Tryd.prog (Instr.sliceAt 22 (.slice bo b.length d) (some (.int .i64 (K : Int))) none none) X = .ok (.slice bvo (b.length - K) (d - K)) X := fun X => by
      rw [hbv]; exact run_slice_from (P := Tryd.prog) (w := X) Tryd.underlying22 hi hz1 bo b.length d K (by omega)
    have s3 : ∀ X, Sem.run Tryd.prog (Instr.sliceAt 22 (.slice bvo (b.length - K) (d - K)) none (some (.int .i64 ((b.length - K - T : Nat) : Int))) none) X = .ok (.slice bvo (b.length - K - T) (d - K)) X := fun X => run_slice_to (P := Tryd.prog) (w := X) Tryd.underlying22 hi bvo (b.length - K) (d - K) (b.length - K - T) (by omega)
    have HSl : Hid (∀ W, RwX cB W (.slice ao a.length c) a → RwX cB W (.slice bo b.length d) b → RwX cB W (.slice avo (a.length - K) (c - K)) (a.drop K) ∧ RwX cB W (.slice bvo (b.length - K) (d - K)) (b.drop K)) := by
      intro W h1 h2
      rw [hav, hbv]
      exact ⟨rwx_from h1 (by omega), rwx_from h2 (by omega)⟩
    have HSm : Hid (∀ W, RowA W 1 (.slice bo b.length d) b.length (b.map cB) → RowA W 1 (.slice bvo (b.length - K - T) (d - K)) (b.length - K - T) (((b.drop K).take (b.length - K - T)).map cB)) := by
      intro W h
      rw [hbv]
      exact rowA_mid21 h (by omega)
    have wa : IntKind.i64.wrap (((a.length - K : Nat) : Int) - (T : Int)) = (a.length : Int) - K - T := by rw [IntKind.wrap_i64]; omega
    have wb : IntKind.i64.wrap (((b.length - K : Nat) : Int) - (T : Int)) = ((b.length - K - T : Nat) : Int) := by rw [IntKind.wrap_i64]; omega
    rw [eP] at HD
    clear hv hu hA hB hx hy hl hl2 hab hK hT eP hle hXl hav hbv
    go_enter Tryd.func6, Tryd.ntmps6
    go_wp2_with fail
    refine K1.mono ?_
    rintro e w1 ⟨rfl, hb⟩
    have HB1 := hid13 hb
    clear hb K1
    go_wp2_with fail
    refine (first21 _ _ a b w1 (HV.out.1.below HB1.out) (HV.out.2.1.below HB1.out) (by have := HL.out; omega)).mono ?_
    rintro e w2 ⟨rfl, hb⟩
    have HB2 : Hid (Below w.heap.size w w2) := hid13 (keepb hb HB1.out)
    rw [HKT.out.1]
    clear hb HB1
    go_wp2
    go_quiet (fail)
    have HB3 : Hid (Below w.heap.size w (w2.drewN nq)) := below_drewN HB2.out nq
    clear HB2 s1 s2
    go_wp2_with fail
    obtain ⟨g1, g2⟩ := HSl.out _ (HV.out.1.below HB3.out) (HV.out.2.1.below HB3.out)
    refine (last21 _ _ (a.drop K) (b.drop K) _ g1 g2 (by rw [List.length_drop]; have := HL.out; omega) (by rw [List.length_drop]; have := HL.out; omega)).mono ?_
    rintro e w3 ⟨rfl, hb⟩
    have HB4 : Hid (Below w.heap.size w w3) := hid13 (keepb hb HB3.out)
    rw [HKT.out.2]
    clear hb HB3 g1 g2
    go_wp2_with fail
    have g3 := HSm.out _ (HV.out.2.2.below HB4.out)
    have hXl : ((b.drop K).take (b.length - K - T)).length = b.length - K - T := by rw [List.length_take, List.length_drop]; omega
    rw [← hXl] at g3 ⊢
    refine (clone21 _ _ _ (by rw [hXl] at g3 ⊢; exact g3) (by rw [hXl]; have := HL.out; omega)).mono ?_
    rintro e w4 ⟨vx, rfl, ho, hb⟩
    have HB5 : Hid (Below w.heap.size w w4) := hid13 (keepb hb HB4.out)
    have HO5 := hid13 (own_base16 ho HB4.out.size)
    obtain ⟨xo, xc, hvx⟩ := own_form ho
    subst hvx
    clear hb ho g3 s3
    have q6 := bl1 w4 (.cells #[.int .i64 (K : Int), .int .i64 ((a.length : Int) - K - T), .slice xo ((b.drop K).take (b.length - K - T)).length xc] 38)
    have HB6 : Hid (Below w.heap.size w _) := hid13 (keepb q6 HB5.out)
    have HO6 := hid13 (own_b13 q6 HO5.out)
    have HO7 : Hid ((w4.alloc (.cells #[.int .i64 (K : Int), .int .i64 ((a.length : Int) - K - T), .slice xo ((b.drop K).take (b.length - K - T)).length xc] 38)).ownsRow w.heap.size 38 3 (.slice (some ⟨w4.heap.size, 0, none⟩) 1 1) 1 [.int .i64 (K : Int), .int .i64 ((a.length : Int) - K - T), .slice xo ((b.drop K).take (b.length - K - T)).length xc]) := World.ownsRow_lit (base := w.heap.size) (e := 38) (size := 3) w4 _ 1 HB5.out.size (by unfold maxLen; omega) rfl
    have HN : Hid ((Value.slice xo ((b.drop K).take (b.length - K - T)).length xc).ownBlock ≠ some w4.heap.size) := by
      intro e
      have := (HO5.out.lt _ e).2
      omega
    rw [hXl] at HO6 HO7 HN q6 HB6
    clear q6 HO5 HB5
    go_wp2
    go_ret
    exact ⟨_, rfl, HD.out _ _ ⟨_, _, rfl, HO7.out, by rw [hXl]; exact HO6.out, HN.out⟩, HB6.out⟩
end Go.Proofs.YtiachojhnbicaabDoor
namespace Go.Proofs.YtiachojhnbicaabDoor
open Go.RowKit
set_option linter.unusedSimpArgs false
set_option linter.unusedVariables false

def TwI (W : World) (B : Nat) (i j : Ins) (v u : Value) : Prop := AtI W B i.op i.n v ∧ AtI W (B + 1) j.op j.n u ∧ RwX cU W v i.m ∧ RwX cU W u j.m
theorem TwI.below {W W' : World} {B : Nat} {i j : Ins} {v u : Value} (h : TwI W B i j v u) (hb : Below W.heap.size W W') : TwI W' B i j v u := ⟨h.1.below hb, h.2.1.below hb, h.2.2.1.below hb, h.2.2.2.below hb⟩
def wth (a n : Int) : Int := if a.tmod n < 0 then a.tmod n + n else a.tmod n
theorem wth_in (a n : Int) (hn : 0 < n) : 0 ≤ wth a n ∧ wth a n < n := by
  unfold wth
  have h1 := Int.tmod_lt_of_pos a hn
  have h2 := Int.lt_tmod_of_pos a hn
  split <;> constructor <;> omega
end Go.Proofs.YtiachojhnbicaabDoor
