/-
  Part 14 of the proof: 2 texts, one behind the other.
-/
import Derived.Test.YtnaihocdemcejaaPart13
import Derived.Test.YtnaihocdemcejaaPart3
import Derived.Test.YtnaihocdemcejaaPart2
import Derived.Deep.Slices
import Derived.Carry
import Derived.SizedLaws
import Derived.ProofKit
import Derived.Lib.SmallJoins
/-
  The law CodeAll.
-/
namespace Go.Proofs.Ytnaihocdemcejaa
open Go.RowKit Go.Shelf
set_option linter.unusedSimpArgs false
set_option linter.unusedVariables false
attribute [local go_sem] Oper.semAt_some

theorem seqnil14 (p : Option Addr) (W : World) : (binOp BinOp.eql 42 (.func (.func 32) #[] #[.pointer p]) .nilFunc).run Try.prog W = .ok (.bool false) W := by
  kernel_rfl
theorem wl_nilA {P : Program} {ops : Array Oper} {Q : Exit → Act → World → Prop} {a : Act} {w : World} (h : wpList P ops Q [] a w) : Q .normal a w := h
/-- A function leaves past the marks of its ranges. -/
theorem leaves_marks14 {n B : Nat} {P : Program} {fn : Func} {tmps : Array Value} {R : Ending → World → Prop} : ∀ (l : List Nat) (W : World), l.Nodup → (∀ D ∈ l, B ≤ D ∧ W.heap[D]? = some (.deferred (some []))) → (∀ W', Below B W W' → LeavesInM Fence.wide n P fn tmps R [] .returning W') → LeavesInM Fence.wide n P fn tmps R (l.map fun D => { target := .collected D, args := #[] }) .returning W
  | [], W, _, _, h => h W (Below.refl _ _)
  | D :: l, W, hn, hd, h => by
    obtain ⟨h1, h2⟩ := List.nodup_cons.mp hn
    obtain ⟨hB, hD⟩ := hd D (List.mem_cons_self ..)
    have hput : Below B W (W.putObj D (.deferred none)) := ⟨rfl, rfl, rfl, by simp, fun k hk => World.putObj_heap_other (by omega)⟩
    refine ⟨by simp, .inl ⟨D, W.putObj D (.deferred none), rfl, run_takeDeferred hD, leaves_marks14 l _ h2 (fun E hE => ?_) (fun W' hb => h W' (hput.trans hb))⟩⟩
    obtain ⟨a, b⟩ := hd E (List.mem_cons_of_mem _ hE)
    refine ⟨a, (World.putObj_heap_other ?_).trans b⟩
    rintro rfl
    exact h1 hE
def adOf14 : Value → Addr
  | .pointer (some a) => a
  | _ => ⟨0, 0, none⟩
theorem arr94 (t : Array Value) (h : t.size = 94) : ∃ u : Nat → Value, (∀ i, u i = t.getD i undef) ∧ t = #[u 0, u 1, u 2, u 3, u 4, u 5, u 6, u 7, u 8, u 9, u 10, u 11, u 12, u 13, u 14, u 15, u 16, u 17, u 18, u 19, u 20, u 21, u 22, u 23, u 24, u 25, u 26, u 27, u 28, u 29, u 30, u 31, u 32, u 33, u 34, u 35, u 36, u 37, u 38, u 39, u 40, u 41, u 42, u 43, u 44, u 45, u 46, u 47, u 48, u 49, u 50, u 51, u 52, u 53, u 54, u 55, u 56, u 57, u 58, u 59, u 60, u 61, u 62, u 63, u 64, u 65, u 66, u 67, u 68, u 69, u 70, u 71, u 72, u 73, u 74, u 75, u 76, u 77, u 78, u 79, u 80, u 81, u 82, u 83, u 84, u 85, u 86, u 87, u 88, u 89, u 90, u 91, u 92, u 93] := by
  refine ⟨fun i => t.getD i undef, fun _ => rfl, ?_⟩
  obtain ⟨l⟩ := t
  have h' : l.length = 94 := h
  have e : l = (List.range 94).map (fun i => (⟨l⟩ : Array Value).getD i undef) := by
    apply List.ext_getElem
    · simp [h']
    · intro i h1 h2
      simp [Array.getD, h1]
  have e2 : (List.range 94).map (fun i => (⟨l⟩ : Array Value).getD i undef) = [(⟨l⟩ : Array Value).getD 0 undef, (⟨l⟩ : Array Value).getD 1 undef, (⟨l⟩ : Array Value).getD 2 undef, (⟨l⟩ : Array Value).getD 3 undef, (⟨l⟩ : Array Value).getD 4 undef, (⟨l⟩ : Array Value).getD 5 undef, (⟨l⟩ : Array Value).getD 6 undef, (⟨l⟩ : Array Value).getD 7 undef, (⟨l⟩ : Array Value).getD 8 undef, (⟨l⟩ : Array Value).getD 9 undef, (⟨l⟩ : Array Value).getD 10 undef, (⟨l⟩ : Array Value).getD 11 undef, (⟨l⟩ : Array Value).getD 12 undef, (⟨l⟩ : Array Value).getD 13 undef, (⟨l⟩ : Array Value).getD 14 undef, (⟨l⟩ : Array Value).getD 15 undef, (⟨l⟩ : Array Value).getD 16 undef, (⟨l⟩ : Array Value).getD 17 undef, (⟨l⟩ : Array Value).getD 18 undef, (⟨l⟩ : Array Value).getD 19 undef, (⟨l⟩ : Array Value).getD 20 undef, (⟨l⟩ : Array Value).getD 21 undef, (⟨l⟩ : Array Value).getD 22 undef, (⟨l⟩ : Array Value).getD 23 undef, (⟨l⟩ : Array Value).getD 24 undef, (⟨l⟩ : Array Value).getD 25 undef, (⟨l⟩ : Array Value).getD 26 undef, (⟨l⟩ : Array Value).getD 27 undef, (⟨l⟩ : Array Value).getD 28 undef, (⟨l⟩ : Array Value).getD 29 undef, (⟨l⟩ : Array Value).getD 30 undef, (⟨l⟩ : Array Value).getD 31 undef, (⟨l⟩ : Array Value).getD 32 undef, (⟨l⟩ : Array Value).getD 33 undef, (⟨l⟩ : Array Value).getD 34 undef, (⟨l⟩ : Array Value).getD 35 undef, (⟨l⟩ : Array Value).getD 36 undef, (⟨l⟩ : Array Value).getD 37 undef, (⟨l⟩ : Array Value).getD 38 undef, (⟨l⟩ : Array Value).getD 39 undef, (⟨l⟩ : Array Value).getD 40 undef, (⟨l⟩ : Array Value).getD 41 undef, (⟨l⟩ : Array Value).getD 42 undef, (⟨l⟩ : Array Value).getD 43 undef, (⟨l⟩ : Array Value).getD 44 undef, (⟨l⟩ : Array Value).getD 45 undef, (⟨l⟩ : Array Value).getD 46 undef, (⟨l⟩ : Array Value).getD 47 undef, (⟨l⟩ : Array Value).getD 48 undef, (⟨l⟩ : Array Value).getD 49 undef, (⟨l⟩ : Array Value).getD 50 undef, (⟨l⟩ : Array Value).getD 51 undef, (⟨l⟩ : Array Value).getD 52 undef, (⟨l⟩ : Array Value).getD 53 undef, (⟨l⟩ : Array Value).getD 54 undef, (⟨l⟩ : Array Value).getD 55 undef, (⟨l⟩ : Array Value).getD 56 undef, (⟨l⟩ : Array Value).getD 57 undef, (⟨l⟩ : Array Value).getD 58 undef, (⟨l⟩ : Array Value).getD 59 undef, (⟨l⟩ : Array Value).getD 60 undef, (⟨l⟩ : Array Value).getD 61 undef, (⟨l⟩ : Array Value).getD 62 undef, (⟨l⟩ : Array Value).getD 63 undef, (⟨l⟩ : Array Value).getD 64 undef, (⟨l⟩ : Array Value).getD 65 undef, (⟨l⟩ : Array Value).getD 66 undef, (⟨l⟩ : Array Value).getD 67 undef, (⟨l⟩ : Array Value).getD 68 undef, (⟨l⟩ : Array Value).getD 69 undef, (⟨l⟩ : Array Value).getD 70 undef, (⟨l⟩ : Array Value).getD 71 undef, (⟨l⟩ : Array Value).getD 72 undef, (⟨l⟩ : Array Value).getD 73 undef, (⟨l⟩ : Array Value).getD 74 undef, (⟨l⟩ : Array Value).getD 75 undef, (⟨l⟩ : Array Value).getD 76 undef, (⟨l⟩ : Array Value).getD 77 undef, (⟨l⟩ : Array Value).getD 78 undef, (⟨l⟩ : Array Value).getD 79 undef, (⟨l⟩ : Array Value).getD 80 undef, (⟨l⟩ : Array Value).getD 81 undef, (⟨l⟩ : Array Value).getD 82 undef, (⟨l⟩ : Array Value).getD 83 undef, (⟨l⟩ : Array Value).getD 84 undef, (⟨l⟩ : Array Value).getD 85 undef, (⟨l⟩ : Array Value).getD 86 undef, (⟨l⟩ : Array Value).getD 87 undef, (⟨l⟩ : Array Value).getD 88 undef, (⟨l⟩ : Array Value).getD 89 undef, (⟨l⟩ : Array Value).getD 90 undef, (⟨l⟩ : Array Value).getD 91 undef, (⟨l⟩ : Array Value).getD 92 undef, (⟨l⟩ : Array Value).getD 93 undef] := rfl
  rw [e2] at e
  exact congrArg _ e
set_option maxRecDepth 100000 in
set_option maxHeartbeats 64000000 in
theorem codeAll_any (v : Value) (l : List Nat) (so : Int) (w : World) (hA : RowA w 1 v l.length (l.map cB)) (hv : RwX cB w v l) (hx : ∀ b ∈ l, b < 256) (hs0 : -9223372036854775808 ≤ so) (hs1 : so ≤ 9223372036854775807) :
    Calls Try.prog 5 #[v, .int .i64 so] w fun e w' => e = .returned (.bool true) ∧ Below w.heap.size w w' := by
  obtain ⟨i0, hi, hz0, hz1, hz2⟩ := info13 Try.infoB13
  have q1 := bl1 w (.cells #[v] 25)
  have q2 := bl1 (w.alloc (.cells #[v] 25)) (.cells #[.int .i64 so] 3)
  have q3 := bl1 ((w.alloc (.cells #[v] 25)).alloc (.cells #[.int .i64 so] 3)) (.cells #[.bool false] 4)
  have s1 : (w.alloc (.cells #[v] 25)).heap.size = w.heap.size + 1 := by simp
  have s2 : ((w.alloc (.cells #[v] 25)).alloc (.cells #[.int .i64 so] 3)).heap.size = w.heap.size + 2 := by simp
  have HB0 := hid13 (keepb q3 (keepb q2 q1))
  have HL0 : Hid (∀ X, X = ((w.alloc (.cells #[v] 25)).alloc (.cells #[.int .i64 so] 3)).alloc (.cells #[.bool false] 4) → X.heap[w.heap.size]? = some (.cells #[v] 25) ∧ X.heap[w.heap.size + 1]? = some (.cells #[.int .i64 so] 3) ∧ X.heap[w.heap.size + 2]? = some (.cells #[.bool false] 4)) := hid13 (by
    rintro X rfl
    refine ⟨?_, ?_, ?_⟩
    · rw [q3.block _ (by omega), q2.block _ (by omega)]
      exact Array.getElem?_push_size
    · rw [q3.block _ (by omega), ← s1]
      exact Array.getElem?_push_size
    · rw [← s2]
      exact Array.getElem?_push_size)
  have HV := hid13 hv
  have HA := hid13 hA
  have HX := hid13 hx
  obtain ⟨ao, c, rfl, -⟩ := id hv
  have KK := fun w => known14 w
  clear q1 q2 q3 s1 s2 hA hv hx
  refine (callsIn_wide (n := 9)).1 ?_
  refine callsIn_of_wp_marks Try.func5 rfl trivial ?_ rfl
  simp only [Try.ntmps5, List.size_toArray, List.length_cons, List.length_nil, Nat.reduceAdd, Nat.reduceSub, Array.replicate_succ, Array.replicate_zero, List.push_toArray, List.append_toArray, List.nil_append, List.cons_append]
  refine wpIn_wide.2 ?_
  go_wp2_with fail
  revert HB0 HL0
  generalize ((w.alloc (.cells #[.slice ao l.length c] 25)).alloc (.cells #[.int .i64 so] 3)).alloc (.cells #[.bool false] 4) = W5
  intro HB0 HL0
  refine (KK W5).mono ?_
  rintro e w1 ⟨rfl, hb⟩
  have HB1 := hid13 (keepb hb HB0.out)
  obtain ⟨p0, p1, p2⟩ := HL0.out W5 rfl
  have b0 := (hb.block _ (lt_a14 p0)).trans p0
  have b1 := (hb.block _ (lt_a14 p1)).trans p1
  have b2 := (hb.block _ (lt_a14 p2)).trans p2
  have HLb : Hid (w1.heap[w.heap.size]? = some (.cells #[.slice ao l.length c] 25) ∧ w1.heap[w.heap.size + 1]? = some (.cells #[.int .i64 so] 3) ∧ w1.heap[w.heap.size + 2]? = some (.cells #[.bool false] 4)) := ⟨b0, b1, b2⟩
  clear KK hb HB0 HL0 p0 p1 p2 b0 b1 b2
  have t0 := at_a14 HLb.out.1 0 _ rfl
  by_cases h1 : (16384 : Int) < (l.length : Int)
  · have r0 := at_a14 HLb.out.2.2 0 _ rfl
    have rf := fr_a14 (j := 0) HLb.out.2.2
    have HR := hid13 (at_a14 (set_a14 (o := 0) HLb.out.2.2 (.bool true)) 0 (.bool true) rfl)
    have HBz := hid13 (HB1.out.setCell (p := ⟨w.heap.size + 2, 0, none⟩) (by simp) (.bool true))
    clear HLb HB1
    go_wp2
    have z0 := HR.out
    refine ⟨.bool true, ?_, rfl, HBz.out⟩
    simp [results, Try.results5, go_sem, z0]
  have HL : Hid (l.length ≤ 16384) := hid13 (by omega)
  have q3 := bl1 w1 (.cells #[] 5)
  have HR3 := hid13 ((HA.out.below HB1.out).below q3)
  have HO3 : Hid ((w1.alloc (.cells #[] 5)).ownsRow w1.heap.size 5 1 (.slice (some ⟨w1.heap.size, 0, none⟩) 0 0) 0 []) := World.ownsRow_made w1 #[] 0 (Nat.le_refl _) (by unfold maxLen; omega) (by simp)
  have HQ := hid13 q3
  have t1 : (w1.alloc (.cells #[] 5)).cell? ⟨w.heap.size, 0, none⟩ = some (.slice ao l.length c) := keepc q3 t0
  go_wp2_with (at_builtin; apply stopHere9)
  refine (show wpList _ _ _ _ _ _ from ?_)
  refine wpList_append_rowA rfl _ _ 25 rfl w1.heap.size 5 i0 (.int .u8 0) 1 1 Try.underlying25 hi hz0 hz1 hz2 rfl (by decide) _ 0 [] rfl HO3.out _ l.length (l.map cB) rfl HR3.out (cB_one l) (by have := HL.out; unfold maxLen; omega) (by have := HL.out; omega) q3.size ?_
  intro ao4 c4 w4 hO4 hg4
  rw [Nat.zero_add, List.nil_append] at hO4
  rw [Nat.zero_add]
  have hB4 : Below w1.heap.size w1 w4 := HQ.out.grown hg4 HQ.out.size (fun z hz => (HO3.out.lt z hz).1)
  have HB4 := hid13 (keepb hB4 HB1.out)
  have HO4 := hid13 hO4
  have KA := all14 (.slice ao4 l.length c4) l w4 (own_rowA hO4) (by have := HL.out; omega)
  have HLb4 : Hid (w4.heap[w.heap.size]? = some (.cells #[.slice ao l.length c] 25) ∧ w4.heap[w.heap.size + 1]? = some (.cells #[.int .i64 so] 3) ∧ w4.heap[w.heap.size + 2]? = some (.cells #[.bool false] 4)) := ⟨(hB4.block _ (lt_a14 HLb.out.1)).trans HLb.out.1, (hB4.block _ (lt_a14 HLb.out.2.1)).trans HLb.out.2.1, (hB4.block _ (lt_a14 HLb.out.2.2)).trans HLb.out.2.2⟩
  have HW1 : Hid (w.heap.size + 2 < w1.heap.size) := hid13 (lt_a14 HLb.out.2.2)
  clear hO4 hg4 hB4 q3 HR3 HO3 HQ t0 t1 HB1 HLb
  go_wp2_with fail
  refine KA.mono ?_
  rintro e w5 ⟨A, v', rfl, ho5, hA5, hAn, hb5⟩
  have HAV : Hid (AV w (.slice ao l.length c) v' so A l w5) := hid13 ⟨(hb5.block _ (lt_a14 HLb4.out.1)).trans HLb4.out.1, (hb5.block _ (lt_a14 HLb4.out.2.1)).trans HLb4.out.2.1, (hb5.block _ (lt_a14 HLb4.out.2.2)).trans HLb4.out.2.2, hA5, own_wide13 ho5 HB4.out.size, keepb hb5 HB4.out, by have := lt_a14 HLb4.out.2.2; omega, fun z hz => by have := (ho5.lt z hz).1; have := lt_a14 HLb4.out.2.2; omega⟩
  have HM5 := hid13 (own_b13 hb5 HO4.out)
  have HN5 : Hid (∀ z, (.slice ao4 l.length c4 : Value).ownBlock = some z → w.heap.size + 2 < z ∧ A ≠ z ∧ v'.ownBlock ≠ some z) := hid13 (fun z hz => by
    have h1 := HO4.out.lt z hz
    have h2 := HW1.out
    refine ⟨by omega, by omega, fun q => ?_⟩
    have := (ho5.lt z q).1
    omega)
  have ENil := fun W => seqnil14 (some ⟨A, 0, none⟩) W
  clear KA ho5 hA5 hAn hb5 HLb4 HO4 HB4 HW1
  go_wp2_with fail
  clear ENil
  go_loopg [7] l.length (fun g x7 wr => ∃ (j : Nat) (ys : List Value), j + g = l.length ∧ x7 = .int .i64 (j : Int) ∧ Hid (AV w (.slice ao l.length c) v' so A l wr ∧ wr.ownsRow w1.heap.size 5 1 (.slice ao4 l.length c4) l.length ys ∧ ys.length = l.length))
  case atStart => exact ⟨0, l.map cB, by omega, rfl, hid13 ⟨HAV.out, HM5.out, by simp⟩⟩
  case round =>
    clear HAV HM5
    obtain ⟨j, ys, hj, rfl, HS⟩ := hrel
    by_cases hlt : j < l.length
    · have hli : (j : Int) < (l.length : Int) := by omega
      obtain ⟨g, cap, hgf⟩ : ∃ g cap, (.slice ao4 l.length c4 : Value) = .slice (some ⟨g, 0, none⟩) l.length cap := by
        rcases HS.out.2.1.2 with ⟨h, hz⟩ | ⟨g, cap, cur, h, -⟩
        · omega
        · exact ⟨g, cap, h⟩
      injection hgf with e1 e2 e3
      subst e1 e3
      obtain ⟨n1, n2, n3⟩ := HN5.out g rfl
      have hcell : ∃ u, wr.cell? ⟨g, j, none⟩ = some u := by
        obtain ⟨u, hu⟩ : ∃ u, ys[j]? = some u := ⟨ys[j]'(by rw [HS.out.2.2]; exact hlt), by simp [HS.out.2.2, hlt]⟩
        have := HS.out.2.1.cells (g := g) rfl j u hu
        have ea : (⟨g, 0, none⟩ : Addr).add j = ⟨g, j, none⟩ := by cases j <;> simp [Addr.add]
        rw [ea] at this
        exact ⟨u, this⟩
      obtain ⟨u, hcu⟩ := hcell
      have hfz : wr.frozen? ⟨g, j, none⟩ = false := by
        rcases HS.out.2.1.2 with ⟨h, hz⟩ | ⟨g', cap', cur, h', hb, hg, -⟩
        · cases h
        · injection h' with h1 h2 h3
          injection h1 with h1
          injection h1 with h1
          subst h1
          exact fr_a14 hg
      have HS2 := hid13 (⟨HS.out.1.set (B := g) (o := j) (.int .u8 0) n1 n2 n3, (HS.out.2.1.stored j (.int .u8 0)).1, by rw [List.length_set]; exact HS.out.2.2⟩ : AV w (.slice ao l.length c) v' so A l (wr.setCell ⟨g, j, none⟩ (.int .u8 0)) ∧ (wr.setCell ⟨g, j, none⟩ (.int .u8 0)).ownsRow w1.heap.size 5 1 (.slice (some ⟨g, 0, none⟩) l.length c4) l.length (ys.set j (.int .u8 0)) ∧ (ys.set j (.int .u8 0)).length = l.length)
      have mj : IntKind.i64.wrap ((j : Int) + 1) = (j : Int) + 1 := by rw [IntKind.wrap_i64]; have := HL.out; omega
      have HJ : Hid (j + gk = l.length ∧ j < l.length) := ⟨hj, hlt⟩
      clear HS hj hlt
      go_wp2
      go_roundg (gk - 1)
      case measure => have := HJ.out; omega
      case rel => exact ⟨j + 1, _, by have := HJ.out; omega, rfl, HS2⟩
    · have hli : ¬ (j : Int) < (l.length : Int) := by omega
      have HAV := hid13 HS.out.1
      clear HS hj hlt HN5
      have q6 := bl1 wr (.cells #[.int .i64 0] 3)
      have HAV0 := hid13 (HAV.out.below q6)
      have HT0 : Hid ((wr.alloc (.cells #[.int .i64 0] 3)).heap[wr.heap.size]? = some (.cells #[.int .i64 0] 3)) := hid13 Array.getElem?_push_size
      have HTn : Hid (w.heap.size + 2 < wr.heap.size) := hid13 (lt_a14 HAV.out.rs)
      clear q6 HAV
      go_wp2_with fail
      revert HAV0 HT0
      generalize wr.alloc (.cells #[.int .i64 0] 3) = W0
      generalize wr.heap.size = T0 at *
      intro HAV0 HT0
      refine wp_loop (fun a W => ∃ (t : Nat) (ls : List Nat) (T9 : Nat), a.tmps.size = 94 ∧ a.tmps.getD 2 undef = .pointer (some ⟨w.heap.size, 0, none⟩) ∧ a.tmps.getD 3 undef = .pointer (some ⟨w.heap.size + 1, 0, none⟩) ∧ a.tmps.getD 4 undef = .pointer (some ⟨w.heap.size + 1 + 1, 0, none⟩) ∧ a.tmps.getD 8 undef = .pointer (some ⟨T9, 0, none⟩) ∧ a.tmps.getD 6 undef = .func (.func 32) #[] #[.pointer (some ⟨A, 0, none⟩)] ∧ a.defers = (ls.map fun D => { target := .collected D, args := #[] }) ∧ Hid (t ≤ 3 ∧ ls.Nodup ∧ (∀ D ∈ ls, w.heap.size + 3 ≤ D ∧ W.heap[D]? = some (.deferred (some []))) ∧ AV w (.slice ao l.length c) v' so A l W ∧ W.heap[T9]? = some (.cells #[.int .i64 (t : Int)] 3))) (fun a W => 3 - (intOf13 ((W.cell? (adOf14 (a.tmps.getD 8 undef))).getD undef)).toNat) ?_ ?_
      · exact ⟨0, [], T0, rfl, rfl, rfl, rfl, rfl, rfl, rfl, hid13 ⟨by omega, List.nodup_nil, fun D hD => (by cases hD), HAV0.out, HT0.out⟩⟩
      rintro ⟨tm, df⟩ W ⟨t, ls, T9, hs, h2, h3, h4, h8, h6, hdf, HLL⟩
      dsimp only at hs h2 h3 h4 h8 h6 hdf
      obtain ⟨u, hu, htm⟩ := arr94 tm hs
      rw [← hu] at h2 h3 h4 h8 h6
      have t9 := at_a14 HLL.out.2.2.2.2 0 _ rfl
      have HMu : Hid (3 - (intOf13 ((W.cell? (adOf14 (tm.getD 8 undef))).getD undef)).toNat = 3 - t) := hid13 (by rw [← hu, h8]; simp [adOf14, t9, intOf13])
      rw [HMu.out]
      rw [htm, hdf, h2, h3, h4, h8, h6]
      clear hu htm hs hdf h2 h3 h4 h8 h6 HMu tm df HAV0 HT0 HTn
      by_cases ht : t = 3
      · subst ht
        have hd3 : decide ((3 : Int) < 3) = false := by decide
        have r0 := at_a14 HLL.out.2.2.2.1.rs 0 _ rfl
        have rf := fr_a14 (j := 0) HLL.out.2.2.2.1.rs
        have HU := hid13 (at_a14 (set_a14 (o := 0) HLL.out.2.2.2.1.rs (.bool true)) 0 (.bool true) rfl)
        have HBu := hid13 (HLL.out.2.2.2.1.b.setCell (p := ⟨w.heap.size + 2, 0, none⟩) (by simp) (.bool true))
        have HSz : Hid (w.heap.size + 2 < W.heap.size) := hid13 (lt_a14 HLL.out.2.2.2.1.rs)
        go_wp2
        refine leaves_marks14 (B := w.heap.size + 3) ls _ HLL.out.2.1 (fun D hD => ?_) (fun W' hb => ?_)
        · obtain ⟨d1, d2⟩ := HLL.out.2.2.1 D hD
          exact ⟨d1, (far_a14 (by omega)).trans d2⟩
        · have hc : W'.cell? ⟨w.heap.size + 2, 0, none⟩ = some (.bool true) := (World.cell?_of_block (a := ⟨w.heap.size + 2, 0, none⟩) (hb.block (w.heap.size + 2) (by omega))).trans HU.out
          refine ⟨.bool true, ?_, rfl, HBu.out.trans (hb.mono (by omega))⟩
          simp [results, Try.results5, go_sem, hc]
      · have ht1 : t < 3 := by have := HLL.out.1; omega
        have ht2 : (t : Int) < 3 := by omega
        have ht3 : IntKind.i64.wrap ((t : Int) + 1) = ((t + 1 : Nat) : Int) := by rw [IntKind.wrap_i64]; push_cast; omega
        have q5 := bl1 W (.cells #[.int .i64 0] 3)
        have q6 := bl1 (W.alloc (.cells #[.int .i64 0] 3)) (.cells #[.int .i64 0] 3)
        have q7 := bl1 ((W.alloc (.cells #[.int .i64 0] 3)).alloc (.cells #[.int .i64 0] 3)) (.cells #[.bool false] 4)
        have s5 : (W.alloc (.cells #[.int .i64 0] 3)).heap.size = W.heap.size + 1 := by simp
        have s6 : ((W.alloc (.cells #[.int .i64 0] 3)).alloc (.cells #[.int .i64 0] 3)).heap.size = W.heap.size + 2 := by simp
        have HBl := hid13 (keepb q7 (keepb q6 q5))
        have HC9 : Hid (∀ X, X = ((W.alloc (.cells #[.int .i64 0] 3)).alloc (.cells #[.int .i64 0] 3)).alloc (.cells #[.bool false] 4) → X.heap[W.heap.size]? = some (.cells #[.int .i64 0] 3) ∧ X.heap[W.heap.size + 1]? = some (.cells #[.int .i64 0] 3) ∧ X.heap[W.heap.size + 2]? = some (.cells #[.bool false] 4)) := hid13 (by
          rintro X rfl
          refine ⟨?_, ?_, ?_⟩
          · rw [q7.block _ (by omega), q6.block _ (by omega)]
            exact Array.getElem?_push_size
          · rw [q7.block _ (by omega), ← s5]
            exact Array.getElem?_push_size
          · rw [← s6]
            exact Array.getElem?_push_size)
        have HEnd : Hid (∀ (D : Nat) (V : World), W.heap.size ≤ D → V.heap[D]? = some (.deferred (some [])) → Below W.heap.size W V → (D :: ls).Nodup ∧ (∀ E ∈ D :: ls, w.heap.size + 3 ≤ E ∧ V.heap[E]? = some (.deferred (some [])))) := hid13 (fun D V h1 h2 h3 => by
          obtain ⟨_, e2, e3, e4, -⟩ := HLL.out
          have hlt : ∀ E ∈ ls, E < W.heap.size := fun E hE => lt_a14 (e3 E hE).2
          have := lt_a14 e4.rs
          refine ⟨List.nodup_cons.mpr ⟨fun hm => by have := hlt D hm; omega, e2⟩, fun E hE => ?_⟩
          rcases List.mem_cons.mp hE with rfl | hE
          · exact ⟨by omega, h2⟩
          · exact ⟨(e3 E hE).1, (h3.block E (hlt E hE)).trans (e3 E hE).2⟩)
        have HDD : Hid (∀ X, Below W.heap.size W X → AV w (.slice ao l.length c) v' so A l X ∧ X.cell? ⟨T9, 0, none⟩ = some (.int .i64 (t : Int)) ∧ RwX cB X (.slice ao l.length c) l) := hid13 (fun X hb => ⟨HLL.out.2.2.2.1.below hb, keepc hb (at_a14 HLL.out.2.2.2.2 0 _ rfl), HV.out.below (keepb hb HLL.out.2.2.2.1.b)⟩)
        have HZn : Hid (A < W.heap.size ∧ ∀ z, v'.ownBlock = some z → z < W.heap.size) := hid13 HLL.out.2.2.2.1.lt
        obtain ⟨ao', c', hv', HOw⟩ : ∃ ao' c', v' = .slice ao' l.length c' ∧ Hid (∀ X, Below W.heap.size W X → OwM (fun z => z = A ∨ v'.ownBlock = some z) A ao' c' l X) := by
          obtain ⟨ao', c', e, h⟩ := HLL.out.2.2.2.1.owm
          exact ⟨ao', c', e, hid13 (fun X hb => h.kz (kz_below hb))⟩
        clear ht q5 q6 q7 s5 s6 HLL
        go_wp2_with fail
        revert HBl HC9
        generalize ((W.alloc (.cells #[.int .i64 0] 3)).alloc (.cells #[.int .i64 0] 3)).alloc (.cells #[.bool false] 4) = Wl
        intro HBl HC9
        obtain ⟨x9, x10, x11⟩ := HC9.out Wl rfl
        have HWl : Hid (W.heap.size + 2 < Wl.heap.size) := hid13 (lt_a14 x11)
        clear t9 HC9
        have hnz : ∀ z, W.heap.size ≤ z → ¬ (z = A ∨ v'.ownBlock = some z) := fun z hz => by
          rintro (q | q)
          · have := HZn.out.1; omega
          · have := HZn.out.2 z q; omega
        have HNZ := hid13 hnz
        refine (wpIn_wide (n := 9)).1 ?_
        refine rangeM 9 (by decide) (gf := 32) (lb := #[.pointer (some ⟨A, 0, none⟩)]) rfl (enters_of Try.func32 (by kernel_rfl) rfl)
          (all1_any (9 - 1) (fun z => z = A ∨ v'.ownBlock = some z) A ao' c' l (by have := HL.out; omega) HX.out 0 Wl (HOw.out Wl HBl.out)) (Nat.zero_le _) (fun h k => h.trans k) (fun V o o' h1 h2 => kz_put (HNZ.out _ (by have := HBl.out.size; omega)) V o o' h1 h2) (Below.refl _ _) (fun x args V h => by obtain ⟨v2, rfl, -⟩ := h; rfl)
          (fun pre V => (V.heap[W.heap.size]? = some (.cells #[.int .i64 ((nxA l pre : Nat) : Int)] 3) ∧ (∃ K, V.heap[W.heap.size + 1]? = some (.cells #[.int .i64 K] 3)) ∧ V.heap[W.heap.size + 2]? = some (.cells #[.bool false] 4)) ∧ Below W.heap.size W V)
          (fun c pre V => (c = .exit 4 ∧ (∃ a, V.heap[W.heap.size]? = some (.cells #[.int .i64 a] 3)) ∧ V.heap[W.heap.size + 2]? = some (.cells #[.bool true] 4)) ∧ Below W.heap.size W V)
          (OwnFrom.and (Own.from (fun s A B row hs hg hr => ⟨blk_kept hg hr hs.1, hs.2.1.imp fun K h => blk_kept hg hr h, blk_kept hg hr hs.2.2⟩) _) (ownFrom_below (Nat.le_refl _) (by have := HBl.out.size; omega)))
          (fun c => OwnFrom.and (Own.from (fun s A B row hs hg hr => ⟨hs.1, hs.2.1.imp fun K h => blk_kept hg hr h, blk_kept hg hr hs.2.2⟩) _) (ownFrom_below (Nat.le_refl _) (by have := HBl.out.size; omega)))
          ⟨⟨x9, ⟨0, x10⟩, x11⟩, HBl.out⟩
          (fun x a V => ∃ Bx v2, (AtI V Bx (dcI l (x : Int)).op (dcI l (x : Int)).n v2 ∧ RwX cU V v2 (dcI l (x : Int)).m) ∧ a.tmps.size = 94 ∧ a.tmps.getD 2 undef = .pointer (some ⟨w.heap.size, 0, none⟩) ∧ a.tmps.getD 3 undef = .pointer (some ⟨w.heap.size + 1, 0, none⟩) ∧ a.tmps.getD 4 undef = .pointer (some ⟨w.heap.size + 1 + 1, 0, none⟩) ∧ a.tmps.getD 8 undef = .pointer (some ⟨T9, 0, none⟩) ∧ a.tmps.getD 9 undef = .pointer (some ⟨W.heap.size, 0, none⟩) ∧ a.tmps.getD 10 undef = .pointer (some ⟨W.heap.size + 1, 0, none⟩) ∧ a.tmps.getD 11 undef = .pointer (some ⟨W.heap.size + 1 + 1, 0, none⟩) ∧ a.tmps.getD 12 undef = .int .i64 (x : Int) ∧ a.tmps.getD 13 undef = .pointer (some ⟨Bx, 0, none⟩) ∧ a.defers = [])
          (fun x a' s A B row hs hg hr => by
            obtain ⟨Bx, v2, ⟨⟨a1, a2, a3⟩, h2⟩, h3⟩ := hs
            exact ⟨Bx, v2, ⟨⟨cell_kept14 hg (fun r e => (hr r e).2) a1, cell_kept14 hg (fun r e => (hr r e).2) a2, cell_kept14 hg (fun r e => (hr r e).2) a3⟩, rwx_kept14 hg (fun r e => (hr r e).2) h2⟩, h3⟩) ?assign ?body ?done ?stop
        case assign =>
          rintro lo pre x args V K ⟨⟨c9, ⟨K0, c10⟩, c11⟩, hB⟩ ⟨v2, rfl, hr2⟩ hK
          have bq := bl1 V (.cells #[.int .i64 (dcI l (x : Int)).op, .int .i64 (dcI l (x : Int)).n, v2] 24)
          have HKK := hid13 (fun a' h => hK a' _ (kf_below bq) (kz_below bq) ⟨⟨(bq.block _ (lt_a14 c9)).trans c9, ⟨K0, (bq.block _ (lt_a14 c10)).trans c10⟩, (bq.block _ (lt_a14 c11)).trans c11⟩, keepb bq hB⟩ ⟨V.heap.size, v2, ⟨ati_new V _ _ v2 _, hr2.below bq⟩, h⟩)
          obtain ⟨o2, c2, hv2, -⟩ := id hr2
          subst hv2
          clear hK bq c9 c10 c11 hB hr2
          unfold insV
          simp only [List.zip_toArray, List.zip_cons_cons, List.zip_nil_left, List.zip_nil_right, List.foldl_toArray, List.foldl_cons, List.foldl_nil, List.setIfInBounds_toArray, List.set_cons_zero, List.set_cons_succ, Array.zip]
          gi_wp2
          refine HKK.out _ ?_
          exact ⟨rfl, rfl, rfl, rfl, rfl, rfl, rfl, rfl, rfl, rfl, rfl⟩
        case body =>
          rintro lo pre x ⟨tm, df⟩ V hlo - ⟨⟨c9, ⟨K, c10⟩, c11⟩, hB⟩ ⟨Bx, v2, ⟨hat, hrw⟩, hs, h2, h3, h4, h8, h9, h10, h11, h12, h13, hdf⟩ hsp
          dsimp only at hs h2 h3 h4 h8 h9 h10 h11 h12 h13 hdf
          obtain ⟨u1, hu, htm⟩ := arr94 tm hs
          rw [← hu] at h2 h3 h4 h8 h9 h10 h11 h12 h13
          rw [htm, hdf, h2, h3, h4, h8, h9, h10, h11, h12, h13]
          clear hu htm hs hdf h2 h3 h4 h8 h9 h10 h11 h12 h13 tm df
          obtain ⟨hxe, hdc⟩ := spA_app hsp
          rw [← hxe] at c9
          have KD := rdecode14 (.slice ao l.length c) l (x : Int) V (HDD.out V hB).2.2 (by have := HL.out; omega) HX.out
          have HI : Hid ((0 ≤ (x : Int) ∧ (x : Int).toNat < l.length / 4) ∧ 1 ≤ dcZ l (x : Int) ∧ dcZ l (x : Int) ≤ 524289) := ⟨dc_in hdc, dc_one hdc, dc_most l (x : Int)⟩
          have HNx := hid13 (nxA_app l pre x)
          have KS := fun (W : World) (v3 : Value) (h1 : RwX cU W v3 (dcI l (x : Int)).m) (h2 : RwX cU W v2 (dcI l (x : Int)).m) (h3 : (dcI l (x : Int)).m.length ≤ 140737488355328) => same_any (dcI l (x : Int)) (dcI l (x : Int)) v3 v2 W h1 h2 h3
          have HIm : Hid ((dcI l (x : Int)).m.length ≤ 140737488355328) := hid13 (by unfold dcI; rw [if_pos hdc]; have := rdP_len l (x : Int).toNat; simp only; omega)
          rw [hdc] at KD
          have hsm : sameB (dcI l (x : Int)) (dcI l (x : Int)) = true := (sameB_iff _ _).2 rfl
          rw [hsm] at KS
          clear hxe hdc hsp hsm
          generalize dcZ l (x : Int) = zz at *
          generalize dcI l (x : Int) = ii at *
          obtain ⟨io, im, mm⟩ := ii
          simp only [insV] at KD KS hat hrw HIm
          have HC9 := hid13 c9
          have HC10 := hid13 c10
          have HC11 := hid13 c11
          have HBV := hid13 hB
          have HAt := hid13 hat
          have HRw := hid13 hrw
          have b0 := at_a14 (HDD.out V hB).1.bx 0 _ rfl
          have d9 := at_a14 c9 0 _ rfl
          clear c9 c10 c11 hB hat
          gi_wp2_with fail
          refine ⟨trivial, (CallsIn.inRound lo (callsIn_wide.2 KD)).mono ?_⟩
          rintro e V1 ⟨v3, rfl, ho3, hb3⟩
          have q2 := bl1 V1 (.cells #[.int .i64 io, .int .i64 im, v3] 24)
          have HB2 := hid13 (keepb q2 hb3)
          obtain ⟨e0, e1, e2⟩ := ati_new V1 io im v3 24
          obtain ⟨f0, f1, f2⟩ := HAt.out.below HB2.out
          have d9' := keepc HB2.out d9
          have KS2 := KS _ v3 ((own_rwx ho3).below q2) (HRw.out.below HB2.out) HIm.out
          obtain ⟨o3, c3, hv3⟩ := own_form ho3
          obtain ⟨o2, c2, hv2, -⟩ := hrw
          subst hv3 hv2
          clear KD ho3 hb3 q2 KS b0 d9
          gi_wp2_with fail
          refine ⟨trivial, (CallsIn.inRound lo (callsIn_wide.2 KS2)).mono ?_⟩
          rintro e V3 ⟨rfl, hb3⟩
          have HB3 := hid13 (keepb hb3 HB2.out)
          clear KS2 hb3 e0 e1 e2 f0 f1 f2 d9' HB2 HAt HRw
          have hN := (HB3.out.block _ (lt_a14 HC9.out)).trans HC9.out
          have hN1 := (HB3.out.block _ (lt_a14 HC10.out)).trans HC10.out
          have hN2 := (HB3.out.block _ (lt_a14 HC11.out)).trans HC11.out
          have HBW3 := hid13 (keepb HB3.out HBV.out)
          obtain ⟨K', mk⟩ : ∃ K', IntKind.i64.wrap (K + 1) = K' := ⟨_, rfl⟩
          have mx : IntKind.i64.wrap ((x : Int) + zz) = (x : Int) + zz := by rw [IntKind.wrap_i64]; have := HI.out; have := HL.out; omega
          have n0 := at_a14 hN 0 _ rfl
          have n0f := fr_a14 (j := 0) hN
          have n1 : (V3.setCell ⟨W.heap.size, 0, none⟩ (.int .i64 ((x : Int) + zz))).cell? ⟨W.heap.size + 1, 0, none⟩ = some (.int .i64 K) := at_a14 ((far_a14 (by omega)).trans hN1) 0 _ rfl
          have n1f : (V3.setCell ⟨W.heap.size, 0, none⟩ (.int .i64 ((x : Int) + zz))).frozen? ⟨W.heap.size + 1, 0, none⟩ = false := fr_a14 ((far_a14 (by omega)).trans hN1)
          have m0 : ((V3.setCell ⟨W.heap.size, 0, none⟩ (.int .i64 ((x : Int) + zz))).setCell ⟨W.heap.size + 1, 0, none⟩ (.int .i64 K')).heap[W.heap.size]? = some (.cells #[.int .i64 ((x : Int) + zz)] 3) := (far_a14 (by omega)).trans (by simpa using set_a14 (o := 0) hN (.int .i64 ((x : Int) + zz)))
          have m1 : ((V3.setCell ⟨W.heap.size, 0, none⟩ (.int .i64 ((x : Int) + zz))).setCell ⟨W.heap.size + 1, 0, none⟩ (.int .i64 K')).heap[W.heap.size + 1]? = some (.cells #[.int .i64 K'] 3) := by simpa using set_a14 (o := 0) ((far_a14 (by omega)).trans hN1 : (V3.setCell ⟨W.heap.size, 0, none⟩ (.int .i64 ((x : Int) + zz))).heap[W.heap.size + 1]? = _) (.int .i64 K')
          have m2 : ((V3.setCell ⟨W.heap.size, 0, none⟩ (.int .i64 ((x : Int) + zz))).setCell ⟨W.heap.size + 1, 0, none⟩ (.int .i64 K')).heap[W.heap.size + 2]? = some (.cells #[.bool false] 4) := (far_a14 (by omega)).trans ((far_a14 (by omega)).trans hN2)
          have HBU : Hid (Below W.heap.size W ((V3.setCell ⟨W.heap.size, 0, none⟩ (.int .i64 ((x : Int) + zz))).setCell ⟨W.heap.size + 1, 0, none⟩ (.int .i64 K'))) := hid13 ((HBW3.out.setCell (p := ⟨W.heap.size, 0, none⟩) (Nat.le_refl _) _).setCell (p := ⟨W.heap.size + 1, 0, none⟩) (Nat.le_succ _) _)
          have HKU : Hid (KeepsFrom Wl.heap.size V ((V3.setCell ⟨W.heap.size, 0, none⟩ (.int .i64 ((x : Int) + zz))).setCell ⟨W.heap.size + 1, 0, none⟩ (.int .i64 K')) ∧ KZ (fun z => z = A ∨ v'.ownBlock = some z) V ((V3.setCell ⟨W.heap.size, 0, none⟩ (.int .i64 ((x : Int) + zz))).setCell ⟨W.heap.size + 1, 0, none⟩ (.int .i64 K'))) := hid13 ⟨((kf_below HB3.out).trans (kf_set n0 _)).trans (kf_set n1 _), ((kz_below HB3.out).trans (kz_set (HNZ.out _ (Nat.le_refl _)) _)).trans (kz_set (HNZ.out _ (Nat.le_succ _)) _)⟩
          have k1 := at_a14 m1 0 _ rfl
          have st := at_a14 (HDD.out _ HBU.out).1.st 0 _ rfl
          have tt := (HDD.out _ HBU.out).2.1
          have HM : Hid (((V3.setCell ⟨W.heap.size, 0, none⟩ (.int .i64 ((x : Int) + zz))).setCell ⟨W.heap.size + 1, 0, none⟩ (.int .i64 K')).heap[W.heap.size]? = some (.cells #[.int .i64 ((x : Int) + zz)] 3) ∧ ((V3.setCell ⟨W.heap.size, 0, none⟩ (.int .i64 ((x : Int) + zz))).setCell ⟨W.heap.size + 1, 0, none⟩ (.int .i64 K')).heap[W.heap.size + 1]? = some (.cells #[.int .i64 K'] 3) ∧ ((V3.setCell ⟨W.heap.size, 0, none⟩ (.int .i64 ((x : Int) + zz))).setCell ⟨W.heap.size + 1, 0, none⟩ (.int .i64 K')).heap[W.heap.size + 2]? = some (.cells #[.bool false] 4)) := ⟨m0, m1, m2⟩
          have HX9 : Hid ((x : Int) + zz = ((nxA l (pre ++ [x]) : Nat) : Int)) := hid13 (by rw [HNx.out]; have := HI.out; omega)
          have l0 := at_a14 m2 0 _ rfl
          have l0f := fr_a14 (j := 0) m2
          clear hN hN1 hN2 HC9 HC10 HC11 m0 m1 m2
          have fin : ∀ U, U = ((V3.setCell ⟨W.heap.size, 0, none⟩ (.int .i64 ((x : Int) + zz))).setCell ⟨W.heap.size + 1, 0, none⟩ (.int .i64 K')) → KeepsFrom Wl.heap.size V U ∧ KZ (fun z => z = A ∨ v'.ownBlock = some z) V U ∧ (U.heap[W.heap.size]? = some (.cells #[.int .i64 ((nxA l (pre ++ [x]) : Nat) : Int)] 3) ∧ (∃ K, U.heap[W.heap.size + 1]? = some (.cells #[.int .i64 K] 3)) ∧ U.heap[W.heap.size + 2]? = some (.cells #[.bool false] 4)) ∧ Below W.heap.size W U := by
            rintro U rfl
            exact ⟨HKU.out.1, HKU.out.2, ⟨by rw [← HX9.out]; exact HM.out.1, ⟨K', HM.out.2.1⟩, HM.out.2.2⟩, HBU.out⟩
          have HFin := hid13 fin
          clear fin
          by_cases hb1 : t = 0
          · have hb1' : ((t : Int) == 0) = true := by simpa using hb1
            by_cases hb2 : K' = so
            · have hb2' : (K' == so) = true := by simpa using hb2
              have HFx : Hid (∀ U, U = ((V3.setCell ⟨W.heap.size, 0, none⟩ (.int .i64 ((x : Int) + zz))).setCell ⟨W.heap.size + 1, 0, none⟩ (.int .i64 K')).setCell ⟨W.heap.size + 2, 0, none⟩ (.bool true) → KeepsFrom Wl.heap.size V U ∧ KZ (fun z => z = A ∨ v'.ownBlock = some z) V U ∧ (Code.exit 4 = .exit 4 ∧ (∃ a, U.heap[W.heap.size]? = some (.cells #[.int .i64 a] 3)) ∧ U.heap[W.heap.size + 2]? = some (.cells #[.bool true] 4)) ∧ Below W.heap.size W U) := hid13 (by
                rintro U rfl
                exact ⟨HKU.out.1.trans (kf_set l0 _), HKU.out.2.trans (kz_set (HNZ.out _ (by omega)) _), ⟨rfl, ⟨_, (far_a14 (by omega)).trans HM.out.1⟩, by simpa using set_a14 (o := 0) HM.out.2.2 (.bool true)⟩, HBU.out.setCell (p := ⟨W.heap.size + 2, 0, none⟩) (by show W.heap.size ≤ W.heap.size + 2; omega) _⟩)
              clear HM HKU HBU HFin hb1 hb2
              gi_wp2
              obtain ⟨a1, a2, ⟨-, a3, a4⟩, a5⟩ := HFx.out _ rfl
              exact ⟨a1, a2, ⟨rfl, a3, a4⟩, a5⟩
            · have hb2' : (K' == so) = false := by simpa using hb2
              clear HM HKU HBU hb1 hb2
              gi_wp2
              exact HFin.out _ rfl
          · have hb1' : ((t : Int) == 0) = false := by simpa using hb1
            clear HM HKU HBU hb1
            gi_wp2
            exact HFin.out _ rfl
        case done =>
          rintro D xs V hD hS ⟨⟨c9, ⟨K, c10⟩, c11⟩, hB⟩ hKD
          have HDl := hid13 hD
          have KD := rdecode14 (.slice ao l.length c) l ((nxA l xs : Nat) : Int) V (HDD.out V hB).2.2 (by have := HL.out; omega) HX.out
          have b0 := at_a14 (HDD.out V hB).1.bx 0 _ rfl
          have d9 := at_a14 c9 0 _ rfl
          have d11 := at_a14 c11 0 _ rfl
          have HBV := hid13 hB
          have HKD := hid13 hKD
          have HDn : Hid (W.heap.size ≤ D) := hid13 (by have := HWl.out; omega)
          have hS' : (dcE l ((nxA l xs : Nat) : Int) == 0) = false := by rw [beq_eq_false_iff_ne]; exact hS
          generalize dcE l ((nxA l xs : Nat) : Int) = ee at *
          generalize dcZ l ((nxA l xs : Nat) : Int) = zz at *
          generalize dcI l ((nxA l xs : Nat) : Int) = ii at *
          obtain ⟨io, im, mm⟩ := ii
          simp only [insV] at KD
          clear c9 c11 hB hKD
          refine wl_nilA (P := Try.prog) (ops := #[]) ?_
          go_wp2_with fail
          refine KD.mono ?_
          rintro e V1 ⟨v3, rfl, ho3, hb3⟩
          have q2 := bl1 V1 (.cells #[.int .i64 io, .int .i64 im, v3] 24)
          have HB2 := hid13 (keepb q2 hb3)
          have HBW := hid13 (keepb HB2.out HBV.out)
          have d11' := keepc HB2.out d11
          have t9 := (HDD.out _ HBW.out).2.1
          obtain ⟨o3, c3, hv3⟩ := own_form ho3
          subst hv3
          have q8 := bl1 (V1.alloc (.cells #[.int .i64 io, .int .i64 im, .slice o3 mm.length c3] 24)) (.cells #[.int .i64 ((t + 1 : Nat) : Int)] 3)
          have HB8 := hid13 (keepb q8 HBW.out)
          have HD8 := hid13 ((q8.block D (Nat.lt_of_lt_of_le (lt_a14 HKD.out) HB2.out.size)).trans ((HB2.out.block D (lt_a14 HKD.out)).trans HKD.out))
          have HE := hid13 (HEnd.out D _ HDn.out HD8.out HB8.out)
          have HT8 : Hid (((V1.alloc (.cells #[.int .i64 io, .int .i64 im, .slice o3 mm.length c3] 24)).alloc (.cells #[.int .i64 ((t + 1 : Nat) : Int)] 3)).heap[V1.heap.size + 1]? = some (.cells #[.int .i64 ((t + 1 : Nat) : Int)] 3)) := hid13 (by rw [show V1.heap.size + 1 = (V1.alloc (.cells #[.int .i64 io, .int .i64 im, .slice o3 mm.length c3] 24)).heap.size by simp]; exact Array.getElem?_push_size)
          have HA8 := hid13 (HDD.out _ HB8.out).1
          clear KD ho3 hb3 q2 q8 b0 d9 d11 HB2 HBW HB8 HD8 HDD HEnd
          go_wp2
          refine ⟨⟨t + 1, D :: ls, _, rfl, rfl, rfl, rfl, rfl, rfl, rfl, hid13 ⟨by omega, HE.out.1, HE.out.2, HA8.out, HT8.out⟩⟩, ?_⟩
          have z9 := at_a14 HT8.out 0 _ rfl
          simp [adOf14, intOf13, z9]
          try omega
        case stop =>
          rintro D cc pre V hD hpre ⟨⟨rfl, ⟨a9, c9⟩, c11⟩, hB⟩ hKD
          have KD := rdecode14 (.slice ao l.length c) l a9 V (HDD.out V hB).2.2 (by have := HL.out; omega) HX.out
          have b0 := at_a14 (HDD.out V hB).1.bx 0 _ rfl
          have d9 := at_a14 c9 0 _ rfl
          have d11 := at_a14 c11 0 _ rfl
          have HBV := hid13 hB
          have HKD := hid13 hKD
          have HDn : Hid (W.heap.size ≤ D) := hid13 (by have := HWl.out; omega)
          generalize dcE l a9 = ee at *
          generalize dcZ l a9 = zz at *
          generalize dcI l a9 = ii at *
          obtain ⟨io, im, mm⟩ := ii
          simp only [insV] at KD
          clear c9 c11 hB hKD
          refine (wpIn_wide (n := 9)).2 ?_
          go_wp2_with fail
          refine KD.mono ?_
          rintro e V1 ⟨v3, rfl, ho3, hb3⟩
          have q2 := bl1 V1 (.cells #[.int .i64 io, .int .i64 im, v3] 24)
          have HB2 := hid13 (keepb q2 hb3)
          have HBW := hid13 (keepb HB2.out HBV.out)
          have d11' := keepc HB2.out d11
          have t9 := (HDD.out _ HBW.out).2.1
          obtain ⟨o3, c3, hv3⟩ := own_form ho3
          subst hv3
          have q8 := bl1 (V1.alloc (.cells #[.int .i64 io, .int .i64 im, .slice o3 mm.length c3] 24)) (.cells #[.int .i64 ((t + 1 : Nat) : Int)] 3)
          have HB8 := hid13 (keepb q8 HBW.out)
          have HD8 := hid13 ((q8.block D (Nat.lt_of_lt_of_le (lt_a14 HKD.out) HB2.out.size)).trans ((HB2.out.block D (lt_a14 HKD.out)).trans HKD.out))
          have HE := hid13 (HEnd.out D _ HDn.out HD8.out HB8.out)
          have HT8 : Hid (((V1.alloc (.cells #[.int .i64 io, .int .i64 im, .slice o3 mm.length c3] 24)).alloc (.cells #[.int .i64 ((t + 1 : Nat) : Int)] 3)).heap[V1.heap.size + 1]? = some (.cells #[.int .i64 ((t + 1 : Nat) : Int)] 3)) := hid13 (by rw [show V1.heap.size + 1 = (V1.alloc (.cells #[.int .i64 io, .int .i64 im, .slice o3 mm.length c3] 24)).heap.size by simp]; exact Array.getElem?_push_size)
          have HA8 := hid13 (HDD.out _ HB8.out).1
          clear KD ho3 hb3 q2 q8 b0 d9 d11 HB2 HBW HB8 HD8 HDD HEnd
          go_wp2
          refine ⟨⟨t + 1, D :: ls, _, rfl, rfl, rfl, rfl, rfl, rfl, rfl, hid13 ⟨by omega, HE.out.1, HE.out.2, HA8.out, HT8.out⟩⟩, ?_⟩
          have z9 := at_a14 HT8.out 0 _ rfl
          simp [adOf14, intOf13, z9]
          try omega
end Go.Proofs.Ytnaihocdemcejaa
/-
  How rows of numbers that are handed in read as data.
-/
namespace Go.Proofs.Ytnaihocdemcejaa
open Go.ChangeShapes Go.WideShapes Go.ChangeAt Go.RowKit Go.Joins
set_option linter.unusedSimpArgs false
set_option linter.unusedVariables false

theorem Try.laidOut : laidOutB Try.prog = true := by kernel_rfl
theorem reach13 : reachBytes ≤ 140737488351232 := by decide
section
variable {H : Type} {enc : TypeId × Value → H} {w : World} {spare : Nat → Bool} {held : Bool}
theorem RwX.map13 {α β : Type} {f : α → Value} {g : β → Value} (h : α → β) {v : Value} {l : List α} (hr : RwX f w v l) (he : ∀ x ∈ l, f x = g (h x)) : RwX g w v (l.map h) := by
  obtain ⟨ao, c, e, hc, hr⟩ := hr
  refine ⟨ao, c, by rw [List.length_map]; exact e, by rw [List.length_map]; exact hc, ?_⟩
  rcases hr with hr | ⟨b, off, e, hr⟩
  · exact .inl (by rw [hr]; rfl)
  · refine .inr ⟨b, off, e, fun j x hj => ?_⟩
    rw [List.getElem?_map] at hj
    cases hx : l[j]? with
    | none => rw [hx] at hj; cases hj
    | some y =>
      rw [hx] at hj
      simp only [Option.map_some, Option.some.injEq] at hj
      rw [hr j y hx, he y (List.mem_of_getElem? hx), hj]
set_option maxRecDepth 100000 in
theorem open_ints13 {t e : TypeId} {k : IntKind} (ht : Try.prog.underlying t = some (.slice e)) (he : Try.prog.underlying e = some (.int k)) (hce : Try.prog.cellsOf e = 1) {r : Reach} {b0 : Nat} {v : Value} {d : DataW H} {p : List MemPlace} (hv : Value.okWide Try.prog w r b0 t v) (h : DataW.Trod enc Try.prog w 0 (fun _ => true) held t v d p) :
    ∃ l : List Int, RowA w 1 v l.length (l.map fun a => .int k a) ∧ RwX (fun a => Value.int k a) w v l ∧ (∀ a ∈ l, (Lit.int k a).wf = true) ∧ (l = [] ∨ ∃ el sp, d = .slice el sp ∧ el.length = l.length) := by
  obtain ⟨a0, len, cap, rfl⟩ := okWide_slice ht hv
  obtain ⟨fuel, hf⟩ := h
  rcases Deep.open_slice ht hf with ⟨hcs, hx⟩ | ⟨a, len', cap', m, n, D, Pl, hcs, _, hl, hm, hmm, hx, hel⟩
  · simp [Value.cells] at hcs
    obtain ⟨rfl, rfl, rfl⟩ := hcs
    exact ⟨[], ⟨rfl, none, 0, rfl, Nat.le_refl _, .inl ⟨rfl, rfl, rfl⟩⟩, ⟨none, 0, rfl, Nat.le_refl _, .inl rfl⟩, (fun _ h => by cases h), .inl rfl⟩
  · simp [Value.cells] at hcs
    obtain ⟨rfl, rfl, rfl⟩ := hcs
    simp at hmm
    subst hmm
    rw [hce] at hel
    obtain ⟨f, hf⟩ := Deep.choose_lt (α := Int) (n := len) (p := fun i x => w.cell? (a.add i) = some (.int k x) ∧ (Lit.int k x).wf = true) (fun i hi => by
      obtain ⟨cs', h1, h2⟩ := hel i (by omega)
      obtain ⟨_, hlen, hc⟩ := World.cells?_some h1
      match cs', hlen with
      | [c0], _ =>
        obtain ⟨x, ex, -, wx⟩ := DataW.trod_int he h2
        simp at ex
        subst ex
        refine ⟨x, ?_, wx⟩
        have := hc 0 (by omega)
        simpa [Addr.add] using this)
    have hlen : ((List.range len).map f).length = len := by simp
    have hcells : ∀ j x, ((List.range len).map f)[j]? = some x → w.cell? (a.add j) = some (.int k x) := by
      intro j x hj
      have hlt : j < len := by have := (List.getElem?_eq_some_iff.1 hj).1; simpa using this
      rw [List.getElem?_map, List.getElem?_range hlt] at hj
      simp only [Option.map_some, Option.some.injEq] at hj
      rw [← hj]; exact (hf j hlt).1
    refine ⟨(List.range len).map f, ⟨by simp, some a, m, by rw [hlen], by rw [hlen]; exact hl, .inr ⟨a, rfl, fun j u hj => ?_⟩⟩, ⟨some a, m, by rw [hlen], by rw [hlen]; exact hl, ?_⟩, ?_, ?_⟩
    · rw [List.getElem?_map] at hj
      cases hx : ((List.range len).map f)[j]? with
      | none => rw [hx] at hj; cases hj
      | some y =>
        rw [hx] at hj
        simp only [Option.map_some, Option.some.injEq] at hj
        rw [← hj]; exact hcells j y hx
    · by_cases hz : len = 0
      · subst hz
        exact .inl (by simp)
      · have h00 := (hf 0 (by omega)).1
        have ea : a = ⟨a.block, a.off, none⟩ := by
          have : a.add 0 = a := by simp [Addr.add]
          rw [this] at h00
          exact spot9 h00
        refine .inr ⟨a.block, a.off, by rw [← ea], fun j u hj => ?_⟩
        have := hcells j u hj
        rw [ea, addA] at this
        exact this
    · intro x hx
      simp only [List.mem_map, List.mem_range] at hx
      obtain ⟨i, hi, rfl⟩ := hx
      exact (hf i hi).2
    · simp only [Prod.mk.injEq] at hx
      exact .inr ⟨_, _, hx.1, by simp⟩
end
end Go.Proofs.Ytnaihocdemcejaa
