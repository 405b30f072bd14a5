/-
  Part 16 of the proof: 12 texts, one behind the other.
-/
import Derived.Test.YtpiicdpipjjenaaGreatDoorPart15
import Derived.Test.YtpiicdpipjjenaaGreatDoorPart5
import Derived.Test.YtpiicdpipjjenaaGreatDoorPart9
import Derived.Test.YtpiicdpipjjenaaGreatDoorPart8
import Derived.Test.YtpiicdpipjjenaaGreatDoorPart14
import Derived.Test.YtpiicdpipjjenaaGreatDoorPart7
import Derived.Test.YtpiicdpipjjenaaGreatDoorPart3
import Derived.Deep.AppendLies
import Derived.Test.YtpiicdpipjjenaaGreatDoorPart6
import Derived.OrdersIn
import Derived.TacticsIn
import Derived.RangeFuncSeq
import Derived.RangeFuncNested
import Derived.RangeFuncBound
import Derived.RangeFuncCalls
import Derived.RangeFuncLeaves
import Derived.Shelf.Abstract
import Derived.Shelf.RegionOpen
import Derived.WalkKit
import Derived.OwnWalkIn
import Derived.TacticsInMore
import Derived.LoopNIn
import Derived.LoopIn
namespace Go.Proofs.YtpiicdpipjjenaaGreatDoor
open Go.RowKit
set_option linter.unusedSimpArgs false
set_option linter.unusedVariables false

theorem eqR2_run (x : BitVec 128) (n h : Int) (y : BitVec 128) (m k : Int) (w : World) :
    (Op.equalIn 10000 47 (.agg #[.int .u64 (hI x), .int .u64 (lI x), .int .i64 n, .int .i64 h]) (.agg #[.int .u64 (hI y), .int .u64 (lI y), .int .i64 m, .int .i64 k])).run Tryz.prog w = .ok ((x == y) && (n == m) && (h == k)) w := by
  rcases eqw x y with ⟨q1, q2, q3⟩ | ⟨q1, q3⟩ | ⟨q1, q2, q3⟩
  all_goals
    rw [q3]
    go_simp
    try simp [*]
    try (by_cases e : n = m <;> by_cases e2 : h = k <;> simp [e, e2])
def Upt (l m : List Rte) (k : Nat) : Prop := l.length = m.length ∧ ∀ j, j < k → l[j]? = m[j]?
theorem upt_no {l m : List Rte} {k : Nat} {r s : Rte} (h1 : l[k]? = some r) (h2 : m[k]? = some s) (h : r ≠ s) : decide (l = m) = false := by
  apply decide_eq_false
  rintro rfl
  rw [h1] at h2
  exact h (Option.some.inj h2)
theorem upt_yes {l m : List Rte} {k : Nat} (h : Upt l m k) (hk : l.length ≤ k) : decide (l = m) = true := by
  apply decide_eq_true
  apply List.ext_getElem?
  intro j
  by_cases hj : j < k
  · exact h.2 j hj
  · rw [List.getElem?_eq_none (by omega), List.getElem?_eq_none (by have := h.1; omega)]
theorem upt_step {l m : List Rte} {k : Nat} {r : Rte} (h : Upt l m k) (h1 : l[k]? = some r) (h2 : m[k]? = some r) : Upt l m (k + 1) := ⟨h.1, fun j hj => by
  by_cases e : j = k
  · subst e; rw [h1, h2]
  · exact h.2 j (by omega)⟩
theorem rte_eq (r s : Rte) : ((r.1.1 == s.1.1) && (r.1.2 == s.1.2) && (r.2 == s.2)) = decide (r = s) := by
  obtain ⟨⟨a, b⟩, c⟩ := r
  obtain ⟨⟨a', b'⟩, c'⟩ := s
  rw [Bool.eq_iff_iff]
  simp [and_assoc]
set_option maxHeartbeats 4000000 in
theorem equalR_any (v u : Value) (l m : List Rte) (w : World) (hv : RwR w v l) (hu : RwR w u m) (hl : l.length ≤ 1000000000) :
    Calls Tryz.prog 28 #[v, u] w fun e w' => e = .returned (.bool (decide (l = m))) ∧ Below w.heap.size w w' := by
  obtain ⟨ao, c, rfl, hv⟩ := hv
  obtain ⟨au, d, rfl, hu⟩ := hu
  have HV := hidR hv
  have HU := hidR hu
  obtain ⟨R, hR⟩ : ∃ R, R = decide (l = m) := ⟨_, rfl⟩
  have HR := hidR hR
  rw [← hR]
  clear hv hu hR
  by_cases hlen : l.length = m.length
  · have HLn := hidR hlen
    have HU' : Hid (m = [] ∨ ∃ b off, au = some ⟨b, off, none⟩ ∧ ∀ j u, (rowR m)[j]? = some u → w.cell? ⟨b, off + j, none⟩ = some u) := HU
    rw [← hlen]
    clear hlen HU
    go_enter Tryz.func28, Tryz.ntmps28
    go_wp2_with fail
    go_loopg [13] l.length (fun g kv wr => ∃ k : Nat, k + g = l.length ∧ kv = .int .i64 (k : Int) ∧ Hid (Upt l m k) ∧ Hid (Below w.heap.size w wr))
    case atStart => exact ⟨0, by omega, rfl, ⟨HLn.out, fun j hj => by omega⟩, Below.refl _ _⟩
    case round =>
      obtain ⟨k, hk, rfl, HUp, hB⟩ := hrel
      by_cases hlt : (k : Int) < (l.length : Int)
      · have hks : k < l.length := by omega
        have hkm : k < m.length := by have := HLn.out; omega
        obtain ⟨b, off, rfl, hc⟩ := HV.out.resolve_left (by rintro rfl; simp at hks)
        obtain ⟨b', off', rfl, hc'⟩ := HU'.out.resolve_left (by rintro rfl; simp at hkm)
        obtain ⟨x0, x1, x2, x3⟩ := rwr_cells hc k hks
        obtain ⟨y0, y1, y2, y3⟩ := rwr_cells hc' k hkm
        have x0 := keepc hB.out x0
        have x1 := keepc hB.out x1
        have x2 := keepc hB.out x2
        have x3 := keepc hB.out x3
        have y0 := keepc hB.out y0
        have y1 := keepc hB.out y1
        have y2 := keepc hB.out y2
        have y3 := keepc hB.out y3
        have h1 := List.getElem?_eq_getElem hks
        have h2 := List.getElem?_eq_getElem hkm
        have hE := fun w => eqR2_run l[k].1.1 l[k].1.2 l[k].2 m[k].1.1 m[k].1.2 m[k].2 w
        rw [rte_eq l[k] m[k]] at hE
        generalize l[k] = r at *
        generalize m[k] = s at *
        have hNo := hidR (fun h => upt_no (l := l) (m := m) (k := k) h1 h2 h)
        have hYe := hidR (fun (h : r = s) => upt_step HUp.out h1 (by rw [h]; exact h2))
        have mk : IntKind.i64.wrap ((k : Int) + 1) = (k : Int) + 1 := by rw [IntKind.wrap_i64]; omega
        have HK : Hid (k + gk = l.length ∧ k < l.length) := ⟨hk, hks⟩
        have HB2 : Hid (∀ n, Below w.heap.size w (wr.drewN n)) := fun n => below_drewN hB.out n
        clear hc hc' h1 h2 hk
        by_cases hrs : r = s
        · rw [decide_eq_true hrs] at hE
          have HY := hidR (hYe.out hrs)
          clear hrs hNo hYe
          go_wp2_with fail
          go_quiet (fail)
          go_wp2
          go_roundg (gk - 1)
          case measure => have := HK.out; omega
          case rel => exact ⟨k + 1, by have := HK.out; omega, rfl, HY, HB2.out _⟩
        · rw [decide_eq_false hrs] at hE
          have HN : Hid (R = false) := by show _ = _; rw [HR.out]; exact hNo.out hrs
          clear hrs hNo hYe
          go_wp2_with fail
          go_quiet (fail)
          go_wp2
          go_ret
          exact ⟨by rw [HN.out]; rfl, HB2.out _⟩
      · have HY : Hid (R = true) := by show _ = _; rw [HR.out]; exact upt_yes HUp.out (by omega)
        clear hk
        go_wp2
        go_ret
        exact ⟨by rw [HY.out]; rfl, hB.out⟩
  · have HN : Hid (R = false) := by show _ = _; rw [HR.out]; exact decide_eq_false (fun e => hlen (by rw [e]))
    have hne : ((l.length : Int) != (m.length : Int)) = true := by simp; omega
    clear hlen
    go_enter Tryz.func28, Tryz.ntmps28
    go_wp2
    go_ret
    exact ⟨by rw [HN.out]; rfl, Below.refl _ _⟩
set_option maxHeartbeats 4000000 in
theorem sameP_any (F G : Int) (v u : Value) (l m : List Rte) (w : World) (hv : RwR w v l) (hu : RwR w u m) (hl : l.length ≤ 1000000000) :
    Calls Tryz.prog 9 #[.agg #[.int .i64 F, v], .agg #[.int .i64 G, u]] w fun e w' => e = .returned (.bool (decide (F = G ∧ l = m))) ∧ Below w.heap.size w w' := by
  have b1 := bl1 w (.cells #[.int .i64 F, v] 24)
  have b2 := bl1 (w.alloc (.cells #[.int .i64 F, v] 24)) (.cells #[.int .i64 G, u] 24)
  have KS := equalR_any v u l m _ ((hv.below b1).below b2) ((hu.below b1).below b2) hl
  obtain ⟨p0, p1⟩ := (att_new w w.heap.size F v 24 rfl).below b2
  obtain ⟨q0, q1⟩ := att_new (w.alloc (.cells #[.int .i64 F, v] 24)) (w.heap.size + 1) G u 24 (by simp)
  have HB := hidR (keepb b2 b1)
  obtain ⟨ao, c, rfl, -⟩ := hv
  obtain ⟨au, d, rfl, -⟩ := hu
  obtain ⟨R, hR⟩ : ∃ R, R = decide (F = G ∧ l = m) := ⟨_, rfl⟩
  have HR := hidR hR
  rw [← hR]
  clear b1 b2 hR
  by_cases hFG : F = G
  · have HE : Hid (R = decide (l = m)) := by show _ = _; rw [HR.out]; simp [hFG]
    subst hFG
    generalize decide (l = m) = t at *
    go_enter Tryz.func9, Tryz.ntmps9
    go_wp2_with fail
    refine KS.mono ?_
    rintro e w1 ⟨rfl, hb⟩
    have HB1 := hidR (keepb hb HB.out)
    clear KS hb p0 p1 q0 q1
    go_wp2
    go_ret
    exact ⟨by rw [HE.out]; rfl, HB1.out⟩
  · have HE : Hid (R = false) := by show _ = _; rw [HR.out]; exact decide_eq_false (fun h => hFG h.1)
    have hne : (F == G) = false := by simpa using hFG
    clear hFG KS
    go_enter Tryz.func9, Tryz.ntmps9
    go_wp2
    go_ret
    exact ⟨by rw [HE.out]; rfl, HB.out⟩
set_option maxRecDepth 100000 in
set_option maxHeartbeats 8000000 in
theorem rsameP_any (F G : Int) (v u : Value) (l m : List Rte) (w : World) (hv : RwR w v l) (hu : RwR w u m) (hl : l.length ≤ 1000000000) :
    Calls Tryz.prog 13 #[.agg #[.int .i64 F, v], .agg #[.int .i64 G, u]] w fun e w' => e = .returned (.bool (decide (F = G ∧ l = m))) ∧ Below w.heap.size w w' := by
  have b1 := bl1 w (.cells #[.int .i64 F, v] 24)
  have b2 := bl1 (w.alloc (.cells #[.int .i64 F, v] 24)) (.cells #[.int .i64 G, u] 24)
  have HP0 := hidR ((att_new w w.heap.size F v 24 rfl).below b2)
  have HQ0 := hidR (att_new (w.alloc (.cells #[.int .i64 F, v] 24)) (w.heap.size + 1) G u 24 (by simp))
  have HB := hidR (keepb b2 b1)
  obtain ⟨ao, c, rfl, hv⟩ := hv
  obtain ⟨au, d, rfl, hu⟩ := hu
  have HV := hidR hv
  have HU := hidR hu
  obtain ⟨R, hR⟩ : ∃ R, R = decide (F = G ∧ l = m) := ⟨_, rfl⟩
  have HR := hidR hR
  rw [← hR]
  obtain ⟨p0, p1⟩ := HP0.out
  obtain ⟨q0, q1⟩ := HQ0.out
  clear b1 b2 hR hv hu
  by_cases hFG : F = G
  · have HE : Hid (R = decide (l = m)) := by show _ = _; rw [HR.out]; simp [hFG]
    subst hFG
    have hFF : (F != F) = false := by simp
    by_cases hlen : l.length = m.length
    · have HLn := hidR hlen
      have HU' : Hid (m = [] ∨ ∃ b off, au = some ⟨b, off, none⟩ ∧ ∀ j u, (rowR m)[j]? = some u → w.cell? ⟨b, off + j, none⟩ = some u) := HU
      rw [← hlen] at p0 p1 q0 q1 HP0 HQ0 HB ⊢
      clear hlen HU
      go_enter Tryz.func13, Tryz.ntmps13
      go_wp2_with fail
      clear p0 p1 q0 q1
      revert HP0 HQ0 HB
      generalize (w.alloc (.cells #[.int .i64 F, .slice ao l.length c] 24)).alloc (.cells #[.int .i64 F, .slice au l.length d] 24) = W0
      intro HP0 HQ0 HB
      go_loopg [5] l.length (fun g kv wr => ∃ k : Nat, k + g = l.length ∧ kv = .int .i64 (k : Int) ∧ Hid (Upt l m k) ∧ Hid (Below W0.heap.size W0 wr))
      case atStart => exact ⟨0, by omega, rfl, ⟨HLn.out, fun j hj => by omega⟩, Below.refl _ _⟩
      case round =>
        obtain ⟨k, hk, rfl, HUp, hB⟩ := hrel
        obtain ⟨p0, p1⟩ := HP0.out.below hB.out
        obtain ⟨q0, q1⟩ := HQ0.out.below hB.out
        by_cases hlt : (k : Int) < (l.length : Int)
        · have hks : k < l.length := by omega
          have hkm : k < m.length := by have := HLn.out; omega
          obtain ⟨b, off, rfl, hc⟩ := HV.out.resolve_left (by rintro rfl; simp at hks)
          obtain ⟨b', off', rfl, hc'⟩ := HU'.out.resolve_left (by rintro rfl; simp at hkm)
          obtain ⟨x0, x1, x2, x3⟩ := rwr_cells hc k hks
          obtain ⟨y0, y1, y2, y3⟩ := rwr_cells hc' k hkm
          have hBw := keepb hB.out HB.out
          replace x0 := keepc hBw x0
          replace x1 := keepc hBw x1
          replace x2 := keepc hBw x2
          replace x3 := keepc hBw x3
          replace y0 := keepc hBw y0
          replace y1 := keepc hBw y1
          replace y2 := keepc hBw y2
          replace y3 := keepc hBw y3
          have h1 := List.getElem?_eq_getElem hks
          have h2 := List.getElem?_eq_getElem hkm
          have hE := fun w => eqR2_run l[k].1.1 l[k].1.2 l[k].2 m[k].1.1 m[k].1.2 m[k].2 w
          rw [rte_eq l[k] m[k]] at hE
          generalize l[k] = r at *
          generalize m[k] = s at *
          have hNo := hidR (fun h => upt_no (l := l) (m := m) (k := k) h1 h2 h)
          have hYe := hidR (fun (h : r = s) => upt_step HUp.out h1 (by rw [h]; exact h2))
          have mk : IntKind.i64.wrap ((k : Int) + 1) = (k : Int) + 1 := by rw [IntKind.wrap_i64]; omega
          have HK : Hid (k + gk = l.length ∧ k < l.length) := ⟨hk, hks⟩
          have HB2 : Hid (∀ n, Below W0.heap.size W0 (wr.drewN n)) := fun n => below_drewN hB.out n
          clear hc hc' h1 h2 hk hBw
          by_cases hrs : r = s
          · rw [decide_eq_true hrs] at hE
            have HY := hidR (hYe.out hrs)
            clear hrs hNo hYe
            go_wp2_with fail
            go_quiet (fail)
            go_wp2
            go_roundg (gk - 1)
            case measure => have := HK.out; omega
            case rel => exact ⟨k + 1, by have := HK.out; omega, rfl, HY, HB2.out _⟩
          · rw [decide_eq_false hrs] at hE
            have HN : Hid (R = false) := by show _ = _; rw [HE.out]; exact hNo.out hrs
            clear hrs hNo hYe
            go_wp2_with fail
            go_quiet (fail)
            go_wp2
            go_ret
            exact ⟨by rw [HN.out]; rfl, keepb (HB2.out _) HB.out⟩
        · have HY : Hid (R = true) := by show _ = _; rw [HE.out]; exact upt_yes HUp.out (by omega)
          clear hk
          go_wp2
          go_ret
          exact ⟨by rw [HY.out]; rfl, keepb hB.out HB.out⟩
    · have HN : Hid (R = false) := by show _ = _; rw [HE.out]; exact decide_eq_false (fun e => hlen (by rw [e]))
      have hne : ((l.length : Int) != (m.length : Int)) = true := by simp; omega
      clear hlen
      go_enter Tryz.func13, Tryz.ntmps13
      go_wp2
      go_ret
      exact ⟨by rw [HN.out]; rfl, HB.out⟩
  · have HE : Hid (R = false) := by show _ = _; rw [HR.out]; exact decide_eq_false (fun h => hFG h.1)
    have hne : (F != G) = true := by simpa using hFG
    clear hFG
    go_enter Tryz.func13, Tryz.ntmps13
    go_wp2
    go_ret
    exact ⟨by rw [HE.out]; rfl, HB.out⟩
end Go.Proofs.YtpiicdpipjjenaaGreatDoor
namespace Go.Proofs.YtpiicdpipjjenaaGreatDoor
open Go.RowKit
set_option linter.unusedSimpArgs false
set_option linter.unusedVariables false

theorem Tryz.infoR : (Tryz.prog.info? 47).map (fun i => (i.zero, i.size, i.bytes)) = some (some (.agg #[.int .u64 0, .int .u64 0, .int .i64 0, .int .i64 0]), 4, 32) := by kernel_rfl
theorem rowR_len (l : List Rte) : (rowR l).length = l.length * 4 := by
  induction l with
  | nil => rfl
  | cons r l ih => simp [rowR, ih]; omega
theorem rowR_take : ∀ (l : List Rte) (k : Nat), (rowR l).take (k * 4) = rowR (l.take k)
  | [], k => by simp [rowR]
  | r :: l, 0 => by simp [rowR]
  | r :: l, k + 1 => by
    rw [show (k + 1) * 4 = k * 4 + 1 + 1 + 1 + 1 by omega]
    simp only [rowR, List.take_succ_cons, rowR_take l k]
theorem row_rwr {W : World} {v : Value} {l : List Rte} (h : Row W 4 v l.length (rowR l)) : RwR W v l := by
  obtain ⟨-, ao, c, e, -, h⟩ := h
  refine ⟨ao, c, e, ?_⟩
  rcases h with ⟨-, -, h⟩ | h
  · exact .inl (List.length_eq_zero_iff.mp h)
  · exact .inr h
def UpTo (y : BitVec 128) (m : Int) (l : List Rte) (k : Nat) : Prop := k ≤ l.length ∧ ∃ i ok, Place y m l i ok ∧ k = if ok = true then i + 1 else i
theorem stopHereU {P : Program} {w : World} {ops : Array Oper} {rest : List Oper} {a : Act} {Q : Exit → Act → World → Prop} {o : Oper} (h : Hid (wpList P ops Q (o :: rest) a w)) : wpList P ops Q (o :: rest) a w := h.out
end Go.Proofs.YtpiicdpipjjenaaGreatDoor
namespace Go.Proofs.YtpiicdpipjjenaaGreatDoor
open Go.RowKit
set_option linter.unusedSimpArgs false
set_option linter.unusedVariables false

def kdS (s : ByteArray) (k : Nat) : Int := if k = s.size then 2 else if byteAt s k = 32 ∨ byteAt s k = 9 then 1 else if byteAt s k = 35 ∨ byteAt s k = 10 then 2 else 0
theorem kdS_end (s : ByteArray) : kdS s s.size = 2 := by unfold kdS; rw [if_pos rfl]
theorem kdS_in {s : ByteArray} {k : Nat} (h : ¬ kdS s k = 2) (hk : k ≤ s.size) : k < s.size := by
  apply Classical.byContradiction; intro q
  have : k = s.size := by omega
  rw [this, kdS_end] at h
  exact h rfl
theorem kdS_ways (s : ByteArray) (k : Nat) : kdS s k = 0 ∨ kdS s k = 1 ∨ kdS s k = 2 := by
  unfold kdS
  split
  · exact .inr (.inr rfl)
  · split
    · exact .inr (.inl rfl)
    · split
      · exact .inr (.inr rfl)
      · exact .inl rfl
def skB (s : ByteArray) : Nat → Nat → Nat
  | 0, k => k
  | f + 1, k => if kdS s k = 1 then skB s f (k + 1) else k
def skS (s : ByteArray) (k : Nat) : Nat := skB s (s.size - k) k
def wdB (s : ByteArray) : Nat → Nat → Nat
  | 0, k => k
  | f + 1, k => if kdS s k = 0 then wdB s f (k + 1) else k
def wdS (s : ByteArray) (k : Nat) : Nat := wdB s (s.size - k) k
theorem skS_go {s : ByteArray} {k : Nat} (hk : k ≤ s.size) (h : kdS s k = 1) : skS s k = skS s (k + 1) := by
  have := kdS_in (s := s) (k := k) (by omega) hk
  unfold skS
  rw [show s.size - k = (s.size - (k + 1)) + 1 by omega]
  show (if kdS s k = 1 then _ else _) = _
  rw [if_pos h]
theorem skS_here {s : ByteArray} {k : Nat} (h : ¬ kdS s k = 1) : skS s k = k := by
  unfold skS
  match hf : s.size - k with
  | 0 => rfl
  | f + 1 => show (if kdS s k = 1 then _ else _) = _; rw [if_neg h]
theorem wdS_go {s : ByteArray} {k : Nat} (hk : k ≤ s.size) (h : kdS s k = 0) : wdS s k = wdS s (k + 1) := by
  have := kdS_in (s := s) (k := k) (by omega) hk
  unfold wdS
  rw [show s.size - k = (s.size - (k + 1)) + 1 by omega]
  show (if kdS s k = 0 then _ else _) = _
  rw [if_pos h]
theorem wdS_here {s : ByteArray} {k : Nat} (h : ¬ kdS s k = 0) : wdS s k = k := by
  unfold wdS
  match hf : s.size - k with
  | 0 => rfl
  | f + 1 => show (if kdS s k = 0 then _ else _) = _; rw [if_neg h]
theorem skS_bd (s : ByteArray) : ∀ (d k : Nat), s.size - k ≤ d → k ≤ s.size → k ≤ skS s k ∧ skS s k ≤ s.size ∧ ¬ kdS s (skS s k) = 1
  | d, k, hd, hk => by
    by_cases h : kdS s k = 1
    · have := kdS_in (s := s) (k := k) (by omega) hk
      rw [skS_go hk h]
      match d, hd with
      | d + 1, hd =>
        have q := skS_bd s d (k + 1) (by omega) (by omega)
        exact ⟨by omega, q.2.1, q.2.2⟩
      | 0, hd => omega
    · rw [skS_here h]; exact ⟨Nat.le_refl _, hk, h⟩
theorem wdS_bd (s : ByteArray) : ∀ (d k : Nat), s.size - k ≤ d → k ≤ s.size → k ≤ wdS s k ∧ wdS s k ≤ s.size ∧ ¬ kdS s (wdS s k) = 0
  | d, k, hd, hk => by
    by_cases h : kdS s k = 0
    · have := kdS_in (s := s) (k := k) (by omega) hk
      rw [wdS_go hk h]
      match d, hd with
      | d + 1, hd =>
        have q := wdS_bd s d (k + 1) (by omega) (by omega)
        exact ⟨by omega, q.2.1, q.2.2⟩
      | 0, hd => omega
    · rw [wdS_here h]; exact ⟨Nat.le_refl _, hk, h⟩
def nhR (t : ByteArray) : Nat → Nat → Int → Option Int
  | 0, _, n => some n
  | f + 1, k, n => if byteAt t k < 48 ∨ 57 < byteAt t k then none else if hopB (10 * n + (byteAt t k - 48)) = true then nhR t f (k + 1) (10 * n + (byteAt t k - 48)) else none
def nhO (t : ByteArray) : Option Int := nhR t t.size 0 0
def entO (F : Int) (s : ByteArray) (a : Nat) : (Int × Nat) ⊕ (Rte × Nat) :=
  if ppE F (s.extract a (wdS s a)) = 0 then
    (if kdS s (skS s (wdS s a)) = 0 then
      (match nhO (s.extract (skS s (wdS s a)) (wdS s (skS s (wdS s a)))) with
        | none => .inl (15, skS s (wdS s a))
        | some h => if kdS s (skS s (wdS s (skS s (wdS s a)))) = 0 then .inl (12, skS s (wdS s (skS s (wdS s a)))) else .inr (((ppV F (s.extract a (wdS s a)), ppN F (s.extract a (wdS s a))), h), skS s (wdS s (skS s (wdS s a)))))
    else .inl (12, skS s (wdS s a)))
  else .inl (ppE F (s.extract a (wdS s a)), a)
def nlS (s : ByteArray) (k : Nat) : Int := Lib.indexByte (s.extract k s.size).data.toList 10
theorem nlS_bd (s : ByteArray) (k : Nat) (hk : k ≤ s.size) : nlS s k = -1 ∨ (0 ≤ nlS s k ∧ (k : Int) + nlS s k < s.size) := by
  have := indexByte_bd 10 (s.extract k s.size).data.toList
  have e : (s.extract k s.size).data.toList.length = s.size - k := by
    have q : (s.extract k s.size).size = min s.size s.size - k := ByteArray.size_extract
    rw [Array.length_toList]
    show (s.extract k s.size).size = _
    omega
  rw [e] at this
  unfold nlS
  omega
end Go.Proofs.YtpiicdpipjjenaaGreatDoor
namespace Go.Proofs.YtpiicdpipjjenaaGreatDoor
open Go.RowKit
set_option linter.unusedSimpArgs false
set_option linter.unusedVariables false

abbrev Sg := (BitVec 128 × BitVec 128) × Int
def AtG (w : World) (B : Nat) (x y : BitVec 128) (h : Int) : Prop := w.cell? ⟨B, 0, none⟩ = some (.int .u64 (hI x)) ∧ w.cell? ⟨B, 1, none⟩ = some (.int .u64 (lI x)) ∧ w.cell? ⟨B, 2, none⟩ = some (.int .u64 (hI y)) ∧ w.cell? ⟨B, 3, none⟩ = some (.int .u64 (lI y)) ∧ w.cell? ⟨B, 4, none⟩ = some (.int .i64 h) ∧ w.frozen? ⟨B, 0, none⟩ = false ∧ w.frozen? ⟨B, 1, none⟩ = false ∧ w.frozen? ⟨B, 2, none⟩ = false ∧ w.frozen? ⟨B, 3, none⟩ = false ∧ w.frozen? ⟨B, 4, none⟩ = false
theorem AtG.below {w w' : World} {B : Nat} {x y : BitVec 128} {h : Int} (g : AtG w B x y h) (hb : Below w.heap.size w w') : AtG w' B x y h := by
  obtain ⟨a0, a1, a2, a3, a4, b0, b1, b2, b3, b4⟩ := g
  exact ⟨keepc hb a0, keepc hb a1, keepc hb a2, keepc hb a3, keepc hb a4, keepf hb a0 b0, keepf hb a1 b1, keepf hb a2 b2, keepf hb a3 b3, keepf hb a4 b4⟩
theorem AtG.lt {W : World} {B : Nat} {x y : BitVec 128} {h : Int} (g : AtG W B x y h) : B < W.heap.size := cell_in g.1
def rowG : List Sg → List Value
  | [] => []
  | p :: l => .int .u64 (hI p.1.1) :: .int .u64 (lI p.1.1) :: .int .u64 (hI p.1.2) :: .int .u64 (lI p.1.2) :: .int .i64 p.2 :: rowG l
def RwG (W : World) (v : Value) (l : List Sg) : Prop := ∃ ao c, v = .slice ao l.length c ∧ (l = [] ∨ ∃ b off, ao = some ⟨b, off, none⟩ ∧ ∀ j u, (rowG l)[j]? = some u → W.cell? ⟨b, off + j, none⟩ = some u)
theorem RwG.below {W W' : World} {v : Value} {l : List Sg} (h : RwG W v l) (hb : Below W.heap.size W W') : RwG W' v l := by
  obtain ⟨ao, c, e, h⟩ := h
  refine ⟨ao, c, e, h.imp id ?_⟩
  rintro ⟨b, off, e', hc⟩
  exact ⟨b, off, e', fun j u hj => keepc hb (hc j u hj)⟩
end Go.Proofs.YtpiicdpipjjenaaGreatDoor
namespace Go.Proofs.YtpiicdpipjjenaaGreatDoor
open Go.RowKit
set_option linter.unusedSimpArgs false
set_option linter.unusedVariables false

theorem cellH {W W' : World} {B : Nat} (e : W'.heap[B]? = W.heap[B]?) (o : Nat) : W'.cell? ⟨B, o, none⟩ = W.cell? ⟨B, o, none⟩ := World.cell?_of_block (w := W) (a := ⟨B, o, none⟩) e
theorem frozH {W W' : World} {B : Nat} (e : W'.heap[B]? = W.heap[B]?) (o : Nat) : W'.frozen? ⟨B, o, none⟩ = W.frozen? ⟨B, o, none⟩ := World.frozen?_of_block (w := W) (a := ⟨B, o, none⟩) e
theorem AtG.heap {W W' : World} {B : Nat} {x y : BitVec 128} {h : Int} (k : AtG W B x y h) (e : W'.heap[B]? = W.heap[B]?) : AtG W' B x y h := by
  unfold AtG at *
  simpa only [cellH e, frozH e] using k
theorem At.heap {W W' : World} {B : Nat} {x : BitVec 128} (k : At W B x) (e : W'.heap[B]? = W.heap[B]?) (hs : W.heap.size ≤ W'.heap.size) : At W' B x := by
  unfold At at *
  simp only [cellH e, frozH e]
  exact ⟨k.1, k.2.1, k.2.2.1, k.2.2.2.1, by omega⟩
theorem AtR.heap {W W' : World} {B : Nat} {x : BitVec 128} {n h : Int} (k : AtR W B x n h) (e : W'.heap[B]? = W.heap[B]?) : AtR W' B x n h := by
  unfold AtR at *
  simpa only [cellH e] using k
def AtU (W : World) (B : Nat) (F : Int) (v : Value) : Prop := W.cell? ⟨B, 0, none⟩ = some (.int .i64 F) ∧ W.cell? ⟨B, 1, none⟩ = some v ∧ W.frozen? ⟨B, 0, none⟩ = false ∧ W.frozen? ⟨B, 1, none⟩ = false
theorem AtU.heap {W W' : World} {B : Nat} {F : Int} {v : Value} (k : AtU W B F v) (e : W'.heap[B]? = W.heap[B]?) : AtU W' B F v := by
  unfold AtU at *
  simpa only [cellH e, frozH e] using k
theorem AtU.lt {W : World} {B : Nat} {F : Int} {v : Value} (k : AtU W B F v) : B < W.heap.size := cell_in k.1
theorem AtU.set2 {W : World} {B : Nat} {F : Int} {v : Value} (k : AtU W B F v) (G : Int) (u : Value) : AtU ((W.setCell ⟨B, 0, none⟩ (.int .i64 G)).setCell ⟨B, 1, none⟩ u) B G u := by
  obtain ⟨a, b, c, d⟩ := k
  refine ⟨?_, ?_, ?_, ?_⟩ <;> simp [go_sem, *]
theorem atu_new (W : World) (B : Nat) (F : Int) (v : Value) (T : TypeId) (e : B = W.heap.size) : AtU (W.alloc (.cells #[.int .i64 F, v] T)) B F v := by
  subst e
  refine ⟨?_, ?_, ?_, ?_⟩ <;> simp [go_sem]
theorem own_heap {W W' : World} {base e size n : Nat} {v : Value} {xs : List Value} (h : W.ownsRow base e size v n xs) (he : ∀ g, v.ownBlock = some g → W'.heap[g]? = W.heap[g]?) : W'.ownsRow base e size v n xs := by
  refine ⟨h.1, ?_⟩
  rcases h.2 with hn | ⟨g, cap, cur, rfl, hb, hg, rest⟩
  · exact .inl hn
  · exact .inr ⟨g, cap, cur, rfl, hb, by rw [he g rfl]; exact hg, rest⟩
theorem hAl {W : World} (o : Obj) {k : Nat} (h : k < W.heap.size) : (W.alloc o).heap[k]? = W.heap[k]? := Below.heap_alloc W o k h
theorem hSet {W : World} {b o : Nat} (u : Value) {k : Nat} (h : ¬ k = b) : (W.setCell ⟨b, o, none⟩ u).heap[k]? = W.heap[k]? := Below.heap_setCell W ⟨b, o, none⟩ u k h
theorem own_wide {w : World} {base base' e size n : Nat} {v : Value} {xs : List Value} (h : w.ownsRow base e size v n xs) (hb : base' ≤ base) : w.ownsRow base' e size v n xs := by
  refine ⟨h.1, ?_⟩
  rcases h.2 with hn | ⟨g, cap, cur, hv, h1, h2⟩
  · exact .inl hn
  · exact .inr ⟨g, cap, cur, hv, by omega, h2⟩
end Go.Proofs.YtpiicdpipjjenaaGreatDoor
namespace Go.Proofs.YtpiicdpipjjenaaGreatDoor
set_option linter.unusedSimpArgs false
set_option linter.unusedVariables false

def op0 : List Rte := [((0#128, 0), 0)]
def Bot (op : List Rte) : Prop := ∃ os, op = os ++ op0
theorem Bot.ne {op : List Rte} (h : Bot op) : op ≠ [] := by obtain ⟨os, rfl⟩ := h; simp [op0]
end Go.Proofs.YtpiicdpipjjenaaGreatDoor
namespace Go.Proofs.YtpiicdpipjjenaaGreatDoor
open Go.RowKit
set_option linter.unusedSimpArgs false
set_option linter.unusedVariables false

end Go.Proofs.YtpiicdpipjjenaaGreatDoor
namespace Go.Proofs.YtpiicdpipjjenaaGreatDoor
open Go.RowKit
set_option linter.unusedSimpArgs false
set_option linter.unusedVariables false

structure Bt (M : Nat → Prop) (V W : World) : Prop where
  os : W.os = V.os
  tape : W.tape = V.tape
  output : W.output = V.output
  size : V.heap.size ≤ W.heap.size
  blk : ∀ z, z < V.heap.size → ¬ M z → W.heap[z]? = V.heap[z]?
theorem Bt.refl (M : Nat → Prop) (V : World) : Bt M V V := ⟨rfl, rfl, rfl, Nat.le_refl _, fun _ _ _ => rfl⟩
theorem Bt.below {M : Nat → Prop} {V W W' : World} (h : Bt M V W) {B : Nat} (hb : Below B W W') (hB : V.heap.size ≤ B) : Bt M V W' :=
  ⟨by rw [hb.os, h.os], by rw [hb.tape, h.tape], by rw [hb.output, h.output], Nat.le_trans h.size hb.size, fun z h1 h2 => by rw [hb.block z (by omega), h.blk z h1 h2]⟩
theorem Bt.set {M : Nat → Prop} {V W : World} (h : Bt M V W) {g : Nat} (hg : M g ∨ V.heap.size ≤ g) (o : Nat) (u : Value) : Bt M V (W.setCell ⟨g, o, none⟩ u) := by
  have b : Below 0 W (W.setCell ⟨g, o, none⟩ u) := (Below.refl _ _).setCell (Nat.zero_le _) u
  refine ⟨by rw [b.os, h.os], by rw [b.tape, h.tape], by rw [b.output, h.output], Nat.le_trans h.size b.size, fun z h1 h2 => ?_⟩
  rw [hSet _ (fun e => ?_), h.blk z h1 h2]
  rcases hg with q | q
  · exact h2 (by rw [e]; exact q)
  · omega
theorem Bt.grown {M : Nat → Prop} {V W W' : World} (h : Bt M V W) {r : Option Nat} (hg : W.grownBy W' r) (hr : ∀ z, r = some z → M z ∨ V.heap.size ≤ z) : Bt M V W' :=
  ⟨by rw [hg.os, h.os], by rw [hg.tape, h.tape], by rw [hg.output, h.output], Nat.le_trans h.size hg.size, fun z h1 h2 => by
    rw [hg.block z (by have := h.size; omega) (fun e => ?_), h.blk z h1 h2]
    rcases hr z e.symm with q | q
    · exact h2 q
    · omega⟩
theorem Bt.low {M : Nat → Prop} {w V W : World} (h : Bt M V W) (hb : Below w.heap.size w V) (hM : ∀ z, M z → w.heap.size ≤ z) : Below w.heap.size w W :=
  ⟨by rw [h.os, hb.os], by rw [h.tape, hb.tape], by rw [h.output, hb.output], Nat.le_trans hb.size h.size, fun z hz => by
    rw [h.blk z (by have := hb.size; omega) (fun q => by have := hM z q; omega), hb.block z hz]⟩
theorem own_any {W : World} {base e size n g cap : Nat} {xs : List Value} (h : W.ownsRow base e size (.slice (some ⟨g, 0, none⟩) n cap) n xs) (j : Nat) (hj : j < n * size) : (∃ u, W.cell? ⟨g, j, none⟩ = some u) ∧ W.frozen? ⟨g, j, none⟩ = false := by
  refine ⟨?_, h.frozenAt j⟩
  rw [h.cellAt j hj]
  exact ⟨_, List.getElem?_eq_getElem (by rw [h.1]; exact hj)⟩
end Go.Proofs.YtpiicdpipjjenaaGreatDoor
namespace Go.Proofs.YtpiicdpipjjenaaGreatDoor
open Go.RowKit
set_option linter.unusedSimpArgs false
set_option linter.unusedVariables false

section
variable {P : Program}

end
end Go.Proofs.YtpiicdpipjjenaaGreatDoor
namespace Go.Proofs.YtpiicdpipjjenaaGreatDoor
open Go.RowKit Go.Shelf
set_option linter.unusedSimpArgs false
set_option linter.unusedVariables false

section
variable {P : Program}
def postX {α : Type} (B : Nat) (Kp : World → World → Prop) (I : List α → World → Prop) (Ix : Code → List α → World → Prop) (xs : List α) (W : World) : Exit → Act → World → Prop
  | .normal, _, W' => KeepsFrom B W W' ∧ Kp W W' ∧ I xs W'
  | .ret, _, W' => KeepsFrom B W W' ∧ Kp W W' ∧ Ix .ret xs W'
  | .exit id, _, W' => KeepsFrom B W W' ∧ Kp W W' ∧ Ix (.exit id) xs W'
  | .goto t, _, W' => KeepsFrom B W W' ∧ Kp W W' ∧ Ix (.goto t) xs W'
  | .panic _, _, _ => False
  | .outgrown, _, _ => False
structure Bk (B : Nat) (r : Loop) (W : World) : Prop where
  rec' : W.heap[B + 1]? = some (.loop r)
  dfr : W.heap[B]? = some (.deferred (some []))
theorem Bk.lt {B : Nat} {r : Loop} {W : World} (k : Bk B r W) : B + 1 < W.heap.size := (Array.getElem?_eq_some_iff.1 k.rec').1
theorem Bk.from {B : Nat} {r : Loop} {W W' : World} (k : Bk B r W) (h : KeepsFrom B W W') : Bk B r W' := ⟨h.same _ _ (by omega) k.rec' rfl, h.same _ _ (Nat.le_refl _) k.dfr rfl⟩
theorem Bk.turn {B : Nat} {r : Loop} {W : World} (k : Bk B r W) (r' : Loop) : Bk B r' (W.putObj (B + 1) (.loop r')) := ⟨World.putObj_heap_same k.lt, (World.putObj_heap_other (by omega)).trans k.dfr⟩
theorem Bk.grown {B : Nat} {r : Loop} {W W' : World} {row : Option Nat} (k : Bk B r W) (h : W.grownBy W' row) (hr : ∀ z, row = some z → B + 2 ≤ z) : Bk B r W' := by
  have hl := k.lt
  exact ⟨(h.block _ hl (fun e => by have := hr _ e.symm; omega)).trans k.rec', (h.block _ (by omega) (fun e => by have := hr _ e.symm; omega)).trans k.dfr⟩
theorem bk_end {B : Nat} {r : Loop} {W : World} (k : Bk B r W) (jump : Option Code) : (Instr.endRound (B + 1) jump).run P W = .ok (.bool jump.isNone) (W.putObj (B + 1) (.loop { r with state := if jump.isNone then .ready else .done, pending := jump })) := run_endRound jump k.rec'
def KW (Z : Nat → Prop) (B : Nat) (W W' : World) : Prop := W.heap.size ≤ W'.heap.size ∧ ∀ (z : Nat) (o : Obj), W.heap[z]? = some o → (Z z ∨ B ≤ z) → W'.heap[z]? = some o
theorem KW.trans {Z : Nat → Prop} {B : Nat} {X Y V : World} (h : KW Z B X Y) (g : KW Z B Y V) : KW Z B X V := ⟨Nat.le_trans h.1 g.1, fun z o h1 h2 => g.2 z o (h.2 z o h1 h2) h2⟩
theorem KW.refl (Z : Nat → Prop) (B : Nat) (W : World) : KW Z B W W := ⟨Nat.le_refl _, fun _ _ h _ => h⟩
end
end Go.Proofs.YtpiicdpipjjenaaGreatDoor
namespace Go.Proofs.YtpiicdpipjjenaaGreatDoor
open Go.RowKit Go.Shelf
set_option linter.unusedSimpArgs false
set_option linter.unusedVariables false

def Cl1 (W : World) (B : Nat) (v : Value) : Prop := W.cell? ⟨B, 0, none⟩ = some v ∧ W.frozen? ⟨B, 0, none⟩ = false
theorem Cl1.below {W W' : World} {B : Nat} {v : Value} (k : Cl1 W B v) (hb : Below W.heap.size W W') : Cl1 W' B v := ⟨keepc hb k.1, keepf hb k.1 k.2⟩
theorem Cl1.heap {W W' : World} {B : Nat} {v : Value} (k : Cl1 W B v) (e : W'.heap[B]? = W.heap[B]?) : Cl1 W' B v := ⟨(World.cell?_of_block (a := ⟨B, 0, none⟩) e).trans k.1, (World.frozen?_of_block (a := ⟨B, 0, none⟩) e).trans k.2⟩
theorem Cl1.set {W : World} {B : Nat} {v : Value} (k : Cl1 W B v) (u : Value) : Cl1 (W.setCell ⟨B, 0, none⟩ u) B u := ⟨World.cell?_setCell_same' _ _ _ (by rw [k.1]; rfl), by rw [World.frozen?_setCell]; exact k.2⟩
theorem Cl1.lt {W : World} {B : Nat} {v : Value} (k : Cl1 W B v) : B < W.heap.size := cell_in k.1
theorem hSet6 {W : World} {b o : Nat} (u : Value) {k : Nat} (h : ¬ k = b) : (W.setCell ⟨b, o, none⟩ u).heap[k]? = W.heap[k]? := Below.heap_setCell W ⟨b, o, none⟩ u k h
theorem Cl1.kept {W W' : World} {B : Nat} {v : Value} (k : Cl1 W B v) {row : Option Nat} (hg : W.grownBy W' row) (hr : ∀ r, row = some r → ∃ o : Obj, W.heap[r]? = some o ∧ o.isCells = false) : Cl1 W' B v := ⟨cell_kept k.1 hg hr, (frozen_kept k.1 hg hr).trans k.2⟩
end Go.Proofs.YtpiicdpipjjenaaGreatDoor
