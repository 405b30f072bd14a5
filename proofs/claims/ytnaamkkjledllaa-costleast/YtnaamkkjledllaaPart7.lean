/-
  Part 7 of the proof: 5 texts, one behind the other.
-/
import Derived.Test.YtnaamkkjledllaaPart6
import Derived.Laws.IdiomStrings
import Derived.Test.YtnaamkkjledllaaPart2
import Derived.Test.YtnaamkkjledllaaPart1
import Derived.Laws.AppendOwnNone
/-
  What the calls of package cost's tenth and Text do.
-/
namespace Go.Proofs.Ytnaamkkjledllaa
open Go.RowKit
set_option linter.unusedSimpArgs false
set_option linter.unusedVariables false

theorem div10_any (r a : Nat) (w : World) (h1 : r < 10) (ha : a < 18446744073709551616) :
    Calls Try.prog 33 #[.int .u64 (r : Int), .int .u64 (a : Int), .int .u64 10] w fun e w' => e = .returned (.tuple #[.int .u64 (((r * 18446744073709551616 + a) / 10 : Nat) : Int), .int .u64 (((r * 18446744073709551616 + a) % 10 : Nat) : Int)]) ∧ Below w.heap.size w w' := by
  by_cases h : r = 0
  · subst h
    have := div10_low a w ha
    rw [show (0 * 18446744073709551616 + a) = a by omega]
    exact this
  · exact div10_high r a w (by omega) h1 ha
/-- A tenth, digit by digit. -/
theorem tenth_digits (N a0 a1 a2 : Nat) (h1 : a1 < 18446744073709551616) (h2 : a2 < 18446744073709551616) (hN : N = a0 * 340282366920938463463374607431768211456 + a1 * 18446744073709551616 + a2) (q0 q1 q2 r0 r1 r2 : Nat)
    (e0 : q0 = a0 / 10) (f0 : r0 = a0 % 10) (e1 : q1 = (r0 * 18446744073709551616 + a1) / 10) (f1 : r1 = (r0 * 18446744073709551616 + a1) % 10) (e2 : q2 = (r1 * 18446744073709551616 + a2) / 10) (f2 : r2 = (r1 * 18446744073709551616 + a2) % 10) :
    cost0 (N / 10) = (q0 : Int) ∧ cost1 (N / 10) = (q1 : Int) ∧ cost2 (N / 10) = (q2 : Int) ∧ N % 10 = r2 := by
  have b1 : q1 < 18446744073709551616 := by omega
  have b2 : q2 < 18446744073709551616 := by omega
  have hs : N = 10 * (q0 * 340282366920938463463374607431768211456 + q1 * 18446744073709551616 + q2) + r2 := by omega
  have hr : r2 < 10 := by omega
  clear e0 f0 e1 f1 e2 f2 hN
  have hd : N / 10 = q0 * 340282366920938463463374607431768211456 + q1 * 18446744073709551616 + q2 := by omega
  unfold cost0 cost1 cost2
  rw [hd]
  refine ⟨by omega, by omega, by omega, by omega⟩
set_option maxRecDepth 20000 in
set_option maxHeartbeats 4000000 in
theorem tenth_any (N : Nat) (w : World) (hN : N < 6277101735386680763835789423207666416102355444464034512896) :
    Calls Try.prog 30 #[costV N] w fun e w' => e = .returned (.tuple #[costV (N / 10), .int .u64 ((N % 10 : Nat) : Int)]) ∧ Below w.heap.size w w' := by
  have sp := cost_split N
  have lo := cost_lo N
  have up := cost_up N hN
  obtain ⟨a0, e0⟩ : ∃ a : Nat, cost0 N = (a : Int) := ⟨(cost0 N).toNat, by omega⟩
  obtain ⟨a1, e1⟩ : ∃ a : Nat, cost1 N = (a : Int) := ⟨(cost1 N).toNat, by omega⟩
  obtain ⟨a2, e2⟩ : ∃ a : Nat, cost2 N = (a : Int) := ⟨(cost2 N).toNat, by omega⟩
  unfold costV
  rw [e0, e1, e2]
  rw [e0, e1, e2] at sp
  rw [e0, e1, e2] at lo
  rw [e0] at up
  have K0 := fun w => div10_any 0 a0 w (by omega) (by omega)
  rw [show (0 * 18446744073709551616 + a0) = a0 by omega] at K0
  obtain ⟨q0, hq0⟩ : ∃ q, q = a0 / 10 := ⟨_, rfl⟩
  obtain ⟨r0, hr0⟩ : ∃ q, q = a0 % 10 := ⟨_, rfl⟩
  rw [← hq0, ← hr0] at K0
  have K1 := fun w => div10_any r0 a1 w (by omega) (by omega)
  obtain ⟨q1, hq1⟩ : ∃ q, q = (r0 * 18446744073709551616 + a1) / 10 := ⟨_, rfl⟩
  obtain ⟨r1, hr1⟩ : ∃ q, q = (r0 * 18446744073709551616 + a1) % 10 := ⟨_, rfl⟩
  rw [← hq1, ← hr1] at K1
  have K2 := fun w => div10_any r1 a2 w (by omega) (by omega)
  obtain ⟨q2, hq2⟩ : ∃ q, q = (r1 * 18446744073709551616 + a2) / 10 := ⟨_, rfl⟩
  obtain ⟨r2, hr2⟩ : ∃ q, q = (r1 * 18446744073709551616 + a2) % 10 := ⟨_, rfl⟩
  rw [← hq2, ← hr2] at K2
  obtain ⟨c0, c1, c2, c3⟩ := tenth_digits N a0 a1 a2 (by omega) (by omega) (by omega) q0 q1 q2 r0 r1 r2 hq0 hr0 hq1 hr1 hq2 hr2
  rw [c0, c1, c2, c3]
  clear c0 c1 c2 c3 hq0 hr0 hq1 hr1 hq2 hr2 sp lo up e0 e1 e2 hN
  rw [show ((0 : Nat) : Int) = 0 from rfl] at K0
  generalize (a0 : Int) = x0 at *
  generalize (a1 : Int) = x1 at *
  generalize (a2 : Int) = x2 at *
  generalize (q0 : Int) = t0 at *
  generalize (q1 : Int) = t1 at *
  generalize (q2 : Int) = t2 at *
  generalize (r0 : Int) = s0 at *
  generalize (r1 : Int) = s1 at *
  generalize (r2 : Int) = s2 at *
  have HS := hid9 (E2.start w x0 x1 x2 0 0 0 24)
  go_enter Try.func30, Try.ntmps30
  go_wp2_with fail
  go_loopw [3, 5] (fun cv i wr => (i = .int .i64 0 ∧ cv = .int .u64 0 ∧ Hid (E2 w x0 x1 x2 0 0 0 wr)) ∨ (i = .int .i64 1 ∧ cv = .int .u64 s0 ∧ Hid (E2 w x0 x1 x2 t0 0 0 wr)) ∨ (i = .int .i64 2 ∧ cv = .int .u64 s1 ∧ Hid (E2 w x0 x1 x2 t0 t1 0 wr)) ∨ (i = .int .i64 3 ∧ cv = .int .u64 s2 ∧ Hid (E2 w x0 x1 x2 t0 t1 t2 wr))) (fun _ i _ => 3 - (intOf i).toNat)
  case atStart => exact .inl ⟨rfl, rfl, HS⟩
  case round =>
    clear HS
    rcases hrel with ⟨rfl, rfl, HE⟩ | ⟨rfl, rfl, HE⟩ | ⟨rfl, rfl, HE⟩ | ⟨rfl, rfl, HE⟩
    · obtain ⟨⟨a0, a1, a2, -, -, -⟩, -, -⟩ := HE.out
      go_wp2_with fail
      refine (K0 _).mono ?_
      rintro e w1 ⟨rfl, hb⟩
      have HE1 : E2 w x0 x1 x2 0 0 0 w1 := ⟨HE.out.1.below hb, HE.out.2.1.below hb, keepb hb HE.out.2.2⟩
      have HE2 := hid9 (HE1.set0 t0)
      obtain ⟨-, ⟨b0, b1, b2, b3, b4, b5⟩, -⟩ := HE1
      clear HE hb a0 a1 a2 K0 K1 K2
      go_wp2
      go_roundw
      case rel => exact .inr (.inl ⟨by simp, rfl, HE2⟩)
      case measure => simp [intOf]
    · obtain ⟨⟨a0, a1, a2, -, -, -⟩, -, -⟩ := HE.out
      go_wp2_with fail
      refine (K1 _).mono ?_
      rintro e w1 ⟨rfl, hb⟩
      have HE1 : E2 w x0 x1 x2 t0 0 0 w1 := ⟨HE.out.1.below hb, HE.out.2.1.below hb, keepb hb HE.out.2.2⟩
      have HE2 := hid9 (HE1.set1 t1)
      obtain ⟨-, ⟨b0, b1, b2, b3, b4, b5⟩, -⟩ := HE1
      clear HE hb a0 a1 a2 K0 K1 K2
      go_wp2
      go_roundw
      case rel => exact .inr (.inr (.inl ⟨by simp, rfl, HE2⟩))
      case measure => simp [intOf]
    · obtain ⟨⟨a0, a1, a2, -, -, -⟩, -, -⟩ := HE.out
      go_wp2_with fail
      refine (K2 _).mono ?_
      rintro e w1 ⟨rfl, hb⟩
      have HE1 : E2 w x0 x1 x2 t0 t1 0 w1 := ⟨HE.out.1.below hb, HE.out.2.1.below hb, keepb hb HE.out.2.2⟩
      have HE2 := hid9 (HE1.set2 t2)
      obtain ⟨-, ⟨b0, b1, b2, b3, b4, b5⟩, -⟩ := HE1
      clear HE hb a0 a1 a2 K0 K1 K2
      go_wp2
      go_roundw
      case rel => exact .inr (.inr (.inr ⟨by simp, rfl, HE2⟩))
      case measure => simp [intOf]
    · have A1 := HE.out.2.1
      have kE := bset3c HE.out.2.2 (show w.heap.size ≤ w.heap.size + 1 by omega) (.int .u64 t0) (.int .u64 t1) (.int .u64 t2)
      obtain ⟨u0, u1, u2, -, -, -⟩ := A1.set t0 t1 t2
      obtain ⟨r0, r1, r2, r3, r4, r5⟩ := A1
      have Hk := hid9 kE
      have Hv := hid9 (And.intro u0 (And.intro u1 u2))
      clear kE u0 u1 u2 HE K0 K1 K2
      go_wp2
      obtain ⟨u0, u1, u2⟩ := Hv.out
      exact bodyPost_ret (v := .tuple #[.agg #[.int .u64 t0, .int .u64 t1, .int .u64 t2], .int .u64 s2]) (by simp [results, Try.results30, go_sem, u0, u1, u2]) rfl ⟨rfl, Hk.out⟩
theorem AtC.othk {W : World} {B C k : Nat} {x y z : Int} (h : AtC W B x y z) (hn : ¬ B = C) (u : Value) : AtC (W.setCell ⟨C, k, none⟩ u) B x y z := by
  have hn' : ¬ C = B := fun e => hn e.symm
  obtain ⟨a0, a1, a2, a3, a4, a5⟩ := h
  refine ⟨?_, ?_, ?_, ?_, ?_, ?_⟩ <;> simp [go_sem, hn, hn', *]
/-- The digits of a number, written ahead of t. -/
def txF : Nat → Nat → List UInt8 → List UInt8
  | 0, _, t => t
  | f + 1, m, t => if m = 0 then t else txF f (m / 10) (UInt8.ofNat (48 + m % 10) :: t)
/-- The text of a number. -/
def txN (n : Nat) : List UInt8 := if n = 0 then [48] else txF 58 n []
theorem txF_zero (f : Nat) (t : List UInt8) : txF f 0 t = t := by
  cases f with
  | zero => rfl
  | succ f => exact if_pos rfl
theorem new_cell9 (W : World) (o : Obj) (cs : Array Value) (t : TypeId) (j : Nat) : ((W.alloc o).alloc (.cells cs t)).cell? ⟨W.heap.size + 1, j, none⟩ = cs[j]? := by
  have h : ((W.alloc o).alloc (.cells cs t)).heap[W.heap.size + 1]? = some (.cells cs t) := by
    show ((W.heap.push o).push (.cells cs t))[W.heap.size + 1]? = _
    rw [Array.getElem?_push, if_pos (by simp)]
  unfold World.cell?
  rw [h]
  simp
/-- A row of 58 bytes of which the last ones are written. -/
structure D58 (W : World) (B f : Nat) (t : List UInt8) : Prop where
  len : f + t.length = 58
  all : ∀ j, j < 58 → W.cell? ⟨B, j, none⟩ = some (cv W B j)
  frz : ∀ j, j < 58 → W.frozen? ⟨B, j, none⟩ = false
  got : ∀ j (hj : j < t.length), W.cell? ⟨B, f + j, none⟩ = some (.int .u8 (t[j].toNat : Int))
theorem D58.below {W W' : World} {B f : Nat} {t : List UInt8} (h : D58 W B f t) (hb : Below W.heap.size W W') : D58 W' B f t :=
  ⟨h.len, fun j hj => cv_of (keepc hb (h.all j hj)), fun j hj => keepf hb (h.all j hj) (h.frz j hj), fun j hj => keepc hb (h.got j hj)⟩
theorem D58.oth {W : World} {B C k f : Nat} {t : List UInt8} (h : D58 W B f t) (hn : ¬ C = B) (v : Value) : D58 (W.setCell ⟨C, k, none⟩ v) B f t := by
  have e : ∀ j, (W.setCell ⟨C, k, none⟩ v).cell? ⟨B, j, none⟩ = W.cell? ⟨B, j, none⟩ := fun j => by simp [go_sem, hn]
  refine ⟨h.len, fun j hj => cv_of ((e j).trans (h.all j hj)), fun j hj => ?_, fun j hj => (e _).trans (h.got j hj)⟩
  have := h.frz j hj
  simp [go_sem, this]
theorem D58.put {W : World} {B f : Nat} {t : List UInt8} (h : D58 W B (f + 1) t) (d : UInt8) : D58 (W.setCell ⟨B, f, none⟩ (.int .u8 (d.toNat : Int))) B f (d :: t) := by
  have hl := h.len
  have hf := h.all f (by omega)
  have e : ∀ j, j ≠ f → (W.setCell ⟨B, f, none⟩ (.int .u8 (d.toNat : Int))).cell? ⟨B, j, none⟩ = W.cell? ⟨B, j, none⟩ := fun j hj => by
    have : ¬ f = j := fun q => hj q.symm
    simp [go_sem, this]
  have s : (W.setCell ⟨B, f, none⟩ (.int .u8 (d.toNat : Int))).cell? ⟨B, f, none⟩ = some (.int .u8 (d.toNat : Int)) := by simp [go_sem, hf]
  refine ⟨by simp only [List.length_cons]; omega, fun j hj => ?_, fun j hj => ?_, fun j hj => ?_⟩
  · by_cases q : j = f
    · subst q; exact cv_of s
    · exact cv_of ((e j q).trans (h.all j hj))
  · have := h.frz j hj
    simp [go_sem, this]
  · cases j with
    | zero => simpa using s
    | succ j =>
      simp only [List.length_cons] at hj
      have g := h.got j (by omega)
      rw [show f + (j + 1) = f + 1 + j by omega, e _ (by omega), g]
      rfl
theorem D58.conv {W : World} {B f : Nat} {t : List UInt8} (h : D58 W B f t) : (convert 57 9 (.slice (some ⟨B, f, none⟩) (58 - f) (58 - f))).run Try.prog W = .ok (.string ⟨t.toArray⟩) W := by
  have hl := h.len
  rw [show 58 - f = t.length by omega]
  exact run_convert_bytes_back (P := Try.prog) W 57 9 5 ⟨B, f, none⟩ t.length t Try.underlying57 Try.underlying5 Try.underlying9 (fun j hj => by
    have ea : (⟨B, f, none⟩ : Addr).add j = ⟨B, f + j, none⟩ := by cases j <;> simp [Addr.add]
    rw [ea]; exact h.got j hj)
theorem cut58 (B f : Nat) (hf : f < 58) (w : World) : Sem.run Try.prog (Instr.sliceAt 55 (.pointer (some ⟨B, 0, none⟩)) (some (.int .i64 f)) none none) w = .ok (.slice (some ⟨B, f, none⟩) (58 - f) (58 - f)) w := by
  have hU : Try.prog.underlying 55 = some (.array 58 5) := by kernel_rfl
  have hi : (Try.prog.info? 5).map (fun i => i.size) = some 1 := by kernel_rfl
  obtain ⟨i, hi, hs⟩ : ∃ i, Try.prog.info? 5 = some i ∧ i.size = 1 := by
    cases h : Try.prog.info? 5 with
    | none => rw [h] at hi; cases hi
    | some i => rw [h] at hi; simp at hi; exact ⟨i, rfl, hi⟩
  have h1 : (f : Int) ≤ 58 := by omega
  have h2 : ¬ 58 = f := by omega
  have h3 : f ≤ 58 := by omega
  simp [Instr.sliceAt, Instr.sliceBounds, Instr.sliceBound, run_underlying hU, sizeOf, typeInfo, hi, hs, go_sem, h1, h2, h3, Addr.add]
  exact fun h => h.symm
set_option maxRecDepth 20000 in
set_option maxHeartbeats 8000000 in
theorem text9_any (N : Nat) (w : World) (hN : N < 6277101735386680763835789423207666416102355444464034512896) :
    Calls Try.prog 24 #[costV N] w fun e w' => e = .returned (.string ⟨(txN N).toArray⟩) ∧ Below w.heap.size w w' := by
  by_cases h0 : N = 0
  · subst h0
    have hq := eqC_any 0 0 0 0 0 0
    rw [show eq9 0 0 0 0 0 0 = true from rfl] at hq
    rw [costV_zero]
    go_enter Try.func24, Try.ntmps24
    go_wp2
    exact bodyPost_ret (v := .string ⟨#[48]⟩) (by simp [results, Try.results24, go_sem]) rfl ⟨rfl, bl1 _ _⟩
  have hq := eqC_any (cost0 N) (cost1 N) (cost2 N) (cost0 0) (cost1 0) (cost2 0)
  rw [eq9_cost, decide_eq_false h0, cost_zero.1, cost_zero.2.1, cost_zero.2.2] at hq
  have HT : Hid (txN N = txF 58 N []) := if_neg h0
  have HB : Hid (∀ o, Below w.heap.size w ((w.alloc (.cells #[.int .u64 (cost0 N), .int .u64 (cost1 N), .int .u64 (cost2 N)] 24)).alloc o)) := fun o => bl2 _ _ _
  have HA : Hid (∀ o, AtC ((w.alloc (.cells #[.int .u64 (cost0 N), .int .u64 (cost1 N), .int .u64 (cost2 N)] 24)).alloc o) w.heap.size (cost0 N) (cost1 N) (cost2 N)) := fun o => (atc_new w w.heap.size (cost0 N) (cost1 N) (cost2 N) 24 rfl).below (bl1 _ _)
  rw [show costV N = .agg #[.int .u64 (cost0 N), .int .u64 (cost1 N), .int .u64 (cost2 N)] from rfl]
  go_enter Try.func24, Try.ntmps24
  go_wp2_with fail
  go_loopw [4] (fun i wr => ∃ (f m : Nat) (t : List UInt8), i = .int .i64 f ∧ Hid (txF f m t = txN N ∧ m < 10 ^ f ∧ D58 wr (w.heap.size + 1) f t ∧ AtC wr w.heap.size (cost0 m) (cost1 m) (cost2 m) ∧ Below w.heap.size w wr ∧ (f < 58 ∨ ¬ m = 0)) ∧ m < 6277101735386680763835789423207666416102355444464034512896) (fun i _ => (intOf i).toNat)
  case atStart =>
    refine ⟨58, N, [], rfl, ⟨HT.out.symm, by omega, ⟨rfl, fun j hj => ?_, fun j hj => ?_, fun j hj => by simp at hj⟩, HA.out _, HB.out _, .inr h0⟩, hN⟩
    · refine cv_new ?_
      have e : ∀ i : Fin 58, (((Array.replicate 58 (Value.int IntKind.u8 0))[i.val]?).isSome) = true := by decide
      rw [new_cell9]
      have := e ⟨j, hj⟩
      first | exact this | (simp; omega) | (simp [hj])
    · simp [go_sem]
  case round =>
    obtain ⟨f, m, t, rfl, HH, hm⟩ := hrel
    clear hq HA HB HT h0 hN
    have hq := eqC_any (cost0 m) (cost1 m) (cost2 m) (cost0 0) (cost1 0) (cost2 0)
    rw [eq9_cost, cost_zero.1, cost_zero.2.1, cost_zero.2.2] at hq
    by_cases hz : m = 0
    · rw [decide_eq_true hz] at hq
      obtain ⟨c0, c1, c2, -, -, -⟩ := HH.out.2.2.2.1
      have hv := HH.out.2.2.1.conv
      have hfl : f ≤ 58 := by have := HH.out.2.2.1.len; omega
      have HX : Hid (txN N = t) := by show _ = _; rw [← HH.out.1, hz, txF_zero]
      have HB := hid9 HH.out.2.2.2.2.1
      have hlt : f < 58 := HH.out.2.2.2.2.2.resolve_right (fun h => h hz)
      clear HH hz
      have hcut := cut58 (w.heap.size + 1) f hlt wr
      go_wp2
      go_ret
      exact ⟨by rw [HX.out]; rfl, HB.out⟩
    · rw [decide_eq_false hz] at hq
      obtain ⟨g, rfl⟩ : ∃ g, f = g + 1 := ⟨f - 1, by
        have := HH.out.2.1
        cases f with
        | zero => simp at this; omega
        | succ f => omega⟩
      have hgl : g < 58 := by have := HH.out.2.2.1.len; omega
      have KT := fun w => tenth_any m w hm
      have HX : Hid (txF g (m / 10) (UInt8.ofNat (48 + m % 10) :: t) = txN N ∧ m / 10 < 10 ^ g) := by
        refine ⟨?_, ?_⟩
        · rw [← HH.out.1]; exact (if_neg hz).symm
        · have := HH.out.2.1
          rw [Nat.pow_succ] at this
          omega
      have hdU : ((UInt8.ofNat (48 + m % 10)).toNat : Int) = 48 + ((m % 10 : Nat) : Int) := by rw [UInt8.toNat_ofNat']; omega
      have HP : Hid (∀ W : World, D58 W (w.heap.size + 1) (g + 1) t → D58 (W.setCell ⟨w.heap.size + 1, g, none⟩ (.int .u8 ((UInt8.ofNat (48 + m % 10)).toNat : Int))) (w.heap.size + 1) g (UInt8.ofNat (48 + m % 10) :: t)) := fun W h => h.put _
      have hm2 : m / 10 < 6277101735386680763835789423207666416102355444464034512896 := by omega
      have e1 : IntKind.u8.wrap ((m % 10 : Nat) : Int) = ((m % 10 : Nat) : Int) := by rw [IntKind.wrap_u8]; omega
      have e2 : IntKind.u8.wrap (48 + ((m % 10 : Nat) : Int)) = ((UInt8.ofNat (48 + m % 10)).toNat : Int) := by rw [IntKind.wrap_u8, hdU]; omega
      have hfi : IntKind.i64.wrap (((g + 1 : Nat) : Int) - 1) = (g : Int) := by rw [IntKind.wrap_i64]; omega
      have hmeas : (g : Int).toNat < ((g + 1 : Nat) : Int).toNat := by omega
      have HM := hid9 hmeas
      have HD := hid9 (And.intro HH.out.2.2.1 (And.intro HH.out.2.2.2.1 HH.out.2.2.2.2.1))
      obtain ⟨c0, c1, c2, -, -, -⟩ := HH.out.2.2.2.1
      clear HH hz hdU hmeas
      unfold costV at KT
      have HN : Hid (m / 10 = m / 10) := rfl
      generalize hM : m / 10 = M at *
      clear hM HN
      generalize ((UInt8.ofNat (48 + m % 10)).toNat : Int) = dU at *
      generalize UInt8.ofNat (48 + m % 10) = dD at *
      generalize ((m % 10 : Nat) : Int) = dI at *
      generalize ((g + 1 : Nat) : Int) = fi at *
      go_wp2_with fail
      refine (KT _).mono ?_
      rintro e w1 ⟨rfl, hb⟩
      have D1 := HD.out.1.below hb
      have A1 := HD.out.2.1.below hb
      have B1 := keepb hb HD.out.2.2
      have hg := D1.all g hgl
      have fg := D1.frz g hgl
      have A2 := A1.set (cost0 M) (cost1 M) (cost2 M)
      have B2 := bset3c B1 (Nat.le_refl _) (.int .u64 (cost0 M)) (.int .u64 (cost1 M)) (.int .u64 (cost2 M))
      have D2 := ((D1.oth (C := w.heap.size) (k := 0) (by omega) (.int .u64 (cost0 M))).oth (C := w.heap.size) (k := 1) (by omega) (.int .u64 (cost1 M))).oth (C := w.heap.size) (k := 2) (by omega) (.int .u64 (cost2 M))
      have HE := hid9 (And.intro (HP.out _ D2) (And.intro (A2.othk (C := w.heap.size + 1) (k := g) (by omega) (.int .u8 dU)) (B2.setCell (p := ⟨w.heap.size + 1, g, none⟩) (by show w.heap.size ≤ w.heap.size + 1; omega) (.int .u8 dU))))
      obtain ⟨r0, r1, r2, r3, r4, r5⟩ := A1
      clear KT HD D1 A2 B1 B2 D2 hb c0 c1 c2 HP
      generalize hv0 : cost0 M = v0 at *
      generalize hv1 : cost1 M = v1 at *
      generalize hv2 : cost2 M = v2 at *
      have HV := hid9 (And.intro hv0 (And.intro hv1 hv2))
      clear hv0 hv1 hv2
      go_wp2
      go_roundw
      case rel => exact ⟨g, M, dD :: t, rfl, ⟨HX.out.1, HX.out.2, HE.out.1, by rw [HV.out.1, HV.out.2.1, HV.out.2.2]; exact HE.out.2.1, HE.out.2.2, .inl hgl⟩, hm2⟩
      case measure => simpa [intOf] using HM.out
end Go.Proofs.Ytnaamkkjledllaa
/-
  What the call of law 9's known does.
-/
namespace Go.Proofs.Ytnaamkkjledllaa
open Go.RowKit
set_option linter.unusedSimpArgs false
set_option linter.unusedVariables false

set_option maxRecDepth 20000 in
set_option maxHeartbeats 2000000 in
theorem least_none (w : World) : Calls Try.prog 20 #[.slice none 0 0] w fun e w' => e = .returned (.int .i64 (-1)) ∧ Below w.heap.size w w' := by
  have HB := hid9 (Below.refl w.heap.size w)
  go_enter Try.func20, Try.ntmps20
  go_wp2_with fail
  go_loopw [3, 8] (fun a i wr => a = .int .i64 (-1) ∧ i = .int .i64 0 ∧ wr = w) (fun _ _ _ => 0)
  case atStart => exact ⟨rfl, rfl, rfl⟩
  case round =>
    obtain ⟨rfl, rfl, rfl⟩ := hrel
    go_wp2
    go_ret
    exact ⟨rfl, HB.out⟩
theorem txt128 : (⟨(txN (2 ^ 128)).toArray⟩ : ByteArray) = ⟨#[51, 52, 48, 50, 56, 50, 51, 54, 54, 57, 50, 48, 57, 51, 56, 52, 54, 51, 52, 54, 51, 51, 55, 52, 54, 48, 55, 52, 51, 49, 55, 54, 56, 50, 49, 49, 52, 53, 54]⟩ := by
  have : txN (2 ^ 128) = [51, 52, 48, 50, 56, 50, 51, 54, 54, 57, 50, 48, 57, 51, 56, 52, 54, 51, 52, 54, 51, 51, 55, 52, 54, 48, 55, 52, 51, 49, 55, 54, 56, 50, 49, 49, 52, 53, 54] := by decide +kernel
  rw [this]
set_option maxRecDepth 20000 in
set_option maxHeartbeats 2000000 in
theorem known9_any (w : World) : Calls Try.prog 15 #[] w fun e w' => e = .returned (.bool true) ∧ Below w.heap.size w w' := by
  have KP := fun w => pow9_any 64 w (by decide) (by decide)
  rw [show powN 64 = 2 ^ (0 + 64) from rfl, cost_1 0 (by decide), show powE 64 = 0 from rfl, show ((2 ^ 0 : Nat) : Int) = 1 from rfl] at KP
  have KT := fun w => text9_any (2 ^ 128) w (by decide)
  rw [cost_2, txt128] at KT
  have KL := least_none
  have hq := eqC_any 0 1 0 0 1 0
  rw [show eq9 0 1 0 0 1 0 = true from rfl] at hq
  go_enter Try.func15, Try.ntmps15
  go_wp2_with fail
  refine (KP _).mono ?_
  rintro e w1 ⟨rfl, hb1⟩
  have HB1 := hid9 (keepb (bl1 w1 (.cells #[.int .u64 0, .int .u64 1, .int .u64 0] 24)) hb1)
  clear hb1 KP
  go_wp2_with fail
  refine (KT _).mono ?_
  rintro e w2 ⟨rfl, hb2⟩
  have HB2 := hid9 (keepb hb2 HB1.out)
  clear hb2 HB1 KT
  go_wp2_with fail
  refine (KL _).mono ?_
  rintro e w3 ⟨rfl, hb3⟩
  have HB3 := hid9 (keepb hb3 HB2.out)
  clear hb3 HB2 KL
  go_wp2
  go_ret
  exact ⟨rfl, HB3.out⟩
end Go.Proofs.Ytnaamkkjledllaa
/-
  The walk of Qt under a cover that no reckoning opens: for regions in which operations are passed over.
-/
namespace Go.Proofs.Ytnaamkkjledllaa
open Go.RowKit
set_option linter.unusedSimpArgs false
set_option linter.unusedVariables false

structure QW (P : Program) (ops : Array Oper) (C : World → Prop) (Q : Act → Prop) (l : List Oper) (a : Act) : Prop where
  out : wpQuiet P ops C Q l a
theorem qw_run {P : Program} {ops : Array Oper} {C : World → Prop} {Q : Act → Prop} {a : Act} {o : Oper} {rest : List Oper} {v : Value}
    (hw : Region.wanted o (yielded ops a.tmps) = true) (h : ∀ w, C w → (execOp a.eval o).run P w = .ok (.value v) w) (k : QW P ops C Q rest (a.put o.dst v)) : QW P ops C Q (o :: rest) a := ⟨q_run hw h k.out⟩
theorem qw_skip {P : Program} {ops : Array Oper} {C : World → Prop} {Q : Act → Prop} {a : Act} {o : Oper} {rest : List Oper}
    (hw : Region.wanted o (yielded ops a.tmps) = false) (k : QW P ops C Q rest (a.put o.dst undef)) : QW P ops C Q (o :: rest) a := ⟨q_skip hw k.out⟩
theorem qw_call {P : Program} {ops : Array Oper} {C : World → Prop} {Q : Act → Prop} {a : Act} {o : Oper} {rest : List Oper} {v : Value} {f : FuncId} {args : Array Value}
    (hw : Region.wanted o (yielded ops a.tmps) = true) (h : ∀ w, C w → (execOp a.eval o).run P w = .ok (.enter f args) w) (hc : ∀ w, C w → Calls P f args w fun e w' => e = .returned v ∧ C w') (k : QW P ops C Q rest (a.put o.dst v)) : QW P ops C Q (o :: rest) a := ⟨q_call hw h hc k.out⟩
theorem qw_nil {P : Program} {ops : Array Oper} {C : World → Prop} {Q : Act → Prop} {a : Act} (h : Q a) : QW P ops C Q [] a := ⟨wpQuiet_nil h⟩
theorem qw_region {P : Program} {C : World → Prop} {id : Nat} {Q : Exit → Act → World → Prop} {a : Act} {w : World} {l : List Oper} (hm : P.follows .mixedOrders = true) (hB : Region.lexB .any l.toArray = true) (hC : C w.drew)
    (h : QW P l.toArray C (fun a' => ∀ w', C w' → Q .normal a' w') l a) : (Code.region id l.toArray true).wp P Q a w := q_region hm hB hC h.out
end Go.Proofs.Ytnaamkkjledllaa
/-
  Numbers of 192 bits in variables.
-/
namespace Go.Proofs.Ytnaamkkjledllaa
open Go.RowKit
set_option linter.unusedSimpArgs false
set_option linter.unusedVariables false

/-- Numbers in variables. -/
def Kc (W : World) : List (Nat × Int × Int × Int) → Prop
  | [] => True
  | e :: L => AtC W e.1 e.2.1 e.2.2.1 e.2.2.2 ∧ Kc W L
theorem Kc.below {W W' : World} (hb : Below W.heap.size W W') : ∀ {L : List (Nat × Int × Int × Int)}, Kc W L → Kc W' L
  | [], _ => trivial
  | e :: L, h => ⟨h.1.below hb, Kc.below hb h.2⟩
def Kcs (w W : World) (L : List (Nat × Int × Int × Int)) : Prop := Kc W L ∧ Below w.heap.size w W
theorem Kcs.below {w W W' : World} {L : List (Nat × Int × Int × Int)} (h : Kcs w W L) (hb : Below W.heap.size W W') : Kcs w W' L := ⟨Kc.below hb h.1, keepb hb h.2⟩
theorem Kcs.drew {w W : World} {L : List (Nat × Int × Int × Int)} (h : Kcs w W L) : Kcs w W.drew L := h.below (below_drewN (Below.refl _ _) 1)
theorem Kcs.new {w W W' : World} {L : List (Nat × Int × Int × Int)} {a b c : Int} (h : Kcs w W L) (hb : Below W.heap.size W W') : Kcs w (W'.alloc (.cells #[.int .u64 a, .int .u64 b, .int .u64 c] 24)) ((W'.heap.size, a, b, c) :: L) := by
  have hq := bl1 W' (.cells #[.int .u64 a, .int .u64 b, .int .u64 c] 24)
  exact ⟨⟨atc_new W' W'.heap.size a b c 24 rfl, Kc.below hq (Kc.below hb h.1)⟩, keepb hq (keepb hb h.2)⟩
theorem Kcs.nil (w : World) : Kcs w w [] := ⟨trivial, Below.refl _ _⟩
theorem Kcs.one (w : World) (a b c : Int) : Kcs w (w.alloc (.cells #[.int .u64 a, .int .u64 b, .int .u64 c] 24)) [(w.heap.size, a, b, c)] := Kcs.new (Kcs.nil w) (Below.refl _ _)
theorem Kcs.two (w : World) (x0 x1 x2 y0 y1 y2 : Int) : Kcs w ((w.alloc (.cells #[.int .u64 x0, .int .u64 x1, .int .u64 x2] 24)).alloc (.cells #[.int .u64 y0, .int .u64 y1, .int .u64 y2] 24)) [(w.heap.size + 1, y0, y1, y2), (w.heap.size, x0, x1, x2)] := by
  have h := Kcs.new (a := y0) (b := y1) (c := y2) (Kcs.one w x0 x1 x2) (Below.refl _ _)
  simpa using h
theorem add_in (N M : Nat) (w : World) (h : N + M < 6277101735386680763835789423207666416102355444464034512896) :
    Calls Try.prog 9 #[costV N, costV M] w fun e w' => e = .returned (.tuple #[costV (N + M), .int .i64 0]) ∧ Below w.heap.size w w' := by
  have := add9_any N M w (by omega) (by omega)
  rwa [(fit_in h).1, (fit_in h).2] at this
theorem add_out (N M : Nat) (w : World) (hN : N < 6277101735386680763835789423207666416102355444464034512896) (hM : M < 6277101735386680763835789423207666416102355444464034512896) (h : ¬ N + M < 6277101735386680763835789423207666416102355444464034512896) :
    Calls Try.prog 9 #[costV N, costV M] w fun e w' => e = .returned (.tuple #[.agg #[.int .u64 0, .int .u64 0, .int .u64 0], .int .i64 6]) ∧ Below w.heap.size w w' := by
  have := add9_any N M w hN hM
  rwa [(fit_out h).1, (fit_out h).2, costV_zero] at this
theorem mul_in (N n : Nat) (w : World) (hN : N < 6277101735386680763835789423207666416102355444464034512896) (hn : n < 18446744073709551616) (h : N * n < 6277101735386680763835789423207666416102355444464034512896) :
    Calls Try.prog 10 #[costV N, .int .u64 (n : Int)] w fun e w' => e = .returned (.tuple #[costV (N * n), .int .i64 0]) ∧ Below w.heap.size w w' := by
  have := mul9_any N n w hN hn
  rwa [(fit_in h).1, (fit_in h).2] at this
theorem mul_out (N n : Nat) (w : World) (hN : N < 6277101735386680763835789423207666416102355444464034512896) (hn : n < 18446744073709551616) (h : ¬ N * n < 6277101735386680763835789423207666416102355444464034512896) :
    Calls Try.prog 10 #[costV N, .int .u64 (n : Int)] w fun e w' => e = .returned (.tuple #[.agg #[.int .u64 0, .int .u64 0, .int .u64 0], .int .i64 6]) ∧ Below w.heap.size w w' := by
  have := mul9_any N n w hN hn
  rwa [(fit_out h).1, (fit_out h).2, costV_zero] at this
theorem eqC_same (a b c : Int) (w : World) : (Op.equalIn 10000 24 (.agg #[.int .u64 a, .int .u64 b, .int .u64 c]) (.agg #[.int .u64 a, .int .u64 b, .int .u64 c])).run Try.prog w = .ok true w := by
  rw [eqC_any]; congr 1; unfold eq9; simp
end Go.Proofs.Ytnaamkkjledllaa
/-
  Rows in memory, whosever they are: cut, and laid behind a row of one's own.
-/
namespace Go.Proofs.Ytnaamkkjledllaa
open Go.RowKit
set_option linter.unusedSimpArgs false
set_option linter.unusedVariables false

/-- A row in memory, whosever it is: n elements of so many cells. -/
def Row (w : World) (size : Nat) (v : Value) (n : Nat) (xs : List Value) : Prop :=
  xs.length = n * size ∧ ∃ ao c, v = .slice ao n c ∧ n ≤ c ∧ ((ao = none ∧ c = 0 ∧ n = 0) ∨ ∃ b off, ao = some ⟨b, off, none⟩ ∧ ∀ j u, xs[j]? = some u → w.cell? ⟨b, off + j, none⟩ = some u)
theorem addA (g o j : Nat) : (⟨g, o, none⟩ : Addr).add j = ⟨g, o + j, none⟩ := by unfold Addr.add; split <;> simp_all
theorem Row.form {w : World} {size n : Nat} {v : Value} {xs : List Value} (h : Row w size v n xs) : ∃ ao c, v = .slice ao n c ∧ n ≤ c := by
  obtain ⟨-, ao, c, e, hc, -⟩ := h
  exact ⟨ao, c, e, hc⟩
theorem own_row {w : World} {base e size n : Nat} {v : Value} {xs : List Value} (h : w.ownsRow base e size v n xs) : Row w size v n xs := by
  refine ⟨h.1, ?_⟩
  rcases h.2 with ⟨e0, e1⟩ | ⟨g, cap, cur, e0, hb, hg, hnc, hm, hs, ht⟩
  · subst e1
    exact ⟨none, 0, e0, Nat.le_refl _, .inl ⟨rfl, rfl, rfl⟩⟩
  · refine ⟨some ⟨g, 0, none⟩, cap, e0, hnc, .inr ⟨g, 0, rfl, ?_⟩⟩
    intro j u hj
    have f := h.cells (g := g) (by rw [e0]; rfl) j u hj
    rw [addA, Nat.zero_add] at f
    rw [Nat.zero_add]
    exact f
theorem run_slice_from {P : Program} {w : World} {t e : TypeId} {i : TypeInfo} {size : Nat} (ht : P.underlying t = some (.slice e)) (hi : P.info? e = some i) (hsize : i.size = size) (ao : Option Addr) (n c k : Nat) (hk : k ≤ n) :
    Sem.run P (Instr.sliceAt t (.slice ao n c) (some (.int .i64 k)) none none) w = .ok (.slice (if c = k then ao else ao.map (·.add (k * size))) (n - k) (c - k)) w := by
  subst hsize
  simp [Instr.sliceAt, Instr.slice, Instr.sliceBounds, Instr.sliceBound, run_underlying ht, sizeOf, typeInfo, hi, hk, go_sem]
theorem run_slice_to {P : Program} {w : World} {t e : TypeId} {i : TypeInfo} (ht : P.underlying t = some (.slice e)) (hi : P.info? e = some i) (ao : Option Addr) (n c k : Nat) (hk : k ≤ c) :
    Sem.run P (Instr.sliceAt t (.slice ao n c) none (some (.int .i64 k)) none) w = .ok (.slice ao k c) w := by
  simp [Instr.sliceAt, Instr.slice, Instr.sliceBounds, Instr.sliceBound, run_underlying ht, sizeOf, typeInfo, hi, hk, go_sem]
theorem wpList_slice_from {P : Program} {w : World} {ops : Array Oper} {rest : List Oper} {o : Oper} {a : Act} {Q : Exit → Act → World → Prop} (hgd : o.guard = none) (t : TypeId) (x lo : Operand)
    (ho : o.op = .slice t x (some lo) none none) (e : TypeId) (i : TypeInfo) (size : Nat) (ht : P.underlying t = some (.slice e)) (hi : P.info? e = some i) (hsize : i.size = size)
    (v : Value) (n : Nat) (xs : List Value) (hs : a.eval x = v) (hr : Row w size v n xs) (k : Nat) (hk : a.eval lo = .int .i64 k) (hkn : k ≤ n)
    (h : ∀ v', Row w size v' (n - k) (xs.drop (k * size)) → wpList P ops Q rest (a.put o.dst v') w) : wpList P ops Q (o :: rest) a w := by
  obtain ⟨hl, ao, c, rfl, hc, hr⟩ := hr
  have := h (.slice (if c = k then ao else ao.map (·.add (k * size))) (n - k) (c - k)) ⟨by rw [List.length_drop, hl, Nat.sub_mul], _, _, rfl, by omega, by
    rcases hr with ⟨rfl, rfl, rfl⟩ | ⟨b, off, rfl, hr⟩
    · refine .inl ⟨by split <;> rfl, by omega, by omega⟩
    · by_cases hck : c = k
      · rw [if_pos hck]
        refine .inr ⟨b, off, rfl, ?_⟩
        intro j u hj
        rw [List.drop_eq_nil_of_le (by rw [hl]; exact Nat.mul_le_mul_right _ (by omega))] at hj
        simp at hj
      · rw [if_neg hck]
        refine .inr ⟨b, off + k * size, by simp [addA], ?_⟩
        intro j u hj
        rw [List.getElem?_drop] at hj
        rw [Nat.add_assoc]
        exact hr _ _ hj⟩
  refine wpList_plain hgd fun K hK => ?_
  unfold Oper.wp
  have hrun := run_slice_from (P := P) (w := w) ht hi hsize ao n c k hkn
  simp [execOp, ho, hs, hk, hrun, Result.andThen]
  exact hK _ _ this
theorem wpList_slice_to {P : Program} {w : World} {ops : Array Oper} {rest : List Oper} {o : Oper} {a : Act} {Q : Exit → Act → World → Prop} (hgd : o.guard = none) (t : TypeId) (x hi' : Operand)
    (ho : o.op = .slice t x none (some hi') none) (e : TypeId) (i : TypeInfo) (size : Nat) (ht : P.underlying t = some (.slice e)) (hi : P.info? e = some i) (hsize : i.size = size)
    (v : Value) (n : Nat) (xs : List Value) (hs : a.eval x = v) (hr : Row w size v n xs) (k : Nat) (hk : a.eval hi' = .int .i64 k) (hkn : k ≤ n)
    (h : ∀ v', Row w size v' k (xs.take (k * size)) → wpList P ops Q rest (a.put o.dst v') w) : wpList P ops Q (o :: rest) a w := by
  obtain ⟨hl, ao, c, rfl, hc, hr⟩ := hr
  have := h (.slice ao k c) ⟨by rw [List.length_take, hl, Nat.min_eq_left (Nat.mul_le_mul_right _ hkn)], _, _, rfl, by omega, by
    rcases hr with ⟨rfl, rfl, rfl⟩ | ⟨b, off, rfl, hr⟩
    · exact .inl ⟨rfl, rfl, by omega⟩
    · refine .inr ⟨b, off, rfl, ?_⟩
      intro j u hj
      refine hr _ _ ?_
      rw [List.getElem?_take] at hj
      split at hj
      · exact hj
      · cases hj⟩
  refine wpList_plain hgd fun K hK => ?_
  unfold Oper.wp
  have hrun := run_slice_to (P := P) (w := w) ht hi ao n c k (by omega)
  simp [execOp, ho, hs, hk, hrun, Result.andThen]
  exact hK _ _ this
theorem own_form {w : World} {base e size n : Nat} {v : Value} {xs : List Value} (h : w.ownsRow base e size v n xs) : ∃ ao c, v = .slice ao n c := by
  rcases h.2 with ⟨e, h⟩ | ⟨g, cap, cur, e, _⟩
  · exact ⟨none, 0, by rw [h]; exact e⟩
  · exact ⟨_, _, e⟩
/-- append(a, b...) where a is the call's own and b is any row. -/
theorem wpList_append_row {P : Program} {w : World} {ops : Array Oper} {rest : List Oper} {o : Oper} {a : Act} {Q : Exit → Act → World → Prop} (hgd : o.guard = none) (s x : Operand) (t : TypeId)
    (ho : o.op = .call { callee := .builtin .append, args := #[s, x], argTypes := #[t, t] })
    (base : Nat) (e : TypeId) (i : TypeInfo) (z : Value) (size bytes : Nat) (ht : P.underlying t = some (.slice e)) (hi : P.info? e = some i) (hz : i.zero = some z)
    (hsize : i.size = size) (hby : i.bytes = bytes) (hzs : z.cells.size = size) (hsz : 0 < size)
    (v : Value) (n : Nat) (xs : List Value) (hs : a.eval s = v) (hown : w.ownsRow base e size v n xs)
    (vx : Value) (m : Nat) (news : List Value) (hx : a.eval x = vx) (hsrc : Row w size vx m news) (h1 : ∀ y ∈ news, y.oneCell' = true)
    (h63 : n + m ≤ maxLen) (hbytes : (n + m) * bytes ≤ 140737488355328) (hbase : base ≤ w.heap.size)
    (h : ∀ ao cap w', w'.ownsRow base e size (.slice ao (n + m) cap) (n + m) (xs ++ news) → w.grownBy w' v.ownBlock → wpList P ops Q rest (a.put o.dst (.slice ao (n + m) cap)) w') : wpList P ops Q (o :: rest) a w := by
  obtain ⟨hl, xo, c, rfl, hcc, hsrc⟩ := hsrc
  rcases hsrc with ⟨rfl, rfl, rfl⟩ | ⟨b, off, rfl, hc⟩
  · have : news = [] := List.eq_nil_of_length_eq_zero (by omega)
    subst this
    refine wpList_append_own_none hgd s x t ho base e i size ht hi v n xs hs hown hx ?_
    obtain ⟨ao, cp, hv⟩ := own_form hown
    have := h ao cp w (by rw [List.append_nil, Nat.add_zero, ← hv]; exact hown) ⟨rfl, rfl, rfl, Nat.le_refl _, fun _ _ _ => rfl⟩
    rw [Nat.add_zero, ← hv] at this
    exact this
  · refine wpList_append_own w hgd s x t ho base e i z size bytes ht hi hz hsize hby hzs hsz v n xs hs hown ⟨b, off, none⟩ m c news hx hl (fun j u hj => by rw [addA]; exact hc j u hj) h1 h63 hbytes hbase ?_
    intro v' w' h2 h3 _
    obtain ⟨ao, cp, hv⟩ := own_form h2
    rw [hv]
    rw [hv] at h2
    exact h ao cp w' h2 h3
theorem Row.below {w w' : World} {size n : Nat} {v : Value} {xs : List Value} (h : Row w size v n xs) (hb : Below w.heap.size w w') : Row w' size v n xs := by
  obtain ⟨hl, ao, c, e, hc, h⟩ := h
  refine ⟨hl, ao, c, e, hc, ?_⟩
  rcases h with h | ⟨b, off, e, h⟩
  · exact .inl h
  · exact .inr ⟨b, off, e, fun j u hj => keepc hb (h j u hj)⟩
end Go.Proofs.Ytnaamkkjledllaa
