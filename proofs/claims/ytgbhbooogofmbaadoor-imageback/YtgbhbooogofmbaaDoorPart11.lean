/-
  Part 11 of the proof: 2 texts, one behind the other.
-/
import Derived.Test.YtgbhbooogofmbaaDoorPart10
namespace Go.Proofs.YtgbhbooogofmbaaDoor
open Go.RowKit
set_option linter.unusedSimpArgs false
set_option linter.unusedVariables false

set_option maxRecDepth 20000 in
set_option maxHeartbeats 8000000 in
theorem upTo_any17 (w0 : World) (SB : Nat) (ao : Option Addr) (cc : Nat) (b : List Nat) (k : Nat) (vm : Value) (X : World) (hS : SmV w0 SB (.slice ao b.length cc) b k vm X) (hT : Hf w0) (hv : RwX cB w0 (.slice ao b.length cc) b) (hl : b.length ≤ 140737480000000 / 4) (hx : ∀ y ∈ b, y < 256) (hk : k ≤ b.length + 1) (p : Nat) (hp : p ≤ b.length) :
    Calls Tryd.prog 44 #[.pointer (some ⟨SB, 0, none⟩), .int .i64 (p : Int)] X fun e X' => e = .returned (.int .u32 (uI (crS (b.take p)))) ∧ ∃ k' vm', k' ≤ b.length + 1 ∧ SmV w0 SB (.slice ao b.length cc) b k' vm' X' ∧ Fr7 SB vm X vm' X' := by
  obtain ⟨n, hn⟩ : ∃ n, n = p / 256 := ⟨_, rfl⟩
  have KM := markUpTo_any w0 SB ao cc b k vm X hS hT hv hl hx hk n (by omega)
  have HAf : Hid (∀ k' vm' Y, n < k' → SmV w0 SB (.slice ao b.length cc) b k' vm' Y → Calls Tryd.prog 49 #[.pointer (some ⟨SB, 0, none⟩), .int .i64 (n : Int), .int .i64 (p : Int)] Y fun e X' => e = .returned (.int .u32 (uI (crS (b.take p)))) ∧ Below Y.heap.size Y X') := hid13 (fun k' vm' Y h1 h2 => after_any17 w0 SB ao cc b k' vm' Y h2 hT hv (by omega) hx n p h1 (by omega) hp)
  generalize uI (crS (b.take p)) = res at *
  have wq : wrap64 ((p : Int) / 256) = (n : Int) := by unfold wrap64; omega
  have wq2 : IntKind.i64.wrap ((p : Int) / 256) = (n : Int) := by rw [IntKind.wrap_i64]; omega
  clear hS hT hv hl hx hk hp hn
  go_enter Tryd.func44, Tryd.ntmps44
  go_wp2_with fail
  refine KM.mono ?_
  rintro e X2 ⟨rfl, k', vm', h1, h2, h3, h4⟩
  have KA := HAf.out k' vm' X2 h1 h3
  have HS := hid13 h3
  have HF := hid13 h4
  have HK := hid13 h2
  clear KM HAf h1 h2 h3 h4
  go_wp2_with fail
  refine KA.mono ?_
  rintro e X3 ⟨rfl, hb⟩
  have HS3 := hid13 (HS.out.below hb)
  have HF3 := hid13 (HF.out.trans (Fr7.below hb))
  clear KA hb
  go_wp2
  exact bodyPost_ret (v := .int .u32 res) (by simp [results, Tryd.results44, go_sem]) rfl (by first | exact ⟨rfl, k', vm', HK.out, HS3.out, HF3.out⟩ | exact ⟨rfl, k', HK.out, vm', HS3.out, HF3.out⟩)
theorem join_back (l m : List Nat) : hbN (8 * m.length) (crS l) ^^^ crS (l ++ m) = crS m := by
  rw [crS_join]
  generalize hbN (8 * m.length) (crS l) = x
  generalize crS m = y
  rw [← BitVec.xor_assoc, BitVec.xor_self, BitVec.zero_xor]
theorem mid_back (b : List Nat) (p q : Nat) (hp : p ≤ q) (hq : q ≤ b.length) : hbN (8 * (q - p)) (crS (b.take p)) ^^^ crS (b.take q) = crS ((b.drop p).take (q - p)) := by
  have hj := join_back (b.take p) ((b.drop p).take (q - p))
  have hml : ((b.drop p).take (q - p)).length = q - p := by rw [List.length_take, List.length_drop]; omega
  rw [hml, ← List.take_add, show p + (q - p) = q by omega] at hj
  exact hj
theorem joined_mid (b : List Nat) (p q : Nat) (hp : p ≤ q) (hq : q ≤ b.length) (hl : b.length ≤ 140737480000000) (Y : World) : Calls Tryd.prog 43 #[.int .u32 (uI (crS (b.take p))), .int .u32 (uI (crS (b.take q))), .int .i64 ((q : Int) - (p : Int))] Y fun e w' => e = .returned (.int .u32 (uI (crS ((b.drop p).take (q - p))))) ∧ w' = Y := by
  have h := joined_any (crS (b.take p)) (crS (b.take q)) ((q : Int) - (p : Int)) (by omega) (by omega) Y
  have e : ((q : Int) - (p : Int)).toNat = q - p := by omega
  rw [e, mid_back b p q hp hq] at h
  exact h
set_option maxRecDepth 20000 in
set_option maxHeartbeats 8000000 in
theorem between_any17 (w0 : World) (SB : Nat) (ao : Option Addr) (cc : Nat) (b : List Nat) (k : Nat) (vm : Value) (X : World) (hS : SmV w0 SB (.slice ao b.length cc) b k vm X) (hT : Hf w0) (hv : RwX cB w0 (.slice ao b.length cc) b) (hl : b.length ≤ 140737480000000 / 4) (hx : ∀ y ∈ b, y < 256) (hk : k ≤ b.length + 1) (p q : Nat) (hp : p ≤ q) (hq : q ≤ b.length) :
    Calls Tryd.prog 34 #[.pointer (some ⟨SB, 0, none⟩), .int .i64 (p : Int), .int .i64 (q : Int)] X fun e X' => e = .returned (.int .u32 (uI (crS ((b.drop p).take (q - p))))) ∧ ∃ k' vm', k' ≤ b.length + 1 ∧ SmV w0 SB (.slice ao b.length cc) b k' vm' X' ∧ Fr7 SB vm X vm' X' := by
  have K1 := upTo_any17 w0 SB ao cc b k vm X hS hT hv hl hx hk p (by omega)
  have HK2 : Hid (∀ k' vm' Y, k' ≤ b.length + 1 → SmV w0 SB (.slice ao b.length cc) b k' vm' Y → Calls Tryd.prog 44 #[.pointer (some ⟨SB, 0, none⟩), .int .i64 (q : Int)] Y fun e X' => e = .returned (.int .u32 (uI (crS (b.take q)))) ∧ ∃ k'' vm'', k'' ≤ b.length + 1 ∧ SmV w0 SB (.slice ao b.length cc) b k'' vm'' X' ∧ Fr7 SB vm' Y vm'' X') := hid13 (fun k' vm' Y h1 h2 => upTo_any17 w0 SB ao cc b k' vm' Y h2 hT hv hl hx h1 q hq)
  have HJ := hid13 (joined_mid b p q hp hq (by omega))
  obtain ⟨d, hd⟩ : ∃ d : Int, d = (q : Int) - (p : Int) := ⟨_, rfl⟩
  have wq : (q : Int) - (p : Int) = d := hd.symm
  have wd : wrap64 d = d := by unfold wrap64; omega
  rw [← hd] at HJ
  clear hd
  generalize uI (crS (b.take p)) = sp at *
  generalize uI (crS (b.take q)) = sq at *
  generalize uI (crS ((b.drop p).take (q - p))) = res at *
  clear hS hT hv hl hx hk hp hq
  go_enter Tryd.func34, Tryd.ntmps34
  go_wp2_with fail
  refine K1.mono ?_
  rintro e X2 ⟨rfl, k', vm', h1, h2, h3⟩
  have K2 := HK2.out k' vm' X2 h1 h2
  have HF2 := hid13 h3
  clear K1 HK2 h1 h2 h3
  go_wp2_with fail
  refine K2.mono ?_
  rintro e X3 ⟨rfl, k'', vm'', h1, h2, h3⟩
  have HS3 := hid13 h2
  have HF3 := hid13 (HF2.out.trans h3)
  have HK3 := hid13 h1
  clear K2 h1 h2 h3 HF2
  go_wp2_with fail
  refine (HJ.out X3).mono ?_
  rintro e X4 ⟨rfl, rfl⟩
  go_wp2
  exact bodyPost_ret (v := .int .u32 res) (by simp [results, Tryd.results34, go_sem]) rfl (by first | exact ⟨rfl, k'', vm'', HK3.out, HS3.out, HF3.out⟩ | exact ⟨rfl, k'', HK3.out, vm'', HS3.out, HF3.out⟩)
end Go.Proofs.YtgbhbooogofmbaaDoor
namespace Go.Proofs.YtgbhbooogofmbaaDoor
open Go.RowKit
set_option linter.unusedSimpArgs false
set_option linter.unusedVariables false

def FdS (l : List Nat) (n : Nat) (t : Bool) : Prop := (t = true ∧ n < l.length ∧ ofE (l.drop n) = 0 ∧ ∀ a, a < n → ofE (l.drop a) ≠ 0) ∨ (t = false ∧ n = 0 ∧ ∀ a, a < l.length → ofE (l.drop a) ≠ 0)
def RF (w : World) (VL : Value) (l : List Nat) (RB : Nat) (cs : List Value) (X : World) : Prop := ∃ k vm, k ≤ l.length + 1 ∧ SmV w w.heap.size VL l k vm X ∧ (∀ j u, cs[j]? = some u → X.cell? ⟨RB, j, none⟩ = some u) ∧ RB ≠ w.heap.size ∧ ∀ z, vm.ownBlock = some z → z ≠ RB
theorem RF.below {w : World} {VL : Value} {l : List Nat} {RB : Nat} {cs : List Value} {X X' : World} (h : RF w VL l RB cs X) (hb : Below X.heap.size X X') : RF w VL l RB cs X' := by
  obtain ⟨k, vm, h1, h2, h3, h4, h5⟩ := h
  exact ⟨k, vm, h1, h2.below hb, fun j u hj => keepc hb (h3 j u hj), h4, h5⟩
theorem RF.lo {w : World} {VL : Value} {l : List Nat} {RB : Nat} {cs : List Value} {X : World} (h : RF w VL l RB cs X) : Below w.heap.size w X := by
  obtain ⟨k, vm, h1, h2, -⟩ := h
  exact h2.lo
def FdQ (l : List Nat) (w : World) (e : Ending) (w' : World) : Prop := ∃ n t, e = .returned (.tuple #[.int .i64 ((n : Nat) : Int), .bool t]) ∧ FdS l n t ∧ Below w.heap.size w w'
theorem fdq_mk {l : List Nat} {w w' : World} (n : Nat) (t : Bool) (h : FdS l n t) (hb : Below w.heap.size w w') : FdQ l w (.returned (.tuple #[.int .i64 ((n : Nat) : Int), .bool t])) w' := ⟨n, t, rfl, h, hb⟩
set_option maxRecDepth 20000 in
set_option maxHeartbeats 16000000 in
theorem find_any17 (v : Value) (l : List Nat) (w : World) (hv : RwX cB w v l) (hl : l.length ≤ 140737480000000 / 4) (hx : ∀ b ∈ l, b < 256) (hT : Hf w) :
    Calls Tryd.prog 14 #[v] w fun e w' => FdQ l w e w' := by
  obtain ⟨i0, hi, hz0, hz1, hz2⟩ := info13 Tryd.infoB13
  obtain ⟨ao, cc, hvf, hcc, -⟩ := id hv
  subst hvf
  have HV := hid13 hv
  have HX := hid13 hx
  have HL := hid13 hl
  have HT := hid13 hT
  have HCc := hid13 hcc
  have HS0 : Hid (SmV w w.heap.size (.slice ao l.length cc) l 0 (.slice none 0 0) (w.alloc (.cells #[.slice ao l.length cc, .slice none 0 0] 66))) := ⟨bl1 w _, Nat.le_refl _, by simp [go_sem], by simp [go_sem], by simp [go_sem], World.ownsRow_nil _ _ _ _⟩
  clear hv hx hl hT hcc
  go_enter Tryd.func14, Tryd.ntmps14
  go_wp2_with fail
  go_loopg [12] l.length (fun g t12 wr => ∃ (a k : Nat) (vm : Value), t12 = .int .i64 (a : Int) ∧ a + g = l.length ∧ Hid (SmV w w.heap.size (.slice ao l.length cc) l k vm wr) ∧ Hid (k ≤ l.length + 1) ∧ Hid (∀ a', a' < a → ofE (l.drop a') ≠ 0))
  case atStart => exact ⟨0, 0, _, rfl, by omega, HS0, hid13 (by omega), hid13 (fun a' h => by omega)⟩
  case round =>
    obtain ⟨a, k, vm, rfl, hag, HSk, HKk, HNo⟩ := hrel
    by_cases hlt : a < l.length
    rotate_left 1
    · have hge : ¬ (a : Int) < (l.length : Int) := by omega
      have HFd : Hid (FdS l 0 false) := hid13 (.inr ⟨rfl, rfl, fun a' h => HNo.out a' (by omega)⟩)
      have HB := hid13 HSk.out.lo
      clear hlt hag
      go_wp2
      exact bodyPost_ret (v := .tuple #[.int .i64 0, .bool false]) (by simp [results, Tryd.results14, go_sem]) rfl (fdq_mk 0 false HFd.out HB.out)
    have hlt' : (a : Int) < (l.length : Int) := by omega
    have hle : (a : Int) ≤ (l.length : Int) := by omega
    have hrl : (l.drop a).length = l.length - a := List.length_drop ..
    have hs := fun X => run_slice_from (P := Tryd.prog) (w := X) Tryd.underlying24 hi hz1 ao l.length cc a (by omega)
    have hvr := fun X (hb : Below w.heap.size w X) => rwx_from (HV.out.below hb) (k := a) (by omega)
    rw [← hrl] at hs hvr
    have hxr : ∀ b ∈ l.drop a, b < 256 := fun b hb => HX.out b (List.mem_of_mem_drop hb)
    have HD : Hid (∀ m, (l.drop a).drop m = l.drop (a + m)) := hid13 (fun m => List.drop_drop ..)
    have HRl : Hid ((l.drop a).length = l.length - a) := hrl
    obtain ⟨r, hr⟩ : ∃ r, r = l.drop a := ⟨_, rfl⟩
    rw [← hr] at hs hvr hxr HD HRl
    have HR := hid13 hr
    generalize (if cc = a then ao else ao.map (·.add (a * 1))) = so at *
    generalize cc - a = sc at *
    have hlr : r.length ≤ 140737480000000 / 4 := by have := HRl.out; have := HL.out; omega
    have K5 := readerOf_any (.slice so r.length sc) r wr (hvr wr HSk.out.lo) (by omega) hxr
    have wa1 : wrap64 ((a : Int) + 1) = ((a + 1 : Nat) : Int) := by unfold wrap64; have := HL.out; omega
    have HMs : Hid (a + 1 + (l.length - (a + 1)) = l.length ∧ l.length - (a + 1) < gk) := ⟨by omega, by omega⟩
    by_cases h0 : rdE r = 0
    rotate_left 1
    · have hrv : rdV (.slice so r.length sc) r = .agg #[.int .i64 0, .int .i64 0, .int .i64 0, .int .i64 0, .slice none 0 0] := by unfold rdV; rw [if_neg h0]
      rw [hrv] at K5
      have HNo2 : Hid (∀ a', a' < a + 1 → ofE (l.drop a') ≠ 0) := hid13 (fun a' h => by
        rcases Nat.lt_succ_iff_lt_or_eq.1 h with q | q
        · exact HNo.out a' q
        · subst q; rw [← HR.out]; unfold ofE; rw [if_pos h0]; exact h0)
      generalize rdE r = E at *
      have hn : (E == 0) = false := by simpa using h0
      clear hrv h0 hr hrl hag hlt HNo hvr hxr hlr
      go_wp2_with fail
      refine K5.mono ?_
      rintro e w5 ⟨rfl, hb5⟩
      have q6 := bl1 w5 (.cells #[.int .i64 0, .int .i64 0, .int .i64 0, .int .i64 0, .slice none 0 0] 57)
      have HS6 := hid13 ((HSk.out.below hb5).below q6)
      clear K5 hb5 q6 HSk hs
      go_wp2_with fail
      refine qw_region (C := fun X => SmV w w.heap.size (.slice ao l.length cc) l k vm X) (by kernel_rfl) (by kernel_rfl) (HS6.out.below (below_drewN (Below.refl _ _) 1)) ?_
      refine qw_run (v := .int .i64 E) (by rfl) ?_ ?_
      · (intro w9 hC; clear hC; go_simp; first | done | (simp; done) | (simp [*]; done) | omega | (simp; omega) | (rw [IntKind.wrap_i64]; omega) | (intro hx; omega) | rfl)
      simp only [Act.put, List.setIfInBounds_toArray, List.set_cons_zero, List.set_cons_succ]
      refine qw_run (v := .bool false) (by rfl) ?_ ?_
      · (intro w9 hC; clear hC; go_simp; first | done | (simp; done) | (simp [*]; done) | omega | (simp; omega) | (rw [IntKind.wrap_i64]; omega) | (intro hx; omega) | rfl)
      simp only [Act.put, List.setIfInBounds_toArray, List.set_cons_zero, List.set_cons_succ]
      refine qw_run (v := .bool false) (by rfl) ?_ ?_
      · (intro w9 hC; clear hC; go_simp; first | done | (simp; done) | (simp [*]; done) | omega | (simp; omega) | (rw [IntKind.wrap_i64]; omega) | (intro hx; omega) | rfl)
      simp only [Act.put, List.setIfInBounds_toArray, List.set_cons_zero, List.set_cons_succ]
      refine qw_skip (by rfl) ?_
      simp only [Act.put, List.setIfInBounds_toArray, List.set_cons_zero, List.set_cons_succ]
      refine qw_skip (by rfl) ?_
      simp only [Act.put, List.setIfInBounds_toArray, List.set_cons_zero, List.set_cons_succ]
      refine qw_skip (by rfl) ?_
      simp only [Act.put, List.setIfInBounds_toArray, List.set_cons_zero, List.set_cons_succ]
      refine qw_skip (by rfl) ?_
      simp only [Act.put, List.setIfInBounds_toArray, List.set_cons_zero, List.set_cons_succ]
      refine qw_skip (by rfl) ?_
      simp only [Act.put, List.setIfInBounds_toArray, List.set_cons_zero, List.set_cons_succ]
      refine qw_skip (by rfl) ?_
      simp only [Act.put, List.setIfInBounds_toArray, List.set_cons_zero, List.set_cons_succ]
      refine qw_skip (by rfl) ?_
      simp only [Act.put, List.setIfInBounds_toArray, List.set_cons_zero, List.set_cons_succ]
      refine qw_skip (by rfl) ?_
      simp only [Act.put, List.setIfInBounds_toArray, List.set_cons_zero, List.set_cons_succ]
      refine qw_skip (by rfl) ?_
      simp only [Act.put, List.setIfInBounds_toArray, List.set_cons_zero, List.set_cons_succ]
      refine qw_skip (by rfl) ?_
      simp only [Act.put, List.setIfInBounds_toArray, List.set_cons_zero, List.set_cons_succ]
      refine qw_run (v := .bool false) (by rfl) ?_ ?_
      · (intro w9 hC; clear hC; go_simp; first | done | (simp; done) | (simp [*]; done) | omega | (simp; omega) | (rw [IntKind.wrap_i64]; omega) | (intro hx; omega) | rfl)
      simp only [Act.put, List.setIfInBounds_toArray, List.set_cons_zero, List.set_cons_succ]
      refine qw_nil ?_
      intro w8 hX
      have HS8 := hid13 hX
      clear hX HS6
      go_wp2
      go_roundg (l.length - (a + 1))
      case measure => exact HMs.out.2
      case rel => exact ⟨a + 1, k, vm, by first | rfl | (rw [wa1]), HMs.out.1, HS8, HKk, HNo2⟩
    obtain ⟨g1, g2, g3, g4, g5⟩ := rd_zero h0
    obtain ⟨bb, off, c, hvf, hcc2, hcell⟩ := rwx_at (hvr w (Below.refl _ _)) g1
    injection hvf with hv1 hv2 hv3
    subst hv1 hv3
    have hrv : rdV (.slice (some ⟨bb, off, none⟩) r.length sc) r = .agg #[.int .i64 ((rW r : Nat) : Int), .int .i64 ((rD r : Nat) : Int), .int .i64 ((rS r : Nat) : Int), .int .i64 ((rN r : Nat) : Int), .slice (some ⟨bb, off, none⟩) r.length sc] := by unfold rdV; rw [if_pos h0]
    rw [hrv, h0] at K5
    have HSum : Hid (∀ X, Below w.heap.size w X → Calls Tryd.prog 30 #[.agg #[.int .i64 ((rW r : Nat) : Int), .int .i64 ((rD r : Nat) : Int), .int .i64 ((rS r : Nat) : Int), .int .i64 ((rN r : Nat) : Int), .slice (some ⟨bb, off, none⟩) r.length sc], .int .u32 (uI (crS (rC r)))] X fun e w' => e = .returned (.bool (rOk r)) ∧ Below X.heap.size X w') := hid13 (fun X hB => by
      have := sumIsOf_any ((rW r : Nat) : Int) ((rD r : Nat) : Int) ((rS r : Nat) : Int) (rN r) bb off sc r (crS (rC r)) g4 hcc2 g1 (by omega) hxr X (fun j x hj => keepc hB (hcell j x hj)) (HT.out.below hB) rfl
      rw [smB_ok h0] at this
      exact this)
    have hCe : (l.drop (a + 16)).take (a + (16 + 4 * rN r) - (a + 16)) = rC r := by
      rw [← HD.out, show a + (16 + 4 * rN r) - (a + 16) = 4 * rN r by omega]; rfl
    have HBt : Hid (∀ k vm X, k ≤ l.length + 1 → SmV w w.heap.size (.slice ao l.length cc) l k vm X → Calls Tryd.prog 34 #[.pointer (some ⟨w.heap.size, 0, none⟩), .int .i64 ((a : Int) + 16), .int .i64 ((a : Int) + (16 + ((rN r : Nat) : Int) * 4))] X fun e X' => e = .returned (.int .u32 (uI (crS (rC r)))) ∧ ∃ k' vm', k' ≤ l.length + 1 ∧ SmV w w.heap.size (.slice ao l.length cc) l k' vm' X' ∧ Fr7 w.heap.size vm X vm' X') := hid13 (fun k vm X hk hS => by
      have h := between_any17 w w.heap.size ao cc l k vm X hS HT.out HV.out HL.out HX.out hk (a + 16) (a + (16 + 4 * rN r)) (by omega) (by have := HRl.out; omega)
      rw [hCe, show ((a + 16 : Nat) : Int) = (a : Int) + 16 by push_cast; rfl, show ((a + (16 + 4 * rN r) : Nat) : Int) = (a : Int) + (16 + ((rN r : Nat) : Int) * 4) by push_cast; omega] at h
      exact h)
    have HZ : Hid (∀ X, Calls Tryd.prog 35 #[.agg #[.int .i64 ((rW r : Nat) : Int), .int .i64 ((rD r : Nat) : Int), .int .i64 ((rS r : Nat) : Int), .int .i64 ((rN r : Nat) : Int)]] X fun e w' => e = .returned (.int .i64 (16 + ((rN r : Nat) : Int) * 4)) ∧ Below X.heap.size X w') := hid13 (fun X => hsize_any _ _ _ _ (by omega) (by omega) X)
    have hx3 : ((rN r : Nat) : Int) ≤ 1048572 := by omega
    have hx30 : 0 ≤ ((rN r : Nat) : Int) := by omega
    have HOf : Hid (ofE r = if rOk r then 0 else 23) := by show _ = _; unfold ofE; rw [if_neg (fun q => q h0)]
    generalize ((rW r : Nat) : Int) = x0 at *
    generalize ((rD r : Nat) : Int) = x1 at *
    generalize ((rS r : Nat) : Int) = x2 at *
    generalize ((rN r : Nat) : Int) = x3 at *
    generalize uI (crS (rC r)) = sm at *
    generalize hres : rOk r = res at *
    obtain ⟨p16, hp16⟩ : ∃ p : Int, p = (a : Int) + 16 := ⟨_, rfl⟩
    obtain ⟨sz, hsz⟩ : ∃ s : Int, s = 16 + x3 * 4 := ⟨_, rfl⟩
    obtain ⟨pq, hpq⟩ : ∃ s : Int, s = (a : Int) + sz := ⟨_, rfl⟩
    rw [← hsz] at HZ HBt
    rw [← hpq, ← hp16] at HBt
    have m16 : IntKind.i64.wrap ((a : Int) + 16) = p16 := by rw [IntKind.wrap_i64]; have := HL.out; omega
    have mpq : IntKind.i64.wrap ((a : Int) + sz) = pq := by rw [IntKind.wrap_i64]; have := HL.out; omega
    have HFd : Hid (res = true → FdS l a true) := hid13 (fun q => .inl ⟨rfl, hlt, by rw [← hr, HOf.out, q]; rfl, fun a' h => HNo.out a' h⟩)
    have HNo2 : Hid (res = false → ∀ a', a' < a + 1 → ofE (l.drop a') ≠ 0) := hid13 (fun q a' h => by
      rcases Nat.lt_succ_iff_lt_or_eq.1 h with q2 | q2
      · exact HNo.out a' q2
      · subst q2; rw [← hr, HOf.out, q]; decide)
    clear hres hrv h0 hr hrl hag hlt HNo hvr hxr hlr hcell hcc2 g1 g2 g3 g4 g5 hCe hsz hpq hp16 hx3 hx30 HOf HRl HD HR hv2
    go_wp2_with fail
    refine K5.mono ?_
    rintro e w5 ⟨rfl, hb5⟩
    have q6 := bl1 w5 (.cells #[.int .i64 x0, .int .i64 x1, .int .i64 x2, .int .i64 x3, .slice (some ⟨bb, off, none⟩) r.length sc] 57)
    have hx6 := bx_new (t := 57) (Below.refl w5.heap.size w5) #[.int .i64 x0, .int .i64 x1, .int .i64 x2, .int .i64 x3, .slice (some ⟨bb, off, none⟩) r.length sc]
    have HF6 : Hid (RF w (.slice ao l.length cc) l w5.heap.size [.int .i64 x0, .int .i64 x1, .int .i64 x2, .int .i64 x3, .slice (some ⟨bb, off, none⟩) r.length sc] (w5.alloc (.cells #[.int .i64 x0, .int .i64 x1, .int .i64 x2, .int .i64 x3, .slice (some ⟨bb, off, none⟩) r.length sc] 57)).drew) := by
      have hS5 := HSk.out.below hb5
      refine ⟨k, vm, HKk.out, (hS5.below q6).below (below_drewN (Below.refl _ _) 1), hx6.2, by have := cell_in hS5.m; omega, fun z hz => ?_⟩
      have := (hS5.o.lt z hz).2
      omega
    clear K5 hb5 q6 hx6 HSk hs HKk
    go_wp2_with fail
    refine gh_regionG (γ := Unit) (qpOk 14 14 (by decide) (fun N => by kernel_rfl) (by kernel_rfl) (by kernel_rfl) (by kernel_rfl) (by kernel_rfl)) [(2, 24, true)] (by kernel_rfl) (by kernel_rfl) [some 22, some 23, some 24, some 25, some 26, some 27, some 28, some 29, some 30, some 31, some 32, some 33, some 34, some 35] (fun g => [.int .i64 0, .bool true, .bool true, .agg #[.int .i64 x0, .int .i64 x1, .int .i64 x2, .int .i64 x3, .slice (some ⟨bb, off, none⟩) r.length sc], .int .i64 (a : Int), .int .i64 p16, .int .i64 (a : Int), .pointer (some ⟨w5.heap.size, 0, none⟩), .agg #[.int .i64 x0, .int .i64 x1, .int .i64 x2, .int .i64 x3], .int .i64 sz, .int .i64 pq, .int .u32 sm, .bool res, .bool res]) (by kernel_rfl) (by simp) (by intro g x hx; simp only [List.mem_cons, List.mem_nil_iff, or_false] at hx; subst hx; (simp only [putAll, Act.put, List.setIfInBounds_toArray, List.set_cons_zero, List.set_cons_succ]; rfl)) (fun lp g X => RF w (.slice ao l.length cc) l w5.heap.size [.int .i64 x0, .int .i64 x1, .int .i64 x2, .int .i64 x3, .slice (some ⟨bb, off, none⟩) r.length sc] X) () HF6.out ?step6 ?fin6
    case step6 =>
      intro q o lp g w' a' ho hsz hun hdep hR hS K Q' hK
      have hfl : ∀ j, j ≠ q → (lp.setIfInBounds q true).getD j false = lp.getD j false := fun j hj => by rw [Array.getD_eq_getD_getElem?, Array.getD_eq_getD_getElem?, Array.getElem?_setIfInBounds_ne (by omega)]
      have hq : q < 14 := (List.getElem?_eq_some_iff.mp ho).1
      match q, ho, hun, hdep, hK, hfl, hq with
      | 0, ho, hun, hdep, hK, hfl, _ =>
        obtain rfl := Option.some.inj ho
        have o7 : a'.tmps[7]? = some (.int .i64 0) := (hS.old14 7 (by simp)).trans rfl
        have hK' := hK g w' (fun _ _ _ _ _ _ => rfl) (by exact hR) (.int .i64 0) (by simp only [valO, Option.bind_some]; (try simp only [putAll, Act.put, List.setIfInBounds_toArray, List.set_cons_zero, List.set_cons_succ]); (try rfl))
        clear hS hdep hR
        refine gh_quiet14 (v := .int .i64 0) ?_ ?_
        · (simp only [execOp, Act.eval, o7]; go_simp; first | done | (simp; done) | (simp [*]; done) | omega | (rw [IntKind.wrap_i64]; omega))
        · exact hK'
      | 1, ho, hun, hdep, hK, hfl, _ =>
        obtain rfl := Option.some.inj ho
        have d0 : lp.getD 0 false = true := hdep { on := 0, ground := .data } (by simp) rfl
        have e22 : a'.tmps[22]? = some (.int .i64 0) := (hS.don 0 _ 22 rfl d0 rfl).trans (by simp only [putAll, Act.put, List.setIfInBounds_toArray, List.set_cons_zero, List.set_cons_succ]; rfl)
        have hK' := hK g w' (fun _ _ _ _ _ _ => rfl) (by exact hR) (.bool true) (by simp only [valO, Option.bind_some]; (try simp only [putAll, Act.put, List.setIfInBounds_toArray, List.set_cons_zero, List.set_cons_succ]); (try rfl))
        clear hS hdep hR
        refine gh_quiet14 (v := .bool true) ?_ ?_
        · (simp only [execOp, Act.eval, e22]; go_simp; first | done | (simp; done) | (simp [*]; done) | omega | (rw [IntKind.wrap_i64]; omega))
        · exact hK'
      | 2, ho, hun, hdep, hK, hfl, _ =>
        obtain rfl := Option.some.inj ho
        have d1 : lp.getD 1 false = true := hdep { on := 1, ground := .data } (by simp) rfl
        have e23 : a'.tmps[23]? = some (.bool true) := (hS.don 1 _ 23 rfl d1 rfl).trans (by simp only [putAll, Act.put, List.setIfInBounds_toArray, List.set_cons_zero, List.set_cons_succ]; rfl)
        have hK' := hK g w' (fun _ _ _ _ _ _ => rfl) (by exact hR) (.bool true) (by simp only [valO, Option.bind_some]; (try simp only [putAll, Act.put, List.setIfInBounds_toArray, List.set_cons_zero, List.set_cons_succ]); (try rfl))
        clear hS hdep hR
        refine gh_quiet14 (v := .bool true) ?_ ?_
        · (simp only [execOp, Act.eval, e23]; go_simp; first | done | (simp; done) | (simp [*]; done) | omega | (rw [IntKind.wrap_i64]; omega))
        · exact hK'
      | 3, ho, hun, hdep, hK, hfl, _ =>
        obtain rfl := Option.some.inj ho
        have o6 : a'.tmps[6]? = some (.pointer (some ⟨w5.heap.size, 0, none⟩)) := (hS.old14 6 (by simp)).trans rfl
        have hRc : ∀ j u, [.int .i64 x0, .int .i64 x1, .int .i64 x2, .int .i64 x3, .slice (some ⟨bb, off, none⟩) r.length sc][j]? = some u → w'.cell? ⟨w5.heap.size, j, none⟩ = some u := (by obtain ⟨_, _, _, _, h, _⟩ := hR; exact h)
        have k0 := hRc 0 _ rfl
        have k1 := hRc 1 _ rfl
        have k2 := hRc 2 _ rfl
        have k3 := hRc 3 _ rfl
        have k4 := hRc 4 _ rfl
        clear hRc
        have hK' := hK g w' (fun _ _ _ _ _ _ => rfl) (by exact hR) (.agg #[.int .i64 x0, .int .i64 x1, .int .i64 x2, .int .i64 x3, .slice (some ⟨bb, off, none⟩) r.length sc]) (by simp only [valO, Option.bind_some]; (try simp only [putAll, Act.put, List.setIfInBounds_toArray, List.set_cons_zero, List.set_cons_succ]); (try rfl))
        clear hS hdep hR
        refine gh_quiet14 (v := .agg #[.int .i64 x0, .int .i64 x1, .int .i64 x2, .int .i64 x3, .slice (some ⟨bb, off, none⟩) r.length sc]) ?_ ?_
        · (simp only [execOp, Act.eval, o6]; go_simp; first | done | (simp; done) | (simp [*]; done) | omega | (rw [IntKind.wrap_i64]; omega))
        · exact hK'
      | 4, ho, hun, hdep, hK, hfl, _ =>
        obtain rfl := Option.some.inj ho
        have o5 : a'.tmps[5]? = some (.int .i64 (a : Int)) := (hS.old14 5 (by simp)).trans rfl
        have hK' := hK g w' (fun _ _ _ _ _ _ => rfl) (by exact hR) (.int .i64 (a : Int)) (by simp only [valO, Option.bind_some]; (try simp only [putAll, Act.put, List.setIfInBounds_toArray, List.set_cons_zero, List.set_cons_succ]); (try rfl))
        clear hS hdep hR
        refine gh_quiet14 (v := .int .i64 (a : Int)) ?_ ?_
        · (simp only [execOp, Act.eval, o5]; go_simp; first | done | (simp; done) | (simp [*]; done) | omega | (rw [IntKind.wrap_i64]; omega))
        · exact hK'
      | 5, ho, hun, hdep, hK, hfl, _ =>
        obtain rfl := Option.some.inj ho
        have d4 : lp.getD 4 false = true := hdep { on := 4, ground := .data } (by simp) rfl
        have e26 : a'.tmps[26]? = some (.int .i64 (a : Int)) := (hS.don 4 _ 26 rfl d4 rfl).trans (by simp only [putAll, Act.put, List.setIfInBounds_toArray, List.set_cons_zero, List.set_cons_succ]; rfl)
        have hK' := hK g w' (fun _ _ _ _ _ _ => rfl) (by exact hR) (.int .i64 p16) (by simp only [valO, Option.bind_some]; (try simp only [putAll, Act.put, List.setIfInBounds_toArray, List.set_cons_zero, List.set_cons_succ]); (try rfl))
        clear hS hdep hR
        refine gh_quiet14 (v := .int .i64 p16) ?_ ?_
        · (simp only [execOp, Act.eval, e26]; go_simp; first | done | (simp; done) | (simp [*]; done) | omega | (rw [IntKind.wrap_i64]; omega))
        · exact hK'
      | 6, ho, hun, hdep, hK, hfl, _ =>
        obtain rfl := Option.some.inj ho
        have o5 : a'.tmps[5]? = some (.int .i64 (a : Int)) := (hS.old14 5 (by simp)).trans rfl
        have hK' := hK g w' (fun _ _ _ _ _ _ => rfl) (by exact hR) (.int .i64 (a : Int)) (by simp only [valO, Option.bind_some]; (try simp only [putAll, Act.put, List.setIfInBounds_toArray, List.set_cons_zero, List.set_cons_succ]); (try rfl))
        clear hS hdep hR
        refine gh_quiet14 (v := .int .i64 (a : Int)) ?_ ?_
        · (simp only [execOp, Act.eval, o5]; go_simp; first | done | (simp; done) | (simp [*]; done) | omega | (rw [IntKind.wrap_i64]; omega))
        · exact hK'
      | 7, ho, hun, hdep, hK, hfl, _ =>
        obtain rfl := Option.some.inj ho
        have o6 : a'.tmps[6]? = some (.pointer (some ⟨w5.heap.size, 0, none⟩)) := (hS.old14 6 (by simp)).trans rfl
        have hK' := hK g w' (fun _ _ _ _ _ _ => rfl) (by exact hR) (.pointer (some ⟨w5.heap.size, 0, none⟩)) (by simp only [valO, Option.bind_some]; (try simp only [putAll, Act.put, List.setIfInBounds_toArray, List.set_cons_zero, List.set_cons_succ]); (try rfl))
        clear hS hdep hR
        refine gh_quiet14 (v := .pointer (some ⟨w5.heap.size, 0, none⟩)) ?_ ?_
        · (simp only [execOp, Act.eval, o6]; go_simp; first | done | (simp; done) | (simp [*]; done) | omega | (rw [IntKind.wrap_i64]; omega))
        · exact hK'
      | 8, ho, hun, hdep, hK, hfl, _ =>
        obtain rfl := Option.some.inj ho
        have d7 : lp.getD 7 false = true := hdep { on := 7, ground := .data } (by simp) rfl
        have e29 : a'.tmps[29]? = some (.pointer (some ⟨w5.heap.size, 0, none⟩)) := (hS.don 7 _ 29 rfl d7 rfl).trans (by simp only [putAll, Act.put, List.setIfInBounds_toArray, List.set_cons_zero, List.set_cons_succ]; rfl)
        have hRc : ∀ j u, [.int .i64 x0, .int .i64 x1, .int .i64 x2, .int .i64 x3, .slice (some ⟨bb, off, none⟩) r.length sc][j]? = some u → w'.cell? ⟨w5.heap.size, j, none⟩ = some u := (by obtain ⟨_, _, _, _, h, _⟩ := hR; exact h)
        have k0 := hRc 0 _ rfl
        have k1 := hRc 1 _ rfl
        have k2 := hRc 2 _ rfl
        have k3 := hRc 3 _ rfl
        clear hRc
        have hK' := hK g w' (fun _ _ _ _ _ _ => rfl) (by exact hR) (.agg #[.int .i64 x0, .int .i64 x1, .int .i64 x2, .int .i64 x3]) (by simp only [valO, Option.bind_some]; (try simp only [putAll, Act.put, List.setIfInBounds_toArray, List.set_cons_zero, List.set_cons_succ]); (try rfl))
        clear hS hdep hR
        refine gh_quiet14 (v := .agg #[.int .i64 x0, .int .i64 x1, .int .i64 x2, .int .i64 x3]) ?_ ?_
        · (simp only [execOp, Act.eval, e29]; go_simp; first | done | (simp; done) | (simp [*]; done) | omega | (rw [IntKind.wrap_i64]; omega))
        · exact hK'
      | 9, ho, hun, hdep, hK, hfl, _ =>
        obtain rfl := Option.some.inj ho
        have d8 : lp.getD 8 false = true := hdep { on := 8, ground := .data } (by simp) rfl
        have e30 : a'.tmps[30]? = some (.agg #[.int .i64 x0, .int .i64 x1, .int .i64 x2, .int .i64 x3]) := (hS.don 8 _ 30 rfl d8 rfl).trans (by simp only [putAll, Act.put, List.setIfInBounds_toArray, List.set_cons_zero, List.set_cons_succ]; rfl)
        have KC := HZ.out w'
        clear hdep
        unfold Oper.wp
        simp only [execOp, Act.eval, Array.getD_eq_getD_getElem?]
        simp [go_sem, e30, Oper.upon]
        refine KC.mono ?_
        rintro e W2 ⟨rfl, hb⟩
        exact hK g W2 (fun _ _ _ _ _ _ => rfl) (by exact hR.below hb) _ (by simp only [valO, Option.bind_some]; simp only [putAll, Act.put, List.setIfInBounds_toArray, List.set_cons_zero, List.set_cons_succ]; rfl)
      | 10, ho, hun, hdep, hK, hfl, _ =>
        obtain rfl := Option.some.inj ho
        have d6 : lp.getD 6 false = true := hdep { on := 6, ground := .data } (by simp) rfl
        have e28 : a'.tmps[28]? = some (.int .i64 (a : Int)) := (hS.don 6 _ 28 rfl d6 rfl).trans (by simp only [putAll, Act.put, List.setIfInBounds_toArray, List.set_cons_zero, List.set_cons_succ]; rfl)
        have d9 : lp.getD 9 false = true := hdep { on := 9, ground := .data } (by simp) rfl
        have e31 : a'.tmps[31]? = some (.int .i64 sz) := (hS.don 9 _ 31 rfl d9 rfl).trans (by simp only [putAll, Act.put, List.setIfInBounds_toArray, List.set_cons_zero, List.set_cons_succ]; rfl)
        have hK' := hK g w' (fun _ _ _ _ _ _ => rfl) (by exact hR) (.int .i64 pq) (by simp only [valO, Option.bind_some]; (try simp only [putAll, Act.put, List.setIfInBounds_toArray, List.set_cons_zero, List.set_cons_succ]); (try rfl))
        clear hS hdep hR
        refine gh_quiet14 (v := .int .i64 pq) ?_ ?_
        · (simp only [execOp, Act.eval, e28, e31]; go_simp; first | done | (simp; done) | (simp [*]; done) | omega | (rw [IntKind.wrap_i64]; omega))
        · exact hK'
      | 11, ho, hun, hdep, hK, hfl, _ =>
        obtain rfl := Option.some.inj ho
        have o4 : a'.tmps[4]? = some (.pointer (some ⟨w.heap.size, 0, none⟩)) := (hS.old14 4 (by simp)).trans rfl
        have d5 : lp.getD 5 false = true := hdep { on := 5, ground := .data } (by simp) rfl
        have e27 : a'.tmps[27]? = some (.int .i64 p16) := (hS.don 5 _ 27 rfl d5 rfl).trans (by simp only [putAll, Act.put, List.setIfInBounds_toArray, List.set_cons_zero, List.set_cons_succ]; rfl)
        have d10 : lp.getD 10 false = true := hdep { on := 10, ground := .data } (by simp) rfl
        have e32 : a'.tmps[32]? = some (.int .i64 pq) := (hS.don 10 _ 32 rfl d10 rfl).trans (by simp only [putAll, Act.put, List.setIfInBounds_toArray, List.set_cons_zero, List.set_cons_succ]; rfl)
        obtain ⟨k, vm, h1, h2, h3, h4, h5⟩ := hR
        have KC := HBt.out k vm w' h1 h2
        clear hdep
        unfold Oper.wp
        simp only [execOp, Act.eval, Array.getD_eq_getD_getElem?]
        simp [go_sem, o4, e27, e32, Oper.upon]
        refine KC.mono ?_
        rintro e W2 ⟨rfl, k', vm', j1, j2, j3⟩
        have hRB : w5.heap.size < w'.heap.size := cell_in (h3 0 _ rfl)
        have eRB := j3.k w5.heap.size hRB h4 (fun q => h5 _ q rfl)
        refine hK g W2 (fun _ _ _ _ _ _ => rfl) ⟨k', vm', j1, j2, fun j u hj => (by rw [World.cell?_of_block (w := w') eRB]; exact h3 j u hj), h4, fun z hz => (by rcases j3.n z hz with q | q; exact h5 z q; omega)⟩ _ (by simp only [valO, Option.bind_some]; simp only [putAll, Act.put, List.setIfInBounds_toArray, List.set_cons_zero, List.set_cons_succ]; rfl)
      | 12, ho, hun, hdep, hK, hfl, _ =>
        obtain rfl := Option.some.inj ho
        have d3 : lp.getD 3 false = true := hdep { on := 3, ground := .data } (by simp) rfl
        have e25 : a'.tmps[25]? = some (.agg #[.int .i64 x0, .int .i64 x1, .int .i64 x2, .int .i64 x3, .slice (some ⟨bb, off, none⟩) r.length sc]) := (hS.don 3 _ 25 rfl d3 rfl).trans (by simp only [putAll, Act.put, List.setIfInBounds_toArray, List.set_cons_zero, List.set_cons_succ]; rfl)
        have d11 : lp.getD 11 false = true := hdep { on := 11, ground := .data } (by simp) rfl
        have e33 : a'.tmps[33]? = some (.int .u32 sm) := (hS.don 11 _ 33 rfl d11 rfl).trans (by simp only [putAll, Act.put, List.setIfInBounds_toArray, List.set_cons_zero, List.set_cons_succ]; rfl)
        have KC := HSum.out w' hR.lo
        clear hdep
        unfold Oper.wp
        simp only [execOp, Act.eval, Array.getD_eq_getD_getElem?]
        simp [go_sem, e25, e33, Oper.upon]
        refine KC.mono ?_
        rintro e W2 ⟨rfl, hb⟩
        exact hK g W2 (fun _ _ _ _ _ _ => rfl) (by exact hR.below hb) _ (by simp only [valO, Option.bind_some]; simp only [putAll, Act.put, List.setIfInBounds_toArray, List.set_cons_zero, List.set_cons_succ]; rfl)
      | 13, ho, hun, hdep, hK, hfl, _ =>
        obtain rfl := Option.some.inj ho
        have d2 : lp.getD 2 false = true := hdep { on := 2, ground := .data } (by simp) rfl
        have e24 : a'.tmps[24]? = some (.bool true) := (hS.don 2 _ 24 rfl d2 rfl).trans (by simp only [putAll, Act.put, List.setIfInBounds_toArray, List.set_cons_zero, List.set_cons_succ]; rfl)
        have d12 : lp.getD 12 false = true := hdep { on := 12, ground := .data } (by simp) rfl
        have e34 : a'.tmps[34]? = some (.bool res) := (hS.don 12 _ 34 rfl d12 rfl).trans (by simp only [putAll, Act.put, List.setIfInBounds_toArray, List.set_cons_zero, List.set_cons_succ]; rfl)
        have hK' := hK g w' (fun _ _ _ _ _ _ => rfl) (by exact hR) (.bool res) (by simp only [valO, Option.bind_some]; (try simp only [putAll, Act.put, List.setIfInBounds_toArray, List.set_cons_zero, List.set_cons_succ]); (try rfl))
        clear hS hdep hR
        refine gh_quiet14 (v := .bool res) ?_ ?_
        · (simp only [execOp, Act.eval, e24, e34]; go_simp; first | done | (simp; done) | (simp [*]; done) | omega | (rw [IntKind.wrap_i64]; omega))
        · exact hK'
      | n + 14, ho, hun, hdep, hK, hfl, hq => exact absurd hq (by omega)
    case fin6 =>
      intro g V8 hR
      have HR8 := hid13 hR
      simp only [putAll, Act.put, List.setIfInBounds_toArray, List.set_cons_zero, List.set_cons_succ]
      clear hR HF6 HZ HBt HSum
      cases res with
      | true =>
        have HFt := hid13 (HFd.out rfl)
        have HB8 := hid13 HR8.out.lo
        clear HFd HNo2
        go_wp2
        exact bodyPost_ret (v := .tuple #[.int .i64 (a : Int), .bool true]) (by simp [results, Tryd.results14, go_sem]) rfl (fdq_mk a true HFt.out HB8.out)
      | false =>
        have HN3 := hid13 (HNo2.out rfl)
        obtain ⟨k8, vm8, hk8, hs8, -⟩ := HR8.out
        have HK8 := hid13 hk8
        have HS8 := hid13 hs8
        clear HFd HNo2 hk8 hs8
        go_wp2
        go_roundg (l.length - (a + 1))
        case measure => exact HMs.out.2
        case rel => exact ⟨a + 1, k8, vm8, by first | rfl | (rw [wa1]), HMs.out.1, HS8, HK8, HN3⟩
end Go.Proofs.YtgbhbooogofmbaaDoor
