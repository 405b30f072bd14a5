/-
  Part 25 of the proof: 6 texts, one behind the other.
-/
import Derived.Test.YtnaghiipfgdimaaPart21
import Derived.Test.YtnaghiipfgdimaaPart20
import Derived.Test.YtnaghiipfgdimaaPart24
import Derived.Test.YtnaghiipfgdimaaPart18
import Derived.Test.YtnaghiipfgdimaaPart14
import Derived.Test.YtnaghiipfgdimaaPart23
import Derived.Test.YtnaghiipfgdimaaPart1
import Derived.Test.YtnaghiipfgdimaaPart6
import Derived.Deep.AppendLies
import Derived.Test.YtnaghiipfgdimaaPart11
/-
  What Match of a table tells.
-/
namespace Go.Proofs.Ytnaghiipfgdimaa
open Go.RowKit Go.Shelf
set_option linter.unusedSimpArgs false
set_option linter.unusedVariables false
attribute [local go_sem] Oper.semAt_some

theorem wl_nilM {P : Program} {ops : Array Oper} {Q : Exit → Act → World → Prop} {a : Act} {w : World} (h : wpList P ops Q [] a w) : Q .normal a w := h
/-- The first of a list, as a route in memory. -/
def fstR (l : List Rte) : Rte := l.head?.getD ((0#128, 0), 0)
set_option maxRecDepth 100000 in
set_option maxHeartbeats 16000000 in
theorem match5_any (F : Int) (x : BitVec 128) (b off c : Nat) (l : List Rte) (w : World) (hF : F ≤ 128) (hO : OrdR l) (hRt : RtR F l) (hp : Rt F x F) (hlc : l.length ≤ c) (hc0 : 0 < c) (hl : l.length ≤ 1000000000) (hR : RwB w b off l) (hbw : b < w.heap.size) :
    Calls Try.prog 15 #[.agg #[.int .i64 F, .slice (some ⟨b, off, none⟩) l.length c], .agg #[.int .u64 (hI x), .int .u64 (lI x)]] w fun e w' => (∃ ys : List Rte, ys = (l.filter (inR x F)).reverse ∧ e = .returned (.tuple #[.agg #[.int .u64 (hI (fstR ys).1.1), .int .u64 (lI (fstR ys).1.1), .int .i64 (fstR ys).1.2, .int .i64 (fstR ys).2], .bool (!ys.isEmpty)])) ∧ Below w.heap.size w w' := by
  have q1 := bl1 w (.cells #[.int .i64 F, .slice (some ⟨b, off, none⟩) l.length c] 25)
  have q2 := bl1 (w.alloc (.cells #[.int .i64 F, .slice (some ⟨b, off, none⟩) l.length c] 25)) (.cells #[.int .u64 (hI x), .int .u64 (lI x)] 36)
  have q3 := bl1 ((w.alloc (.cells #[.int .i64 F, .slice (some ⟨b, off, none⟩) l.length c] 25)).alloc (.cells #[.int .u64 (hI x), .int .u64 (lI x)] 36)) (.cells #[.int .u64 0, .int .u64 0, .int .i64 0, .int .i64 0] 45)
  have q4 := bl1 (((w.alloc (.cells #[.int .i64 F, .slice (some ⟨b, off, none⟩) l.length c] 25)).alloc (.cells #[.int .u64 (hI x), .int .u64 (lI x)] 36)).alloc (.cells #[.int .u64 0, .int .u64 0, .int .i64 0, .int .i64 0] 45)) (.cells #[.bool false] 4)
  have HB0 := hidX (keepb q4 (keepb q3 (keepb q2 q1)))
  have hR0 : RwB ((((w.alloc (.cells #[.int .i64 F, .slice (some ⟨b, off, none⟩) l.length c] 25)).alloc (.cells #[.int .u64 (hI x), .int .u64 (lI x)] 36)).alloc (.cells #[.int .u64 0, .int .u64 0, .int .i64 0, .int .i64 0] 45)).alloc (.cells #[.bool false] 4)) b off l := fun j u hj => keepc q4 (keepc q3 (keepc q2 (keepc q1 (hR j u hj))))
  have t0 : ((((w.alloc (.cells #[.int .i64 F, .slice (some ⟨b, off, none⟩) l.length c] 25)).alloc (.cells #[.int .u64 (hI x), .int .u64 (lI x)] 36)).alloc (.cells #[.int .u64 0, .int .u64 0, .int .i64 0, .int .i64 0] 45)).alloc (.cells #[.bool false] 4)).heap[w.heap.size]? = some (.cells #[.int .i64 F, .slice (some ⟨b, off, none⟩) l.length c] 25) := (q4.block _ (by simp; omega)).trans ((q3.block _ (by simp; omega)).trans ((q2.block _ (by simp)).trans Array.getElem?_push_size))
  have x0 : ((((w.alloc (.cells #[.int .i64 F, .slice (some ⟨b, off, none⟩) l.length c] 25)).alloc (.cells #[.int .u64 (hI x), .int .u64 (lI x)] 36)).alloc (.cells #[.int .u64 0, .int .u64 0, .int .i64 0, .int .i64 0] 45)).alloc (.cells #[.bool false] 4)).heap[w.heap.size + 1]? = some (.cells #[.int .u64 (hI x), .int .u64 (lI x)] 36) := (q4.block _ (by simp)).trans ((q3.block _ (by simp)).trans (by have := World.alloc_heap_new (w.alloc (.cells #[.int .i64 F, .slice (some ⟨b, off, none⟩) l.length c] 25)) (.cells #[.int .u64 (hI x), .int .u64 (lI x)] 36); rwa [World.size_alloc] at this))
  have r0 : ((((w.alloc (.cells #[.int .i64 F, .slice (some ⟨b, off, none⟩) l.length c] 25)).alloc (.cells #[.int .u64 (hI x), .int .u64 (lI x)] 36)).alloc (.cells #[.int .u64 0, .int .u64 0, .int .i64 0, .int .i64 0] 45)).alloc (.cells #[.bool false] 4)).heap[w.heap.size + 2]? = some (.cells #[.int .u64 0, .int .u64 0, .int .i64 0, .int .i64 0] 45) := (q4.block _ (by simp)).trans (by have := World.alloc_heap_new ((w.alloc (.cells #[.int .i64 F, .slice (some ⟨b, off, none⟩) l.length c] 25)).alloc (.cells #[.int .u64 (hI x), .int .u64 (lI x)] 36)) (.cells #[.int .u64 0, .int .u64 0, .int .i64 0, .int .i64 0] 45); rwa [World.size_alloc, World.size_alloc] at this)
  have b0 : ((((w.alloc (.cells #[.int .i64 F, .slice (some ⟨b, off, none⟩) l.length c] 25)).alloc (.cells #[.int .u64 (hI x), .int .u64 (lI x)] 36)).alloc (.cells #[.int .u64 0, .int .u64 0, .int .i64 0, .int .i64 0] 45)).alloc (.cells #[.bool false] 4)).heap[w.heap.size + 3]? = some (.cells #[.bool false] 4) := by have := World.alloc_heap_new (((w.alloc (.cells #[.int .i64 F, .slice (some ⟨b, off, none⟩) l.length c] 25)).alloc (.cells #[.int .u64 (hI x), .int .u64 (lI x)] 36)).alloc (.cells #[.int .u64 0, .int .u64 0, .int .i64 0, .int .i64 0] 45)) (.cells #[.bool false] 4); rwa [World.size_alloc, World.size_alloc, World.size_alloc] at this
  have HS0 : Hid (((((w.alloc (.cells #[.int .i64 F, .slice (some ⟨b, off, none⟩) l.length c] 25)).alloc (.cells #[.int .u64 (hI x), .int .u64 (lI x)] 36)).alloc (.cells #[.int .u64 0, .int .u64 0, .int .i64 0, .int .i64 0] 45)).alloc (.cells #[.bool false] 4)).heap.size = w.heap.size + 4) := hidX (by simp)
  have KU := fun W => upw_any b off c x F l W
  refine (callsIn_wide (n := 9)).1 ?_
  refine callsIn_of_wp_marks Try.func15 rfl trivial ?_ rfl
  simp only [Try.ntmps15, List.size_toArray, List.length_cons, List.length_nil, Nat.reduceAdd, Nat.reduceSub, Array.replicate_succ, Array.replicate_zero, List.push_toArray, List.append_toArray, List.nil_append, List.cons_append]
  refine wpIn_wide.2 ?_
  clear q1 q2 q3 q4
  have HR0 := hidX hR0
  have HT0 := hidX t0
  have HX0 := hidX x0
  have HR2 := hidX r0
  have HB3 := hidX b0
  have HG : Hid (OrdR l ∧ RtR F l ∧ Rt F x F) := hidX ⟨hO, hRt, hp⟩
  have t1 := at_blk t0 0 (.int .i64 F) rfl
  have t2 := at_blk t0 1 (.slice (some ⟨b, off, none⟩) l.length c) rfl
  have x1 := at_blk x0 0 (.int .u64 (hI x)) rfl
  have x2 := at_blk x0 1 (.int .u64 (lI x)) rfl
  clear t0 x0 r0 b0 hR0 hO hRt hp hR
  go_wp2_with fail
  revert HB0 HR0 HT0 HX0 HR2 HB3 HS0
  generalize (((w.alloc (.cells #[.int .i64 F, .slice (some ⟨b, off, none⟩) l.length c] 25)).alloc (.cells #[.int .u64 (hI x), .int .u64 (lI x)] 36)).alloc (.cells #[.int .u64 0, .int .u64 0, .int .i64 0, .int .i64 0] 45)).alloc (.cells #[.bool false] 4) = V0
  intro HB0 HS0 HR0 HT0 HX0 HR2 HB3
  clear t1 t2 x1 x2
  refine (KU V0).mono ?_
  rintro e Wl ⟨rfl, rfl⟩
  have s0 := HS0.out
  rw [s0]
  have k1 := bl1 V0 (.cells #[.slice (some ⟨b, off, none⟩) l.length c] 22)
  have k2 := bl1 (V0.alloc (.cells #[.slice (some ⟨b, off, none⟩) l.length c] 22)) (.cells #[.int .u64 (hI x), .int .u64 (lI x), .int .i64 F] 38)
  have kk := keepb k2 k1
  have HB1 := hidX (keepb kk HB0.out)
  have HR1 : Hid (RwB ((V0.alloc (.cells #[.slice (some ⟨b, off, none⟩) l.length c] 22)).alloc (.cells #[.int .u64 (hI x), .int .u64 (lI x), .int .i64 F] 38)) b off l) := hidX (fun j u hj => keepc kk (HR0.out j u hj))
  have HM2 := hidX ((kk.block _ (blk_lt5 HR2.out)).trans HR2.out)
  have HM3 := hidX ((kk.block _ (blk_lt5 HB3.out)).trans HB3.out)
  have HL5 : Hid (((V0.alloc (.cells #[.slice (some ⟨b, off, none⟩) l.length c] 22)).alloc (.cells #[.int .u64 (hI x), .int .u64 (lI x), .int .i64 F] 38)).cell? ⟨w.heap.size + 4, 0, none⟩ = some (.slice (some ⟨b, off, none⟩) l.length c)) := hidX (by
    have := (k2.block _ (by simp)).trans (World.alloc_heap_new V0 (.cells #[.slice (some ⟨b, off, none⟩) l.length c] 22))
    rw [s0] at this
    exact at_blk this 0 (.slice (some ⟨b, off, none⟩) l.length c) rfl)
  have HP5 : Hid (((V0.alloc (.cells #[.slice (some ⟨b, off, none⟩) l.length c] 22)).alloc (.cells #[.int .u64 (hI x), .int .u64 (lI x), .int .i64 F] 38)).heap[w.heap.size + 4 + 1]? = some (.cells #[.int .u64 (hI x), .int .u64 (lI x), .int .i64 F] 38)) := hidX (by
    have := World.alloc_heap_new (V0.alloc (.cells #[.slice (some ⟨b, off, none⟩) l.length c] 22)) (.cells #[.int .u64 (hI x), .int .u64 (lI x), .int .i64 F] 38)
    rwa [World.size_alloc, s0] at this)
  have hsl : ((V0.alloc (.cells #[.slice (some ⟨b, off, none⟩) l.length c] 22)).alloc (.cells #[.int .u64 (hI x), .int .u64 (lI x), .int .i64 F] 38)).heap.size = w.heap.size + 6 := by simp [s0]
  clear k1 k2 kk s0 HS0 HR0 HR2 HB3 HT0 HX0 HB0 KU
  revert HB1 HR1 HM2 HM3 HL5 HP5 hsl
  generalize (V0.alloc (.cells #[.slice (some ⟨b, off, none⟩) l.length c] 22)).alloc (.cells #[.int .u64 (hI x), .int .u64 (lI x), .int .i64 F] 38) = Wl
  obtain ⟨L5, hL5⟩ : ∃ L5, L5 = w.heap.size + 4 := ⟨_, rfl⟩
  obtain ⟨P5, hP5⟩ : ∃ P5, P5 = w.heap.size + 4 + 1 := ⟨_, rfl⟩
  rw [← hP5, ← hL5]
  intro HB1 HR1 HM2 HM3 HL5 HP5 hsl
  have HPL := hidX (And.intro hP5 hL5)
  clear hP5 hL5
  go_wp2_with fail
  obtain ⟨hP5, hL5⟩ := HPL.out
  refine (wpIn_wide (n := 9)).1 ?_
  refine rangeZ 9 (by decide) (gf := 51) (lb := #[.pointer (some ⟨P5, 0, none⟩), .pointer (some ⟨L5, 0, none⟩)]) rfl (enters_of Try.func51 (by kernel_rfl) rfl)
    (upw1_any (9 - 1) (fun z => z = P5 ∨ z = L5 ∨ z = b) (Wl.heap.size + 2) P5 L5 b off c F x F l hF HG.out.1 HG.out.2.1 HG.out.2.2 hlc hc0 hl Wl ⟨HP5.out, HL5.out, HR1.out, .inl (.inl rfl), .inl (.inr (.inl rfl)), .inl (.inr (.inr rfl))⟩) (Nat.le_refl _) (fun h k => h.trans k) (fun V o o' h1 h2 => kw_put (by rintro (q | q | q) <;> omega) (by omega) V o o' h1 h2) (Below.refl _ _) (fun _ => rfl)
    (fun pre V => (pre = [] ∧ V.heap[w.heap.size + 2]? = some (.cells #[.int .u64 0, .int .u64 0, .int .i64 0, .int .i64 0] 45) ∧ V.heap[w.heap.size + 3]? = some (.cells #[.bool false] 4) ∧ Wl.heap.size ≤ V.heap.size) ∧ Below w.heap.size w V)
    (fun cd pre V => (cd = .ret ∧ ∃ r : Rte, pre = [r] ∧ V.heap[w.heap.size + 2]? = some (.cells #[.int .u64 (hI r.1.1), .int .u64 (lI r.1.1), .int .i64 r.1.2, .int .i64 r.2] 45) ∧ V.heap[w.heap.size + 3]? = some (.cells #[.bool true] 4)) ∧ Below w.heap.size w V)
    (fun s A B hs hb => ⟨⟨hs.1.1, (hb.block _ (by omega)).trans hs.1.2.1, (hb.block _ (by omega)).trans hs.1.2.2.1, Nat.le_trans hs.1.2.2.2 hb.size⟩, hs.2.trans (hb.mono (by omega))⟩)
    (fun cd s A B hs hb => by obtain ⟨⟨e0, r, e1, e2, e3⟩, e4⟩ := hs; exact ⟨⟨e0, r, e1, (hb.block _ (by omega)).trans e2, (hb.block _ (by omega)).trans e3⟩, e4.trans (hb.mono (by omega))⟩)
    ⟨⟨rfl, HM2.out, HM3.out, Nat.le_refl _⟩, HB1.out⟩
    (fun r a' V => ∃ N, Wl.heap.size ≤ N ∧ V.heap[N]? = some (.cells #[.int .u64 (hI r.1.1), .int .u64 (lI r.1.1), .int .i64 r.1.2, .int .i64 r.2] 45) ∧ a' = { tmps := #[.agg #[.int .i64 F, .slice (some ⟨b, off, none⟩) l.length c], .agg #[.int .u64 (hI x), .int .u64 (lI x)], .pointer (some ⟨w.heap.size, 0, none⟩), .pointer (some ⟨w.heap.size + 1, 0, none⟩), .pointer (some ⟨w.heap.size + 1 + 1, 0, none⟩), .pointer (some ⟨w.heap.size + 1 + 1 + 1, 0, none⟩), .pointer (some ⟨N, 0, none⟩), .pointer (some ⟨w.heap.size, 1, none⟩), .slice (some ⟨b, off, none⟩) l.length c, .agg #[.int .u64 (hI x), .int .u64 (lI x)], .pointer (some ⟨w.heap.size, 0, none⟩), .int .i64 F, .agg #[.int .u64 (hI x), .int .u64 (lI x), .int .i64 F], .func (.func 51) #[] #[.pointer (some ⟨P5, 0, none⟩), .pointer (some ⟨L5, 0, none⟩)], .agg #[.int .u64 (hI r.1.1), .int .u64 (lI r.1.1), .int .i64 r.1.2, .int .i64 r.2], undef, undef], defers := [] })
    (fun r a' A o o' hs h1 h2 => by
      obtain ⟨N, e1, e2, e3⟩ := hs
      refine ⟨N, e1, ?_, e3⟩
      by_cases c : N = Wl.heap.size + 1
      · subst c; rw [h1] at e2; cases e2; cases h2
      · exact (World.putObj_heap_other (by omega)).trans e2) ?assign ?body ?done ?stop
  case assign =>
    rintro lo pre r V K hi hK
    have hb := bl1 V (.cells #[.int .u64 (hI r.1.1), .int .u64 (lI r.1.1), .int .i64 r.1.2, .int .i64 r.2] 45)
    have hN : Wl.heap.size ≤ V.heap.size := hi.1.2.2.2
    clear hP5 hL5
    have HK := hidX (fun a' h => hK a' (V.alloc (.cells #[.int .u64 (hI r.1.1), .int .u64 (lI r.1.1), .int .i64 r.1.2, .int .i64 r.2] 45)) ⟨hb.size, fun z o h1 h2 _ => (hb.block z (Array.getElem?_eq_some_iff.1 h2).1).trans h2⟩ (kw_below hb) ⟨⟨hi.1.1, (hb.block _ (blk_lt5 hi.1.2.1)).trans hi.1.2.1, (hb.block _ (blk_lt5 hi.1.2.2.1)).trans hi.1.2.2.1, Nat.le_trans hN hb.size⟩, keepb hb hi.2⟩ ⟨V.heap.size, hN, Array.getElem?_push_size, h⟩)
    clear hK hi hb
    unfold encR
    simp only [List.zip_toArray, List.zip_cons_cons, List.zip_nil_left, List.zip_nil_right, List.foldl_toArray, List.foldl_cons, List.foldl_nil, List.setIfInBounds_toArray, List.set_cons_zero, List.set_cons_succ, Array.zip]
    gi_wp2
    exact HK.out _ rfl
  case body =>
    clear hP5 hL5
    rintro lo pre r a' V hl9 - ⟨⟨rfl, hi1, hi2, -⟩, hi3⟩ ⟨N, e1, e2, rfl⟩ hlt
    have n0 := at_blk e2 0 (.int .u64 (hI r.1.1)) rfl
    have n1 := at_blk e2 1 (.int .u64 (lI r.1.1)) rfl
    have n2 := at_blk e2 2 (.int .i64 r.1.2) rfl
    have n3 := at_blk e2 3 (.int .i64 r.2) rfl
    have a0 := at_blk hi1 0 (.int .u64 0) rfl
    have a1 := at_blk hi1 1 (.int .u64 0) rfl
    have a2 := at_blk hi1 2 (.int .i64 0) rfl
    have a3 := at_blk hi1 3 (.int .i64 0) rfl
    have f0 := fr_blk5 (j := 0) hi1
    have f1 := fr_blk5 (j := 1) hi1
    have f2 := fr_blk5 (j := 2) hi1
    have f3 := fr_blk5 (j := 3) hi1
    have b0 := at_blk hi2 0 (.bool false) rfl
    have g0 := fr_blk5 (j := 0) hi2
    have HV : Hid (V.heap[w.heap.size + 2]? = some (.cells #[.int .u64 0, .int .u64 0, .int .i64 0, .int .i64 0] 45) ∧ V.heap[w.heap.size + 3]? = some (.cells #[.bool false] 4) ∧ Below w.heap.size w V) := hidX ⟨hi1, hi2, hi3⟩
    clear hi1 hi2 hi3 e1 e2
    gi_wp2
    obtain ⟨hi1, hi2, hi3⟩ := HV.out
    obtain ⟨hP5, hL5⟩ := HPL.out
    have m1 := set_blk5 (o := 3) (set_blk5 (o := 2) (set_blk5 (o := 1) (set_blk5 (o := 0) hi1 (.int .u64 (hI r.1.1))) (.int .u64 (lI r.1.1))) (.int .i64 r.1.2)) (.int .i64 r.2)
    have zz : ∀ (z : Nat), ¬ z = w.heap.size + 2 → ((((V.setCell ⟨w.heap.size + 2, 0, none⟩ (.int .u64 (hI r.1.1))).setCell ⟨w.heap.size + 2, 1, none⟩ (.int .u64 (lI r.1.1))).setCell ⟨w.heap.size + 2, 2, none⟩ (.int .i64 r.1.2)).setCell ⟨w.heap.size + 2, 3, none⟩ (.int .i64 r.2)).heap[z]? = V.heap[z]? := fun z h => hSet4 h
    have k4 : KW (fun z => z = P5 ∨ z = L5 ∨ z = b) (Wl.heap.size + 2) V ((((V.setCell ⟨w.heap.size + 2, 0, none⟩ (.int .u64 (hI r.1.1))).setCell ⟨w.heap.size + 2, 1, none⟩ (.int .u64 (lI r.1.1))).setCell ⟨w.heap.size + 2, 2, none⟩ (.int .i64 r.1.2)).setCell ⟨w.heap.size + 2, 3, none⟩ (.int .i64 r.2)) :=
      (((kw_set (o := 0) (b := w.heap.size + 2) (by rintro (q | q | q) <;> omega) (by omega) V _).trans (kw_set (o := 1) (b := w.heap.size + 2) (by rintro (q | q | q) <;> omega) (by omega) _ _)).trans (kw_set (o := 2) (b := w.heap.size + 2) (by rintro (q | q | q) <;> omega) (by omega) _ _)).trans (kw_set (o := 3) (b := w.heap.size + 2) (by rintro (q | q | q) <;> omega) (by omega) _ _)
    refine ⟨⟨by simp, fun z o h1 h2 h3 => (hSet6 _ (by omega)).trans ((zz z (by omega)).trans h2)⟩, k4.trans (kw_set (o := 0) (b := w.heap.size + 3) (by rintro (q | q | q) <;> omega) (by omega) _ _), ⟨rfl, r, rfl, (hSet6 _ (by omega)).trans (by simpa using m1), by simpa using set_blk5 (o := 0) ((zz _ (by omega)).trans hi2) (.bool true)⟩, (bset4m hi3 (by omega) _ _ _ _).setCell (p := ⟨w.heap.size + 3, 0, none⟩) (by simp) _⟩
  case done =>
    clear hP5 hL5
    rintro D ys V hD hys ⟨⟨rfl, hi1, hi2, -⟩, hi3⟩ hK
    have a0 := at_blk hi1 0 (.int .u64 0) rfl
    have a1 := at_blk hi1 1 (.int .u64 0) rfl
    have a2 := at_blk hi1 2 (.int .i64 0) rfl
    have a3 := at_blk hi1 3 (.int .i64 0) rfl
    have f0 := fr_blk5 (j := 0) hi1
    have f1 := fr_blk5 (j := 1) hi1
    have f2 := fr_blk5 (j := 2) hi1
    have f3 := fr_blk5 (j := 3) hi1
    have b0 := at_blk hi2 0 (.bool false) rfl
    have g0 := fr_blk5 (j := 0) hi2
    have HV : Hid (V.heap[w.heap.size + 2]? = some (.cells #[.int .u64 0, .int .u64 0, .int .i64 0, .int .i64 0] 45) ∧ V.heap[w.heap.size + 3]? = some (.cells #[.bool false] 4) ∧ Below w.heap.size w V ∧ V.heap[D]? = some (.deferred (some []))) := hidX ⟨hi1, hi2, hi3, hK⟩
    clear hi1 hi2 hi3 hK
    refine wl_nilM (P := Try.prog) (ops := #[]) ?_
    go_wp2
    obtain ⟨hi1, hi2, hi3, hK⟩ := HV.out
    have zz : ∀ (z : Nat), ¬ z = w.heap.size + 2 → ((((V.setCell ⟨w.heap.size + 2, 0, none⟩ (.int .u64 0)).setCell ⟨w.heap.size + 2, 1, none⟩ (.int .u64 0)).setCell ⟨w.heap.size + 2, 2, none⟩ (.int .i64 0)).setCell ⟨w.heap.size + 2, 3, none⟩ (.int .i64 0)).heap[z]? = V.heap[z]? := fun z h => hSet4 h
    have m1 : (((((V.setCell ⟨w.heap.size + 2, 0, none⟩ (.int .u64 0)).setCell ⟨w.heap.size + 2, 1, none⟩ (.int .u64 0)).setCell ⟨w.heap.size + 2, 2, none⟩ (.int .i64 0)).setCell ⟨w.heap.size + 2, 3, none⟩ (.int .i64 0)).setCell ⟨w.heap.size + 3, 0, none⟩ (.bool false)).heap[w.heap.size + 2]? = some (.cells #[.int .u64 0, .int .u64 0, .int .i64 0, .int .i64 0] 45) := (hSet6 _ (by omega)).trans (by simpa using set_blk5 (o := 3) (set_blk5 (o := 2) (set_blk5 (o := 1) (set_blk5 (o := 0) hi1 (.int .u64 0)) (.int .u64 0)) (.int .i64 0)) (.int .i64 0))
    have m2 : (((((V.setCell ⟨w.heap.size + 2, 0, none⟩ (.int .u64 0)).setCell ⟨w.heap.size + 2, 1, none⟩ (.int .u64 0)).setCell ⟨w.heap.size + 2, 2, none⟩ (.int .i64 0)).setCell ⟨w.heap.size + 2, 3, none⟩ (.int .i64 0)).setCell ⟨w.heap.size + 3, 0, none⟩ (.bool false)).heap[w.heap.size + 3]? = some (.cells #[.bool false] 4) := by simpa using set_blk5 (o := 0) ((zz _ (by omega)).trans hi2) (.bool false)
    have m3 : (((((V.setCell ⟨w.heap.size + 2, 0, none⟩ (.int .u64 0)).setCell ⟨w.heap.size + 2, 1, none⟩ (.int .u64 0)).setCell ⟨w.heap.size + 2, 2, none⟩ (.int .i64 0)).setCell ⟨w.heap.size + 2, 3, none⟩ (.int .i64 0)).setCell ⟨w.heap.size + 3, 0, none⟩ (.bool false)).heap[D]? = some (.deferred (some [])) := (hSet6 _ (by omega)).trans ((zz D (by omega)).trans hK)
    have m4 : Below w.heap.size w (((((V.setCell ⟨w.heap.size + 2, 0, none⟩ (.int .u64 0)).setCell ⟨w.heap.size + 2, 1, none⟩ (.int .u64 0)).setCell ⟨w.heap.size + 2, 2, none⟩ (.int .i64 0)).setCell ⟨w.heap.size + 2, 3, none⟩ (.int .i64 0)).setCell ⟨w.heap.size + 3, 0, none⟩ (.bool false)) := (bset4m hi3 (by omega) _ _ _ _).setCell (p := ⟨w.heap.size + 3, 0, none⟩) (by simp) _
    refine ⟨by simp, .inl ⟨_, _, rfl, run_takeDeferred m3, ?_⟩⟩
    revert m1 m2 m3 m4
    generalize (((((V.setCell ⟨w.heap.size + 2, 0, none⟩ (.int .u64 0)).setCell ⟨w.heap.size + 2, 1, none⟩ (.int .u64 0)).setCell ⟨w.heap.size + 2, 2, none⟩ (.int .i64 0)).setCell ⟨w.heap.size + 2, 3, none⟩ (.int .i64 0)).setCell ⟨w.heap.size + 3, 0, none⟩ (.bool false)) = V3
    intro m1 m2 m3 m4
    clear a0 a1 a2 a3 f0 f1 f2 f3 b0 g0 zz
    have d2 := (World.putObj_heap_other (w := V3) (r := D) (o := .deferred none) (k := w.heap.size + 2) (by omega)).trans m1
    have d3 := (World.putObj_heap_other (w := V3) (r := D) (o := .deferred none) (k := w.heap.size + 3) (by omega)).trans m2
    have r0 := at_blk d2 0 (.int .u64 0) rfl
    have r1 := at_blk d2 1 (.int .u64 0) rfl
    have r2 := at_blk d2 2 (.int .i64 0) rfl
    have r3 := at_blk d2 3 (.int .i64 0) rfl
    have s0 := at_blk d3 0 (.bool false) rfl
    refine ⟨.tuple #[.agg #[.int .u64 0, .int .u64 0, .int .i64 0, .int .i64 0], .bool false], ?_, ⟨[], hys, by simp [fstR, hI_zero, lI_zero]⟩, m4.trans (belowK_b (w := w) (Nat.le_refl _) _ D _ _ (by omega) m3 rfl rfl)⟩
    simp [results, Try.results15, go_sem, r0, r1, r2, r3, s0]
  case stop =>
    clear hP5 hL5
    rintro D cd pre V hD hpre ⟨⟨rfl, r, rfl, e2, e3⟩, hi3⟩ hK
    refine (wpIn_wide (n := 9)).2 ?_
    go_wp2
    refine ⟨by simp, .inl ⟨_, _, rfl, run_takeDeferred hK, ?_⟩⟩
    have d2 := (World.putObj_heap_other (w := V) (r := D) (o := .deferred none) (k := w.heap.size + 2) (by omega)).trans e2
    have d3 := (World.putObj_heap_other (w := V) (r := D) (o := .deferred none) (k := w.heap.size + 3) (by omega)).trans e3
    have r0 := at_blk d2 0 (.int .u64 (hI r.1.1)) rfl
    have r1 := at_blk d2 1 (.int .u64 (lI r.1.1)) rfl
    have r2 := at_blk d2 2 (.int .i64 r.1.2) rfl
    have r3 := at_blk d2 3 (.int .i64 r.2) rfl
    have s0 := at_blk d3 0 (.bool true) rfl
    obtain ⟨t, ht⟩ := hpre
    refine ⟨.tuple #[.agg #[.int .u64 (hI r.1.1), .int .u64 (lI r.1.1), .int .i64 r.1.2, .int .i64 r.2], .bool true], ?_, ⟨r :: t, by simpa using ht, by simp [fstR]⟩, hi3.trans (belowK_b (w := w) (Nat.le_refl _) _ D _ _ (by omega) hK rfl rfl)⟩
    simp [results, Try.results15, go_sem, r0, r1, r2, r3, s0]
/-- A list in memory whose block is known. -/
theorem look5_any (F : Int) (x : BitVec 128) (b off c : Nat) (l : List Rte) (w : World) (hF : F ≤ 128) (hO : OrdR l) (hRt : RtR F l) (hp : Rt F x F) (hlc : l.length ≤ c) (hc0 : 0 < c) (hl : l.length ≤ 1000000000) (hR : RwB w b off l) (hbw : b < w.heap.size) :
    Calls Try.prog 16 #[.agg #[.int .i64 F, .slice (some ⟨b, off, none⟩) l.length c], .agg #[.int .u64 (hI x), .int .u64 (lI x)]] w fun e w' => (∃ ys : List Rte, ys = (l.filter (inR x F)).reverse ∧ e = .returned (.int .i64 (fstR ys).2)) ∧ Below w.heap.size w w' := by
  have q1 := bl1 w (.cells #[.int .i64 F, .slice (some ⟨b, off, none⟩) l.length c] 25)
  have q2 := bl1 (w.alloc (.cells #[.int .i64 F, .slice (some ⟨b, off, none⟩) l.length c] 25)) (.cells #[.int .u64 (hI x), .int .u64 (lI x)] 36)
  have KM := match5_any F x b off c l ((w.alloc (.cells #[.int .i64 F, .slice (some ⟨b, off, none⟩) l.length c] 25)).alloc (.cells #[.int .u64 (hI x), .int .u64 (lI x)] 36)) hF hO hRt hp hlc hc0 hl (fun j u hj => keepc q2 (keepc q1 (hR j u hj))) (by simp; omega)
  have HB := hidX (keepb q2 q1)
  go_enter Try.func16, Try.ntmps16
  clear q1 q2 hO hRt hp hR
  go_wp2_with fail
  refine KM.mono ?_
  rintro e V ⟨⟨ys, hys, rfl⟩, hb⟩
  have HB2 := hidX (keepb hb HB.out)
  have HY := hidX hys
  clear hb HB KM hys
  generalize hr : fstR ys = r at *
  go_wp2
  exact bodyPost_ret (v := .int .i64 r.2) (by simp [results, Try.results16, go_sem]) rfl ⟨⟨ys, HY.out, by rw [hr]⟩, keepb (bl1 V _) HB2.out⟩
end Go.Proofs.Ytnaghiipfgdimaa
/-
  The first example of the chapter.
-/
namespace Go.Proofs.Ytnaghiipfgdimaa
open Go.RowKit Go.Shelf
set_option linter.unusedSimpArgs false
set_option linter.unusedVariables false
attribute [local go_sem] Oper.semAt_some

def exS5 : ByteArray := ⟨#[49, 48, 46, 48, 46, 48, 46, 48, 47, 56, 32, 49, 32, 35, 32, 116, 101, 110, 10, 49, 48, 46, 49, 46, 48, 46, 48, 47, 49, 54, 32, 50, 10, 49, 48, 46, 48, 46, 48, 46, 48, 47, 56, 32, 51]⟩
def exA5 : Rte := ((BitVec.ofNat 128 (10 * 2 ^ 120), 8), 1)
def exB5 : Rte := ((BitVec.ofNat 128 (10 * 2 ^ 120 + 2 ^ 112), 16), 2)
def exC5 : Rte := ((BitVec.ofNat 128 (10 * 2 ^ 120), 8), 3)
set_option maxRecDepth 100000 in
theorem ex_lns5 : lnsR 32 exS5 (exS5.size + 1) 0 1 0 [] 0 = ((0, 0, 0), [exA5, exB5, exC5]) := by kernel_rfl
theorem ex_srt5 : isrt [exA5, exB5, exC5] = [exA5, exC5, exB5] := by kernel_rfl
theorem ex_ltl5 : ltL [exA5, exC5, exB5] = [exC5, exB5] := by kernel_rfl
theorem ex_row5 : rowR [exC5, exB5] = [.int .u64 720575940379279360, .int .u64 0, .int .i64 8, .int .i64 3, .int .u64 720857415355990016, .int .u64 0, .int .i64 16, .int .i64 2] := by kernel_rfl
def exW5 : BitVec 128 := BitVec.ofNat 128 (720859627264147456 * 2 ^ 64)
theorem ex_hi5 : hI exW5 = 720859627264147456 ∧ lI exW5 = 0 := by decide +kernel
theorem ex_fil5 : (([exC5, exB5] : List Rte).filter (inR exW5 32)).reverse = [exB5, exC5] := by kernel_rfl
theorem ex_ord5 : OrdR [exC5, exB5] := by
  intro a b hb hab
  have : b = 1 ∧ a = 0 := by simp at hb; omega
  obtain ⟨rfl, rfl⟩ := this
  show pcmpZ exC5.1.1 exC5.1.2 exB5.1.1 exB5.1.2 < 0
  decide +kernel
theorem ex_rt5 : RtR 32 [exC5, exB5] := by
  intro r hr
  simp at hr
  rcases hr with rfl | rfl
  · exact ⟨by decide, by decide, by decide +kernel⟩
  · exact ⟨by decide, by decide, by decide +kernel⟩
theorem ex_wrt5 : Rt 32 exW5 32 := ⟨by decide, by decide, by decide +kernel⟩
theorem ex_par5 (w : World) : Calls Try.prog 21 #[.int .i64 32, .string exS5] w fun e w' => (∃ b off c, e = .returned (.tuple #[.agg #[.int .i64 32, .slice (some ⟨b, off, none⟩) 2 c], .agg #[.int .i64 0, .int .i64 0, .int .i64 0]]) ∧ RwB w' b off [exC5, exB5] ∧ 2 ≤ c) ∧ Below w.heap.size w w' := by
  have K := parseS_any 32 exS5 w rfl (by decide) [exA5, exB5, exC5] (isrt [exA5, exB5, exC5]) ex_lns5 (by decide) (by decide) (fun base g c W h => sortS_any base g c 3 [exA5, exB5, exC5] W h (by decide))
  rw [ex_srt5, ex_ltl5] at K
  refine K.mono ?_
  rintro e w' ⟨⟨v, rfl, hv⟩, hb⟩
  refine ⟨?_, hb⟩
  obtain ⟨-, ao, c, rfl, h1, h⟩ := hv
  rcases h with ⟨-, -, h⟩ | ⟨b, off, rfl, h⟩
  · cases h
  · exact ⟨b, off, c, rfl, h, h1⟩
set_option maxRecDepth 20000 in
set_option maxHeartbeats 4000000 in
theorem known5_any (w : World) : Calls Try.prog 6 #[] w fun e w' => e = .returned (.bool true) ∧ Below w.heap.size w w' := by
  have KP := ex_par5 w
  unfold exS5 at KP
  go_enter Try.func6, Try.ntmps6
  go_wp2_with fail
  refine KP.mono ?_
  rintro e w2 ⟨⟨b, off, c, rfl, hR, hc⟩, hb⟩
  have q1 := bl1 w2 (.cells #[.int .i64 32, .slice (some ⟨b, off, none⟩) 2 c] 25)
  have q2 := bl1 (w2.alloc (.cells #[.int .i64 32, .slice (some ⟨b, off, none⟩) 2 c] 25)) (.cells #[.int .i64 0, .int .i64 0, .int .i64 0] 56)
  have hR2 := (hR.below q1).below q2
  have HB2 := hidX (keepb q2 (keepb q1 hb))
  have hbw : b < w2.heap.size := cell_in (hR 0 _ (by rw [ex_row5]; rfl))
  have c3 := hR2 3 (.int .i64 3) (by rw [ex_row5]; rfl)
  have KL := look5_any 32 exW5 b off c [exC5, exB5] _ (by decide) ex_ord5 ex_rt5 ex_wrt5 hc (by omega) (by decide) hR2 (by simp; omega)
  rw [ex_hi5.1, ex_hi5.2, ex_fil5] at KL
  have HL := hidX KL
  clear KL q1 q2 hb hR hR2 KP
  go_wp2_with fail
  refine (show Calls _ _ _ _ _ from HL.out).mono ?_
  rintro e w3 ⟨⟨ys, rfl, rfl⟩, hb3⟩
  have HB3 := hidX (keepb hb3 HB2.out)
  rw [show (fstR [exB5, exC5]).2 = 2 from rfl]
  clear HL HB2 c3 hb3
  go_wp2
  exact bodyPost_ret (v := .bool true) (by simp [results, Try.results6, go_sem]) rfl ⟨rfl, HB3.out⟩
end Go.Proofs.Ytnaghiipfgdimaa
/-
  Plain: the match, as the first of those that have the address, told from behind.
-/
namespace Go.Proofs.Ytnaghiipfgdimaa
open Go.RowKit
set_option linter.unusedSimpArgs false
set_option linter.unusedVariables false

theorem mat_last (F : Int) (x : BitVec 128) : ∀ (l : List Rte) (b : Option Rte), (∀ o, b = some o → hasR o x = true ∧ ∀ r ∈ l, pcmpZ o.1.1 o.1.2 r.1.1 r.1.2 < 0) → RtR F l → l.Pairwise (fun a b => pcmpZ a.1.1 a.1.2 b.1.1 b.1.2 < 0) → mat x b l = ((l.filter (fun r => hasR r x)).getLast?).or b
  | [], b, _, _, _ => by simp [mat]
  | r :: l, b, hb, hL, hO => by
    obtain ⟨o1, o2⟩ := List.pairwise_cons.mp hO
    rw [mat]
    have hL' : RtR F l := fun q hq => hL q (List.mem_cons_of_mem _ hq)
    cases hr : hasR r x with
    | false =>
      rw [List.filter_cons_of_neg (by simp [hr])]
      simp only [Bool.false_and, Bool.false_eq_true, if_false]
      exact mat_last F x l b (fun o e => ⟨(hb o e).1, fun q hq => (hb o e).2 q (List.mem_cons_of_mem _ hq)⟩) hL' o2
    | true =>
      have e : (true && (b.all fun o => decide (o.1.2 < r.1.2))) = true := by
        cases b with
        | none => rfl
        | some o =>
          obtain ⟨k1, k2⟩ := hb o rfl
          simp [has_longer x o r k1 hr (hL r (by simp)).1 (k2 r (by simp))]
      rw [if_pos e, mat_last F x l (some r) (fun o e => by cases e; exact ⟨hr, o1⟩) hL' o2, List.filter_cons_of_pos (p := fun r => hasR r x) hr, List.getLast?_cons]
      cases (l.filter fun r => hasR r x).getLast? <;> simp
theorem inR_has {F : Int} {x : BitVec 128} {r : Rte} (h : Rt F r.1.1 r.1.2) : inR x F r = hasR r x := by
  unfold inR withinB hasR
  simp [h.2.1]
theorem ord_pair5 {l : List Rte} (h : OrdR l) : l.Pairwise (fun a b => pcmpZ a.1.1 a.1.2 b.1.1 b.1.2 < 0) := by
  rw [List.pairwise_iff_getElem]
  intro i j hi hj hij
  exact h i j hj hij
theorem mat_first {F : Int} {x : BitVec 128} {l : List Rte} (hO : OrdR l) (hR : RtR F l) : mat x none l = ((l.filter (inR x F)).reverse).head? := by
  rw [mat_last F x l none (fun o e => by cases e) hR (ord_pair5 hO), List.head?_reverse]
  rw [show l.filter (inR x F) = l.filter (fun r => hasR r x) from List.filter_congr (fun r hr => inR_has (hR r hr))]
  simp
theorem mat_parts {F : Int} {x : BitVec 128} {l : List Rte} (hO : OrdR l) (hR : RtR F l) {ys : List Rte} (hy : ys = (l.filter (inR x F)).reverse) :
    bX (mat x none l) = (fstR ys).1.1 ∧ bN (mat x none l) = (fstR ys).1.2 ∧ hopM (mat x none l) = (fstR ys).2 ∧ (mat x none l).isSome = !ys.isEmpty := by
  rw [mat_first hO hR, ← hy]
  unfold bX bN hopM fstR
  cases ys <;> simp
theorem rt_mask (F : Int) (x : BitVec 128) (h0 : 0 ≤ F) : Rt F (x &&& maskW F) F := ⟨h0, Int.le_refl _, by unfold cutW; rw [BitVec.and_assoc, BitVec.and_self]⟩
end Go.Proofs.Ytnaghiipfgdimaa
/-
  A tree of package trie in memory, and what its plain questions tell.
-/
namespace Go.Proofs.Ytnaghiipfgdimaa
open Go.RowKit
set_option linter.unusedSimpArgs false
set_option linter.unusedVariables false

/-- A node: the place of its word, its kid by 1, how many routes, its next hop, its length, its height. -/
structure Nd where
  word : Int
  high : Int
  count : Int
  hop : Int
  length : Int
  height : Int
/-- One that has nothing. -/
def Nd.none : Nd := ⟨0, 0, 0, 0, 0, 0⟩
def Nd.val (x : Nd) : Value := .agg #[.int .i32 x.word, .int .i32 x.high, .int .i32 x.count, .int .u16 x.hop, .int .u8 x.length, .int .u8 x.height]
/-- The cells of a node. -/
def AtN (W : World) (b o : Nat) (x : Nd) : Prop := W.cell? ⟨b, o, none⟩ = some (.int .i32 x.word) ∧ W.cell? ⟨b, o + 1, none⟩ = some (.int .i32 x.high) ∧ W.cell? ⟨b, o + 2, none⟩ = some (.int .i32 x.count) ∧ W.cell? ⟨b, o + 3, none⟩ = some (.int .u16 x.hop) ∧ W.cell? ⟨b, o + 4, none⟩ = some (.int .u8 x.length) ∧ W.cell? ⟨b, o + 5, none⟩ = some (.int .u8 x.height)
theorem AtN.below {W W' : World} {b o : Nat} {x : Nd} (k : AtN W b o x) (hb : Below W.heap.size W W') : AtN W' b o x := ⟨keepc hb k.1, keepc hb k.2.1, keepc hb k.2.2.1, keepc hb k.2.2.2.1, keepc hb k.2.2.2.2.1, keepc hb k.2.2.2.2.2⟩
/-- A tree in memory: its family, the row of its nodes (block g, from its beginning on), the value of its row of words. -/
structure TrN (W : World) (B : Nat) (F : Int) (g cap : Nat) (wv : Value) (L : List Nd) : Prop where
  w : W.cell? ⟨B, 0, none⟩ = some (.int .i64 F)
  n : W.cell? ⟨B, 1, none⟩ = some (.slice (some ⟨g, 0, none⟩) L.length cap)
  o : W.cell? ⟨B, 2, none⟩ = some wv
  row : ∀ j (hj : j < L.length), AtN W g (j * 6) L[j]
theorem TrN.below {W W' : World} {B : Nat} {F : Int} {g cap : Nat} {wv : Value} {L : List Nd} (k : TrN W B F g cap wv L) (hb : Below W.heap.size W W') : TrN W' B F g cap wv L := ⟨keepc hb k.w, keepc hb k.n, keepc hb k.o, fun j hj => (k.row j hj).below hb⟩
/-- The node of a number. -/
def ndAt (L : List Nd) (n : Int) : Nd := if 0 ≤ n then L.getD n.toNat Nd.none else Nd.none
def isN (L : List Nd) (n : Int) : Bool := decide (0 ≤ n) && decide (n < L.length)
end Go.Proofs.Ytnaghiipfgdimaa
/-
  A tree that grows, in memory: the grower, the tree, and their three rows.
-/
namespace Go.Proofs.Ytnaghiipfgdimaa
open Go.RowKit
set_option linter.unusedSimpArgs false
set_option linter.unusedVariables false

theorem hid8 {p : Prop} (h : p) : Hid p := h
theorem cellB {W W' : World} {B : Nat} (e : W'.heap[B]? = W.heap[B]?) (o : Nat) : W'.cell? ⟨B, o, none⟩ = W.cell? ⟨B, o, none⟩ := World.cell?_of_block (w := W) (a := ⟨B, o, none⟩) e
theorem frozB {W W' : World} {B : Nat} (e : W'.heap[B]? = W.heap[B]?) (o : Nat) : W'.frozen? ⟨B, o, none⟩ = W.frozen? ⟨B, o, none⟩ := World.frozen?_of_block (w := W) (a := ⟨B, o, none⟩) e
theorem own_blk {W W' : World} {base e size n : Nat} {v : Value} {xs : List Value} (h : W.ownsRow base e size v n xs) (he : ∀ g, v.ownBlock = some g → W'.heap[g]? = W.heap[g]?) : W'.ownsRow base e size v n xs := by
  refine ⟨h.1, ?_⟩
  rcases h.2 with hn | ⟨g, cap, cur, rfl, hb, hg, rest⟩
  · exact .inl hn
  · exact .inr ⟨g, cap, cur, rfl, hb, by rw [he g rfl]; exact hg, rest⟩
theorem setB {W : World} {b o : Nat} (u : Value) {k : Nat} (h : ¬ k = b) : (W.setCell ⟨b, o, none⟩ u).heap[k]? = W.heap[k]? := Below.heap_setCell W ⟨b, o, none⟩ u k h
/-- The cells of a row of nodes, of words, of numbers. -/
def rowNd : List Nd → List Value
  | [] => []
  | x :: l => .int .i32 x.word :: .int .i32 x.high :: .int .i32 x.count :: .int .u16 x.hop :: .int .u8 x.length :: .int .u8 x.height :: rowNd l
def rowWd : List (BitVec 128) → List Value
  | [] => []
  | x :: l => .int .u64 (hI x) :: .int .u64 (lI x) :: rowWd l
def rowIn : List Nat → List Value
  | [] => []
  | k :: l => .int .i64 (k : Int) :: rowIn l
theorem rowNd_app : ∀ l m, rowNd (l ++ m) = rowNd l ++ rowNd m
  | [], m => rfl
  | x :: l, m => by simp [rowNd, rowNd_app l m]
theorem rowWd_app : ∀ l m, rowWd (l ++ m) = rowWd l ++ rowWd m
  | [], m => rfl
  | x :: l, m => by simp [rowWd, rowWd_app l m]
theorem rowIn_app : ∀ l m, rowIn (l ++ m) = rowIn l ++ rowIn m
  | [], m => rfl
  | x :: l, m => by simp [rowIn, rowIn_app l m]
section
variable {W W' : World} {base G B : Nat} {F : Int} {L : List Nd} {ws : List (BitVec 128)} {y : List Nat} {vn vw vy : Value}
end
end Go.Proofs.Ytnaghiipfgdimaa
/-
  A drawn region with one call in its midst that changes memory: one walk of the text's order, the call's answer a letter.
-/
namespace Go.Proofs.Ytnaghiipfgdimaa
open Go.RowKit
set_option linter.unusedSimpArgs false
set_option linter.unusedVariables false
section
variable {P : Program}
theorem cl_region {id : Nat} {l : List Oper} (m j : Nat) {oj : Oper} (ok : AlOk l m j oj) {D : World → Prop} {C1 : Nat → World → Prop} {Q : Exit → Act → World → Prop} {a : Act} {w : World} (ds : List (Option Tmp)) (vals : Nat → List Value) (val : Nat → Value) (d : Nat) (rd : List Nat) (hm : P.follows .mixedOrders = true)
    (hd : oj.dst = some d) (hA : ∀ N, (putAll a ds (vals N)).tmps.toList.eraseIdx d = (putAll a ds (vals 0)).tmps.toList.eraseIdx d) (hrd : readB l m oj rd = true)
    (hal : ∀ w (a' : Act), D w → (∀ s ∈ rd, a'.tmps[s]? = (putAll a ds (vals 0)).tmps[s]?) → ∀ (K : Act → World → Prop) Q', (∀ N w', C1 N w' → K (a'.put oj.dst (val N)) w') → oj.wp P a' w K Q')
    (hD : D w.drew)
    (hwalk : ∀ N (X : World → Prop), (X = D ∨ X = C1 N) → wpQuiet P (rep (l.take m) j (val N)).toArray X (fun a' => a' = putAll a ds (vals N)) (rep (l.take m) j (val N)) a)
    (hpost : ∀ N w, C1 N w → wpList P l.toArray Q (l.drop m) (putAll a ds (vals N)) w) : (Code.region id l.toArray true).wp P Q a w :=
  sp_region m j ok (A := fun N => putAll a ds (vals N)) val rd hm (alA ok d hd hA) (read_of hrd) hal hD hwalk hpost
end
/-- All pairs of numbers, one behind the other. -/
def decN : Nat → Nat × Nat
  | 0 => (0, 0)
  | n + 1 => if (decN n).2 = 0 then (0, (decN n).1 + 1) else ((decN n).1 + 1, (decN n).2 - 1)
theorem decN_all (s : Nat) : ∀ a b : Nat, a + b = s → ∃ n, decN n = (a, b) := by
  induction s with
  | zero =>
    intro a b h
    have ha : a = 0 := by omega
    have hb : b = 0 := by omega
    subst ha; subst hb
    exact ⟨0, rfl⟩
  | succ s ih =>
    intro a
    induction a with
    | zero =>
      intro b h
      obtain ⟨n, hn⟩ := ih s 0 (by omega)
      refine ⟨n + 1, ?_⟩
      rw [decN, hn, if_pos rfl]
      simp; omega
    | succ a iha =>
      intro b h
      obtain ⟨n, hn⟩ := iha (b + 1) (by omega)
      refine ⟨n + 1, ?_⟩
      rw [decN, hn, if_neg (by simp)]
      simp
theorem decN_ex (a b : Nat) : ∃ n, decN n = (a, b) := decN_all (a + b) a b rfl
end Go.Proofs.Ytnaghiipfgdimaa
