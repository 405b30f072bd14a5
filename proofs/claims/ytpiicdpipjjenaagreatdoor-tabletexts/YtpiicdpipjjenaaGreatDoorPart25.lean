/-
  Part 25 of the proof: 3 texts, one behind the other.
-/
import Derived.Test.YtpiicdpipjjenaaGreatDoorPart24
import Derived.Test.YtpiicdpipjjenaaGreatDoorPart23
import Derived.Test.YtpiicdpipjjenaaGreatDoorPart19
import Derived.Test.YtpiicdpipjjenaaGreatDoorPart16
namespace Go.Proofs.YtpiicdpipjjenaaGreatDoor
open Go.RowKit Go.Shelf
set_option linter.unusedSimpArgs false
set_option linter.unusedVariables false
attribute [local go_sem] Oper.semAt_some

theorem wl_nilM {P : Program} {ops : Array Oper} {Q : Exit → Act → World → Prop} {a : Act} {w : World} (h : wpList P ops Q [] a w) : Q .normal a w := h
def fstR (l : List Rte) : Rte := l.head?.getD ((0#128, 0), 0)
set_option maxRecDepth 100000 in
set_option maxHeartbeats 16000000 in
theorem match5_core (F : Int) (x : BitVec 128) (ao : Option Addr) (k c : Nat) (T : List Rte) (w : World) (Zb : Nat → Prop) (hZb : ∀ z, Zb z → z < w.heap.size)
    (KU : ∀ W, Calls Tryz.prog 57 #[.slice ao k c, .agg #[.int .u64 (hI x), .int .u64 (lI x), .int .i64 F]] W fun e w' => e = .returned (.func (.func 81) #[] #[.pointer (some ⟨W.heap.size + 1, 0, none⟩), .pointer (some ⟨W.heap.size, 0, none⟩)]) ∧ w' = (W.alloc (.cells #[.slice ao k c] 22)).alloc (.cells #[.int .u64 (hI x), .int .u64 (lI x), .int .i64 F] 45))
    (hSq : ∀ (Wl : World) (P5 L5 : Nat), Below w.heap.size w Wl → Wl.heap[P5]? = some (.cells #[.int .u64 (hI x), .int .u64 (lI x), .int .i64 F] 45) → Wl.cell? ⟨L5, 0, none⟩ = some (.slice ao k c) → SeqZ 45 (9 - 1) Tryz.prog 81 #[.pointer (some ⟨P5, 0, none⟩), .pointer (some ⟨L5, 0, none⟩)] encR (fun z => z = P5 ∨ z = L5 ∨ Zb z) (fun ys => ys = T) (fun pre => pre <+: T) Wl) :
    Calls Tryz.prog 38 #[.agg #[.int .i64 F, .slice ao k c], .agg #[.int .u64 (hI x), .int .u64 (lI x)]] w fun e w' => e = .returned (.tuple #[.agg #[.int .u64 (hI (fstR T).1.1), .int .u64 (lI (fstR T).1.1), .int .i64 (fstR T).1.2, .int .i64 (fstR T).2], .bool (!T.isEmpty)]) ∧ Below w.heap.size w w' := by
  have HSq := hidX hSq
  have HZb := hidX hZb
  clear hSq hZb
  have q1 := bl1 w (.cells #[.int .i64 F, .slice ao k c] 24)
  have q2 := bl1 (w.alloc (.cells #[.int .i64 F, .slice ao k c] 24)) (.cells #[.int .u64 (hI x), .int .u64 (lI x)] 43)
  have q3 := bl1 ((w.alloc (.cells #[.int .i64 F, .slice ao k c] 24)).alloc (.cells #[.int .u64 (hI x), .int .u64 (lI x)] 43)) (.cells #[.int .u64 0, .int .u64 0, .int .i64 0, .int .i64 0] 47)
  have q4 := bl1 (((w.alloc (.cells #[.int .i64 F, .slice ao k c] 24)).alloc (.cells #[.int .u64 (hI x), .int .u64 (lI x)] 43)).alloc (.cells #[.int .u64 0, .int .u64 0, .int .i64 0, .int .i64 0] 47)) (.cells #[.bool false] 4)
  have HB0 := hidX (keepb q4 (keepb q3 (keepb q2 q1)))
  have t0 : ((((w.alloc (.cells #[.int .i64 F, .slice ao k c] 24)).alloc (.cells #[.int .u64 (hI x), .int .u64 (lI x)] 43)).alloc (.cells #[.int .u64 0, .int .u64 0, .int .i64 0, .int .i64 0] 47)).alloc (.cells #[.bool false] 4)).heap[w.heap.size]? = some (.cells #[.int .i64 F, .slice ao k c] 24) := (q4.block _ (by simp; omega)).trans ((q3.block _ (by simp; omega)).trans ((q2.block _ (by simp)).trans Array.getElem?_push_size))
  have x0 : ((((w.alloc (.cells #[.int .i64 F, .slice ao k c] 24)).alloc (.cells #[.int .u64 (hI x), .int .u64 (lI x)] 43)).alloc (.cells #[.int .u64 0, .int .u64 0, .int .i64 0, .int .i64 0] 47)).alloc (.cells #[.bool false] 4)).heap[w.heap.size + 1]? = some (.cells #[.int .u64 (hI x), .int .u64 (lI x)] 43) := (q4.block _ (by simp)).trans ((q3.block _ (by simp)).trans (by have := World.alloc_heap_new (w.alloc (.cells #[.int .i64 F, .slice ao k c] 24)) (.cells #[.int .u64 (hI x), .int .u64 (lI x)] 43); rwa [World.size_alloc] at this))
  have r0 : ((((w.alloc (.cells #[.int .i64 F, .slice ao k c] 24)).alloc (.cells #[.int .u64 (hI x), .int .u64 (lI x)] 43)).alloc (.cells #[.int .u64 0, .int .u64 0, .int .i64 0, .int .i64 0] 47)).alloc (.cells #[.bool false] 4)).heap[w.heap.size + 2]? = some (.cells #[.int .u64 0, .int .u64 0, .int .i64 0, .int .i64 0] 47) := (q4.block _ (by simp)).trans (by have := World.alloc_heap_new ((w.alloc (.cells #[.int .i64 F, .slice ao k c] 24)).alloc (.cells #[.int .u64 (hI x), .int .u64 (lI x)] 43)) (.cells #[.int .u64 0, .int .u64 0, .int .i64 0, .int .i64 0] 47); rwa [World.size_alloc, World.size_alloc] at this)
  have b0 : ((((w.alloc (.cells #[.int .i64 F, .slice ao k c] 24)).alloc (.cells #[.int .u64 (hI x), .int .u64 (lI x)] 43)).alloc (.cells #[.int .u64 0, .int .u64 0, .int .i64 0, .int .i64 0] 47)).alloc (.cells #[.bool false] 4)).heap[w.heap.size + 3]? = some (.cells #[.bool false] 4) := by have := World.alloc_heap_new (((w.alloc (.cells #[.int .i64 F, .slice ao k c] 24)).alloc (.cells #[.int .u64 (hI x), .int .u64 (lI x)] 43)).alloc (.cells #[.int .u64 0, .int .u64 0, .int .i64 0, .int .i64 0] 47)) (.cells #[.bool false] 4); rwa [World.size_alloc, World.size_alloc, World.size_alloc] at this
  have HS0 : Hid (((((w.alloc (.cells #[.int .i64 F, .slice ao k c] 24)).alloc (.cells #[.int .u64 (hI x), .int .u64 (lI x)] 43)).alloc (.cells #[.int .u64 0, .int .u64 0, .int .i64 0, .int .i64 0] 47)).alloc (.cells #[.bool false] 4)).heap.size = w.heap.size + 4) := hidX (by simp)
  refine (callsIn_wide (n := 9)).1 ?_
  refine callsIn_of_wp_marks Tryz.func38 rfl trivial ?_ rfl
  simp only [Tryz.ntmps38, List.size_toArray, List.length_cons, List.length_nil, Nat.reduceAdd, Nat.reduceSub, Array.replicate_succ, Array.replicate_zero, List.push_toArray, List.append_toArray, List.nil_append, List.cons_append]
  refine wpIn_wide.2 ?_
  clear q1 q2 q3 q4
  have HT0 := hidX t0
  have HX0 := hidX x0
  have HR2 := hidX r0
  have HB3 := hidX b0
  have t1 := at_blk t0 0 (.int .i64 F) rfl
  have t2 := at_blk t0 1 (.slice ao k c) rfl
  have x1 := at_blk x0 0 (.int .u64 (hI x)) rfl
  have x2 := at_blk x0 1 (.int .u64 (lI x)) rfl
  clear t0 x0 r0 b0
  go_wp2_with fail
  revert HB0 HT0 HX0 HR2 HB3 HS0
  generalize (((w.alloc (.cells #[.int .i64 F, .slice ao k c] 24)).alloc (.cells #[.int .u64 (hI x), .int .u64 (lI x)] 43)).alloc (.cells #[.int .u64 0, .int .u64 0, .int .i64 0, .int .i64 0] 47)).alloc (.cells #[.bool false] 4) = V0
  intro HB0 HS0 HT0 HX0 HR2 HB3
  clear t1 t2 x1 x2
  refine (KU V0).mono ?_
  rintro e Wl ⟨rfl, rfl⟩
  have s0 := HS0.out
  rw [s0]
  have k1 := bl1 V0 (.cells #[.slice ao k c] 22)
  have k2 := bl1 (V0.alloc (.cells #[.slice ao k c] 22)) (.cells #[.int .u64 (hI x), .int .u64 (lI x), .int .i64 F] 45)
  have kk := keepb k2 k1
  have HB1 := hidX (keepb kk HB0.out)
  have HM2 := hidX ((kk.block _ (blk_lt5 HR2.out)).trans HR2.out)
  have HM3 := hidX ((kk.block _ (blk_lt5 HB3.out)).trans HB3.out)
  have HL5 : Hid (((V0.alloc (.cells #[.slice ao k c] 22)).alloc (.cells #[.int .u64 (hI x), .int .u64 (lI x), .int .i64 F] 45)).cell? ⟨w.heap.size + 4, 0, none⟩ = some (.slice ao k c)) := hidX (by
    have := (k2.block _ (by simp)).trans (World.alloc_heap_new V0 (.cells #[.slice ao k c] 22))
    rw [s0] at this
    exact at_blk this 0 (.slice ao k c) rfl)
  have HP5 : Hid (((V0.alloc (.cells #[.slice ao k c] 22)).alloc (.cells #[.int .u64 (hI x), .int .u64 (lI x), .int .i64 F] 45)).heap[w.heap.size + 4 + 1]? = some (.cells #[.int .u64 (hI x), .int .u64 (lI x), .int .i64 F] 45)) := hidX (by
    have := World.alloc_heap_new (V0.alloc (.cells #[.slice ao k c] 22)) (.cells #[.int .u64 (hI x), .int .u64 (lI x), .int .i64 F] 45)
    rwa [World.size_alloc, s0] at this)
  have hsl : ((V0.alloc (.cells #[.slice ao k c] 22)).alloc (.cells #[.int .u64 (hI x), .int .u64 (lI x), .int .i64 F] 45)).heap.size = w.heap.size + 6 := by simp [s0]
  clear k1 k2 kk s0 HS0 HR2 HB3 HT0 HX0 HB0 KU
  revert HB1 HM2 HM3 HL5 HP5 hsl
  generalize (V0.alloc (.cells #[.slice ao k c] 22)).alloc (.cells #[.int .u64 (hI x), .int .u64 (lI x), .int .i64 F] 45) = Wl
  obtain ⟨L5, hL5⟩ : ∃ L5, L5 = w.heap.size + 4 := ⟨_, rfl⟩
  obtain ⟨P5, hP5⟩ : ∃ P5, P5 = w.heap.size + 4 + 1 := ⟨_, rfl⟩
  rw [← hP5, ← hL5]
  intro HB1 HM2 HM3 HL5 HP5 hsl
  have HPL := hidX (And.intro hP5 hL5)
  clear hP5 hL5
  go_wp2_with fail
  obtain ⟨hP5, hL5⟩ := HPL.out
  refine (wpIn_wide (n := 9)).1 ?_
  refine rangeZ 9 (by decide) (gf := 81) (lb := #[.pointer (some ⟨P5, 0, none⟩), .pointer (some ⟨L5, 0, none⟩)]) rfl (enters_of Tryz.func81 (by kernel_rfl) rfl)
    (HSq.out Wl P5 L5 HB1.out HP5.out HL5.out) (by rintro z (q | q | q); omega; omega; have := HZb.out _ q; omega) (Below.refl _ _) (fun _ => rfl)
    (fun pre V => (pre = [] ∧ V.heap[w.heap.size + 2]? = some (.cells #[.int .u64 0, .int .u64 0, .int .i64 0, .int .i64 0] 47) ∧ V.heap[w.heap.size + 3]? = some (.cells #[.bool false] 4) ∧ Wl.heap.size ≤ V.heap.size) ∧ Below w.heap.size w V)
    (fun cd pre V => (cd = .ret ∧ ∃ r : Rte, pre = [r] ∧ V.heap[w.heap.size + 2]? = some (.cells #[.int .u64 (hI r.1.1), .int .u64 (lI r.1.1), .int .i64 r.1.2, .int .i64 r.2] 47) ∧ V.heap[w.heap.size + 3]? = some (.cells #[.bool true] 4)) ∧ Below w.heap.size w V)
    (fun s A B hs hb => ⟨⟨hs.1.1, hb.same _ _ hs.1.2.1 (.inl (by omega)), hb.same _ _ hs.1.2.2.1 (.inl (by omega)), Nat.le_trans hs.1.2.2.2 hb.size⟩, hb.low hs.2 (by omega)⟩)
    (fun cd s A B hs hb => by obtain ⟨⟨e0, r, e1, e2, e3⟩, e4⟩ := hs; exact ⟨⟨e0, r, e1, hb.same _ _ e2 (.inl (by omega)), hb.same _ _ e3 (.inl (by omega))⟩, hb.low e4 (by omega)⟩)
    ⟨⟨rfl, HM2.out, HM3.out, Nat.le_refl _⟩, HB1.out⟩
    (fun _ z => z = w.heap.size + 2 ∨ z = w.heap.size + 3)
    (fun s A hs z hz => ⟨by have h1 := blk_lt5 hs.1.2.1; have h2 := blk_lt5 hs.1.2.2.1; omega, by rintro (q | q | q); omega; omega; have := HZb.out _ q; omega⟩)
    (fun s A B hs hg z hz => hz)
    (fun r a' V => ∃ N, Wl.heap.size ≤ N ∧ V.heap[N]? = some (.cells #[.int .u64 (hI r.1.1), .int .u64 (lI r.1.1), .int .i64 r.1.2, .int .i64 r.2] 47) ∧ a' = { tmps := #[.agg #[.int .i64 F, .slice ao k c], .agg #[.int .u64 (hI x), .int .u64 (lI x)], .pointer (some ⟨w.heap.size, 0, none⟩), .pointer (some ⟨w.heap.size + 1, 0, none⟩), .pointer (some ⟨w.heap.size + 1 + 1, 0, none⟩), .pointer (some ⟨w.heap.size + 1 + 1 + 1, 0, none⟩), .pointer (some ⟨N, 0, none⟩), .pointer (some ⟨w.heap.size, 1, none⟩), .slice ao k c, .agg #[.int .u64 (hI x), .int .u64 (lI x)], .pointer (some ⟨w.heap.size, 0, none⟩), .int .i64 F, .agg #[.int .u64 (hI x), .int .u64 (lI x), .int .i64 F], .func (.func 81) #[] #[.pointer (some ⟨P5, 0, none⟩), .pointer (some ⟨L5, 0, none⟩)], .agg #[.int .u64 (hI r.1.1), .int .u64 (lI r.1.1), .int .i64 r.1.2, .int .i64 r.2], undef, undef], defers := [] })
    (fun r a' A o o' hs h1 h2 => by
      obtain ⟨N, e1, e2, e3⟩ := hs
      refine ⟨N, e1, ?_, e3⟩
      by_cases c : N = Wl.heap.size + 1
      · subst c; rw [h1] at e2; cases e2; cases h2
      · exact (World.putObj_heap_other (by omega)).trans e2) ?assign ?body ?done ?stop
  case assign =>
    rintro lo pre r V K hi hK
    have hb := bl1 V (.cells #[.int .u64 (hI r.1.1), .int .u64 (lI r.1.1), .int .i64 r.1.2, .int .i64 r.2] 47)
    have hN : Wl.heap.size ≤ V.heap.size := hi.1.2.2.2
    clear hP5 hL5
    have HK := hidX (fun a' h => hK a' (V.alloc (.cells #[.int .u64 (hI r.1.1), .int .u64 (lI r.1.1), .int .i64 r.1.2, .int .i64 r.2] 47)) ⟨hb.size, fun z o h1 h2 _ => (hb.block z (Array.getElem?_eq_some_iff.1 h2).1).trans h2⟩ ⟨hb.size, fun z o hz _ => (hb.block z (blk_lt5 hz)).trans hz, fun z hz => .inl hz⟩ ⟨⟨hi.1.1, (hb.block _ (blk_lt5 hi.1.2.1)).trans hi.1.2.1, (hb.block _ (blk_lt5 hi.1.2.2.1)).trans hi.1.2.2.1, Nat.le_trans hN hb.size⟩, keepb hb hi.2⟩ ⟨V.heap.size, hN, Array.getElem?_push_size, h⟩)
    clear hK hi hb
    unfold encR
    simp only [List.zip_toArray, List.zip_cons_cons, List.zip_nil_left, List.zip_nil_right, List.foldl_toArray, List.foldl_cons, List.foldl_nil, List.setIfInBounds_toArray, List.set_cons_zero, List.set_cons_succ, Array.zip]
    gi_wp2
    exact HK.out _ rfl
  case body =>
    clear hP5 hL5
    rintro lo pre r a' V hl9 - ⟨⟨rfl, hi1, hi2, -⟩, hi3⟩ ⟨N, e1, e2, rfl⟩ hlt
    have n0 := at_blk e2 0 (.int .u64 (hI r.1.1)) rfl
    have n1 := at_blk e2 1 (.int .u64 (lI r.1.1)) rfl
    have n2 := at_blk e2 2 (.int .i64 r.1.2) rfl
    have n3 := at_blk e2 3 (.int .i64 r.2) rfl
    have a0 := at_blk hi1 0 (.int .u64 0) rfl
    have a1 := at_blk hi1 1 (.int .u64 0) rfl
    have a2 := at_blk hi1 2 (.int .i64 0) rfl
    have a3 := at_blk hi1 3 (.int .i64 0) rfl
    have f0 := fr_blk5 (j := 0) hi1
    have f1 := fr_blk5 (j := 1) hi1
    have f2 := fr_blk5 (j := 2) hi1
    have f3 := fr_blk5 (j := 3) hi1
    have b0 := at_blk hi2 0 (.bool false) rfl
    have g0 := fr_blk5 (j := 0) hi2
    have HV : Hid (V.heap[w.heap.size + 2]? = some (.cells #[.int .u64 0, .int .u64 0, .int .i64 0, .int .i64 0] 47) ∧ V.heap[w.heap.size + 3]? = some (.cells #[.bool false] 4) ∧ Below w.heap.size w V) := hidX ⟨hi1, hi2, hi3⟩
    clear hi1 hi2 hi3 e1 e2
    gi_wp2
    obtain ⟨hi1, hi2, hi3⟩ := HV.out
    obtain ⟨hP5, hL5⟩ := HPL.out
    have m1 := set_blk5 (o := 3) (set_blk5 (o := 2) (set_blk5 (o := 1) (set_blk5 (o := 0) hi1 (.int .u64 (hI r.1.1))) (.int .u64 (lI r.1.1))) (.int .i64 r.1.2)) (.int .i64 r.2)
    have zz : ∀ (z : Nat), ¬ z = w.heap.size + 2 → ((((V.setCell ⟨w.heap.size + 2, 0, none⟩ (.int .u64 (hI r.1.1))).setCell ⟨w.heap.size + 2, 1, none⟩ (.int .u64 (lI r.1.1))).setCell ⟨w.heap.size + 2, 2, none⟩ (.int .i64 r.1.2)).setCell ⟨w.heap.size + 2, 3, none⟩ (.int .i64 r.2)).heap[z]? = V.heap[z]? := fun z h => hSet4 h
    refine ⟨⟨by simp, fun z o h1 h2 h3 => (hSet6 _ (by omega)).trans ((zz z (by omega)).trans h2)⟩, ⟨by simp, fun z o h1 h2 => (hSet6 _ (fun q => h2 (.inr q))).trans ((zz z (fun q => h2 (.inl q))).trans h1), fun z hz => .inl hz⟩, ⟨rfl, r, rfl, (hSet6 _ (by omega)).trans (by simpa using m1), by simpa using set_blk5 (o := 0) ((zz _ (by omega)).trans hi2) (.bool true)⟩, (bset4m hi3 (by omega) _ _ _ _).setCell (p := ⟨w.heap.size + 3, 0, none⟩) (by simp) _⟩
  case done =>
    clear hP5 hL5
    rintro D ys V hD hys ⟨⟨rfl, hi1, hi2, -⟩, hi3⟩ hK
    have a0 := at_blk hi1 0 (.int .u64 0) rfl
    have a1 := at_blk hi1 1 (.int .u64 0) rfl
    have a2 := at_blk hi1 2 (.int .i64 0) rfl
    have a3 := at_blk hi1 3 (.int .i64 0) rfl
    have f0 := fr_blk5 (j := 0) hi1
    have f1 := fr_blk5 (j := 1) hi1
    have f2 := fr_blk5 (j := 2) hi1
    have f3 := fr_blk5 (j := 3) hi1
    have b0 := at_blk hi2 0 (.bool false) rfl
    have g0 := fr_blk5 (j := 0) hi2
    have HV : Hid (V.heap[w.heap.size + 2]? = some (.cells #[.int .u64 0, .int .u64 0, .int .i64 0, .int .i64 0] 47) ∧ V.heap[w.heap.size + 3]? = some (.cells #[.bool false] 4) ∧ Below w.heap.size w V ∧ V.heap[D]? = some (.deferred (some []))) := hidX ⟨hi1, hi2, hi3, hK⟩
    clear hi1 hi2 hi3 hK
    refine wl_nilM (P := Tryz.prog) (ops := #[]) ?_
    go_wp2
    obtain ⟨hi1, hi2, hi3, hK⟩ := HV.out
    have zz : ∀ (z : Nat), ¬ z = w.heap.size + 2 → ((((V.setCell ⟨w.heap.size + 2, 0, none⟩ (.int .u64 0)).setCell ⟨w.heap.size + 2, 1, none⟩ (.int .u64 0)).setCell ⟨w.heap.size + 2, 2, none⟩ (.int .i64 0)).setCell ⟨w.heap.size + 2, 3, none⟩ (.int .i64 0)).heap[z]? = V.heap[z]? := fun z h => hSet4 h
    have m1 : (((((V.setCell ⟨w.heap.size + 2, 0, none⟩ (.int .u64 0)).setCell ⟨w.heap.size + 2, 1, none⟩ (.int .u64 0)).setCell ⟨w.heap.size + 2, 2, none⟩ (.int .i64 0)).setCell ⟨w.heap.size + 2, 3, none⟩ (.int .i64 0)).setCell ⟨w.heap.size + 3, 0, none⟩ (.bool false)).heap[w.heap.size + 2]? = some (.cells #[.int .u64 0, .int .u64 0, .int .i64 0, .int .i64 0] 47) := (hSet6 _ (by omega)).trans (by simpa using set_blk5 (o := 3) (set_blk5 (o := 2) (set_blk5 (o := 1) (set_blk5 (o := 0) hi1 (.int .u64 0)) (.int .u64 0)) (.int .i64 0)) (.int .i64 0))
    have m2 : (((((V.setCell ⟨w.heap.size + 2, 0, none⟩ (.int .u64 0)).setCell ⟨w.heap.size + 2, 1, none⟩ (.int .u64 0)).setCell ⟨w.heap.size + 2, 2, none⟩ (.int .i64 0)).setCell ⟨w.heap.size + 2, 3, none⟩ (.int .i64 0)).setCell ⟨w.heap.size + 3, 0, none⟩ (.bool false)).heap[w.heap.size + 3]? = some (.cells #[.bool false] 4) := by simpa using set_blk5 (o := 0) ((zz _ (by omega)).trans hi2) (.bool false)
    have m3 : (((((V.setCell ⟨w.heap.size + 2, 0, none⟩ (.int .u64 0)).setCell ⟨w.heap.size + 2, 1, none⟩ (.int .u64 0)).setCell ⟨w.heap.size + 2, 2, none⟩ (.int .i64 0)).setCell ⟨w.heap.size + 2, 3, none⟩ (.int .i64 0)).setCell ⟨w.heap.size + 3, 0, none⟩ (.bool false)).heap[D]? = some (.deferred (some [])) := (hSet6 _ (by omega)).trans ((zz D (by omega)).trans hK)
    have m4 : Below w.heap.size w (((((V.setCell ⟨w.heap.size + 2, 0, none⟩ (.int .u64 0)).setCell ⟨w.heap.size + 2, 1, none⟩ (.int .u64 0)).setCell ⟨w.heap.size + 2, 2, none⟩ (.int .i64 0)).setCell ⟨w.heap.size + 2, 3, none⟩ (.int .i64 0)).setCell ⟨w.heap.size + 3, 0, none⟩ (.bool false)) := (bset4m hi3 (by omega) _ _ _ _).setCell (p := ⟨w.heap.size + 3, 0, none⟩) (by simp) _
    refine ⟨by simp, .inl ⟨_, _, rfl, run_takeDeferred m3, ?_⟩⟩
    revert m1 m2 m3 m4
    generalize (((((V.setCell ⟨w.heap.size + 2, 0, none⟩ (.int .u64 0)).setCell ⟨w.heap.size + 2, 1, none⟩ (.int .u64 0)).setCell ⟨w.heap.size + 2, 2, none⟩ (.int .i64 0)).setCell ⟨w.heap.size + 2, 3, none⟩ (.int .i64 0)).setCell ⟨w.heap.size + 3, 0, none⟩ (.bool false)) = V3
    intro m1 m2 m3 m4
    clear a0 a1 a2 a3 f0 f1 f2 f3 b0 g0 zz
    have d2 := (World.putObj_heap_other (w := V3) (r := D) (o := .deferred none) (k := w.heap.size + 2) (by omega)).trans m1
    have d3 := (World.putObj_heap_other (w := V3) (r := D) (o := .deferred none) (k := w.heap.size + 3) (by omega)).trans m2
    have r0 := at_blk d2 0 (.int .u64 0) rfl
    have r1 := at_blk d2 1 (.int .u64 0) rfl
    have r2 := at_blk d2 2 (.int .i64 0) rfl
    have r3 := at_blk d2 3 (.int .i64 0) rfl
    have s0 := at_blk d3 0 (.bool false) rfl
    refine ⟨.tuple #[.agg #[.int .u64 0, .int .u64 0, .int .i64 0, .int .i64 0], .bool false], ?_, by rw [← hys]; simp [fstR, hI_zero, lI_zero], m4.trans (belowK_b (w := w) (Nat.le_refl _) _ D _ _ (by omega) m3 rfl rfl)⟩
    simp [results, Tryz.results38, go_sem, r0, r1, r2, r3, s0]
  case stop =>
    clear hP5 hL5
    rintro D cd pre V hD hpre ⟨⟨rfl, r, rfl, e2, e3⟩, hi3⟩ hK
    refine (wpIn_wide (n := 9)).2 ?_
    go_wp2
    refine ⟨by simp, .inl ⟨_, _, rfl, run_takeDeferred hK, ?_⟩⟩
    have d2 := (World.putObj_heap_other (w := V) (r := D) (o := .deferred none) (k := w.heap.size + 2) (by omega)).trans e2
    have d3 := (World.putObj_heap_other (w := V) (r := D) (o := .deferred none) (k := w.heap.size + 3) (by omega)).trans e3
    have r0 := at_blk d2 0 (.int .u64 (hI r.1.1)) rfl
    have r1 := at_blk d2 1 (.int .u64 (lI r.1.1)) rfl
    have r2 := at_blk d2 2 (.int .i64 r.1.2) rfl
    have r3 := at_blk d2 3 (.int .i64 r.2) rfl
    have s0 := at_blk d3 0 (.bool true) rfl
    obtain ⟨t, ht⟩ := hpre
    refine ⟨.tuple #[.agg #[.int .u64 (hI r.1.1), .int .u64 (lI r.1.1), .int .i64 r.1.2, .int .i64 r.2], .bool true], ?_, by rw [← ht]; simp [fstR], hi3.trans (belowK_b (w := w) (Nat.le_refl _) _ D _ _ (by omega) hK rfl rfl)⟩
    simp [results, Tryz.results38, go_sem, r0, r1, r2, r3, s0]
theorem look5_core (F : Int) (x : BitVec 128) (ao : Option Addr) (k c : Nat) (T : List Rte) (w : World)
    (KM : ∀ W, Below w.heap.size w W → Calls Tryz.prog 38 #[.agg #[.int .i64 F, .slice ao k c], .agg #[.int .u64 (hI x), .int .u64 (lI x)]] W fun e w' => e = .returned (.tuple #[.agg #[.int .u64 (hI (fstR T).1.1), .int .u64 (lI (fstR T).1.1), .int .i64 (fstR T).1.2, .int .i64 (fstR T).2], .bool (!T.isEmpty)]) ∧ Below W.heap.size W w') :
    Calls Tryz.prog 20 #[.agg #[.int .i64 F, .slice ao k c], .agg #[.int .u64 (hI x), .int .u64 (lI x)]] w fun e w' => e = .returned (.int .i64 (fstR T).2) ∧ Below w.heap.size w w' := by
  have q1 := bl1 w (.cells #[.int .i64 F, .slice ao k c] 24)
  have q2 := bl1 (w.alloc (.cells #[.int .i64 F, .slice ao k c] 24)) (.cells #[.int .u64 (hI x), .int .u64 (lI x)] 43)
  have KM := KM ((w.alloc (.cells #[.int .i64 F, .slice ao k c] 24)).alloc (.cells #[.int .u64 (hI x), .int .u64 (lI x)] 43)) (keepb q2 q1)
  have HB := hidX (keepb q2 q1)
  clear q1 q2
  revert KM
  generalize (!T.isEmpty) = ob
  generalize fstR T = r
  intro KM
  go_enter Tryz.func20, Tryz.ntmps20
  go_wp2_with fail
  refine KM.mono ?_
  rintro e V ⟨rfl, hb⟩
  have HB2 := hidX (keepb hb HB.out)
  clear hb HB KM
  go_wp2
  exact bodyPost_ret (v := .int .i64 r.2) (by simp [results, Tryz.results20, go_sem]) rfl ⟨rfl, keepb (bl1 V _) HB2.out⟩
theorem match5_any (F : Int) (x : BitVec 128) (b off c : Nat) (l : List Rte) (w : World) (hF : F ≤ 128) (hO : OrdR l) (hRt : RtR F l) (hp : Rt F x F) (hlc : l.length ≤ c) (hc0 : 0 < c) (hl : l.length ≤ 1000000000) (hR : RwB w b off l) (hbw : b < w.heap.size) :
    Calls Tryz.prog 38 #[.agg #[.int .i64 F, .slice (some ⟨b, off, none⟩) l.length c], .agg #[.int .u64 (hI x), .int .u64 (lI x)]] w fun e w' => (∃ ys : List Rte, ys = (l.filter (inR x F)).reverse ∧ e = .returned (.tuple #[.agg #[.int .u64 (hI (fstR ys).1.1), .int .u64 (lI (fstR ys).1.1), .int .i64 (fstR ys).1.2, .int .i64 (fstR ys).2], .bool (!ys.isEmpty)])) ∧ Below w.heap.size w w' :=
  (match5_core F x (some ⟨b, off, none⟩) l.length c (l.filter (inR x F)).reverse w (fun z => z = b) (fun z h => by omega) (fun W => upw_any b off c x F l W)
    (fun Wl P5 L5 hB hP hL => upw1_any (9 - 1) P5 L5 b off c F x F l hF hO hRt hp hlc hc0 hl Wl ⟨hP, hL, fun j u hj => keepc hB (hR j u hj)⟩)).mono (fun e w' h => ⟨⟨_, rfl, h.1⟩, h.2⟩)
theorem look5_any (F : Int) (x : BitVec 128) (b off c : Nat) (l : List Rte) (w : World) (hF : F ≤ 128) (hO : OrdR l) (hRt : RtR F l) (hp : Rt F x F) (hlc : l.length ≤ c) (hc0 : 0 < c) (hl : l.length ≤ 1000000000) (hR : RwB w b off l) (hbw : b < w.heap.size) :
    Calls Tryz.prog 20 #[.agg #[.int .i64 F, .slice (some ⟨b, off, none⟩) l.length c], .agg #[.int .u64 (hI x), .int .u64 (lI x)]] w fun e w' => (∃ ys : List Rte, ys = (l.filter (inR x F)).reverse ∧ e = .returned (.int .i64 (fstR ys).2)) ∧ Below w.heap.size w w' :=
  (look5_core F x (some ⟨b, off, none⟩) l.length c (l.filter (inR x F)).reverse w (fun W hW => (match5_any F x b off c l W hF hO hRt hp hlc hc0 hl (fun j u hj => keepc hW (hR j u hj)) (by have := hW.size; omega)).mono (fun e w' ⟨⟨ys, h1, h2⟩, h3⟩ => ⟨by rw [← h1]; exact h2, h3⟩))).mono (fun e w' h => ⟨⟨_, rfl, h.1⟩, h.2⟩)
end Go.Proofs.YtpiicdpipjjenaaGreatDoor
namespace Go.Proofs.YtpiicdpipjjenaaGreatDoor
open Go.RowKit Go.Shelf
set_option linter.unusedSimpArgs false
set_option linter.unusedVariables false
attribute [local go_sem] Oper.semAt_some

def exS5 : ByteArray := ⟨#[49, 48, 46, 48, 46, 48, 46, 48, 47, 56, 32, 49, 32, 35, 32, 116, 101, 110, 10, 49, 48, 46, 49, 46, 48, 46, 48, 47, 49, 54, 32, 50, 10, 49, 48, 46, 48, 46, 48, 46, 48, 47, 56, 32, 51]⟩
def exA5 : Rte := ((BitVec.ofNat 128 (10 * 2 ^ 120), 8), 1)
def exB5 : Rte := ((BitVec.ofNat 128 (10 * 2 ^ 120 + 2 ^ 112), 16), 2)
def exC5 : Rte := ((BitVec.ofNat 128 (10 * 2 ^ 120), 8), 3)
set_option maxRecDepth 100000 in
theorem ex_lns5 : lnsR 32 exS5 (exS5.size + 1) 0 1 0 [] 0 = ((0, 0, 0), [exA5, exB5, exC5]) := by kernel_rfl
theorem ex_srt5 : isrt [exA5, exB5, exC5] = [exA5, exC5, exB5] := by kernel_rfl
theorem ex_ltl5 : ltL [exA5, exC5, exB5] = [exC5, exB5] := by kernel_rfl
theorem ex_row5 : rowR [exC5, exB5] = [.int .u64 720575940379279360, .int .u64 0, .int .i64 8, .int .i64 3, .int .u64 720857415355990016, .int .u64 0, .int .i64 16, .int .i64 2] := by kernel_rfl
def exW5 : BitVec 128 := BitVec.ofNat 128 (720859627264147456 * 2 ^ 64)
theorem ex_hi5 : hI exW5 = 720859627264147456 ∧ lI exW5 = 0 := by decide +kernel
theorem ex_fil5 : (([exC5, exB5] : List Rte).filter (inR exW5 32)).reverse = [exB5, exC5] := by kernel_rfl
theorem ex_ord5 : OrdR [exC5, exB5] := by
  intro a b hb hab
  have : b = 1 ∧ a = 0 := by simp at hb; omega
  obtain ⟨rfl, rfl⟩ := this
  show pcmpZ exC5.1.1 exC5.1.2 exB5.1.1 exB5.1.2 < 0
  decide +kernel
theorem ex_rt5 : RtR 32 [exC5, exB5] := by
  intro r hr
  simp at hr
  rcases hr with rfl | rfl
  · exact ⟨by decide, by decide, by decide +kernel⟩
  · exact ⟨by decide, by decide, by decide +kernel⟩
theorem ex_wrt5 : Rt 32 exW5 32 := ⟨by decide, by decide, by decide +kernel⟩
theorem ex_par5 (w : World) : Calls Tryz.prog 15 #[.int .i64 32, .string exS5] w fun e w' => (∃ b off c, e = .returned (.tuple #[.agg #[.int .i64 32, .slice (some ⟨b, off, none⟩) 2 c], .agg #[.int .i64 0, .int .i64 0, .int .i64 0]]) ∧ RwB w' b off [exC5, exB5] ∧ 2 ≤ c) ∧ Below w.heap.size w w' := by
  have K := parseS_any 32 exS5 w rfl (by decide) [exA5, exB5, exC5] (isrt [exA5, exB5, exC5]) ex_lns5 (by decide) (by decide) (fun base g c W h => sortS_any base g c 3 [exA5, exB5, exC5] W h (by decide))
  rw [ex_srt5, ex_ltl5] at K
  refine K.mono ?_
  rintro e w' ⟨⟨v, rfl, hv⟩, hb⟩
  refine ⟨?_, hb⟩
  obtain ⟨-, ao, c, rfl, h1, h⟩ := hv
  rcases h with ⟨-, -, h⟩ | ⟨b, off, rfl, h⟩
  · cases h
  · exact ⟨b, off, c, rfl, h, h1⟩
set_option maxRecDepth 20000 in
set_option maxHeartbeats 4000000 in
theorem known5_any (w : World) : Calls Tryz.prog 5 #[] w fun e w' => e = .returned (.bool true) ∧ Below w.heap.size w w' := by
  have KP := ex_par5 w
  unfold exS5 at KP
  go_enter Tryz.func5, Tryz.ntmps5
  go_wp2_with fail
  refine KP.mono ?_
  rintro e w2 ⟨⟨b, off, c, rfl, hR, hc⟩, hb⟩
  have q1 := bl1 w2 (.cells #[.int .i64 32, .slice (some ⟨b, off, none⟩) 2 c] 24)
  have q2 := bl1 (w2.alloc (.cells #[.int .i64 32, .slice (some ⟨b, off, none⟩) 2 c] 24)) (.cells #[.int .i64 0, .int .i64 0, .int .i64 0] 37)
  have hR2 := (hR.below q1).below q2
  have HB2 := hidX (keepb q2 (keepb q1 hb))
  have hbw : b < w2.heap.size := cell_in (hR 0 _ (by rw [ex_row5]; rfl))
  have c3 := hR2 3 (.int .i64 3) (by rw [ex_row5]; rfl)
  have KL := look5_any 32 exW5 b off c [exC5, exB5] _ (by decide) ex_ord5 ex_rt5 ex_wrt5 hc (by omega) (by decide) hR2 (by simp; omega)
  rw [ex_hi5.1, ex_hi5.2, ex_fil5] at KL
  have HL := hidX KL
  clear KL q1 q2 hb hR hR2 KP
  go_wp2_with fail
  refine (show Calls _ _ _ _ _ from HL.out).mono ?_
  rintro e w3 ⟨⟨ys, rfl, rfl⟩, hb3⟩
  have HB3 := hidX (keepb hb3 HB2.out)
  rw [show (fstR [exB5, exC5]).2 = 2 from rfl]
  clear HL HB2 c3 hb3
  go_wp2
  exact bodyPost_ret (v := .bool true) (by simp [results, Tryz.results5, go_sem]) rfl ⟨rfl, HB3.out⟩
end Go.Proofs.YtpiicdpipjjenaaGreatDoor
namespace Go.Proofs.YtpiicdpipjjenaaGreatDoor
open Go.RowKit
set_option linter.unusedSimpArgs false
set_option linter.unusedVariables false

theorem own_cell6 {W : World} {base e size n g cap : Nat} {xs : List Value} (h : W.ownsRow base e size (.slice (some ⟨g, 0, none⟩) n cap) n xs) (j : Nat) (hj : j < n * size) : (∃ u, W.cell? ⟨g, j, none⟩ = some u) ∧ W.frozen? ⟨g, j, none⟩ = false := by
  rcases h.2 with ⟨h', _⟩ | ⟨g', cap', cur, h', hb, hg, hnc, hcm, hcs, htake⟩
  · cases h'
  · simp only [Value.slice.injEq, Option.some.injEq, Addr.mk.injEq, and_true, true_and] at h'
    obtain ⟨rfl, rfl⟩ := h'
    have hs : j < cur.size := by
      rw [hcs]
      exact Nat.lt_of_lt_of_le hj (Nat.mul_le_mul_right _ hnc)
    refine ⟨⟨cur[j], ?_⟩, ?_⟩
    · simp [World.cell?, hg, hs]
    · simp [World.frozen?, hg]
end Go.Proofs.YtpiicdpipjjenaaGreatDoor
