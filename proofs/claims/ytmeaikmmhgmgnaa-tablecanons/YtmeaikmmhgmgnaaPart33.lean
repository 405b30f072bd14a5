/-
  Part 33 of the proof: 4 texts, one behind the other.
-/
import Derived.Test.YtmeaikmmhgmgnaaPart30
import Derived.Test.YtmeaikmmhgmgnaaPart29
import Derived.Test.YtmeaikmmhgmgnaaPart32
import Derived.Test.YtmeaikmmhgmgnaaPart28
import Derived.Test.YtmeaikmmhgmgnaaPart21
import Derived.Test.YtmeaikmmhgmgnaaPart25
import Derived.Test.YtmeaikmmhgmgnaaPart27
/-
  What Match of a table tells.
-/
namespace Go.Proofs.Ytmeaikmmhgmgnaa
open Go.RowKit Go.Shelf
set_option linter.unusedSimpArgs false
set_option linter.unusedVariables false
attribute [local go_sem] Oper.semAt_some

theorem wl_nilM {P : Program} {ops : Array Oper} {Q : Exit → Act → World → Prop} {a : Act} {w : World} (h : wpList P ops Q [] a w) : Q .normal a w := h
/-- The first of a list, as a route in memory. -/
def fstR (l : List Rte) : Rte := l.head?.getD ((0#128, 0), 0)
set_option maxRecDepth 100000 in
set_option maxHeartbeats 16000000 in
theorem match5_core (F : Int) (x : BitVec 128) (ao : Option Addr) (k c : Nat) (T : List Rte) (w : World) (Zb : Nat → Prop) (hZb : ∀ z, Zb z → z < w.heap.size)
    (KU : ∀ W, Calls Try.prog 42 #[.slice ao k c, .agg #[.int .u64 (hI x), .int .u64 (lI x), .int .i64 F]] W fun e w' => e = .returned (.func (.func 55) #[] #[.pointer (some ⟨W.heap.size + 1, 0, none⟩), .pointer (some ⟨W.heap.size, 0, none⟩)]) ∧ w' = (W.alloc (.cells #[.slice ao k c] 22)).alloc (.cells #[.int .u64 (hI x), .int .u64 (lI x), .int .i64 F] 38))
    (hSq : ∀ (Wl : World) (P5 L5 : Nat), Below w.heap.size w Wl → Wl.heap[P5]? = some (.cells #[.int .u64 (hI x), .int .u64 (lI x), .int .i64 F] 38) → Wl.cell? ⟨L5, 0, none⟩ = some (.slice ao k c) → SeqZ 38 (9 - 1) Try.prog 55 #[.pointer (some ⟨P5, 0, none⟩), .pointer (some ⟨L5, 0, none⟩)] encR (fun z => z = P5 ∨ z = L5 ∨ Zb z) (fun ys => ys = T) (fun pre => pre <+: T) Wl) :
    Calls Try.prog 30 #[.agg #[.int .i64 F, .slice ao k c], .agg #[.int .u64 (hI x), .int .u64 (lI x)]] w fun e w' => e = .returned (.tuple #[.agg #[.int .u64 (hI (fstR T).1.1), .int .u64 (lI (fstR T).1.1), .int .i64 (fstR T).1.2, .int .i64 (fstR T).2], .bool (!T.isEmpty)]) ∧ Below w.heap.size w w' := by
  have HSq := hidX hSq
  have HZb := hidX hZb
  clear hSq hZb
  have q1 := bl1 w (.cells #[.int .i64 F, .slice ao k c] 25)
  have q2 := bl1 (w.alloc (.cells #[.int .i64 F, .slice ao k c] 25)) (.cells #[.int .u64 (hI x), .int .u64 (lI x)] 36)
  have q3 := bl1 ((w.alloc (.cells #[.int .i64 F, .slice ao k c] 25)).alloc (.cells #[.int .u64 (hI x), .int .u64 (lI x)] 36)) (.cells #[.int .u64 0, .int .u64 0, .int .i64 0, .int .i64 0] 40)
  have q4 := bl1 (((w.alloc (.cells #[.int .i64 F, .slice ao k c] 25)).alloc (.cells #[.int .u64 (hI x), .int .u64 (lI x)] 36)).alloc (.cells #[.int .u64 0, .int .u64 0, .int .i64 0, .int .i64 0] 40)) (.cells #[.bool false] 4)
  have HB0 := hidX (keepb q4 (keepb q3 (keepb q2 q1)))
  have t0 : ((((w.alloc (.cells #[.int .i64 F, .slice ao k c] 25)).alloc (.cells #[.int .u64 (hI x), .int .u64 (lI x)] 36)).alloc (.cells #[.int .u64 0, .int .u64 0, .int .i64 0, .int .i64 0] 40)).alloc (.cells #[.bool false] 4)).heap[w.heap.size]? = some (.cells #[.int .i64 F, .slice ao k c] 25) := (q4.block _ (by simp; omega)).trans ((q3.block _ (by simp; omega)).trans ((q2.block _ (by simp)).trans Array.getElem?_push_size))
  have x0 : ((((w.alloc (.cells #[.int .i64 F, .slice ao k c] 25)).alloc (.cells #[.int .u64 (hI x), .int .u64 (lI x)] 36)).alloc (.cells #[.int .u64 0, .int .u64 0, .int .i64 0, .int .i64 0] 40)).alloc (.cells #[.bool false] 4)).heap[w.heap.size + 1]? = some (.cells #[.int .u64 (hI x), .int .u64 (lI x)] 36) := (q4.block _ (by simp)).trans ((q3.block _ (by simp)).trans (by have := World.alloc_heap_new (w.alloc (.cells #[.int .i64 F, .slice ao k c] 25)) (.cells #[.int .u64 (hI x), .int .u64 (lI x)] 36); rwa [World.size_alloc] at this))
  have r0 : ((((w.alloc (.cells #[.int .i64 F, .slice ao k c] 25)).alloc (.cells #[.int .u64 (hI x), .int .u64 (lI x)] 36)).alloc (.cells #[.int .u64 0, .int .u64 0, .int .i64 0, .int .i64 0] 40)).alloc (.cells #[.bool false] 4)).heap[w.heap.size + 2]? = some (.cells #[.int .u64 0, .int .u64 0, .int .i64 0, .int .i64 0] 40) := (q4.block _ (by simp)).trans (by have := World.alloc_heap_new ((w.alloc (.cells #[.int .i64 F, .slice ao k c] 25)).alloc (.cells #[.int .u64 (hI x), .int .u64 (lI x)] 36)) (.cells #[.int .u64 0, .int .u64 0, .int .i64 0, .int .i64 0] 40); rwa [World.size_alloc, World.size_alloc] at this)
  have b0 : ((((w.alloc (.cells #[.int .i64 F, .slice ao k c] 25)).alloc (.cells #[.int .u64 (hI x), .int .u64 (lI x)] 36)).alloc (.cells #[.int .u64 0, .int .u64 0, .int .i64 0, .int .i64 0] 40)).alloc (.cells #[.bool false] 4)).heap[w.heap.size + 3]? = some (.cells #[.bool false] 4) := by have := World.alloc_heap_new (((w.alloc (.cells #[.int .i64 F, .slice ao k c] 25)).alloc (.cells #[.int .u64 (hI x), .int .u64 (lI x)] 36)).alloc (.cells #[.int .u64 0, .int .u64 0, .int .i64 0, .int .i64 0] 40)) (.cells #[.bool false] 4); rwa [World.size_alloc, World.size_alloc, World.size_alloc] at this
  have HS0 : Hid (((((w.alloc (.cells #[.int .i64 F, .slice ao k c] 25)).alloc (.cells #[.int .u64 (hI x), .int .u64 (lI x)] 36)).alloc (.cells #[.int .u64 0, .int .u64 0, .int .i64 0, .int .i64 0] 40)).alloc (.cells #[.bool false] 4)).heap.size = w.heap.size + 4) := hidX (by simp)
  refine (callsIn_wide (n := 9)).1 ?_
  refine callsIn_of_wp_marks Try.func30 rfl trivial ?_ rfl
  simp only [Try.ntmps30, List.size_toArray, List.length_cons, List.length_nil, Nat.reduceAdd, Nat.reduceSub, Array.replicate_succ, Array.replicate_zero, List.push_toArray, List.append_toArray, List.nil_append, List.cons_append]
  refine wpIn_wide.2 ?_
  clear q1 q2 q3 q4
  have HT0 := hidX t0
  have HX0 := hidX x0
  have HR2 := hidX r0
  have HB3 := hidX b0
  have t1 := at_blk t0 0 (.int .i64 F) rfl
  have t2 := at_blk t0 1 (.slice ao k c) rfl
  have x1 := at_blk x0 0 (.int .u64 (hI x)) rfl
  have x2 := at_blk x0 1 (.int .u64 (lI x)) rfl
  clear t0 x0 r0 b0
  go_wp2_with fail
  revert HB0 HT0 HX0 HR2 HB3 HS0
  generalize (((w.alloc (.cells #[.int .i64 F, .slice ao k c] 25)).alloc (.cells #[.int .u64 (hI x), .int .u64 (lI x)] 36)).alloc (.cells #[.int .u64 0, .int .u64 0, .int .i64 0, .int .i64 0] 40)).alloc (.cells #[.bool false] 4) = V0
  intro HB0 HS0 HT0 HX0 HR2 HB3
  clear t1 t2 x1 x2
  refine (KU V0).mono ?_
  rintro e Wl ⟨rfl, rfl⟩
  have s0 := HS0.out
  rw [s0]
  have k1 := bl1 V0 (.cells #[.slice ao k c] 22)
  have k2 := bl1 (V0.alloc (.cells #[.slice ao k c] 22)) (.cells #[.int .u64 (hI x), .int .u64 (lI x), .int .i64 F] 38)
  have kk := keepb k2 k1
  have HB1 := hidX (keepb kk HB0.out)
  have HM2 := hidX ((kk.block _ (blk_lt5 HR2.out)).trans HR2.out)
  have HM3 := hidX ((kk.block _ (blk_lt5 HB3.out)).trans HB3.out)
  have HL5 : Hid (((V0.alloc (.cells #[.slice ao k c] 22)).alloc (.cells #[.int .u64 (hI x), .int .u64 (lI x), .int .i64 F] 38)).cell? ⟨w.heap.size + 4, 0, none⟩ = some (.slice ao k c)) := hidX (by
    have := (k2.block _ (by simp)).trans (World.alloc_heap_new V0 (.cells #[.slice ao k c] 22))
    rw [s0] at this
    exact at_blk this 0 (.slice ao k c) rfl)
  have HP5 : Hid (((V0.alloc (.cells #[.slice ao k c] 22)).alloc (.cells #[.int .u64 (hI x), .int .u64 (lI x), .int .i64 F] 38)).heap[w.heap.size + 4 + 1]? = some (.cells #[.int .u64 (hI x), .int .u64 (lI x), .int .i64 F] 38)) := hidX (by
    have := World.alloc_heap_new (V0.alloc (.cells #[.slice ao k c] 22)) (.cells #[.int .u64 (hI x), .int .u64 (lI x), .int .i64 F] 38)
    rwa [World.size_alloc, s0] at this)
  have hsl : ((V0.alloc (.cells #[.slice ao k c] 22)).alloc (.cells #[.int .u64 (hI x), .int .u64 (lI x), .int .i64 F] 38)).heap.size = w.heap.size + 6 := by simp [s0]
  clear k1 k2 kk s0 HS0 HR2 HB3 HT0 HX0 HB0 KU
  revert HB1 HM2 HM3 HL5 HP5 hsl
  generalize (V0.alloc (.cells #[.slice ao k c] 22)).alloc (.cells #[.int .u64 (hI x), .int .u64 (lI x), .int .i64 F] 38) = Wl
  obtain ⟨L5, hL5⟩ : ∃ L5, L5 = w.heap.size + 4 := ⟨_, rfl⟩
  obtain ⟨P5, hP5⟩ : ∃ P5, P5 = w.heap.size + 4 + 1 := ⟨_, rfl⟩
  rw [← hP5, ← hL5]
  intro HB1 HM2 HM3 HL5 HP5 hsl
  have HPL := hidX (And.intro hP5 hL5)
  clear hP5 hL5
  go_wp2_with fail
  obtain ⟨hP5, hL5⟩ := HPL.out
  refine (wpIn_wide (n := 9)).1 ?_
  refine rangeZ 9 (by decide) (gf := 55) (lb := #[.pointer (some ⟨P5, 0, none⟩), .pointer (some ⟨L5, 0, none⟩)]) rfl (enters_of Try.func55 (by kernel_rfl) rfl)
    (HSq.out Wl P5 L5 HB1.out HP5.out HL5.out) (by rintro z (q | q | q); omega; omega; have := HZb.out _ q; omega) (Below.refl _ _) (fun _ => rfl)
    (fun pre V => (pre = [] ∧ V.heap[w.heap.size + 2]? = some (.cells #[.int .u64 0, .int .u64 0, .int .i64 0, .int .i64 0] 40) ∧ V.heap[w.heap.size + 3]? = some (.cells #[.bool false] 4) ∧ Wl.heap.size ≤ V.heap.size) ∧ Below w.heap.size w V)
    (fun cd pre V => (cd = .ret ∧ ∃ r : Rte, pre = [r] ∧ V.heap[w.heap.size + 2]? = some (.cells #[.int .u64 (hI r.1.1), .int .u64 (lI r.1.1), .int .i64 r.1.2, .int .i64 r.2] 40) ∧ V.heap[w.heap.size + 3]? = some (.cells #[.bool true] 4)) ∧ Below w.heap.size w V)
    (fun s A B hs hb => ⟨⟨hs.1.1, hb.same _ _ hs.1.2.1 (.inl (by omega)), hb.same _ _ hs.1.2.2.1 (.inl (by omega)), Nat.le_trans hs.1.2.2.2 hb.size⟩, hb.low hs.2 (by omega)⟩)
    (fun cd s A B hs hb => by obtain ⟨⟨e0, r, e1, e2, e3⟩, e4⟩ := hs; exact ⟨⟨e0, r, e1, hb.same _ _ e2 (.inl (by omega)), hb.same _ _ e3 (.inl (by omega))⟩, hb.low e4 (by omega)⟩)
    ⟨⟨rfl, HM2.out, HM3.out, Nat.le_refl _⟩, HB1.out⟩
    (fun _ z => z = w.heap.size + 2 ∨ z = w.heap.size + 3)
    (fun s A hs z hz => ⟨by have h1 := blk_lt5 hs.1.2.1; have h2 := blk_lt5 hs.1.2.2.1; omega, by rintro (q | q | q); omega; omega; have := HZb.out _ q; omega⟩)
    (fun s A B hs hg z hz => hz)
    (fun r a' V => ∃ N, Wl.heap.size ≤ N ∧ V.heap[N]? = some (.cells #[.int .u64 (hI r.1.1), .int .u64 (lI r.1.1), .int .i64 r.1.2, .int .i64 r.2] 40) ∧ a' = { tmps := #[.agg #[.int .i64 F, .slice ao k c], .agg #[.int .u64 (hI x), .int .u64 (lI x)], .pointer (some ⟨w.heap.size, 0, none⟩), .pointer (some ⟨w.heap.size + 1, 0, none⟩), .pointer (some ⟨w.heap.size + 1 + 1, 0, none⟩), .pointer (some ⟨w.heap.size + 1 + 1 + 1, 0, none⟩), .pointer (some ⟨N, 0, none⟩), .pointer (some ⟨w.heap.size, 1, none⟩), .slice ao k c, .agg #[.int .u64 (hI x), .int .u64 (lI x)], .pointer (some ⟨w.heap.size, 0, none⟩), .int .i64 F, .agg #[.int .u64 (hI x), .int .u64 (lI x), .int .i64 F], .func (.func 55) #[] #[.pointer (some ⟨P5, 0, none⟩), .pointer (some ⟨L5, 0, none⟩)], .agg #[.int .u64 (hI r.1.1), .int .u64 (lI r.1.1), .int .i64 r.1.2, .int .i64 r.2], undef, undef], defers := [] })
    (fun r a' A o o' hs h1 h2 => by
      obtain ⟨N, e1, e2, e3⟩ := hs
      refine ⟨N, e1, ?_, e3⟩
      by_cases c : N = Wl.heap.size + 1
      · subst c; rw [h1] at e2; cases e2; cases h2
      · exact (World.putObj_heap_other (by omega)).trans e2) ?assign ?body ?done ?stop
  case assign =>
    rintro lo pre r V K hi hK
    have hb := bl1 V (.cells #[.int .u64 (hI r.1.1), .int .u64 (lI r.1.1), .int .i64 r.1.2, .int .i64 r.2] 40)
    have hN : Wl.heap.size ≤ V.heap.size := hi.1.2.2.2
    clear hP5 hL5
    have HK := hidX (fun a' h => hK a' (V.alloc (.cells #[.int .u64 (hI r.1.1), .int .u64 (lI r.1.1), .int .i64 r.1.2, .int .i64 r.2] 40)) ⟨hb.size, fun z o h1 h2 _ => (hb.block z (Array.getElem?_eq_some_iff.1 h2).1).trans h2⟩ ⟨hb.size, fun z o hz _ => (hb.block z (blk_lt5 hz)).trans hz, fun z hz => .inl hz⟩ ⟨⟨hi.1.1, (hb.block _ (blk_lt5 hi.1.2.1)).trans hi.1.2.1, (hb.block _ (blk_lt5 hi.1.2.2.1)).trans hi.1.2.2.1, Nat.le_trans hN hb.size⟩, keepb hb hi.2⟩ ⟨V.heap.size, hN, Array.getElem?_push_size, h⟩)
    clear hK hi hb
    unfold encR
    simp only [List.zip_toArray, List.zip_cons_cons, List.zip_nil_left, List.zip_nil_right, List.foldl_toArray, List.foldl_cons, List.foldl_nil, List.setIfInBounds_toArray, List.set_cons_zero, List.set_cons_succ, Array.zip]
    gi_wp2
    exact HK.out _ rfl
  case body =>
    clear hP5 hL5
    rintro lo pre r a' V hl9 - ⟨⟨rfl, hi1, hi2, -⟩, hi3⟩ ⟨N, e1, e2, rfl⟩ hlt
    have n0 := at_blk e2 0 (.int .u64 (hI r.1.1)) rfl
    have n1 := at_blk e2 1 (.int .u64 (lI r.1.1)) rfl
    have n2 := at_blk e2 2 (.int .i64 r.1.2) rfl
    have n3 := at_blk e2 3 (.int .i64 r.2) rfl
    have a0 := at_blk hi1 0 (.int .u64 0) rfl
    have a1 := at_blk hi1 1 (.int .u64 0) rfl
    have a2 := at_blk hi1 2 (.int .i64 0) rfl
    have a3 := at_blk hi1 3 (.int .i64 0) rfl
    have f0 := fr_blk5 (j := 0) hi1
    have f1 := fr_blk5 (j := 1) hi1
    have f2 := fr_blk5 (j := 2) hi1
    have f3 := fr_blk5 (j := 3) hi1
    have b0 := at_blk hi2 0 (.bool false) rfl
    have g0 := fr_blk5 (j := 0) hi2
    have HV : Hid (V.heap[w.heap.size + 2]? = some (.cells #[.int .u64 0, .int .u64 0, .int .i64 0, .int .i64 0] 40) ∧ V.heap[w.heap.size + 3]? = some (.cells #[.bool false] 4) ∧ Below w.heap.size w V) := hidX ⟨hi1, hi2, hi3⟩
    clear hi1 hi2 hi3 e1 e2
    gi_wp2
    obtain ⟨hi1, hi2, hi3⟩ := HV.out
    obtain ⟨hP5, hL5⟩ := HPL.out
    have m1 := set_blk5 (o := 3) (set_blk5 (o := 2) (set_blk5 (o := 1) (set_blk5 (o := 0) hi1 (.int .u64 (hI r.1.1))) (.int .u64 (lI r.1.1))) (.int .i64 r.1.2)) (.int .i64 r.2)
    have zz : ∀ (z : Nat), ¬ z = w.heap.size + 2 → ((((V.setCell ⟨w.heap.size + 2, 0, none⟩ (.int .u64 (hI r.1.1))).setCell ⟨w.heap.size + 2, 1, none⟩ (.int .u64 (lI r.1.1))).setCell ⟨w.heap.size + 2, 2, none⟩ (.int .i64 r.1.2)).setCell ⟨w.heap.size + 2, 3, none⟩ (.int .i64 r.2)).heap[z]? = V.heap[z]? := fun z h => hSet4 h
    refine ⟨⟨by simp, fun z o h1 h2 h3 => (hSet6 _ (by omega)).trans ((zz z (by omega)).trans h2)⟩, ⟨by simp, fun z o h1 h2 => (hSet6 _ (fun q => h2 (.inr q))).trans ((zz z (fun q => h2 (.inl q))).trans h1), fun z hz => .inl hz⟩, ⟨rfl, r, rfl, (hSet6 _ (by omega)).trans (by simpa using m1), by simpa using set_blk5 (o := 0) ((zz _ (by omega)).trans hi2) (.bool true)⟩, (bset4m hi3 (by omega) _ _ _ _).setCell (p := ⟨w.heap.size + 3, 0, none⟩) (by simp) _⟩
  case done =>
    clear hP5 hL5
    rintro D ys V hD hys ⟨⟨rfl, hi1, hi2, -⟩, hi3⟩ hK
    have a0 := at_blk hi1 0 (.int .u64 0) rfl
    have a1 := at_blk hi1 1 (.int .u64 0) rfl
    have a2 := at_blk hi1 2 (.int .i64 0) rfl
    have a3 := at_blk hi1 3 (.int .i64 0) rfl
    have f0 := fr_blk5 (j := 0) hi1
    have f1 := fr_blk5 (j := 1) hi1
    have f2 := fr_blk5 (j := 2) hi1
    have f3 := fr_blk5 (j := 3) hi1
    have b0 := at_blk hi2 0 (.bool false) rfl
    have g0 := fr_blk5 (j := 0) hi2
    have HV : Hid (V.heap[w.heap.size + 2]? = some (.cells #[.int .u64 0, .int .u64 0, .int .i64 0, .int .i64 0] 40) ∧ V.heap[w.heap.size + 3]? = some (.cells #[.bool false] 4) ∧ Below w.heap.size w V ∧ V.heap[D]? = some (.deferred (some []))) := hidX ⟨hi1, hi2, hi3, hK⟩
    clear hi1 hi2 hi3 hK
    refine wl_nilM (P := Try.prog) (ops := #[]) ?_
    go_wp2
    obtain ⟨hi1, hi2, hi3, hK⟩ := HV.out
    have zz : ∀ (z : Nat), ¬ z = w.heap.size + 2 → ((((V.setCell ⟨w.heap.size + 2, 0, none⟩ (.int .u64 0)).setCell ⟨w.heap.size + 2, 1, none⟩ (.int .u64 0)).setCell ⟨w.heap.size + 2, 2, none⟩ (.int .i64 0)).setCell ⟨w.heap.size + 2, 3, none⟩ (.int .i64 0)).heap[z]? = V.heap[z]? := fun z h => hSet4 h
    have m1 : (((((V.setCell ⟨w.heap.size + 2, 0, none⟩ (.int .u64 0)).setCell ⟨w.heap.size + 2, 1, none⟩ (.int .u64 0)).setCell ⟨w.heap.size + 2, 2, none⟩ (.int .i64 0)).setCell ⟨w.heap.size + 2, 3, none⟩ (.int .i64 0)).setCell ⟨w.heap.size + 3, 0, none⟩ (.bool false)).heap[w.heap.size + 2]? = some (.cells #[.int .u64 0, .int .u64 0, .int .i64 0, .int .i64 0] 40) := (hSet6 _ (by omega)).trans (by simpa using set_blk5 (o := 3) (set_blk5 (o := 2) (set_blk5 (o := 1) (set_blk5 (o := 0) hi1 (.int .u64 0)) (.int .u64 0)) (.int .i64 0)) (.int .i64 0))
    have m2 : (((((V.setCell ⟨w.heap.size + 2, 0, none⟩ (.int .u64 0)).setCell ⟨w.heap.size + 2, 1, none⟩ (.int .u64 0)).setCell ⟨w.heap.size + 2, 2, none⟩ (.int .i64 0)).setCell ⟨w.heap.size + 2, 3, none⟩ (.int .i64 0)).setCell ⟨w.heap.size + 3, 0, none⟩ (.bool false)).heap[w.heap.size + 3]? = some (.cells #[.bool false] 4) := by simpa using set_blk5 (o := 0) ((zz _ (by omega)).trans hi2) (.bool false)
    have m3 : (((((V.setCell ⟨w.heap.size + 2, 0, none⟩ (.int .u64 0)).setCell ⟨w.heap.size + 2, 1, none⟩ (.int .u64 0)).setCell ⟨w.heap.size + 2, 2, none⟩ (.int .i64 0)).setCell ⟨w.heap.size + 2, 3, none⟩ (.int .i64 0)).setCell ⟨w.heap.size + 3, 0, none⟩ (.bool false)).heap[D]? = some (.deferred (some [])) := (hSet6 _ (by omega)).trans ((zz D (by omega)).trans hK)
    have m4 : Below w.heap.size w (((((V.setCell ⟨w.heap.size + 2, 0, none⟩ (.int .u64 0)).setCell ⟨w.heap.size + 2, 1, none⟩ (.int .u64 0)).setCell ⟨w.heap.size + 2, 2, none⟩ (.int .i64 0)).setCell ⟨w.heap.size + 2, 3, none⟩ (.int .i64 0)).setCell ⟨w.heap.size + 3, 0, none⟩ (.bool false)) := (bset4m hi3 (by omega) _ _ _ _).setCell (p := ⟨w.heap.size + 3, 0, none⟩) (by simp) _
    refine ⟨by simp, .inl ⟨_, _, rfl, run_takeDeferred m3, ?_⟩⟩
    revert m1 m2 m3 m4
    generalize (((((V.setCell ⟨w.heap.size + 2, 0, none⟩ (.int .u64 0)).setCell ⟨w.heap.size + 2, 1, none⟩ (.int .u64 0)).setCell ⟨w.heap.size + 2, 2, none⟩ (.int .i64 0)).setCell ⟨w.heap.size + 2, 3, none⟩ (.int .i64 0)).setCell ⟨w.heap.size + 3, 0, none⟩ (.bool false)) = V3
    intro m1 m2 m3 m4
    clear a0 a1 a2 a3 f0 f1 f2 f3 b0 g0 zz
    have d2 := (World.putObj_heap_other (w := V3) (r := D) (o := .deferred none) (k := w.heap.size + 2) (by omega)).trans m1
    have d3 := (World.putObj_heap_other (w := V3) (r := D) (o := .deferred none) (k := w.heap.size + 3) (by omega)).trans m2
    have r0 := at_blk d2 0 (.int .u64 0) rfl
    have r1 := at_blk d2 1 (.int .u64 0) rfl
    have r2 := at_blk d2 2 (.int .i64 0) rfl
    have r3 := at_blk d2 3 (.int .i64 0) rfl
    have s0 := at_blk d3 0 (.bool false) rfl
    refine ⟨.tuple #[.agg #[.int .u64 0, .int .u64 0, .int .i64 0, .int .i64 0], .bool false], ?_, by rw [← hys]; simp [fstR, hI_zero, lI_zero], m4.trans (belowK_b (w := w) (Nat.le_refl _) _ D _ _ (by omega) m3 rfl rfl)⟩
    simp [results, Try.results30, go_sem, r0, r1, r2, r3, s0]
  case stop =>
    clear hP5 hL5
    rintro D cd pre V hD hpre ⟨⟨rfl, r, rfl, e2, e3⟩, hi3⟩ hK
    refine (wpIn_wide (n := 9)).2 ?_
    go_wp2
    refine ⟨by simp, .inl ⟨_, _, rfl, run_takeDeferred hK, ?_⟩⟩
    have d2 := (World.putObj_heap_other (w := V) (r := D) (o := .deferred none) (k := w.heap.size + 2) (by omega)).trans e2
    have d3 := (World.putObj_heap_other (w := V) (r := D) (o := .deferred none) (k := w.heap.size + 3) (by omega)).trans e3
    have r0 := at_blk d2 0 (.int .u64 (hI r.1.1)) rfl
    have r1 := at_blk d2 1 (.int .u64 (lI r.1.1)) rfl
    have r2 := at_blk d2 2 (.int .i64 r.1.2) rfl
    have r3 := at_blk d2 3 (.int .i64 r.2) rfl
    have s0 := at_blk d3 0 (.bool true) rfl
    obtain ⟨t, ht⟩ := hpre
    refine ⟨.tuple #[.agg #[.int .u64 (hI r.1.1), .int .u64 (lI r.1.1), .int .i64 r.1.2, .int .i64 r.2], .bool true], ?_, by rw [← ht]; simp [fstR], hi3.trans (belowK_b (w := w) (Nat.le_refl _) _ D _ _ (by omega) hK rfl rfl)⟩
    simp [results, Try.results30, go_sem, r0, r1, r2, r3, s0]
/-- Lookup by Match. -/
theorem look5_core (F : Int) (x : BitVec 128) (ao : Option Addr) (k c : Nat) (T : List Rte) (w : World)
    (KM : ∀ W, Below w.heap.size w W → Calls Try.prog 30 #[.agg #[.int .i64 F, .slice ao k c], .agg #[.int .u64 (hI x), .int .u64 (lI x)]] W fun e w' => e = .returned (.tuple #[.agg #[.int .u64 (hI (fstR T).1.1), .int .u64 (lI (fstR T).1.1), .int .i64 (fstR T).1.2, .int .i64 (fstR T).2], .bool (!T.isEmpty)]) ∧ Below W.heap.size W w') :
    Calls Try.prog 14 #[.agg #[.int .i64 F, .slice ao k c], .agg #[.int .u64 (hI x), .int .u64 (lI x)]] w fun e w' => e = .returned (.int .i64 (fstR T).2) ∧ Below w.heap.size w w' := by
  have q1 := bl1 w (.cells #[.int .i64 F, .slice ao k c] 25)
  have q2 := bl1 (w.alloc (.cells #[.int .i64 F, .slice ao k c] 25)) (.cells #[.int .u64 (hI x), .int .u64 (lI x)] 36)
  have KM := KM ((w.alloc (.cells #[.int .i64 F, .slice ao k c] 25)).alloc (.cells #[.int .u64 (hI x), .int .u64 (lI x)] 36)) (keepb q2 q1)
  have HB := hidX (keepb q2 q1)
  clear q1 q2
  revert KM
  generalize (!T.isEmpty) = ob
  generalize fstR T = r
  intro KM
  go_enter Try.func14, Try.ntmps14
  go_wp2_with fail
  refine KM.mono ?_
  rintro e V ⟨rfl, hb⟩
  have HB2 := hidX (keepb hb HB.out)
  clear hb HB KM
  go_wp2
  exact bodyPost_ret (v := .int .i64 r.2) (by simp [results, Try.results14, go_sem]) rfl ⟨rfl, keepb (bl1 V _) HB2.out⟩
/-- A list in memory whose block is known. -/
theorem match5_any (F : Int) (x : BitVec 128) (b off c : Nat) (l : List Rte) (w : World) (hF : F ≤ 128) (hO : OrdR l) (hRt : RtR F l) (hp : Rt F x F) (hlc : l.length ≤ c) (hc0 : 0 < c) (hl : l.length ≤ 1000000000) (hR : RwB w b off l) (hbw : b < w.heap.size) :
    Calls Try.prog 30 #[.agg #[.int .i64 F, .slice (some ⟨b, off, none⟩) l.length c], .agg #[.int .u64 (hI x), .int .u64 (lI x)]] w fun e w' => (∃ ys : List Rte, ys = (l.filter (inR x F)).reverse ∧ e = .returned (.tuple #[.agg #[.int .u64 (hI (fstR ys).1.1), .int .u64 (lI (fstR ys).1.1), .int .i64 (fstR ys).1.2, .int .i64 (fstR ys).2], .bool (!ys.isEmpty)])) ∧ Below w.heap.size w w' :=
  (match5_core F x (some ⟨b, off, none⟩) l.length c (l.filter (inR x F)).reverse w (fun z => z = b) (fun z h => by omega) (fun W => upw_any b off c x F l W)
    (fun Wl P5 L5 hB hP hL => upw1_any (9 - 1) P5 L5 b off c F x F l hF hO hRt hp hlc hc0 hl Wl ⟨hP, hL, fun j u hj => keepc hB (hR j u hj)⟩)).mono (fun e w' h => ⟨⟨_, rfl, h.1⟩, h.2⟩)
theorem look5_any (F : Int) (x : BitVec 128) (b off c : Nat) (l : List Rte) (w : World) (hF : F ≤ 128) (hO : OrdR l) (hRt : RtR F l) (hp : Rt F x F) (hlc : l.length ≤ c) (hc0 : 0 < c) (hl : l.length ≤ 1000000000) (hR : RwB w b off l) (hbw : b < w.heap.size) :
    Calls Try.prog 14 #[.agg #[.int .i64 F, .slice (some ⟨b, off, none⟩) l.length c], .agg #[.int .u64 (hI x), .int .u64 (lI x)]] w fun e w' => (∃ ys : List Rte, ys = (l.filter (inR x F)).reverse ∧ e = .returned (.int .i64 (fstR ys).2)) ∧ Below w.heap.size w w' :=
  (look5_core F x (some ⟨b, off, none⟩) l.length c (l.filter (inR x F)).reverse w (fun W hW => (match5_any F x b off c l W hF hO hRt hp hlc hc0 hl (fun j u hj => keepc hW (hR j u hj)) (by have := hW.size; omega)).mono (fun e w' ⟨⟨ys, h1, h2⟩, h3⟩ => ⟨by rw [← h1]; exact h2, h3⟩))).mono (fun e w' h => ⟨⟨_, rfl, h.1⟩, h.2⟩)
end Go.Proofs.Ytmeaikmmhgmgnaa
/-
  The first example of the chapter.
-/
namespace Go.Proofs.Ytmeaikmmhgmgnaa
open Go.RowKit Go.Shelf
set_option linter.unusedSimpArgs false
set_option linter.unusedVariables false
attribute [local go_sem] Oper.semAt_some

def exS5 : ByteArray := ⟨#[49, 48, 46, 48, 46, 48, 46, 48, 47, 56, 32, 49, 32, 35, 32, 116, 101, 110, 10, 49, 48, 46, 49, 46, 48, 46, 48, 47, 49, 54, 32, 50, 10, 49, 48, 46, 48, 46, 48, 46, 48, 47, 56, 32, 51]⟩
def exA5 : Rte := ((BitVec.ofNat 128 (10 * 2 ^ 120), 8), 1)
def exB5 : Rte := ((BitVec.ofNat 128 (10 * 2 ^ 120 + 2 ^ 112), 16), 2)
def exC5 : Rte := ((BitVec.ofNat 128 (10 * 2 ^ 120), 8), 3)
set_option maxRecDepth 100000 in
theorem ex_lns5 : lnsR 32 exS5 (exS5.size + 1) 0 1 0 [] 0 = ((0, 0, 0), [exA5, exB5, exC5]) := by kernel_rfl
theorem ex_srt5 : isrt [exA5, exB5, exC5] = [exA5, exC5, exB5] := by kernel_rfl
theorem ex_ltl5 : ltL [exA5, exC5, exB5] = [exC5, exB5] := by kernel_rfl
theorem ex_row5 : rowR [exC5, exB5] = [.int .u64 720575940379279360, .int .u64 0, .int .i64 8, .int .i64 3, .int .u64 720857415355990016, .int .u64 0, .int .i64 16, .int .i64 2] := by kernel_rfl
def exW5 : BitVec 128 := BitVec.ofNat 128 (720859627264147456 * 2 ^ 64)
theorem ex_hi5 : hI exW5 = 720859627264147456 ∧ lI exW5 = 0 := by decide +kernel
theorem ex_fil5 : (([exC5, exB5] : List Rte).filter (inR exW5 32)).reverse = [exB5, exC5] := by kernel_rfl
theorem ex_ord5 : OrdR [exC5, exB5] := by
  intro a b hb hab
  have : b = 1 ∧ a = 0 := by simp at hb; omega
  obtain ⟨rfl, rfl⟩ := this
  show pcmpZ exC5.1.1 exC5.1.2 exB5.1.1 exB5.1.2 < 0
  decide +kernel
theorem ex_rt5 : RtR 32 [exC5, exB5] := by
  intro r hr
  simp at hr
  rcases hr with rfl | rfl
  · exact ⟨by decide, by decide, by decide +kernel⟩
  · exact ⟨by decide, by decide, by decide +kernel⟩
theorem ex_wrt5 : Rt 32 exW5 32 := ⟨by decide, by decide, by decide +kernel⟩
theorem ex_par5 (w : World) : Calls Try.prog 18 #[.int .i64 32, .string exS5] w fun e w' => (∃ b off c, e = .returned (.tuple #[.agg #[.int .i64 32, .slice (some ⟨b, off, none⟩) 2 c], .agg #[.int .i64 0, .int .i64 0, .int .i64 0]]) ∧ RwB w' b off [exC5, exB5] ∧ 2 ≤ c) ∧ Below w.heap.size w w' := by
  have K := parseS_any 32 exS5 w rfl (by decide) [exA5, exB5, exC5] (isrt [exA5, exB5, exC5]) ex_lns5 (by decide) (by decide) (fun base g c W h => sortS_any base g c 3 [exA5, exB5, exC5] W h (by decide))
  rw [ex_srt5, ex_ltl5] at K
  refine K.mono ?_
  rintro e w' ⟨⟨v, rfl, hv⟩, hb⟩
  refine ⟨?_, hb⟩
  obtain ⟨-, ao, c, rfl, h1, h⟩ := hv
  rcases h with ⟨-, -, h⟩ | ⟨b, off, rfl, h⟩
  · cases h
  · exact ⟨b, off, c, rfl, h, h1⟩
set_option maxRecDepth 20000 in
set_option maxHeartbeats 4000000 in
theorem known5_any (w : World) : Calls Try.prog 6 #[] w fun e w' => e = .returned (.bool true) ∧ Below w.heap.size w w' := by
  have KP := ex_par5 w
  unfold exS5 at KP
  go_enter Try.func6, Try.ntmps6
  go_wp2_with fail
  refine KP.mono ?_
  rintro e w2 ⟨⟨b, off, c, rfl, hR, hc⟩, hb⟩
  have q1 := bl1 w2 (.cells #[.int .i64 32, .slice (some ⟨b, off, none⟩) 2 c] 25)
  have q2 := bl1 (w2.alloc (.cells #[.int .i64 32, .slice (some ⟨b, off, none⟩) 2 c] 25)) (.cells #[.int .i64 0, .int .i64 0, .int .i64 0] 52)
  have hR2 := (hR.below q1).below q2
  have HB2 := hidX (keepb q2 (keepb q1 hb))
  have hbw : b < w2.heap.size := cell_in (hR 0 _ (by rw [ex_row5]; rfl))
  have c3 := hR2 3 (.int .i64 3) (by rw [ex_row5]; rfl)
  have KL := look5_any 32 exW5 b off c [exC5, exB5] _ (by decide) ex_ord5 ex_rt5 ex_wrt5 hc (by omega) (by decide) hR2 (by simp; omega)
  rw [ex_hi5.1, ex_hi5.2, ex_fil5] at KL
  have HL := hidX KL
  clear KL q1 q2 hb hR hR2 KP
  go_wp2_with fail
  refine (show Calls _ _ _ _ _ from HL.out).mono ?_
  rintro e w3 ⟨⟨ys, rfl, rfl⟩, hb3⟩
  have HB3 := hidX (keepb hb3 HB2.out)
  rw [show (fstR [exB5, exC5]).2 = 2 from rfl]
  clear HL HB2 c3 hb3
  go_wp2
  exact bodyPost_ret (v := .bool true) (by simp [results, Try.results6, go_sem]) rfl ⟨rfl, HB3.out⟩
end Go.Proofs.Ytmeaikmmhgmgnaa
/-
  What the call of the law's Kept of tables does.
-/
namespace Go.Proofs.Ytmeaikmmhgmgnaa
open Go.RowKit
set_option linter.unusedSimpArgs false
set_option linter.unusedVariables false

/-- All but one block is as it was. -/
def Sty (g : Nat) (W W' : World) : Prop := W'.os = W.os ∧ W'.tape = W.tape ∧ W'.output = W.output ∧ W.heap.size ≤ W'.heap.size ∧ ∀ z, z < W.heap.size → z ≠ g → W'.heap[z]? = W.heap[z]?
theorem Sty.refl (g : Nat) (W : World) : Sty g W W := ⟨rfl, rfl, rfl, Nat.le_refl _, fun _ _ _ => rfl⟩
theorem Sty.below {g : Nat} {W W' W'' : World} (h : Sty g W W') (hb : Below W'.heap.size W' W'') : Sty g W W'' := ⟨by rw [hb.os, h.1], by rw [hb.tape, h.2.1], by rw [hb.output, h.2.2.1], Nat.le_trans h.2.2.2.1 hb.size, fun z h1 h2 => by rw [hb.block z (by have := h.2.2.2.1; omega), h.2.2.2.2 z h1 h2]⟩
theorem Sty.set {g : Nat} {W W' : World} (h : Sty g W W') (j : Nat) (u : Value) : Sty g W (W'.setCell ⟨g, j, none⟩ u) := by
  have b : Below 0 W' (W'.setCell ⟨g, j, none⟩ u) := (Below.refl _ _).setCell (Nat.zero_le _) u
  exact ⟨by rw [b.os, h.1], by rw [b.tape, h.2.1], by rw [b.output, h.2.2.1], Nat.le_trans h.2.2.2.1 b.size, fun z h1 h2 => by rw [hSet _ h2, h.2.2.2.2 z h1 h2]⟩
theorem Sty.own {g : Nat} {W W' : World} (h : Sty g W W') {base e size n : Nat} {v : Value} {xs : List Value} (ho : W.ownsRow base e size v n xs) (hn : v.ownBlock ≠ some g) : W'.ownsRow base e size v n xs := own_heap ho (fun z e => h.2.2.2.2 z (ho.lt z e).2 (fun q => hn (by rw [e, q])))
theorem Sty.low {g : Nat} {w W W' : World} (h : Sty g W W') (hb : Below w.heap.size w W) (hg : w.heap.size ≤ g) : Below w.heap.size w W' := ⟨by rw [h.1, hb.os], by rw [h.2.1, hb.tape], by rw [h.2.2.1, hb.output], Nat.le_trans hb.size h.2.2.2.1, fun z hz => by rw [h.2.2.2.2 z (by have := hb.size; omega) (by omega), hb.block z hz]⟩
theorem all_get5 (l : List Rte) (k : Nat) (hk : k < l.length) (h : k < (l ++ mkR l.length 3).length) : (l ++ mkR l.length 3)[k] = l[k] := List.getElem_append_left hk
theorem all_mark5 (l : List Rte) (k : Nat) (hk : l.length ≤ k) (h : k < (l ++ mkR l.length 3).length) : (l ++ mkR l.length 3)[k] = ((0#128, 0), -7 - (k : Int)) := by
  rw [List.getElem_append_right hk]
  unfold mkR
  simp
  omega
theorem eqR5_run (w : World) (h : Int) :
    (Op.equalIn 10000 40 (.agg #[.int .u64 0, .int .u64 0, .int .i64 0, .int .i64 h]) (.agg #[.int .u64 0, .int .u64 0, .int .i64 0, .int .i64 h])).run Try.prog w = .ok true w := by
  go_simp
set_option maxRecDepth 20000 in
set_option maxHeartbeats 8000000 in
theorem kept5_any (F : Int) (v : Value) (l : List Rte) (w0 w : World) (hv : RwR w0 v l) (hB : Below w0.heap.size w0 w) (g : Nat) (hown : w.ownsRow w0.heap.size 40 4 (.slice (some ⟨g, 0, none⟩) (l.length + 3) (l.length + 3)) (l.length + 3) (rowR (l ++ mkR l.length 3))) (hl : l.length ≤ 1000000) :
    Calls Try.prog 9 #[.agg #[.int .i64 F, .slice (some ⟨g, 0, none⟩) l.length (l.length + 3)], .agg #[.int .i64 F, v]] w fun e w' => e = .returned (.bool true) ∧ Sty g w w' := by
  obtain ⟨ao, c, rfl, hv⟩ := hv
  have HV : Hid (l = [] ∨ ∃ b off, ao = some ⟨b, off, none⟩ ∧ ∀ j u, (rowR l)[j]? = some u → w0.cell? ⟨b, off + j, none⟩ = some u) := hv
  have hgb : w0.heap.size ≤ g := (hown.lt g (by simp [Value.ownBlock])).1
  have hgw : g < w.heap.size := (hown.lt g (by simp [Value.ownBlock])).2
  have q1 := bl1 w (.cells #[.int .i64 F, .slice (some ⟨g, 0, none⟩) l.length (l.length + 3)] 25)
  have q2 := bl1 (w.alloc (.cells #[.int .i64 F, .slice (some ⟨g, 0, none⟩) l.length (l.length + 3)] 25)) (.cells #[.int .i64 F, .slice ao l.length c] 25)
  have HM := hidR ((att_new w w.heap.size F (.slice (some ⟨g, 0, none⟩) l.length (l.length + 3)) 25 rfl).below q2)
  have HT := hidR (att_new (w.alloc (.cells #[.int .i64 F, .slice (some ⟨g, 0, none⟩) l.length (l.length + 3)] 25)) (w.heap.size + 1) F (.slice ao l.length c) 25 (by simp))
  have HO := hidR (own_below q2 (own_below q1 hown))
  have HS := hidR (((Sty.refl g w).below q1).below q2)
  have HB := hidR (keepb q2 (keepb q1 hB))
  clear hv hown hB q1 q2
  have m1 : IntKind.i64.wrap ((l.length : Int) + 3) = (l.length : Int) + 3 := by rw [IntKind.wrap_i64]; omega
  have hAl' : (l ++ mkR l.length 3).length = l.length + 3 := by rw [List.length_append, mkR_len]
  have ea : ((l.length : Int) + 3).toNat = l.length + 3 := by omega
  have i0 : (l.length : Int) + 3 ≤ ((l.length + 3 : Nat) : Int) := by omega
  have i0' : (0 : Int) ≤ (l.length : Int) + 3 := by omega
  have d1 : ((l.length : Int) != (l.length : Int)) = false := by simp
  have d2 : (F != F) = false := by simp
  obtain ⟨t0, t1⟩ := HT.out
  obtain ⟨y0, y1⟩ := HM.out
  go_enter Try.func9, Try.ntmps9
  go_wp2_with fail
  clear i0 i0' t0 t1 y0 y1 HM
  go_loopw [6, 7] (fun okv i wr => ∃ k : Nat, k ≤ l.length + 3 ∧ i = .int .i64 k ∧ okv = .bool true ∧ ∃ xs : List Value, Hid (xs.drop (k * 4) = (rowR (l ++ mkR l.length 3)).drop (k * 4)) ∧ Hid (wr.ownsRow w0.heap.size 40 4 (.slice (some ⟨g, 0, none⟩) (l.length + 3) (l.length + 3)) (l.length + 3) xs) ∧ Hid (AtT wr (w.heap.size + 1) F (.slice ao l.length c)) ∧ Hid (Below w0.heap.size w0 wr) ∧ Hid (Sty g w wr)) (fun _ i _ => (l.length + 3) - (intOf i).toNat)
  case atStart => exact ⟨0, by omega, rfl, rfl, _, hidR rfl, HO, HT, HB, HS⟩
  case round =>
    clear HO HB HT HS
    obtain ⟨k, hk, rfl, rfl, xs, HX, HO, HT, HB, HS⟩ := hrel
    obtain ⟨t0, t1⟩ := HT.out
    have hset : ∀ (W : World) (u0 u1 u2 u3 : Value), AtT W (w.heap.size + 1) F (.slice ao l.length c) → AtT ((((W.setCell ⟨g, k * 4, none⟩ u0).setCell ⟨g, k * 4 + 1, none⟩ u1).setCell ⟨g, k * 4 + 2, none⟩ u2).setCell ⟨g, k * 4 + 3, none⟩ u3) (w.heap.size + 1) F (.slice ao l.length c) := by
      intro W u0 u1 u2 u3 h
      have e : ((((W.setCell ⟨g, k * 4, none⟩ u0).setCell ⟨g, k * 4 + 1, none⟩ u1).setCell ⟨g, k * 4 + 2, none⟩ u2).setCell ⟨g, k * 4 + 3, none⟩ u3).heap[w.heap.size + 1]? = W.heap[w.heap.size + 1]? := by
        rw [hSet _ (by omega), hSet _ (by omega), hSet _ (by omega), hSet _ (by omega)]
      exact ⟨by rw [cellH e]; exact h.1, by rw [cellH e]; exact h.2⟩
    have HSET := hidR hset
    clear hset
    by_cases hlt : k < l.length + 3
    · have hkA : k < (l ++ mkR l.length 3).length := by omega
      obtain ⟨a0, a1, a2, a3⟩ := rowR_get (l ++ mkR l.length 3) k hkA
      have cc : ∀ r u, (rowR (l ++ mkR l.length 3))[k * 4 + r]? = some u → wr.cell? ⟨g, k * 4 + r, none⟩ = some u := by
        intro r u h
        rw [← drop_get5 xs _ (k * 4) HX.out r] at h
        have := HO.out.cells (g := g) rfl _ _ h
        rw [addA, Nat.zero_add] at this
        exact this
      have x0 := cc 0 _ (by simpa using a0)
      have x1 := cc 1 _ a1
      have x2 := cc 2 _ a2
      have x3 := cc 3 _ a3
      rw [Nat.add_zero] at x0
      obtain ⟨-, s0⟩ := own_cell6 HO.out (k * 4) (by omega)
      obtain ⟨-, s1⟩ := own_cell6 HO.out (k * 4 + 1) (by omega)
      obtain ⟨-, s2⟩ := own_cell6 HO.out (k * 4 + 2) (by omega)
      obtain ⟨-, s3⟩ := own_cell6 HO.out (k * 4 + 3) (by omega)
      clear cc a0 a1 a2 a3
      have i1 : (k : Int) < (l.length : Int) + 3 := by omega
      have mk : IntKind.i64.wrap ((k : Int) + 1) = (k : Int) + 1 := by rw [IntKind.wrap_i64]; omega
      by_cases hkl : k < l.length
      · rw [all_get5 l k hkl hkA] at x0 x1 x2 x3
        have i2 : (k : Int) < (l.length : Int) := by omega
        rcases HV.out with h | ⟨b, off, rfl, hc⟩
        · rw [h] at hkl; simp at hkl
        · obtain ⟨y0, y1, y2, y3⟩ := rwr_cells hc k hkl
          have y0 := keepc HB.out y0
          have y1 := keepc HB.out y1
          have y2 := keepc HB.out y2
          have y3 := keepc HB.out y3
          have hE := fun w => eqR_run l[k].1.1 l[k].1.2 l[k].2 w
          clear hc
          generalize l[k].1.1 = px at *
          generalize l[k].1.2 = pn at *
          generalize l[k].2 = ph at *
          go_wp2_with fail
          go_quiet (fail)
          have HOq := hidR (own_below (below_drewN (Below.refl _ _) nq) HO.out)
          have HBq := hidR (below_drewN HB.out nq)
          have HSq := hidR (HS.out.below (below_drewN (Below.refl _ _) nq))
          have HTq := hidR (HT.out.below (below_drewN (Below.refl _ _) nq))
          clear HO HB HS HT
          go_wp2
          go_roundw
          case rel =>
            refine ⟨k + 1, by omega, by go_num, rfl, _, hidR ?_, hidR ((((HOq.out.stored (k * 4) (.int .u64 0)).1.stored (k * 4 + 1) (.int .u64 0)).1.stored (k * 4 + 2) (.int .i64 0)).1.stored (k * 4 + 3) (.int .i64 77)).1, hidR (HSET.out _ _ _ _ _ HTq.out), hidR ((((HBq.out.setCell (p := ⟨g, _, none⟩) hgb _).setCell (p := ⟨g, _, none⟩) hgb _).setCell (p := ⟨g, _, none⟩) hgb _).setCell (p := ⟨g, _, none⟩) hgb _), hidR ((((HSq.out.set _ _).set _ _).set _ _).set _ _)⟩
            rw [drop4]
            have := congrArg (fun z => z.drop 4) HX.out
            simpa [List.drop_drop, Nat.add_mul] using this
          case measure => simp [intOf]; omega
      · rw [all_mark5 l k (by omega) hkA] at x0 x1 x2 x3
        rw [hI_zero] at x0
        rw [lI_zero] at x1
        have i2 : ¬ k < l.length := hkl
        have ms : IntKind.i64.wrap (-7 - (k : Int)) = -7 - (k : Int) := by rw [IntKind.wrap_i64]; omega
        have hE := fun w => eqR5_run w (-7 - (k : Int))
        simp only at x2 x3
        go_wp2
        go_roundw
        case rel =>
          refine ⟨k + 1, by omega, by go_num, rfl, _, hidR ?_, hidR ((((HO.out.stored (k * 4) (.int .u64 0)).1.stored (k * 4 + 1) (.int .u64 0)).1.stored (k * 4 + 2) (.int .i64 0)).1.stored (k * 4 + 3) (.int .i64 77)).1, hidR (HSET.out _ _ _ _ _ HT.out), hidR ((((HB.out.setCell (p := ⟨g, _, none⟩) hgb _).setCell (p := ⟨g, _, none⟩) hgb _).setCell (p := ⟨g, _, none⟩) hgb _).setCell (p := ⟨g, _, none⟩) hgb _), hidR ((((HS.out.set _ _).set _ _).set _ _).set _ _)⟩
          rw [drop4]
          have := congrArg (fun z => z.drop 4) HX.out
          simpa [List.drop_drop, Nat.add_mul] using this
        case measure => simp [intOf]; omega
    · have hd : ¬ (k : Int) < (l.length : Int) + 3 := by omega
      go_wp2
      go_ret
      exact ⟨rfl, HS.out⟩
end Go.Proofs.Ytmeaikmmhgmgnaa
/-
  TableCanons: of whatever routes the law tells true.
-/
namespace Go.Proofs.Ytmeaikmmhgmgnaa
open Go.RowKit Go.Shelf
set_option linter.unusedSimpArgs false
set_option linter.unusedVariables false

theorem lent_row {W : World} {base g : Nat} {l : List Rte} (h : W.ownsRow base 40 4 (.slice (some ⟨g, 0, none⟩) (l.length + 3) (l.length + 3)) (l.length + 3) (rowR (l ++ mkR l.length 3))) : W.ownsRow base 40 4 (.slice (some ⟨g, 0, none⟩) l.length (l.length + 3)) l.length (rowR l) := by
  have := own_cut h (m := l.length) (by omega)
  rw [rowR_take, List.take_left] at this
  exact this
set_option maxRecDepth 100000 in
set_option maxHeartbeats 16000000 in
theorem tableCanons_any (F : Int) (v : Value) (l : List Rte) (w : World) (hv : RwR w v l) :
    Calls Try.prog 3 #[.int .i64 F, v] w fun e w' => e = .returned (.bool true) ∧ Below w.heap.size w w' := by
  have KK := fun W => known5_any W
  have HVw := hidX hv
  obtain ⟨ao, c, rfl, -⟩ := hv
  go_enter Try.func3, Try.ntmps3
  go_wp2_with fail
  refine (KK _).mono ?_
  rintro e w1 ⟨rfl, hb⟩
  have HB1 := hidX hb
  have HV1 := hidX (HVw.out.below hb)
  clear KK hb
  by_cases hl : (3000 : Int) < (l.length : Int)
  · go_wp2
    exact bodyPost_ret (v := .bool true) (by simp [results, Try.results3, go_sem]) rfl ⟨rfl, HB1.out⟩
  · have hl3 : l.length ≤ 3000 := by omega
    have KL := lend5_any 0 (.slice ao l.length c) l w1 HV1.out (by omega)
    go_wp2_with fail
    refine KL.mono ?_
    rintro e w2 ⟨⟨g, rfl, ho⟩, hb⟩
    have k1 := bl1 w2 (.cells #[.int .i64 0, .slice (some ⟨g, 0, none⟩) l.length (l.length + 3)] 25)
    have hgw : w1.heap.size ≤ g ∧ g < w2.heap.size := ho.lt g (by simp [Value.ownBlock])
    have HO3 := hidX (own_below k1 ho)
    have HL3 := hidX (keepb k1 hb)
    have HM3 : Hid ((w2.alloc (.cells #[.int .i64 0, .slice (some ⟨g, 0, none⟩) l.length (l.length + 3)] 25)).heap[w2.heap.size]? = some (.cells #[.int .i64 0, .slice (some ⟨g, 0, none⟩) l.length (l.length + 3)] 25)) := hidX Array.getElem?_push_size
    have t0 := at_blk HM3.out 0 (.int .i64 0) rfl
    have t1 := at_blk HM3.out 1 (.slice (some ⟨g, 0, none⟩) l.length (l.length + 3)) rfl
    clear KL hb ho k1
    go_wp2_with fail
    clear t0 t1
    revert HO3 HL3 HM3
    generalize w2.alloc (.cells #[.int .i64 0, .slice (some ⟨g, 0, none⟩) l.length (l.length + 3)] 25) = w3
    revert hgw
    generalize w2.heap.size = M
    intro hgw HO3 HL3 HM3
    refine (canon_any F _ l w3 (own_row (lent_row HO3.out))).mono ?_
    rintro e w4 ⟨⟨u, S, rfl, hS, ho⟩, hb⟩
    have HS := hidX hS
    obtain ⟨uo, uc, rfl⟩ := own_form ho
    have hM3 := blk_lt5 HM3.out
    have KR : Hid (∀ W, RwR W (.slice ao l.length c) l → Calls Try.prog 10 #[.int .i64 F, .slice ao l.length c] W fun e w' => (∃ u, e = .returned (.tuple #[.agg #[.int .i64 (if rtsE F l = 0 then F else 0), u], .int .i64 (rtsE F l)]) ∧ w'.ownsRow W.heap.size 40 4 u S.length (rowR S)) ∧ Below W.heap.size W w') := hidX (fun W h => (rcanon_any F _ l W h).mono (by
      rintro e w' ⟨⟨u2, S2, rfl, hS2, ho2⟩, hb2⟩
      rw [← HS.out] at hS2
      rw [hS2] at ho2
      exact ⟨⟨u2, rfl, ho2⟩, hb2⟩))
    have hSl : S.length ≤ 1000000000 := by
      have h1 := HS.out
      have h2 := fold_len l []
      split at h1
      · rw [h1]; simp at h2; omega
      · rw [h1]; simp
    revert KR
    generalize (if rtsE F l = 0 then F else 0) = F2 at *
    generalize rtsE F l = z at *
    intro KR
    have k1 := bl1 w4 (.cells #[.int .i64 F2, .slice uo S.length uc] 25)
    have HO5 := hidX (own_below k1 (own_below hb HO3.out))
    have HU5 := hidX (own_below k1 ho)
    have HL5 := hidX (keepb k1 (keepb hb HL3.out))
    have HM5 : Hid ((w4.alloc (.cells #[.int .i64 F2, .slice uo S.length uc] 25)).heap[M]? = some (.cells #[.int .i64 0, .slice (some ⟨g, 0, none⟩) l.length (l.length + 3)] 25)) := hidX ((k1.block _ (by have := hb.size; omega)).trans ((hb.block _ hM3).trans HM3.out))
    have HA5 : Hid ((w4.alloc (.cells #[.int .i64 F2, .slice uo S.length uc] 25)).heap[w4.heap.size]? = some (.cells #[.int .i64 F2, .slice uo S.length uc] 25)) := hidX Array.getElem?_push_size
    have t0 := at_blk HM5.out 0 (.int .i64 0) rfl
    have t1 := at_blk HM5.out 1 (.slice (some ⟨g, 0, none⟩) l.length (l.length + 3)) rfl
    have hs34 := hb.size
    clear hb ho k1 HO3 HL3 HM3 hS HS
    go_wp2_with fail
    clear t0 t1
    revert HO5 HU5 HL5 HM5 HA5
    generalize w4.alloc (.cells #[.int .i64 F2, .slice uo S.length uc] 25) = w5
    generalize w4.heap.size = M2 at *
    generalize w3.heap.size = n3 at *
    intro HO5 HU5 HL5 HM5 HA5
    have KP := kept5_any 0 (.slice ao l.length c) l w1 w5 HV1.out HL5.out g HO5.out (by omega)
    refine KP.mono ?_
    rintro e w6 ⟨rfl, hst⟩
    have HB6 := hidX (hst.low (keepb HL5.out HB1.out) (by have := HB1.out.size; omega))
    have hA5 := blk_lt5 HA5.out
    have HA6 : Hid (w6.heap[M2]? = some (.cells #[.int .i64 F2, .slice uo S.length uc] 25)) := hidX ((hst.2.2.2.2 _ hA5 (by omega)).trans HA5.out)
    have HU6 := hidX (hst.own HU5.out (fun e => by have := (HU5.out.lt g e).1; omega))
    clear KP hst HO5 HU5 HL5 HM5 HA5
    go_wp2_with fail
    refine (KR.out w6 (HVw.out.below HB6.out)).mono ?_
    rintro e w7 ⟨⟨u2, rfl, ho⟩, hb⟩
    obtain ⟨uo2, uc2, rfl⟩ := own_form ho
    have k1 := bl1 w7 (.cells #[.int .i64 F2, .slice uo2 S.length uc2] 25)
    have hA6 := blk_lt5 HA6.out
    have HR8 := hidX (row_rwr (own_row (own_below k1 ho)))
    have HU8 := hidX (row_rwr (own_row (own_below k1 (own_below hb HU6.out))))
    have HB8 := hidX (keepb k1 (keepb hb HB6.out))
    have HA8 : Hid ((w7.alloc (.cells #[.int .i64 F2, .slice uo2 S.length uc2] 25)).heap[M2]? = some (.cells #[.int .i64 F2, .slice uo S.length uc] 25)) := hidX ((k1.block _ (by have := hb.size; omega)).trans ((hb.block _ hA6).trans HA6.out))
    have HC8 : Hid ((w7.alloc (.cells #[.int .i64 F2, .slice uo2 S.length uc2] 25)).heap[w7.heap.size]? = some (.cells #[.int .i64 F2, .slice uo2 S.length uc2] 25)) := hidX Array.getElem?_push_size
    have t0 := at_blk HA8.out 0 (.int .i64 F2) rfl
    have t1 := at_blk HA8.out 1 (.slice uo S.length uc) rfl
    have s0 := at_blk HC8.out 0 (.int .i64 F2) rfl
    have s1 := at_blk HC8.out 1 (.slice uo2 S.length uc2) rfl
    clear hb ho k1 HB6 HA6 HU6 KR
    go_wp2_with fail
    clear t0 t1 s0 s1
    refine (sameT_any F2 _ _ S _ HU8.out HR8.out hSl).mono ?_
    rintro e w9 ⟨rfl, hb⟩
    have HB9 := hidX (keepb hb HB8.out)
    clear hb HR8 HU8 HB8 HA8 HC8
    go_wp2
    exact bodyPost_ret (v := .bool true) (by simp [results, Try.results3, go_sem]) rfl ⟨rfl, HB9.out⟩
end Go.Proofs.Ytmeaikmmhgmgnaa
