/-
  Part 16 of the proof: 5 texts, one behind the other.
-/
import Derived.Test.YtohnhpicjedfeaaPart15
import Derived.Test.YtohnhpicjedfeaaPart14
import Derived.Test.YtohnhpicjedfeaaPart5
import Derived.Test.YtohnhpicjedfeaaPart13
namespace Go.Proofs.Ytohnhpicjedfeaa
open Go.RowKit Go.Shelf
set_option linter.unusedSimpArgs false
set_option linter.unusedVariables false
attribute [local go_sem] Oper.semAt_some

theorem wl_nilM {P : Program} {ops : Array Oper} {Q : Exit → Act → World → Prop} {a : Act} {w : World} (h : wpList P ops Q [] a w) : Q .normal a w := h
def fstR (l : List Rte) : Rte := l.head?.getD ((0#128, 0), 0)
set_option maxRecDepth 100000 in
set_option maxHeartbeats 16000000 in
theorem match5_core (F : Int) (x : BitVec 128) (ao : Option Addr) (k c : Nat) (T : List Rte) (w : World) (Zb : Nat → Prop) (hZb : ∀ z, Zb z → z < w.heap.size)
    (KU : ∀ W, Calls Try.prog 42 #[.slice ao k c, .agg #[.int .u64 (hI x), .int .u64 (lI x), .int .i64 F]] W fun e w' => e = .returned (.func (.func 55) #[] #[.pointer (some ⟨W.heap.size + 1, 0, none⟩), .pointer (some ⟨W.heap.size, 0, none⟩)]) ∧ w' = (W.alloc (.cells #[.slice ao k c] 22)).alloc (.cells #[.int .u64 (hI x), .int .u64 (lI x), .int .i64 F] 38))
    (hSq : ∀ (Wl : World) (P5 L5 : Nat), Below w.heap.size w Wl → Wl.heap[P5]? = some (.cells #[.int .u64 (hI x), .int .u64 (lI x), .int .i64 F] 38) → Wl.cell? ⟨L5, 0, none⟩ = some (.slice ao k c) → SeqZ 38 (9 - 1) Try.prog 55 #[.pointer (some ⟨P5, 0, none⟩), .pointer (some ⟨L5, 0, none⟩)] encR (fun z => z = P5 ∨ z = L5 ∨ Zb z) (fun ys => ys = T) (fun pre => pre <+: T) Wl) :
    Calls Try.prog 30 #[.agg #[.int .i64 F, .slice ao k c], .agg #[.int .u64 (hI x), .int .u64 (lI x)]] w fun e w' => e = .returned (.tuple #[.agg #[.int .u64 (hI (fstR T).1.1), .int .u64 (lI (fstR T).1.1), .int .i64 (fstR T).1.2, .int .i64 (fstR T).2], .bool (!T.isEmpty)]) ∧ Below w.heap.size w w' := by
  have HSq := hidX hSq
  have HZb := hidX hZb
  clear hSq hZb
  have q1 := bl1 w (.cells #[.int .i64 F, .slice ao k c] 25)
  have q2 := bl1 (w.alloc (.cells #[.int .i64 F, .slice ao k c] 25)) (.cells #[.int .u64 (hI x), .int .u64 (lI x)] 36)
  have q3 := bl1 ((w.alloc (.cells #[.int .i64 F, .slice ao k c] 25)).alloc (.cells #[.int .u64 (hI x), .int .u64 (lI x)] 36)) (.cells #[.int .u64 0, .int .u64 0, .int .i64 0, .int .i64 0] 40)
  have q4 := bl1 (((w.alloc (.cells #[.int .i64 F, .slice ao k c] 25)).alloc (.cells #[.int .u64 (hI x), .int .u64 (lI x)] 36)).alloc (.cells #[.int .u64 0, .int .u64 0, .int .i64 0, .int .i64 0] 40)) (.cells #[.bool false] 4)
  have HB0 := hidX (keepb q4 (keepb q3 (keepb q2 q1)))
  have t0 : ((((w.alloc (.cells #[.int .i64 F, .slice ao k c] 25)).alloc (.cells #[.int .u64 (hI x), .int .u64 (lI x)] 36)).alloc (.cells #[.int .u64 0, .int .u64 0, .int .i64 0, .int .i64 0] 40)).alloc (.cells #[.bool false] 4)).heap[w.heap.size]? = some (.cells #[.int .i64 F, .slice ao k c] 25) := (q4.block _ (by simp; omega)).trans ((q3.block _ (by simp; omega)).trans ((q2.block _ (by simp)).trans Array.getElem?_push_size))
  have x0 : ((((w.alloc (.cells #[.int .i64 F, .slice ao k c] 25)).alloc (.cells #[.int .u64 (hI x), .int .u64 (lI x)] 36)).alloc (.cells #[.int .u64 0, .int .u64 0, .int .i64 0, .int .i64 0] 40)).alloc (.cells #[.bool false] 4)).heap[w.heap.size + 1]? = some (.cells #[.int .u64 (hI x), .int .u64 (lI x)] 36) := (q4.block _ (by simp)).trans ((q3.block _ (by simp)).trans (by have := World.alloc_heap_new (w.alloc (.cells #[.int .i64 F, .slice ao k c] 25)) (.cells #[.int .u64 (hI x), .int .u64 (lI x)] 36); rwa [World.size_alloc] at this))
  have r0 : ((((w.alloc (.cells #[.int .i64 F, .slice ao k c] 25)).alloc (.cells #[.int .u64 (hI x), .int .u64 (lI x)] 36)).alloc (.cells #[.int .u64 0, .int .u64 0, .int .i64 0, .int .i64 0] 40)).alloc (.cells #[.bool false] 4)).heap[w.heap.size + 2]? = some (.cells #[.int .u64 0, .int .u64 0, .int .i64 0, .int .i64 0] 40) := (q4.block _ (by simp)).trans (by have := World.alloc_heap_new ((w.alloc (.cells #[.int .i64 F, .slice ao k c] 25)).alloc (.cells #[.int .u64 (hI x), .int .u64 (lI x)] 36)) (.cells #[.int .u64 0, .int .u64 0, .int .i64 0, .int .i64 0] 40); rwa [World.size_alloc, World.size_alloc] at this)
  have b0 : ((((w.alloc (.cells #[.int .i64 F, .slice ao k c] 25)).alloc (.cells #[.int .u64 (hI x), .int .u64 (lI x)] 36)).alloc (.cells #[.int .u64 0, .int .u64 0, .int .i64 0, .int .i64 0] 40)).alloc (.cells #[.bool false] 4)).heap[w.heap.size + 3]? = some (.cells #[.bool false] 4) := by have := World.alloc_heap_new (((w.alloc (.cells #[.int .i64 F, .slice ao k c] 25)).alloc (.cells #[.int .u64 (hI x), .int .u64 (lI x)] 36)).alloc (.cells #[.int .u64 0, .int .u64 0, .int .i64 0, .int .i64 0] 40)) (.cells #[.bool false] 4); rwa [World.size_alloc, World.size_alloc, World.size_alloc] at this
  have HS0 : Hid (((((w.alloc (.cells #[.int .i64 F, .slice ao k c] 25)).alloc (.cells #[.int .u64 (hI x), .int .u64 (lI x)] 36)).alloc (.cells #[.int .u64 0, .int .u64 0, .int .i64 0, .int .i64 0] 40)).alloc (.cells #[.bool false] 4)).heap.size = w.heap.size + 4) := hidX (by simp)
  refine (callsIn_wide (n := 9)).1 ?_
  refine callsIn_of_wp_marks Try.func30 rfl trivial ?_ rfl
  simp only [Try.ntmps30, List.size_toArray, List.length_cons, List.length_nil, Nat.reduceAdd, Nat.reduceSub, Array.replicate_succ, Array.replicate_zero, List.push_toArray, List.append_toArray, List.nil_append, List.cons_append]
  refine wpIn_wide.2 ?_
  clear q1 q2 q3 q4
  have HT0 := hidX t0
  have HX0 := hidX x0
  have HR2 := hidX r0
  have HB3 := hidX b0
  have t1 := at_blk t0 0 (.int .i64 F) rfl
  have t2 := at_blk t0 1 (.slice ao k c) rfl
  have x1 := at_blk x0 0 (.int .u64 (hI x)) rfl
  have x2 := at_blk x0 1 (.int .u64 (lI x)) rfl
  clear t0 x0 r0 b0
  go_wp2_with fail
  revert HB0 HT0 HX0 HR2 HB3 HS0
  generalize (((w.alloc (.cells #[.int .i64 F, .slice ao k c] 25)).alloc (.cells #[.int .u64 (hI x), .int .u64 (lI x)] 36)).alloc (.cells #[.int .u64 0, .int .u64 0, .int .i64 0, .int .i64 0] 40)).alloc (.cells #[.bool false] 4) = V0
  intro HB0 HS0 HT0 HX0 HR2 HB3
  clear t1 t2 x1 x2
  refine (KU V0).mono ?_
  rintro e Wl ⟨rfl, rfl⟩
  have s0 := HS0.out
  rw [s0]
  have k1 := bl1 V0 (.cells #[.slice ao k c] 22)
  have k2 := bl1 (V0.alloc (.cells #[.slice ao k c] 22)) (.cells #[.int .u64 (hI x), .int .u64 (lI x), .int .i64 F] 38)
  have kk := keepb k2 k1
  have HB1 := hidX (keepb kk HB0.out)
  have HM2 := hidX ((kk.block _ (blk_lt5 HR2.out)).trans HR2.out)
  have HM3 := hidX ((kk.block _ (blk_lt5 HB3.out)).trans HB3.out)
  have HL5 : Hid (((V0.alloc (.cells #[.slice ao k c] 22)).alloc (.cells #[.int .u64 (hI x), .int .u64 (lI x), .int .i64 F] 38)).cell? ⟨w.heap.size + 4, 0, none⟩ = some (.slice ao k c)) := hidX (by
    have := (k2.block _ (by simp)).trans (World.alloc_heap_new V0 (.cells #[.slice ao k c] 22))
    rw [s0] at this
    exact at_blk this 0 (.slice ao k c) rfl)
  have HP5 : Hid (((V0.alloc (.cells #[.slice ao k c] 22)).alloc (.cells #[.int .u64 (hI x), .int .u64 (lI x), .int .i64 F] 38)).heap[w.heap.size + 4 + 1]? = some (.cells #[.int .u64 (hI x), .int .u64 (lI x), .int .i64 F] 38)) := hidX (by
    have := World.alloc_heap_new (V0.alloc (.cells #[.slice ao k c] 22)) (.cells #[.int .u64 (hI x), .int .u64 (lI x), .int .i64 F] 38)
    rwa [World.size_alloc, s0] at this)
  have hsl : ((V0.alloc (.cells #[.slice ao k c] 22)).alloc (.cells #[.int .u64 (hI x), .int .u64 (lI x), .int .i64 F] 38)).heap.size = w.heap.size + 6 := by simp [s0]
  clear k1 k2 kk s0 HS0 HR2 HB3 HT0 HX0 HB0 KU
  revert HB1 HM2 HM3 HL5 HP5 hsl
  generalize (V0.alloc (.cells #[.slice ao k c] 22)).alloc (.cells #[.int .u64 (hI x), .int .u64 (lI x), .int .i64 F] 38) = Wl
  obtain ⟨L5, hL5⟩ : ∃ L5, L5 = w.heap.size + 4 := ⟨_, rfl⟩
  obtain ⟨P5, hP5⟩ : ∃ P5, P5 = w.heap.size + 4 + 1 := ⟨_, rfl⟩
  rw [← hP5, ← hL5]
  intro HB1 HM2 HM3 HL5 HP5 hsl
  have HPL := hidX (And.intro hP5 hL5)
  clear hP5 hL5
  go_wp2_with fail
  obtain ⟨hP5, hL5⟩ := HPL.out
  refine (wpIn_wide (n := 9)).1 ?_
  refine rangeZ 9 (by decide) (gf := 55) (lb := #[.pointer (some ⟨P5, 0, none⟩), .pointer (some ⟨L5, 0, none⟩)]) rfl (enters_of Try.func55 (by kernel_rfl) rfl)
    (HSq.out Wl P5 L5 HB1.out HP5.out HL5.out) (by rintro z (q | q | q); omega; omega; have := HZb.out _ q; omega) (Below.refl _ _) (fun _ => rfl)
    (fun pre V => (pre = [] ∧ V.heap[w.heap.size + 2]? = some (.cells #[.int .u64 0, .int .u64 0, .int .i64 0, .int .i64 0] 40) ∧ V.heap[w.heap.size + 3]? = some (.cells #[.bool false] 4) ∧ Wl.heap.size ≤ V.heap.size) ∧ Below w.heap.size w V)
    (fun cd pre V => (cd = .ret ∧ ∃ r : Rte, pre = [r] ∧ V.heap[w.heap.size + 2]? = some (.cells #[.int .u64 (hI r.1.1), .int .u64 (lI r.1.1), .int .i64 r.1.2, .int .i64 r.2] 40) ∧ V.heap[w.heap.size + 3]? = some (.cells #[.bool true] 4)) ∧ Below w.heap.size w V)
    (fun s A B hs hb => ⟨⟨hs.1.1, hb.same _ _ hs.1.2.1 (.inl (by omega)), hb.same _ _ hs.1.2.2.1 (.inl (by omega)), Nat.le_trans hs.1.2.2.2 hb.size⟩, hb.low hs.2 (by omega)⟩)
    (fun cd s A B hs hb => by obtain ⟨⟨e0, r, e1, e2, e3⟩, e4⟩ := hs; exact ⟨⟨e0, r, e1, hb.same _ _ e2 (.inl (by omega)), hb.same _ _ e3 (.inl (by omega))⟩, hb.low e4 (by omega)⟩)
    ⟨⟨rfl, HM2.out, HM3.out, Nat.le_refl _⟩, HB1.out⟩
    (fun _ z => z = w.heap.size + 2 ∨ z = w.heap.size + 3)
    (fun s A hs z hz => ⟨by have h1 := blk_lt5 hs.1.2.1; have h2 := blk_lt5 hs.1.2.2.1; omega, by rintro (q | q | q); omega; omega; have := HZb.out _ q; omega⟩)
    (fun s A B hs hg z hz => hz)
    (fun r a' V => ∃ N, Wl.heap.size ≤ N ∧ V.heap[N]? = some (.cells #[.int .u64 (hI r.1.1), .int .u64 (lI r.1.1), .int .i64 r.1.2, .int .i64 r.2] 40) ∧ a' = { tmps := #[.agg #[.int .i64 F, .slice ao k c], .agg #[.int .u64 (hI x), .int .u64 (lI x)], .pointer (some ⟨w.heap.size, 0, none⟩), .pointer (some ⟨w.heap.size + 1, 0, none⟩), .pointer (some ⟨w.heap.size + 1 + 1, 0, none⟩), .pointer (some ⟨w.heap.size + 1 + 1 + 1, 0, none⟩), .pointer (some ⟨N, 0, none⟩), .pointer (some ⟨w.heap.size, 1, none⟩), .slice ao k c, .agg #[.int .u64 (hI x), .int .u64 (lI x)], .pointer (some ⟨w.heap.size, 0, none⟩), .int .i64 F, .agg #[.int .u64 (hI x), .int .u64 (lI x), .int .i64 F], .func (.func 55) #[] #[.pointer (some ⟨P5, 0, none⟩), .pointer (some ⟨L5, 0, none⟩)], .agg #[.int .u64 (hI r.1.1), .int .u64 (lI r.1.1), .int .i64 r.1.2, .int .i64 r.2], undef, undef], defers := [] })
    (fun r a' A o o' hs h1 h2 => by
      obtain ⟨N, e1, e2, e3⟩ := hs
      refine ⟨N, e1, ?_, e3⟩
      by_cases c : N = Wl.heap.size + 1
      · subst c; rw [h1] at e2; cases e2; cases h2
      · exact (World.putObj_heap_other (by omega)).trans e2) ?assign ?body ?done ?stop
  case assign =>
    rintro lo pre r V K hi hK
    have hb := bl1 V (.cells #[.int .u64 (hI r.1.1), .int .u64 (lI r.1.1), .int .i64 r.1.2, .int .i64 r.2] 40)
    have hN : Wl.heap.size ≤ V.heap.size := hi.1.2.2.2
    clear hP5 hL5
    have HK := hidX (fun a' h => hK a' (V.alloc (.cells #[.int .u64 (hI r.1.1), .int .u64 (lI r.1.1), .int .i64 r.1.2, .int .i64 r.2] 40)) ⟨hb.size, fun z o h1 h2 _ => (hb.block z (Array.getElem?_eq_some_iff.1 h2).1).trans h2⟩ ⟨hb.size, fun z o hz _ => (hb.block z (blk_lt5 hz)).trans hz, fun z hz => .inl hz⟩ ⟨⟨hi.1.1, (hb.block _ (blk_lt5 hi.1.2.1)).trans hi.1.2.1, (hb.block _ (blk_lt5 hi.1.2.2.1)).trans hi.1.2.2.1, Nat.le_trans hN hb.size⟩, keepb hb hi.2⟩ ⟨V.heap.size, hN, Array.getElem?_push_size, h⟩)
    clear hK hi hb
    unfold encR
    simp only [List.zip_toArray, List.zip_cons_cons, List.zip_nil_left, List.zip_nil_right, List.foldl_toArray, List.foldl_cons, List.foldl_nil, List.setIfInBounds_toArray, List.set_cons_zero, List.set_cons_succ, Array.zip]
    gi_wp2
    exact HK.out _ rfl
  case body =>
    clear hP5 hL5
    rintro lo pre r a' V hl9 - ⟨⟨rfl, hi1, hi2, -⟩, hi3⟩ ⟨N, e1, e2, rfl⟩ hlt
    have n0 := at_blk e2 0 (.int .u64 (hI r.1.1)) rfl
    have n1 := at_blk e2 1 (.int .u64 (lI r.1.1)) rfl
    have n2 := at_blk e2 2 (.int .i64 r.1.2) rfl
    have n3 := at_blk e2 3 (.int .i64 r.2) rfl
    have a0 := at_blk hi1 0 (.int .u64 0) rfl
    have a1 := at_blk hi1 1 (.int .u64 0) rfl
    have a2 := at_blk hi1 2 (.int .i64 0) rfl
    have a3 := at_blk hi1 3 (.int .i64 0) rfl
    have f0 := fr_blk5 (j := 0) hi1
    have f1 := fr_blk5 (j := 1) hi1
    have f2 := fr_blk5 (j := 2) hi1
    have f3 := fr_blk5 (j := 3) hi1
    have b0 := at_blk hi2 0 (.bool false) rfl
    have g0 := fr_blk5 (j := 0) hi2
    have HV : Hid (V.heap[w.heap.size + 2]? = some (.cells #[.int .u64 0, .int .u64 0, .int .i64 0, .int .i64 0] 40) ∧ V.heap[w.heap.size + 3]? = some (.cells #[.bool false] 4) ∧ Below w.heap.size w V) := hidX ⟨hi1, hi2, hi3⟩
    clear hi1 hi2 hi3 e1 e2
    gi_wp2
    obtain ⟨hi1, hi2, hi3⟩ := HV.out
    obtain ⟨hP5, hL5⟩ := HPL.out
    have m1 := set_blk5 (o := 3) (set_blk5 (o := 2) (set_blk5 (o := 1) (set_blk5 (o := 0) hi1 (.int .u64 (hI r.1.1))) (.int .u64 (lI r.1.1))) (.int .i64 r.1.2)) (.int .i64 r.2)
    have zz : ∀ (z : Nat), ¬ z = w.heap.size + 2 → ((((V.setCell ⟨w.heap.size + 2, 0, none⟩ (.int .u64 (hI r.1.1))).setCell ⟨w.heap.size + 2, 1, none⟩ (.int .u64 (lI r.1.1))).setCell ⟨w.heap.size + 2, 2, none⟩ (.int .i64 r.1.2)).setCell ⟨w.heap.size + 2, 3, none⟩ (.int .i64 r.2)).heap[z]? = V.heap[z]? := fun z h => hSet4 h
    refine ⟨⟨by simp, fun z o h1 h2 h3 => (hSet6 _ (by omega)).trans ((zz z (by omega)).trans h2)⟩, ⟨by simp, fun z o h1 h2 => (hSet6 _ (fun q => h2 (.inr q))).trans ((zz z (fun q => h2 (.inl q))).trans h1), fun z hz => .inl hz⟩, ⟨rfl, r, rfl, (hSet6 _ (by omega)).trans (by simpa using m1), by simpa using set_blk5 (o := 0) ((zz _ (by omega)).trans hi2) (.bool true)⟩, (bset4m hi3 (by omega) _ _ _ _).setCell (p := ⟨w.heap.size + 3, 0, none⟩) (by simp) _⟩
  case done =>
    clear hP5 hL5
    rintro D ys V hD hys ⟨⟨rfl, hi1, hi2, -⟩, hi3⟩ hK
    have a0 := at_blk hi1 0 (.int .u64 0) rfl
    have a1 := at_blk hi1 1 (.int .u64 0) rfl
    have a2 := at_blk hi1 2 (.int .i64 0) rfl
    have a3 := at_blk hi1 3 (.int .i64 0) rfl
    have f0 := fr_blk5 (j := 0) hi1
    have f1 := fr_blk5 (j := 1) hi1
    have f2 := fr_blk5 (j := 2) hi1
    have f3 := fr_blk5 (j := 3) hi1
    have b0 := at_blk hi2 0 (.bool false) rfl
    have g0 := fr_blk5 (j := 0) hi2
    have HV : Hid (V.heap[w.heap.size + 2]? = some (.cells #[.int .u64 0, .int .u64 0, .int .i64 0, .int .i64 0] 40) ∧ V.heap[w.heap.size + 3]? = some (.cells #[.bool false] 4) ∧ Below w.heap.size w V ∧ V.heap[D]? = some (.deferred (some []))) := hidX ⟨hi1, hi2, hi3, hK⟩
    clear hi1 hi2 hi3 hK
    refine wl_nilM (P := Try.prog) (ops := #[]) ?_
    go_wp2
    obtain ⟨hi1, hi2, hi3, hK⟩ := HV.out
    have zz : ∀ (z : Nat), ¬ z = w.heap.size + 2 → ((((V.setCell ⟨w.heap.size + 2, 0, none⟩ (.int .u64 0)).setCell ⟨w.heap.size + 2, 1, none⟩ (.int .u64 0)).setCell ⟨w.heap.size + 2, 2, none⟩ (.int .i64 0)).setCell ⟨w.heap.size + 2, 3, none⟩ (.int .i64 0)).heap[z]? = V.heap[z]? := fun z h => hSet4 h
    have m1 : (((((V.setCell ⟨w.heap.size + 2, 0, none⟩ (.int .u64 0)).setCell ⟨w.heap.size + 2, 1, none⟩ (.int .u64 0)).setCell ⟨w.heap.size + 2, 2, none⟩ (.int .i64 0)).setCell ⟨w.heap.size + 2, 3, none⟩ (.int .i64 0)).setCell ⟨w.heap.size + 3, 0, none⟩ (.bool false)).heap[w.heap.size + 2]? = some (.cells #[.int .u64 0, .int .u64 0, .int .i64 0, .int .i64 0] 40) := (hSet6 _ (by omega)).trans (by simpa using set_blk5 (o := 3) (set_blk5 (o := 2) (set_blk5 (o := 1) (set_blk5 (o := 0) hi1 (.int .u64 0)) (.int .u64 0)) (.int .i64 0)) (.int .i64 0))
    have m2 : (((((V.setCell ⟨w.heap.size + 2, 0, none⟩ (.int .u64 0)).setCell ⟨w.heap.size + 2, 1, none⟩ (.int .u64 0)).setCell ⟨w.heap.size + 2, 2, none⟩ (.int .i64 0)).setCell ⟨w.heap.size + 2, 3, none⟩ (.int .i64 0)).setCell ⟨w.heap.size + 3, 0, none⟩ (.bool false)).heap[w.heap.size + 3]? = some (.cells #[.bool false] 4) := by simpa using set_blk5 (o := 0) ((zz _ (by omega)).trans hi2) (.bool false)
    have m3 : (((((V.setCell ⟨w.heap.size + 2, 0, none⟩ (.int .u64 0)).setCell ⟨w.heap.size + 2, 1, none⟩ (.int .u64 0)).setCell ⟨w.heap.size + 2, 2, none⟩ (.int .i64 0)).setCell ⟨w.heap.size + 2, 3, none⟩ (.int .i64 0)).setCell ⟨w.heap.size + 3, 0, none⟩ (.bool false)).heap[D]? = some (.deferred (some [])) := (hSet6 _ (by omega)).trans ((zz D (by omega)).trans hK)
    have m4 : Below w.heap.size w (((((V.setCell ⟨w.heap.size + 2, 0, none⟩ (.int .u64 0)).setCell ⟨w.heap.size + 2, 1, none⟩ (.int .u64 0)).setCell ⟨w.heap.size + 2, 2, none⟩ (.int .i64 0)).setCell ⟨w.heap.size + 2, 3, none⟩ (.int .i64 0)).setCell ⟨w.heap.size + 3, 0, none⟩ (.bool false)) := (bset4m hi3 (by omega) _ _ _ _).setCell (p := ⟨w.heap.size + 3, 0, none⟩) (by simp) _
    refine ⟨by simp, .inl ⟨_, _, rfl, run_takeDeferred m3, ?_⟩⟩
    revert m1 m2 m3 m4
    generalize (((((V.setCell ⟨w.heap.size + 2, 0, none⟩ (.int .u64 0)).setCell ⟨w.heap.size + 2, 1, none⟩ (.int .u64 0)).setCell ⟨w.heap.size + 2, 2, none⟩ (.int .i64 0)).setCell ⟨w.heap.size + 2, 3, none⟩ (.int .i64 0)).setCell ⟨w.heap.size + 3, 0, none⟩ (.bool false)) = V3
    intro m1 m2 m3 m4
    clear a0 a1 a2 a3 f0 f1 f2 f3 b0 g0 zz
    have d2 := (World.putObj_heap_other (w := V3) (r := D) (o := .deferred none) (k := w.heap.size + 2) (by omega)).trans m1
    have d3 := (World.putObj_heap_other (w := V3) (r := D) (o := .deferred none) (k := w.heap.size + 3) (by omega)).trans m2
    have r0 := at_blk d2 0 (.int .u64 0) rfl
    have r1 := at_blk d2 1 (.int .u64 0) rfl
    have r2 := at_blk d2 2 (.int .i64 0) rfl
    have r3 := at_blk d2 3 (.int .i64 0) rfl
    have s0 := at_blk d3 0 (.bool false) rfl
    refine ⟨.tuple #[.agg #[.int .u64 0, .int .u64 0, .int .i64 0, .int .i64 0], .bool false], ?_, by rw [← hys]; simp [fstR, hI_zero, lI_zero], m4.trans (belowK_b (w := w) (Nat.le_refl _) _ D _ _ (by omega) m3 rfl rfl)⟩
    simp [results, Try.results30, go_sem, r0, r1, r2, r3, s0]
  case stop =>
    clear hP5 hL5
    rintro D cd pre V hD hpre ⟨⟨rfl, r, rfl, e2, e3⟩, hi3⟩ hK
    refine (wpIn_wide (n := 9)).2 ?_
    go_wp2
    refine ⟨by simp, .inl ⟨_, _, rfl, run_takeDeferred hK, ?_⟩⟩
    have d2 := (World.putObj_heap_other (w := V) (r := D) (o := .deferred none) (k := w.heap.size + 2) (by omega)).trans e2
    have d3 := (World.putObj_heap_other (w := V) (r := D) (o := .deferred none) (k := w.heap.size + 3) (by omega)).trans e3
    have r0 := at_blk d2 0 (.int .u64 (hI r.1.1)) rfl
    have r1 := at_blk d2 1 (.int .u64 (lI r.1.1)) rfl
    have r2 := at_blk d2 2 (.int .i64 r.1.2) rfl
    have r3 := at_blk d2 3 (.int .i64 r.2) rfl
    have s0 := at_blk d3 0 (.bool true) rfl
    obtain ⟨t, ht⟩ := hpre
    refine ⟨.tuple #[.agg #[.int .u64 (hI r.1.1), .int .u64 (lI r.1.1), .int .i64 r.1.2, .int .i64 r.2], .bool true], ?_, by rw [← ht]; simp [fstR], hi3.trans (belowK_b (w := w) (Nat.le_refl _) _ D _ _ (by omega) hK rfl rfl)⟩
    simp [results, Try.results30, go_sem, r0, r1, r2, r3, s0]
theorem look5_core (F : Int) (x : BitVec 128) (ao : Option Addr) (k c : Nat) (T : List Rte) (w : World)
    (KM : ∀ W, Below w.heap.size w W → Calls Try.prog 30 #[.agg #[.int .i64 F, .slice ao k c], .agg #[.int .u64 (hI x), .int .u64 (lI x)]] W fun e w' => e = .returned (.tuple #[.agg #[.int .u64 (hI (fstR T).1.1), .int .u64 (lI (fstR T).1.1), .int .i64 (fstR T).1.2, .int .i64 (fstR T).2], .bool (!T.isEmpty)]) ∧ Below W.heap.size W w') :
    Calls Try.prog 14 #[.agg #[.int .i64 F, .slice ao k c], .agg #[.int .u64 (hI x), .int .u64 (lI x)]] w fun e w' => e = .returned (.int .i64 (fstR T).2) ∧ Below w.heap.size w w' := by
  have q1 := bl1 w (.cells #[.int .i64 F, .slice ao k c] 25)
  have q2 := bl1 (w.alloc (.cells #[.int .i64 F, .slice ao k c] 25)) (.cells #[.int .u64 (hI x), .int .u64 (lI x)] 36)
  have KM := KM ((w.alloc (.cells #[.int .i64 F, .slice ao k c] 25)).alloc (.cells #[.int .u64 (hI x), .int .u64 (lI x)] 36)) (keepb q2 q1)
  have HB := hidX (keepb q2 q1)
  clear q1 q2
  revert KM
  generalize (!T.isEmpty) = ob
  generalize fstR T = r
  intro KM
  go_enter Try.func14, Try.ntmps14
  go_wp2_with fail
  refine KM.mono ?_
  rintro e V ⟨rfl, hb⟩
  have HB2 := hidX (keepb hb HB.out)
  clear hb HB KM
  go_wp2
  exact bodyPost_ret (v := .int .i64 r.2) (by simp [results, Try.results14, go_sem]) rfl ⟨rfl, keepb (bl1 V _) HB2.out⟩
theorem match5_any (F : Int) (x : BitVec 128) (b off c : Nat) (l : List Rte) (w : World) (hF : F ≤ 128) (hO : OrdR l) (hRt : RtR F l) (hp : Rt F x F) (hlc : l.length ≤ c) (hc0 : 0 < c) (hl : l.length ≤ 1000000000) (hR : RwB w b off l) (hbw : b < w.heap.size) :
    Calls Try.prog 30 #[.agg #[.int .i64 F, .slice (some ⟨b, off, none⟩) l.length c], .agg #[.int .u64 (hI x), .int .u64 (lI x)]] w fun e w' => (∃ ys : List Rte, ys = (l.filter (inR x F)).reverse ∧ e = .returned (.tuple #[.agg #[.int .u64 (hI (fstR ys).1.1), .int .u64 (lI (fstR ys).1.1), .int .i64 (fstR ys).1.2, .int .i64 (fstR ys).2], .bool (!ys.isEmpty)])) ∧ Below w.heap.size w w' :=
  (match5_core F x (some ⟨b, off, none⟩) l.length c (l.filter (inR x F)).reverse w (fun z => z = b) (fun z h => by omega) (fun W => upw_any b off c x F l W)
    (fun Wl P5 L5 hB hP hL => upw1_any (9 - 1) P5 L5 b off c F x F l hF hO hRt hp hlc hc0 hl Wl ⟨hP, hL, fun j u hj => keepc hB (hR j u hj)⟩)).mono (fun e w' h => ⟨⟨_, rfl, h.1⟩, h.2⟩)
theorem look5_any (F : Int) (x : BitVec 128) (b off c : Nat) (l : List Rte) (w : World) (hF : F ≤ 128) (hO : OrdR l) (hRt : RtR F l) (hp : Rt F x F) (hlc : l.length ≤ c) (hc0 : 0 < c) (hl : l.length ≤ 1000000000) (hR : RwB w b off l) (hbw : b < w.heap.size) :
    Calls Try.prog 14 #[.agg #[.int .i64 F, .slice (some ⟨b, off, none⟩) l.length c], .agg #[.int .u64 (hI x), .int .u64 (lI x)]] w fun e w' => (∃ ys : List Rte, ys = (l.filter (inR x F)).reverse ∧ e = .returned (.int .i64 (fstR ys).2)) ∧ Below w.heap.size w w' :=
  (look5_core F x (some ⟨b, off, none⟩) l.length c (l.filter (inR x F)).reverse w (fun W hW => (match5_any F x b off c l W hF hO hRt hp hlc hc0 hl (fun j u hj => keepc hW (hR j u hj)) (by have := hW.size; omega)).mono (fun e w' ⟨⟨ys, h1, h2⟩, h3⟩ => ⟨by rw [← h1]; exact h2, h3⟩))).mono (fun e w' h => ⟨⟨_, rfl, h.1⟩, h.2⟩)
end Go.Proofs.Ytohnhpicjedfeaa
namespace Go.Proofs.Ytohnhpicjedfeaa
open Go.RowKit
set_option linter.unusedSimpArgs false
set_option linter.unusedVariables false

theorem spot9 {W : World} {a : Addr} {u : Value} (h : W.cell? a = some u) : a = ⟨a.block, a.off, none⟩ := by
  obtain ⟨b, o, s⟩ := a
  cases s with
  | none => rfl
  | some z =>
    unfold World.cell? at h
    split at h
    · simp at h
    · cases h
def RowA (w : World) (size : Nat) (v : Value) (n : Nat) (xs : List Value) : Prop :=
  xs.length = n * size ∧ ∃ ao c, v = .slice ao n c ∧ n ≤ c ∧ ((ao = none ∧ c = 0 ∧ n = 0) ∨ ∃ a : Addr, ao = some a ∧ ∀ j u, xs[j]? = some u → w.cell? (a.add j) = some u)
theorem RowA.below {w w' : World} {size n : Nat} {v : Value} {xs : List Value} (h : RowA w size v n xs) (hb : Below w.heap.size w w') : RowA w' size v n xs := by
  obtain ⟨hl, ao, c, e, hc, h⟩ := h
  refine ⟨hl, ao, c, e, hc, ?_⟩
  rcases h with h | ⟨a, e, h⟩
  · exact .inl h
  · refine .inr ⟨a, e, fun j u hj => ?_⟩
    have f := h j u hj
    have sp := spot9 f
    rw [sp]
    rw [sp] at f
    exact keepc hb f
theorem wpList_append_rowA {P : Program} {w : World} {ops : Array Oper} {rest : List Oper} {o : Oper} {a : Act} {Q : Exit → Act → World → Prop} (hgd : o.guard = none) (s x : Operand) (t : TypeId)
    (ho : o.op = .call { callee := .builtin .append, args := #[s, x], argTypes := #[t, t] })
    (base : Nat) (e : TypeId) (i : TypeInfo) (z : Value) (size bytes : Nat) (ht : P.underlying t = some (.slice e)) (hi : P.info? e = some i) (hz : i.zero = some z)
    (hsize : i.size = size) (hby : i.bytes = bytes) (hzs : z.cells.size = size) (hsz : 0 < size)
    (v : Value) (n : Nat) (xs : List Value) (hs : a.eval s = v) (hown : w.ownsRow base e size v n xs)
    (vx : Value) (m : Nat) (news : List Value) (hx : a.eval x = vx) (hsrc : RowA w size vx m news) (h1 : ∀ y ∈ news, y.oneCell' = true)
    (h63 : n + m ≤ maxLen) (hbytes : (n + m) * bytes ≤ 140737488355328) (hbase : base ≤ w.heap.size)
    (h : ∀ ao cap w', w'.ownsRow base e size (.slice ao (n + m) cap) (n + m) (xs ++ news) → w.grownBy w' v.ownBlock → wpList P ops Q rest (a.put o.dst (.slice ao (n + m) cap)) w') : wpList P ops Q (o :: rest) a w := by
  obtain ⟨hl, xo, c, rfl, hcc, hsrc⟩ := hsrc
  rcases hsrc with ⟨rfl, rfl, rfl⟩ | ⟨ad, rfl, hc⟩
  · have : news = [] := List.eq_nil_of_length_eq_zero (by omega)
    subst this
    refine wpList_append_own_none hgd s x t ho base e i size ht hi v n xs hs hown hx ?_
    obtain ⟨ao, cp, hv⟩ := own_form hown
    have := h ao cp w (by rw [List.append_nil, Nat.add_zero, ← hv]; exact hown) ⟨rfl, rfl, rfl, Nat.le_refl _, fun _ _ _ => rfl⟩
    rw [Nat.add_zero, ← hv] at this
    exact this
  · refine wpList_append_own w hgd s x t ho base e i z size bytes ht hi hz hsize hby hzs hsz v n xs hs hown ad m c news hx hl hc h1 h63 hbytes hbase ?_
    intro v' w' h2 h3 _
    obtain ⟨ao, cp, hv⟩ := own_form h2
    rw [hv]
    rw [hv] at h2
    exact h ao cp w' h2 h3
end Go.Proofs.Ytohnhpicjedfeaa
namespace Go.Proofs.Ytohnhpicjedfeaa
open Go.RowKit Go.Shelf
set_option linter.unusedSimpArgs false
set_option linter.unusedVariables false
attribute [local go_sem] Oper.semAt_some

theorem addO (b off j : Nat) : (⟨b, off, none⟩ : Addr).add j = ⟨b, off + j, none⟩ := by unfold Addr.add; split <;> simp_all
theorem rowA_of {w W : World} {size n : Nat} {v : Value} {xs : List Value} (h : RowA w size v n xs) (hb : Below w.heap.size w W) : RowA W size v n xs := h.below hb
set_option maxHeartbeats 4000000 in
theorem upTo0_any (y : BitVec 128) (m : Int) (ao : Option Addr) (c : Nat) (w : World) (ha : ao = none → c = 0) :
    Calls Try.prog 56 #[.slice ao 0 c, .agg #[.int .u64 (hI y), .int .u64 (lI y), .int .i64 m]] w fun e w' => (∃ ao' c', e = .returned (.slice ao' 0 c')) ∧ Below w.heap.size w w' := by
  have b0 := bl1 w (.cells #[.int .u64 (hI y), .int .u64 (lI y), .int .i64 m] 38)
  obtain ⟨p0, p1, p2, -⟩ := atp_new w w.heap.size y m 38 rfl
  have KP := place_any y m (.slice ao 0 c) [] _ (show RwR (w.alloc (.cells #[.int .u64 (hI y), .int .u64 (lI y), .int .i64 m] 38)) (.slice ao 0 c) [] from ⟨ao, c, rfl, .inl rfl⟩) (by decide) (fun a b hb _ => by simp at hb)
  have HB0 := hidX b0
  clear b0
  go_enter Try.func56, Try.ntmps56
  go_wp2_with fail
  refine KP.mono ?_
  rintro e w2 ⟨⟨i, ok, ⟨h1, h2, h3⟩, rfl⟩, hb⟩
  obtain rfl : i = 0 := by simpa using h1
  have h4 : ok = false := by simpa using h3
  subst h4
  have HB2 := hidX (keepb hb HB0.out)
  clear KP hb h1 h2 h3 HB0 p0 p1 p2
  cases ao with
  | none =>
    obtain rfl := ha rfl
    go_wp2
    exact bodyPost_ret (v := .slice none 0 0) (by simp [results, Try.results56, go_sem]) rfl ⟨⟨_, _, rfl⟩, HB2.out⟩
  | some a =>
    go_wp2
    exact bodyPost_ret (v := .slice (some a) 0 c) (by simp [results, Try.results56, go_sem]) rfl ⟨⟨_, _, rfl⟩, HB2.out⟩
theorem upwG_any (ao : Option Addr) (k c : Nat) (px : BitVec 128) (pn : Int) (w : World) :
    Calls Try.prog 42 #[.slice ao k c, .agg #[.int .u64 (hI px), .int .u64 (lI px), .int .i64 pn]] w fun e w' => e = .returned (.func (.func 55) #[] #[.pointer (some ⟨w.heap.size + 1, 0, none⟩), .pointer (some ⟨w.heap.size, 0, none⟩)]) ∧ w' = (w.alloc (.cells #[.slice ao k c] 22)).alloc (.cells #[.int .u64 (hI px), .int .u64 (lI px), .int .i64 pn] 38) := by
  go_enter Try.func42, Try.ntmps42
  go_wp2
  exact bodyPost_ret (v := .func (.func 55) #[] #[.pointer (some ⟨w.heap.size + 1, 0, none⟩), .pointer (some ⟨w.heap.size, 0, none⟩)]) (by simp [results, Try.results42, go_sem]) rfl ⟨rfl, rfl⟩
set_option maxRecDepth 100000 in
set_option maxHeartbeats 16000000 in
theorem upw0_any (n : Nat) (Zs : Nat → Prop) (P5 L5 : Nat) (ao : Option Addr) (c : Nat) (ha : ao = none → c = 0) (px : BitVec 128) (pn : Int) (w : World) (hP : w.heap[P5]? = some (.cells #[.int .u64 (hI px), .int .u64 (lI px), .int .i64 pn] 38)) (hL : w.cell? ⟨L5, 0, none⟩ = some (.slice ao 0 c)) :
    SeqZ 38 n Try.prog 55 #[.pointer (some ⟨P5, 0, none⟩), .pointer (some ⟨L5, 0, none⟩)] encR Zs (fun ys => ys = []) (fun pre => pre <+: []) w := by
  intro l9 J Jx Xc W hW hJ hJx hc1 hc2 hY h0
  have q0 := bl1 W (.cells #[.int .u64 (hI px), .int .u64 (lI px), .int .i64 pn] 38)
  have HJ := hidX hJ
  have HJ0 := hidX (hJ _ _ _ h0 (Gw.of q0))
  have hP1 := (hW.block _ (blk_lt5 hP)).trans hP
  have a0 := at_blk hP1 0 (.int .u64 (hI px)) rfl
  have a1 := at_blk hP1 1 (.int .u64 (lI px)) rfl
  have a2 := at_blk hP1 2 (.int .i64 pn) rfl
  have v0 := keepc hW hL
  have hLW : L5 < W.heap.size := cell_in v0
  have Ha := hidX ha
  clear hJ hJx hY h0 q0 hc1 hc2 hP hL hP1 ha
  refine callsIn_of_wp Try.func55 rfl trivial ?_ rfl
  simp only [Try.ntmps55, List.size_toArray, List.length_cons, List.length_nil, Nat.reduceAdd, Nat.reduceSub, Array.replicate_succ, Array.replicate_zero, List.push_toArray, List.append_toArray, List.nil_append, List.cons_append]
  gi_wp2_with fail
  revert HJ0
  generalize W.alloc (.cells #[.int .u64 (hI px), .int .u64 (lI px), .int .i64 pn] 38) = V1
  intro HJ0
  clear a0 a1 a2 v0
  refine ⟨trivial, fun q => (by cases q), ?_⟩
  refine (callsIn_wide.2 (upTo0_any px pn ao c V1 Ha.out)).mono ?_
  rintro e V2 ⟨⟨ao', c', rfl⟩, hb⟩
  have HJ2 := hidX (HJ.out _ _ _ HJ0.out (Gw.of hb))
  clear hb HJ0
  gi_wp2_with fail
  gi_loopw [5] (fun rv wr => rv = .slice ao' 0 c' ∧ Hid (J [] wr)) (fun rv _ => sLen rv)
  case atStart => exact ⟨rfl, HJ2⟩
  case round =>
    clear HJ2
    obtain ⟨rfl, HJw⟩ := hrel
    gi_wp2
    go_end0
    exact ⟨⟨_, rfl⟩, .inl ⟨_, rfl, HJw.out⟩⟩
theorem upwT_any (F : Int) (px : BitVec 128) (pn : Int) (ao : Option Addr) (c : Nat) (l : List Rte) (w : World) (hF : F ≤ 128) (hO : OrdR l) (hRt : RtR F l) (hp : Rt F px pn) (hl : l.length ≤ 1000000000) (hv : RowA w 4 (.slice ao l.length c) l.length (rowR l)) :
    ∃ Zb : Nat → Prop, (∀ z, Zb z → z < w.heap.size) ∧ ∀ (n : Nat) (Wl : World) (P5 L5 : Nat), Below w.heap.size w Wl → Wl.heap[P5]? = some (.cells #[.int .u64 (hI px), .int .u64 (lI px), .int .i64 pn] 38) → Wl.cell? ⟨L5, 0, none⟩ = some (.slice ao l.length c) → SeqZ 38 n Try.prog 55 #[.pointer (some ⟨P5, 0, none⟩), .pointer (some ⟨L5, 0, none⟩)] encR (fun z => z = P5 ∨ z = L5 ∨ Zb z) (fun ys => ys = (l.filter (inR px pn)).reverse) (fun pre => pre <+: (l.filter (inR px pn)).reverse) Wl := by
  obtain ⟨-, ao', c', e, hc, h⟩ := hv
  injection e with e1 e2 e3
  subst e1 e3
  by_cases hl0 : l = []
  · subst hl0
    refine ⟨fun _ => False, fun z h => h.elim, fun n Wl P5 L5 hB hP hL => ?_⟩
    exact upw0_any n _ P5 L5 ao c (fun q => by
      rcases h with ⟨-, h, -⟩ | ⟨a, h, -⟩
      · exact h
      · rw [h] at q; cases q) px pn Wl hP hL
  · have hpos : 0 < l.length := List.length_pos_iff.mpr hl0
    rcases h with ⟨-, -, h⟩ | ⟨a, rfl, h⟩
    · omega
    · have hc0 := h 0 (.int .u64 (hI l[0].1.1)) (rowR_get l 0 hpos).1
      have sp := spot9 hc0
      obtain ⟨b, off, sx⟩ := a
      obtain rfl : sx = none := by
        have := congrArg Addr.spot sp
        simpa [Addr.add] using this
      have hR : RwB w b off l := fun j u hj => by
        have := h j u hj
        rw [addO] at this
        exact this
      have hbw : b < w.heap.size := cell_in (hR 0 _ (rowR_get l 0 hpos).1)
      exact ⟨fun z => z = b, fun z q => by omega, fun n Wl P5 L5 hB hP hL => upw1_any n P5 L5 b off c F px pn l hF hO hRt hp hc (by omega) hl Wl ⟨hP, hL, fun j u hj => keepc hB (hR j u hj)⟩⟩
theorem matchT_any (F : Int) (x : BitVec 128) (ao : Option Addr) (c : Nat) (l : List Rte) (w : World) (hF : F ≤ 128) (hO : OrdR l) (hRt : RtR F l) (hp : Rt F x F) (hl : l.length ≤ 1000000000) (hv : RowA w 4 (.slice ao l.length c) l.length (rowR l)) (T : List Rte) (hT : T = (l.filter (inR x F)).reverse) :
    Calls Try.prog 30 #[.agg #[.int .i64 F, .slice ao l.length c], .agg #[.int .u64 (hI x), .int .u64 (lI x)]] w fun e w' => e = .returned (.tuple #[.agg #[.int .u64 (hI (fstR T).1.1), .int .u64 (lI (fstR T).1.1), .int .i64 (fstR T).1.2, .int .i64 (fstR T).2], .bool (!T.isEmpty)]) ∧ Below w.heap.size w w' := by
  subst hT
  obtain ⟨Zb, h1, h2⟩ := upwT_any F x F ao c l w hF hO hRt hp hl hv
  exact match5_core F x ao l.length c _ w Zb h1 (fun W => upwG_any ao l.length c x F W) (fun Wl P5 L5 hB hP hL => h2 (9 - 1) Wl P5 L5 hB hP hL)
theorem lookT_any (F : Int) (x : BitVec 128) (ao : Option Addr) (c : Nat) (l : List Rte) (w : World) (hF : F ≤ 128) (hO : OrdR l) (hRt : RtR F l) (hp : Rt F x F) (hl : l.length ≤ 1000000000) (hv : RowA w 4 (.slice ao l.length c) l.length (rowR l)) (T : List Rte) (hT : T = (l.filter (inR x F)).reverse) :
    Calls Try.prog 14 #[.agg #[.int .i64 F, .slice ao l.length c], .agg #[.int .u64 (hI x), .int .u64 (lI x)]] w fun e w' => e = .returned (.int .i64 (fstR T).2) ∧ Below w.heap.size w w' :=
  look5_core F x ao l.length c T w (fun W hW => matchT_any F x ao c l W hF hO hRt hp hl (rowA_of hv hW) T hT)
end Go.Proofs.Ytohnhpicjedfeaa
namespace Go.Proofs.Ytohnhpicjedfeaa
open Go.RowKit Go.Shelf
set_option linter.unusedSimpArgs false
set_option linter.unusedVariables false

def RtH (F : Int) (r : Rte) : Prop := Rt F r.1.1 r.1.2 ∧ 1 ≤ r.2 ∧ r.2 ≤ 65535
theorem rte_rth (F : Int) (r : Rte) (hf : fam F = true) (h : rteE F r = 0) : RtH F r := by
  unfold rteE at h
  split at h
  · rename_i h1
    split at h
    · rename_i h2
      unfold hopB at h2
      simp only [Bool.and_eq_true, decide_eq_true_iff] at h2
      refine ⟨?_, by omega, by omega⟩
      unfold checkE at h1
      rw [if_pos hf] at h1
      split at h1
      · omega
      · split at h1
        · omega
        · split at h1
          · rename_i h3 h4 h5
            exact ⟨by omega, by omega, by simpa using h5⟩
          · omega
    · omega
  · rename_i h1; exact absurd h h1
theorem fam8 (F : Int) (h : fam F = true) : F = 32 ∨ F = 128 := by
  unfold fam at h
  simpa using h
theorem tab8_ok {F : Int} {l : List Rte} (h : TabE F l 0) : (F = 32 ∨ F = 128) ∧ l.length ≤ 1048576 ∧ (∀ r ∈ l, RtH F r) ∧ OrdR l := by
  have h0 : rtsE F l = 0 := by
    by_cases h' : rtsE F l = 0
    · exact h'
    · have := h.1 h'; omega
  obtain ⟨hf, h1, h2⟩ := rts_all F l h0
  rcases h.2 h0 with ⟨ha, -⟩ | ⟨-, q⟩
  · exact ⟨fam8 F hf, h1, fun r hr => rte_rth F r hf (h2 r hr), ord_adj ha⟩
  · omega
theorem right5_okL {F : Int} {l : List Rte} (h : RightT F l) : (F = 32 ∨ F = 128) ∧ l.length ≤ 3000 ∧ RtR F l ∧ OrdR l := by
  obtain ⟨a, b, c, d⟩ := tab8_ok (show TabE F l 0 from ⟨fun q => absurd h.2.1 q, fun _ => .inl ⟨h.2.2, rfl⟩⟩)
  exact ⟨a, h.1, fun r hr => (c r hr).1, d⟩
theorem rowA_rwr {W : World} {ao : Option Addr} {c : Nat} {l : List Rte} (h : RowA W 4 (.slice ao l.length c) l.length (rowR l)) : RwR W (.slice ao l.length c) l := by
  obtain ⟨-, ao', c', e, hc, h⟩ := h
  injection e with e1 e2 e3
  subst e1 e3
  refine ⟨_, _, rfl, ?_⟩
  by_cases hl0 : l = []
  · exact .inl hl0
  · have hpos : 0 < l.length := List.length_pos_iff.mpr hl0
    rcases h with ⟨-, -, h⟩ | ⟨a, rfl, h⟩
    · omega
    · have hc0 := h 0 (.int .u64 (hI l[0].1.1)) (rowR_get l 0 hpos).1
      have sp := spot9 hc0
      obtain ⟨b, off, sx⟩ := a
      obtain rfl : sx = none := by
        have := congrArg Addr.spot sp
        simpa [Addr.add] using this
      exact .inr ⟨b, off, rfl, fun j u hj => by
        have := h j u hj
        rw [addO] at this
        exact this⟩
end Go.Proofs.Ytohnhpicjedfeaa
namespace Go.Proofs.Ytohnhpicjedfeaa
open Go.RowKit
set_option linter.unusedSimpArgs false
set_option linter.unusedVariables false

theorem rt_mask (F : Int) (x : BitVec 128) (h0 : 0 ≤ F) : Rt F (x &&& maskW F) F := ⟨h0, Int.le_refl _, by unfold cutW; rw [BitVec.and_assoc, BitVec.and_self]⟩
end Go.Proofs.Ytohnhpicjedfeaa
