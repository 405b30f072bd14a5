/-
  Part 21 of the proof: 1 texts, one behind the other.
-/
import Derived.Test.YtdgmfdfhbhmppaaDoorPart18
import Derived.Test.YtdgmfdfhbhmppaaDoorPart19
import Derived.Test.YtdgmfdfhbhmppaaDoorPart20
/-
  The law PrefixSplits: any prefix, any length: the first of them, left early, again, within itself.
-/
namespace Go.Proofs.YtdgmfdfhbhmppaaDoor
open Go.RowKit Go.Shelf
set_option linter.unusedSimpArgs false
set_option linter.unusedVariables false
attribute [local go_sem] Oper.semAt_some storeF_run

theorem rowP_get3 : ∀ (l : List (BitVec 128 × Int)) (j : Nat) (hj : j < l.length), (rowP l)[j * 3]? = some (.int .u64 (hI l[j].1)) ∧ (rowP l)[j * 3 + 1]? = some (.int .u64 (lI l[j].1)) ∧ (rowP l)[j * 3 + 2]? = some (.int .i64 l[j].2) := by
  intro l
  induction l with
  | nil => intro j hj; simp at hj
  | cons p l ih =>
    intro j hj
    cases j with
    | zero => simp [rowP]
    | succ j =>
      have := ih j (by simpa using hj)
      rw [show (j + 1) * 3 = j * 3 + 3 by omega, show j * 3 + 3 + 1 = j * 3 + 1 + 3 by omega, show j * 3 + 3 + 2 = j * 3 + 2 + 3 by omega]
      simpa [rowP] using this
/-- The cells of a row of prefixes, where there are some. -/
def Rc3 (W : World) (ao : Option Addr) (T : List (BitVec 128 × Int)) : Prop := T ≠ [] → ∃ g, ao = some ⟨g, 0, none⟩ ∧ ∀ j (hj : j < T.length), W.cell? ⟨g, j * 3, none⟩ = some (.int .u64 (hI T[j].1)) ∧ W.cell? ⟨g, j * 3 + 1, none⟩ = some (.int .u64 (lI T[j].1)) ∧ W.cell? ⟨g, j * 3 + 2, none⟩ = some (.int .i64 T[j].2)
theorem Rc3.below {W W' : World} {ao : Option Addr} {T : List (BitVec 128 × Int)} (k : Rc3 W ao T) (hb : Below W.heap.size W W') : Rc3 W' ao T := fun h => by
  obtain ⟨g, e, f⟩ := k h
  exact ⟨g, e, fun j hj => ⟨keepc hb (f j hj).1, keepc hb (f j hj).2.1, keepc hb (f j hj).2.2⟩⟩
theorem own_rc3 {W : World} {base : Nat} {v : Value} {T : List (BitVec 128 × Int)} (h : W.ownsRow base 26 3 v T.length (rowP T)) : ∃ ao c, v = .slice ao T.length c ∧ Rc3 W ao T := by
  rcases h.2 with ⟨e0, e1⟩ | ⟨g, cap, cur, e0, -⟩
  · exact ⟨none, 0, by rw [e0, e1], fun hT => absurd (List.length_eq_zero_iff.mp e1) hT⟩
  · refine ⟨some ⟨g, 0, none⟩, cap, e0, fun _ => ⟨g, rfl, fun j hj => ?_⟩⟩
    obtain ⟨a, b, c⟩ := rowP_get3 T j hj
    have f := fun j u hj => h.cells (g := g) (by rw [e0]; rfl) j u hj
    have ad : ∀ j, (⟨g, 0, none⟩ : Addr).add j = ⟨g, j, none⟩ := fun j => by unfold Addr.add; split <;> simp_all
    exact ⟨by have := f _ _ a; rwa [ad] at this, by have := f _ _ b; rwa [ad] at this, by have := f _ _ c; rwa [ad] at this⟩
/-- What the law's variables hold while it ranges. -/
structure SI (w : World) (N9 N10 As : Nat) (F : Int) (px : BitVec 128) (pl nn so : Int) (ao : Option Addr) (cap : Nat) (T : List (BitVec 128 × Int)) (W : World) : Prop where
  s : Cl1 W (w.heap.size + 1) (.int .i64 so)
  r : Cl1 W (w.heap.size + 2) (.bool false)
  v : Cl1 W N9 (.slice ao T.length cap)
  q : Cl1 W N10 (.func (.func 22) #[] #[.pointer (some ⟨As, 0, none⟩), .pointer (some ⟨As + 1, 0, none⟩), .pointer (some ⟨As + 2, 0, none⟩)])
  row : Rc3 W ao T
  sf : Cl1 W As (.int .i64 F)
  sp : AtP W (As + 1) px pl
  sn : Cl1 W (As + 2) (.int .i64 nn)
theorem SI.below {w : World} {N9 N10 As : Nat} {F : Int} {px : BitVec 128} {pl nn so : Int} {ao : Option Addr} {cap : Nat} {T : List (BitVec 128 × Int)} {W W' : World} (k : SI w N9 N10 As F px pl nn so ao cap T W) (hb : Below W.heap.size W W') : SI w N9 N10 As F px pl nn so ao cap T W' := ⟨k.s.below hb, k.r.below hb, k.v.below hb, k.q.below hb, k.row.below hb, k.sf.below hb, k.sp.below hb, k.sn.below hb⟩
/-- A function leaves past the marks of its ranges. -/
theorem leaves_marks {n B : Nat} {P : Program} {fn : Func} {tmps : Array Value} {R : Ending → World → Prop} : ∀ (l : List Nat) (W : World), l.Nodup → (∀ D ∈ l, B ≤ D ∧ W.heap[D]? = some (.deferred (some []))) → (∀ W', Below B W W' → LeavesInM Fence.wide n P fn tmps R [] .returning W') → LeavesInM Fence.wide n P fn tmps R (l.map fun D => { target := .collected D, args := #[] }) .returning W
  | [], W, _, _, h => h W (Below.refl _ _)
  | D :: l, W, hn, hd, h => by
    obtain ⟨h1, h2⟩ := List.nodup_cons.mp hn
    obtain ⟨hB, hD⟩ := hd D (List.mem_cons_self ..)
    have hput : Below B W (W.putObj D (.deferred none)) := ⟨rfl, rfl, rfl, by simp, fun k hk => World.putObj_heap_other (by omega)⟩
    refine ⟨by simp, .inl ⟨D, W.putObj D (.deferred none), rfl, run_takeDeferred hD, leaves_marks l _ h2 (fun E hE => ?_) (fun W' hb => h W' (hput.trans hb))⟩⟩
    obtain ⟨a, b⟩ := hd E (List.mem_cons_of_mem _ hE)
    refine ⟨a, (World.putObj_heap_other ?_).trans b⟩
    rintro rfl
    exact h1 hE
/-- All blocks of a world but one stay. -/
def KV (a : Nat) (V U : World) : Prop := V.heap.size ≤ U.heap.size ∧ ∀ z, z < V.heap.size → z ≠ a → U.heap[z]? = V.heap[z]?
theorem KV.refl (a : Nat) (V : World) : KV a V V := ⟨Nat.le_refl _, fun _ _ _ => rfl⟩
theorem KV.below {a : Nat} {V U U' : World} (h : KV a V U) (hb : Below U.heap.size U U') : KV a V U' := ⟨Nat.le_trans h.1 hb.size, fun z h1 h2 => (hb.block z (Nat.lt_of_lt_of_le h1 h.1)).trans (h.2 z h1 h2)⟩
theorem KV.set {a : Nat} {V U : World} (h : KV a V U) (b o : Nat) (u : Value) (hb : b = a ∨ V.heap.size ≤ b) : KV a V (U.setCell ⟨b, o, none⟩ u) := ⟨by simpa using h.1, fun z h1 h2 => (hSet6 u (by omega)).trans (h.2 z h1 h2)⟩
theorem KV.own {β : Type} {a B : Nat} {V : World} (hV : V.heap.size ≤ B) : OwnFrom B (fun (_ : β) U => KV a V U) := fun s A A' row hs hg hr => ⟨Nat.le_trans hs.1 hg.size, fun z h1 h2 => (hg.block z (Nat.lt_of_lt_of_le h1 hs.1) (fun e => by have := (hr z e.symm).1; omega)).trans (hs.2 z h1 h2)⟩
theorem KV.kw {a B : Nat} {Z : Nat → Prop} {V U : World} (h : KV a V U) (hZ : ¬ Z a) (hB : a < B) : KW Z B V U := ⟨h.1, fun z o h1 h2 => by
  have hz := (Array.getElem?_eq_some_iff.1 h1).1
  rw [h.2 z hz (by rintro rfl; rcases h2 with q | q; exact hZ q; omega)]
  exact h1⟩
theorem KV.keeps {a C : Nat} {V U : World} (h : KV a V U) (hC : a < C) : KeepsFrom C V U := ⟨h.1, fun z o h1 h2 _ => by rw [h.2 z (Array.getElem?_eq_some_iff.1 h2).1 (by omega)]; exact h2⟩
theorem tk_at {L pre : List (BitVec 128 × Int)} {x : BitVec 128 × Int} {m : Nat} (h : pre ++ [x] <+: L) (hm : pre.length < m) : ∃ q : pre.length < (L.take m).length, (L.take m)[pre.length] = x := by
  have hl := h.length_le
  rw [List.length_append, List.length_singleton] at hl
  refine ⟨by rw [List.length_take]; omega, ?_⟩
  obtain ⟨t, rfl⟩ := h
  rw [List.getElem_take]
  simp
theorem Rc3.at {W : World} {ao : Option Addr} {T : List (BitVec 128 × Int)} (k : Rc3 W ao T) {j : Nat} {x : BitVec 128 × Int} (hj : j < T.length) (hx : T[j] = x) : ∃ g, ao = some ⟨g, 0, none⟩ ∧ W.cell? ⟨g, j * 3, none⟩ = some (.int .u64 (hI x.1)) ∧ W.cell? ⟨g, j * 3 + 1, none⟩ = some (.int .u64 (lI x.1)) ∧ W.cell? ⟨g, j * 3 + 2, none⟩ = some (.int .i64 x.2) := by
  obtain ⟨g, e, f⟩ := k (by rintro rfl; simp at hj)
  have := f j hj
  rw [hx] at this
  exact ⟨g, e, this⟩
set_option maxRecDepth 100000 in
set_option maxHeartbeats 16000000 in
theorem prefixSplits_any (F : Int) (px : BitVec 128) (pl nn stop : Int) (w : World) (hP : Pow w) :
    Calls Tryd.prog 3 #[.int .i64 F, .agg #[.int .u64 (hI px), .int .u64 (lI px), .int .i64 pl], .int .i64 nn, .int .i64 stop] w fun e w' => e = .returned (.bool true) ∧ Below w.heap.size w w' := by
  have KK := fun W hb => known3_any W (hP.keep (W := w) (w' := W) hb)
  have KW' := fun w => within3_any stop 70 w (by decide) (by decide)
  have q1 := bl1 w (.cells #[.int .u64 (hI px), .int .u64 (lI px), .int .i64 pl] 26)
  have q2 := bl1 (w.alloc (.cells #[.int .u64 (hI px), .int .u64 (lI px), .int .i64 pl] 26)) (.cells #[.int .i64 stop] 3)
  have q3 := bl1 ((w.alloc (.cells #[.int .u64 (hI px), .int .u64 (lI px), .int .i64 pl] 26)).alloc (.cells #[.int .i64 stop] 3)) (.cells #[.bool false] 4)
  have hB0 := keepb q3 (keepb q2 q1)
  have HP0 := hidX (((atp_new w w.heap.size px pl 26 rfl).below q2).below q3)
  have HS0 := hidX ((cl1_new (w.alloc (.cells #[.int .u64 (hI px), .int .u64 (lI px), .int .i64 pl] 26)) (w.heap.size + 1) (.int .i64 stop) 3 (by simp)).below q3)
  have HR0 := hidX (cl1_new ((w.alloc (.cells #[.int .u64 (hI px), .int .u64 (lI px), .int .i64 pl] 26)).alloc (.cells #[.int .i64 stop] 3)) (w.heap.size + 2) (.bool false) 4 (by simp))
  have HB0 := hidX hB0
  have KK0 := KK _ hB0
  clear KK q1 q2 q3 hB0 hP
  have m1 := Int.emod_nonneg stop (b := 70) (by decide)
  have m2 := Int.emod_lt_of_pos stop (b := 70) (by decide)
  have hso : IntKind.i64.wrap (1 + stop % 70) = 1 + stop % 70 := by rw [IntKind.wrap_i64]; omega
  refine (callsIn_wide (n := 9)).1 ?_
  refine callsIn_of_wp_marks Tryd.func3 rfl trivial ?_ rfl
  simp only [Tryd.ntmps3, List.size_toArray, List.length_cons, List.length_nil, Nat.reduceAdd, Nat.reduceSub, Array.replicate_succ, Array.replicate_zero, List.push_toArray, List.append_toArray, List.nil_append, List.cons_append]
  refine wpIn_wide.2 ?_
  go_wp2_with fail
  refine KK0.mono ?_
  rintro e w1 ⟨rfl, hb⟩
  have HP1 := hidX (HP0.out.below hb)
  have HS1 := hidX (HS0.out.below hb)
  have HR1 := hidX (HR0.out.below hb)
  have HB1 := hidX (keepb hb HB0.out)
  clear KK0 hb HP0 HS0 HR0 HB0
  obtain ⟨s0, s1⟩ := HS1.out
  go_wp2_with fail
  refine (KW' _).mono ?_
  rintro e w2 ⟨rfl, rfl⟩
  have HS2 := hidX (HS1.out.set (.int .i64 (1 + stop % 70)))
  have HP2 := hidX (HP1.out.heap6 (W' := w2.setCell ⟨w.heap.size + 1, 0, none⟩ (.int .i64 (1 + stop % 70))) (hSet6 _ (by omega)))
  have HR2 := hidX (HR1.out.heap (W' := w2.setCell ⟨w.heap.size + 1, 0, none⟩ (.int .i64 (1 + stop % 70))) (hSet6 _ (by omega)))
  have HB2 := hidX (HB1.out.setCell (p := ⟨w.heap.size + 1, 0, none⟩) (by simp) (.int .i64 (1 + stop % 70)))
  have hw2 : w.heap.size + 2 < w2.heap.size := HR1.out.lt
  have hsz2 : (w2.setCell ⟨w.heap.size + 1, 0, none⟩ (.int .i64 (1 + stop % 70))).heap.size = w2.heap.size := by simp
  obtain ⟨p0, p1, p2, -, -, -⟩ := HP2.out
  obtain ⟨s0', s1'⟩ := HS2.out
  clear KW' HP1 HS1 HR1 HB1
  have hm0 : 0 ≤ 1 + stop % 70 := by omega
  have hm1 : 1 + stop % 70 ≤ 100 := by omega
  have hmp : 0 < 1 + stop % 70 := by omega
  have hmq : 1 + stop % 70 ≤ 70 := by omega
  clear m1 m2
  go_wp2_with fail
  revert HP2 HS2 HR2 HB2
  generalize w2.setCell ⟨w.heap.size + 1, 0, none⟩ (.int .i64 (1 + stop % 70)) = V2
  intro HS2 HP2 HR2 HB2
  refine (rsplit_any F px pl nn (1 + stop % 70) _ hm0 hm1).mono ?_
  rintro e w3 ⟨⟨v, rfl, hv⟩, hb⟩
  obtain ⟨ao, cap, rfl, hrc⟩ := own_rc3 hv
  clear hv p0 p1 p2 s0 s1 s0' s1'
  obtain ⟨T, hT⟩ : ∃ T, T = (spL F px pl nn).take (1 + stop % 70).toNat := ⟨_, rfl⟩
  rw [← hT] at hrc ⊢
  have q4 := bl1 w3 (.cells #[.slice ao T.length cap] 29)
  have HP4 := hidX ((HP2.out.below hb).below q4)
  have HS4 := hidX ((HS2.out.below hb).below q4)
  have HR4 := hidX ((HR2.out.below hb).below q4)
  have HB4 := hidX (keepb q4 (keepb hb HB2.out))
  have HV4 := hidX (cl1_new w3 w3.heap.size (.slice ao T.length cap) 29 rfl)
  have HC4 := hidX (hrc.below q4)
  have hN9 : w.heap.size + 2 < w3.heap.size := (HR2.out.below hb).lt
  have HT := hidX hT
  clear hb q4 hrc hT HP2 HS2 HR2 HB2
  obtain ⟨p0, p1, p2, -, -, -⟩ := HP4.out
  go_wp2_with fail
  revert HP4 HS4 HR4 HB4 HV4 HC4
  generalize w3.alloc (.cells #[.slice ao T.length cap] 29) = V4
  generalize w3.heap.size = N9 at *
  intro HP4 HS4 HR4 HB4 HV4 HC4
  refine (psplit_any F px pl nn _).mono ?_
  rintro e w5 ⟨rfl, hw5⟩
  have b1 := bl1 V4 (.cells #[.int .i64 F] 3)
  have b2 := bl1 (V4.alloc (.cells #[.int .i64 F] 3)) (.cells #[.int .u64 (hI px), .int .u64 (lI px), .int .i64 pl] 26)
  have b3 := bl1 ((V4.alloc (.cells #[.int .i64 F] 3)).alloc (.cells #[.int .u64 (hI px), .int .u64 (lI px), .int .i64 pl] 26)) (.cells #[.int .i64 nn] 3)
  have b4 : Below V4.heap.size V4 w5 := by rw [hw5]; exact keepb b3 (keepb b2 b1)
  have HF5 : Hid (Cl1 w5 V4.heap.size (.int .i64 F) ∧ AtP w5 (V4.heap.size + 1) px pl ∧ Cl1 w5 (V4.heap.size + 2) (.int .i64 nn)) := hidX (by
    rw [hw5]
    exact ⟨((cl1_new V4 V4.heap.size (.int .i64 F) 3 rfl).below b2).below b3, (atp_new _ (V4.heap.size + 1) px pl 26 (by simp)).below b3, cl1_new _ (V4.heap.size + 2) (.int .i64 nn) 3 (by simp)⟩)
  have hA6 : N9 < V4.heap.size := HV4.out.lt
  have hA7 : V4.heap.size + 2 < w5.heap.size := HF5.out.2.2.lt
  clear b1 b2 b3 hw5 p0 p1 p2
  have HS5 := hidX (HS4.out.below b4)
  have HR5 := hidX (HR4.out.below b4)
  have HV5 := hidX (HV4.out.below b4)
  have HC5 := hidX (HC4.out.below b4)
  have HB5 := hidX (keepb b4 HB4.out)
  clear b4 HP4 HS4 HR4 HB4 HV4 HC4
  generalize V4.heap.size = As at *
  have b6 := bl1 w5 (.cells #[.func (.func 22) #[] #[.pointer (some ⟨As, 0, none⟩), .pointer (some ⟨As + 1, 0, none⟩), .pointer (some ⟨As + 2, 0, none⟩)]] 32)
  have HI6 : Hid (SI w N9 w5.heap.size As F px pl nn (1 + stop % 70) ao cap T (w5.alloc (.cells #[.func (.func 22) #[] #[.pointer (some ⟨As, 0, none⟩), .pointer (some ⟨As + 1, 0, none⟩), .pointer (some ⟨As + 2, 0, none⟩)]] 32))) := hidX ⟨HS5.out.below b6, HR5.out.below b6, HV5.out.below b6, cl1_new w5 w5.heap.size _ _ rfl, HC5.out.below b6, HF5.out.1.below b6, HF5.out.2.1.below b6, HF5.out.2.2.below b6⟩
  have HB6 := hidX (keepb b6 HB5.out)
  have ENil := fun W => seqnil_run (.pointer (some ⟨As, 0, none⟩)) (.pointer (some ⟨As + 1, 0, none⟩)) (.pointer (some ⟨As + 2, 0, none⟩)) W
  obtain ⟨f0, f1⟩ := HI6.out.q
  clear b6 HS5 HR5 HB5 HV5 HC5 HF5
  go_wp2_with fail
  revert HI6 HB6
  generalize w5.alloc (.cells #[.func (.func 22) #[] #[.pointer (some ⟨As, 0, none⟩), .pointer (some ⟨As + 1, 0, none⟩), .pointer (some ⟨As + 2, 0, none⟩)]] 32) = W0
  generalize w5.heap.size = N10 at *
  intro HI6 HB6
  clear ENil f0 f1
  generalize 1 + stop % 70 = so at *
  refine wp_loop (fun a W => ∃ (t : Nat) (l : List Nat) (u12 u32 u33 u34 u35 u36 u75 u76 u77 u78 : Value), a = { tmps := #[.int .i64 F, .agg #[.int .u64 (hI px), .int .u64 (lI px), .int .i64 pl], .int .i64 nn, .int .i64 stop, undef, .pointer (some ⟨w.heap.size, 0, none⟩), undef, .pointer (some ⟨w.heap.size + 1, 0, none⟩), .pointer (some ⟨w.heap.size + 1 + 1, 0, none⟩), .pointer (some ⟨N9, 0, none⟩), .pointer (some ⟨N10, 0, none⟩), .int .i64 (t : Int), u12, undef, undef, undef, .bool true, .bool false, .int .i64 stop, .int .i64 (stop % 70), .int .i64 so, .int .i64 F, .agg #[.int .u64 (hI px), .int .u64 (lI px), .int .i64 pl], .int .i64 nn, .int .i64 so, .slice ao T.length cap, .int .i64 F, .agg #[.int .u64 (hI px), .int .u64 (lI px), .int .i64 pl], .int .i64 nn, .func (.func 22) #[] #[.pointer (some ⟨As, 0, none⟩), .pointer (some ⟨As + 1, 0, none⟩), .pointer (some ⟨As + 2, 0, none⟩)], .func (.func 22) #[] #[.pointer (some ⟨As, 0, none⟩), .pointer (some ⟨As + 1, 0, none⟩), .pointer (some ⟨As + 2, 0, none⟩)], .bool false, u32, u33, u34, u35, u36, undef, undef, undef, undef, undef, undef, undef, undef, undef, undef, undef, undef, undef, undef, undef, undef, undef, undef, undef, undef, undef, undef, undef, undef, undef, undef, undef, undef, undef, undef, undef, undef, undef, undef, undef, undef, undef, undef, u75, u76, u77, u78], defers := (l.map fun D => { target := .collected D, args := #[] }) } ∧ Hid (t ≤ 2 ∧ l.Nodup ∧ (∀ D ∈ l, W0.heap.size ≤ D ∧ W.heap[D]? = some (.deferred (some []))) ∧ Below W0.heap.size W0 W)) (fun a _ => 2 - (intOf (a.tmps.getD 11 undef)).toNat) ?_ ?_
  · exact ⟨0, [], undef, undef, undef, undef, undef, undef, undef, undef, undef, undef, rfl, hidX ⟨by omega, List.nodup_nil, fun D hD => (by cases hD), Below.refl _ _⟩⟩
  rintro a W ⟨t, l, u12, u32, u33, u34, u35, u36, u75, u76, u77, u78, rfl, HL⟩
  have HI := hidX (HI6.out.below HL.out.2.2.2)
  by_cases ht : t = 2
  · subst ht
    obtain ⟨r0, r1⟩ := HI.out.r
    have HU := hidX (HI.out.r.set (.bool true))
    have HBu := hidX ((keepb HL.out.2.2.2 HB6.out).setCell (p := ⟨w.heap.size + 2, 0, none⟩) (by simp) (.bool true))
    have HW0 : Hid (w.heap.size + 2 < W0.heap.size) := hidX HI6.out.r.lt
    clear HI HI6 HB6
    go_wp2
    refine leaves_marks (B := w.heap.size + 3) l _ HL.out.2.1 (fun D hD => ?_) (fun W' hb => ?_)
    · obtain ⟨d1, d2⟩ := HL.out.2.2.1 D hD
      have := HW0.out
      exact ⟨by omega, (hSet6 _ (by omega)).trans d2⟩
    · have hc : W'.cell? ⟨w.heap.size + 2, 0, none⟩ = some (.bool true) := (World.cell?_of_block (a := ⟨w.heap.size + 2, 0, none⟩) (hb.block (w.heap.size + 2) (by omega))).trans HU.out.1
      refine ⟨.bool true, ?_, rfl, HBu.out.trans (hb.mono (by omega))⟩
      simp [results, Tryd.results3, go_sem, hc]
  · have ht1 : t < 2 := by have := HL.out.1; omega
    have ht2 : (t : Int) < 2 := by omega
    have ht3 : IntKind.i64.wrap ((t : Int) + 1) = ((t + 1 : Nat) : Int) := by rw [IntKind.wrap_i64]; push_cast; omega
    have q5 := bl1 W (.cells #[.int .i64 0] 3)
    have HIl := hidX (HI.out.below q5)
    have HKl := hidX (cl1_new W W.heap.size (.int .i64 0) 3 rfl)
    have HBl := hidX q5
    have hWl : W.heap.size < (W.alloc (.cells #[.int .i64 0] 3)).heap.size := by simp
    obtain ⟨f0, f1⟩ := HIl.out.q
    clear ht q5 HI
    go_wp2_with fail
    revert HIl HKl HBl hWl
    generalize W.alloc (.cells #[.int .i64 0] 3) = Wl
    intro HIl HKl HBl hWl
    clear f0 f1
    have HSM : Hid (SpM (fun z => z = As ∨ z = As + 1 ∨ z = As + 2) (Wl.heap.size + 2) As (As + 1) (As + 2) F px pl nn Wl) := hidX ⟨HIl.out.sf.1, HIl.out.sp, HIl.out.sn.1, .inl (.inl rfl), .inl (.inr (.inl rfl)), .inl (.inr (.inr rfl))⟩
    have HDD : Hid (∀ X, Below W.heap.size W X → SI w N9 N10 As F px pl nn so ao cap T X) := hidX (fun X hb => HI6.out.below (keepb hb HL.out.2.2.2))
    have hAW : N10 < W.heap.size := by have := (HI6.out.below HL.out.2.2.2).q.lt; exact this
    have HEnd : Hid (∀ (D k : Nat) (V : World), Wl.heap.size ≤ D → V.heap[D]? = some (.deferred (some [])) → Below W.heap.size W V → t + 1 ≤ 2 ∧ (D :: l).Nodup ∧ (∀ E ∈ D :: l, W0.heap.size ≤ E ∧ V.heap[E]? = some (.deferred (some []))) ∧ Below W0.heap.size W0 V) := hidX (fun D k V h1 h2 h3 => by
      obtain ⟨_, e2, e3, e4⟩ := HL.out
      have hlt : ∀ E ∈ l, E < W.heap.size := fun E hE => (Array.getElem?_eq_some_iff.1 (e3 E hE).2).1
      refine ⟨by omega, List.nodup_cons.mpr ⟨fun hm => by have := hlt D hm; omega, e2⟩, fun E hE => ?_, keepb h3 e4⟩
      rcases List.mem_cons.mp hE with rfl | hE
      · exact ⟨by have := e4.size; omega, h2⟩
      · exact ⟨(e3 E hE).1, (h3.block E (hlt E hE)).trans (e3 E hE).2⟩)
    clear HI6 HB6 HL
    refine (wpIn_wide (n := 9)).1 ?_
    refine rangeX 9 (by decide) (gf := 22) (lb := #[.pointer (some ⟨As, 0, none⟩), .pointer (some ⟨As + 1, 0, none⟩), .pointer (some ⟨As + 2, 0, none⟩)]) rfl (enters_of Tryd.func22 (by kernel_rfl) rfl)
      (split1_any (9 - 1) (fun z => z = As ∨ z = As + 1 ∨ z = As + 2) (Wl.heap.size + 2) As (As + 1) (As + 2) F px pl nn Wl HSM.out) (Nat.le_refl _) (fun h k => h.trans k) (fun V o o' h1 h2 => kw_put (by rintro (q | q | q) <;> omega) (by omega) V o o' h1 h2) (Below.refl _ _) (fun _ => rfl)
      (fun pre V => ((pre.length : Int) < so ∧ Cl1 V W.heap.size (.int .i64 (pre.length : Int))) ∧ Below W.heap.size W V)
      (fun c pre V => ((c = .exit 2 ∧ (pre.length : Int) = so) ∧ Cl1 V W.heap.size (.int .i64 so)) ∧ Below W.heap.size W V)
      (OwnFrom.and (Own.from (fun s A B row hs hg hr => ⟨hs.1, hs.2.kept hg hr⟩) _) (ownFrom_below (Nat.le_refl _) (by omega)))
      (fun c => OwnFrom.and (Own.from (fun s A B row hs hg hr => ⟨hs.1, hs.2.kept hg hr⟩) _) (ownFrom_below (Nat.le_refl _) (by omega)))
      ⟨⟨by simpa using hmp, by simpa using HKl.out⟩, HBl.out⟩
      (fun x a' V => ∃ Bx, W.heap.size < Bx ∧ AtP V Bx x.1 x.2 ∧ a' = { tmps := #[.int .i64 F, .agg #[.int .u64 (hI px), .int .u64 (lI px), .int .i64 pl], .int .i64 nn, .int .i64 stop, undef, .pointer (some ⟨w.heap.size, 0, none⟩), undef, .pointer (some ⟨w.heap.size + 1, 0, none⟩), .pointer (some ⟨w.heap.size + 1 + 1, 0, none⟩), .pointer (some ⟨N9, 0, none⟩), .pointer (some ⟨N10, 0, none⟩), .int .i64 (t : Int), .pointer (some ⟨W.heap.size, 0, none⟩), .pointer (some ⟨Bx, 0, none⟩), undef, undef, .bool true, .bool false, .int .i64 stop, .int .i64 (stop % 70), .int .i64 so, .int .i64 F, .agg #[.int .u64 (hI px), .int .u64 (lI px), .int .i64 pl], .int .i64 nn, .int .i64 so, .slice ao T.length cap, .int .i64 F, .agg #[.int .u64 (hI px), .int .u64 (lI px), .int .i64 pl], .int .i64 nn, .func (.func 22) #[] #[.pointer (some ⟨As, 0, none⟩), .pointer (some ⟨As + 1, 0, none⟩), .pointer (some ⟨As + 2, 0, none⟩)], .func (.func 22) #[] #[.pointer (some ⟨As, 0, none⟩), .pointer (some ⟨As + 1, 0, none⟩), .pointer (some ⟨As + 2, 0, none⟩)], .bool false, .int .i64 (t : Int), .bool true, u34, u35, .func (.func 22) #[] #[.pointer (some ⟨As, 0, none⟩), .pointer (some ⟨As + 1, 0, none⟩), .pointer (some ⟨As + 2, 0, none⟩)], .agg #[.int .u64 (hI x.1), .int .u64 (lI x.1), .int .i64 x.2], undef, undef, undef, undef, undef, undef, undef, undef, undef, undef, undef, undef, undef, undef, undef, undef, undef, undef, undef, undef, undef, undef, undef, undef, undef, undef, undef, undef, undef, undef, undef, undef, undef, undef, undef, undef, undef, u75, u76, u77, u78], defers := [] })
      (fun x a' s A B row hs hg hr => by
        obtain ⟨Bx, h1, h2, h3⟩ := hs
        exact ⟨Bx, h1, h2.kept6 hg (fun r e => (hr r e).2), h3⟩) ?assign ?body ?done ?stop
    case assign =>
      rintro lo pre x V K ⟨⟨hi0, hi1⟩, hi2⟩ hK
      have bq := bl1 V (.cells #[.int .u64 (hI x.1), .int .u64 (lI x.1), .int .i64 x.2] 26)
      have hlt : W.heap.size < V.heap.size := hi1.lt
      have HK := hidX (hK ({ tmps := #[.int .i64 F, .agg #[.int .u64 (hI px), .int .u64 (lI px), .int .i64 pl], .int .i64 nn, .int .i64 stop, undef, .pointer (some ⟨w.heap.size, 0, none⟩), undef, .pointer (some ⟨w.heap.size + 1, 0, none⟩), .pointer (some ⟨w.heap.size + 1 + 1, 0, none⟩), .pointer (some ⟨N9, 0, none⟩), .pointer (some ⟨N10, 0, none⟩), .int .i64 (t : Int), .pointer (some ⟨W.heap.size, 0, none⟩), .pointer (some ⟨V.heap.size, 0, none⟩), undef, undef, .bool true, .bool false, .int .i64 stop, .int .i64 (stop % 70), .int .i64 so, .int .i64 F, .agg #[.int .u64 (hI px), .int .u64 (lI px), .int .i64 pl], .int .i64 nn, .int .i64 so, .slice ao T.length cap, .int .i64 F, .agg #[.int .u64 (hI px), .int .u64 (lI px), .int .i64 pl], .int .i64 nn, .func (.func 22) #[] #[.pointer (some ⟨As, 0, none⟩), .pointer (some ⟨As + 1, 0, none⟩), .pointer (some ⟨As + 2, 0, none⟩)], .func (.func 22) #[] #[.pointer (some ⟨As, 0, none⟩), .pointer (some ⟨As + 1, 0, none⟩), .pointer (some ⟨As + 2, 0, none⟩)], .bool false, .int .i64 (t : Int), .bool true, u34, u35, .func (.func 22) #[] #[.pointer (some ⟨As, 0, none⟩), .pointer (some ⟨As + 1, 0, none⟩), .pointer (some ⟨As + 2, 0, none⟩)], .agg #[.int .u64 (hI x.1), .int .u64 (lI x.1), .int .i64 x.2], undef, undef, undef, undef, undef, undef, undef, undef, undef, undef, undef, undef, undef, undef, undef, undef, undef, undef, undef, undef, undef, undef, undef, undef, undef, undef, undef, undef, undef, undef, undef, undef, undef, undef, undef, undef, undef, u75, u76, u77, u78], defers := [] }) (V.alloc (.cells #[.int .u64 (hI x.1), .int .u64 (lI x.1), .int .i64 x.2] 26)) ((KeepsOthers.alloc _ _).from _) (kw_below bq) ⟨⟨hi0, hi1.below bq⟩, keepb bq hi2⟩ ⟨V.heap.size, hlt, atp_new V V.heap.size x.1 x.2 26 rfl, rfl⟩)
      clear hK bq hi0 hi1 hi2 hlt
      unfold encP
      simp only [List.zip_toArray, List.zip_cons_cons, List.zip_nil_left, List.zip_nil_right, List.foldl_toArray, List.foldl_cons, List.foldl_nil, List.setIfInBounds_toArray, List.set_cons_zero, List.set_cons_succ, Array.zip]
      gi_wp2
      exact HK.out
    case body =>
      rintro lo pre ⟨xx, xn⟩ a' V hl ⟨r, hr⟩ ⟨⟨hks, hK⟩, hB⟩ ⟨Bx, hBx, hx, rfl⟩ hlt
      dsimp only at hx ⊢
      have hat := tk_at (m := so.toNat) hlt (by omega)
      rw [← HT.out] at hat
      obtain ⟨hkT, hTx⟩ := hat
      obtain ⟨g, hao, c0, c1, c2⟩ := (HDD.out V hB).row.at hkT hTx
      subst hao
      have HFin : Hid (∀ U, KV W.heap.size V U → Cl1 U W.heap.size (.int .i64 ((pre.length : Int) + 1)) → Below W.heap.size W U → ((pre.length : Int) + 1 = so → KeepsFrom Wl.heap.size V U ∧ KW (fun z => z = As ∨ z = As + 1 ∨ z = As + 2) (Wl.heap.size + 2) V U ∧ (((pre ++ [(xx, xn)]).length : Int) = so ∧ Cl1 U W.heap.size (.int .i64 so)) ∧ Below W.heap.size W U) ∧ (¬ (pre.length : Int) + 1 = so → KeepsFrom Wl.heap.size V U ∧ KW (fun z => z = As ∨ z = As + 1 ∨ z = As + 2) (Wl.heap.size + 2) V U ∧ (((pre ++ [(xx, xn)]).length : Int) < so ∧ Cl1 U W.heap.size (.int .i64 ((pre ++ [(xx, xn)]).length : Int))) ∧ Below W.heap.size W U)) := hidX (fun U h1 h2 h3 => by
        have e : (((pre ++ [(xx, xn)]).length : Nat) : Int) = (pre.length : Int) + 1 := by rw [List.length_append, List.length_singleton]; push_cast; rfl
        rw [e]
        have a1 := h1.keeps (C := Wl.heap.size) (by omega)
        have a2 := h1.kw (Z := fun z => z = As ∨ z = As + 1 ∨ z = As + 2) (B := Wl.heap.size + 2) (by rintro (q | q | q) <;> omega) (by omega)
        exact ⟨fun q => ⟨a1, a2, ⟨q, by rw [← q]; exact h2⟩, h3⟩, fun q => ⟨a1, a2, ⟨by omega, h2⟩, h3⟩⟩)
      revert hks hK c0 c1 c2 hkT hTx HFin
      generalize hkk : pre.length = k
      intro hks hK hkT hTx c0 c1 c2 HFin
      dsimp only at c0 c1 c2
      have hk1 : IntKind.i64.wrap ((k : Int) + 1) = (k : Int) + 1 := by rw [IntKind.wrap_i64]; omega
      have HD : Hid (∀ X, Below V.heap.size V X → (X.cell? ⟨W.heap.size, 0, none⟩ = some (.int .i64 (k : Int))) ∧ (X.cell? ⟨N9, 0, none⟩ = some (.slice (some ⟨g, 0, none⟩) T.length cap)) ∧ (X.cell? ⟨g, k * 3, none⟩ = some (.int .u64 (hI xx)) ∧ X.cell? ⟨g, k * 3 + 1, none⟩ = some (.int .u64 (lI xx)) ∧ X.cell? ⟨g, k * 3 + 2, none⟩ = some (.int .i64 xn)) ∧ AtP X Bx xx xn) := hidX (fun X hb => ⟨keepc hb hK.1, keepc hb (HDD.out V hB).v.1, ⟨keepc hb c0, keepc hb c1, keepc hb c2⟩, hx.below hb⟩)
      have HK := hidX hK
      have HB := hidX hB
      have HR := hidX hr
      have hrl : lo < V.heap.size := (Array.getElem?_eq_some_iff.1 hr).1
      clear hK hB hx c0 c1 c2 hr hTx hkk
      gi_wp2_with fail
      refine q_regionR (C := fun X => Below V.heap.size V X) (by rintro ⟨_, _, h⟩; exact h) (by kernel_rfl) (by kernel_rfl) (by kernel_rfl) (below_drewN (Below.refl _ _) 1) ?_
      refine qw_run (v := .int .i64 (k : Int)) (by rfl) ?_ ?_
      · (intro w1 hC; obtain ⟨k0, v0, ⟨g0, g1, g2⟩, ⟨x0, x1, x2, -, -, -⟩⟩ := HD.out w1 hC; go_simp; first | done | (simp; done) | (simp [*]; done) | omega | (simp; omega) | (rw [IntKind.wrap_i64]; omega) | (intro hx; omega) | rfl)
      simp only [Act.put, List.setIfInBounds_toArray, List.set_cons_zero, List.set_cons_succ]
      refine qw_run (v := .slice (some ⟨g, 0, none⟩) T.length cap) (by rfl) ?_ ?_
      · (intro w1 hC; obtain ⟨k0, v0, ⟨g0, g1, g2⟩, ⟨x0, x1, x2, -, -, -⟩⟩ := HD.out w1 hC; go_simp; first | done | (simp; done) | (simp [*]; done) | omega | (simp; omega) | (rw [IntKind.wrap_i64]; omega) | (intro hx; omega) | rfl)
      simp only [Act.put, List.setIfInBounds_toArray, List.set_cons_zero, List.set_cons_succ]
      refine qw_run (v := .int .i64 (T.length : Int)) (by rfl) ?_ ?_
      · (intro w1 hC; obtain ⟨k0, v0, ⟨g0, g1, g2⟩, ⟨x0, x1, x2, -, -, -⟩⟩ := HD.out w1 hC; go_simp; first | done | (simp; done) | (simp [*]; done) | omega | (simp; omega) | (rw [IntKind.wrap_i64]; omega) | (intro hx; omega) | rfl)
      simp only [Act.put, List.setIfInBounds_toArray, List.set_cons_zero, List.set_cons_succ]
      refine qw_run (v := .bool false) (by rfl) ?_ ?_
      · (intro w1 hC; obtain ⟨k0, v0, ⟨g0, g1, g2⟩, ⟨x0, x1, x2, -, -, -⟩⟩ := HD.out w1 hC; go_simp; first | done | (simp; done) | (simp [*]; done) | omega | (simp; omega) | (rw [IntKind.wrap_i64]; omega) | (intro hx; omega) | rfl)
      simp only [Act.put, List.setIfInBounds_toArray, List.set_cons_zero, List.set_cons_succ]
      refine qw_run (v := .bool false) (by rfl) ?_ ?_
      · (intro w1 hC; obtain ⟨k0, v0, ⟨g0, g1, g2⟩, ⟨x0, x1, x2, -, -, -⟩⟩ := HD.out w1 hC; go_simp; first | done | (simp; done) | (simp [*]; done) | omega | (simp; omega) | (rw [IntKind.wrap_i64]; omega) | (intro hx; omega) | rfl)
      simp only [Act.put, List.setIfInBounds_toArray, List.set_cons_zero, List.set_cons_succ]
      refine qw_run (v := .agg #[.int .u64 (hI xx), .int .u64 (lI xx), .int .i64 xn]) (by rfl) ?_ ?_
      · (intro w1 hC; obtain ⟨k0, v0, ⟨g0, g1, g2⟩, ⟨x0, x1, x2, -, -, -⟩⟩ := HD.out w1 hC; go_simp; first | done | (simp; done) | (simp [*]; done) | omega | (simp; omega) | (rw [IntKind.wrap_i64]; omega) | (intro hx; omega) | rfl)
      simp only [Act.put, List.setIfInBounds_toArray, List.set_cons_zero, List.set_cons_succ]
      refine qw_run (v := .slice (some ⟨g, 0, none⟩) T.length cap) (by rfl) ?_ ?_
      · (intro w1 hC; obtain ⟨k0, v0, ⟨g0, g1, g2⟩, ⟨x0, x1, x2, -, -, -⟩⟩ := HD.out w1 hC; go_simp; first | done | (simp; done) | (simp [*]; done) | omega | (simp; omega) | (rw [IntKind.wrap_i64]; omega) | (intro hx; omega) | rfl)
      simp only [Act.put, List.setIfInBounds_toArray, List.set_cons_zero, List.set_cons_succ]
      refine qw_run (v := .int .i64 (k : Int)) (by rfl) ?_ ?_
      · (intro w1 hC; obtain ⟨k0, v0, ⟨g0, g1, g2⟩, ⟨x0, x1, x2, -, -, -⟩⟩ := HD.out w1 hC; go_simp; first | done | (simp; done) | (simp [*]; done) | omega | (simp; omega) | (rw [IntKind.wrap_i64]; omega) | (intro hx; omega) | rfl)
      simp only [Act.put, List.setIfInBounds_toArray, List.set_cons_zero, List.set_cons_succ]
      refine qw_run (v := .pointer (some ⟨g, k * 3, none⟩)) (by rfl) ?_ ?_
      · (intro w1 hC; obtain ⟨k0, v0, ⟨g0, g1, g2⟩, ⟨x0, x1, x2, -, -, -⟩⟩ := HD.out w1 hC; go_simp; first | done | (simp; done) | (simp [*]; done) | omega | (simp; omega) | (rw [IntKind.wrap_i64]; omega) | (intro hx; omega) | rfl)
      simp only [Act.put, List.setIfInBounds_toArray, List.set_cons_zero, List.set_cons_succ]
      refine qw_run (v := .agg #[.int .u64 (hI xx), .int .u64 (lI xx), .int .i64 xn]) (by rfl) ?_ ?_
      · (intro w1 hC; obtain ⟨k0, v0, ⟨g0, g1, g2⟩, ⟨x0, x1, x2, -, -, -⟩⟩ := HD.out w1 hC; go_simp; first | done | (simp; done) | (simp [*]; done) | omega | (simp; omega) | (rw [IntKind.wrap_i64]; omega) | (intro hx; omega) | rfl)
      simp only [Act.put, List.setIfInBounds_toArray, List.set_cons_zero, List.set_cons_succ]
      refine qw_run (v := .bool false) (by rfl) ?_ ?_
      · (intro w1 hC; obtain ⟨k0, v0, ⟨g0, g1, g2⟩, ⟨x0, x1, x2, -, -, -⟩⟩ := HD.out w1 hC; go_simp; first | done | (simp; done) | (simp [*]; done) | omega | (simp; omega) | (rw [IntKind.wrap_i64]; omega) | (intro hx; omega) | rfl)
      simp only [Act.put, List.setIfInBounds_toArray, List.set_cons_zero, List.set_cons_succ]
      refine qw_run (v := .bool false) (by rfl) ?_ ?_
      · (intro w1 hC; obtain ⟨k0, v0, ⟨g0, g1, g2⟩, ⟨x0, x1, x2, -, -, -⟩⟩ := HD.out w1 hC; go_simp; first | done | (simp; done) | (simp [*]; done) | omega | (simp; omega) | (rw [IntKind.wrap_i64]; omega) | (intro hx; omega) | rfl)
      simp only [Act.put, List.setIfInBounds_toArray, List.set_cons_zero, List.set_cons_succ]
      refine qw_nil ?_
      intro X3 hC3
      have HK3 := hidX (HK.out.below hC3)
      have HV3 := hidX ((KV.refl W.heap.size V).below hC3)
      have HB3 := hidX (keepb hC3 HB.out)
      have HR3 := hidX ((hC3.block lo hrl).trans HR.out)
      have hVX : V.heap.size ≤ X3.heap.size := hC3.size
      have hWV : W.heap.size < V.heap.size := HK.out.lt
      obtain ⟨k0, -⟩ := HK3.out
      clear hC3 HK HD HB HR
      by_cases c2 : (k : Int) < 2
      · have q6 := bl1 X3 (.cells #[.int .i64 0] 3)
        have HK4 := hidX (HK3.out.below q6)
        have HM4 := hidX (cl1_new X3 X3.heap.size (.int .i64 0) 3 rfl)
        have HV4 := hidX (HV3.out.below q6)
        have HB4 := hidX (keepb q6 HB3.out)
        have HR4 := hidX ((q6.block lo (by omega)).trans HR3.out)
        have hs4 : X3.heap.size < (X3.alloc (.cells #[.int .i64 0] 3)).heap.size := by simp
        obtain ⟨f0, f1⟩ := (HDD.out _ HB4.out).q
        clear q6 HK3 HV3 HB3 HR3
        gi_wp2_with fail
        revert HK4 HM4 HV4 HB4 HR4 hs4
        generalize X3.alloc (.cells #[.int .i64 0] 3) = X4
        intro HK4 HM4 HV4 HB4 HR4 hs4
        clear f0 f1 k0
        have HSM4 : Hid (SpM (fun z => z = As ∨ z = As + 1 ∨ z = As + 2) (X4.heap.size + 1) As (As + 1) (As + 2) F px pl nn X4) := hidX ⟨(HDD.out X4 HB4.out).sf.1, (HDD.out X4 HB4.out).sp, (HDD.out X4 HB4.out).sn.1, .inl (.inl rfl), .inl (.inr (.inl rfl)), .inl (.inr (.inr rfl))⟩
        refine rangeXN (9 - 1 - 1) (by decide) HR4.out (gf := 22) (lb := #[.pointer (some ⟨As, 0, none⟩), .pointer (some ⟨As + 1, 0, none⟩), .pointer (some ⟨As + 2, 0, none⟩)]) rfl (enters_of Tryd.func22 (by kernel_rfl) rfl)
          (split1_any (9 - 1 - 1 - 1) (fun z => z = As ∨ z = As + 1 ∨ z = As + 2) (X4.heap.size + 1) As (As + 1) (As + 2) F px pl nn X4 HSM4.out) (Nat.le_refl _) (fun h k => h.trans k) (fun V o o' h1 h2 => kw_put (by rintro (q | q | q) <;> omega) (by omega) V o o' h1 h2) (Below.refl _ _) (fun _ => rfl)
          (fun pre2 U => (((pre2.length < 3 ∧ pre2.length < T.length) ∧ Cl1 U W.heap.size (.int .i64 (k : Int)) ∧ Cl1 U X3.heap.size (.int .i64 (pre2.length : Int))) ∧ KV W.heap.size V U) ∧ Below W.heap.size W U)
          (fun c pre2 U => ((c = .exit 4 ∧ Cl1 U W.heap.size (.int .i64 (k : Int))) ∧ KV W.heap.size V U) ∧ Below W.heap.size W U)
          (OwnFrom.and (OwnFrom.and (Own.from (fun s A B row hs hg hr => ⟨hs.1, hs.2.1.kept hg hr, hs.2.2.kept hg hr⟩) _) (KV.own (by omega))) (ownFrom_below (Nat.le_refl _) (by omega)))
          (fun c => OwnFrom.and (OwnFrom.and (Own.from (fun s A B row hs hg hr => ⟨hs.1, hs.2.kept hg hr⟩) _) (KV.own (by omega))) (ownFrom_below (Nat.le_refl _) (by omega)))
          ⟨⟨⟨⟨by simp, by simpa using (show 0 < T.length by omega)⟩, HK4.out, by simpa using HM4.out⟩, HV4.out⟩, HB4.out⟩
          (fun y a' U => ∃ By, X3.heap.size < By ∧ AtP U By y.1 y.2 ∧ a' = { tmps := #[.int .i64 F, .agg #[.int .u64 (hI px), .int .u64 (lI px), .int .i64 pl], .int .i64 nn, .int .i64 stop, undef, .pointer (some ⟨w.heap.size, 0, none⟩), undef, .pointer (some ⟨w.heap.size + 1, 0, none⟩), .pointer (some ⟨w.heap.size + 1 + 1, 0, none⟩), .pointer (some ⟨N9, 0, none⟩), .pointer (some ⟨N10, 0, none⟩), .int .i64 (t : Int), .pointer (some ⟨W.heap.size, 0, none⟩), .pointer (some ⟨Bx, 0, none⟩), .pointer (some ⟨X3.heap.size, 0, none⟩), .pointer (some ⟨By, 0, none⟩), .bool true, .bool false, .int .i64 stop, .int .i64 (stop % 70), .int .i64 so, .int .i64 F, .agg #[.int .u64 (hI px), .int .u64 (lI px), .int .i64 pl], .int .i64 nn, .int .i64 so, .slice (some ⟨g, 0, none⟩) T.length cap, .int .i64 F, .agg #[.int .u64 (hI px), .int .u64 (lI px), .int .i64 pl], .int .i64 nn, .func (.func 22) #[] #[.pointer (some ⟨As, 0, none⟩), .pointer (some ⟨As + 1, 0, none⟩), .pointer (some ⟨As + 2, 0, none⟩)], .func (.func 22) #[] #[.pointer (some ⟨As, 0, none⟩), .pointer (some ⟨As + 1, 0, none⟩), .pointer (some ⟨As + 2, 0, none⟩)], .bool false, .int .i64 (t : Int), .bool true, u34, u35, .func (.func 22) #[] #[.pointer (some ⟨As, 0, none⟩), .pointer (some ⟨As + 1, 0, none⟩), .pointer (some ⟨As + 2, 0, none⟩)], .agg #[.int .u64 (hI xx), .int .u64 (lI xx), .int .i64 xn], .int .i64 (k : Int), .slice (some ⟨g, 0, none⟩) T.length cap, .int .i64 (T.length : Int), .bool false, .bool false, .agg #[.int .u64 (hI xx), .int .u64 (lI xx), .int .i64 xn], .slice (some ⟨g, 0, none⟩) T.length cap, .int .i64 (k : Int), .pointer (some ⟨g, k * 3, none⟩), .agg #[.int .u64 (hI xx), .int .u64 (lI xx), .int .i64 xn], .bool false, .bool false, .int .i64 (k : Int), .bool true, .func (.func 22) #[] #[.pointer (some ⟨As, 0, none⟩), .pointer (some ⟨As + 1, 0, none⟩), .pointer (some ⟨As + 2, 0, none⟩)], .agg #[.int .u64 (hI y.1), .int .u64 (lI y.1), .int .i64 y.2], undef, undef, undef, undef, undef, undef, undef, undef, undef, undef, undef, undef, undef, undef, undef, undef, undef, undef, undef, undef, undef, u75, u76, u77, u78], defers := [] })
          (fun y a' s A B row hs hg hr => by
            obtain ⟨By, h1, h2, h3⟩ := hs
            exact ⟨By, h1, h2.kept6 hg (fun r e => (hr r e).2), h3⟩) ?assign2 ?body2 ?done2 ?stop2
        case assign2 =>
          rintro lo2 pre2 y U K ⟨⟨⟨hi0, hi1, hi2⟩, hi3⟩, hi4⟩ hK
          have bq := bl1 U (.cells #[.int .u64 (hI y.1), .int .u64 (lI y.1), .int .i64 y.2] 26)
          have hlt : X3.heap.size < U.heap.size := hi2.lt
          have HK := hidX (hK ({ tmps := #[.int .i64 F, .agg #[.int .u64 (hI px), .int .u64 (lI px), .int .i64 pl], .int .i64 nn, .int .i64 stop, undef, .pointer (some ⟨w.heap.size, 0, none⟩), undef, .pointer (some ⟨w.heap.size + 1, 0, none⟩), .pointer (some ⟨w.heap.size + 1 + 1, 0, none⟩), .pointer (some ⟨N9, 0, none⟩), .pointer (some ⟨N10, 0, none⟩), .int .i64 (t : Int), .pointer (some ⟨W.heap.size, 0, none⟩), .pointer (some ⟨Bx, 0, none⟩), .pointer (some ⟨X3.heap.size, 0, none⟩), .pointer (some ⟨U.heap.size, 0, none⟩), .bool true, .bool false, .int .i64 stop, .int .i64 (stop % 70), .int .i64 so, .int .i64 F, .agg #[.int .u64 (hI px), .int .u64 (lI px), .int .i64 pl], .int .i64 nn, .int .i64 so, .slice (some ⟨g, 0, none⟩) T.length cap, .int .i64 F, .agg #[.int .u64 (hI px), .int .u64 (lI px), .int .i64 pl], .int .i64 nn, .func (.func 22) #[] #[.pointer (some ⟨As, 0, none⟩), .pointer (some ⟨As + 1, 0, none⟩), .pointer (some ⟨As + 2, 0, none⟩)], .func (.func 22) #[] #[.pointer (some ⟨As, 0, none⟩), .pointer (some ⟨As + 1, 0, none⟩), .pointer (some ⟨As + 2, 0, none⟩)], .bool false, .int .i64 (t : Int), .bool true, u34, u35, .func (.func 22) #[] #[.pointer (some ⟨As, 0, none⟩), .pointer (some ⟨As + 1, 0, none⟩), .pointer (some ⟨As + 2, 0, none⟩)], .agg #[.int .u64 (hI xx), .int .u64 (lI xx), .int .i64 xn], .int .i64 (k : Int), .slice (some ⟨g, 0, none⟩) T.length cap, .int .i64 (T.length : Int), .bool false, .bool false, .agg #[.int .u64 (hI xx), .int .u64 (lI xx), .int .i64 xn], .slice (some ⟨g, 0, none⟩) T.length cap, .int .i64 (k : Int), .pointer (some ⟨g, k * 3, none⟩), .agg #[.int .u64 (hI xx), .int .u64 (lI xx), .int .i64 xn], .bool false, .bool false, .int .i64 (k : Int), .bool true, .func (.func 22) #[] #[.pointer (some ⟨As, 0, none⟩), .pointer (some ⟨As + 1, 0, none⟩), .pointer (some ⟨As + 2, 0, none⟩)], .agg #[.int .u64 (hI y.1), .int .u64 (lI y.1), .int .i64 y.2], undef, undef, undef, undef, undef, undef, undef, undef, undef, undef, undef, undef, undef, undef, undef, undef, undef, undef, undef, undef, undef, u75, u76, u77, u78], defers := [] }) (U.alloc (.cells #[.int .u64 (hI y.1), .int .u64 (lI y.1), .int .i64 y.2] 26)) ((KeepsOthers.alloc _ _).from _) (kw_below bq) ⟨⟨⟨hi0, hi1.below bq, hi2.below bq⟩, hi3.below bq⟩, keepb bq hi4⟩ ⟨U.heap.size, hlt, atp_new U U.heap.size y.1 y.2 26 rfl, rfl⟩)
          clear hK bq hi0 hi1 hi2 hi3 hi4 hlt
          unfold encP
          simp only [List.zip_toArray, List.zip_cons_cons, List.zip_nil_left, List.zip_nil_right, List.foldl_toArray, List.foldl_cons, List.foldl_nil, List.setIfInBounds_toArray, List.set_cons_zero, List.set_cons_succ, Array.zip]
          gi_wp2
          exact HK.out
        case body2 =>
          rintro lo2 pre2 ⟨yy, yn⟩ a2 U hl2 hr2 ⟨⟨⟨⟨hm3, hmT⟩, hKU, hMU⟩, hVU⟩, hBU⟩ ⟨By, hBy, hy, rfl⟩ hlt2
          dsimp only at hy ⊢
          have hat2 := tk_at (m := so.toNat) hlt2 (by rw [HT.out, List.length_take] at hmT; omega)
          rw [← HT.out] at hat2
          obtain ⟨hq2, hTy⟩ := hat2
          obtain ⟨g', hg', d0, d1, d2⟩ := (HDD.out U hBU).row.at hq2 hTy
          obtain rfl : g = g' := by simpa using hg'
          have HF2 : Hid (∀ X, KV X3.heap.size U X → Cl1 X W.heap.size (.int .i64 (k : Int)) → Cl1 X X3.heap.size (.int .i64 ((pre2.length : Int) + 1)) → KV W.heap.size V X → Below W.heap.size W X → (KeepsFrom X4.heap.size U X ∧ KW (fun z => z = As ∨ z = As + 1 ∨ z = As + 2) (X4.heap.size + 1) U X) ∧ (¬ (pre2.length : Int) + 1 = 3 → ¬ (pre2.length : Int) + 1 = T.length → (((pre2 ++ [(yy, yn)]).length < 3 ∧ (pre2 ++ [(yy, yn)]).length < T.length) ∧ Cl1 X W.heap.size (.int .i64 (k : Int)) ∧ Cl1 X X3.heap.size (.int .i64 ((pre2 ++ [(yy, yn)]).length : Int)))) ∧ Cl1 X W.heap.size (.int .i64 (k : Int)) ∧ KV W.heap.size V X ∧ Below W.heap.size W X) := hidX (fun X h1 h2 h3 h4 h5 => by
            have e : (((pre2 ++ [(yy, yn)]).length : Nat) : Int) = (pre2.length : Int) + 1 := by rw [List.length_append, List.length_singleton]; push_cast; rfl
            refine ⟨⟨h1.keeps (by omega), h1.kw (by rintro (q | q | q) <;> omega) (by omega)⟩, fun q1 q2 => ⟨?_, h2, by rw [e]; exact h3⟩, h2, h4, h5⟩
            rw [List.length_append, List.length_singleton]
            exact ⟨by omega, by omega⟩)
          revert hm3 hmT hMU d0 d1 d2 hq2 hTy HF2
          generalize pre2.length = m
          intro hm3 hmT hMU hq2 hTy d0 d1 d2 HF2
          dsimp only at d0 d1 d2
          have hm1 : IntKind.i64.wrap ((m : Int) + 1) = (m : Int) + 1 := by rw [IntKind.wrap_i64]; omega
          have HD2 : Hid (∀ X, Below U.heap.size U X → (X.cell? ⟨X3.heap.size, 0, none⟩ = some (.int .i64 (m : Int))) ∧ (X.cell? ⟨N9, 0, none⟩ = some (.slice (some ⟨g, 0, none⟩) T.length cap)) ∧ (X.cell? ⟨g, m * 3, none⟩ = some (.int .u64 (hI yy)) ∧ X.cell? ⟨g, m * 3 + 1, none⟩ = some (.int .u64 (lI yy)) ∧ X.cell? ⟨g, m * 3 + 2, none⟩ = some (.int .i64 yn)) ∧ AtP X By yy yn) := hidX (fun X hb => ⟨keepc hb hMU.1, keepc hb (HDD.out U hBU).v.1, ⟨keepc hb d0, keepc hb d1, keepc hb d2⟩, hy.below hb⟩)
          have HMU := hidX hMU
          have HKU := hidX hKU
          have HVU := hidX hVU
          have HBU := hidX hBU
          clear hMU hKU hVU hBU hy d0 d1 d2 hr2 hTy HFin hg' HK4 HM4 HV4 HB4 HR4 HSM4
          gi_wp2_with fail
          refine q_regionR (C := fun X => Below U.heap.size U X) (by rintro ⟨_, _, h⟩; exact h) (by kernel_rfl) (by kernel_rfl) (by kernel_rfl) (below_drewN (Below.refl _ _) 1) ?_
          refine qw_run (v := .agg #[.int .u64 (hI yy), .int .u64 (lI yy), .int .i64 yn]) (by rfl) ?_ ?_
          · (intro w1 hC; obtain ⟨k0, v0, ⟨g0, g1, g2⟩, ⟨x0, x1, x2, -, -, -⟩⟩ := HD2.out w1 hC; go_simp; first | done | (simp; done) | (simp [*]; done) | omega | (simp; omega) | (rw [IntKind.wrap_i64]; omega) | (intro hx; omega) | rfl)
          simp only [Act.put, List.setIfInBounds_toArray, List.set_cons_zero, List.set_cons_succ]
          refine qw_run (v := .slice (some ⟨g, 0, none⟩) T.length cap) (by rfl) ?_ ?_
          · (intro w1 hC; obtain ⟨k0, v0, ⟨g0, g1, g2⟩, ⟨x0, x1, x2, -, -, -⟩⟩ := HD2.out w1 hC; go_simp; first | done | (simp; done) | (simp [*]; done) | omega | (simp; omega) | (rw [IntKind.wrap_i64]; omega) | (intro hx; omega) | rfl)
          simp only [Act.put, List.setIfInBounds_toArray, List.set_cons_zero, List.set_cons_succ]
          refine qw_run (v := .int .i64 (m : Int)) (by rfl) ?_ ?_
          · (intro w1 hC; obtain ⟨k0, v0, ⟨g0, g1, g2⟩, ⟨x0, x1, x2, -, -, -⟩⟩ := HD2.out w1 hC; go_simp; first | done | (simp; done) | (simp [*]; done) | omega | (simp; omega) | (rw [IntKind.wrap_i64]; omega) | (intro hx; omega) | rfl)
          simp only [Act.put, List.setIfInBounds_toArray, List.set_cons_zero, List.set_cons_succ]
          refine qw_run (v := .pointer (some ⟨g, m * 3, none⟩)) (by rfl) ?_ ?_
          · (intro w1 hC; obtain ⟨k0, v0, ⟨g0, g1, g2⟩, ⟨x0, x1, x2, -, -, -⟩⟩ := HD2.out w1 hC; go_simp; first | done | (simp; done) | (simp [*]; done) | omega | (simp; omega) | (rw [IntKind.wrap_i64]; omega) | (intro hx; omega) | rfl)
          simp only [Act.put, List.setIfInBounds_toArray, List.set_cons_zero, List.set_cons_succ]
          refine qw_run (v := .agg #[.int .u64 (hI yy), .int .u64 (lI yy), .int .i64 yn]) (by rfl) ?_ ?_
          · (intro w1 hC; obtain ⟨k0, v0, ⟨g0, g1, g2⟩, ⟨x0, x1, x2, -, -, -⟩⟩ := HD2.out w1 hC; go_simp; first | done | (simp; done) | (simp [*]; done) | omega | (simp; omega) | (rw [IntKind.wrap_i64]; omega) | (intro hx; omega) | rfl)
          simp only [Act.put, List.setIfInBounds_toArray, List.set_cons_zero, List.set_cons_succ]
          refine qw_run (v := .bool false) (by rfl) ?_ ?_
          · (intro w1 hC; obtain ⟨k0, v0, ⟨g0, g1, g2⟩, ⟨x0, x1, x2, -, -, -⟩⟩ := HD2.out w1 hC; go_simp; first | done | (simp; done) | (simp [*]; done) | omega | (simp; omega) | (rw [IntKind.wrap_i64]; omega) | (intro hx; omega) | rfl)
          simp only [Act.put, List.setIfInBounds_toArray, List.set_cons_zero, List.set_cons_succ]
          refine qw_nil ?_
          intro X5 hC5
          have hM5 := HMU.out.below hC5
          have HG := hidX (HF2.out (X5.setCell ⟨X3.heap.size, 0, none⟩ (.int .i64 ((m : Int) + 1))) (((KV.refl X3.heap.size U).below hC5).set X3.heap.size 0 _ (.inl rfl)) ((HKU.out.below hC5).heap (hSet6 _ (by omega))) (hM5.set _) ((HVU.out.below hC5).set X3.heap.size 0 _ (.inr hVX)) ((keepb hC5 HBU.out).setCell (p := ⟨X3.heap.size, 0, none⟩) (by simp; omega) _))
          obtain ⟨v0, -⟩ := (HDD.out X5 (keepb hC5 HBU.out)).v.heap (W' := X5.setCell ⟨X3.heap.size, 0, none⟩ (.int .i64 ((m : Int) + 1))) (hSet6 _ (by omega))
          obtain ⟨m0, mf⟩ := hM5
          clear hC5 HD2 HMU HKU HVU HBU HF2 HDD
          by_cases c4 : (m : Int) + 1 = 3
          · have c4' : ((m : Int) + 1 == 3) = true := by simpa using c4
            clear c4
            gi_wp2
            obtain ⟨⟨a1, a2⟩, -, a3, a4, a5⟩ := HG.out
            exact ⟨a1, a2, ⟨⟨rfl, a3⟩, a4⟩, a5⟩
          · have c4' : ((m : Int) + 1 == 3) = false := by simpa using c4
            have HC4 := hidX c4
            clear c4
            by_cases c5 : (m : Int) + 1 = (T.length : Int)
            · have c5' : ((m : Int) + 1 == (T.length : Int)) = true := by simpa using c5
              clear c5
              gi_wp2
              obtain ⟨⟨a1, a2⟩, -, a3, a4, a5⟩ := HG.out
              exact ⟨a1, a2, ⟨⟨rfl, a3⟩, a4⟩, a5⟩
            · have c5' : ((m : Int) + 1 == (T.length : Int)) = false := by simpa using c5
              have HC5 := hidX c5
              clear c5
              gi_wp2
              obtain ⟨⟨a1, a2⟩, a6, a3, a4, a5⟩ := HG.out
              exact ⟨a1, a2, ⟨a6 HC4.out HC5.out, a4⟩, a5⟩
        case done2 =>
          rintro xs U rfl ⟨⟨⟨⟨hm3, hmT⟩, hKU, hMU⟩, hVU⟩, hBU⟩
          exfalso
          rw [HT.out, List.length_take] at hmT
          omega
        case stop2 =>
          rintro c pre2 U hpre2 ⟨⟨⟨rfl, hKU⟩, hVU⟩, hBU⟩
          have HK3 := hidX hKU
          have HV3 := hidX hVU
          have HB3 := hidX hBU
          clear hKU hVU hBU
          obtain ⟨k0, kf⟩ := HK3.out
          have HG := hidX (HFin.out _ (HV3.out.set W.heap.size 0 (.int .i64 ((k : Int) + 1)) (.inl rfl)) (HK3.out.set (.int .i64 ((k : Int) + 1))) (HB3.out.setCell (p := ⟨W.heap.size, 0, none⟩) (Nat.le_refl _) (.int .i64 ((k : Int) + 1))))
          obtain ⟨s0, -⟩ := (HDD.out U HB3.out).s.heap (W' := U.setCell ⟨W.heap.size, 0, none⟩ (.int .i64 ((k : Int) + 1))) (hSet6 _ (by omega))
          clear HK3 HV3 HB3 HFin HDD
          by_cases c3 : (k : Int) + 1 = so
          · have HC3 := hidX c3
            have c3' : ((k : Int) + 1 == so) = true := by simpa using c3
            clear c3
            gi_wp2
            obtain ⟨a1, a2, ⟨a3, a4⟩, a5⟩ := HG.out.1 HC3.out
            exact ⟨a1, a2, ⟨⟨rfl, a3⟩, a4⟩, a5⟩
          · have HC3 := hidX c3
            have c3' : ((k : Int) + 1 == so) = false := by simpa using c3
            clear c3
            gi_wp2
            exact HG.out.2 HC3.out
      · obtain ⟨k0, kf⟩ := HK3.out
        have HG := hidX (HFin.out _ (HV3.out.set W.heap.size 0 (.int .i64 ((k : Int) + 1)) (.inl rfl)) (HK3.out.set (.int .i64 ((k : Int) + 1))) (HB3.out.setCell (p := ⟨W.heap.size, 0, none⟩) (Nat.le_refl _) (.int .i64 ((k : Int) + 1))))
        obtain ⟨s0, -⟩ := (HDD.out X3 HB3.out).s.heap (W' := X3.setCell ⟨W.heap.size, 0, none⟩ (.int .i64 ((k : Int) + 1))) (hSet6 _ (by omega))
        clear HK3 HV3 HB3 HFin HDD
        by_cases c3 : (k : Int) + 1 = so
        · have HC3 := hidX c3
          have c3' : ((k : Int) + 1 == so) = true := by simpa using c3
          clear c3
          gi_wp2
          obtain ⟨a1, a2, ⟨a3, a4⟩, a5⟩ := HG.out.1 HC3.out
          exact ⟨a1, a2, ⟨⟨rfl, a3⟩, a4⟩, a5⟩
        · have HC3 := hidX c3
          have c3' : ((k : Int) + 1 == so) = false := by simpa using c3
          clear c3
          gi_wp2
          exact HG.out.2 HC3.out
    case done =>
      rintro D xs V hD rfl ⟨⟨hks, hK⟩, hB⟩ hKD
      have e : ((spL F px pl nn).length : Int) = (T.length : Int) := by rw [HT.out, List.length_take]; omega
      rw [e] at hK
      have HE := hidX (HEnd.out D 0 V hD hKD hB)
      obtain ⟨v0, -⟩ := (HDD.out V hB).v
      obtain ⟨k0, -⟩ := hK
      clear HDD HEnd hB hKD e hks
      refine wl_nil6 (P := Tryd.prog) (ops := #[]) ?_
      go_wp2
      refine ⟨⟨t + 1, D :: l, _, _, _, _, _, _, _, _, _, _, rfl, HE⟩, ?_⟩
      simp [intOf]
      omega
    case stop =>
      rintro D c pre V hD hpre ⟨⟨⟨rfl, hks⟩, hK⟩, hB⟩ hKD
      have e : so = (T.length : Int) := by
        have := hpre.length_le
        rw [HT.out, List.length_take]
        omega
      rw [e] at hK
      have HE := hidX (HEnd.out D 0 V hD hKD hB)
      obtain ⟨v0, -⟩ := (HDD.out V hB).v
      obtain ⟨k0, -⟩ := hK
      clear HDD HEnd hB hKD e hks
      refine (wpIn_wide (n := 9)).2 ?_
      go_wp2
      refine ⟨⟨t + 1, D :: l, _, _, _, _, _, _, _, _, _, _, rfl, HE⟩, ?_⟩
      simp [intOf]
      omega
end Go.Proofs.YtdgmfdfhbhmppaaDoor
