/-
  Part 25 of the proof: 1 texts, one behind the other.
-/
import Derived.Test.YtmeaikmmhgmgnaaPart22
import Derived.Test.YtmeaikmmhgmgnaaPart11
import Derived.Test.YtmeaikmmhgmgnaaPart24
import Derived.Test.YtmeaikmmhgmgnaaPart21
import Derived.Lib.AppendStr
import Derived.Lib.UnsafeStr
import Derived.Laws.IdiomStrings
import Derived.Laws.MakeOwn
/-
  TableMany: of whatever number the law tells true.
-/
namespace Go.Proofs.Ytmeaikmmhgmgnaa
open Go.RowKit Go.Shelf
set_option linter.unusedSimpArgs false
set_option linter.unusedVariables false

theorem Try.infoU9 : (Try.prog.info? 5).map (fun i => (i.zero, i.size, i.bytes)) = some (some (.int .u8 0), 1, 1) := by kernel_rfl
theorem bytes_back9 (w : World) (g cap : Nat) (l : List UInt8) (hc : ∀ j, j < l.length → w.cell? ⟨g, j, none⟩ = some (.int .u8 ((l.getD j 0).toNat : Int))) :
    (convert 50 9 (.slice (some ⟨g, 0, none⟩) l.length cap)).run Try.prog w = .ok (.string ⟨l.toArray⟩) w := by
  refine run_convert_bytes_back (P := Try.prog) w 50 9 5 ⟨g, 0, none⟩ cap l Try.underlying50 Try.underlying5 Try.underlying9 ?_
  intro j hj
  have ea : (⟨g, 0, none⟩ : Addr).add j = ⟨g, j, none⟩ := by cases j <;> simp [Addr.add]
  rw [ea, hc j hj]
  simp [List.getD, hj]
theorem eqF_run (a b c : Int) (w : World) :
    (Op.equalIn 10000 52 (.agg #[.int .i64 a, .int .i64 b, .int .i64 c]) (.agg #[.int .i64 a, .int .i64 b, .int .i64 c])).run Try.prog w = .ok true w := by
  simp [go_sem]
set_option maxHeartbeats 1000000 in
theorem within9_any (a n : Int) (w : World) (h0 : 0 < n) (h1 : n ≤ 1000000000) (ha : -9223372036854775808 ≤ a) (hb : a ≤ 9223372036854775807) :
    Calls Try.prog 15 #[.int .i64 a, .int .i64 n] w fun e w' => e = .returned (.int .i64 (a % n)) ∧ w' = w := by
  have b1 := Int.emod_nonneg a (b := n) (by omega)
  have b2 := Int.emod_lt_of_pos a h0
  have hn0 : ¬ n = 0 := by omega
  have hnb : (n == 0) = false := by simp; omega
  rcases tmod_ways a n h0 with ⟨c, e⟩ | ⟨c, e⟩
  · have hw : IntKind.i64.wrap (a.tmod n) = a.tmod n := by rw [IntKind.wrap_i64]; omega
    have hw2 : IntKind.i64.wrap (a.tmod n + n) = a.tmod n + n := by rw [IntKind.wrap_i64]; omega
    rw [← e]
    clear e b1 b2
    go_enter Try.func15, Try.ntmps15
    go_wp2
    go_ret
    exact ⟨rfl, rfl⟩
  · have hw : IntKind.i64.wrap (a.tmod n) = a.tmod n := by rw [IntKind.wrap_i64]; omega
    rw [← e]
    clear e b1 b2
    go_enter Try.func15, Try.ntmps15
    go_wp2
    go_ret
    exact ⟨rfl, rfl⟩
theorem lnsB_len {s : ByteArray} {g : Nat → Nat → Nat → List Rte → Nat → ResT} {f : Nat} (hg : ∀ k ln st L tm, (g k ln st L tm).2.length ≤ L.length + f) (p ln : Nat) (L : List Rte) (tm : Nat) : (lnsB s g p ln L tm).2.length ≤ L.length + f := by
  unfold lnsB
  split
  · split
    · simp
    · simp
  · exact hg _ _ _ _ _
theorem lnsR_len (F : Int) (s : ByteArray) : ∀ f k ln st L tm, (lnsR F s f k ln st L tm).2.length ≤ L.length + f
  | 0, _, _, _, _, _ => by unfold lnsR; simp
  | f + 1, k, ln, st, L, tm => by
    have hb := fun p L tm => lnsB_len (s := s) (f := f) (lnsR_len F s f) p ln L tm
    unfold lnsR
    split
    · split
      · simp
      · split
        · rename_i r p _ _
          have := hb p (L ++ [r]) tm
          simp only [List.length_append, List.length_singleton] at this
          omega
        · rename_i r p _ _
          have := hb p L (if tm = 0 then ln else tm)
          omega
    · have := hb (skS s k) L tm
      omega
theorem mk_ex9 {P : Program} {t e : TypeId} {z : Value} {s b : Nat} {i : TypeInfo} (ht : P.underlying t = some (.slice e)) (h1 : P.info? e = some i) (h2 : i.zero = some z) (h3 : i.size = s) (h4 : i.bytes = b) (c : Nat) (hb : b * c ≤ 281474976710656) (hc : c ≤ 281474976710656) :
    ∃ C : Array Value, ∀ w : World, (Instr.makeSlice t (.int .i64 0) (.int .i64 (c : Int))).run P w = .ok (.slice (some ⟨w.heap.size, 0, none⟩) 0 c) (w.alloc (.cells C e)) ∧ ∀ base, base ≤ w.heap.size → (w.alloc (.cells C e)).ownsRow base e s (.slice (some ⟨w.heap.size, 0, none⟩) 0 c) 0 [] := by
  refine ⟨madeCells z.cells (c * i.size), fun w => ⟨?_, fun base hbase => ?_⟩⟩
  · have hb2 : ((b * c : Nat) : Int) ≤ 281474976710656 := by omega
    rw [Int.natCast_mul] at hb2
    have := run_make (P := P) w t e i z ht h1 h2 .i64 .i64 0 c (Int.le_refl _) (by omega) (by rw [h4]; exact hb2) (by omega)
    simpa using this
  · rw [← h3]
    exact World.ownsRow_made w _ c hbase (by unfold maxLen; omega) (size_madeCells _ _)
theorem own_conv {W : World} {base : Nat} {v : Value} {l : List UInt8} (h : W.ownsRow base 5 1 v l.length (Lib.byteCells l)) : (convert 50 9 v).run Try.prog W = .ok (.string (bL9 l)) W := by
  rcases h.2 with ⟨rfl, h0⟩ | ⟨b, cp, cur, rfl, -⟩
  · have hl0 : l = [] := List.eq_nil_of_length_eq_zero h0
    subst hl0
    rw [run_convert_bytes_string W 50 9 5 _ _ _ Try.underlying50 Try.underlying5 Try.underlying9]
    simp [Conv.bytesToString]
    rfl
  · have hc : ∀ j, j < l.length → W.cell? ⟨b, j, none⟩ = some (.int .u8 ((l.getD j 0).toNat : Int)) := fun j hj => by
      have := h.cellAt j (by omega)
      rw [this]
      simp [Lib.byteCells, List.getD, hj]
    exact bytes_back9 W b cp l hc
theorem ms_cells (i : Nat) : Lib.byteCells (ms (i + 1)) = Lib.byteCells (ms i) ++ Lib.strCells ⟨#[58, 58, 47, 48, 32, 49, 10]⟩ := by
  show Lib.byteCells (ms i ++ U1) = _
  simp [Lib.byteCells, Lib.strCells, U1]
theorem mT_cells (n : Nat) : Lib.byteCells (mT n true) = Lib.byteCells (ms n) ++ Lib.strCells ⟨#[58, 58, 47, 48, 32, 48]⟩ := by
  show Lib.byteCells (ms n ++ X0) = _
  simp [Lib.byteCells, Lib.strCells, X0]
/-- What Parse tells of so many lines. -/
theorem manyP_any (n : Nat) (bad : Bool) (hn : n ≤ 1048577) (W : World) (fe fl fc F2 : Int) (S : List Rte) (hp : prR 128 (bL9 (mT n bad)) = ((fe, fl, fc), (prR 128 (bL9 (mT n bad))).2)) (hF : (if fe = 0 then (128 : Int) else 0) = F2) (hS : (if fe = 0 then (prR 128 (bL9 (mT n bad))).2.foldl setF [] else []) = S) :
    Calls Try.prog 18 #[.int .i64 128, .string (bL9 (mT n bad))] W fun e w' => (∃ uo uc, e = .returned (.tuple #[.agg #[.int .i64 F2, .slice uo S.length uc], .agg #[.int .i64 fe, .int .i64 fl, .int .i64 fc]]) ∧ w'.ownsRow W.heap.size 40 4 (.slice uo S.length uc) S.length (rowR S)) ∧ Below W.heap.size W w' := by
  have hsz : (bL9 (mT n bad)).size ≤ 7340045 := by
    rw [bL9_size]; unfold mT; rw [List.length_append, ms_len]
    have : (if bad = true then X0 else []).length ≤ 6 := by cases bad <;> decide
    omega
  refine (parse9_any 128 _ W (by omega) (by have := lnsR_len 128 (bL9 (mT n bad)) ((bL9 (mT n bad)).size + 1) 0 1 0 [] 0; simp only [List.length_nil] at this; omega)).mono ?_
  rintro e w' ⟨⟨u, S', rfl, hS', ho⟩, hb⟩
  have e1 : (prR 128 (bL9 (mT n bad))).1.1 = fe := by rw [hp]
  have e2 : (prR 128 (bL9 (mT n bad))).1.2.1 = fl := by rw [hp]
  have e3 : (prR 128 (bL9 (mT n bad))).1.2.2 = fc := by rw [hp]
  rw [e1] at hS' ⊢
  rw [hS] at hS'
  subst hS'
  obtain ⟨uo, uc, rfl⟩ := own_form ho
  exact ⟨⟨uo, uc, by rw [hF, e2, e3], ho⟩, hb⟩
set_option maxRecDepth 100000 in
set_option maxHeartbeats 32000000 in
theorem tableMany_any (n : Int) (bad : Bool) (w : World) (hn0 : -9223372036854775808 ≤ n) (hn1 : n ≤ 9223372036854775807) :
    Calls Try.prog 5 #[.int .i64 n, .bool bad] w fun e w' => e = .returned (.bool true) ∧ Below w.heap.size w w' := by
  obtain ⟨i0, hi, hz0, hz1, hz2⟩ := info_parts Try.infoU9
  have KK := fun W => known5_any W
  have KW := fun W => within9_any n 1048578 W (by decide) (by decide) hn0 hn1
  have b1 := Int.emod_nonneg n (b := 1048578) (by decide)
  have b2 := Int.emod_lt_of_pos n (b := 1048578) (by decide)
  obtain ⟨N, hN⟩ : ∃ N : Nat, n % 1048578 = (N : Int) := ⟨(n % 1048578).toNat, by omega⟩
  rw [hN] at KW b1 b2
  have hNm : N ≤ 1048577 := by omega
  clear b1 b2 hN
  obtain ⟨c9, hc9⟩ : ∃ c9, c9 = 7 * N + 10 := ⟨_, rfl⟩
  obtain ⟨C, hmk⟩ := mk_ex9 (P := Try.prog) (t := 50) (e := 5) Try.underlying50 hi hz0 hz1 hz2 c9 (by omega) (by omega)
  have hm1 := fun w => (hmk w).1
  have w7 : IntKind.i64.wrap (7 * (N : Int)) = 7 * (N : Int) := by rw [IntKind.wrap_i64]; omega
  have w8 : IntKind.i64.wrap (7 * (N : Int) + 10) = (c9 : Int) := by rw [IntKind.wrap_i64]; omega
  clear hc9
  have wN : IntKind.i64.wrap ((N : Int) + 1) = (N : Int) + 1 := by rw [IntKind.wrap_i64]; omega
  have hEq := fun a b c w => eqF_run a b c w
  go_enter Try.func5, Try.ntmps5
  go_wp2_with fail
  refine (KK _).mono ?_
  rintro e w1 ⟨rfl, hb⟩
  have HB1 := hidX hb
  have HBs : Hid (w.heap.size ≤ w1.heap.size) := hidX hb.size
  clear KK hb
  go_wp2_with fail
  refine (KW _).mono ?_
  rintro e w1' ⟨rfl, rfl⟩
  clear KW
  have HO1 := hidX ((hmk w1').2 w1'.heap.size (Nat.le_refl _))
  have HB2 := hidX (keepb (bl1 w1' (.cells C 5)) HB1.out)
  clear HB1 hmk
  go_wp2_with fail
  clear hm1
  revert HO1 HB2
  generalize w1'.alloc (.cells C 5) = w2
  have hn1' : w.heap.size ≤ w1'.heap.size := HBs.out
  generalize w1'.heap.size = n1 at *
  intro HO1 HB2
  go_loopw [5, 6] (fun b iv wr => ∃ (i : Nat) (v : Value), b = v ∧ iv = .int .i64 (i : Int) ∧ i ≤ N ∧ Hid (wr.ownsRow n1 5 1 v (7 * i) (Lib.byteCells (ms i)) ∧ n1 ≤ wr.heap.size) ∧ Hid (Below w.heap.size w wr)) (fun _ iv _ => N - (intOf iv).toNat)
  case atStart => exact ⟨0, _, rfl, rfl, by omega, hidX ⟨HO1.out, Nat.le_of_lt (HO1.out.lt n1 rfl).2⟩, HB2⟩
  case round =>
    clear HO1 HB2
    obtain ⟨i, v, rfl, rfl, hiN, HO, HB⟩ := hrel
    have wi : IntKind.i64.wrap ((i : Int) + 1) = ((i + 1 : Nat) : Int) := by rw [IntKind.wrap_i64]; push_cast; omega
    by_cases hlt : (i : Int) < (N : Int)
    · have h47 : 7 * i + 7 ≤ 140737488355328 := by omega
      have h63 : 7 * i + 7 ≤ maxLen := by unfold maxLen; omega
      go_wp2_with (at_builtin; apply stopHereW)
      refine (show wpList _ _ _ _ _ _ from ?_)
      refine Lib.wpList_append_own_string _ rfl _ _ 50 9 rfl n1 5 i0 Try.underlying50 Try.underlying9 hi hz0 hz1 hz2 _ _ _ rfl HO.out.1 ⟨#[58, 58, 47, 48, 32, 49, 10]⟩ rfl h63 h47 HO.out.2 ?_
      intro v1 w3 hown1 hgrow1 _
      have HO2 : Hid (w3.ownsRow n1 5 1 v1 (7 * (i + 1)) (Lib.byteCells (ms (i + 1))) ∧ n1 ≤ w3.heap.size) := hidX ⟨by rw [ms_cells, show 7 * (i + 1) = 7 * i + 7 by omega]; exact hown1, Nat.le_trans HO.out.2 hgrow1.size⟩
      have HB3 := hidX (HB.out.grown hgrow1 HB.out.size (fun k hk => Nat.le_trans hn1' (HO.out.1.lt k hk).1))
      clear hown1 hgrow1 HO HB
      go_wp2_with fail
      go_roundw
      case rel => exact ⟨i + 1, v1, rfl, rfl, by omega, HO2, HB3⟩
      case measure => simp [intOf]; omega
    · obtain rfl : i = N := by omega
      clear w7 w8 wi
      have hml : (ms i).length = 7 * i := ms_len i
      have Hml := hidX hml
      clear hml
      cases bad with
      | true =>
        have h47 : 7 * i + 6 ≤ 140737488355328 := by omega
        have h63 : 7 * i + 6 ≤ maxLen := by unfold maxLen; omega
        go_wp2_with (at_builtin; apply stopHereW)
        refine (show wpList _ _ _ _ _ _ from ?_)
        refine Lib.wpList_append_own_string _ rfl _ _ 50 9 rfl n1 5 i0 Try.underlying50 Try.underlying9 hi hz0 hz1 hz2 _ _ _ rfl HO.out.1 ⟨#[58, 58, 47, 48, 32, 48]⟩ rfl h63 h47 HO.out.2 ?_
        intro v1 w3 hown1 hgrow1 _
        have hO : w3.ownsRow n1 5 1 v1 (mT i true).length (Lib.byteCells (mT i true)) := by
          rw [mT_cells]
          have e : (mT i true).length = 7 * i + 6 := by show (ms i ++ X0).length = _; rw [List.length_append, Hml.out]; rfl
          rw [e]; exact hown1
        have hconv := own_conv hO
        have HB3 := hidX (HB.out.grown hgrow1 HB.out.size (fun k hk => Nat.le_trans hn1' (HO.out.1.lt k hk).1))
        clear hown1 hgrow1 HO HB hO
        have KP := manyP_any i true hNm w3 15 ((i : Int) + 1) 6 0 [] (by rw [many_res i true hNm]; rfl) (by decide) rfl
        go_wp2_with fail
        refine KP.mono ?_
        rintro e w4 ⟨⟨uo, uc, rfl, ho⟩, hb⟩
        have k1 := bl1 w4 (.cells #[.int .i64 0, .slice uo ([] : List Rte).length uc] 25)
        have k2 := bl1 (w4.alloc (.cells #[.int .i64 0, .slice uo ([] : List Rte).length uc] 25)) (.cells #[.int .i64 15, .int .i64 ((i : Int) + 1), .int .i64 6] 52)
        have s1 : (w4.alloc (.cells #[.int .i64 0, .slice uo ([] : List Rte).length uc] 25)).heap.size = w4.heap.size + 1 := by simp
        have hkb := keepb k2 k1
        have HB4 := hidX (keepb hkb (keepb hb HB3.out))
        have hA4 : ((w4.alloc (.cells #[.int .i64 0, .slice uo ([] : List Rte).length uc] 25)).alloc (.cells #[.int .i64 15, .int .i64 ((i : Int) + 1), .int .i64 6] 52)).heap[w4.heap.size]? = some (.cells #[.int .i64 0, .slice uo ([] : List Rte).length uc] 25) := (k2.block _ (by omega)).trans Array.getElem?_push_size
        have hC4 : ((w4.alloc (.cells #[.int .i64 0, .slice uo ([] : List Rte).length uc] 25)).alloc (.cells #[.int .i64 15, .int .i64 ((i : Int) + 1), .int .i64 6] 52)).heap[w4.heap.size + 1]? = some (.cells #[.int .i64 15, .int .i64 ((i : Int) + 1), .int .i64 6] 52) := by rw [← s1]; exact Array.getElem?_push_size
        have t1 := at_blk hA4 1 (.slice uo ([] : List Rte).length uc) rfl
        have f0 := at_blk hC4 0 (.int .i64 15) rfl
        have f1 := at_blk hC4 1 (.int .i64 ((i : Int) + 1)) rfl
        have f2 := at_blk hC4 2 (.int .i64 6) rfl
        clear hA4 hC4 k1 k2 hkb s1 ho hb KP hconv
        go_wp2
        exact bodyPost_ret (v := .bool true) (by simp [results, Try.results5, go_sem]) rfl ⟨rfl, HB4.out⟩
      | false =>
        have hO := HO.out.1
        have e : ms i = mT i false := by unfold mT; simp
        rw [← Hml.out, e] at hO
        have hconv := own_conv hO
        clear e
        have HB3 := HB
        clear HO HB hO
        by_cases hbig : 1048576 < i
        · have hbigI : (1048576 : Int) < (i : Int) := by omega
          have KP := manyP_any i false hNm wr 16 (1048577) 1 0 [] (by rw [many_res i false hNm]; rw [if_neg (by decide), if_pos hbig]) (by decide) rfl
          go_wp2_with fail
          refine KP.mono ?_
          rintro e w4 ⟨⟨uo, uc, rfl, ho⟩, hb⟩
          have k1 := bl1 w4 (.cells #[.int .i64 0, .slice uo ([] : List Rte).length uc] 25)
          have k2 := bl1 (w4.alloc (.cells #[.int .i64 0, .slice uo ([] : List Rte).length uc] 25)) (.cells #[.int .i64 16, .int .i64 (1048577), .int .i64 1] 52)
          have s1 : (w4.alloc (.cells #[.int .i64 0, .slice uo ([] : List Rte).length uc] 25)).heap.size = w4.heap.size + 1 := by simp
          have hkb := keepb k2 k1
          have HB4 := hidX (keepb hkb (keepb hb HB3.out))
          have hA4 : ((w4.alloc (.cells #[.int .i64 0, .slice uo ([] : List Rte).length uc] 25)).alloc (.cells #[.int .i64 16, .int .i64 (1048577), .int .i64 1] 52)).heap[w4.heap.size]? = some (.cells #[.int .i64 0, .slice uo ([] : List Rte).length uc] 25) := (k2.block _ (by omega)).trans Array.getElem?_push_size
          have hC4 : ((w4.alloc (.cells #[.int .i64 0, .slice uo ([] : List Rte).length uc] 25)).alloc (.cells #[.int .i64 16, .int .i64 (1048577), .int .i64 1] 52)).heap[w4.heap.size + 1]? = some (.cells #[.int .i64 16, .int .i64 (1048577), .int .i64 1] 52) := by rw [← s1]; exact Array.getElem?_push_size
          have t1 := at_blk hA4 1 (.slice uo ([] : List Rte).length uc) rfl
          have f0 := at_blk hC4 0 (.int .i64 16) rfl
          have f1 := at_blk hC4 1 (.int .i64 (1048577)) rfl
          have f2 := at_blk hC4 2 (.int .i64 1) rfl
          clear hA4 hC4 k1 k2 hkb s1 ho hb KP hconv
          go_wp2
          exact bodyPost_ret (v := .bool true) (by simp [results, Try.results5, go_sem]) rfl ⟨rfl, HB4.out⟩
        · have hbigI : ¬ (1048576 : Int) < (i : Int) := by omega
          by_cases hz : i = 0
          · have hzb : ((i : Int) == 0) = true := by simp; omega
            have hmin : min (i : Int) 1 = 0 := by omega
            have Hz := hidX hz
            have KP := manyP_any i false hNm wr 0 (0) 0 128 [] (by rw [many_res i false hNm]; rw [if_neg (by decide), if_neg hbig]) (by decide) (by rw [if_pos rfl, many_res i false hNm, if_neg (by decide), if_neg hbig]; show (List.replicate i r1).foldl setF [] = _; rw [many_set, if_pos hz])
            clear hz
            go_wp2_with fail
            refine KP.mono ?_
            rintro e w4 ⟨⟨uo, uc, rfl, ho⟩, hb⟩
            have k1 := bl1 w4 (.cells #[.int .i64 128, .slice uo 0 uc] 25)
            have k2 := bl1 (w4.alloc (.cells #[.int .i64 128, .slice uo 0 uc] 25)) (.cells #[.int .i64 0, .int .i64 (0), .int .i64 0] 52)
            have s1 : (w4.alloc (.cells #[.int .i64 128, .slice uo 0 uc] 25)).heap.size = w4.heap.size + 1 := by simp
            have hkb := keepb k2 k1
            have HB4 := hidX (keepb hkb (keepb hb HB3.out))
            have hA4 : ((w4.alloc (.cells #[.int .i64 128, .slice uo 0 uc] 25)).alloc (.cells #[.int .i64 0, .int .i64 (0), .int .i64 0] 52)).heap[w4.heap.size]? = some (.cells #[.int .i64 128, .slice uo 0 uc] 25) := (k2.block _ (by omega)).trans Array.getElem?_push_size
            have hC4 : ((w4.alloc (.cells #[.int .i64 128, .slice uo 0 uc] 25)).alloc (.cells #[.int .i64 0, .int .i64 (0), .int .i64 0] 52)).heap[w4.heap.size + 1]? = some (.cells #[.int .i64 0, .int .i64 (0), .int .i64 0] 52) := by rw [← s1]; exact Array.getElem?_push_size
            have t1 := at_blk hA4 1 (.slice uo 0 uc) rfl
            have f0 := at_blk hC4 0 (.int .i64 0) rfl
            have f1 := at_blk hC4 1 (.int .i64 (0)) rfl
            have f2 := at_blk hC4 2 (.int .i64 0) rfl
            clear hA4 hC4 k1 k2 hkb s1 ho hb KP hconv
            go_wp2
            exact bodyPost_ret (v := .bool true) (by simp [results, Try.results5, go_sem]) rfl ⟨rfl, HB4.out⟩
          · have hzI : ¬ (i : Int) = 0 := by omega
            have hzb : ((i : Int) == 0) = false := by simpa using hz
            have hmin : min (i : Int) 1 = 1 := by omega
            have KP := manyP_any i false hNm wr 0 (0) 0 128 [r1] (by rw [many_res i false hNm]; rw [if_neg (by decide), if_neg hbig]) (by decide) (by rw [if_pos rfl, many_res i false hNm, if_neg (by decide), if_neg hbig]; show (List.replicate i r1).foldl setF [] = _; rw [many_set, if_neg hz])
            go_wp2_with fail
            refine KP.mono ?_
            rintro e w4 ⟨⟨uo, uc, rfl, ho⟩, hb⟩
            have k1 := bl1 w4 (.cells #[.int .i64 128, .slice uo 1 uc] 25)
            have k2 := bl1 (w4.alloc (.cells #[.int .i64 128, .slice uo 1 uc] 25)) (.cells #[.int .i64 0, .int .i64 (0), .int .i64 0] 52)
            have s1 : (w4.alloc (.cells #[.int .i64 128, .slice uo 1 uc] 25)).heap.size = w4.heap.size + 1 := by simp
            have hkb := keepb k2 k1
            have HB4 := hidX (keepb hkb (keepb hb HB3.out))
            have hA4 : ((w4.alloc (.cells #[.int .i64 128, .slice uo 1 uc] 25)).alloc (.cells #[.int .i64 0, .int .i64 (0), .int .i64 0] 52)).heap[w4.heap.size]? = some (.cells #[.int .i64 128, .slice uo 1 uc] 25) := (k2.block _ (by omega)).trans Array.getElem?_push_size
            have hC4 : ((w4.alloc (.cells #[.int .i64 128, .slice uo 1 uc] 25)).alloc (.cells #[.int .i64 0, .int .i64 (0), .int .i64 0] 52)).heap[w4.heap.size + 1]? = some (.cells #[.int .i64 0, .int .i64 (0), .int .i64 0] 52) := by rw [← s1]; exact Array.getElem?_push_size
            have t1 := at_blk hA4 1 (.slice uo 1 uc) rfl
            have f0 := at_blk hC4 0 (.int .i64 0) rfl
            have f1 := at_blk hC4 1 (.int .i64 (0)) rfl
            have f2 := at_blk hC4 2 (.int .i64 0) rfl
            obtain ⟨g9, rfl⟩ : ∃ g9, uo = some ⟨g9, 0, none⟩ := by
              rcases ho.2 with ⟨_, h⟩ | ⟨g, cap, cur, e, -⟩
              · cases h
              · injection e with e1 _ _
                exact ⟨g, e1⟩
            have hRo : RwO w4 wr.heap.size g9 uc 1 [r1] := ⟨rfl, ho⟩
            obtain ⟨y0, y1, y2, y3⟩ := hRo.cells (j := 0) (r := r1) rfl
            simp only [Nat.zero_mul, Nat.zero_add] at y0 y1 y2 y3
            have x0 := keepc hkb y0
            have x1 := keepc hkb y1
            have x2 := keepc hkb y2
            have x3 := keepc hkb y3
            have hr0 : hI r1.1.1 = 0 := hI_zero
            have hr1 : lI r1.1.1 = 0 := lI_zero
            have hr2 : r1.1.2 = 0 := rfl
            have hr3 : r1.2 = 1 := rfl
            rw [hr0] at x0
            rw [hr1] at x1
            rw [hr2] at x2
            rw [hr3] at x3
            have hE2 : ∀ w : World, (Op.equalIn 10000 40 (.agg #[.int .u64 0, .int .u64 0, .int .i64 0, .int .i64 1]) (.agg #[.int .u64 0, .int .u64 0, .int .i64 0, .int .i64 1])).run Try.prog w = .ok true w := fun w => by
              have := eqR_run 0#128 0 1 w
              rwa [hI_zero, lI_zero] at this
            clear hRo y0 y1 y2 y3 hr0 hr1 hr2 hr3
            clear hA4 hC4 k1 k2 hkb s1 ho hb KP hconv
            go_wp2
            exact bodyPost_ret (v := .bool true) (by simp [results, Try.results5, go_sem]) rfl ⟨rfl, HB4.out⟩
end Go.Proofs.Ytmeaikmmhgmgnaa
