/-
  Part 18 of the proof: 11 texts, one behind the other.
-/
import Derived.Test.YtnaghiipfgdimaaPart14
import Derived.Test.YtnaghiipfgdimaaPart17
import Derived.Test.YtnaghiipfgdimaaPart6
import Derived.Test.YtnaghiipfgdimaaPart9
import Derived.Test.YtnaghiipfgdimaaPart3
import Derived.Test.YtnaghiipfgdimaaPart1
import Derived.Test.YtnaghiipfgdimaaPart2
import Derived.Test.YtnaghiipfgdimaaPart4
import Derived.Deep.QuietTactic
import Derived.BigQuiet
import Derived.Test.YtnaghiipfgdimaaPart7
import Derived.Laws.IdiomStrings
import Derived.Test.YtnaghiipfgdimaaPart10
/-
  A text of few entries is read: Parse.
-/
namespace Go.Proofs.Ytnaghiipfgdimaa
open Go.RowKit
set_option linter.unusedSimpArgs false
set_option linter.unusedVariables false
attribute [local go_sem] Oper.semAt_some

set_option maxRecDepth 20000 in
set_option maxHeartbeats 8000000 in
theorem parseS_any (F : Int) (s : ByteArray) (w : World) (hF : fam F = true) (hs : s.size ≤ 1000000000) (L S : List Rte) (hres : lnsR F s (s.size + 1) 0 1 0 [] 0 = ((0, 0, 0), L)) (hL0 : 0 < L.length) (hL : L.length ≤ 1000000000)
    (KS : ∀ (base g c : Nat) W, RwO W base g c L.length L → Calls Try.prog 42 #[.slice (some ⟨g, 0, none⟩) L.length c, .func (.func 43) #[] #[]] W fun e w' => e = .returned (.tuple #[]) ∧ RwO w' base g c L.length S ∧ Bo g W w') :
    Calls Try.prog 21 #[.int .i64 F, .string s] w fun e w' => (∃ v, e = .returned (.tuple #[.agg #[.int .i64 F, v], .agg #[.int .i64 0, .int .i64 0, .int .i64 0]]) ∧ Row w' 4 v (ltL S).length (rowR (ltL S))) ∧ Below w.heap.size w w' := by
  have q1 := bl1 w (.cells #[.int .i64 0, .slice none 0 0] 25)
  have q2 := bl1 (w.alloc (.cells #[.int .i64 0, .slice none 0 0] 25)) (.cells #[.int .i64 0, .int .i64 0, .int .i64 0] 56)
  have s1 : (w.alloc (.cells #[.int .i64 0, .slice none 0 0] 25)).heap.size = w.heap.size + 1 := by simp
  have HP : Hid (∀ X, X = (w.alloc (.cells #[.int .i64 0, .slice none 0 0] 25)).alloc (.cells #[.int .i64 0, .int .i64 0, .int .i64 0] 56) → X.heap[w.heap.size]? = some (.cells #[.int .i64 0, .slice none 0 0] 25) ∧ X.heap[w.heap.size + 1]? = some (.cells #[.int .i64 0, .int .i64 0, .int .i64 0] 56) ∧ Below w.heap.size w X) := hidR (by
    rintro X rfl
    refine ⟨?_, ?_, keepb q2 q1⟩
    · rw [q2.block _ (by omega)]
      exact Array.getElem?_push_size
    · rw [← s1]
      exact Array.getElem?_push_size)
  have KA := fun w => alast_any F w
  have hE : lastE F = 0 := by unfold lastE; rw [if_pos hF]
  rw [hE] at KA
  clear q1 q2 s1 hE
  go_enter Try.func21, Try.ntmps21
  go_wp2_with fail
  revert HP
  generalize hW0 : (w.alloc (.cells #[.int .i64 0, .slice none 0 0] 25)).alloc (.cells #[.int .i64 0, .int .i64 0, .int .i64 0] 56) = W0
  intro HP
  obtain ⟨hp1, hp2, hp3⟩ := HP.out W0 rfl
  clear HP hW0
  refine (KA W0).mono ?_
  rintro e W1 ⟨rfl, hb⟩
  have b2 := bl1 W1 (.cells #[.int .u64 (hI (lastV F)), .int .u64 (lI (lastV F))] 36)
  have b3 := bl1 (W1.alloc (.cells #[.int .u64 (hI (lastV F)), .int .u64 (lI (lastV F))] 36)) (.cells #[.int .i64 F, .string s, .int .i64 0, .int .i64 1, .int .i64 0] 79)
  have sz1 : (W1.alloc (.cells #[.int .u64 (hI (lastV F)), .int .u64 (lI (lastV F))] 36)).heap.size = W1.heap.size + 1 := by simp
  have bb := keepb b3 (keepb b2 hb)
  have HT : Hid (((W1.alloc (.cells #[.int .u64 (hI (lastV F)), .int .u64 (lI (lastV F))] 36)).alloc (.cells #[.int .i64 F, .string s, .int .i64 0, .int .i64 1, .int .i64 0] 79)).heap[w.heap.size]? = some (.cells #[.int .i64 0, .slice none 0 0] 25)) := hidR ((bb.block _ (blk_lt5 hp1)).trans hp1)
  have HF : Hid (((W1.alloc (.cells #[.int .u64 (hI (lastV F)), .int .u64 (lI (lastV F))] 36)).alloc (.cells #[.int .i64 F, .string s, .int .i64 0, .int .i64 1, .int .i64 0] 79)).heap[w.heap.size + 1]? = some (.cells #[.int .i64 0, .int .i64 0, .int .i64 0] 56)) := hidR ((bb.block _ (blk_lt5 hp2)).trans hp2)
  have HB := hidR (keepb bb hp3)
  have HR : Hid (RdV ((W1.alloc (.cells #[.int .u64 (hI (lastV F)), .int .u64 (lI (lastV F))] 36)).alloc (.cells #[.int .i64 F, .string s, .int .i64 0, .int .i64 1, .int .i64 0] 79)) (W1.heap.size + 1) F s 0 1 0) := hidR (by
    show _ = _
    rw [← sz1]
    exact Array.getElem?_push_size)
  have hlt : w.heap.size + 1 < W1.heap.size := by have := hb.size; have := blk_lt5 hp2; omega
  clear b2 b3 bb hp1 hp2 hp3 hb sz1 KA
  go_wp2_with fail
  revert HT HF HB HR hlt
  generalize (W1.alloc (.cells #[.int .u64 (hI (lastV F)), .int .u64 (lI (lastV F))] 36)).alloc (.cells #[.int .i64 F, .string s, .int .i64 0, .int .i64 1, .int .i64 0] 79) = W2
  generalize W1.heap.size = R1
  intro HT HF HB HR hlt
  refine (entries5_any (R1 + 1) F s W2 HR.out hs ((0, 0, 0), L) hres).mono ?_
  rintro e W3 ⟨⟨lv, rfl, hO⟩, hb⟩
  have hR2 : R1 + 1 < W2.heap.size := HR.out.lt
  obtain ⟨g, c, rfl⟩ : ∃ g c, lv = .slice (some ⟨g, 0, none⟩) L.length c := by
    rcases hO.2 with ⟨_, e1⟩ | ⟨g, cap, cur, e0, _⟩
    · have e2 : L.length = 0 := e1
      omega
    · exact ⟨g, cap, e0⟩
  have q4 := bl1 W3 (.cells #[.int .i64 0, .int .i64 0, .int .i64 0] 56)
  have hgb : W2.heap.size + 4 ≤ g := (hO.lt g rfl).1
  have HO := hidR (show RwO (W3.alloc (.cells #[.int .i64 0, .int .i64 0, .int .i64 0] 56)) (W2.heap.size + 4) g c L.length L from RwO.below ⟨rfl, hO⟩ q4)
  have HT3 := hidR ((q4.block _ (blk_lt5 ((hb.blk _ (blk_lt5 HT.out) (by omega)).trans HT.out))).trans ((hb.blk _ (blk_lt5 HT.out) (by omega)).trans HT.out))
  have HF3 := hidR ((q4.block _ (blk_lt5 ((hb.blk _ (blk_lt5 HF.out) (by omega)).trans HF.out))).trans ((hb.blk _ (blk_lt5 HF.out) (by omega)).trans HF.out))
  have HB3 := hidR (keepb q4 (Bo.low hb HB.out (by have := HB.out.size; omega) (Nat.le_refl _)))
  clear hO hb q4 HT HF HB HR hres
  go_wp2_with fail
  revert HO HT3 HF3 HB3
  generalize W3.alloc (.cells #[.int .i64 0, .int .i64 0, .int .i64 0] 56) = W4
  intro HO HT3 HF3 HB3
  refine (inOrder_any F (W2.heap.size + 4) g c L.length L S W4 HO.out hL0 hL (fun W h => KS _ _ _ W h)).mono ?_
  rintro e W5 ⟨rfl, hD, hb⟩
  have hT5 := (hb.blk _ (blk_lt5 HT3.out) (by omega)).trans HT3.out
  have hF5 := (hb.blk _ (blk_lt5 HF3.out) (by omega)).trans HF3.out
  have HB5 := hidR (Bo.low hb HB3.out (by have := HB3.out.size; omega) (Nat.le_refl _))
  have c0 := at_blk hT5 0 (.int .i64 0) rfl
  have c1 := at_blk hT5 1 (.slice none 0 0) rfl
  have c2 := at_blk hF5 0 (.int .i64 0) rfl
  have c3 := at_blk hF5 1 (.int .i64 0) rfl
  have c4 := at_blk hF5 2 (.int .i64 0) rfl
  have d0 := fr_blk5 (j := 0) hT5
  have d1 := fr_blk5 (j := 1) hT5
  have d2 := fr_blk5 (j := 0) hF5
  have d3 := fr_blk5 (j := 1) hF5
  have d4 := fr_blk5 (j := 2) hF5
  have HZ : Hid (Row (((((W5.setCell ⟨w.heap.size, 0, none⟩ (.int .i64 F)).setCell ⟨w.heap.size, 1, none⟩ (.slice (some ⟨g, 0, none⟩) (ltL S).length c)).setCell ⟨w.heap.size + 1, 0, none⟩ (.int .i64 0)).setCell ⟨w.heap.size + 1, 1, none⟩ (.int .i64 0)).setCell ⟨w.heap.size + 1, 2, none⟩ (.int .i64 0)) 4 (.slice (some ⟨g, 0, none⟩) (ltL S).length c) (ltL S).length (rowR (ltL S)) ∧ Below w.heap.size w (((((W5.setCell ⟨w.heap.size, 0, none⟩ (.int .i64 F)).setCell ⟨w.heap.size, 1, none⟩ (.slice (some ⟨g, 0, none⟩) (ltL S).length c)).setCell ⟨w.heap.size + 1, 0, none⟩ (.int .i64 0)).setCell ⟨w.heap.size + 1, 1, none⟩ (.int .i64 0)).setCell ⟨w.heap.size + 1, 2, none⟩ (.int .i64 0))) := hidR (by
    obtain ⟨D', h1, h2, h3⟩ := hD
    have h4 : RwO (((((W5.setCell ⟨w.heap.size, 0, none⟩ (.int .i64 F)).setCell ⟨w.heap.size, 1, none⟩ (.slice (some ⟨g, 0, none⟩) (ltL S).length c)).setCell ⟨w.heap.size + 1, 0, none⟩ (.int .i64 0)).setCell ⟨w.heap.size + 1, 1, none⟩ (.int .i64 0)).setCell ⟨w.heap.size + 1, 2, none⟩ (.int .i64 0)) (W2.heap.size + 4) g c L.length D' := h1.heap (by rw [hSet _ (by omega), hSet _ (by omega), hSet _ (by omega), hSet _ (by omega), hSet _ (by omega)])
    have r := own_row h4.2
    obtain ⟨r1, ao, c', r2, r3, r4⟩ := r
    injection r2 with r5 _ r6
    subst r5 r6
    refine ⟨⟨rowR_len _, _, _, rfl, by omega, ?_⟩, ((((HB5.out.setCell (p := ⟨w.heap.size, 0, none⟩) (Nat.le_refl _) _).setCell (p := ⟨w.heap.size, 1, none⟩) (Nat.le_refl _) _).setCell (p := ⟨w.heap.size + 1, 0, none⟩) (Nat.le_succ _) _).setCell (p := ⟨w.heap.size + 1, 1, none⟩) (Nat.le_succ _) _).setCell (p := ⟨w.heap.size + 1, 2, none⟩) (Nat.le_succ _) _⟩
    rcases r4 with ⟨e, _⟩ | ⟨b, off, e, r4⟩
    · cases e
    · injection e with e
      injection e with e1 e2
      subst e1 e2
      refine .inr ⟨_, _, rfl, fun j u hj => r4 j u ?_⟩
      rw [← h2, ← rowR_take] at hj
      have hjl := (List.getElem?_eq_some_iff.mp hj).1
      rw [List.length_take] at hjl
      rw [← hj, List.getElem?_take_of_lt (by omega)])
  clear hD hb hT5 hF5 HO HT3 HF3 HB3 HB5 KS
  go_wp2
  exact bodyPost_ret (v := .tuple #[.agg #[.int .i64 F, .slice (some ⟨g, 0, none⟩) (ltL S).length c], .agg #[.int .i64 0, .int .i64 0, .int .i64 0]]) (by simp [results, Try.results21, go_sem, c0, c1, c2, c3, c4]) rfl ⟨⟨_, rfl, HZ.out.1⟩, HZ.out.2⟩
end Go.Proofs.Ytnaghiipfgdimaa
/-
  What the call of turnpikeref5's Find does.
-/
namespace Go.Proofs.Ytnaghiipfgdimaa
open Go.RowKit
set_option linter.unusedSimpArgs false
set_option linter.unusedVariables false

/-- The hop of the first route that bears a prefix. -/
def fndO (y : BitVec 128) (m : Int) : List Rte → Option Int
  | [] => none
  | r :: l => if ((r.1.1 == y) && (r.1.2 == m)) = true then some r.2 else fndO y m l
theorem fndO_drop (y : BitVec 128) (m : Int) (l : List Rte) (k : Nat) (hk : k < l.length) : fndO y m (l.drop k) = if ((l[k].1.1 == y) && (l[k].1.2 == m)) = true then some l[k].2 else fndO y m (l.drop (k + 1)) := by
  rw [List.drop_eq_getElem_cons hk]
  rfl
set_option maxRecDepth 20000 in
set_option maxHeartbeats 4000000 in
theorem rfind_any (F : Int) (y : BitVec 128) (m : Int) (v : Value) (l : List Rte) (w : World) (hv : RwR w v l) (hl : l.length ≤ 1000000000) :
    Calls Try.prog 17 #[.agg #[.int .i64 F, v], .agg #[.int .u64 (hI y), .int .u64 (lI y), .int .i64 m]] w fun e w' => e = .returned (.tuple #[.int .i64 ((fndO y m l).getD 0), .bool (fndO y m l).isSome]) ∧ Below w.heap.size w w' := by
  obtain ⟨ao, c, rfl, hv⟩ := hv
  have b1 := bl1 w (.cells #[.int .i64 F, .slice ao l.length c] 25)
  have b2 := bl1 (w.alloc (.cells #[.int .i64 F, .slice ao l.length c] 25)) (.cells #[.int .u64 (hI y), .int .u64 (lI y), .int .i64 m] 38)
  have HT := hidR ((att_new w w.heap.size F (.slice ao l.length c) 25 rfl).below b2)
  have HP := hidR (atp_new (w.alloc (.cells #[.int .i64 F, .slice ao l.length c] 25)) (w.heap.size + 1) y m 38 (by simp))
  have HV : Hid (l = [] ∨ ∃ b off, ao = some ⟨b, off, none⟩ ∧ ∀ j u, (rowR l)[j]? = some u → w.cell? ⟨b, off + j, none⟩ = some u) := hv
  have HB := hidR (keepb b2 b1)
  obtain ⟨fo, hfo⟩ : ∃ fo, fo = fndO y m l := ⟨_, rfl⟩
  rw [← hfo]
  have HF := hidR hfo
  clear b1 b2 hv hfo
  go_enter Try.func17, Try.ntmps17
  go_wp2_with fail
  go_loopw [6] (fun i wr => ∃ k : Nat, k ≤ l.length ∧ i = .int .i64 k ∧ Hid (fndO y m (l.drop k) = fo) ∧ Hid (AtT wr w.heap.size F (.slice ao l.length c)) ∧ Hid (AtP wr (w.heap.size + 1) y m) ∧ Hid (Below w.heap.size w wr)) (fun i _ => l.length - (intOf i).toNat)
  case atStart => exact ⟨0, by omega, rfl, hidR HF.out.symm, HT, HP, HB⟩
  case round =>
    clear HT HP HB HF
    obtain ⟨k, hk, rfl, HG, HT, HP, HB⟩ := hrel
    obtain ⟨t0, t1⟩ := HT.out
    by_cases hlt : (k : Int) < (l.length : Int)
    · have hks : k < l.length := by omega
      rcases HV.out with e | ⟨b, off, rfl, hc⟩
      · rw [e] at hks; simp at hks
      · obtain ⟨x0, x1, x2, x3⟩ := rwr_cells hc k hks
        have x0 := keepc HB.out x0
        have x1 := keepc HB.out x1
        have x2 := keepc HB.out x2
        have x3 := keepc HB.out x3
        obtain ⟨p0, p1, p2, -, -, -⟩ := HP.out
        have hE := fun w => eqP_run l[k].1.1 l[k].1.2 y m w
        have HD := hidR (fndO_drop y m l k hks)
        have mk : IntKind.i64.wrap ((k : Int) + 1) = (k : Int) + 1 := by rw [IntKind.wrap_i64]; omega
        clear hc HV
        revert hE HD
        generalize ((l[k].1.1 == y) && (l[k].1.2 == m)) = eb
        generalize l[k].1.1 = px at *
        generalize l[k].1.2 = pn at *
        generalize l[k].2 = ph at *
        intro hE HD
        cases eb
        · go_wp2_with fail
          go_quiet (fail)
          go_wp2
          go_roundw
          case rel =>
            refine ⟨k + 1, by omega, by go_num, ?_, ?_, ?_, ?_⟩
            · exact hidR (by rw [← HG.out, HD.out]; simp)
            · exact hidR ⟨HT.out.1, HT.out.2⟩
            · exact hidR HP.out
            · exact hidR (below_drewN HB.out _)
          case measure => simp [intOf]; omega
        · go_wp2_with fail
          go_quiet (fail)
          have HE : Hid (fo = some ph) := hidR (by rw [← HG.out, HD.out]; simp)
          clear HD HG HP HT
          go_wp2
          exact bodyPost_ret (v := .tuple #[.int .i64 ph, .bool true]) (by simp [results, Try.results17, go_sem]) rfl ⟨by rw [HE.out]; rfl, below_drewN HB.out _⟩
    · have hd : ¬ k < l.length := by omega
      have HE : Hid (fo = none) := hidR (by rw [← HG.out, List.drop_eq_nil_of_le (by omega)]; rfl)
      clear HG HP HT
      go_wp2
      exact bodyPost_ret (v := .tuple #[.int .i64 0, .bool false]) (by simp [results, Try.results17, go_sem]) rfl ⟨by rw [HE.out]; rfl, HB.out⟩
end Go.Proofs.Ytnaghiipfgdimaa
/-
  What the calls of package prefix's Meet, Last, Kids do, of right prefixes.
-/
namespace Go.Proofs.Ytnaghiipfgdimaa
open Go.RowKit
set_option linter.unusedSimpArgs false
set_option linter.unusedVariables false

theorem run_min3 {P : Program} (w : World) (ts : Array TypeId) (t : TypeId) (x y z : Int) :
    (Builtin.min_ ts t #[.int .i64 x, .int .i64 y, .int .i64 z]).run P w = .ok (.int .i64 (min (min x y) z)) w := by
  have e : ∀ x y : Int, (if y < x then y else x) = min x y := fun x y => by
    rw [Int.min_def]
    split <;> split <;> omega
  simp [Builtin.min_, Builtin.min2, e]
def meetN (x : BitVec 128) (n : Int) (y : BitVec 128) (m : Int) : Int := min (min n m) ((leadN (x ^^^ y) : Nat) : Int)
set_option maxHeartbeats 1000000 in
set_option maxRecDepth 20000 in
theorem pmeet_any (x : BitVec 128) (n : Int) (y : BitVec 128) (m : Int) (w : World) :
    Calls Try.prog 54 #[.agg #[.int .u64 (hI x), .int .u64 (lI x), .int .i64 n], .agg #[.int .u64 (hI y), .int .u64 (lI y), .int .i64 m]] w fun e w' => e = .returned (.agg #[.int .u64 (hI (cutW x (meetN x n y m))), .int .u64 (lI (cutW x (meetN x n y m))), .int .i64 (meetN x n y m)]) ∧ Below w.heap.size w w' := by
  have KC := fun w => wcommon_any x y w
  unfold meetN
  generalize ((leadN (x ^^^ y) : Nat) : Int) = l at *
  have KM := fun w => cut_any x (min (min n m) l) w
  revert KM
  generalize hv : min (min n m) l = v
  generalize cutW x v = c
  intro KM
  have hmin : ∀ (w : World) (ts : Array TypeId) (t : TypeId), (Builtin.min_ ts t #[.int .i64 n, .int .i64 m, .int .i64 l]).run Try.prog w = .ok (.int .i64 v) w := fun w ts t => by rw [run_min3, hv]
  clear hv
  have hbl := fun o p q => (bl3 w o p q).drew
  go_enter Try.func54, Try.ntmps54
  go_wp2
  go_region_held3 (fun w' => w'.cell? ⟨w.heap.size, 0, none⟩ = some (.int .u64 (hI x)) ∧ w'.cell? ⟨w.heap.size, 1, none⟩ = some (.int .u64 (lI x)) ∧ w'.cell? ⟨w.heap.size, 2, none⟩ = some (.int .i64 n) ∧ w'.cell? ⟨w.heap.size + 1, 0, none⟩ = some (.int .u64 (hI y)) ∧ w'.cell? ⟨w.heap.size + 1, 1, none⟩ = some (.int .u64 (lI y)) ∧ w'.cell? ⟨w.heap.size + 1, 2, none⟩ = some (.int .i64 m) ∧ w'.cell? ⟨w.heap.size + 1 + 1, 0, none⟩ = some (cv w' (w.heap.size + 1 + 1) 0) ∧ w'.cell? ⟨w.heap.size + 1 + 1, 1, none⟩ = some (cv w' (w.heap.size + 1 + 1) 1) ∧ w'.cell? ⟨w.heap.size + 1 + 1, 2, none⟩ = some (cv w' (w.heap.size + 1 + 1) 2) ∧ w'.frozen? ⟨w.heap.size + 1 + 1, 0, none⟩ = false ∧ w'.frozen? ⟨w.heap.size + 1 + 1, 1, none⟩ = false ∧ w'.frozen? ⟨w.heap.size + 1 + 1, 2, none⟩ = false ∧ Below w.heap.size w w')
    (first
      | (obtain ⟨k1, k2, k0, j1, j2, j0, k3, k4, k5, k6, k7, k8, k9⟩ := ‹_ ∧ _›; exact ⟨keepc hb2 k1, keepc hb2 k2, keepc hb2 k0, keepc hb2 j1, keepc hb2 j2, keepc hb2 j0, cv_of (keepc hb2 k3), cv_of (keepc hb2 k4), cv_of (keepc hb2 k5), keepf hb2 k3 k6, keepf hb2 k4 k7, keepf hb2 k5 k8, keepb hb2 k9⟩)
      | (obtain ⟨k1, k2, k0, j1, j2, j0, k3, k4, k5, k6, k7, k8, k9⟩ := ‹_ ∧ _›; exact ⟨keepc hb1 k1, keepc hb1 k2, keepc hb1 k0, keepc hb1 j1, keepc hb1 j2, keepc hb1 j0, cv_of (keepc hb1 k3), cv_of (keepc hb1 k4), cv_of (keepc hb1 k5), keepf hb1 k3 k6, keepf hb1 k4 k7, keepf hb1 k5 k8, keepb hb1 k9⟩)
      | (refine ⟨?_, ?_, ?_, ?_, ?_, ?_, cv_new ?_, cv_new ?_, cv_new ?_, ?_, ?_, ?_, ?_⟩ <;> first | (simp [go_sem, *]; done) | exact bset3 (by simp [*]) (by omega) _ _ _))
    (first | (go_at_call 70; refine (KC _).mono ?_; rintro e w1 ⟨rfl, hb1⟩) | (go_at_call 69; refine (KM _).mono ?_; rintro e w2 ⟨rfl, hb2⟩))
  obtain ⟨-, -, -, -, -, -, -, -, -, -, -, -, kB⟩ := ‹_ ∧ _›
  have e0 : w2.cell? ⟨w.heap.size + 1 + 1, 0, none⟩ = some (.int .u64 0) := keepc hb2 (keepc hb1 (by simp [go_sem]))
  have e1 : w2.cell? ⟨w.heap.size + 1 + 1, 1, none⟩ = some (.int .u64 0) := keepc hb2 (keepc hb1 (by simp [go_sem]))
  have e2 : w2.cell? ⟨w.heap.size + 1 + 1, 2, none⟩ = some (.int .i64 0) := keepc hb2 (keepc hb1 (by simp [go_sem]))
  go_wp2
  exact bodyPost_ret (v := .agg #[.int .u64 (hI c), .int .u64 (lI c), .int .i64 v]) (by simp [results, Try.results54, go_sem, e0, e1, e2]) rfl ⟨rfl, kB⟩

end Go.Proofs.Ytnaghiipfgdimaa
/-
  What each call of turnpikeref1's Add and Sub does.
-/
namespace Go.Proofs.Ytnaghiipfgdimaa
open Go.RowKit
set_option linter.unusedSimpArgs false
set_option linter.unusedVariables false

/-- The sum of the upper halves, as it wraps. -/
def hs (x y : BitVec 128) : Int := IntKind.u64.wrap (hI x + hI y)
theorem wrapu (n : Int) : IntKind.u64.wrap n = n % 18446744073709551616 := by simp [IntKind.wrap, IntKind.bits, IntKind.signed]
theorem lo_sum (x y : BitVec 128) : IntKind.u64.wrap (lI x + lI y) = lI (x + y) := by
  rw [wrapu, lIN, lIN, lIN, BitVec.toNat_add]; omega
theorem hi_sum1 (x y : BitVec 128) (h : lI (x + y) < lI x) : IntKind.u64.wrap (hs x y + 1) = hI (x + y) := by
  unfold hs; rw [wrapu, wrapu]; rw [lIN, lIN, BitVec.toNat_add] at h; rw [hIN, hIN, hIN, BitVec.toNat_add]
  have := x.isLt; have := y.isLt; omega
theorem hi_sum0 (x y : BitVec 128) (h : ¬ lI (x + y) < lI x) : IntKind.u64.wrap (hs x y) = hI (x + y) := by
  unfold hs; rw [wrapu, wrapu]; rw [lIN, lIN, BitVec.toNat_add] at h; rw [hIN, hIN, hIN, BitVec.toNat_add]
  have := x.isLt; have := y.isLt; omega
theorem over_of (x y : BitVec 128) : overB x y = (decide (hs x y < hI x) || decide (hI (x + y) < hs x y)) := by
  rw [Bool.eq_iff_iff]; simp only [Bool.or_eq_true, decide_eq_true_eq]
  unfold overB hs; simp only [decide_eq_true_eq]; rw [wrapu, hIN, hIN, hIN, BitVec.toNat_add]
  have := x.isLt; have := y.isLt; omega

/-- The difference of the upper halves, as it wraps. -/
def hd (x y : BitVec 128) : Int := IntKind.u64.wrap (hI x - hI y)
theorem lo_dif (x y : BitVec 128) : IntKind.u64.wrap (lI x - lI y) = lI (x - y) := by
  rw [wrapu, lIN, lIN, lIN, BitVec.toNat_sub]
  have := x.isLt; have := y.isLt; omega
theorem hi_dif1 (x y : BitVec 128) (h : lI x < lI y) : IntKind.u64.wrap (hd x y - 1) = hI (x - y) := by
  unfold hd; rw [wrapu, wrapu]; rw [lIN, lIN] at h; rw [hIN, hIN, hIN, BitVec.toNat_sub]
  have := x.isLt; have := y.isLt; omega
theorem hi_dif0 (x y : BitVec 128) (h : ¬ lI x < lI y) : IntKind.u64.wrap (hd x y) = hI (x - y) := by
  unfold hd; rw [wrapu, wrapu]; rw [lIN, lIN] at h; rw [hIN, hIN, hIN, BitVec.toNat_sub]
  have := x.isLt; have := y.isLt; omega
theorem cmp_under (x y : BitVec 128) : decide (cmpZ x y < 0) = underB x y := by
  rw [Bool.eq_iff_iff]; simp only [decide_eq_true_eq]; exact cmp_lt x y

end Go.Proofs.Ytnaghiipfgdimaa
/-
  What the calls of turnpikeref2's IsFamily, Right, Last, one, Next and Prev do.
-/
namespace Go.Proofs.Ytnaghiipfgdimaa
open Go.RowKit
set_option linter.unusedSimpArgs false
set_option linter.unusedVariables false

theorem isFamily_any (F : Int) (w : World) :
    Calls Try.prog 25 #[.int .i64 F] w fun e w' => e = .returned (.bool (fam F)) ∧ w' = w := by
  unfold fam
  by_cases h1 : F = 32
  · subst h1
    go_enter Try.func25, Try.ntmps25
    go_wp2
    go_ret
    exact ⟨rfl, rfl⟩
  · have b1 : (F == 32) = false := by simp [h1]
    have b2 : (F == 128) = decide (F = 128) := by rw [Bool.eq_iff_iff]; simp
    rw [show decide (F = 32) = false by simp [h1], Bool.false_or]
    go_enter Try.func25, Try.ntmps25
    go_wp2
    go_ret
    exact ⟨rfl, rfl⟩

theorem put0K (i : Int) (w : World) (h0 : 0 ≤ i) (h1 : i ≤ 127) :
    Calls Try.prog 47 #[.agg #[.int .u64 0, .int .u64 0], .int .i64 i, .int .i64 1] w fun e w' => e = .returned (.agg #[.int .u64 (hI (putW 0#128 i 1)), .int .u64 (lI (putW 0#128 i 1))]) ∧ Below w.heap.size w w' := by
  have h := put_any 0#128 i 1 w (Or.inr rfl) h0 h1
  rw [hI_zero, lI_zero] at h
  exact h
theorem three (y x : BitVec 128) : ((hI y == hI x) = true ∧ (lI y == lI x) = true ∧ y = x) ∨ ((hI y == hI x) = false ∧ ¬ y = x) ∨ ((hI y == hI x) = true ∧ (lI y == lI x) = false ∧ ¬ y = x) := by
  by_cases e : y = x
  · exact Or.inl ⟨by simp [e], by simp [e], e⟩
  · by_cases e1 : hI y = hI x
    · exact Or.inr (Or.inr ⟨by simp [e1], by simp; exact fun e2 => e (eq_ints e1 e2), e⟩)
    · exact Or.inr (Or.inl ⟨by simp [e1], e⟩)
theorem three0 (y : BitVec 128) : ((hI y == 0) = true ∧ (lI y == 0) = true ∧ y = 0#128) ∨ ((hI y == 0) = false ∧ ¬ y = 0#128) ∨ ((hI y == 0) = true ∧ (lI y == 0) = false ∧ ¬ y = 0#128) := by
  have h := three y 0#128
  rw [hI_zero, lI_zero] at h; exact h

end Go.Proofs.Ytnaghiipfgdimaa
/-
  What each call of turnpikeref1's Common, Lead, fits, Field and With does.
-/
namespace Go.Proofs.Ytnaghiipfgdimaa
open Go.RowKit
set_option linter.unusedSimpArgs false
set_option linter.unusedVariables false

/-- The variable at block B reads as the word x. -/
def Rd (w : World) (B : Nat) (x : BitVec 128) : Prop := w.cell? ⟨B, 0, none⟩ = some (.int .u64 (hI x)) ∧ w.cell? ⟨B, 1, none⟩ = some (.int .u64 (lI x))
theorem Rd.keep {W w' : World} {B : Nat} {x : BitVec 128} (h : Rd W B x) (hb : Below W.heap.size W w') : Rd w' B x := ⟨keepc hb h.1, keepc hb h.2⟩
theorem Rd.alloc {W : World} {B : Nat} {x : BitVec 128} (h : Rd W B x) (o : Obj) : Rd (W.alloc o) B x := h.keep (bl1 W o)
theorem Rd.new (W : World) (x : BitVec 128) (t : TypeId) : Rd (W.alloc (.cells #[.int .u64 (hI x), .int .u64 (lI x)] t)) W.heap.size x := by
  constructor <;> simp [go_sem]
/-- The word that the variable at block B holds, under a name that no rule opens. -/
def rdW (w : World) (B : Nat) : BitVec 128 := mkW (intOf (cv w B 0)) (intOf (cv w B 1))
theorem Rd.word {w : World} {B : Nat} {x : BitVec 128} (h : Rd w B x) : rdW w B = x := by
  unfold rdW cv; rw [h.1, h.2]; exact mk_ints x

theorem Rd.self {w : World} {B : Nat} {x : BitVec 128} (h : Rd w B x) : Rd w B (rdW w B) := by rw [h.word]; exact h

set_option maxHeartbeats 2000000 in
theorem common_any (x y : BitVec 128) (w : World) :
    Calls Try.prog 36 #[.agg #[.int .u64 (hI x), .int .u64 (lI x)], .agg #[.int .u64 (hI y), .int .u64 (lI y)]] w fun e w' => e = .returned (.int .i64 ((leadN (x ^^^ y) : Nat) : Int)) ∧ Below w.heap.size w w' := by
  go_enter Try.func36, Try.ntmps36
  go_wp2
  go_loopw [5] (fun i wr => ∃ k : Nat, k ≤ 128 ∧ i = .int .i64 k ∧ Hid ((x ^^^ y).toNat < 2 ^ (128 - k)) ∧ Rd wr w.heap.size x ∧ Rd wr (w.heap.size + 1) y ∧ Below w.heap.size w wr)
    (fun i _ => 128 - (intOf i).toNat)
  case atStart =>
    refine ⟨0, by omega, rfl, (x ^^^ y).isLt, ?_, ?_, bl2 _ _ _⟩
    · exact (Rd.new w x _).alloc _
    · have := Rd.new (w.alloc (.cells #[.int .u64 (hI x), .int .u64 (lI x)] 36)) y 36
      simpa using this
  case round =>
    obtain ⟨k, hk, rfl, hz, X, Y, hB⟩ := hrel
    have hbl := hB.drew
    by_cases hlt : (k : Int) < 128
    · have hst := bit_step (x ^^^ y) k (by omega) hz.out
      have hbe := bitZ_eq x y k (by omega)
      by_cases c : bitZ x (k : Int) = bitZ y (k : Int)
      · have hz' : Hid ((x ^^^ y).toNat < 2 ^ (128 - (k + 1))) := hst.1 (hbe.mp c)
        have hc : (bitZ x (k : Int) == bitZ y (k : Int)) = true := by simpa using c
        clear hst hbe hz c
        go_wp2
        go_region_held3 (fun w' => w'.cell? ⟨w.heap.size, 0, none⟩ = some (.int .u64 (hI x)) ∧ w'.cell? ⟨w.heap.size, 1, none⟩ = some (.int .u64 (lI x)) ∧ w'.cell? ⟨w.heap.size + 1, 0, none⟩ = some (.int .u64 (hI y)) ∧ w'.cell? ⟨w.heap.size + 1, 1, none⟩ = some (.int .u64 (lI y)) ∧ Below w.heap.size w w')
          (first
            | (obtain ⟨k1, k2, k3, k4, k9⟩ := ‹_ ∧ _›; exact ⟨keepc hb1 k1, keepc hb1 k2, keepc hb1 k3, keepc hb1 k4, keepb hb1 k9⟩)
            | exact ⟨X.1, X.2, Y.1, Y.2, hbl⟩)
          (first | (go_at_call 55; refine (rbit_any _ _ _).mono ?_; rintro e w1 ⟨rfl, hb1⟩))
        obtain ⟨k1, k2, k3, k4, kB⟩ := ‹_ ∧ _›
        go_wp2
        go_roundw
        case rel => exact ⟨k + 1, by omega, by go_num, hz', ⟨k1, k2⟩, ⟨k3, k4⟩, kB⟩
        case measure => simp [intOf]; omega
      · have hz' : Hid (2 ^ (127 - k) ≤ (x ^^^ y).toNat) := by
          apply hst.2
          cases hh : (x ^^^ y).getLsbD (127 - k)
          · exact absurd (hbe.mpr hh) c
          · rfl
        have hc : (bitZ x (k : Int) == bitZ y (k : Int)) = false := by simpa using c
        have HL : Hid (leadN (x ^^^ y) = k) := lead_char _ _ hk hz.out (Or.inr hz'.out)
        clear hst hbe hz hz' c
        go_wp2
        go_region_held3 (fun w' => w'.cell? ⟨w.heap.size, 0, none⟩ = some (.int .u64 (hI x)) ∧ w'.cell? ⟨w.heap.size, 1, none⟩ = some (.int .u64 (lI x)) ∧ w'.cell? ⟨w.heap.size + 1, 0, none⟩ = some (.int .u64 (hI y)) ∧ w'.cell? ⟨w.heap.size + 1, 1, none⟩ = some (.int .u64 (lI y)) ∧ Below w.heap.size w w')
          (first
            | (obtain ⟨k1, k2, k3, k4, k9⟩ := ‹_ ∧ _›; exact ⟨keepc hb1 k1, keepc hb1 k2, keepc hb1 k3, keepc hb1 k4, keepb hb1 k9⟩)
            | exact ⟨X.1, X.2, Y.1, Y.2, hbl⟩)
          (first | (go_at_call 55; refine (rbit_any _ _ _).mono ?_; rintro e w1 ⟨rfl, hb1⟩))
        obtain ⟨k1, k2, k3, k4, kB⟩ := ‹_ ∧ _›
        go_wp2
        go_ret
        exact ⟨by rw [HL.out]; rfl, kB⟩
    · have hk8 : k = 128 := by omega
      have HL : Hid (leadN (x ^^^ y) = k) := lead_char _ _ hk hz.out (Or.inl hk8)
      have hd : decide ((k : Int) < 128) = false := by simpa using hlt
      clear hlt hz hk8
      go_wp2
      go_quiet (fail)
      go_wp2
      go_ret
      exact ⟨by rw [HL.out]; rfl, below_drewN hB _⟩

end Go.Proofs.Ytnaghiipfgdimaa
/-
  What the calls of the reference's chapter 3 do: Cut, Check, Of, Has, Within, Last, Parent, Meet, Cmp.
-/
namespace Go.Proofs.Ytnaghiipfgdimaa
open Go.RowKit
set_option linter.unusedSimpArgs false
set_option linter.unusedVariables false

set_option maxHeartbeats 1000000 in
theorem rcut_any (x : BitVec 128) (n : Int) (w : World) :
    Calls Try.prog 31 #[.agg #[.int .u64 (hI x), .int .u64 (lI x)], .int .i64 n] w fun e w' => e = .returned (.agg #[.int .u64 (hI (cutW x n)), .int .u64 (lI (cutW x n)), .int .i64 n]) ∧ Below w.heap.size w w' := by
  have hbl := fun o p => (bl2 w o p).drew
  unfold cutW
  go_enter Try.func31, Try.ntmps31
  go_wp2
  go_region_held3 (fun w' => w'.cell? ⟨w.heap.size, 0, none⟩ = some (.int .u64 (hI x)) ∧ w'.cell? ⟨w.heap.size, 1, none⟩ = some (.int .u64 (lI x)) ∧ w'.cell? ⟨w.heap.size + 1, 0, none⟩ = some (cv w' (w.heap.size + 1) 0) ∧ w'.cell? ⟨w.heap.size + 1, 1, none⟩ = some (cv w' (w.heap.size + 1) 1) ∧ w'.cell? ⟨w.heap.size + 1, 2, none⟩ = some (cv w' (w.heap.size + 1) 2) ∧ w'.frozen? ⟨w.heap.size + 1, 0, none⟩ = false ∧ w'.frozen? ⟨w.heap.size + 1, 1, none⟩ = false ∧ w'.frozen? ⟨w.heap.size + 1, 2, none⟩ = false ∧ Below w.heap.size w w')
    (first
      | (obtain ⟨k1, k2, k3, k4, k5, k6, k7, k8, k9⟩ := ‹_ ∧ _›; exact ⟨keepc hb2 k1, keepc hb2 k2, cv_of (keepc hb2 k3), cv_of (keepc hb2 k4), cv_of (keepc hb2 k5), keepf hb2 k3 k6, keepf hb2 k4 k7, keepf hb2 k5 k8, keepb hb2 k9⟩)
      | (obtain ⟨k1, k2, k3, k4, k5, k6, k7, k8, k9⟩ := ‹_ ∧ _›; exact ⟨keepc hb1 k1, keepc hb1 k2, cv_of (keepc hb1 k3), cv_of (keepc hb1 k4), cv_of (keepc hb1 k5), keepf hb1 k3 k6, keepf hb1 k4 k7, keepf hb1 k5 k8, keepb hb1 k9⟩)
      | (refine ⟨?_, ?_, cv_new ?_, cv_new ?_, cv_new ?_, ?_, ?_, ?_, ?_⟩ <;> first | (simp [go_sem, *]; done) | exact bset3 (by simp [*]) (by simp) _ _ _))
    (first | (go_at_call 33; refine (rmask_any _ _).mono ?_; rintro e w1 ⟨rfl, hb1⟩) | (go_at_call 32; refine (rand_any _ _ _).mono ?_; rintro e w2 ⟨rfl, hb2⟩))
  obtain ⟨-, -, -, -, -, -, -, -, kB⟩ := ‹_ ∧ _›
  have e0 : w2.cell? ⟨w.heap.size + 1, 0, none⟩ = some (.int .u64 0) := keepc hb2 (keepc hb1 (by simp [go_sem]))
  have e1 : w2.cell? ⟨w.heap.size + 1, 1, none⟩ = some (.int .u64 0) := keepc hb2 (keepc hb1 (by simp [go_sem]))
  have e2 : w2.cell? ⟨w.heap.size + 1, 2, none⟩ = some (.int .i64 0) := keepc hb2 (keepc hb1 (by simp [go_sem]))
  go_wp2
  exact bodyPost_ret (v := .agg #[.int .u64 (hI (x &&& maskW n)), .int .u64 (lI (x &&& maskW n)), .int .i64 n]) (by simp [results, Try.results31, go_sem, e0, e1, e2]) rfl ⟨rfl, kB⟩

def rhasB (x : BitVec 128) (n : Int) (y : BitVec 128) : Bool := decide (n ≤ ((leadN (x ^^^ y) : Nat) : Int))
set_option maxHeartbeats 1000000 in
theorem rhas_any (x : BitVec 128) (n : Int) (y : BitVec 128) (w : World) :
    Calls Try.prog 19 #[.agg #[.int .u64 (hI x), .int .u64 (lI x), .int .i64 n], .agg #[.int .u64 (hI y), .int .u64 (lI y)]] w fun e w' => e = .returned (.bool (rhasB x n y)) ∧ Below w.heap.size w w' := by
  have hbl := fun o p => (bl2 w o p).drew
  have KC := fun w => common_any x y w
  unfold rhasB
  generalize ((leadN (x ^^^ y) : Nat) : Int) = l at *
  go_enter Try.func19, Try.ntmps19
  go_wp2
  go_region_held3 (fun w' => w'.cell? ⟨w.heap.size, 0, none⟩ = some (.int .u64 (hI x)) ∧ w'.cell? ⟨w.heap.size, 1, none⟩ = some (.int .u64 (lI x)) ∧ w'.cell? ⟨w.heap.size, 2, none⟩ = some (.int .i64 n) ∧ w'.cell? ⟨w.heap.size + 1, 0, none⟩ = some (.int .u64 (hI y)) ∧ w'.cell? ⟨w.heap.size + 1, 1, none⟩ = some (.int .u64 (lI y)) ∧ Below w.heap.size w w')
    (first
      | (obtain ⟨k1, k2, k3, k4, k5, k9⟩ := ‹_ ∧ _›; exact ⟨keepc hb1 k1, keepc hb1 k2, keepc hb1 k3, keepc hb1 k4, keepc hb1 k5, keepb hb1 k9⟩)
      | (refine ⟨?_, ?_, ?_, ?_, ?_, ?_⟩ <;> first | (simp [go_sem, *]; done) | exact hbl _ _))
    (first | (go_at_call 36; refine (KC _).mono ?_; rintro e w1 ⟨rfl, hb1⟩))
  obtain ⟨-, -, -, -, -, kB⟩ := ‹_ ∧ _›
  go_wp2
  go_ret
  exact ⟨rfl, kB⟩

def rwithinB (x : BitVec 128) (n : Int) (y : BitVec 128) (m : Int) : Bool := decide (m ≤ n) && rhasB y m x
set_option maxHeartbeats 1000000 in
theorem rpcmp_any (x : BitVec 128) (n : Int) (y : BitVec 128) (m : Int) (w : World) :
    Calls Try.prog 46 #[.agg #[.int .u64 (hI x), .int .u64 (lI x), .int .i64 n], .agg #[.int .u64 (hI y), .int .u64 (lI y), .int .i64 m]] w fun e w' => e = .returned (.int .i64 (pcmpZ x n y m)) ∧ Below w.heap.size w w' := by
  have KC := fun w => rcmp_any x y w
  unfold pcmpZ cmpI
  generalize cmpZ x y = c at *
  by_cases h : c = 0
  · subst h
    rw [if_pos rfl]
    by_cases h1 : n < m
    · rw [if_pos h1]
      go_enter Try.func46, Try.ntmps46
      go_wp2_with fail
      refine (KC _).mono ?_
      rintro e w1 ⟨rfl, hb1⟩
      have kB := keepb hb1 (bl2 w _ _)
      obtain ⟨p0, p1, p2, -, -, -⟩ := ((atp_new w w.heap.size x n 38 rfl).below (bl1 _ (.cells #[.int .u64 (hI y), .int .u64 (lI y), .int .i64 m] 38))).below hb1
      obtain ⟨r0, r1, r2, -, -, -⟩ := (atp_new (w.alloc (.cells #[.int .u64 (hI x), .int .u64 (lI x), .int .i64 n] 38)) (w.heap.size + 1) y m 38 (by simp)).below hb1
      clear hb1 KC
      go_wp2
      go_ret
      exact ⟨rfl, kB⟩
    · rw [if_neg h1]
      by_cases h2 : m < n
      · rw [if_pos h2]
        go_enter Try.func46, Try.ntmps46
        go_wp2_with fail
        refine (KC _).mono ?_
        rintro e w1 ⟨rfl, hb1⟩
        have kB := keepb hb1 (bl2 w _ _)
        obtain ⟨p0, p1, p2, -, -, -⟩ := ((atp_new w w.heap.size x n 38 rfl).below (bl1 _ (.cells #[.int .u64 (hI y), .int .u64 (lI y), .int .i64 m] 38))).below hb1
        obtain ⟨r0, r1, r2, -, -, -⟩ := (atp_new (w.alloc (.cells #[.int .u64 (hI x), .int .u64 (lI x), .int .i64 n] 38)) (w.heap.size + 1) y m 38 (by simp)).below hb1
        clear hb1 KC
        go_wp2
        go_ret
        exact ⟨rfl, kB⟩
      · rw [if_neg h2]
        go_enter Try.func46, Try.ntmps46
        go_wp2_with fail
        refine (KC _).mono ?_
        rintro e w1 ⟨rfl, hb1⟩
        have kB := keepb hb1 (bl2 w _ _)
        obtain ⟨p0, p1, p2, -, -, -⟩ := ((atp_new w w.heap.size x n 38 rfl).below (bl1 _ (.cells #[.int .u64 (hI y), .int .u64 (lI y), .int .i64 m] 38))).below hb1
        obtain ⟨r0, r1, r2, -, -, -⟩ := (atp_new (w.alloc (.cells #[.int .u64 (hI x), .int .u64 (lI x), .int .i64 n] 38)) (w.heap.size + 1) y m 38 (by simp)).below hb1
        clear hb1 KC
        go_wp2
        go_ret
        exact ⟨rfl, kB⟩
  · have hb : (c != 0) = true := by simp [h]
    rw [if_neg h]
    go_enter Try.func46, Try.ntmps46
    go_wp2_with fail
    refine (KC _).mono ?_
    rintro e w1 ⟨rfl, hb1⟩
    have kB := keepb hb1 (bl2 w _ _)
    clear hb1 KC
    go_wp2
    go_ret
    exact ⟨rfl, kB⟩

theorem min3_comm (a b c : Int) : min (min c a) b = min (min a b) c := by omega
end Go.Proofs.Ytnaghiipfgdimaa
/-
  What the calls of the reference's chapter 3 do: Check, Of, Last.
-/
namespace Go.Proofs.Ytnaghiipfgdimaa
open Go.RowKit
set_option linter.unusedSimpArgs false
set_option linter.unusedVariables false

set_option maxHeartbeats 1000000 in
theorem rcheck_any (F : Int) (x : BitVec 128) (n : Int) (w : World) :
    Calls Try.prog 45 #[.int .i64 F, .agg #[.int .u64 (hI x), .int .u64 (lI x), .int .i64 n]] w fun e w' => e = .returned (.int .i64 (checkE F x n)) ∧ Below w.heap.size w w' := by
  have KL := fun w => isFamily_any F w
  unfold checkE
  cases h : fam F
  · rw [if_neg (by simp)]
    rw [h] at KL
    clear h
    go_enter Try.func45, Try.ntmps45
    go_wp2_with fail
    refine (KL _).mono ?_
    rintro e w1 ⟨rfl, rfl⟩
    go_wp2
    go_ret
    exact ⟨rfl, bl1 _ _⟩
  · rw [if_pos rfl]
    rw [h] at KL
    clear h
    have KM := fun n w => rmask_any n w
    by_cases h0 : n < 0
    · rw [if_pos h0]
      go_enter Try.func45, Try.ntmps45
      go_wp2_with fail
      refine (KL _).mono ?_
      rintro e w1 ⟨rfl, rfl⟩
      go_wp2
      go_ret
      exact ⟨rfl, bl1 _ _⟩
    by_cases h1 : F < n
    · rw [if_neg h0, if_pos h1]
      go_enter Try.func45, Try.ntmps45
      go_wp2_with fail
      refine (KL _).mono ?_
      rintro e w1 ⟨rfl, rfl⟩
      go_wp2
      go_ret
      exact ⟨rfl, bl1 _ _⟩
    rw [if_neg h0, if_neg h1]
    have KC := fun w => rand_any x (maskW n) w
    have KN := fun w => rmask_any n w
    unfold cutW
    generalize maskW n = k at *
    revert KC
    generalize x &&& k = c
    intro KC
    have hbl := fun o => (bl1 w o).drew
    rcases eqw c x with ⟨q1, q2, q3⟩ | ⟨q1, q3⟩ | ⟨q1, q2, q3⟩
    all_goals
      rw [q3]
      first | rw [if_pos rfl] | rw [if_neg (by simp)]
      clear q3
      go_enter Try.func45, Try.ntmps45
      go_wp2_with fail
      refine (KL _).mono ?_
      rintro e w1 ⟨rfl, rfl⟩
      clear KL KM
      go_wp2_with fail
      go_region_held3 (fun w' => w'.cell? ⟨w.heap.size, 0, none⟩ = some (.int .u64 (hI x)) ∧ w'.cell? ⟨w.heap.size, 1, none⟩ = some (.int .u64 (lI x)) ∧ w'.cell? ⟨w.heap.size, 2, none⟩ = some (.int .i64 n) ∧ Below w.heap.size w w')
        (first
          | (obtain ⟨k1, k2, k3, k9⟩ := ‹_ ∧ _›; exact ⟨keepc hb3 k1, keepc hb3 k2, keepc hb3 k3, keepb hb3 k9⟩)
          | (obtain ⟨k1, k2, k3, k9⟩ := ‹_ ∧ _›; exact ⟨keepc hb2 k1, keepc hb2 k2, keepc hb2 k3, keepb hb2 k9⟩)
          | (refine ⟨?_, ?_, ?_, ?_⟩ <;> first | (simp [go_sem, *]; done) | exact hbl _))
        (first | (go_at_call 33; refine (KN _).mono ?_; rintro e w2 ⟨rfl, hb2⟩) | (go_at_call 32; refine (KC _).mono ?_; rintro e w3 ⟨rfl, hb3⟩))
      obtain ⟨-, -, -, kB3⟩ := ‹_ ∧ _›
      go_wp2
      go_ret
      exact ⟨rfl, kB3⟩

theorem maskW_idem (x : BitVec 128) (n : Int) : cutW (cutW x n) n = cutW x n := by
  unfold cutW
  rw [BitVec.and_assoc, BitVec.and_self]
theorem ofE_eq (F : Int) (x : BitVec 128) (n : Int) (h : rightE F x = 0) : checkE F (cutW x n) n = if n < 0 then 13 else if F < n then 13 else 0 := by
  have hf : fam F = true := by
    unfold rightE at h
    split at h
    · assumption
    · omega
  unfold checkE
  simp [hf, maskW_idem]
def rlastW (F : Int) (x : BitVec 128) (n : Int) : BitVec 128 := x ||| (~~~(maskW n) &&& maskW F)
end Go.Proofs.Ytnaghiipfgdimaa
/-
  What the calls of law 2's within and decimal do.
-/
namespace Go.Proofs.Ytnaghiipfgdimaa
open Go.RowKit
set_option linter.unusedSimpArgs false
set_option linter.unusedVariables false

theorem tmod_ways (a n : Int) (h : 0 < n) : (a.tmod n < 0 ∧ a.tmod n + n = a % n) ∨ (0 ≤ a.tmod n ∧ a.tmod n = a % n) := by
  by_cases h0 : 0 ≤ a
  · right
    have : a.tmod n = a % n := Int.tmod_eq_emod_of_nonneg h0
    exact ⟨by rw [this]; exact Int.emod_nonneg _ (by omega), this⟩
  · have e := Int.tmod_eq_emod (a := a) (b := n)
    have b1 := Int.emod_nonneg a (b := n) (by omega)
    have b2 := Int.emod_lt_of_pos a h
    split at e
    · right; omega
    · left
      have : (n.natAbs : Int) = n := by omega
      omega
/-- The digits of m, written ahead of t. -/
def decF : Nat → Nat → List UInt8 → List UInt8
  | 0, _, t => t
  | f + 1, m, t => if m = 0 ∧ ¬ t = [] then t else decF f (m / 10) (UInt8.ofNat (48 + m % 10) :: t)
def decL (n : Nat) : List UInt8 := decF 20 n []

theorem cat_one (d : UInt8) (t : List UInt8) : ((⟨#[d]⟩ : ByteArray) ++ ⟨t.toArray⟩) = ⟨(d :: t).toArray⟩ := by
  apply ByteArray.ext
  simp
theorem decF_zero (f m : Nat) (t : List UInt8) (h : m = 0 ∧ ¬ t = []) : decF f m t = t := by
  cases f with
  | zero => rfl
  | succ f => exact if_pos h

theorem isEmpty_of (t : List UInt8) (S : ByteArray) (h : S = ⟨t.toArray⟩) : S.toList.isEmpty = t.isEmpty := by
  subst h
  rw [Lib.toList_data]
def sizeOf0 (b : Value) : Nat := match b with | .string s => if s.size = 0 then 1 else 0 | _ => 0

end Go.Proofs.Ytnaghiipfgdimaa
/-
  What the calls of the law's own helpers of chapter 3 do.
-/
namespace Go.Proofs.Ytnaghiipfgdimaa
open Go.RowKit
set_option linter.unusedSimpArgs false
set_option linter.unusedVariables false

def famZ (b : Bool) : Int := if b = true then 128 else 32
theorem famZ_fam (b : Bool) : fam (famZ b) = true := by cases b <;> decide
theorem famZ_bd (b : Bool) : 32 ≤ famZ b ∧ famZ b ≤ 128 := by cases b <;> decide
def someW (F : Int) (x : BitVec 128) (n : Int) : BitVec 128 := cutW (cutW x F) (n % (F + 1))
end Go.Proofs.Ytnaghiipfgdimaa
/-
  Plain facts on prefixes: what the program tells and what the reference tells is the same.
-/
namespace Go.Proofs.Ytnaghiipfgdimaa
open Go.RowKit
set_option linter.unusedSimpArgs false
set_option linter.unusedVariables false

theorem mask_zero (z : BitVec 128) (n : Int) (h0 : 0 ≤ n) (h1 : n ≤ 128) : z &&& maskW n = 0#128 ↔ z >>> (128 - n).toNat = 0#128 := by
  constructor
  · intro h
    apply BitVec.eq_of_getLsbD_eq
    intro j hj
    have := congrArg (fun y => y.getLsbD ((128 - n).toNat + j)) h
    simp only [BitVec.getLsbD_and, BitVec.getLsbD_zero] at this
    by_cases c : (128 - n).toNat + j < 128
    · rw [maskW_bit n _ c] at this
      have d : decide (128 - n.toNat ≤ (128 - n).toNat + j) = true := by simp; omega
      rw [d, Bool.and_true] at this
      rw [BitVec.getLsbD_ushiftRight, this, BitVec.getLsbD_zero]
    · rw [BitVec.getLsbD_ushiftRight, BitVec.getLsbD_of_ge _ _ (by omega), BitVec.getLsbD_zero]
  · intro h
    apply BitVec.eq_of_getLsbD_eq
    intro j hj
    rw [BitVec.getLsbD_and, maskW_bit n j hj, BitVec.getLsbD_zero]
    by_cases c : 128 - n.toNat ≤ j
    · have := congrArg (fun y => y.getLsbD (j - (128 - n).toNat)) h
      simp only [BitVec.getLsbD_ushiftRight, BitVec.getLsbD_zero] at this
      rw [show (128 - n).toNat + (j - (128 - n).toNat) = j by omega] at this
      rw [this, Bool.false_and]
    · simp [c]
theorem lead_mask (z : BitVec 128) (n : Int) (h0 : 0 ≤ n) (h1 : n ≤ 128) : n ≤ ((leadN z : Nat) : Int) ↔ z &&& maskW n = 0#128 := by
  rw [mask_zero z n h0 h1]
  have := lead_wide z (128 - n) (by omega) (by omega)
  constructor
  · intro h
    apply Classical.byContradiction
    intro c
    have := this.mpr c
    omega
  · intro h
    apply Classical.byContradiction
    intro c
    exact this.mp (by omega) h
theorem xor_mask (x y m : BitVec 128) : (x ^^^ y) &&& m = 0#128 ↔ x &&& m = y &&& m := by
  have e : (x ^^^ y) &&& m = (x &&& m) ^^^ (y &&& m) := by
    apply BitVec.eq_of_getLsbD_eq
    intro j hj
    simp only [BitVec.getLsbD_and, BitVec.getLsbD_xor]
    cases x.getLsbD j <;> cases y.getLsbD j <;> cases m.getLsbD j <;> rfl
  rw [e]
  constructor
  · intro h
    have := congrArg (fun z => z ^^^ (y &&& m)) h
    simpa [BitVec.xor_assoc] using this
  · intro h
    rw [h, BitVec.xor_self]
theorem has_eq (x : BitVec 128) (n : Int) (y : BitVec 128) (h0 : 0 ≤ n) (h1 : n ≤ 128) (hx : cutW x n = x) : rhasB x n y = (cutW y n == x) := by
  unfold rhasB
  rw [Bool.eq_iff_iff, decide_eq_true_iff, beq_iff_eq, lead_mask _ n h0 h1, xor_mask]
  unfold cutW at *
  rw [hx]
  exact ⟨fun h => h.symm, fun h => h.symm⟩
theorem within_eq (x : BitVec 128) (n : Int) (y : BitVec 128) (m : Int) (h0 : 0 ≤ m) (h1 : m ≤ 128) (hy : cutW y m = y) : rwithinB x n y m = withinB x n y m := by
  unfold rwithinB withinB
  rw [has_eq y m x h0 h1 hy]
theorem mask_sub (n m : Int) (h0 : 0 ≤ n) (h : n ≤ m) : maskW n &&& maskW m = maskW n := by
  apply BitVec.eq_of_getLsbD_eq
  intro j hj
  rw [BitVec.getLsbD_and, maskW_bit n j hj, maskW_bit m j hj]
  by_cases c : 128 - n.toNat ≤ j
  · have : 128 - m.toNat ≤ j := by omega
    simp [c, this]
  · simp [c]
theorem last_eq (F : Int) (x : BitVec 128) (n : Int) (h0 : 0 ≤ n) (h : n ≤ F) : rlastW F x n = lastW F x n := by
  unfold rlastW lastW
  congr 1
  apply BitVec.eq_of_getLsbD_eq
  intro j hj
  rw [BitVec.getLsbD_and, BitVec.getLsbD_xor, BitVec.getLsbD_not, maskW_bit n j hj, maskW_bit F j hj]
  by_cases c : 128 - n.toNat ≤ j
  · have : 128 - F.toNat ≤ j := by omega
    simp [c, this]
  · simp [c, hj]
theorem cut_cut (x : BitVec 128) (n m : Int) (h0 : 0 ≤ n) (h : n ≤ m) : cutW (cutW x m) n = cutW x n := by
  unfold cutW
  rw [BitVec.and_assoc, BitVec.and_comm (maskW m), mask_sub n m h0 h]
theorem cut_cut2 (x : BitVec 128) (n m : Int) (h0 : 0 ≤ n) (h : n ≤ m) : cutW (cutW x n) m = cutW x n := by
  unfold cutW
  rw [BitVec.and_assoc, mask_sub n m h0 h]
/-- A right prefix of a family. -/
def Rt (F : Int) (x : BitVec 128) (n : Int) : Prop := 0 ≤ n ∧ n ≤ F ∧ cutW x n = x
theorem some_rt (F : Int) (x : BitVec 128) (n : Int) (h : 0 ≤ F) : Rt F (someW F x n) (n % (F + 1)) := by
  have a := Int.emod_nonneg n (b := F + 1) (by omega)
  have b := Int.emod_lt_of_pos n (b := F + 1) (by omega)
  refine ⟨a, by omega, ?_⟩
  unfold someW
  exact maskW_idem _ _
end Go.Proofs.Ytnaghiipfgdimaa
