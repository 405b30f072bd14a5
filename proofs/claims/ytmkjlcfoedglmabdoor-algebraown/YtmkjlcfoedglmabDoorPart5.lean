/-
  Part 5 of the proof: 12 texts, one behind the other.
-/
import Derived.Test.YtmkjlcfoedglmabDoorPart4
import Derived.Test.YtmkjlcfoedglmabDoorPart1
import Derived.Test.YtmkjlcfoedglmabDoorPart2
import Derived.Deep.QuietTactic
import Derived.BigQuiet
import Derived.Test.YtmkjlcfoedglmabDoorPart3
import Derived.Lib.Strings
import Derived.Laws.IdiomStrings
/-
  What the calls of package table's isHop, byPrefix, checkRoute and checkRoutes do.
-/
namespace Go.Proofs.YtmkjlcfoedglmabDoor
open Go.RowKit
set_option linter.unusedSimpArgs false
set_option linter.unusedVariables false

/-- A route: its prefix, its next hop. -/
abbrev Rte := (BitVec 128 × Int) × Int
def AtR (w : World) (B : Nat) (x : BitVec 128) (n h : Int) : Prop := w.cell? ⟨B, 0, none⟩ = some (.int .u64 (hI x)) ∧ w.cell? ⟨B, 1, none⟩ = some (.int .u64 (lI x)) ∧ w.cell? ⟨B, 2, none⟩ = some (.int .i64 n) ∧ w.cell? ⟨B, 3, none⟩ = some (.int .i64 h)
theorem AtR.below {w w' : World} {B : Nat} {x : BitVec 128} {n h : Int} (g : AtR w B x n h) (hb : Below w.heap.size w w') : AtR w' B x n h := by
  obtain ⟨h0, h1, h2, h3⟩ := g
  exact ⟨keepc hb h0, keepc hb h1, keepc hb h2, keepc hb h3⟩
theorem atr_new (w : World) (B : Nat) (x : BitVec 128) (n h : Int) (T : TypeId) (e : B = w.heap.size) : AtR (w.alloc (.cells #[.int .u64 (hI x), .int .u64 (lI x), .int .i64 n, .int .i64 h] T)) B x n h := by
  subst e
  refine ⟨?_, ?_, ?_, ?_⟩ <;> simp [go_sem]
/-- A row of routes. -/
def rowR : List Rte → List Value
  | [] => []
  | r :: l => .int .u64 (hI r.1.1) :: .int .u64 (lI r.1.1) :: .int .i64 r.1.2 :: .int .i64 r.2 :: rowR l
theorem rowR_get : ∀ (l : List Rte) (j : Nat) (hj : j < l.length), (rowR l)[j * 4]? = some (.int .u64 (hI l[j].1.1)) ∧ (rowR l)[j * 4 + 1]? = some (.int .u64 (lI l[j].1.1)) ∧ (rowR l)[j * 4 + 2]? = some (.int .i64 l[j].1.2) ∧ (rowR l)[j * 4 + 3]? = some (.int .i64 l[j].2) := by
  intro l
  induction l with
  | nil => intro j hj; simp at hj
  | cons p l ih =>
    intro j hj
    cases j with
    | zero => simp [rowR]
    | succ j =>
      have := ih j (by simpa using hj)
      rw [show (j + 1) * 4 = j * 4 + 4 by omega, show j * 4 + 4 + 1 = j * 4 + 1 + 4 by omega, show j * 4 + 4 + 2 = j * 4 + 2 + 4 by omega, show j * 4 + 4 + 3 = j * 4 + 3 + 4 by omega]
      simpa [rowR] using this
/-- A list of routes in memory, whosever it is. -/
def RwR (W : World) (v : Value) (l : List Rte) : Prop := ∃ ao c, v = .slice ao l.length c ∧ (l = [] ∨ ∃ b off, ao = some ⟨b, off, none⟩ ∧ ∀ j u, (rowR l)[j]? = some u → W.cell? ⟨b, off + j, none⟩ = some u)
theorem RwR.below {W W' : World} {v : Value} {l : List Rte} (h : RwR W v l) (hb : Below W.heap.size W W') : RwR W' v l := by
  obtain ⟨ao, c, e, h⟩ := h
  refine ⟨ao, c, e, h.imp id ?_⟩
  rintro ⟨b, off, e', hc⟩
  exact ⟨b, off, e', fun j u hj => keepc hb (hc j u hj)⟩
theorem rwr_cells {W : World} {b off : Nat} {l : List Rte} (h : ∀ j u, (rowR l)[j]? = some u → W.cell? ⟨b, off + j, none⟩ = some u) (k : Nat) (hk : k < l.length) :
    W.cell? ⟨b, off + k * 4, none⟩ = some (.int .u64 (hI l[k].1.1)) ∧ W.cell? ⟨b, off + k * 4 + 1, none⟩ = some (.int .u64 (lI l[k].1.1)) ∧ W.cell? ⟨b, off + k * 4 + 2, none⟩ = some (.int .i64 l[k].1.2) ∧ W.cell? ⟨b, off + k * 4 + 3, none⟩ = some (.int .i64 l[k].2) := by
  obtain ⟨a, c, d, e⟩ := rowR_get l k hk
  exact ⟨h _ _ a, h _ _ c, h _ _ d, h _ _ e⟩
def hopB (n : Int) : Bool := decide (1 ≤ n) && decide (n ≤ 65535)
theorem isHop_any (n : Int) (w : World) : Calls Tryd.prog 83 #[.int .i64 n] w fun e w' => e = .returned (.bool (hopB n)) ∧ w' = w := by
  unfold hopB
  go_enter Tryd.func83, Tryd.ntmps83
  by_cases h1 : 1 ≤ n
  · by_cases h2 : n ≤ 65535
    · go_wp2
      go_ret
      exact ⟨by simp [h1, h2], rfl⟩
    · go_wp2
      go_ret
      exact ⟨by simp [h1, h2], rfl⟩
  · go_wp2
    go_ret
    exact ⟨by rw [decide_eq_false (by omega : ¬ 1 ≤ n)]; rfl, rfl⟩
theorem hidR {p : Prop} (h : p) : Hid p := h
theorem byPrefix_any (x : BitVec 128) (n h : Int) (y : BitVec 128) (m g : Int) (w : World) :
    Calls Tryd.prog 53 #[.agg #[.int .u64 (hI x), .int .u64 (lI x), .int .i64 n, .int .i64 h], .agg #[.int .u64 (hI y), .int .u64 (lI y), .int .i64 m, .int .i64 g]] w fun e w' => e = .returned (.int .i64 (pcmpZ x n y m)) ∧ Below w.heap.size w w' := by
  have KC := fun w => pcmp_any x n y m w
  generalize pcmpZ x n y m = z at *
  have A1 := atr_new w w.heap.size x n h 50 rfl
  have b1 := bl1 w (.cells #[.int .u64 (hI x), .int .u64 (lI x), .int .i64 n, .int .i64 h] 50)
  have b2 := bl1 (w.alloc (.cells #[.int .u64 (hI x), .int .u64 (lI x), .int .i64 n, .int .i64 h] 50)) (.cells #[.int .u64 (hI y), .int .u64 (lI y), .int .i64 m, .int .i64 g] 50)
  obtain ⟨p0, p1, p2, -⟩ := A1.below b2
  obtain ⟨q0, q1, q2, -⟩ := atr_new (w.alloc (.cells #[.int .u64 (hI x), .int .u64 (lI x), .int .i64 n, .int .i64 h] 50)) (w.heap.size + 1) y m g 50 (by simp)
  have HB := hidR (keepb b2 b1)
  clear A1 b1 b2
  go_enter Tryd.func53, Tryd.ntmps53
  go_wp2_with fail
  refine (KC _).mono ?_
  rintro e w1 ⟨rfl, hb⟩
  have kB := keepb hb HB.out
  clear KC hb HB p0 p1 p2 q0 q1 q2
  go_wp2
  go_ret
  exact ⟨rfl, kB⟩
/-- The error of one route. -/
def rteE (F : Int) (r : Rte) : Int := if checkE F r.1.1 r.1.2 = 0 then (if hopB r.2 = true then 0 else 15) else checkE F r.1.1 r.1.2
set_option maxHeartbeats 2000000 in
theorem checkRoute_any (F : Int) (x : BitVec 128) (n h : Int) (w : World) :
    Calls Tryd.prog 70 #[.int .i64 F, .agg #[.int .u64 (hI x), .int .u64 (lI x), .int .i64 n, .int .i64 h]] w fun e w' => e = .returned (.int .i64 (rteE F ((x, n), h))) ∧ Below w.heap.size w w' := by
  have KC := fun w => pcheck_any F x n w
  have KH := fun w => isHop_any h w
  unfold rteE
  dsimp only
  revert KC KH
  generalize checkE F x n = ce
  generalize hopB h = hp
  intro KC KH
  obtain ⟨p0, p1, p2, p3⟩ := atr_new w w.heap.size x n h 50 rfl
  have A1 := hidR (atr_new w w.heap.size x n h 50 rfl)
  have b1 := hidR (bl1 w (.cells #[.int .u64 (hI x), .int .u64 (lI x), .int .i64 n, .int .i64 h] 50))
  go_enter Tryd.func70, Tryd.ntmps70
  go_wp2_with fail
  refine (KC _).mono ?_
  rintro e w1 ⟨rfl, hb⟩
  have kB := keepb hb b1.out
  obtain ⟨q0, q1, q2, q3⟩ := A1.out.below hb
  clear KC hb A1 b1 p0 p1 p2 p3
  by_cases hc : ce = 0
  · subst hc
    go_wp2_with fail
    refine (KH _).mono ?_
    rintro e w2 ⟨rfl, rfl⟩
    clear KH q0 q1 q2 q3
    cases hp
    · go_wp2
      go_ret
      exact ⟨by simp, kB⟩
    · go_wp2
      go_ret
      exact ⟨by simp, kB⟩
  · have hn : (ce != 0) = true := by simp [hc]
    go_wp2
    go_ret
    exact ⟨by first | rfl | rw [if_neg hc], kB⟩
/-- The first error of a list of routes. -/
def rtsG (F : Int) : List Rte → Int
  | [] => 0
  | r :: l => if rteE F r = 0 then rtsG F l else rteE F r
def rtsE (F : Int) (l : List Rte) : Int := if fam F = true then (if 1048576 < l.length then 16 else rtsG F l) else 11
theorem rts_drop (F : Int) (l : List Rte) (k : Nat) (hk : k < l.length) : rtsG F (l.drop k) = if rteE F l[k] = 0 then rtsG F (l.drop (k + 1)) else rteE F l[k] := by
  rw [List.drop_eq_getElem_cons hk]
  rfl
set_option maxHeartbeats 2000000 in
theorem checkRoutes_any (F : Int) (v : Value) (l : List Rte) (w : World) (hv : RwR w v l) :
    Calls Tryd.prog 52 #[.int .i64 F, v] w fun e w' => e = .returned (.int .i64 (rtsE F l)) ∧ Below w.heap.size w w' := by
  obtain ⟨ao, c, rfl, hv⟩ := hv
  have KL := fun w => alast_any F w
  unfold lastV lastE at KL
  unfold rtsE
  cases hf : fam F
  · rw [hf, if_neg (by simp), if_neg (by simp), hI_zero, lI_zero] at KL
    rw [if_neg (by simp)]
    clear hf hv
    go_enter Tryd.func52, Tryd.ntmps52
    go_wp2_with fail
    refine (KL _).mono ?_
    rintro e w1 ⟨rfl, hb⟩
    clear KL
    go_wp2
    go_ret
    exact ⟨rfl, hb.alloc hb.size _⟩
  · rw [hf, if_pos rfl, if_pos rfl] at KL
    rw [if_pos rfl]
    have HV := hidR hv
    clear hf hv
    generalize maskW F = mk at *
    by_cases hl : 1048576 < l.length
    · rw [if_pos hl]
      have h1 : (1048576 : Int) < (l.length : Int) := by omega
      go_enter Tryd.func52, Tryd.ntmps52
      go_wp2_with fail
      refine (KL _).mono ?_
      rintro e w1 ⟨rfl, hb⟩
      clear KL
      go_wp2
      go_ret
      exact ⟨rfl, hb.alloc hb.size _⟩
    · rw [if_neg hl]
      have h1 : ¬ (1048576 : Int) < (l.length : Int) := by omega
      go_enter Tryd.func52, Tryd.ntmps52
      go_wp2_with fail
      refine (KL _).mono ?_
      rintro e w1 ⟨rfl, hb⟩
      have kB := hb.alloc hb.size (.cells #[.int .u64 (hI mk), .int .u64 (lI mk)] 34)
      clear KL hb
      go_wp2_with fail
      go_loopw [23] (fun i wr => ∃ k : Nat, k ≤ l.length ∧ i = .int .i64 k ∧ Hid (rtsG F (l.drop k) = rtsG F l) ∧ Below w.heap.size w wr) (fun i _ => l.length - (intOf i).toNat)
      case atStart => exact ⟨0, by omega, rfl, (rfl : rtsG F (l.drop 0) = rtsG F l), kB⟩
      case round =>
        clear kB
        obtain ⟨k, hk, rfl, hG, hB⟩ := hrel
        by_cases hlt : (k : Int) < (l.length : Int)
        · have hks : k < l.length := by omega
          rcases HV.out with h | ⟨b, off, rfl, hc⟩
          · rw [h] at hks; simp at hks
          · obtain ⟨x0, x1, x2, x3⟩ := rwr_cells hc k hks
            have x0 := keepc hB x0
            have x1 := keepc hB x1
            have x2 := keepc hB x2
            have x3 := keepc hB x3
            have KC := fun w => checkRoute_any F l[k].1.1 l[k].1.2 l[k].2 w
            have HD := hidR (rts_drop F l k hks)
            have eR : ((l[k].1.1, l[k].1.2), l[k].2) = l[k] := rfl
            rw [eR] at KC
            clear hc HV eR
            revert KC HD
            generalize rteE F l[k] = ce
            generalize l[k].1.1 = px at *
            generalize l[k].1.2 = pn at *
            generalize l[k].2 = ph at *
            intro KC HD
            have P0 := atr_new wr wr.heap.size px pn ph 50 rfl
            obtain ⟨p0, p1, p2, p3⟩ := id P0
            go_wp2_with fail
            refine (KC _).mono ?_
            rintro e w2 ⟨rfl, hb⟩
            have kB2 := keepb hb (hB.alloc hB.size (.cells #[.int .u64 (hI px), .int .u64 (lI px), .int .i64 pn, .int .i64 ph] 50))
            clear hb KC x0 x1 x2 x3 p0 p1 p2 p3 P0
            by_cases hce : ce = 0
            · subst hce
              have hk2 : IntKind.i64.wrap ((k : Int) + 1) = (k : Int) + 1 := by rw [IntKind.wrap_i64]; omega
              go_wp2
              go_roundw
              case rel =>
                refine ⟨k + 1, by omega, by simp, ?_, kB2⟩
                show rtsG F (l.drop (k + 1)) = rtsG F l
                rw [← hG.out, HD.out]; simp
              case measure => simp [intOf]; omega
            · have hn : (ce != 0) = true := by simp [hce]
              have HE : Hid (rtsG F l = ce) := by show _ = _; rw [← hG.out, HD.out, if_neg hce]
              go_wp2
              go_ret
              exact ⟨by rw [HE.out]; rfl, kB2⟩
        · have hd : decide ((k : Int) < (l.length : Int)) = false := by simpa using hlt
          have HE : Hid (rtsG F l = 0) := by
            show _ = _
            rw [← hG.out, List.drop_eq_nil_of_le (by omega)]; rfl
          go_wp2
          go_ret
          exact ⟨by rw [HE.out]; rfl, hB⟩
end Go.Proofs.YtmkjlcfoedglmabDoor
/-
  What the calls of package prefix's Meet, Last, Kids do, of right prefixes.
-/
namespace Go.Proofs.YtmkjlcfoedglmabDoor
open Go.RowKit
set_option linter.unusedSimpArgs false
set_option linter.unusedVariables false

theorem run_min3 {P : Program} (w : World) (ts : Array TypeId) (t : TypeId) (x y z : Int) :
    (Builtin.min_ ts t #[.int .i64 x, .int .i64 y, .int .i64 z]).run P w = .ok (.int .i64 (min (min x y) z)) w := by
  have e : ∀ x y : Int, (if y < x then y else x) = min x y := fun x y => by
    rw [Int.min_def]
    split <;> split <;> omega
  simp [Builtin.min_, Builtin.min2, e]
def meetN (x : BitVec 128) (n : Int) (y : BitVec 128) (m : Int) : Int := min (min n m) ((leadN (x ^^^ y) : Nat) : Int)
end Go.Proofs.YtmkjlcfoedglmabDoor
/-
  What each call of turnpikeref1's Add and Sub does.
-/
namespace Go.Proofs.YtmkjlcfoedglmabDoor
open Go.RowKit
set_option linter.unusedSimpArgs false
set_option linter.unusedVariables false

/-- The sum of the upper halves, as it wraps. -/
def hs (x y : BitVec 128) : Int := IntKind.u64.wrap (hI x + hI y)
theorem wrapu (n : Int) : IntKind.u64.wrap n = n % 18446744073709551616 := by simp [IntKind.wrap, IntKind.bits, IntKind.signed]
theorem lo_sum (x y : BitVec 128) : IntKind.u64.wrap (lI x + lI y) = lI (x + y) := by
  rw [wrapu, lIN, lIN, lIN, BitVec.toNat_add]; omega
theorem hi_sum1 (x y : BitVec 128) (h : lI (x + y) < lI x) : IntKind.u64.wrap (hs x y + 1) = hI (x + y) := by
  unfold hs; rw [wrapu, wrapu]; rw [lIN, lIN, BitVec.toNat_add] at h; rw [hIN, hIN, hIN, BitVec.toNat_add]
  have := x.isLt; have := y.isLt; omega
theorem hi_sum0 (x y : BitVec 128) (h : ¬ lI (x + y) < lI x) : IntKind.u64.wrap (hs x y) = hI (x + y) := by
  unfold hs; rw [wrapu, wrapu]; rw [lIN, lIN, BitVec.toNat_add] at h; rw [hIN, hIN, hIN, BitVec.toNat_add]
  have := x.isLt; have := y.isLt; omega
theorem over_of (x y : BitVec 128) : overB x y = (decide (hs x y < hI x) || decide (hI (x + y) < hs x y)) := by
  rw [Bool.eq_iff_iff]; simp only [Bool.or_eq_true, decide_eq_true_eq]
  unfold overB hs; simp only [decide_eq_true_eq]; rw [wrapu, hIN, hIN, hIN, BitVec.toNat_add]
  have := x.isLt; have := y.isLt; omega

/-- The difference of the upper halves, as it wraps. -/
def hd (x y : BitVec 128) : Int := IntKind.u64.wrap (hI x - hI y)
theorem lo_dif (x y : BitVec 128) : IntKind.u64.wrap (lI x - lI y) = lI (x - y) := by
  rw [wrapu, lIN, lIN, lIN, BitVec.toNat_sub]
  have := x.isLt; have := y.isLt; omega
theorem hi_dif1 (x y : BitVec 128) (h : lI x < lI y) : IntKind.u64.wrap (hd x y - 1) = hI (x - y) := by
  unfold hd; rw [wrapu, wrapu]; rw [lIN, lIN] at h; rw [hIN, hIN, hIN, BitVec.toNat_sub]
  have := x.isLt; have := y.isLt; omega
theorem hi_dif0 (x y : BitVec 128) (h : ¬ lI x < lI y) : IntKind.u64.wrap (hd x y) = hI (x - y) := by
  unfold hd; rw [wrapu, wrapu]; rw [lIN, lIN] at h; rw [hIN, hIN, hIN, BitVec.toNat_sub]
  have := x.isLt; have := y.isLt; omega
theorem cmp_under (x y : BitVec 128) : decide (cmpZ x y < 0) = underB x y := by
  rw [Bool.eq_iff_iff]; simp only [decide_eq_true_eq]; exact cmp_lt x y

end Go.Proofs.YtmkjlcfoedglmabDoor
/-
  A region that draws its order and whose calls make memory: one walk of the text's order, in a class of worlds.
-/
namespace Go.Proofs.YtmkjlcfoedglmabDoor
open Go.RowKit
set_option linter.unusedSimpArgs false
set_option linter.unusedVariables false

theorem q_run {P : Program} {ops : Array Oper} {C : World → Prop} {Q : Act → Prop} {a : Act} {o : Oper} {rest : List Oper} {v : Value}
    (hw : Region.wanted o (yielded ops a.tmps) = true) (h : ∀ w, C w → (execOp a.eval o).run P w = .ok (.value v) w) (k : wpQuiet P ops C Q rest (a.put o.dst v)) : wpQuiet P ops C Q (o :: rest) a := by
  refine wpQuiet_step (fun K hK => ?_)
  rw [if_pos hw]
  refine ⟨v, fun w hC => ?_, hK _ k⟩
  unfold Oper.quietAt; rw [h w hC]; exact ⟨rfl, rfl⟩
theorem q_skip {P : Program} {ops : Array Oper} {C : World → Prop} {Q : Act → Prop} {a : Act} {o : Oper} {rest : List Oper}
    (hw : Region.wanted o (yielded ops a.tmps) = false) (k : wpQuiet P ops C Q rest (a.put o.dst undef)) : wpQuiet P ops C Q (o :: rest) a := by
  refine wpQuiet_step (fun K hK => ?_)
  rw [if_neg (by rw [hw]; decide)]
  exact hK _ k
theorem q_call {P : Program} {ops : Array Oper} {C : World → Prop} {Q : Act → Prop} {a : Act} {o : Oper} {rest : List Oper} {v : Value} {f : FuncId} {args : Array Value}
    (hw : Region.wanted o (yielded ops a.tmps) = true) (h : ∀ w, C w → (execOp a.eval o).run P w = .ok (.enter f args) w) (hc : ∀ w, C w → Calls P f args w fun e w' => e = .returned v ∧ C w') (k : wpQuiet P ops C Q rest (a.put o.dst v)) : wpQuiet P ops C Q (o :: rest) a := by
  refine wpQuiet_step (fun K hK => ?_)
  rw [if_pos hw]
  refine ⟨v, fun w hC => ?_, hK _ k⟩
  unfold Oper.quietAt; rw [h w hC]; exact ⟨rfl, hc w hC⟩
theorem q_region {P : Program} {C : World → Prop} {id : Nat} {Q : Exit → Act → World → Prop} {a : Act} {w : World} {l : List Oper} (hm : P.follows .mixedOrders = true) (hB : Region.lexB .any l.toArray = true) (hC : C w.drew)
    (h : wpQuiet P l.toArray C (fun a' => ∀ w', C w' → Q .normal a' w') l a) : (Code.region id l.toArray true).wp P Q a w :=
  wp_region_quiet (C := C) hm hB hC (by simpa using h)
end Go.Proofs.YtmkjlcfoedglmabDoor
/-
  What the calls of turnpikeref2's IsFamily, Right, Last, one, Next and Prev do.
-/
namespace Go.Proofs.YtmkjlcfoedglmabDoor
open Go.RowKit
set_option linter.unusedSimpArgs false
set_option linter.unusedVariables false

theorem isFamily_any (F : Int) (w : World) :
    Calls Tryd.prog 33 #[.int .i64 F] w fun e w' => e = .returned (.bool (fam F)) ∧ w' = w := by
  unfold fam
  by_cases h1 : F = 32
  · subst h1
    go_enter Tryd.func33, Tryd.ntmps33
    go_wp2
    go_ret
    exact ⟨rfl, rfl⟩
  · have b1 : (F == 32) = false := by simp [h1]
    have b2 : (F == 128) = decide (F = 128) := by rw [Bool.eq_iff_iff]; simp
    rw [show decide (F = 32) = false by simp [h1], Bool.false_or]
    go_enter Tryd.func33, Tryd.ntmps33
    go_wp2
    go_ret
    exact ⟨rfl, rfl⟩

theorem put0K (i : Int) (w : World) (h0 : 0 ≤ i) (h1 : i ≤ 127) :
    Calls Tryd.prog 30 #[.agg #[.int .u64 0, .int .u64 0], .int .i64 i, .int .i64 1] w fun e w' => e = .returned (.agg #[.int .u64 (hI (putW 0#128 i 1)), .int .u64 (lI (putW 0#128 i 1))]) ∧ Below w.heap.size w w' := by
  have h := put_any 0#128 i 1 w (Or.inr rfl) h0 h1
  rw [hI_zero, lI_zero] at h
  exact h
theorem three (y x : BitVec 128) : ((hI y == hI x) = true ∧ (lI y == lI x) = true ∧ y = x) ∨ ((hI y == hI x) = false ∧ ¬ y = x) ∨ ((hI y == hI x) = true ∧ (lI y == lI x) = false ∧ ¬ y = x) := by
  by_cases e : y = x
  · exact Or.inl ⟨by simp [e], by simp [e], e⟩
  · by_cases e1 : hI y = hI x
    · exact Or.inr (Or.inr ⟨by simp [e1], by simp; exact fun e2 => e (eq_ints e1 e2), e⟩)
    · exact Or.inr (Or.inl ⟨by simp [e1], e⟩)
theorem three0 (y : BitVec 128) : ((hI y == 0) = true ∧ (lI y == 0) = true ∧ y = 0#128) ∨ ((hI y == 0) = false ∧ ¬ y = 0#128) ∨ ((hI y == 0) = true ∧ (lI y == 0) = false ∧ ¬ y = 0#128) := by
  have h := three y 0#128
  rw [hI_zero, lI_zero] at h; exact h

end Go.Proofs.YtmkjlcfoedglmabDoor
/-
  What each call of turnpikeref1's Common, Lead, fits, Field and With does.
-/
namespace Go.Proofs.YtmkjlcfoedglmabDoor
open Go.RowKit
set_option linter.unusedSimpArgs false
set_option linter.unusedVariables false

/-- The variable at block B reads as the word x. -/
def Rd (w : World) (B : Nat) (x : BitVec 128) : Prop := w.cell? ⟨B, 0, none⟩ = some (.int .u64 (hI x)) ∧ w.cell? ⟨B, 1, none⟩ = some (.int .u64 (lI x))
theorem Rd.keep {W w' : World} {B : Nat} {x : BitVec 128} (h : Rd W B x) (hb : Below W.heap.size W w') : Rd w' B x := ⟨keepc hb h.1, keepc hb h.2⟩
theorem Rd.alloc {W : World} {B : Nat} {x : BitVec 128} (h : Rd W B x) (o : Obj) : Rd (W.alloc o) B x := h.keep (bl1 W o)
theorem Rd.new (W : World) (x : BitVec 128) (t : TypeId) : Rd (W.alloc (.cells #[.int .u64 (hI x), .int .u64 (lI x)] t)) W.heap.size x := by
  constructor <;> simp [go_sem]
/-- The word that the variable at block B holds, under a name that no rule opens. -/
def rdW (w : World) (B : Nat) : BitVec 128 := mkW (intOf (cv w B 0)) (intOf (cv w B 1))
theorem Rd.word {w : World} {B : Nat} {x : BitVec 128} (h : Rd w B x) : rdW w B = x := by
  unfold rdW cv; rw [h.1, h.2]; exact mk_ints x

theorem Rd.self {w : World} {B : Nat} {x : BitVec 128} (h : Rd w B x) : Rd w B (rdW w B) := by rw [h.word]; exact h

end Go.Proofs.YtmkjlcfoedglmabDoor
/-
  What the calls of the reference's chapter 3 do: Cut, Check, Of, Has, Within, Last, Parent, Meet, Cmp.
-/
namespace Go.Proofs.YtmkjlcfoedglmabDoor
open Go.RowKit
set_option linter.unusedSimpArgs false
set_option linter.unusedVariables false

set_option maxHeartbeats 1000000 in
theorem rcut_any (x : BitVec 128) (n : Int) (w : World) :
    Calls Tryd.prog 40 #[.agg #[.int .u64 (hI x), .int .u64 (lI x)], .int .i64 n] w fun e w' => e = .returned (.agg #[.int .u64 (hI (cutW x n)), .int .u64 (lI (cutW x n)), .int .i64 n]) ∧ Below w.heap.size w w' := by
  have hbl := fun o p => (bl2 w o p).drew
  unfold cutW
  go_enter Tryd.func40, Tryd.ntmps40
  go_wp2
  go_region_held3 (fun w' => w'.cell? ⟨w.heap.size, 0, none⟩ = some (.int .u64 (hI x)) ∧ w'.cell? ⟨w.heap.size, 1, none⟩ = some (.int .u64 (lI x)) ∧ w'.cell? ⟨w.heap.size + 1, 0, none⟩ = some (cv w' (w.heap.size + 1) 0) ∧ w'.cell? ⟨w.heap.size + 1, 1, none⟩ = some (cv w' (w.heap.size + 1) 1) ∧ w'.cell? ⟨w.heap.size + 1, 2, none⟩ = some (cv w' (w.heap.size + 1) 2) ∧ w'.frozen? ⟨w.heap.size + 1, 0, none⟩ = false ∧ w'.frozen? ⟨w.heap.size + 1, 1, none⟩ = false ∧ w'.frozen? ⟨w.heap.size + 1, 2, none⟩ = false ∧ Below w.heap.size w w')
    (first
      | (obtain ⟨k1, k2, k3, k4, k5, k6, k7, k8, k9⟩ := ‹_ ∧ _›; exact ⟨keepc hb2 k1, keepc hb2 k2, cv_of (keepc hb2 k3), cv_of (keepc hb2 k4), cv_of (keepc hb2 k5), keepf hb2 k3 k6, keepf hb2 k4 k7, keepf hb2 k5 k8, keepb hb2 k9⟩)
      | (obtain ⟨k1, k2, k3, k4, k5, k6, k7, k8, k9⟩ := ‹_ ∧ _›; exact ⟨keepc hb1 k1, keepc hb1 k2, cv_of (keepc hb1 k3), cv_of (keepc hb1 k4), cv_of (keepc hb1 k5), keepf hb1 k3 k6, keepf hb1 k4 k7, keepf hb1 k5 k8, keepb hb1 k9⟩)
      | (refine ⟨?_, ?_, cv_new ?_, cv_new ?_, cv_new ?_, ?_, ?_, ?_, ?_⟩ <;> first | (simp [go_sem, *]; done) | exact bset3 (by simp [*]) (by simp) _ _ _))
    (first | (go_at_call 42; refine (rmask_any _ _).mono ?_; rintro e w1 ⟨rfl, hb1⟩) | (go_at_call 41; refine (rand_any _ _ _).mono ?_; rintro e w2 ⟨rfl, hb2⟩))
  obtain ⟨-, -, -, -, -, -, -, -, kB⟩ := ‹_ ∧ _›
  have e0 : w2.cell? ⟨w.heap.size + 1, 0, none⟩ = some (.int .u64 0) := keepc hb2 (keepc hb1 (by simp [go_sem]))
  have e1 : w2.cell? ⟨w.heap.size + 1, 1, none⟩ = some (.int .u64 0) := keepc hb2 (keepc hb1 (by simp [go_sem]))
  have e2 : w2.cell? ⟨w.heap.size + 1, 2, none⟩ = some (.int .i64 0) := keepc hb2 (keepc hb1 (by simp [go_sem]))
  go_wp2
  exact bodyPost_ret (v := .agg #[.int .u64 (hI (x &&& maskW n)), .int .u64 (lI (x &&& maskW n)), .int .i64 n]) (by simp [results, Tryd.results40, go_sem, e0, e1, e2]) rfl ⟨rfl, kB⟩

def rhasB (x : BitVec 128) (n : Int) (y : BitVec 128) : Bool := decide (n ≤ ((leadN (x ^^^ y) : Nat) : Int))
def rwithinB (x : BitVec 128) (n : Int) (y : BitVec 128) (m : Int) : Bool := decide (m ≤ n) && rhasB y m x
set_option maxHeartbeats 1000000 in
theorem rpcmp_any (x : BitVec 128) (n : Int) (y : BitVec 128) (m : Int) (w : World) :
    Calls Tryd.prog 35 #[.agg #[.int .u64 (hI x), .int .u64 (lI x), .int .i64 n], .agg #[.int .u64 (hI y), .int .u64 (lI y), .int .i64 m]] w fun e w' => e = .returned (.int .i64 (pcmpZ x n y m)) ∧ Below w.heap.size w w' := by
  have KC := fun w => rcmp_any x y w
  unfold pcmpZ cmpI
  generalize cmpZ x y = c at *
  by_cases h : c = 0
  · subst h
    rw [if_pos rfl]
    by_cases h1 : n < m
    · rw [if_pos h1]
      go_enter Tryd.func35, Tryd.ntmps35
      go_wp2_with fail
      refine (KC _).mono ?_
      rintro e w1 ⟨rfl, hb1⟩
      have kB := keepb hb1 (bl2 w _ _)
      obtain ⟨p0, p1, p2, -, -, -⟩ := ((atp_new w w.heap.size x n 36 rfl).below (bl1 _ (.cells #[.int .u64 (hI y), .int .u64 (lI y), .int .i64 m] 36))).below hb1
      obtain ⟨r0, r1, r2, -, -, -⟩ := (atp_new (w.alloc (.cells #[.int .u64 (hI x), .int .u64 (lI x), .int .i64 n] 36)) (w.heap.size + 1) y m 36 (by simp)).below hb1
      clear hb1 KC
      go_wp2
      go_ret
      exact ⟨rfl, kB⟩
    · rw [if_neg h1]
      by_cases h2 : m < n
      · rw [if_pos h2]
        go_enter Tryd.func35, Tryd.ntmps35
        go_wp2_with fail
        refine (KC _).mono ?_
        rintro e w1 ⟨rfl, hb1⟩
        have kB := keepb hb1 (bl2 w _ _)
        obtain ⟨p0, p1, p2, -, -, -⟩ := ((atp_new w w.heap.size x n 36 rfl).below (bl1 _ (.cells #[.int .u64 (hI y), .int .u64 (lI y), .int .i64 m] 36))).below hb1
        obtain ⟨r0, r1, r2, -, -, -⟩ := (atp_new (w.alloc (.cells #[.int .u64 (hI x), .int .u64 (lI x), .int .i64 n] 36)) (w.heap.size + 1) y m 36 (by simp)).below hb1
        clear hb1 KC
        go_wp2
        go_ret
        exact ⟨rfl, kB⟩
      · rw [if_neg h2]
        go_enter Tryd.func35, Tryd.ntmps35
        go_wp2_with fail
        refine (KC _).mono ?_
        rintro e w1 ⟨rfl, hb1⟩
        have kB := keepb hb1 (bl2 w _ _)
        obtain ⟨p0, p1, p2, -, -, -⟩ := ((atp_new w w.heap.size x n 36 rfl).below (bl1 _ (.cells #[.int .u64 (hI y), .int .u64 (lI y), .int .i64 m] 36))).below hb1
        obtain ⟨r0, r1, r2, -, -, -⟩ := (atp_new (w.alloc (.cells #[.int .u64 (hI x), .int .u64 (lI x), .int .i64 n] 36)) (w.heap.size + 1) y m 36 (by simp)).below hb1
        clear hb1 KC
        go_wp2
        go_ret
        exact ⟨rfl, kB⟩
  · have hb : (c != 0) = true := by simp [h]
    rw [if_neg h]
    go_enter Tryd.func35, Tryd.ntmps35
    go_wp2_with fail
    refine (KC _).mono ?_
    rintro e w1 ⟨rfl, hb1⟩
    have kB := keepb hb1 (bl2 w _ _)
    clear hb1 KC
    go_wp2
    go_ret
    exact ⟨rfl, kB⟩

theorem min3_comm (a b c : Int) : min (min c a) b = min (min a b) c := by omega
end Go.Proofs.YtmkjlcfoedglmabDoor
/-
  What the calls of the reference's chapter 3 do: Check, Of, Last.
-/
namespace Go.Proofs.YtmkjlcfoedglmabDoor
open Go.RowKit
set_option linter.unusedSimpArgs false
set_option linter.unusedVariables false

set_option maxHeartbeats 1000000 in
theorem rcheck_any (F : Int) (x : BitVec 128) (n : Int) (w : World) :
    Calls Tryd.prog 56 #[.int .i64 F, .agg #[.int .u64 (hI x), .int .u64 (lI x), .int .i64 n]] w fun e w' => e = .returned (.int .i64 (checkE F x n)) ∧ Below w.heap.size w w' := by
  have KL := fun w => isFamily_any F w
  unfold checkE
  cases h : fam F
  · rw [if_neg (by simp)]
    rw [h] at KL
    clear h
    go_enter Tryd.func56, Tryd.ntmps56
    go_wp2_with fail
    refine (KL _).mono ?_
    rintro e w1 ⟨rfl, rfl⟩
    go_wp2
    go_ret
    exact ⟨rfl, bl1 _ _⟩
  · rw [if_pos rfl]
    rw [h] at KL
    clear h
    have KM := fun n w => rmask_any n w
    by_cases h0 : n < 0
    · rw [if_pos h0]
      go_enter Tryd.func56, Tryd.ntmps56
      go_wp2_with fail
      refine (KL _).mono ?_
      rintro e w1 ⟨rfl, rfl⟩
      go_wp2
      go_ret
      exact ⟨rfl, bl1 _ _⟩
    by_cases h1 : F < n
    · rw [if_neg h0, if_pos h1]
      go_enter Tryd.func56, Tryd.ntmps56
      go_wp2_with fail
      refine (KL _).mono ?_
      rintro e w1 ⟨rfl, rfl⟩
      go_wp2
      go_ret
      exact ⟨rfl, bl1 _ _⟩
    rw [if_neg h0, if_neg h1]
    have KC := fun w => rand_any x (maskW n) w
    have KN := fun w => rmask_any n w
    unfold cutW
    generalize maskW n = k at *
    revert KC
    generalize x &&& k = c
    intro KC
    have hbl := fun o => (bl1 w o).drew
    rcases eqw c x with ⟨q1, q2, q3⟩ | ⟨q1, q3⟩ | ⟨q1, q2, q3⟩
    all_goals
      rw [q3]
      first | rw [if_pos rfl] | rw [if_neg (by simp)]
      clear q3
      go_enter Tryd.func56, Tryd.ntmps56
      go_wp2_with fail
      refine (KL _).mono ?_
      rintro e w1 ⟨rfl, rfl⟩
      clear KL KM
      go_wp2_with fail
      go_region_held3 (fun w' => w'.cell? ⟨w.heap.size, 0, none⟩ = some (.int .u64 (hI x)) ∧ w'.cell? ⟨w.heap.size, 1, none⟩ = some (.int .u64 (lI x)) ∧ w'.cell? ⟨w.heap.size, 2, none⟩ = some (.int .i64 n) ∧ Below w.heap.size w w')
        (first
          | (obtain ⟨k1, k2, k3, k9⟩ := ‹_ ∧ _›; exact ⟨keepc hb3 k1, keepc hb3 k2, keepc hb3 k3, keepb hb3 k9⟩)
          | (obtain ⟨k1, k2, k3, k9⟩ := ‹_ ∧ _›; exact ⟨keepc hb2 k1, keepc hb2 k2, keepc hb2 k3, keepb hb2 k9⟩)
          | (refine ⟨?_, ?_, ?_, ?_⟩ <;> first | (simp [go_sem, *]; done) | exact hbl _))
        (first | (go_at_call 42; refine (KN _).mono ?_; rintro e w2 ⟨rfl, hb2⟩) | (go_at_call 41; refine (KC _).mono ?_; rintro e w3 ⟨rfl, hb3⟩))
      obtain ⟨-, -, -, kB3⟩ := ‹_ ∧ _›
      go_wp2
      go_ret
      exact ⟨rfl, kB3⟩

theorem maskW_idem (x : BitVec 128) (n : Int) : cutW (cutW x n) n = cutW x n := by
  unfold cutW
  rw [BitVec.and_assoc, BitVec.and_self]
theorem ofE_eq (F : Int) (x : BitVec 128) (n : Int) (h : rightE F x = 0) : checkE F (cutW x n) n = if n < 0 then 13 else if F < n then 13 else 0 := by
  have hf : fam F = true := by
    unfold rightE at h
    split at h
    · assumption
    · omega
  unfold checkE
  simp [hf, maskW_idem]
def rlastW (F : Int) (x : BitVec 128) (n : Int) : BitVec 128 := x ||| (~~~(maskW n) &&& maskW F)
end Go.Proofs.YtmkjlcfoedglmabDoor
/-
  What the calls of package addr's digit and group and of strings.HasPrefix do.
-/
namespace Go.Proofs.YtmkjlcfoedglmabDoor
open Go.RowKit
set_option linter.unusedSimpArgs false
set_option linter.unusedVariables false

/-- Is the byte a digit of sixteen, great or small, and which number is it? -/
def hexB (c : Int) : Bool := (decide (48 ≤ c) && decide (c ≤ 57)) || (decide (65 ≤ c) && decide (c ≤ 70)) || (decide (97 ≤ c) && decide (c ≤ 102))
def hexV (c : Int) : Int := if 48 ≤ c ∧ c ≤ 57 then c - 48 else if 65 ≤ c ∧ c ≤ 70 then c + 32 - 97 + 10 else if 97 ≤ c ∧ c ≤ 102 then c - 97 + 10 else 0
theorem hex_ways (c : Int) : (c < 48 ∧ hexB c = false ∧ hexV c = 0) ∨ (48 ≤ c ∧ c ≤ 57 ∧ hexB c = true ∧ hexV c = c - 48) ∨ (57 < c ∧ c < 65 ∧ hexB c = false ∧ hexV c = 0) ∨ (65 ≤ c ∧ c ≤ 70 ∧ hexB c = true ∧ hexV c = c + 32 - 97 + 10) ∨ (70 < c ∧ c < 97 ∧ hexB c = false ∧ hexV c = 0) ∨ (97 ≤ c ∧ c ≤ 102 ∧ hexB c = true ∧ hexV c = c - 97 + 10) ∨ (102 < c ∧ hexB c = false ∧ hexV c = 0) := by
  unfold hexB hexV
  by_cases h1 : c < 48
  · left
    have a1 : ¬ 48 ≤ c := by omega
    have a2 : ¬ 97 ≤ c := by omega
    have a3 : ¬ 65 ≤ c := by omega
    simp [a1, a2, a3, h1]
  by_cases h2 : c ≤ 57
  · right; left
    have a1 : 48 ≤ c := by omega
    simp [a1, h2]
  by_cases h3 : c < 65
  · right; right; left
    have a2 : ¬ 97 ≤ c := by omega
    have a3 : ¬ 65 ≤ c := by omega
    simp [h2, a2, a3, h3]; omega
  by_cases h4 : c ≤ 70
  · right; right; right; left
    have a3 : 65 ≤ c := by omega
    simp [h2, a3, h4]
  by_cases h5 : c < 97
  · right; right; right; right; left
    have a2 : ¬ 97 ≤ c := by omega
    simp [h2, a2, h4, h5]; omega
  by_cases h6 : c ≤ 102
  · right; right; right; right; right; left
    have a2 : 97 ≤ c := by omega
    simp [h2, a2, h4, h6]
  · right; right; right; right; right; right
    simp [h2, h4, h6]; omega
theorem hexV_bd (c : Int) : 0 ≤ hexV c ∧ hexV c ≤ 15 := by
  rcases hex_ways c with ⟨a, p, q⟩ | ⟨a, b, p, q⟩ | ⟨a, b, p, q⟩ | ⟨a, b, p, q⟩ | ⟨a, b, p, q⟩ | ⟨a, b, p, q⟩ | ⟨a, p, q⟩ <;> rw [q] <;> omega

theorem or4 (v d : Int) (h0 : 0 ≤ v) (h1 : v < 1152921504606846976) (d0 : 0 ≤ d) (d1 : d ≤ 15) : bits .or .u64 (IntKind.u64.wrap (v * 16)) d = 16 * v + d := by
  obtain ⟨n, rfl⟩ := Int.eq_ofNat_of_zero_le h0
  obtain ⟨m, rfl⟩ := Int.eq_ofNat_of_zero_le d0
  have e1 : IntKind.u64.wrap ((n : Int) * 16) = ((BitVec.ofNat 64 (n * 16)).toNat : Int) := by
    simp [IntKind.wrap, IntKind.bits, IntKind.signed, BitVec.toNat_ofNat]
  have e2 : (m : Int) = ((BitVec.ofNat 64 m).toNat : Int) := by
    simp [BitVec.toNat_ofNat]; omega
  rw [e1, e2, bits64or _ _ _ rfl, BitVec.toNat_or, BitVec.toNat_ofNat, BitVec.toNat_ofNat, Nat.mod_eq_of_lt (by omega), Nat.mod_eq_of_lt (by omega)]
  have := Nat.shiftLeft_add_eq_or_of_lt (b := m) (i := 4) (by omega) n
  rw [Nat.shiftLeft_eq] at this
  rw [show n * 16 = n * 2 ^ 4 from rfl, ← this]; omega

/-- The digits that a text begins with, as many as a group may have, from place k on, v being read. -/
def grpR (t : ByteArray) : Nat → Nat → Int → Int × Int
  | 0, k, v => (v, k)
  | f + 1, k, v => if k < t.size ∧ hexB (byteAt t k) = true then grpR t f (k + 1) (16 * v + hexV (byteAt t k)) else (v, k)
def grpV (t : ByteArray) : Int := (grpR t 4 0 0).1
def grpN (t : ByteArray) : Int := (grpR t 4 0 0).2

theorem byteAt_list (l : List UInt8) (k : Nat) : byteAt ⟨l.toArray⟩ k = match l[k]? with | some c => (c.toNat : Int) | none => 0 := by
  unfold byteAt
  have e : (⟨l.toArray⟩ : ByteArray).size = l.length := rfl
  by_cases h : k < l.length
  · rw [dif_pos (by rw [e]; exact h), List.getElem?_eq_getElem h]; rfl
  · rw [dif_neg (by rw [e]; exact h), List.getElem?_eq_none (by omega)]
theorem byteAt_ext (s : ByteArray) (a k : Nat) : byteAt (s.extract a s.size) k = byteAt s (a + k) := by
  unfold byteAt
  by_cases h : a + k < s.size
  · have h2 : k < (s.extract a s.size).size := by simp; omega
    rw [dif_pos h, dif_pos h2]
    congr 2
    rw [ByteArray.getElem_extract]
  · have h2 : ¬ k < (s.extract a s.size).size := by simp; omega
    rw [dif_neg h, dif_neg h2]
theorem u8_of (c : UInt8) (n : Nat) (h : n < 256) : ((c.toNat : Int) = (n : Int)) ↔ c = UInt8.ofNat n := by
  constructor
  · intro e
    apply UInt8.toNat.inj
    rw [UInt8.toNat_ofNat']; omega
  · intro e
    rw [e, UInt8.toNat_ofNat']; omega
end Go.Proofs.YtmkjlcfoedglmabDoor
/-
  What the calls of law 2's within and decimal do.
-/
namespace Go.Proofs.YtmkjlcfoedglmabDoor
open Go.RowKit
set_option linter.unusedSimpArgs false
set_option linter.unusedVariables false

theorem tmod_ways (a n : Int) (h : 0 < n) : (a.tmod n < 0 ∧ a.tmod n + n = a % n) ∨ (0 ≤ a.tmod n ∧ a.tmod n = a % n) := by
  by_cases h0 : 0 ≤ a
  · right
    have : a.tmod n = a % n := Int.tmod_eq_emod_of_nonneg h0
    exact ⟨by rw [this]; exact Int.emod_nonneg _ (by omega), this⟩
  · have e := Int.tmod_eq_emod (a := a) (b := n)
    have b1 := Int.emod_nonneg a (b := n) (by omega)
    have b2 := Int.emod_lt_of_pos a h
    split at e
    · right; omega
    · left
      have : (n.natAbs : Int) = n := by omega
      omega
/-- The digits of m, written ahead of t. -/
def decF : Nat → Nat → List UInt8 → List UInt8
  | 0, _, t => t
  | f + 1, m, t => if m = 0 ∧ ¬ t = [] then t else decF f (m / 10) (UInt8.ofNat (48 + m % 10) :: t)
def decL (n : Nat) : List UInt8 := decF 20 n []

theorem cat_one (d : UInt8) (t : List UInt8) : ((⟨#[d]⟩ : ByteArray) ++ ⟨t.toArray⟩) = ⟨(d :: t).toArray⟩ := by
  apply ByteArray.ext
  simp
theorem decF_zero (f m : Nat) (t : List UInt8) (h : m = 0 ∧ ¬ t = []) : decF f m t = t := by
  cases f with
  | zero => rfl
  | succ f => exact if_pos h

theorem isEmpty_of (t : List UInt8) (S : ByteArray) (h : S = ⟨t.toArray⟩) : S.toList.isEmpty = t.isEmpty := by
  subst h
  rw [Lib.toList_data]
def sizeOf0 (b : Value) : Nat := match b with | .string s => if s.size = 0 then 1 else 0 | _ => 0

end Go.Proofs.YtmkjlcfoedglmabDoor
/-
  What the calls of the law's own helpers of chapter 3 do.
-/
namespace Go.Proofs.YtmkjlcfoedglmabDoor
open Go.RowKit
set_option linter.unusedSimpArgs false
set_option linter.unusedVariables false

def famZ (b : Bool) : Int := if b = true then 128 else 32
theorem famZ_fam (b : Bool) : fam (famZ b) = true := by cases b <;> decide
theorem famZ_bd (b : Bool) : 32 ≤ famZ b ∧ famZ b ≤ 128 := by cases b <;> decide
def someW (F : Int) (x : BitVec 128) (n : Int) : BitVec 128 := cutW (cutW x F) (n % (F + 1))
end Go.Proofs.YtmkjlcfoedglmabDoor
/-
  What a call of package prefix's Last does.
-/
namespace Go.Proofs.YtmkjlcfoedglmabDoor
open Go.RowKit
set_option linter.unusedSimpArgs false
set_option linter.unusedVariables false

/-- The prefix, and the word that is answered, in memory. -/
def LS (w : World) (x : BitVec 128) (n : Int) (W : World) : Prop := AtP W w.heap.size x n ∧ At W (w.heap.size + 1) 0#128 ∧ Below w.heap.size w W
theorem LS.below {w W W' : World} {x : BitVec 128} {n : Int} (h : LS w x n W) (hb : Below W.heap.size W W') : LS w x n W' := ⟨h.1.below hb, h.2.1.below hb, keepb hb h.2.2⟩
theorem LS.al {w W : World} {x : BitVec 128} {n : Int} (h : LS w x n W) (o : Obj) : LS w x n (W.alloc o) := h.below (bl1 W o)
theorem LS.drew {w W : World} {x : BitVec 128} {n : Int} (h : LS w x n W) : LS w x n W.drew := ⟨h.1, h.2.1, h.2.2.drew⟩
theorem LS.first (w : World) (x : BitVec 128) (n : Int) : LS w x n ((w.alloc (.cells #[.int .u64 (hI x), .int .u64 (lI x), .int .i64 n] 36)).alloc (.cells #[.int .u64 0, .int .u64 0] 34)) :=
  ⟨(atp_new w w.heap.size x n 36 rfl).below (bl1 _ _), at_new (w.alloc (.cells #[.int .u64 (hI x), .int .u64 (lI x), .int .i64 n] 36)) (w.heap.size + 1) 0#128 34 (by simp), bl2 _ _ _⟩
theorem LS.set {w W : World} {x : BitVec 128} {n : Int} (h : LS w x n W) {N : Nat} (hN : w.heap.size + 1 < N) (u v : Value) : LS w x n ((W.setCell ⟨N, 0, none⟩ u).setCell ⟨N, 1, none⟩ v) := by
  obtain ⟨⟨a0, a1, a2, a3, a4, a5⟩, h2, h3⟩ := h
  have d0 : ¬ N = w.heap.size := by omega
  have d1 : ¬ w.heap.size = N := by omega
  refine ⟨?_, h2.other u v (by omega), bset2 h3 (by omega) _ _⟩
  refine ⟨?_, ?_, ?_, ?_, ?_, ?_⟩ <;> simp [go_sem, *]
theorem at_new0 (w : World) : At (w.alloc (.cells #[.int .u64 0, .int .u64 0] 34)) w.heap.size 0#128 := at_new w w.heap.size 0#128 34 rfl
theorem at_new0d (w : World) (N : Nat) (h : N = w.heap.size) : At (w.alloc (.cells #[.int .u64 0, .int .u64 0] 34)).drew N 0#128 := at_new w N 0#128 34 h
def lastW (F : Int) (x : BitVec 128) (n : Int) : BitVec 128 := x ||| (maskW F ^^^ maskW n)
set_option maxHeartbeats 4000000 in
theorem plast_any (F : Int) (x : BitVec 128) (n : Int) (w : World) :
    Calls Tryd.prog 64 #[.int .i64 F, .agg #[.int .u64 (hI x), .int .u64 (lI x), .int .i64 n]] w fun e w' => e = .returned (.agg #[.int .u64 (hI (lastW F x n)), .int .u64 (lI (lastW F x n))]) ∧ Below w.heap.size w w' := by
  have KM := fun n w => mask_any n w
  have L0 := LS.first w x n
  unfold lastW
  go_enter Tryd.func64, Tryd.ntmps64
  go_wp2
  rename_i Q' K hK
  have tail : ∀ (N : Nat) (W : World), At W N (maskW F ^^^ maskW n) → LS w x n W → (Exit.then K Q') .normal { tmps := #[.int .i64 F, .agg #[.int .u64 (hI x), .int .u64 (lI x), .int .i64 n], undef, .pointer (some ⟨w.heap.size, 0, none⟩), .pointer (some ⟨w.heap.size + 1, 0, none⟩), .pointer (some ⟨N, 0, none⟩), .int .i64 F, .agg #[.int .u64 (hI (maskW F)), .int .u64 (lI (maskW F))], .pointer (some ⟨w.heap.size, 2, none⟩), .int .i64 n, .agg #[.int .u64 (hI (maskW n)), .int .u64 (lI (maskW n))], .agg #[.int .u64 (hI (maskW F ^^^ maskW n)), .int .u64 (lI (maskW F ^^^ maskW n))], undef, undef, undef, undef], defers := [] } W := by
    intro N W hN hL
    obtain ⟨a0, a1, -, -, -⟩ := hN
    obtain ⟨⟨p0, p1, p2, -, -, -⟩, hZ, kB⟩ := hL
    clear L0 KM
    go_wp2_with fail
    refine (or_any _ _ _).mono ?_
    rintro e w9 ⟨rfl, hb9⟩
    obtain ⟨z0, z1, z2, z3, z4⟩ := hZ.below hb9
    have kB := keepb hb9 kB
    clear a0 a1 p0 p1 p2 hZ hb9
    go_wp2
    exact bodyPost_ret (v := .agg #[.int .u64 (hI (x ||| (maskW F ^^^ maskW n))), .int .u64 (lI (x ||| (maskW F ^^^ maskW n)))]) (by simp [results, Tryd.results64, go_sem, *]) rfl ⟨rfl, bset2 kB (by omega) _ _⟩
  obtain ⟨⟨p0, p1, p2, -, -, -⟩, -, -⟩ := id L0
  go_region_with (first
    | (go_at_call 60; go_loud (skip; refine (KM _ _).mono ?_; rintro e w1 ⟨rfl, hb1⟩; have L1 : LS w x n w1 := LS.below (by first | exact L1 | exact L1.al _ | exact L0.drew | exact (L0.al _).drew) hb1; (try have Z1 := At.below Z1 hb1); (try have Z1 := At.below (at_new0 _) hb1); (try (refine (fun (Z1 : At w1 (w.heap.size + 1 + 1) 0#128) => ?_) (At.below (at_new0d _ _ ?_) hb1); rotate_left; (focus (simp; done)))); obtain ⟨p0, p1, p2, -, -, -⟩ := id L1.1; have g1 := L1.2.1.2.2.2.2; have l1 := cell_in p0; have n1 : ¬ w1.heap.size = w.heap.size := (by omega)))
    | (go_at_call 78; refine (xor_any _ _ _).mono ?_; rintro e w2 ⟨rfl, hb2⟩; have L2 : LS w x n w2 := LS.below (by first | exact L1 | exact L1.al _) hb2; (try have Z1 := At.below Z1 hb2); (try have Z1 := At.below (at_new0 _) hb2); (try obtain ⟨z0, z1, z2, z3, z4⟩ := id Z1)))
  all_goals first
    | exact tail _ _ (Z1.set _) (L2.set (by omega) _ _)
    | exact tail _ _ (at_new w2 _ _ _ rfl) (L2.al _)
end Go.Proofs.YtmkjlcfoedglmabDoor
