/-
  Part 12 of the proof: 3 texts, one behind the other.
-/
import Derived.Test.YtoejhhoniflpeabPart8
import Derived.Test.YtoejhhoniflpeabPart9
import Derived.Test.YtoejhhoniflpeabPart10
import Derived.Test.YtoejhhoniflpeabPart11
/-
  The sequence of the nodes on an address's way: Path and way.each.
-/
namespace Go.Proofs.Ytoejhhoniflpeab
open Go.RowKit Go.Shelf
set_option linter.unusedSimpArgs false
set_option linter.unusedVariables false
attribute [local go_sem] Oper.semAt_some

/-- The node behind one on an address's way. -/
def nxtW (L : List Nd) (x : BitVec 128) (n : Int) : Int := kidV L n (bitZ x (ndAt L n).length)
def wayL (L : List Nd) (x : BitVec 128) : Nat → Int → List Int
  | 0, _ => []
  | k + 1, n => n :: wayL L x k (nxtW L x n)
/-- So many nodes, and the way ends. -/
def WayTo (L : List Nd) (x : BitVec 128) : Nat → Int → Prop
  | 0, n => n = -1
  | k + 1, n => isN L n = true ∧ WayTo L x k (nxtW L x n)
theorem way_one (L : List Nd) (x : BitVec 128) : ∀ (m m' : Nat) (y : Int), WayTo L x m y → WayTo L x m' y → m = m'
  | 0, 0, _, _, _ => rfl
  | 0, m' + 1, y, h, g => by rw [show y = -1 from h] at g; exact absurd g.1 (by simp [isN])
  | m + 1, 0, y, h, g => by rw [show y = -1 from g] at h; exact absurd h.1 (by simp [isN])
  | m + 1, m' + 1, y, h, g => by rw [way_one L x m m' _ h.2 g.2]
open Classical in
theorem muW_ex (L : List Nd) (x : BitVec 128) : ∃ mu : Value → Nat, ∀ (y : Int) (m : Nat), WayTo L x m y → mu (.int .i64 y) = m := by
  refine ⟨fun v => if h : ∃ m, ∃ y, v = .int .i64 y ∧ WayTo L x m y then Classical.choose h else 0, fun y m h => ?_⟩
  have e : ∃ m, ∃ y', (Value.int .i64 y) = .int .i64 y' ∧ WayTo L x m y' := ⟨m, y, rfl, h⟩
  dsimp only
  rw [dif_pos e]
  obtain ⟨y', e1, e2⟩ := Classical.choose_spec e
  cases e1
  exact way_one L x _ _ _ e2 h
def pthL (L : List Nd) (F : Int) (x : BitVec 128) (N : Nat) : List Int := if checkE F x F = 0 then wayL L x N 0 else []
def encI (n : Int) : Array Value := #[.int .i64 n]
theorem AtN.kw {Z : Nat → Prop} {C : Nat} {W W' : World} {b o : Nat} {x : Nd} (k : AtN W b o x) (h : KW Z C W W') (hz : Z b ∨ C ≤ b) : AtN W' b o x := ⟨kw_cell h hz k.1, kw_cell h hz k.2.1, kw_cell h hz k.2.2.1, kw_cell h hz k.2.2.2.1, kw_cell h hz k.2.2.2.2.1, kw_cell h hz k.2.2.2.2.2⟩
theorem TrN.kw {Z : Nat → Prop} {C : Nat} {W W' : World} {B : Nat} {F : Int} {g cap : Nat} {wv : Value} {L : List Nd} (k : TrN W B F g cap wv L) (h : KW Z C W W') (h1 : Z B ∨ C ≤ B) (h2 : Z g ∨ C ≤ g) : TrN W' B F g cap wv L := ⟨kw_cell h h1 k.w, kw_cell h h1 k.n, kw_cell h h1 k.o, fun j hj => (k.row j hj).kw h h2⟩
/-- The receiver's own copy. -/
def AtW8 (W : World) (N0 B : Nat) (x : BitVec 128) : Prop := W.cell? ⟨N0, 0, none⟩ = some (.pointer (some ⟨B, 0, none⟩)) ∧ W.cell? ⟨N0, 1, none⟩ = some (.int .u64 (hI x)) ∧ W.cell? ⟨N0, 2, none⟩ = some (.int .u64 (lI x))
theorem AtW8.below {W W' : World} {N0 B : Nat} {x : BitVec 128} (k : AtW8 W N0 B x) (hb : Below W.heap.size W W') : AtW8 W' N0 B x := ⟨keepc hb k.1, keepc hb k.2.1, keepc hb k.2.2⟩
theorem AtW8.kw {Z : Nat → Prop} {C : Nat} {W W' : World} {N0 B : Nat} {x : BitVec 128} (k : AtW8 W N0 B x) (h : KW Z C W W') (hz : Z N0 ∨ C ≤ N0) : AtW8 W' N0 B x := ⟨kw_cell h hz k.1, kw_cell h hz k.2.1, kw_cell h hz k.2.2⟩
set_option maxRecDepth 100000 in
set_option maxHeartbeats 8000000 in
theorem way_each (n N : Nat) (Z : Nat → Prop) (Bd B : Nat) (F : Int) (g cap : Nat) (wv : Value) (L : List Nd) (x : BitVec 128) (hR : checkE F x F = 0 → WayTo L x N 0) (w : World) (hM : TrN w B F g cap wv L) (hZB : Z B ∨ Bd ≤ B) (hZg : Z g ∨ Bd ≤ g) (ho : ∀ x ∈ L, x.ok) (hl : L.length ≤ 2147483647) :
    SeqY n Try.prog 30 #[.agg #[.pointer (some ⟨B, 0, none⟩), .int .u64 (hI x), .int .u64 (lI x)]] #[] encI (KW Z Bd) (fun ys => ys = pthL L F x N) (fun pre => pre <+: pthL L F x N) Bd w := by
  intro l J Jx W hW hB hJ hJx hY h0
  have q0 := bl1 W (.cells #[.pointer (some ⟨B, 0, none⟩), .int .u64 (hI x), .int .u64 (lI x)] 74)
  have HM0 := hidX ((hM.below hW).below q0)
  have HC0 : Hid (AtW8 (W.alloc (.cells #[.pointer (some ⟨B, 0, none⟩), .int .u64 (hI x), .int .u64 (lI x)] 74)) W.heap.size B x) := hidX (by refine ⟨?_, ?_, ?_⟩ <;> simp [go_sem])
  have HJ := hidX hJ
  have HY := hidX hY
  have HJ0 := hidX (hJ [] _ _ none h0 (below_grownX q0) (fun r e => by cases e))
  have HB : Hid (Bd ≤ W.heap.size) := hidX hB
  have KC := fun w => pcheck_any F x F w
  have HR0 := hidX hR
  have HPt : Hid ((checkE F x F = 0 → pthL L F x N = wayL L x N 0) ∧ (¬ checkE F x F = 0 → pthL L F x N = [])) := hidX ⟨fun h => by rw [pthL, if_pos h], fun h => by rw [pthL, if_neg h]⟩
  have HO : Hid ((∀ x ∈ L, x.ok) ∧ L.length ≤ 2147483647) := hidX ⟨ho, hl⟩
  have HZ : Hid ((Z B ∨ Bd ≤ B) ∧ (Z g ∨ Bd ≤ g)) := hidX ⟨hZB, hZg⟩
  obtain ⟨c0, c1, c2⟩ := HC0.out
  clear hJ hJx hY h0 hM q0 hB hR ho hl hZB hZg
  refine callsIn_of_wp Try.func30 rfl trivial ?_ rfl
  simp only [Try.ntmps30, List.size_toArray, List.length_cons, List.length_nil, Nat.reduceAdd, Nat.reduceSub, Array.replicate_succ, Array.replicate_zero, List.push_toArray, List.append_toArray, List.nil_append, List.cons_append, List.append_nil]
  gi_wp2_with fail
  revert HM0 HC0 HJ0
  generalize W.alloc (.cells #[.pointer (some ⟨B, 0, none⟩), .int .u64 (hI x), .int .u64 (lI x)] 74) = V1
  intro HM0 HC0 HJ0
  revert KC HR0 HPt
  generalize checkE F x F = z
  intro KC HR0 HPt
  clear c0 c1 c2
  have HD : Hid (∀ X, Below V1.heap.size V1 X → TrN X B F g cap wv L ∧ AtW8 X W.heap.size B x) := hidX (fun X hb => ⟨HM0.out.below hb, HC0.out.below hb⟩)
  refine wpIn_wide.2 ?_
  refine qw_region (C := fun X => Below V1.heap.size V1 X) (by kernel_rfl) (by kernel_rfl) (below_drewN (Below.refl _ _) 1) ?_
  refine qw_run (v := .pointer (some ⟨B, 0, none⟩)) (by rfl) ?_ ?_
  · (intro w1 hC; obtain ⟨⟨t0, t1, t2, -⟩, ⟨c0, c1, c2⟩⟩ := HD.out w1 hC; go_simp; first | done | (simp; done) | (simp [*]; done) | omega | (simp; omega) | (rw [IntKind.wrap_i64]; omega) | (intro hx; omega) | rfl)
  simp only [Act.put, List.setIfInBounds_toArray, List.set_cons_zero, List.set_cons_succ]
  refine qw_run (v := .pointer (some ⟨B, 0, none⟩)) (by rfl) ?_ ?_
  · (intro w1 hC; obtain ⟨⟨t0, t1, t2, -⟩, ⟨c0, c1, c2⟩⟩ := HD.out w1 hC; go_simp; first | done | (simp; done) | (simp [*]; done) | omega | (simp; omega) | (rw [IntKind.wrap_i64]; omega) | (intro hx; omega) | rfl)
  simp only [Act.put, List.setIfInBounds_toArray, List.set_cons_zero, List.set_cons_succ]
  refine qw_run (v := .pointer (some ⟨B, 0, none⟩)) (by rfl) ?_ ?_
  · (intro w1 hC; obtain ⟨⟨t0, t1, t2, -⟩, ⟨c0, c1, c2⟩⟩ := HD.out w1 hC; go_simp; first | done | (simp; done) | (simp [*]; done) | omega | (simp; omega) | (rw [IntKind.wrap_i64]; omega) | (intro hx; omega) | rfl)
  simp only [Act.put, List.setIfInBounds_toArray, List.set_cons_zero, List.set_cons_succ]
  refine qw_run (v := .int .i64 F) (by rfl) ?_ ?_
  · (intro w1 hC; obtain ⟨⟨t0, t1, t2, -⟩, ⟨c0, c1, c2⟩⟩ := HD.out w1 hC; go_simp; first | done | (simp; done) | (simp [*]; done) | omega | (simp; omega) | (rw [IntKind.wrap_i64]; omega) | (intro hx; omega) | rfl)
  simp only [Act.put, List.setIfInBounds_toArray, List.set_cons_zero, List.set_cons_succ]
  refine qw_run (v := .pointer (some ⟨W.heap.size, 1, none⟩)) (by rfl) ?_ ?_
  · (intro w1 hC; obtain ⟨⟨t0, t1, t2, -⟩, ⟨c0, c1, c2⟩⟩ := HD.out w1 hC; go_simp; first | done | (simp; done) | (simp [*]; done) | omega | (simp; omega) | (rw [IntKind.wrap_i64]; omega) | (intro hx; omega) | rfl)
  simp only [Act.put, List.setIfInBounds_toArray, List.set_cons_zero, List.set_cons_succ]
  refine qw_run (v := .agg #[.int .u64 (hI x), .int .u64 (lI x)]) (by rfl) ?_ ?_
  · (intro w1 hC; obtain ⟨⟨t0, t1, t2, -⟩, ⟨c0, c1, c2⟩⟩ := HD.out w1 hC; go_simp; first | done | (simp; done) | (simp [*]; done) | omega | (simp; omega) | (rw [IntKind.wrap_i64]; omega) | (intro hx; omega) | rfl)
  simp only [Act.put, List.setIfInBounds_toArray, List.set_cons_zero, List.set_cons_succ]
  refine qw_run (v := .pointer (some ⟨B, 0, none⟩)) (by rfl) ?_ ?_
  · (intro w1 hC; obtain ⟨⟨t0, t1, t2, -⟩, ⟨c0, c1, c2⟩⟩ := HD.out w1 hC; go_simp; first | done | (simp; done) | (simp [*]; done) | omega | (simp; omega) | (rw [IntKind.wrap_i64]; omega) | (intro hx; omega) | rfl)
  simp only [Act.put, List.setIfInBounds_toArray, List.set_cons_zero, List.set_cons_succ]
  refine qw_run (v := .pointer (some ⟨B, 0, none⟩)) (by rfl) ?_ ?_
  · (intro w1 hC; obtain ⟨⟨t0, t1, t2, -⟩, ⟨c0, c1, c2⟩⟩ := HD.out w1 hC; go_simp; first | done | (simp; done) | (simp [*]; done) | omega | (simp; omega) | (rw [IntKind.wrap_i64]; omega) | (intro hx; omega) | rfl)
  simp only [Act.put, List.setIfInBounds_toArray, List.set_cons_zero, List.set_cons_succ]
  refine qw_run (v := .pointer (some ⟨B, 0, none⟩)) (by rfl) ?_ ?_
  · (intro w1 hC; obtain ⟨⟨t0, t1, t2, -⟩, ⟨c0, c1, c2⟩⟩ := HD.out w1 hC; go_simp; first | done | (simp; done) | (simp [*]; done) | omega | (simp; omega) | (rw [IntKind.wrap_i64]; omega) | (intro hx; omega) | rfl)
  simp only [Act.put, List.setIfInBounds_toArray, List.set_cons_zero, List.set_cons_succ]
  refine qw_run (v := .int .i64 F) (by rfl) ?_ ?_
  · (intro w1 hC; obtain ⟨⟨t0, t1, t2, -⟩, ⟨c0, c1, c2⟩⟩ := HD.out w1 hC; go_simp; first | done | (simp; done) | (simp [*]; done) | omega | (simp; omega) | (rw [IntKind.wrap_i64]; omega) | (intro hx; omega) | rfl)
  simp only [Act.put, List.setIfInBounds_toArray, List.set_cons_zero, List.set_cons_succ]
  refine qw_run (v := .agg #[.int .u64 (hI x), .int .u64 (lI x), .int .i64 F]) (by rfl) ?_ ?_
  · (intro w1 hC; obtain ⟨⟨t0, t1, t2, -⟩, ⟨c0, c1, c2⟩⟩ := HD.out w1 hC; go_simp; first | done | (simp; done) | (simp [*]; done) | omega | (simp; omega) | (rw [IntKind.wrap_i64]; omega) | (intro hx; omega) | rfl)
  simp only [Act.put, List.setIfInBounds_toArray, List.set_cons_zero, List.set_cons_succ]
  refine qw_call (v := .int .i64 z) (f := 32) (args := #[.int .i64 F, .agg #[.int .u64 (hI x), .int .u64 (lI x), .int .i64 F]]) (by rfl) ?_ ?_ ?_
  · (intro w1 hC; clear hC; go_simp)
  · exact fun w1 hC => (KC w1).mono fun e w' ⟨he, hb⟩ => ⟨he, keepb hb hC⟩
  simp only [Act.put, List.setIfInBounds_toArray, List.set_cons_zero, List.set_cons_succ]
  refine qw_run (v := .bool (z != 0)) (by rfl) ?_ ?_
  · (intro w1 hC; obtain ⟨⟨t0, t1, t2, -⟩, ⟨c0, c1, c2⟩⟩ := HD.out w1 hC; go_simp; first | done | (simp; done) | (simp [*]; done) | omega | (simp; omega) | (rw [IntKind.wrap_i64]; omega) | (intro hx; omega) | rfl)
  simp only [Act.put, List.setIfInBounds_toArray, List.set_cons_zero, List.set_cons_succ]
  refine qw_nil ?_
  intro X2 hC2
  have HM2 := hidX (HM0.out.below hC2)
  have HC2 := hidX (HC0.out.below hC2)
  have HJ2 := hidX (HJ.out [] _ _ none HJ0.out (below_grownX hC2) (fun r e => by cases e))
  clear hC2 HD HM0 HC0 HJ0 KC
  by_cases c : z = 0
  · subst c
    rw [show ((0 : Int) != 0) = false from rfl]
    have HW0 := hidX (HR0.out rfl)
    have HP0 := hidX (HPt.out.1 rfl)
    obtain ⟨mu, hmu⟩ := muW_ex L x
    have HMu := hidX hmu
    clear hmu HR0 HPt
    gi_wp2_with fail
    gi_loopw [5] (fun p wr => ∃ (m : Nat) (y : Int) (pre : List Int), p = .int .i64 y ∧ Hid (pre ++ wayL L x m y = wayL L x N 0) ∧ Hid (WayTo L x m y) ∧ Hid (J pre wr) ∧ Hid (TrN wr B F g cap wv L) ∧ Hid (AtW8 wr W.heap.size B x)) (fun p wr => mu p)
    case atStart => exact ⟨N, 0, [], rfl, hidX rfl, HW0, HJ2, HM2, HC2⟩
    case round =>
      clear HJ2 HM2 HC2 HW0
      obtain ⟨m, y, pre, rfl, HP, HWy, HJw, HMw, HCw⟩ := hrel
      cases m with
      | zero =>
        obtain rfl : y = -1 := HWy.out
        have HE : Hid (pre = pthL L F x N) := hidX (by rw [HP0.out, ← HP.out, wayL, List.append_nil])
        clear HP HWy HMw HCw HMu
        gi_wp2
        refine ⟨fun f h => (by cases h), ?_⟩
        gi_wp2
        go_end0
        exact ⟨⟨_, rfl⟩, .inl ⟨_, HE.out, HJw.out⟩⟩
      | succ m =>
        have hm0 := HMu.out y (m + 1) HWy.out
        have HM0 := hidX hm0
        obtain ⟨hy1, hy2⟩ := HWy.out
        have hyr : 0 ≤ y ∧ y < L.length := by unfold isN at hy1; simpa using hy1
        obtain ⟨k, rfl⟩ : ∃ k : Nat, y = k := ⟨y.toNat, by omega⟩
        have hk : k < L.length := by omega
        have HW2 := hidX hy2
        have HPx : Hid (pre ++ [(k : Int)] <+: pthL L F x N) := hidX (by rw [HP0.out, ← HP.out, wayL]; exact ⟨wayL L x m (nxtW L x k), by simp⟩)
        have HP2 : Hid ((pre ++ [(k : Int)]) ++ wayL L x m (nxtW L x k) = wayL L x N 0) := hidX (by have := HP.out; rw [wayL] at this; simpa using this)
        have hkn : ((k : Int) != -1) = true := by simp
        clear hm0 hy1 hy2 hyr HWy HP
        obtain ⟨fn, tmps, assign, body, hy, hR⟩ := HY.out pre (k : Int) wr HJw.out HPx.out
        dsimp only [encI] at hy
        gi_wp2
        refine ⟨fun q => (by cases q), hR.mono ?_⟩
        rintro e W3 (⟨rfl, hJ3, hk3⟩ | ⟨rfl, hx3, -⟩)
        · have HM3 := hidX (HMw.out.kw hk3 HZ.out.1 HZ.out.2)
          have HC3 := hidX (HCw.out.kw hk3 (.inr HB.out))
          have HJ3 := hidX hJ3
          have KB := fun w => bit_any x (ndAt L k).length w
          have KK := fun w h => tkid_any B F g cap wv L k (bitZ x (ndAt L k).length) w h HO.out.1 HO.out.2
          have ok := ndAt_ok HO.out.1 k
          have hN : kidV L k (bitZ x (ndAt L k).length) = nxtW L x k := rfl
          rw [hN] at KK
          have HD : Hid (∀ X, Below W3.heap.size W3 X → TrN X B F g cap wv L ∧ AtW8 X W.heap.size B x ∧ AtN X g (k * 6) (ndAt L k)) := hidX (fun X hb => ⟨HM3.out.below hb, HC3.out.below hb, by rw [ndAt_in k hk]; exact (HM3.out.row k hk).below hb⟩)
          clear hJ3 hk3 hy hR HMw HCw HJw hN
          revert KB KK ok HD HW2 HP2
          generalize nxtW L x k = y2
          generalize ndAt L k = nd
          generalize bitZ x nd.length = bt
          intro HW2 HP2 KB KK ok HD
          have hwl : IntKind.i64.wrap nd.length = nd.length := by unfold Nd.ok at ok; rw [IntKind.wrap_i64]; omega
          clear ok
          gi_wp2_with fail
          refine wpIn_wide.2 ?_
          refine qw_region (C := fun X => Below W3.heap.size W3 X) (by kernel_rfl) (by kernel_rfl) (below_drewN (Below.refl _ _) 1) ?_
          refine qw_run (v := .pointer (some ⟨B, 0, none⟩)) (by rfl) ?_ ?_
          · (intro w1 hC; obtain ⟨⟨t0, t1, t2, -⟩, ⟨c0, c1, c2⟩, ⟨-, -, -, -, d4, -⟩⟩ := HD.out w1 hC; go_simp; first | done | (simp; done) | (simp [*]; done) | omega | (simp; omega) | (rw [IntKind.wrap_i64]; omega) | (intro hx; omega) | rfl)
          simp only [Act.put, List.setIfInBounds_toArray, List.set_cons_zero, List.set_cons_succ]
          refine qw_run (v := .int .i64 (k : Int)) (by rfl) ?_ ?_
          · (intro w1 hC; obtain ⟨⟨t0, t1, t2, -⟩, ⟨c0, c1, c2⟩, ⟨-, -, -, -, d4, -⟩⟩ := HD.out w1 hC; go_simp; first | done | (simp; done) | (simp [*]; done) | omega | (simp; omega) | (rw [IntKind.wrap_i64]; omega) | (intro hx; omega) | rfl)
          simp only [Act.put, List.setIfInBounds_toArray, List.set_cons_zero, List.set_cons_succ]
          refine qw_run (v := .pointer (some ⟨W.heap.size, 1, none⟩)) (by rfl) ?_ ?_
          · (intro w1 hC; obtain ⟨⟨t0, t1, t2, -⟩, ⟨c0, c1, c2⟩, ⟨-, -, -, -, d4, -⟩⟩ := HD.out w1 hC; go_simp; first | done | (simp; done) | (simp [*]; done) | omega | (simp; omega) | (rw [IntKind.wrap_i64]; omega) | (intro hx; omega) | rfl)
          simp only [Act.put, List.setIfInBounds_toArray, List.set_cons_zero, List.set_cons_succ]
          refine qw_run (v := .agg #[.int .u64 (hI x), .int .u64 (lI x)]) (by rfl) ?_ ?_
          · (intro w1 hC; obtain ⟨⟨t0, t1, t2, -⟩, ⟨c0, c1, c2⟩, ⟨-, -, -, -, d4, -⟩⟩ := HD.out w1 hC; go_simp; first | done | (simp; done) | (simp [*]; done) | omega | (simp; omega) | (rw [IntKind.wrap_i64]; omega) | (intro hx; omega) | rfl)
          simp only [Act.put, List.setIfInBounds_toArray, List.set_cons_zero, List.set_cons_succ]
          refine qw_run (v := .pointer (some ⟨B, 0, none⟩)) (by rfl) ?_ ?_
          · (intro w1 hC; obtain ⟨⟨t0, t1, t2, -⟩, ⟨c0, c1, c2⟩, ⟨-, -, -, -, d4, -⟩⟩ := HD.out w1 hC; go_simp; first | done | (simp; done) | (simp [*]; done) | omega | (simp; omega) | (rw [IntKind.wrap_i64]; omega) | (intro hx; omega) | rfl)
          simp only [Act.put, List.setIfInBounds_toArray, List.set_cons_zero, List.set_cons_succ]
          refine qw_run (v := .pointer (some ⟨B, 0, none⟩)) (by rfl) ?_ ?_
          · (intro w1 hC; obtain ⟨⟨t0, t1, t2, -⟩, ⟨c0, c1, c2⟩, ⟨-, -, -, -, d4, -⟩⟩ := HD.out w1 hC; go_simp; first | done | (simp; done) | (simp [*]; done) | omega | (simp; omega) | (rw [IntKind.wrap_i64]; omega) | (intro hx; omega) | rfl)
          simp only [Act.put, List.setIfInBounds_toArray, List.set_cons_zero, List.set_cons_succ]
          refine qw_run (v := .pointer (some ⟨B, 1, none⟩)) (by rfl) ?_ ?_
          · (intro w1 hC; obtain ⟨⟨t0, t1, t2, -⟩, ⟨c0, c1, c2⟩, ⟨-, -, -, -, d4, -⟩⟩ := HD.out w1 hC; go_simp; first | done | (simp; done) | (simp [*]; done) | omega | (simp; omega) | (rw [IntKind.wrap_i64]; omega) | (intro hx; omega) | rfl)
          simp only [Act.put, List.setIfInBounds_toArray, List.set_cons_zero, List.set_cons_succ]
          refine qw_run (v := .slice (some ⟨g, 0, none⟩) L.length cap) (by rfl) ?_ ?_
          · (intro w1 hC; obtain ⟨⟨t0, t1, t2, -⟩, ⟨c0, c1, c2⟩, ⟨-, -, -, -, d4, -⟩⟩ := HD.out w1 hC; go_simp; first | done | (simp; done) | (simp [*]; done) | omega | (simp; omega) | (rw [IntKind.wrap_i64]; omega) | (intro hx; omega) | rfl)
          simp only [Act.put, List.setIfInBounds_toArray, List.set_cons_zero, List.set_cons_succ]
          refine qw_run (v := .int .i64 (k : Int)) (by rfl) ?_ ?_
          · (intro w1 hC; obtain ⟨⟨t0, t1, t2, -⟩, ⟨c0, c1, c2⟩, ⟨-, -, -, -, d4, -⟩⟩ := HD.out w1 hC; go_simp; first | done | (simp; done) | (simp [*]; done) | omega | (simp; omega) | (rw [IntKind.wrap_i64]; omega) | (intro hx; omega) | rfl)
          simp only [Act.put, List.setIfInBounds_toArray, List.set_cons_zero, List.set_cons_succ]
          refine qw_run (v := .pointer (some ⟨g, k * 6, none⟩)) (by rfl) ?_ ?_
          · (intro w1 hC; obtain ⟨⟨t0, t1, t2, -⟩, ⟨c0, c1, c2⟩, ⟨-, -, -, -, d4, -⟩⟩ := HD.out w1 hC; go_simp; first | done | (simp; done) | (simp [*]; done) | omega | (simp; omega) | (rw [IntKind.wrap_i64]; omega) | (intro hx; omega) | rfl)
          simp only [Act.put, List.setIfInBounds_toArray, List.set_cons_zero, List.set_cons_succ]
          refine qw_run (v := .pointer (some ⟨g, k * 6 + 4, none⟩)) (by rfl) ?_ ?_
          · (intro w1 hC; obtain ⟨⟨t0, t1, t2, -⟩, ⟨c0, c1, c2⟩, ⟨-, -, -, -, d4, -⟩⟩ := HD.out w1 hC; go_simp; first | done | (simp; done) | (simp [*]; done) | omega | (simp; omega) | (rw [IntKind.wrap_i64]; omega) | (intro hx; omega) | rfl)
          simp only [Act.put, List.setIfInBounds_toArray, List.set_cons_zero, List.set_cons_succ]
          refine qw_run (v := .int .u8 nd.length) (by rfl) ?_ ?_
          · (intro w1 hC; obtain ⟨⟨t0, t1, t2, -⟩, ⟨c0, c1, c2⟩, ⟨-, -, -, -, d4, -⟩⟩ := HD.out w1 hC; go_simp; first | done | (simp; done) | (simp [*]; done) | omega | (simp; omega) | (rw [IntKind.wrap_i64]; omega) | (intro hx; omega) | rfl)
          simp only [Act.put, List.setIfInBounds_toArray, List.set_cons_zero, List.set_cons_succ]
          refine qw_run (v := .int .i64 nd.length) (by rfl) ?_ ?_
          · (intro w1 hC; obtain ⟨⟨t0, t1, t2, -⟩, ⟨c0, c1, c2⟩, ⟨-, -, -, -, d4, -⟩⟩ := HD.out w1 hC; go_simp; first | done | (simp; done) | (simp [*]; done) | omega | (simp; omega) | (rw [IntKind.wrap_i64]; omega) | (intro hx; omega) | rfl)
          simp only [Act.put, List.setIfInBounds_toArray, List.set_cons_zero, List.set_cons_succ]
          refine qw_call (v := .int .i64 bt) (f := 52) (args := #[.agg #[.int .u64 (hI x), .int .u64 (lI x)], .int .i64 nd.length]) (by rfl) ?_ ?_ ?_
          · (intro w1 hC; clear hC; go_simp)
          · exact fun w1 hC => (KB w1).mono fun e w' ⟨he, hb⟩ => ⟨he, keepb hb hC⟩
          simp only [Act.put, List.setIfInBounds_toArray, List.set_cons_zero, List.set_cons_succ]
          refine qw_call (v := .int .i64 y2) (f := 20) (args := #[.pointer (some ⟨B, 0, none⟩), .int .i64 (k : Int), .int .i64 bt]) (by rfl) ?_ ?_ ?_
          · (intro w1 hC; clear hC; go_simp)
          · exact fun w1 hC => (KK w1 (HD.out w1 hC).1).mono fun e w' ⟨he, hb⟩ => ⟨he, keepb hb hC⟩
          simp only [Act.put, List.setIfInBounds_toArray, List.set_cons_zero, List.set_cons_succ]
          refine qw_run (v := .int .i64 y2) (by rfl) ?_ ?_
          · (intro w1 hC; obtain ⟨⟨t0, t1, t2, -⟩, ⟨c0, c1, c2⟩, ⟨-, -, -, -, d4, -⟩⟩ := HD.out w1 hC; go_simp; first | done | (simp; done) | (simp [*]; done) | omega | (simp; omega) | (rw [IntKind.wrap_i64]; omega) | (intro hx; omega) | rfl)
          simp only [Act.put, List.setIfInBounds_toArray, List.set_cons_zero, List.set_cons_succ]
          refine qw_nil ?_
          intro X4 hC4
          have HM4 := hidX (HM3.out.below hC4)
          have HC4 := hidX (HC3.out.below hC4)
          have HJ4 := hidX (HJ.out _ _ _ none HJ3.out (below_grownX hC4) (fun r e => by cases e))
          clear hC4 HD HM3 HC3 HJ3 KB KK hwl
          gi_wp2
          go_roundw
          case rel => exact ⟨m, y2, _, rfl, HP2, HW2, HJ4, HM4, HC4⟩
          case measure =>
            have e1 := HMu.out y2 m HW2.out
            have e2 := HM0.out
            first | (simp only [Array.getD_eq_getD_getElem?, List.getElem?_toArray, List.getElem?_cons_succ, List.getElem?_cons_zero, Option.getD_some]; omega) | (simp at e1 e2 ⊢; omega)
        · have HX3 := hidX hx3
          clear hx3 hy hR HMw HCw HJw HP2 HW2 HM0
          gi_wp2
          go_end0
          exact ⟨⟨_, rfl⟩, .inr ⟨_, HPx.out, HX3.out⟩⟩
  · have d1 : (z != 0) = true := by simpa using c
    have HE := hidX (HPt.out.2 c)
    clear c HPt HR0
    gi_wp2
    exact bodyPost_ret (results_none rfl _ _ _) rfl ⟨⟨_, rfl⟩, .inl ⟨[], HE.out.symm, HJ2.out⟩⟩
end Go.Proofs.Ytoejhhoniflpeab
/-
  Variables of one cell, and what keeps them.
-/
namespace Go.Proofs.Ytoejhhoniflpeab
open Go.RowKit Go.Shelf
set_option linter.unusedSimpArgs false
set_option linter.unusedVariables false

/-- A variable of one cell. -/
def Cl1 (W : World) (B : Nat) (v : Value) : Prop := W.cell? ⟨B, 0, none⟩ = some v ∧ W.frozen? ⟨B, 0, none⟩ = false
theorem Cl1.below {W W' : World} {B : Nat} {v : Value} (k : Cl1 W B v) (hb : Below W.heap.size W W') : Cl1 W' B v := ⟨keepc hb k.1, keepf hb k.1 k.2⟩
theorem Cl1.heap {W W' : World} {B : Nat} {v : Value} (k : Cl1 W B v) (e : W'.heap[B]? = W.heap[B]?) : Cl1 W' B v := ⟨(World.cell?_of_block (a := ⟨B, 0, none⟩) e).trans k.1, (World.frozen?_of_block (a := ⟨B, 0, none⟩) e).trans k.2⟩
theorem cl1_new (W : World) (B : Nat) (v : Value) (t : TypeId) (h : B = W.heap.size) : Cl1 (W.alloc (.cells #[v] t)) B v := by
  subst h
  refine ⟨?_, ?_⟩ <;> simp [go_sem]
theorem Cl1.set {W : World} {B : Nat} {v : Value} (k : Cl1 W B v) (u : Value) : Cl1 (W.setCell ⟨B, 0, none⟩ u) B u := ⟨World.cell?_setCell_same' _ _ _ (by rw [k.1]; rfl), by rw [World.frozen?_setCell]; exact k.2⟩
theorem Cl1.lt {W : World} {B : Nat} {v : Value} (k : Cl1 W B v) : B < W.heap.size := cell_in k.1
theorem hSet6 {W : World} {b o : Nat} (u : Value) {k : Nat} (h : ¬ k = b) : (W.setCell ⟨b, o, none⟩ u).heap[k]? = W.heap[k]? := Below.heap_setCell W ⟨b, o, none⟩ u k h
theorem At.heap6 {W W' : World} {B : Nat} {x : BitVec 128} (k : At W B x) (e : W'.heap[B]? = W.heap[B]?) (hs : W.heap.size ≤ W'.heap.size) : At W' B x := ⟨(World.cell?_of_block (a := ⟨B, 0, none⟩) e).trans k.1, (World.cell?_of_block (a := ⟨B, 1, none⟩) e).trans k.2.1, (World.frozen?_of_block (a := ⟨B, 0, none⟩) e).trans k.2.2.1, (World.frozen?_of_block (a := ⟨B, 1, none⟩) e).trans k.2.2.2.1, Nat.lt_of_lt_of_le k.2.2.2.2 hs⟩
theorem AtP.heap6 {W W' : World} {B : Nat} {x : BitVec 128} {n : Int} (k : AtP W B x n) (e : W'.heap[B]? = W.heap[B]?) : AtP W' B x n := ⟨(World.cell?_of_block (a := ⟨B, 0, none⟩) e).trans k.1, (World.cell?_of_block (a := ⟨B, 1, none⟩) e).trans k.2.1, (World.cell?_of_block (a := ⟨B, 2, none⟩) e).trans k.2.2.1, (World.frozen?_of_block (a := ⟨B, 0, none⟩) e).trans k.2.2.2.1, (World.frozen?_of_block (a := ⟨B, 1, none⟩) e).trans k.2.2.2.2.1, (World.frozen?_of_block (a := ⟨B, 2, none⟩) e).trans k.2.2.2.2.2⟩
theorem Cl1.kept {W W' : World} {B : Nat} {v : Value} (k : Cl1 W B v) {row : Option Nat} (hg : W.grownBy W' row) (hr : ∀ r, row = some r → ∃ o : Obj, W.heap[r]? = some o ∧ o.isCells = false) : Cl1 W' B v := ⟨cell_kept k.1 hg hr, (frozen_kept k.1 hg hr).trans k.2⟩
theorem At.kept6 {W W' : World} {B : Nat} {x : BitVec 128} (k : At W B x) {row : Option Nat} (hg : W.grownBy W' row) (hr : ∀ r, row = some r → ∃ o : Obj, W.heap[r]? = some o ∧ o.isCells = false) : At W' B x := ⟨cell_kept k.1 hg hr, cell_kept k.2.1 hg hr, (frozen_kept k.1 hg hr).trans k.2.2.1, (frozen_kept k.2.1 hg hr).trans k.2.2.2.1, Nat.lt_of_lt_of_le k.2.2.2.2 hg.size⟩
theorem AtP.kept6 {W W' : World} {B : Nat} {x : BitVec 128} {n : Int} (k : AtP W B x n) {row : Option Nat} (hg : W.grownBy W' row) (hr : ∀ r, row = some r → ∃ o : Obj, W.heap[r]? = some o ∧ o.isCells = false) : AtP W' B x n := ⟨cell_kept k.1 hg hr, cell_kept k.2.1 hg hr, cell_kept k.2.2.1 hg hr, (frozen_kept k.1 hg hr).trans k.2.2.2.1, (frozen_kept k.2.1 hg hr).trans k.2.2.2.2.1, (frozen_kept k.2.2.1 hg hr).trans k.2.2.2.2.2⟩
theorem kw_set {Z : Nat → Prop} {B b o : Nat} (hZ : ¬ Z b) (hB : b < B) (W : World) (u : Value) : KW Z B W (W.setCell ⟨b, o, none⟩ u) := ⟨by simp, fun z x hz hx => by
  have hne : ¬ z = b := by
    rintro rfl
    rcases hx with q | q
    · exact hZ q
    · omega
  rw [hSet6 u hne]; exact hz⟩
theorem kw_keeps {Z : Nat → Prop} {B C : Nat} {W W' : World} (h : KW Z B W W') (hc : ∀ z, C ≤ z → Z z) : KeepsFrom C W W' := ⟨h.1, fun k o h1 h2 _ => h.2 k o h2 (.inl (hc k h1))⟩
end Go.Proofs.Ytoejhhoniflpeab
/-
  What a tree's Path and Lookup tell.
-/
namespace Go.Proofs.Ytoejhhoniflpeab
open Go.RowKit Go.Shelf
set_option linter.unusedSimpArgs false
set_option linter.unusedVariables false
attribute [local go_sem] Oper.semAt_some

theorem wl_nil8 {P : Program} {ops : Array Oper} {Q : Exit → Act → World → Prop} {a : Act} {w : World} (h : wpList P ops Q [] a w) : Q .normal a w := h
theorem tpath_any (B : Nat) (x : BitVec 128) (w : World) :
    Calls Try.prog 15 #[.pointer (some ⟨B, 0, none⟩), .agg #[.int .u64 (hI x), .int .u64 (lI x)]] w fun e w' => e = .returned (.func (.func 30) #[.agg #[.pointer (some ⟨B, 0, none⟩), .int .u64 (hI x), .int .u64 (lI x)]] #[]) ∧ Below w.heap.size w w' := by
  have q := bl1 w (.cells #[.int .u64 (hI x), .int .u64 (lI x)] 32)
  obtain ⟨a0, a1, -⟩ := at_new w w.heap.size x 32 rfl
  go_enter Try.func15, Try.ntmps15
  go_wp2
  exact bodyPost_ret (v := .func (.func 30) #[.agg #[.pointer (some ⟨B, 0, none⟩), .int .u64 (hI x), .int .u64 (lI x)]] #[]) (by simp [results, Try.results15, go_sem, *]) rfl ⟨rfl, q⟩
/-- The last next hop on a way. -/
def lastH (L : List Nd) : List Int → Int → Int
  | [], h => h
  | n :: l, h => lastH L l (if 0 < (ndAt L n).hop then (ndAt L n).hop else h)
theorem lastH_one (L : List Nd) : ∀ (l : List Int) (n h : Int), lastH L (l ++ [n]) h = if 0 < (ndAt L n).hop then (ndAt L n).hop else lastH L l h
  | [], n, h => rfl
  | m :: l, n, h => lastH_one L l n _
theorem AtN.kept {W W' : World} {b o : Nat} {x : Nd} (k : AtN W b o x) {row : Option Nat} (hg : W.grownBy W' row) (hr : ∀ r, row = some r → ∃ o : Obj, W.heap[r]? = some o ∧ o.isCells = false) : AtN W' b o x := ⟨cell_kept k.1 hg hr, cell_kept k.2.1 hg hr, cell_kept k.2.2.1 hg hr, cell_kept k.2.2.2.1 hg hr, cell_kept k.2.2.2.2.1 hg hr, cell_kept k.2.2.2.2.2 hg hr⟩
theorem TrN.kept {W W' : World} {B : Nat} {F : Int} {g cap : Nat} {wv : Value} {L : List Nd} (k : TrN W B F g cap wv L) {row : Option Nat} (hg : W.grownBy W' row) (hr : ∀ r, row = some r → ∃ o : Obj, W.heap[r]? = some o ∧ o.isCells = false) : TrN W' B F g cap wv L := ⟨cell_kept k.w hg hr, cell_kept k.n hg hr, cell_kept k.o hg hr, fun j hj => (k.row j hj).kept hg hr⟩
theorem AtN.heap {W W' : World} {b o : Nat} {x : Nd} (k : AtN W b o x) (e : W'.heap[b]? = W.heap[b]?) : AtN W' b o x := ⟨(World.cell?_of_block (a := ⟨b, o, none⟩) e).trans k.1, (World.cell?_of_block (a := ⟨b, o + 1, none⟩) e).trans k.2.1, (World.cell?_of_block (a := ⟨b, o + 2, none⟩) e).trans k.2.2.1, (World.cell?_of_block (a := ⟨b, o + 3, none⟩) e).trans k.2.2.2.1, (World.cell?_of_block (a := ⟨b, o + 4, none⟩) e).trans k.2.2.2.2.1, (World.cell?_of_block (a := ⟨b, o + 5, none⟩) e).trans k.2.2.2.2.2⟩
theorem TrN.heap {W W' : World} {B : Nat} {F : Int} {g cap : Nat} {wv : Value} {L : List Nd} (k : TrN W B F g cap wv L) (e : W'.heap[B]? = W.heap[B]?) (e2 : W'.heap[g]? = W.heap[g]?) : TrN W' B F g cap wv L := ⟨(World.cell?_of_block (a := ⟨B, 0, none⟩) e).trans k.w, (World.cell?_of_block (a := ⟨B, 1, none⟩) e).trans k.n, (World.cell?_of_block (a := ⟨B, 2, none⟩) e).trans k.o, fun j hj => (k.row j hj).heap e2⟩
set_option maxRecDepth 100000 in
set_option maxHeartbeats 8000000 in
theorem tlook_any (N : Nat) (B : Nat) (F : Int) (g cap : Nat) (wv : Value) (L : List Nd) (x : BitVec 128) (hR : checkE F x F = 0 → WayTo L x N 0) (w : World) (hM : TrN w B F g cap wv L) (hL : 0 < L.length) (ho : ∀ x ∈ L, x.ok) (hl : L.length ≤ 2147483647) :
    Calls Try.prog 18 #[.pointer (some ⟨B, 0, none⟩), .agg #[.int .u64 (hI x), .int .u64 (lI x)]] w fun e w' => e = .returned (.int .i64 (lastH L (pthL L F x N) 0)) ∧ Below w.heap.size w w' := by
  have hBw : B < w.heap.size := cell_in hM.w
  have hgw : g < w.heap.size := cell_in (hM.row 0 hL).1
  have q1 := bl1 w (.cells #[.pointer (some ⟨B, 0, none⟩)] 26)
  have q2 := bl1 (w.alloc (.cells #[.pointer (some ⟨B, 0, none⟩)] 26)) (.cells #[.int .u64 (hI x), .int .u64 (lI x)] 32)
  have q3 := bl1 ((w.alloc (.cells #[.pointer (some ⟨B, 0, none⟩)] 26)).alloc (.cells #[.int .u64 (hI x), .int .u64 (lI x)] 32)) (.cells #[.int .i64 0] 3)
  have HB0 := hidX (keepb q3 (keepb q2 q1))
  have HP0 := hidX (((cl1_new w w.heap.size (.pointer (some ⟨B, 0, none⟩)) 26 rfl).below q2).below q3)
  have HX0 := hidX ((at_new (w.alloc (.cells #[.pointer (some ⟨B, 0, none⟩)] 26)) (w.heap.size + 1) x 32 (by simp)).below q3)
  have HH0 := hidX (cl1_new ((w.alloc (.cells #[.pointer (some ⟨B, 0, none⟩)] 26)).alloc (.cells #[.int .u64 (hI x), .int .u64 (lI x)] 32)) (w.heap.size + 2) (.int .i64 0) 3 (by simp))
  have HM0 := hidX (((hM.below q1).below q2).below q3)
  have KP := fun w => tpath_any B x w
  have HO : Hid ((∀ x ∈ L, x.ok) ∧ L.length ≤ 2147483647) := hidX ⟨ho, hl⟩
  have HR := hidX hR
  obtain ⟨p0, p1⟩ := HP0.out
  obtain ⟨x0, x1, -⟩ := HX0.out
  clear q1 q2 q3 hM ho hl hR hL
  refine (callsIn_wide (n := 9)).1 ?_
  refine callsIn_of_wp_marks Try.func18 rfl trivial ?_ rfl
  simp only [Try.ntmps18, List.size_toArray, List.length_cons, List.length_nil, Nat.reduceAdd, Nat.reduceSub, Array.replicate_succ, Array.replicate_zero, List.push_toArray, List.append_toArray, List.nil_append, List.cons_append]
  refine wpIn_wide.2 ?_
  go_wp2_with fail
  refine (KP _).mono ?_
  rintro e Wl ⟨rfl, hb⟩
  have HB1 := hidX (keepb hb HB0.out)
  have HP1 := hidX (HP0.out.below hb)
  have HH1 := hidX (HH0.out.below hb)
  have HM1 := hidX (HM0.out.below hb)
  have hWl : w.heap.size + 2 < Wl.heap.size := HH1.out.lt
  clear hb HB0 HP0 HX0 HH0 HM0 KP p0 p1 x0 x1
  go_wp2_with fail
  refine (wpIn_wide (n := 9)).1 ?_
  refine rangeY 9 (by decide) (gf := 30) (ba := #[.agg #[.pointer (some ⟨B, 0, none⟩), .int .u64 (hI x), .int .u64 (lI x)]]) (lb := #[]) rfl (enters_of Try.func30 (by kernel_rfl) rfl)
    (way_each (9 - 1) N (fun z => z = B ∨ z = g) (Wl.heap.size + 2) B F g cap wv L x HR.out Wl HM1.out (.inl (.inl rfl)) (.inl (.inr rfl)) HO.out.1 HO.out.2) (Nat.le_refl _) (fun h k => h.trans k) (fun V o o' h1 h2 => kw_put (by rintro (q | q) <;> omega) (by omega) V o o' h1 h2) (Below.refl _ _) (fun _ => rfl)
    (fun pre V => (TrN V B F g cap wv L ∧ Cl1 V w.heap.size (.pointer (some ⟨B, 0, none⟩)) ∧ Cl1 V (w.heap.size + 2) (.int .i64 (lastH L pre 0))) ∧ Below w.heap.size w V)
    (fun c pre V => False)
    (OwnFrom.and (Own.from (fun s A B row hs hg hr => ⟨hs.1.kept hg hr, hs.2.1.kept hg hr, hs.2.2.kept hg hr⟩) _) (ownFrom_below (Nat.le_refl _) (by omega)))
    (fun c s A B row hs hg hr => hs)
    ⟨⟨HM1.out, HP1.out, HH1.out⟩, HB1.out⟩
    (fun y a' V => a' = { tmps := #[.pointer (some ⟨B, 0, none⟩), .agg #[.int .u64 (hI x), .int .u64 (lI x)], .pointer (some ⟨w.heap.size, 0, none⟩), .pointer (some ⟨w.heap.size + 1, 0, none⟩), .int .i64 0, .pointer (some ⟨w.heap.size + 1 + 1, 0, none⟩), .int .i64 y, undef, .pointer (some ⟨B, 0, none⟩), .agg #[.int .u64 (hI x), .int .u64 (lI x)], .func (.func 30) #[.agg #[.pointer (some ⟨B, 0, none⟩), .int .u64 (hI x), .int .u64 (lI x)]] #[], .int .i64 y, undef, undef, undef, undef, undef, undef, undef], defers := [] })
    (fun y a' s A B row hs hg hr => hs) ?assign ?body ?done ?stop
  case assign =>
    rintro lo pre y V K ⟨⟨hi1, hi2, hi3⟩, hi4⟩ hK
    have HK := hidX (hK ({ tmps := #[.pointer (some ⟨B, 0, none⟩), .agg #[.int .u64 (hI x), .int .u64 (lI x)], .pointer (some ⟨w.heap.size, 0, none⟩), .pointer (some ⟨w.heap.size + 1, 0, none⟩), .int .i64 0, .pointer (some ⟨w.heap.size + 1 + 1, 0, none⟩), .int .i64 y, undef, .pointer (some ⟨B, 0, none⟩), .agg #[.int .u64 (hI x), .int .u64 (lI x)], .func (.func 30) #[.agg #[.pointer (some ⟨B, 0, none⟩), .int .u64 (hI x), .int .u64 (lI x)]] #[], .int .i64 y, undef, undef, undef, undef, undef, undef, undef], defers := [] }) V (KeepsFrom.refl _ _) (KW.refl _ _ _) ⟨⟨hi1, hi2, hi3⟩, hi4⟩ rfl)
    clear hK hi1 hi2 hi3 hi4
    unfold encI
    simp only [List.zip_toArray, List.zip_cons_cons, List.zip_nil_left, List.zip_nil_right, List.foldl_toArray, List.foldl_cons, List.foldl_nil, List.setIfInBounds_toArray, List.set_cons_zero, List.set_cons_succ, Array.zip]
    gi_wp2
    exact HK.out
  case body =>
    rintro lo pre y a' V hl - ⟨⟨hi1, hi2, hi3⟩, hi4⟩ rfl hlt
    have KH := thop_any B F g cap wv L y V hi1 HO.out.1
    have HI1 := hidX hi1
    have HI2 := hidX hi2
    have HI3 := hidX hi3
    have HI4 := hidX hi4
    obtain ⟨p0, p1⟩ := hi2
    have HE := hidX (lastH_one L pre y 0)
    have hwV : w.heap.size + 2 < V.heap.size := hi3.lt
    clear hi1 hi3 hi4 p1
    revert KH HE HI3
    generalize (ndAt L y).hop = hp
    generalize lastH L pre 0 = h0
    intro KH HI3 HE
    gi_wp2_with fail
    refine ⟨trivial, ?_⟩
    have KH2 : CallsIn (Fence.wide.inRound lo) 6 Try.prog 16 #[.pointer (some ⟨B, 0, none⟩), .int .i64 y] V _ := (callsIn_wide (n := 6)).2 KH
    refine KH2.mono ?_
    clear KH2
    rintro e V2 ⟨rfl, hb⟩
    have HM2 := hidX (HI1.out.below hb)
    have HP2 := hidX (HI2.out.below hb)
    have hH2 := HI3.out.below hb
    have HB2 := hidX (keepb hb HI4.out)
    have HKF : Hid (KeepsFrom Wl.heap.size V V2) := hidX ⟨hb.size, fun z o h1 h2 _ => (hb.block z (Array.getElem?_eq_some_iff.1 h2).1).trans h2⟩
    have HK2 : Hid (KW (fun z => z = B ∨ z = g) (Wl.heap.size + 2) V V2) := hidX (kw_below hb)
    clear hb HI1 HI2 HI3 HI4 KH p0
    by_cases c : 0 < hp
    · have c' : decide (0 < hp) = true := by simpa using c
      have HE2 : Hid (lastH L (pre ++ [y]) 0 = hp) := hidX (by rw [HE.out, if_pos c])
      have HG : Hid (KeepsFrom Wl.heap.size V (V2.setCell ⟨w.heap.size + 2, 0, none⟩ (.int .i64 hp)) ∧ KW (fun z => z = B ∨ z = g) (Wl.heap.size + 2) V (V2.setCell ⟨w.heap.size + 2, 0, none⟩ (.int .i64 hp)) ∧ (TrN (V2.setCell ⟨w.heap.size + 2, 0, none⟩ (.int .i64 hp)) B F g cap wv L ∧ Cl1 (V2.setCell ⟨w.heap.size + 2, 0, none⟩ (.int .i64 hp)) w.heap.size (.pointer (some ⟨B, 0, none⟩)) ∧ Cl1 (V2.setCell ⟨w.heap.size + 2, 0, none⟩ (.int .i64 hp)) (w.heap.size + 2) (.int .i64 (lastH L (pre ++ [y]) 0))) ∧ Below w.heap.size w (V2.setCell ⟨w.heap.size + 2, 0, none⟩ (.int .i64 hp))) := hidX (by
        have k := HK2.out.trans (kw_set (o := 0) (b := w.heap.size + 2) (by rintro (q | q) <;> omega) (by omega) V2 (.int .i64 hp))
        refine ⟨⟨k.1, fun z o h1 h2 h3 => ?_⟩, k, ⟨HM2.out.heap (hSet6 _ (by omega)) (hSet6 _ (by omega)), HP2.out.heap (hSet6 _ (by omega)), by rw [HE2.out]; exact hH2.set _⟩, HB2.out.setCell (p := ⟨w.heap.size + 2, 0, none⟩) (by simp) _⟩
        exact (hSet6 _ (by omega)).trans (HKF.out.same z o h1 h2 h3))
      obtain ⟨h1, h2⟩ := hH2
      clear c HE HM2 HP2 HB2 HK2 HKF
      gi_wp2
      exact HG.out
    · have c' : decide (0 < hp) = false := by simpa using c
      have HE2 : Hid (lastH L (pre ++ [y]) 0 = h0) := hidX (by rw [HE.out, if_neg c])
      have HH2 := hidX hH2
      clear c hH2
      gi_wp2
      exact ⟨HKF.out, HK2.out, ⟨HM2.out, HP2.out, by rw [HE2.out]; exact HH2.out⟩, HB2.out⟩
  case done =>
    rintro D ys V hD rfl ⟨⟨hi1, hi2, hi3⟩, hi4⟩ hK
    obtain ⟨h0, -⟩ := hi3
    have hc := h0
    have HB := hidX hi4
    clear hi1 hi2 hi4
    refine wl_nil8 (P := Try.prog) (ops := #[]) ?_
    go_wp2
    refine ⟨by simp, .inl ⟨_, _, rfl, run_takeDeferred hK, ?_⟩⟩
    refine ⟨_, ?_, rfl, HB.out.trans (belowK_b (w := w) (Nat.le_refl _) _ D _ _ (by omega) hK rfl rfl)⟩
    simp [results, Try.results18, go_sem]
  case stop =>
    rintro D c pre V hD hpre hi hK
    exact hi.elim
end Go.Proofs.Ytoejhhoniflpeab
