/-
  Part 3 of the proof: 4 texts, one behind the other.
-/
import Derived.Test.YtjgpbahglkaijaaPart2
import Derived.Test.YtjgpbahglkaijaaPart1
import Derived.Lib.BitFns
namespace Go.Proofs.Ytjgpbahglkaijaa
open Go.RowKit
set_option linter.unusedSimpArgs false
set_option linter.unusedVariables false

def wdV (l : List Nat) (k : Nat) : BitVec 32 := BitVec.ofNat 32 (numN13 ((l.drop (4 * k)).take 4))
theorem wd_lt (l : List Nat) (k : Nat) (hx : ∀ b ∈ l, b < 256) : numN13 ((l.drop (4 * k)).take 4) < 4294967296 := by
  have h2 := numN_lt ((l.drop (4 * k)).take 4) (fun x h => hx x (List.mem_of_mem_drop (List.mem_of_mem_take h)))
  have h3 : ((l.drop (4 * k)).take 4).length ≤ 4 := by rw [List.length_take]; omega
  have h4 := Nat.pow_le_pow_right (n := 256) (by omega) h3
  have : 256 ^ 4 = 4294967296 := by decide
  omega
theorem wd_uI (l : List Nat) (k : Nat) (hx : ∀ b ∈ l, b < 256) : uI (wdV l k) = ((numN13 ((l.drop (4 * k)).take 4) : Nat) : Int) := uI_of _ (wd_lt l k hx)
def stB (m : Nat) (at' : Int) (c : Int) : Bool := decide (0 ≤ at') && decide (at' ≤ (m : Int) / 4 - c)
theorem cstand_any (ao : Option Addr) (m cc : Nat) (n c : Int) (w : World) (hc : 0 ≤ c ∧ c ≤ 1000000) (hm : m ≤ 140737488355328) :
    Calls Try.prog 92 #[.slice ao m cc, .int .i64 n, .int .i64 c] w fun e w' => e = .returned (.bool (stB m n c)) ∧ w' = w := by
  unfold stB
  have hw : IntKind.i64.wrap ((m : Int) / 4 - c) = (m : Int) / 4 - c := by rw [IntKind.wrap_i64]; omega
  obtain ⟨q, hq⟩ : ∃ q, q = (m : Int) / 4 - c := ⟨_, rfl⟩
  by_cases h : 0 ≤ n
  · rw [decide_eq_true h]
    go_enter Try.func92, Try.ntmps92
    go_wp2
    go_ret
    exact ⟨rfl, rfl⟩
  · rw [decide_eq_false h]
    go_enter Try.func92, Try.ntmps92
    go_wp2
    go_ret
    exact ⟨rfl, rfl⟩
theorem wordAt_any (v : Value) (l : List Nat) (k : Nat) (w : World) (hv : RwX cB w v l) (hl : l.length ≤ 140737488355328) (hx : ∀ b ∈ l, b < 256) (hk : k < l.length / 4) :
    Calls Try.prog 93 #[v, .int .i64 (k : Int)] w fun e w' => e = .returned (.int .u32 (uI (wdV l k))) ∧ Below w.heap.size w w' := by
  have hw : IntKind.i64.wrap ((k : Int) * 4) = (k : Int) * 4 := by rw [IntKind.wrap_i64]; omega
  have K1 := get32_any v l ((k : Int) * 4) w hv hl hx (by omega) (by omega)
  have hc : 0 ≤ (k : Int) * 4 ∧ (k : Int) * 4 ≤ (l.length : Int) - ((4 : Nat) : Int) := by constructor <;> omega
  have e1 : ((gtN l ((k : Int) * 4) 4 : Nat) : Int) = uI (wdV l k) := by
    rw [wd_uI l k hx]
    unfold gtN
    rw [if_pos hc]
    have : ((k : Int) * 4).toNat = 4 * k := by omega
    rw [this]
  have e2 : gtE l ((k : Int) * 4) 4 = 0 := by unfold gtE; rw [if_pos hc]
  rw [e1, e2] at K1
  obtain ⟨ao, c, rfl, -⟩ := hv
  clear hc e1 e2
  go_enter Try.func93, Try.ntmps93
  go_wp2_with fail
  refine K1.mono ?_
  rintro e w1 ⟨rfl, hb⟩
  have HB := hid13 hb
  clear hb K1
  go_wp2
  go_ret
  exact ⟨rfl, HB.out⟩
def mpL (l : List Nat) (k c : Nat) : List (BitVec 32) := (List.range c).map fun j => wdV l (k + j)
theorem mpL_len (l : List Nat) (k c : Nat) : (mpL l k c).length = c := by unfold mpL; simp
theorem mpL_succ (l : List Nat) (k c : Nat) : mpL l k (c + 1) = mpL l k c ++ [wdV l (k + c)] := by unfold mpL; rw [List.range_succ, List.map_append]; rfl
theorem mpL_top (l : List Nat) (k n : Nat) : isMapB (mpL l k (mwN n)) n = topB (wdV l k) (2 ^ n) := by
  unfold isMapB
  rw [mpL_len, decide_eq_true rfl, Bool.true_and]
  have h := mwN_lo n
  obtain ⟨c, hc⟩ : ∃ c, mwN n = c + 1 := ⟨mwN n - 1, by omega⟩
  rw [hc]
  unfold mpL
  rw [List.range_succ_eq_map, List.map_cons]
  rfl
def rmP (l : List Nat) (k n : Nat) : List (BitVec 32) × Int :=
  if k + mwN n ≤ l.length / 4 then (if isMapB (mpL l k (mwN n)) n = true then (mpL l k (mwN n), 0) else ([], 25)) else ([], 30)
set_option maxRecDepth 100000 in
set_option maxHeartbeats 4000000 in
theorem readMap_any (v : Value) (l : List Nat) (k n : Nat) (w : World) (hv : RwX cB w v l) (hl : l.length ≤ 140737488355328) (hx : ∀ b ∈ l, b < 256) (hn : n ≤ 24) (hk : k ≤ 140737488355328) :
    Calls Try.prog 96 #[v, .int .i64 (k : Int), .int .i64 (n : Int)] w fun e w' => ∃ v', e = .returned (.tuple #[v', .int .i64 (rmP l k n).2]) ∧ w'.ownsRow w.heap.size 110 1 v' (rmP l k n).1.length ((rmP l k n).1.map cU) ∧ Below w.heap.size w w' := by
  have K1 := fun w => mapWords_any n hn w
  obtain ⟨ao, cc, hvf, -⟩ := id hv
  obtain ⟨i0, hi, hz0, hz1, hz2⟩ := info13 Try.infoU13
  obtain ⟨c, hc⟩ : ∃ c, c = mwN n := ⟨_, rfl⟩
  have hch := mwN_hi n hn
  have HR : Hid (rmP l k n = if k + c ≤ l.length / 4 then (if isMapB (mpL l k c) n = true then (mpL l k c, (0 : Int)) else ([], 25)) else ([], 30)) := by show _ = _; rw [hc]; rfl
  rw [← hc] at K1 hch
  have K2 := fun w => cstand_any ao l.length cc (k : Int) (c : Int) w ⟨by omega, by omega⟩ hl
  subst hvf
  by_cases hs : k + c ≤ l.length / 4
  · have e : stB l.length (k : Int) (c : Int) = true := by unfold stB; simp; omega
    rw [e] at K2
    have hmt : isMapB (mpL l k c) n = topB (wdV l k) (2 ^ n) := by rw [hc]; exact mpL_top l k n
    have HR' := HR.out
    rw [if_pos hs, hmt] at HR'
    clear HR hmt
    have hw0 := wordAt_any (.slice ao l.length cc) l k w hv hl hx (by have := mwN_lo n; omega)
    have KB := fun w => beginsMap_any (wdV l k) n w hn
    generalize topB (wdV l k) (2 ^ n) = z at *
    cases z with
    | false =>
      have HR : Hid (rmP l k n = ([], 25)) := HR'
      clear e hc hv hn hx hl hk hs HR' hch hi hz0 hz1 hz2
      go_enter Try.func96, Try.ntmps96
      go_wp2_with (first | (go_at_call 115; refine (K1 _).mono ?_; rintro e w1 ⟨rfl, hw1⟩; replace hw1 := hw1.symm; subst hw1) | (go_at_call 92; refine (K2 _).mono ?_; rintro e w1 ⟨rfl, hw1⟩; replace hw1 := hw1.symm; subst hw1) | fail)
      refine hw0.mono ?_
      rintro e w1 ⟨rfl, hb⟩
      have HB := hid13 hb
      clear hb
      go_wp2_with (first | (go_at_call 116; refine (KB _).mono ?_; rintro e w1 ⟨rfl, hw1⟩; replace hw1 := hw1.symm; subst hw1) | fail)
      exact bodyPost_ret (v := .tuple #[.slice none 0 0, .int .i64 25]) (by simp [results, Try.results96, go_sem]) rfl ⟨_, by rw [HR.out], by rw [HR.out]; exact World.ownsRow_nil _ _ _ _, HB.out⟩
    | true =>
    have HR : Hid (rmP l k n = (mpL l k c, 0)) := HR'
    clear HR'
    have hby : i0.bytes * c ≤ 281474976710656 := by rw [hz2]; omega
    have hmx : c ≤ maxLen := by unfold maxLen; omega
    have HV := hid13 hv
    have HN := hid13 hn
    have HC : Hid (c = mwN n ∧ c ≤ 524288 ∧ k + c ≤ l.length / 4 ∧ l.length ≤ 140737488355328) := ⟨hc, hch, hs, hl⟩
    have HX := hid13 hx
    clear e hc hv hn hx
    go_enter Try.func96, Try.ntmps96
    go_wp2_with (first | (go_at_call 115; refine (K1 _).mono ?_; rintro e w1 ⟨rfl, hw1⟩; replace hw1 := hw1.symm; subst hw1) | (go_at_call 92; refine (K2 _).mono ?_; rintro e w1 ⟨rfl, hw1⟩; replace hw1 := hw1.symm; subst hw1) | fail)
    refine hw0.mono ?_
    rintro e w1 ⟨rfl, hb1⟩
    have hle1 : w.heap.size ≤ w1.heap.size := hb1.size
    have HB1 := hid13 hb1
    have HLE := hid13 hle1
    clear hb1 hw0
    go_wp2_with (first | (go_at_call 116; refine (KB _).mono ?_; rintro e w9 ⟨rfl, hw9⟩; replace hw9 := hw9.symm; subst hw9) | (at_make; apply stopHere9))
    refine (show wpList _ _ _ _ _ _ from ?_)
    refine wpList_make_full _ rfl _ _ 73 rfl w.heap.size 110 i0 (.int .u32 0) 1 Try.underlying73 hi hz0 hz1 .i64 .i64 _ _ c rfl rfl rfl rfl hby hmx hle1 ?_
    intro w2 hown2 hgrow
    have HS0 : Hid (Below w.heap.size w w2 ∧ w2.ownsRow w.heap.size 110 1 (.slice (some ⟨w1.heap.size, 0, none⟩) c c) c ((mpL l k 0 ++ List.replicate c 0#32).map cU)) := by
      refine ⟨HB1.out.grown hgrow hle1 (fun z hz => by cases hz), ?_⟩
      have e : (mpL l k 0 ++ List.replicate c 0#32).map cU = (madeCells (Value.int .u32 0).cells (c * 1)).toList := by
        show _ = (madeCells #[Value.int .u32 0] (c * 1)).toList
        rw [toList_madeCells_one, Nat.mul_one]
        show (List.replicate c 0#32).map cU = _
        rw [List.map_replicate]
        unfold cU
        rw [uI_zero]
      rw [e]; exact hown2
    clear hown2 hgrow hby K1 K2 KB hmx hl hk hs hch hle1
    go_wp2_with fail
    go_loopg [10, 28] c (fun g x10 i wr => ∃ (j : Nat), j + g = c ∧ i = .int .i64 (j : Int) ∧ Hid (Below w.heap.size w wr ∧ wr.ownsRow w.heap.size 110 1 (.slice (some ⟨w1.heap.size, 0, none⟩) c c) c ((mpL l k j ++ List.replicate (c - j) 0#32).map cU)))
    case atStart => exact ⟨0, by omega, rfl, HS0⟩
    case round =>
      clear HS0
      obtain ⟨j, hj, rfl, HS⟩ := hrel
      by_cases hlt : j < c
      · have hli : (j : Int) < (c : Int) := by omega
        have K3 := fun w' (hb : Below w.heap.size w w') => wordAt_any (.slice ao l.length cc) l (k + j) w' (HV.out.below hb) HC.out.2.2.2 HX.out (by have := HC.out.2.2.1; omega)
        have K3' := K3 wr HS.out.1
        rw [show ((k + j : Nat) : Int) = (k : Int) + (j : Int) by omega] at K3'
        have mk : IntKind.i64.wrap ((k : Int) + (j : Int)) = (k : Int) + (j : Int) := by rw [IntKind.wrap_i64]; have := HC.out; omega
        have mj : IntKind.i64.wrap ((j : Int) + 1) = (j : Int) + 1 := by rw [IntKind.wrap_i64]; have := HC.out; omega
        have HK : Hid (j + gk = c ∧ j < c) := ⟨hj, hlt⟩
        clear K3 hj hlt
        go_wp2_with fail
        refine K3'.mono ?_
        rintro e w3 ⟨rfl, hb3⟩
        have hO3 := own_b13 hb3 HS.out.2
        have hln : (mpL l k j ++ List.replicate (c - j) 0#32).length = c := by rw [List.length_append, mpL_len, List.length_replicate]; have := HK.out; omega
        have c3 : w3.cell? ⟨w1.heap.size, j, none⟩ = some (.int .u32 0) := by
          rw [hO3.cellAt j (by have := HK.out; omega), List.getElem?_map, List.getElem?_append_right (by rw [mpL_len]; exact Nat.le_refl _), mpL_len, Nat.sub_self, List.getElem?_replicate, if_pos (by have := HK.out; omega)]
          show some (cU 0#32) = _
          unfold cU; rw [uI_zero]
        have f3 := hO3.frozenAt j
        have hst := (hO3.stored j (.int .u32 (uI (wdV l (k + j))))).1
        have e1 : ((mpL l k j ++ List.replicate (c - j) 0#32).map cU).set j (.int .u32 (uI (wdV l (k + j)))) = (mpL l k (j + 1) ++ List.replicate (c - (j + 1)) 0#32).map cU := by
          show ((mpL l k j ++ List.replicate (c - j) 0#32).map cU).set j (cU (wdV l (k + j))) = _
          rw [← List.map_set, mpL_succ]
          congr 1
          rw [List.set_append_right _ _ (by rw [mpL_len]; exact Nat.le_refl _), mpL_len, Nat.sub_self]
          obtain ⟨z, hz⟩ : ∃ z, c - j = z + 1 := ⟨c - j - 1, by have := HK.out; omega⟩
          rw [hz, show c - (j + 1) = z by omega, List.replicate_succ, List.set_cons_zero, List.append_assoc]
          rfl
        rw [e1] at hst
        have HS4 : Hid (Below w.heap.size w (w3.setCell ⟨w1.heap.size, j, none⟩ (.int .u32 (uI (wdV l (k + j))))) ∧ _) := ⟨(keepb hb3 HS.out.1).setCell HLE.out _, hst⟩
        clear K3' hb3 hO3 hln hst e1 HS
        go_wp2
        go_roundg (gk - 1)
        case measure => have := HK.out; omega
        case rel => exact ⟨j + 1, by have := HK.out; omega, rfl, HS4⟩
      · have hli : ¬ (j : Int) < (c : Int) := by omega
        obtain rfl : j = c := by omega
        have HO : Hid (wr.ownsRow w.heap.size 110 1 (.slice (some ⟨w1.heap.size, 0, none⟩) j j) j ((mpL l k j).map cU)) := by
          have := HS.out.2
          rw [Nat.sub_self, List.replicate_zero, List.append_nil] at this
          exact this
        have HB := hid13 HS.out.1
        clear HS hj hlt
        go_wp2
        exact bodyPost_ret (v := .tuple #[.slice (some ⟨w1.heap.size, 0, none⟩) j j, .int .i64 0]) (by simp [results, Try.results96, go_sem]) rfl ⟨_, by rw [HR.out], by rw [HR.out]; show World.ownsRow _ _ _ _ _ (mpL l k j).length _; rw [mpL_len]; exact HO.out, HB.out⟩
  · have e : stB l.length (k : Int) (c : Int) = false := by unfold stB; simp; omega
    rw [e] at K2
    have HR' := HR.out
    rw [if_neg hs] at HR'
    have HR2 : Hid (rmP l k n = ([], 30)) := HR'
    clear HR HR' e hc hv hn hx hl hk hs
    go_enter Try.func96, Try.ntmps96
    go_wp2_with (first | (go_at_call 115; refine (K1 _).mono ?_; rintro e w1 ⟨rfl, hw1⟩; replace hw1 := hw1.symm; subst hw1) | (go_at_call 92; refine (K2 _).mono ?_; rintro e w1 ⟨rfl, hw1⟩; replace hw1 := hw1.symm; subst hw1))
    exact bodyPost_ret (v := .tuple #[.slice none 0 0, .int .i64 30]) (by simp [results, Try.results96, go_sem]) rfl ⟨_, by rw [HR2.out], by rw [HR2.out]; exact World.ownsRow_nil _ _ _ _, Below.refl _ _⟩
end Go.Proofs.Ytjgpbahglkaijaa
namespace Go.Proofs.Ytjgpbahglkaijaa
open Go.RowKit
set_option linter.unusedSimpArgs false
set_option linter.unusedVariables false

structure Ins where
  op : Int
  n : Int
  m : List (BitVec 32)
noncomputable def insO (l : List Nat) (k : Nat) : Int := uI (wdV l k) / 16777216
noncomputable def insN (l : List Nat) (k : Nat) : Int := uI (wdV l k) % 16777216
def tkB (o n : Int) : Bool := decide (kLo o ≤ n) && decide (n ≤ kHi o)
noncomputable def rdP (l : List Nat) (k : Nat) : List (BitVec 32) × Int :=
  if isOp (insO l k) = true then
    if insN l k ≤ kRm (insO l k) then
      if tkB (insO l k) (insN l k) = true then
        if insO l k = 2 then rmP l (k + 1) (insN l k).toNat else ([], 0)
      else ([], 1)
    else ([], 24)
  else ([], 24)
def AtIF (w : World) (B : Nat) (op n : Int) (v : Value) : Prop := AtI w B op n v ∧ w.frozen? ⟨B, 0, none⟩ = false ∧ w.frozen? ⟨B, 1, none⟩ = false ∧ w.frozen? ⟨B, 2, none⟩ = false
theorem AtIF.below {w w' : World} {B : Nat} {op n : Int} {v : Value} (h : AtIF w B op n v) (hb : Below w.heap.size w w') : AtIF w' B op n v :=
  ⟨h.1.below hb, keepf hb h.1.1 h.2.1, keepf hb h.1.2.1 h.2.2.1, keepf hb h.1.2.2 h.2.2.2⟩
theorem atif_new (w : World) (op n : Int) (v : Value) (T : TypeId) : AtIF (w.alloc (.cells #[.int .i64 op, .int .i64 n, v] T)) w.heap.size op n v := by
  refine ⟨ati_new w op n v T, ?_, ?_, ?_⟩ <;> simp [go_sem]
theorem bset3i {n C : Nat} {w W : World} (h : Below n w W) (hp : n ≤ C) (u0 u1 u2 : Value) : Below n w (((W.setCell ⟨C, 0, none⟩ u0).setCell ⟨C, 1, none⟩ u1).setCell ⟨C, 2, none⟩ u2) := ((h.setCell (p := ⟨C, 0, none⟩) hp _).setCell (p := ⟨C, 1, none⟩) hp _).setCell (p := ⟨C, 2, none⟩) hp _
set_option maxRecDepth 100000 in
set_option maxHeartbeats 8000000 in
theorem read_out (v : Value) (l : List Nat) (a : Int) (w : World) (hv : RwX cB w v l) (hl : l.length ≤ 140737488355328) (ha : stB l.length a 1 = false) :
    Calls Try.prog 74 #[v, .int .i64 a] w fun e w' => e = .returned (.tuple #[.agg #[.int .i64 0, .int .i64 0, .slice none 0 0], .int .i64 30]) ∧ Below w.heap.size w w' := by
  obtain ⟨ao, cc, rfl, -⟩ := hv
  have K1 := fun w => cstand_any ao l.length cc a 1 w ⟨by omega, by omega⟩ hl
  rw [ha] at K1
  clear ha hl
  go_enter Try.func74, Try.ntmps74
  go_wp2_with (go_at_call 92; refine (K1 _).mono ?_; rintro e w1 ⟨rfl, hw1⟩; replace hw1 := hw1.symm; subst hw1)
  exact bodyPost_ret (v := .tuple #[.agg #[.int .i64 0, .int .i64 0, .slice none 0 0], .int .i64 30]) (by simp [results, Try.results74, go_sem]) rfl ⟨rfl, bl1 _ _⟩
set_option maxRecDepth 100000 in
set_option maxHeartbeats 16000000 in
theorem read_in (v : Value) (l : List Nat) (k : Nat) (w : World) (hv : RwX cB w v l) (hl : l.length ≤ 140737488355328) (hx : ∀ b ∈ l, b < 256) (hk : k < l.length / 4) :
    Calls Try.prog 74 #[v, .int .i64 (k : Int)] w fun e w' => ∃ v', e = .returned (.tuple #[.agg #[.int .i64 (insO l k), .int .i64 (insN l k), v'], .int .i64 (rdP l k).2]) ∧ w'.ownsRow w.heap.size 110 1 v' (rdP l k).1.length ((rdP l k).1.map cU) ∧ Below w.heap.size w w' := by
  obtain ⟨ao, cc, hvf, -⟩ := id hv
  have K1 := fun w => cstand_any ao l.length cc (k : Int) 1 w ⟨by omega, by omega⟩ hl
  have e : stB l.length (k : Int) 1 = true := by unfold stB; simp; omega
  rw [e] at K1
  have q1 := bl1 w (.cells #[.int .i64 0, .int .i64 0, .slice none 0 0] 75)
  have a1 := atif_new w 0 0 (.slice none 0 0) 75
  have K2 := wordAt_any v l k _ (hv.below q1) hl hx hk
  have HV := hid13 hv
  have HL := hid13 hl
  have HX := hid13 hx
  have HK := hid13 hk
  have HB1 := hid13 q1
  have HA1 := hid13 a1
  have hX0 := uI_lo (wdV l k)
  have hX1 := uI_up (wdV l k)
  obtain ⟨X, hX⟩ : ∃ X, X = uI (wdV l k) := ⟨_, rfl⟩
  obtain ⟨O, hO⟩ : ∃ O : Nat, (O : Int) = insO l k := ⟨(insO l k).toNat, by unfold insO; omega⟩
  obtain ⟨N, hN⟩ : ∃ N : Nat, (N : Int) = insN l k := ⟨(insN l k).toNat, by unfold insN; omega⟩
  have HR : Hid (rdP l k = if isOp (O : Int) = true then (if (N : Int) ≤ kRm (O : Int) then (if tkB (O : Int) (N : Int) = true then (if (O : Int) = 2 then rmP l (k + 1) N else ([], (0 : Int))) else ([], 1)) else ([], 24)) else ([], 24)) := by
    show _ = _
    unfold rdP
    rw [← hO, ← hN, Int.toNat_natCast]
  have HQ : Hid (((O : Nat) : Int) = insO l k ∧ ((N : Nat) : Int) = insN l k) := ⟨hO, hN⟩
  have x1 : X / 16777216 = (O : Int) := by rw [hX, hO]; rfl
  have x2 : X % 16777216 = (N : Int) := by rw [hX, hN]; rfl
  rw [← hX] at K2 hX0 hX1
  rw [← hO, ← hN]
  subst hvf
  clear e q1 a1 hv hl hx hk hX hO hN
  go_enter Try.func74, Try.ntmps74
  go_wp2_with (go_at_call 92; refine (K1 _).mono ?_; rintro e w1 ⟨rfl, hw1⟩; replace hw1 := hw1.symm; subst hw1)
  refine K2.mono ?_
  rintro e w2 ⟨rfl, hb2⟩
  have HB2 := hid13 (keepb hb2 HB1.out)
  have HA2 := hid13 (HA1.out.below hb2)
  clear K1 K2 HB1 HA1 hb2
  have q3 := bl1 w2 (.cells #[.int .i64 (O : Int), .int .i64 (N : Int), .slice none 0 0] 75)
  have a3 := atif_new w2 (O : Int) (N : Int) (.slice none 0 0) 75
  have HB3 := hid13 (keepb q3 HB2.out)
  have HA3 := hid13 (HA2.out.below q3)
  have HI3 := hid13 a3
  have hsz : w.heap.size ≤ w2.heap.size := HB2.out.size
  have hne : ¬ w2.heap.size = w.heap.size := by have := cell_in HA2.out.1.1; omega
  obtain ⟨B, hB⟩ : ∃ B, B = w2.heap.size := ⟨_, rfl⟩
  go_wp2_with fail
  refine (kindOf_any (O : Int) _).mono ?_
  rintro e w4 ⟨rfl, hb4⟩
  have HB4 := hid13 (keepb hb4 HB3.out)
  have HA4 := hid13 (HA3.out.below hb4)
  have HI4 := hid13 (HI3.out.below hb4)
  clear HB3 HA3 HI3 hb4 q3 a3 HB2 HA2
  rw [← hB] at HI4 hsz hne ⊢
  clear hB
  cases ho : isOp (O : Int) with
  | false =>
    have HR2 : Hid (rdP l k = ([], 24)) := by show _ = _; rw [HR.out, if_neg (by rw [ho]; decide)]
    rw [kindV_no ho]
    have q5 := bl1 w4 (.cells #[.int .i64 0, .int .i64 0, .int .i64 0, .bool false] 164)
    have HB5 := hid13 (keepb q5 HB4.out)
    obtain ⟨⟨g0, g1, g2⟩, f0, f1, f2⟩ := HA4.out.below q5
    obtain ⟨⟨i0, i1, i2⟩, -⟩ := HI4.out.below q5
    clear HR HI4 HA4 HB4 q5 ho
    go_wp2
    exact bodyPost_ret (v := .tuple #[.agg #[.int .i64 (O : Int), .int .i64 (N : Int), .slice none 0 0], .int .i64 24]) (by simp [results, Try.results74, go_sem, *]) rfl ⟨_, by rw [HR2.out], by rw [HR2.out]; exact World.ownsRow_nil _ _ _ _, bset3i HB5.out (Nat.le_refl _) _ _ _⟩
  | true =>
    have HR2 : Hid (rdP l k = if (N : Int) ≤ kRm (O : Int) then (if tkB (O : Int) (N : Int) = true then (if (O : Int) = 2 then rmP l (k + 1) N else ([], (0 : Int))) else ([], 1)) else ([], 24)) := by show _ = _; rw [HR.out, if_pos ho]
    rw [kindV_op ho]
    have q5 := bl1 w4 (.cells #[.int .i64 (kLo (O : Int)), .int .i64 (kHi (O : Int)), .int .i64 (kRm (O : Int)), .bool ((O : Int) == 2)] 164)
    have HB5 := hid13 (keepb q5 HB4.out)
    have HA5 := hid13 (HA4.out.below q5)
    have HI5 := hid13 (HI4.out.below q5)
    have K6 := fun w => takes_any (kLo (O : Int)) (kHi (O : Int)) (kRm (O : Int)) ((O : Int) == 2) (N : Int) w
    have HT : Hid (tkB (O : Int) (N : Int) = (decide (kLo (O : Int) ≤ (N : Int)) && decide ((N : Int) ≤ kHi (O : Int)))) := rfl
    have HT2 : Hid (tkB (O : Int) (N : Int) = true → (O : Int) = 2 → N ≤ 24) := by
      intro h1 h2
      rw [h2] at h1
      unfold tkB at h1
      simp at h1
      have := h1.2
      unfold kHi at this
      simp at this
      omega
    rw [← HT.out] at K6
    obtain ⟨⟨g0, g1, g2⟩, f0, f1, f2⟩ := HA5.out
    obtain ⟨⟨i0, i1, i2⟩, j0, j1, j2⟩ := HI5.out
    obtain ⟨b, hb⟩ : ∃ b, b = ((O : Int) == 2) := ⟨_, rfl⟩
    have HBO := hid13 hb
    rw [← hb] at K6 HB5 HA5 HI5 g0 g1 g2 f0 f1 f2 i0 i1 i2 j0 j1 j2 ⊢
    generalize kLo (O : Int) = lo at *
    generalize kHi (O : Int) = hi at *
    generalize kRm (O : Int) = rm at *
    generalize tkB (O : Int) (N : Int) = t at *
    clear HR HA4 HI4 HB4 q5 ho hb HT
    by_cases hr : (N : Int) ≤ rm
    · have HR3 : Hid (rdP l k = if t = true then (if (O : Int) = 2 then rmP l (k + 1) N else ([], (0 : Int))) else ([], 1)) := by show _ = _; rw [HR2.out, if_pos hr]
      clear HR2
      go_wp2_with fail
      refine (K6 _).mono ?_
      rintro e w6 ⟨rfl, hb6⟩
      have HB6 := hid13 (keepb hb6 HB5.out)
      have HA6 := hid13 (HA5.out.below hb6)
      have HI6 := hid13 (HI5.out.below hb6)
      have k6 : w6.cell? ⟨w4.heap.size, 3, none⟩ = some (.bool b) := keepc hb6 (by simp [go_sem])
      clear g0 g1 g2 f0 f1 f2 i0 i1 i2 j0 j1 j2 HB5 HA5 HI5 K6 hb6
      obtain ⟨⟨g0, g1, g2⟩, f0, f1, f2⟩ := HA6.out
      obtain ⟨⟨i0, i1, i2⟩, j0, j1, j2⟩ := HI6.out
      cases t with
      | false =>
        have HR4 : Hid (rdP l k = ([], 1)) := HR3
        clear HR3 HI6 HA6
        go_wp2
        exact bodyPost_ret (v := .tuple #[.agg #[.int .i64 (O : Int), .int .i64 (N : Int), .slice none 0 0], .int .i64 1]) (by simp [results, Try.results74, go_sem, *]) rfl ⟨_, by rw [HR4.out], by rw [HR4.out]; exact World.ownsRow_nil _ _ _ _, bset3i HB6.out (Nat.le_refl _) _ _ _⟩
      | true =>
        have HR4 : Hid (rdP l k = if (O : Int) = 2 then rmP l (k + 1) N else ([], (0 : Int))) := HR3
        clear HR3
        cases b with
        | false =>
          have h2 : ¬ (O : Int) = 2 := by intro e; have := HBO.out; rw [e] at this; cases this
          have HR5 : Hid (rdP l k = ([], 0)) := by show _ = _; rw [HR4.out, if_neg h2]
          clear HR4 HI6 HA6 h2
          go_wp2
          exact bodyPost_ret (v := .tuple #[.agg #[.int .i64 (O : Int), .int .i64 (N : Int), .slice none 0 0], .int .i64 0]) (by simp [results, Try.results74, go_sem, *]) rfl ⟨_, by rw [HR5.out], by rw [HR5.out]; exact World.ownsRow_nil _ _ _ _, bset3i HB6.out (Nat.le_refl _) _ _ _⟩
        | true =>
          have h2 : (O : Int) = 2 := by have := HBO.out; simpa using this.symm
          have HR5 : Hid (rdP l k = rmP l (k + 1) N) := by show _ = _; rw [HR4.out, if_pos h2]
          have hk1 : k + 1 ≤ 140737488355328 := by have := HK.out; have := HL.out; omega
          have K7 := readMap_any (.slice ao l.length cc) l (k + 1) N w6 (HV.out.below HB6.out) HL.out HX.out (HT2.out rfl h2) hk1
          rw [show ((k + 1 : Nat) : Int) = (k : Int) + 1 by omega] at K7
          have mk : IntKind.i64.wrap ((k : Int) + 1) = (k : Int) + 1 := by rw [IntKind.wrap_i64]; omega
          rw [← HR5.out] at K7
          clear HR4 h2 hk1 HR5 HT2 HBO
          go_wp2_with fail
          refine K7.mono ?_
          rintro e w8 ⟨v8, rfl, hO8, hb8⟩
          have HB8 := hid13 (keepb hb8 HB6.out)
          have HO8 := hid13 hO8
          clear g0 g1 g2 f0 f1 f2 i0 i1 i2 j0 j1 j2
          obtain ⟨⟨g0, g1, g2⟩, f0, f1, f2⟩ := HA6.out.below hb8
          obtain ⟨⟨i0, i1, i2⟩, j0, j1, j2⟩ := HI6.out.below hb8
          have hlt8 : Hid (B < w6.heap.size ∧ w.heap.size ≤ B ∧ w.heap.size < w6.heap.size) := ⟨cell_in HI6.out.1.1, hsz, cell_in HA6.out.1.1⟩
          obtain ⟨ao8, c8, hv8⟩ := own_form hO8
          obtain ⟨z, hz⟩ : ∃ z, z = (rdP l k).2 := ⟨_, rfl⟩
          obtain ⟨M, hM⟩ : ∃ M, M = (rdP l k).1 := ⟨_, rfl⟩
          rw [← hM] at hv8 HO8
          rw [← hz]
          subst hv8
          have HZ : Hid (z = (rdP l k).2 ∧ M = (rdP l k).1) := ⟨hz, hM⟩
          clear hb8 hO8 HA6 HI6 K7 HB6 k6 hz hM
          go_wp2
          refine bodyPost_ret (v := .tuple #[.agg #[.int .i64 (O : Int), .int .i64 (N : Int), .slice ao8 M.length c8], .int .i64 z]) (by simp [results, Try.results74, go_sem, *]) rfl ⟨_, by rw [HZ.out.1], ?_, bset3i (HB8.out.setCell (p := ⟨B, 2, none⟩) hsz _) (Nat.le_refl _) _ _ _⟩
          rw [← HZ.out.2]
          have h1 := hlt8.out
          exact own_wide13 (ownsRow_setCell_below (ownsRow_setCell_below (ownsRow_setCell_below (ownsRow_setCell_below HO8.out h1.1 _) h1.2.2 _) h1.2.2 _) h1.2.2 _) (by omega)
    · have HR3 : Hid (rdP l k = ([], 24)) := by show _ = _; rw [HR2.out, if_neg hr]
      clear HR2 HT2
      go_wp2
      exact bodyPost_ret (v := .tuple #[.agg #[.int .i64 (O : Int), .int .i64 (N : Int), .slice none 0 0], .int .i64 24]) (by simp [results, Try.results74, go_sem, *]) rfl ⟨_, by rw [HR3.out], by rw [HR3.out]; exact World.ownsRow_nil _ _ _ _, bset3i HB5.out (Nat.le_refl _) _ _ _⟩
noncomputable def dcE (l : List Nat) (a : Int) : Int := if stB l.length a 1 = true then (rdP l a.toNat).2 else 30
noncomputable def dcI (l : List Nat) (a : Int) : Ins := if dcE l a = 0 then ⟨insO l a.toNat, insN l a.toNat, (rdP l a.toNat).1⟩ else ⟨0, 0, []⟩
noncomputable def dcZ (l : List Nat) (a : Int) : Int := if dcE l a = 0 then 1 + ((dcI l a).m.length : Int) else 0
def insV (i : Ins) (v : Value) : Value := .agg #[.int .i64 i.op, .int .i64 i.n, v]
theorem rdP_len (l : List Nat) (k : Nat) : (rdP l k).1.length ≤ 524288 := by
  unfold rdP
  split
  · split
    · split
      · rename_i h1 h2 h3
        split
        · rename_i h4
          unfold rmP
          split
          · split
            · rw [mpL_len]
              rw [h4] at h3
              unfold tkB at h3
              simp at h3
              have := h3.2
              unfold kHi at this
              simp at this
              exact mwN_hi _ (by omega)
            · simp
          · simp
        · simp
      · simp
    · simp
  · simp
set_option maxRecDepth 100000 in
set_option maxHeartbeats 16000000 in
theorem decode_any (v : Value) (l : List Nat) (a : Int) (w : World) (hv : RwX cB w v l) (hl : l.length ≤ 140737488355328) (hx : ∀ b ∈ l, b < 256) :
    Calls Try.prog 53 #[v, .int .i64 a] w fun e w' => ∃ v', e = .returned (.tuple #[insV (dcI l a) v', .int .i64 (dcZ l a), .int .i64 (dcE l a)]) ∧ w'.ownsRow w.heap.size 110 1 v' (dcI l a).m.length ((dcI l a).m.map cU) ∧ Below w.heap.size w w' := by
  have q1 := bl1 w (.cells #[.int .i64 0, .int .i64 0, .slice none 0 0] 75)
  have a1 := atif_new w 0 0 (.slice none 0 0) 75
  have HA1 := hid13 a1
  have HB1 := hid13 q1
  have hcap : Hid (w.heap.size < (w.alloc (.cells #[.int .i64 0, .int .i64 0, .slice none 0 0] 75)).heap.size) := by show _ < _; simp
  obtain ⟨O, N, M, z, HZ, K1⟩ : ∃ (O N : Int) (M : List (BitVec 32)) (z : Int), Hid (z = dcE l a ∧ M.length ≤ 524288 ∧ (z = 0 → dcI l a = ⟨O, N, M⟩ ∧ dcZ l a = 1 + (M.length : Int))) ∧ Calls Try.prog 74 #[v, .int .i64 a] (w.alloc (.cells #[.int .i64 0, .int .i64 0, .slice none 0 0] 75)) fun e w' => ∃ v', e = .returned (.tuple #[.agg #[.int .i64 O, .int .i64 N, v'], .int .i64 z]) ∧ w'.ownsRow (w.alloc (.cells #[.int .i64 0, .int .i64 0, .slice none 0 0] 75)).heap.size 110 1 v' M.length (M.map cU) ∧ Below (w.alloc (.cells #[.int .i64 0, .int .i64 0, .slice none 0 0] 75)).heap.size (w.alloc (.cells #[.int .i64 0, .int .i64 0, .slice none 0 0] 75)) w' := by
    cases hs : stB l.length a 1 with
    | false =>
      refine ⟨0, 0, [], 30, ⟨by unfold dcE; rw [if_neg (by rw [hs]; decide)], by simp, fun h => by cases h⟩, ?_⟩
      refine (read_out v l a _ (hv.below q1) hl hs).mono ?_
      rintro e w' ⟨rfl, hb⟩
      exact ⟨_, rfl, World.ownsRow_nil _ _ _ _, hb⟩
    | true =>
      have h2 : 0 ≤ a ∧ a.toNat < l.length / 4 := by unfold stB at hs; simp at hs; constructor <;> omega
      obtain ⟨k, rfl⟩ : ∃ k : Nat, a = (k : Int) := ⟨a.toNat, by omega⟩
      rw [Int.toNat_natCast] at h2
      have he : dcE l (k : Int) = (rdP l k).2 := by unfold dcE; rw [if_pos hs, Int.toNat_natCast]
      refine ⟨insO l k, insN l k, (rdP l k).1, (rdP l k).2, ⟨he.symm, rdP_len l k, fun h => ?_⟩, read_in v l k _ (hv.below q1) hl hx h2.2⟩
      have e1 : dcI l (k : Int) = ⟨insO l k, insN l k, (rdP l k).1⟩ := by unfold dcI; rw [if_pos (he.trans h), Int.toNat_natCast]
      exact ⟨e1, by unfold dcZ; rw [if_pos (he.trans h), e1]⟩
  obtain ⟨ao, cc, hvf, -⟩ := id hv
  subst hvf
  clear q1 a1 hv hl hx
  go_enter Try.func53, Try.ntmps53
  go_wp2_with fail
  refine K1.mono ?_
  rintro e w2 ⟨v2, rfl, hO2, hb2⟩
  have HB2 := hid13 (keepb hb2 HB1.out)
  have HA2 := hid13 (HA1.out.below hb2)
  obtain ⟨ao2, c2, hv2⟩ := own_form hO2
  subst hv2
  have q3 := bl1 w2 (.cells #[.int .i64 O, .int .i64 N, .slice ao2 M.length c2] 75)
  have HO3 := hid13 (own_b13 q3 hO2)
  obtain ⟨⟨g0, g1, g2⟩, f0, f1, f2⟩ := HA2.out.below q3
  have HB3 := hid13 (keepb q3 HB2.out)
  have hne : ¬ w2.heap.size = w.heap.size := by have := cell_in HA2.out.1.1; omega
  have mw : IntKind.i64.wrap (1 + (M.length : Int)) = 1 + (M.length : Int) := by rw [IntKind.wrap_i64]; have := HZ.out.2.1; omega
  clear q3 HA2 HB2 hb2 hO2 HA1 HB1 K1
  by_cases h0 : z = 0
  · subst h0
    have HF := hid13 (HZ.out.2.2 rfl)
    have HE : Hid (dcE l a = 0) := HZ.out.1.symm
    clear HZ
    obtain ⟨w3, hw3⟩ : ∃ w3, w3 = w2.alloc (.cells #[.int .i64 O, .int .i64 N, .slice ao2 M.length c2] 75) := ⟨_, rfl⟩
    have hi0 : w3.cell? ⟨w2.heap.size, 0, none⟩ = some (.int .i64 O) := by rw [hw3]; simp [go_sem]
    have hi1 : w3.cell? ⟨w2.heap.size, 1, none⟩ = some (.int .i64 N) := by rw [hw3]; simp [go_sem]
    have hi2 : w3.cell? ⟨w2.heap.size, 2, none⟩ = some (.slice ao2 M.length c2) := by rw [hw3]; simp [go_sem]
    rw [← hw3] at HO3 g0 g1 g2 f0 f1 f2 HB3
    go_wp2
    rw [← hw3]
    clear hw3
    go_region
    go_wp2
    refine bodyPost_ret (v := .tuple #[.agg #[.int .i64 O, .int .i64 N, .slice ao2 M.length c2], .int .i64 (1 + (M.length : Int)), .int .i64 0]) (by simp [results, Try.results53, go_sem, *]) rfl ⟨_, by rw [HF.out.1, HF.out.2, HE.out]; rfl, ?_, (bset3i HB3.out (Nat.le_refl _) _ _ _).drew⟩
    rw [HF.out.1]
    have h1 := hcap.out
    exact own_b13 (below_drewN (Below.refl _ _) 1) (own_wide13 (ownsRow_setCell_below (ownsRow_setCell_below (ownsRow_setCell_below HO3.out h1 _) h1 _) h1 _) (by omega))
  · have HF : Hid (dcI l a = ⟨0, 0, []⟩ ∧ dcZ l a = 0 ∧ dcE l a = z) := by
      have h1 : ¬ dcE l a = 0 := by rw [← HZ.out.1]; exact h0
      exact ⟨by unfold dcI; rw [if_neg h1], by unfold dcZ; rw [if_neg h1], HZ.out.1.symm⟩
    clear HZ HO3
    go_wp2
    refine bodyPost_ret (v := .tuple #[.agg #[.int .i64 0, .int .i64 0, .slice none 0 0], .int .i64 0, .int .i64 z]) (by simp [results, Try.results53, go_sem, *]) rfl ⟨_, by rw [HF.out.1, HF.out.2.1, HF.out.2.2]; rfl, by rw [HF.out.1]; exact World.ownsRow_nil _ _ _ _, bset3i HB3.out (Nat.le_refl _) _ _ _⟩
end Go.Proofs.Ytjgpbahglkaijaa
namespace Go.Proofs.Ytjgpbahglkaijaa
open Go.RowKit
set_option linter.unusedSimpArgs false
set_option linter.unusedVariables false

def bsN : Nat → Nat → Nat
  | 0, _ => 0
  | k + 1, x => x % 2 + bsN k (x / 2)
theorem bsN_pop : ∀ k x, Lib.popAux k x = bsN k x
  | 0, _ => rfl
  | k + 1, x => by simp only [Lib.popAux, bsN]; rw [bsN_pop k]
theorem bsN_zero : ∀ k, bsN k 0 = 0
  | 0 => rfl
  | k + 1 => by simp only [bsN, Nat.zero_mod, Nat.zero_div]; rw [bsN_zero k]
theorem bsN_add : ∀ m k x, bsN (m + k) x = bsN m x + bsN k (x / 2 ^ m)
  | 0, k, x => by simp [bsN]
  | m + 1, k, x => by
    rw [Nat.succ_add]
    simp only [bsN]
    rw [bsN_add m k (x / 2), Nat.div_div_eq_div_mul, Nat.pow_succ, Nat.mul_comm 2]
    omega
theorem bsN_mod : ∀ k x, bsN k (x % 2 ^ k) = bsN k x
  | 0, x => rfl
  | k + 1, x => by
    simp only [bsN]
    have h1 : x % 2 ^ (k + 1) % 2 = x % 2 := by rw [Nat.pow_succ, Nat.mod_mul_left_mod]
    have h2 : x % 2 ^ (k + 1) / 2 = x / 2 % 2 ^ k := by rw [Nat.pow_succ, Nat.mul_comm, Nat.mod_mul_right_div_self]
    rw [h1, h2, bsN_mod k]
theorem bsN_le : ∀ k x, bsN k x ≤ k
  | 0, _ => Nat.le_refl _
  | k + 1, x => by have := bsN_le k (x / 2); simp only [bsN]; omega
theorem bsN_small (m k x : Nat) (h : x < 2 ^ m) : bsN (m + k) x = bsN m x := by
  rw [bsN_add, Nat.div_eq_of_lt h, bsN_zero]; omega
theorem ones8 (b : Nat) (h : b < 256) : Lib.onesCount b = bsN 8 b := by
  unfold Lib.onesCount
  rw [bsN_pop]
  exact bsN_small 8 56 b h
theorem bs32 (x : Nat) (h : x < 4294967296) : bsN 32 x = bsN 8 (x / 16777216) + bsN 8 (x / 65536 % 256) + bsN 8 (x / 256 % 256) + bsN 8 (x % 256) := by
  have e1 := bsN_add 8 24 x
  have e2 := bsN_add 8 16 (x / 2 ^ 8)
  have e3 := bsN_add 8 8 (x / 2 ^ 8 / 2 ^ 8)
  have m1 := bsN_mod 8 x
  have m2 := bsN_mod 8 (x / 2 ^ 8)
  have m3 := bsN_mod 8 (x / 2 ^ 8 / 2 ^ 8)
  have p : (2 : Nat) ^ 8 = 256 := by decide
  rw [p] at e1 e2 e3 m1 m2 m3
  have d1 : x / 256 / 256 = x / 65536 := by omega
  have d2 : x / 65536 / 256 = x / 16777216 := by omega
  rw [d1] at e2 e3 m3
  rw [d2] at e3
  show bsN (8 + 24) x = _
  rw [e1]
  show _ + bsN (8 + 16) _ = _
  rw [e2]
  show _ + (_ + bsN (8 + 8) _) = _
  rw [e3]
  omega
def on32 (x : BitVec 32) : Nat := bsN 32 x.toNat
def fr32 (x : BitVec 32) (k : Nat) : Nat := bsN k (x.toNat / 2 ^ (32 - k))
def bt (x : BitVec 32) (p : Nat) : Bool := x.getLsbD (31 - p)
theorem fr_zero (x : BitVec 32) : fr32 x 0 = 0 := rfl
theorem fr_all (x : BitVec 32) : fr32 x 32 = on32 x := by unfold fr32 on32; simp
theorem bit_val (x : BitVec 32) (i : Nat) : x.toNat / 2 ^ i % 2 = (x.getLsbD i).toNat := by
  have : x.getLsbD i = decide (x.toNat / 2 ^ i % 2 = 1) := by
    unfold BitVec.getLsbD; rw [Nat.testBit_eq_decide_div_mod_eq]
  rw [this]
  by_cases c : x.toNat / 2 ^ i % 2 = 1
  · simp [c]
  · simp [c]; omega
theorem fr_succ (x : BitVec 32) (k : Nat) (h : k < 32) : fr32 x (k + 1) = fr32 x k + (bt x k).toNat := by
  unfold fr32 bt
  rw [show 32 - (k + 1) = 31 - k by omega]
  simp only [bsN]
  rw [bit_val, Nat.div_div_eq_div_mul, ← Nat.pow_succ, show (31 - k).succ = 32 - k by omega]
  omega
def plc (U : List (BitVec 32)) (p : Nat) : Bool := bt (U.getD (p / 32) 0#32) (p % 32)
def cnt (U : List (BitVec 32)) : Nat → Nat
  | 0 => 0
  | k + 1 => cnt U k + (plc U k).toNat
def sumW (U : List (BitVec 32)) : Nat → Nat
  | 0 => 0
  | a + 1 => sumW U a + on32 (U.getD a 0#32)
theorem cnt_word (U : List (BitVec 32)) (a : Nat) : ∀ r, r ≤ 32 → cnt U (32 * a + r) = cnt U (32 * a) + fr32 (U.getD a 0#32) r
  | 0, _ => by simp [fr_zero]
  | r + 1, h => by
    rw [← Nat.add_assoc]
    simp only [cnt]
    rw [cnt_word U a r (by omega), fr_succ _ r (by omega)]
    unfold plc
    rw [show (32 * a + r) / 32 = a by omega, show (32 * a + r) % 32 = r by omega]
    omega
theorem cnt_words (U : List (BitVec 32)) : ∀ a, cnt U (32 * a) = sumW U a
  | 0 => rfl
  | a + 1 => by
    rw [show 32 * (a + 1) = 32 * a + 32 by omega, cnt_word U a 32 (Nat.le_refl _), cnt_words U a, fr_all]
    rfl
theorem cnt_mono (U : List (BitVec 32)) : ∀ p q, p ≤ q → cnt U p ≤ cnt U q := by
  intro p q h
  induction q with
  | zero => have : p = 0 := by omega
            subst this; exact Nat.le_refl _
  | succ q ih =>
    by_cases c : p = q + 1
    · subst c; exact Nat.le_refl _
    · have := ih (by omega); simp only [cnt]; omega
theorem cnt_le (U : List (BitVec 32)) : ∀ k, cnt U k ≤ k
  | 0 => Nat.le_refl _
  | k + 1 => by
    have := cnt_le U k
    simp only [cnt]
    cases plc U k <;> simp <;> omega
end Go.Proofs.Ytjgpbahglkaijaa
namespace Go.Proofs.Ytjgpbahglkaijaa
open Go.RowKit
set_option linter.unusedSimpArgs false
set_option linter.unusedVariables false

noncomputable def enE (l : List Nat) (p : Int) (es : List (Int × Int)) : Int :=
  if dcE l p ≠ 0 then dcE l p else if (dcI l p).op < 3 then 24 else
    match es.getLast? with
    | none => 0
    | some j => if j.1 = (dcI l p).op ∧ ((dcI l p).op = 4 ∧ (dcI l p).n = j.2 ∨ (dcI l p).op = 3 ∧ (dcI l p).n = j.2 - 1) then 25 else 0
noncomputable def enG (l : List Nat) (en : Int) : Nat → Nat → List (Int × Int) → List (Int × Int) × Int × Int
  | 0, k, es => (es, 0, 0)
  | r + 1, k, es => if enE l (en + k) es = 0 then enG l en r (k + 1) (es ++ [((dcI l (en + k)).op, (dcI l (en + k)).n)]) else (es, enE l (en + k) es, en + k)
noncomputable def bkE (l : List Nat) (a : Int) : Int × Int :=
  if dcE l a ≠ 0 then (dcE l a, a) else if (dcI l a).op ≠ 1 then (24, a) else
  if dcE l (a + 1) ≠ 0 then (dcE l (a + 1), a + 1) else if (dcI l (a + 1)).op ≠ 2 then (24, a + 1) else
  if (dcI l (a + 1)).n ≠ (dcI l a).n then (25, a + 1) else (enG l (a + 1 + dcZ l (a + 1)) (sumW (dcI l (a + 1)).m (dcI l (a + 1)).m.length) 0 []).2
theorem enG_succ (l : List Nat) (en : Int) (r k : Nat) (es : List (Int × Int)) : enG l en (r + 1) k es = if enE l (en + k) es = 0 then enG l en r (k + 1) (es ++ [((dcI l (en + k)).op, (dcI l (en + k)).n)]) else (es, enE l (en + k) es, en + k) := rfl
theorem dcZ_zero {l : List Nat} {a : Int} (h : dcE l a = 0) : dcZ l a = 1 + ((dcI l a).m.length : Int) := by unfold dcZ; rw [if_pos h]
structure PB where
  a : Int
  t : Int
  m : List (BitVec 32)
  es : List (Bool × Int)
def prX (p : Int) (e : Int × Int) : Bool × Int := (e.1 == 3, if e.1 == 3 then p + e.2 else e.2)
def prE : Int → List (Int × Int) → List (Bool × Int)
  | _, [] => []
  | p, e :: t => prX p e :: prE (p + 1) t
theorem prE_app : ∀ (p : Int) (A : List (Int × Int)) (e : Int × Int), prE p (A ++ [e]) = prE p A ++ [prX (p + A.length) e]
  | p, [], e => by simp [prE]
  | p, x :: A, e => by
    have : p + 1 + (A.length : Int) = p + ((x :: A).length : Nat) := by simp; omega
    show prX p x :: prE (p + 1) (A ++ [e]) = _
    rw [prE_app (p + 1) A e, this]; rfl
theorem prE_len : ∀ (p : Int) (A : List (Int × Int)), (prE p A).length = A.length
  | p, [] => rfl
  | p, x :: A => by
    show (prE (p + 1) A).length + 1 = _
    rw [prE_len]; rfl
theorem prE_last (p : Int) (A : List (Int × Int)) : (prE p A).getLast? = A.getLast?.map (prX (p + (A.length : Int) - 1)) := by
  rcases List.eq_nil_or_concat A with rfl | ⟨B, e, rfl⟩
  · rfl
  · rw [List.concat_eq_append, prE_app]
    simp only [List.getLast?_append, List.getLast?_singleton, Option.some_or, Option.map_some, List.length_append, List.length_singleton]
    congr 2
    push_cast
    omega
theorem enE_pr (l : List Nat) (en : Int) (es : List (Int × Int)) (h : dcE l (en + es.length) = 0) (ho : (dcI l (en + es.length)).op = 3 ∨ (dcI l (en + es.length)).op = 4) (hes : ∀ e ∈ es, e.1 = 3 ∨ e.1 = 4) :
    enE l (en + es.length) es = if (prE en es).getLast? = some (prX (en + es.length) ((dcI l (en + es.length)).op, (dcI l (en + es.length)).n)) then 25 else 0 := by
  unfold enE
  rw [if_neg (by simp [h]), if_neg (by rcases ho with q | q <;> rw [q] <;> decide), prE_last]
  cases hg : es.getLast? with
  | none => simp
  | some j =>
    have hj := hes j (List.mem_of_getLast? hg)
    obtain ⟨jo, jn⟩ := j
    dsimp only at hj
    dsimp only [Option.map_some]
    generalize (dcI l (en + es.length)).op = o at *
    generalize (dcI l (en + es.length)).n = n at *
    have hiff : (jo = o ∧ (o = 4 ∧ n = jn ∨ o = 3 ∧ n = jn - 1)) ↔ (some (prX (en + (es.length : Int) - 1) (jo, jn)) = some (prX (en + (es.length : Int)) (o, n))) := by
      unfold prX
      rcases ho with rfl | rfl <;> rcases hj with rfl | rfl <;> simp <;> omega
    by_cases hc : (jo = o ∧ (o = 4 ∧ n = jn ∨ o = 3 ∧ n = jn - 1))
    · rw [if_pos hc, if_pos (hiff.1 hc)]
    · rw [if_neg hc, if_neg (fun q => hc (hiff.2 q))]
end Go.Proofs.Ytjgpbahglkaijaa
