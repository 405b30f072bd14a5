/-
  Part 3 of the proof: 8 texts, one behind the other.
-/
import Derived.Test.YtdpmhpmnkollaaaPart2
import Derived.ArgAppend
import Derived.Lib.BitFns
import Derived.OrdersIn
import Derived.TacticsIn
import Derived.RangeFuncSeq
namespace Go.Proofs.Ytdpmhpmnkollaaa
open Go.RowKit
set_option linter.unusedSimpArgs false
set_option linter.unusedVariables false

def chkE (op n : Int) (m : List (BitVec 32)) : Int :=
  if isOp op = true then (if (decide (kLo op ≤ n) && decide (n ≤ kHi op)) = true then (if op = 2 then (if isMapB m n.toNat = true then 0 else 25) else if m = [] then 0 else 25) else 1) else 24
theorem chk_no {op n : Int} {m : List (BitVec 32)} (h : isOp op = false) : chkE op n m = 24 := by unfold chkE; rw [if_neg (by rw [h]; decide)]
theorem chk_plain {op n : Int} {m : List (BitVec 32)} (h : isOp op = true) (h2 : (decide (kLo op ≤ n) && decide (n ≤ kHi op)) = true) (h3 : op ≠ 2) : chkE op n m = if m = [] then 0 else 25 := by unfold chkE; rw [if_pos h, if_pos h2, if_neg h3]
theorem chk_map {op n : Int} {m : List (BitVec 32)} (h : isOp op = true) (h2 : (decide (kLo op ≤ n) && decide (n ≤ kHi op)) = true) (h3 : op = 2) : chkE op n m = if isMapB m n.toNat = true then 0 else 25 := by unfold chkE; rw [if_pos h, if_pos h2, if_pos h3]
def AtI (w : World) (B : Nat) (op n : Int) (v : Value) : Prop := w.cell? ⟨B, 0, none⟩ = some (.int .i64 op) ∧ w.cell? ⟨B, 1, none⟩ = some (.int .i64 n) ∧ w.cell? ⟨B, 2, none⟩ = some v
theorem AtI.below {w w' : World} {B : Nat} {op n : Int} {v : Value} (h : AtI w B op n v) (hb : Below w.heap.size w w') : AtI w' B op n v := ⟨keepc hb h.1, keepc hb h.2.1, keepc hb h.2.2⟩
theorem ati_new (w : World) (op n : Int) (v : Value) (T : TypeId) : AtI (w.alloc (.cells #[.int .i64 op, .int .i64 n, v] T)) w.heap.size op n v := by
  refine ⟨?_, ?_, ?_⟩ <;> simp [go_sem]
set_option maxRecDepth 100000 in
set_option maxHeartbeats 4000000 in
theorem check_any (op n : Int) (v : Value) (m : List (BitVec 32)) (w : World) (hv : RwX cU w v m) :
    Calls Try.prog 96 #[.agg #[.int .i64 op, .int .i64 n, v]] w fun e w' => e = .returned (.int .i64 (chkE op n m)) ∧ Below w.heap.size w w' := by
  obtain ⟨ao, c, hvf, -⟩ := id hv
  have q1 := bl1 w (.cells #[.int .i64 op, .int .i64 n, v] 67)
  have a1 := ati_new w op n v 67
  obtain ⟨w1, hw1⟩ : ∃ w1, w1 = w.alloc (.cells #[.int .i64 op, .int .i64 n, v] 67) := ⟨_, rfl⟩
  rw [← hw1] at q1 a1
  have HV := hid13 (hv.below q1)
  have HB := hid13 q1
  have HA := hid13 a1
  have K1 := kindOf_any op w1
  subst hvf
  clear q1 hv a1
  go_enter Try.func96, Try.ntmps96
  go_wp2_with fail
  rw [← hw1]
  refine K1.mono ?_
  rintro e w2 ⟨rfl, hb2⟩
  have HB2 := hid13 (keepb hb2 HB.out)
  have HV2 := hid13 (HV.out.below hb2)
  have HA2 := hid13 (HA.out.below hb2)
  clear HA HV HB hw1 K1 hb2
  cases ho : isOp op with
  | false =>
    rw [kindV_no ho]
    have HE := hid13 (chk_no (n := n) (m := m) ho)
    clear ho
    go_wp2
    go_ret
    exact ⟨by rw [HE.out]; rfl, keepb (bl1 _ _) HB2.out⟩
  | true =>
    rw [kindV_op ho]
    obtain ⟨t, ht⟩ : ∃ t, t = (decide (kLo op ≤ n) && decide (n ≤ kHi op)) := ⟨_, rfl⟩
    have K2 := fun w => takes_any (kLo op) (kHi op) (kRm op) (op == 2) n w
    have HK : Hid (t = true → n ≤ 24 ∨ op ≠ 2) := by
      intro h
      rw [h] at ht
      simp at ht
      by_cases c : op = 2
      · left; subst c; exact ht.2
      · exact .inr c
    have HK0 : Hid (t = true → 0 ≤ n) := by
      intro h
      rw [h] at ht
      simp at ht
      have h2 := ht.1
      unfold kLo at h2
      split at h2 <;> omega
    have HE : Hid (chkE op n m = if t = true then (if op = 2 then (if isMapB m n.toNat = true then 0 else 25) else if m = [] then 0 else 25) else 1) := by
      show _ = _
      rw [ht]; unfold chkE; rw [if_pos ho]
    rw [← ht] at K2
    clear ho
    have q3 := bl1 w2 (.cells #[.int .i64 (kLo op), .int .i64 (kHi op), .int .i64 (kRm op), .bool (op == 2)] 150)
    have A3 := HA2.out.below q3
    obtain ⟨a30, a31, a32⟩ := A3
    have HB3 := hid13 (keepb q3 HB2.out)
    have HV3 := hid13 (HV2.out.below q3)
    generalize kLo op = lo at *
    generalize kHi op = hi at *
    generalize kRm op = rm at *
    obtain ⟨b, hb⟩ : ∃ b, b = (op == 2) := ⟨_, rfl⟩
    rw [← hb] at K2 a30 a31 a32 HB3 HV3 ⊢
    have HP := hid13 hb
    have HT := hid13 ht
    clear ht hb q3
    go_wp2_with fail
    refine (K2 _).mono ?_
    rintro e w4 ⟨rfl, hb4⟩
    have k4 : w4.cell? ⟨w2.heap.size, 3, none⟩ = some (.bool b) := keepc hb4 (by simp [go_sem])
    have A4 := (show AtI _ _ op n (.slice ao m.length c) from ⟨a30, a31, a32⟩).below hb4
    obtain ⟨a40, a41, a42⟩ := A4
    have HB4 := hid13 (keepb hb4 HB3.out)
    have HV4 := hid13 (HV3.out.below hb4)
    clear K2 HB2 HV2 HA2 HB3 HV3 hb4 a30 a31 a32 HT
    cases t with
    | false =>
      clear HK HK0
      replace HE : Hid (chkE op n m = 1) := HE
      go_wp2
      go_ret
      exact ⟨by rw [HE.out]; rfl, HB4.out⟩
    | true =>
      have hn0 := HK0.out rfl
      have hk := HK.out rfl
      replace HE : Hid (chkE op n m = if op = 2 then (if isMapB m n.toNat = true then 0 else 25) else if m = [] then 0 else 25) := HE
      cases b with
      | false =>
        have h2 : op ≠ 2 := by intro e; subst e; have := HP.out; cases this
        have HE' := HE.out
        rw [if_neg h2] at HE'
        clear HE h2
        clear HP HK HK0 hk hn0
        by_cases hm : m = []
        · rw [if_pos hm] at HE'
          have HE := hid13 HE'
          have hl : m.length = 0 := by rw [hm]; rfl
          rw [hl] at a42 ⊢
          clear hm hl HE'
          go_wp2
          go_ret
          exact ⟨by rw [HE.out]; rfl, HB4.out⟩
        · rw [if_neg hm] at HE'
          have HE := hid13 HE'
          have hl : ((m.length : Nat) : Int) ≠ 0 := by
            intro e
            exact hm (List.eq_nil_of_length_eq_zero (by omega))
          clear hm HE'
          go_wp2
          go_ret
          exact ⟨by rw [HE.out]; rfl, HB4.out⟩
      | true =>
        have h2 : op = 2 := by have := HP.out; simpa using this.symm
        have HE' := HE.out
        rw [if_pos h2] at HE'
        have hn : n ≤ 24 := hk.elim id (fun q => absurd h2 q)
        obtain ⟨k, rfl⟩ : ∃ k : Nat, n = (k : Int) := ⟨n.toNat, by omega⟩
        rw [Int.toNat_natCast] at HE'
        have K5 := isMap_any _ m k w4 HV4.out (by omega)
        clear HP HK HK0 hk hn0 h2 hn
        go_wp2_with fail
        refine K5.mono ?_
        rintro e w5 ⟨rfl, hb5⟩
        have HB5 := hid13 (keepb hb5 HB4.out)
        have k5 := keepc hb5 k4
        clear K5 hb5 k4 HB4 HV4 a40 a41 a42 HE
        have HE := hid13 HE'
        clear HE'
        generalize isMapB m k = z at *
        cases z with
        | true =>
          go_wp2
          go_ret
          exact ⟨by rw [HE.out]; rfl, HB5.out⟩
        | false =>
          go_wp2
          go_ret
          exact ⟨by rw [HE.out]; rfl, HB5.out⟩
def szI (op n : Int) (m : List (BitVec 32)) : Int := if chkE op n m = 0 then 1 + (m.length : Int) else 0
set_option maxRecDepth 100000 in
theorem size_any (op n : Int) (v : Value) (m : List (BitVec 32)) (w : World) (hv : RwX cU w v m) (hl : m.length ≤ 140737488355328) :
    Calls Try.prog 97 #[.agg #[.int .i64 op, .int .i64 n, v]] w fun e w' => e = .returned (.int .i64 (szI op n m)) ∧ Below w.heap.size w w' := by
  obtain ⟨ao, c, hvf, -⟩ := id hv
  have q1 := bl1 w (.cells #[.int .i64 op, .int .i64 n, v] 67)
  have a1 := ati_new w op n v 67
  have K1 := check_any op n v m _ (hv.below q1)
  have HB := hid13 q1
  subst hvf
  obtain ⟨a10, a11, a12⟩ := a1
  clear q1 hv
  go_enter Try.func97, Try.ntmps97
  go_wp2_with fail
  refine K1.mono ?_
  rintro e w2 ⟨rfl, hb2⟩
  have HB2 := hid13 (keepb hb2 HB.out)
  have a22 := keepc hb2 a12
  clear a10 a11 a12 K1 hb2 HB
  have hw : wrap64 (1 + (m.length : Int)) = 1 + (m.length : Int) := by unfold wrap64; omega
  by_cases h : chkE op n m = 0
  · rw [h]
    have H := hid13 h
    clear h
    go_wp2
    go_ret
    exact ⟨by unfold szI; rw [if_pos H.out]; rfl, HB2.out⟩
  · go_wp2
    go_ret
    exact ⟨by unfold szI; rw [if_neg h]; rfl, HB2.out⟩
end Go.Proofs.Ytdpmhpmnkollaaa
namespace Go.Proofs.Ytdpmhpmnkollaaa
open Go.RowKit
set_option linter.unusedSimpArgs false
set_option linter.unusedVariables false

theorem numN_snoc (l : List Nat) (b : Nat) : numN13 (l ++ [b]) = numN13 l * 256 + b := by unfold numN13; rw [List.foldl_append]; rfl
theorem fold_lt (l : List Nat) (h : ∀ b ∈ l, b < 256) : ∀ v, l.foldl (fun v b => v * 256 + b) v < (v + 1) * 256 ^ l.length := by
  induction l with
  | nil => intro v; simp
  | cons b l ih =>
    intro v
    have h1 := ih (fun x hx => h x (by simp [hx])) (v * 256 + b)
    have h2 := h b (by simp)
    rw [List.foldl_cons, List.length_cons, Nat.pow_succ]
    refine Nat.lt_of_lt_of_le h1 ?_
    rw [Nat.mul_comm (256 ^ l.length) 256, ← Nat.mul_assoc]
    exact Nat.mul_le_mul_right _ (by omega)
theorem numN_lt (l : List Nat) (h : ∀ b ∈ l, b < 256) : numN13 l < 256 ^ l.length := by
  have := fold_lt l h 0
  unfold numN13
  omega
set_option maxRecDepth 100000 in
set_option maxHeartbeats 8000000 in
theorem rget13 (v : Value) (l : List Nat) (n K : Int) (k : Nat) (hK : K = (k : Int)) (hk0 : 0 < k) (hk : k ≤ 4) (w : World) (hv : RwX cB w v l) (hl : l.length ≤ 140737488355328) (hx : ∀ b ∈ l, b < 256) (h0 : -9223372036854775808 ≤ n) (h1 : n ≤ 9223372036854775807) :
    Calls Try.prog 41 #[v, .int .i64 n, .int .i64 K] w fun e w' => e = .returned (.tuple #[.int .u32 ((gtN l n k : Nat) : Int), .bool (decide (0 ≤ n ∧ n ≤ (l.length : Int) - k))]) ∧ w' = w := by
  subst hK
  obtain ⟨ao, cc, rfl, hc, hv⟩ := hv
  have hli : (l.length : Int) ≤ 140737488355328 := by omega
  have hki : (k : Int) ≤ 4 := by omega
  unfold gtN
  by_cases h : 0 ≤ n ∧ n ≤ (l.length : Int) - (k : Int)
  · rw [if_pos h, decide_eq_true h]
    obtain ⟨p, rfl⟩ : ∃ p : Nat, n = (p : Int) := ⟨n.toNat, by omega⟩
    rw [Int.toNat_natCast]
    have hp : p + k ≤ l.length := by omega
    obtain ⟨bo, off, rfl, hcell⟩ : ∃ bo off, ao = some ⟨bo, off, none⟩ ∧ ∀ j x, l[j]? = some x → w.cell? ⟨bo, off + j, none⟩ = some (cB x) := by
      rcases hv with h | h
      · rw [h] at hp; simp at hp; omega
      · exact h
    have hpk : wrap64 ((p : Int) + (k : Int)) = (p : Int) + (k : Int) := by unfold wrap64; omega
    have c1 : ¬ (l.length : Int) < (p : Int) := by omega
    have c2 : ¬ (l.length : Int) - (p : Int) < (k : Int) := by omega
    have HX := hid13 hx
    have HC := hid13 hcell
    have HP := hid13 hp
    have HK4 := hid13 hk
    clear h hv hcell hx hc h0 h1 hp hk hk0
    go_enter Try.func41, Try.ntmps41
    go_wp2_with fail
    clear c1 c2
    go_loopg [8, 9] k (fun g a i wr => wr = w ∧ ∃ (q : Nat) (M : Int), q + g = p + k ∧ g ≤ k ∧ i = .int .i64 (q : Int) ∧ a = .int .u32 M ∧ Hid (M = ((numN13 ((l.drop p).take (k - g)) : Nat) : Int)))
    case atStart => exact ⟨rfl, p, 0, rfl, Nat.le_refl _, rfl, rfl, by show _ = _; rw [Nat.sub_self, List.take_zero]; rfl⟩
    case round =>
      obtain ⟨hw, q, M, hq, hgk, rfl, rfl, HM⟩ := hrel
      replace hw := hw.symm
      subst hw
      by_cases hlt : q < p + k
      · have hqi : (q : Int) < (p : Int) + (k : Int) := by omega
        have hql : q < l.length := by have := HP.out; omega
        obtain ⟨b, hb⟩ : ∃ b, l[q]? = some b := ⟨l[q], by simp [hql]⟩
        obtain ⟨B, hB⟩ : ∃ B : Int, B = (b : Int) := ⟨_, rfl⟩
        obtain ⟨m, hm⟩ : ∃ m, m = numN13 ((l.drop p).take (k - gk)) := ⟨_, rfl⟩
        have hMm : M = (m : Int) := by rw [hm]; exact HM.out
        have r1 : w.cell? ⟨bo, off + q, none⟩ = some (.int .u8 B) := by rw [hB]; exact HC.out q b hb
        have hql2 : (q : Int) < (l.length : Int) := by omega
        have hb8 : b < 256 := HX.out b (List.mem_of_getElem? hb)
        have hm3 : m < 16777216 := by
          have h2 := numN_lt ((l.drop p).take (k - gk)) (fun x hx => HX.out x (List.mem_of_mem_drop (List.mem_of_mem_take hx)))
          have h3 : ((l.drop p).take (k - gk)).length ≤ 3 := by rw [List.length_take]; have := HK4.out; omega
          have h4 := Nat.pow_le_pow_right (n := 256) (by omega) h3
          have : 256 ^ 3 = 16777216 := by decide
          omega
        obtain ⟨M2, hM2⟩ : ∃ M2 : Int, M2 = ((m * 256 + b : Nat) : Int) := ⟨_, rfl⟩
        have O1 : bits .or .u32 (M * 256) B = M2 := by rw [hM2]; exact orN32 (m * 256) b 8 (by omega) (by omega) (by omega) _ _ (by omega) hB
        have HM2 : Hid (M2 = ((numN13 ((l.drop p).take (k - (gk - 1))) : Nat) : Int)) := by
          show _ = _
          have e : k - (gk - 1) = (k - gk) + 1 := by omega
          have e2 : (l.drop p)[k - gk]? = some b := by rw [List.getElem?_drop]; rw [← hb]; congr 1; omega
          rw [e, List.take_add_one, e2, Option.toList_some, numN_snoc, ← hm, hM2]
        have hM0 : 0 ≤ M := by omega
        have hM1 : M < 16777216 := by omega
        have hB0 : 0 ≤ B := by omega
        have hB1 : B < 256 := by omega
        have mk : IntKind.i64.wrap ((q : Int) + 1) = (q : Int) + 1 := by rw [IntKind.wrap_i64]; omega
        have HK2 : Hid (gk - 1 < gk ∧ q + 1 + (gk - 1) = p + k ∧ gk - 1 ≤ k) := ⟨by omega, by omega, by omega⟩
        clear hb hm3 HM hq hgk hlt hql hM2 hMm hm hb8 hB
        go_wp2
        go_roundg (gk - 1)
        case measure => exact HK2.out.1
        case rel => exact ⟨rfl, q + 1, M2, HK2.out.2.1, HK2.out.2.2, rfl, rfl, HM2.out⟩
      · have hqi : ¬ (q : Int) < (p : Int) + (k : Int) := by omega
        have HF : Hid (M = ((numN13 ((l.drop p).take k) : Nat) : Int)) := by
          obtain rfl : gk = 0 := by omega
          exact HM.out
        go_wp2_with fail
        exact bodyPost_ret (v := .tuple #[.int .u32 M, .bool true]) (by simp [results, Try.results41, go_sem]) rfl ⟨by rw [HF.out], rfl⟩
  · rw [if_neg h, decide_eq_false h]
    by_cases d0 : n < 0
    · clear h
      go_enter Try.func41, Try.ntmps41
      go_wp2_with fail
      exact bodyPost_ret (v := .tuple #[.int .u32 0, .bool false]) (by simp [results, Try.results41, go_sem]) rfl ⟨rfl, rfl⟩
    · by_cases d1 : (l.length : Int) < n
      · clear h
        go_enter Try.func41, Try.ntmps41
        go_wp2_with fail
        exact bodyPost_ret (v := .tuple #[.int .u32 0, .bool false]) (by simp [results, Try.results41, go_sem]) rfl ⟨rfl, rfl⟩
      · have d2 : (l.length : Int) - n < (k : Int) := by omega
        have mw : IntKind.i64.wrap ((l.length : Int) - n) = (l.length : Int) - n := by rw [IntKind.wrap_i64]; omega
        clear h
        go_enter Try.func41, Try.ntmps41
        go_wp2_with fail
        exact bodyPost_ret (v := .tuple #[.int .u32 0, .bool false]) (by simp [results, Try.results41, go_sem]) rfl ⟨rfl, rfl⟩
end Go.Proofs.Ytdpmhpmnkollaaa
namespace Go.Proofs.Ytdpmhpmnkollaaa
open Go.RowKit
set_option linter.unusedSimpArgs false
set_option linter.unusedVariables false

def wdV (l : List Nat) (k : Nat) : BitVec 32 := BitVec.ofNat 32 (numN13 ((l.drop (4 * k)).take 4))
theorem wd_lt (l : List Nat) (k : Nat) (hx : ∀ b ∈ l, b < 256) : numN13 ((l.drop (4 * k)).take 4) < 4294967296 := by
  have h2 := numN_lt ((l.drop (4 * k)).take 4) (fun x h => hx x (List.mem_of_mem_drop (List.mem_of_mem_take h)))
  have h3 : ((l.drop (4 * k)).take 4).length ≤ 4 := by rw [List.length_take]; omega
  have h4 := Nat.pow_le_pow_right (n := 256) (by omega) h3
  have : 256 ^ 4 = 4294967296 := by decide
  omega
theorem wd_uI (l : List Nat) (k : Nat) (hx : ∀ b ∈ l, b < 256) : uI (wdV l k) = ((numN13 ((l.drop (4 * k)).take 4) : Nat) : Int) := uI_of _ (wd_lt l k hx)
def stB (m : Nat) (at' : Int) (c : Int) : Bool := decide (0 ≤ at') && decide (at' ≤ (m : Int) / 4 - c)
def mpL (l : List Nat) (k c : Nat) : List (BitVec 32) := (List.range c).map fun j => wdV l (k + j)
theorem mpL_len (l : List Nat) (k c : Nat) : (mpL l k c).length = c := by unfold mpL; simp
theorem mpL_succ (l : List Nat) (k c : Nat) : mpL l k (c + 1) = mpL l k c ++ [wdV l (k + c)] := by unfold mpL; rw [List.range_succ, List.map_append]; rfl
def rmP (l : List Nat) (k n : Nat) : List (BitVec 32) × Int :=
  if k + mwN n ≤ l.length / 4 then (if isMapB (mpL l k (mwN n)) n = true then (mpL l k (mwN n), 0) else ([], 25)) else ([], 30)
end Go.Proofs.Ytdpmhpmnkollaaa
namespace Go.Proofs.Ytdpmhpmnkollaaa
open Go.RowKit
set_option linter.unusedSimpArgs false
set_option linter.unusedVariables false

structure Ins where
  op : Int
  n : Int
  m : List (BitVec 32)
noncomputable def insO (l : List Nat) (k : Nat) : Int := uI (wdV l k) / 16777216
noncomputable def insN (l : List Nat) (k : Nat) : Int := uI (wdV l k) % 16777216
def tkB (o n : Int) : Bool := decide (kLo o ≤ n) && decide (n ≤ kHi o)
noncomputable def rdP (l : List Nat) (k : Nat) : List (BitVec 32) × Int :=
  if isOp (insO l k) = true then
    if insN l k ≤ kRm (insO l k) then
      if tkB (insO l k) (insN l k) = true then
        if insO l k = 2 then rmP l (k + 1) (insN l k).toNat else ([], 0)
      else ([], 1)
    else ([], 24)
  else ([], 24)
def AtIF (w : World) (B : Nat) (op n : Int) (v : Value) : Prop := AtI w B op n v ∧ w.frozen? ⟨B, 0, none⟩ = false ∧ w.frozen? ⟨B, 1, none⟩ = false ∧ w.frozen? ⟨B, 2, none⟩ = false
theorem AtIF.below {w w' : World} {B : Nat} {op n : Int} {v : Value} (h : AtIF w B op n v) (hb : Below w.heap.size w w') : AtIF w' B op n v :=
  ⟨h.1.below hb, keepf hb h.1.1 h.2.1, keepf hb h.1.2.1 h.2.2.1, keepf hb h.1.2.2 h.2.2.2⟩
theorem atif_new (w : World) (op n : Int) (v : Value) (T : TypeId) : AtIF (w.alloc (.cells #[.int .i64 op, .int .i64 n, v] T)) w.heap.size op n v := by
  refine ⟨ati_new w op n v T, ?_, ?_, ?_⟩ <;> simp [go_sem]
theorem bset3i {n C : Nat} {w W : World} (h : Below n w W) (hp : n ≤ C) (u0 u1 u2 : Value) : Below n w (((W.setCell ⟨C, 0, none⟩ u0).setCell ⟨C, 1, none⟩ u1).setCell ⟨C, 2, none⟩ u2) := ((h.setCell (p := ⟨C, 0, none⟩) hp _).setCell (p := ⟨C, 1, none⟩) hp _).setCell (p := ⟨C, 2, none⟩) hp _
noncomputable def dcE (l : List Nat) (a : Int) : Int := if stB l.length a 1 = true then (rdP l a.toNat).2 else 30
noncomputable def dcI (l : List Nat) (a : Int) : Ins := if dcE l a = 0 then ⟨insO l a.toNat, insN l a.toNat, (rdP l a.toNat).1⟩ else ⟨0, 0, []⟩
noncomputable def dcZ (l : List Nat) (a : Int) : Int := if dcE l a = 0 then 1 + ((dcI l a).m.length : Int) else 0
def insV (i : Ins) (v : Value) : Value := .agg #[.int .i64 i.op, .int .i64 i.n, v]
theorem rdP_len (l : List Nat) (k : Nat) : (rdP l k).1.length ≤ 524288 := by
  unfold rdP
  split
  · split
    · split
      · rename_i h1 h2 h3
        split
        · rename_i h4
          unfold rmP
          split
          · split
            · rw [mpL_len]
              rw [h4] at h3
              unfold tkB at h3
              simp at h3
              have := h3.2
              unfold kHi at this
              simp at this
              exact mwN_hi _ (by omega)
            · simp
          · simp
        · simp
      · simp
    · simp
  · simp
end Go.Proofs.Ytdpmhpmnkollaaa
namespace Go.Proofs.Ytdpmhpmnkollaaa
open Go.RowKit
set_option linter.unusedSimpArgs false
set_option linter.unusedVariables false

def bsN : Nat → Nat → Nat
  | 0, _ => 0
  | k + 1, x => x % 2 + bsN k (x / 2)
theorem bsN_zero : ∀ k, bsN k 0 = 0
  | 0 => rfl
  | k + 1 => by simp only [bsN, Nat.zero_mod, Nat.zero_div]; rw [bsN_zero k]
theorem bsN_le : ∀ k x, bsN k x ≤ k
  | 0, _ => Nat.le_refl _
  | k + 1, x => by have := bsN_le k (x / 2); simp only [bsN]; omega
def on32 (x : BitVec 32) : Nat := bsN 32 x.toNat
def fr32 (x : BitVec 32) (k : Nat) : Nat := bsN k (x.toNat / 2 ^ (32 - k))
def bt (x : BitVec 32) (p : Nat) : Bool := x.getLsbD (31 - p)
theorem fr_zero (x : BitVec 32) : fr32 x 0 = 0 := rfl
theorem fr_all (x : BitVec 32) : fr32 x 32 = on32 x := by unfold fr32 on32; simp
theorem bit_val (x : BitVec 32) (i : Nat) : x.toNat / 2 ^ i % 2 = (x.getLsbD i).toNat := by
  have : x.getLsbD i = decide (x.toNat / 2 ^ i % 2 = 1) := by
    unfold BitVec.getLsbD; rw [Nat.testBit_eq_decide_div_mod_eq]
  rw [this]
  by_cases c : x.toNat / 2 ^ i % 2 = 1
  · simp [c]
  · simp [c]; omega
theorem fr_succ (x : BitVec 32) (k : Nat) (h : k < 32) : fr32 x (k + 1) = fr32 x k + (bt x k).toNat := by
  unfold fr32 bt
  rw [show 32 - (k + 1) = 31 - k by omega]
  simp only [bsN]
  rw [bit_val, Nat.div_div_eq_div_mul, ← Nat.pow_succ, show (31 - k).succ = 32 - k by omega]
  omega
def plc (U : List (BitVec 32)) (p : Nat) : Bool := bt (U.getD (p / 32) 0#32) (p % 32)
def cnt (U : List (BitVec 32)) : Nat → Nat
  | 0 => 0
  | k + 1 => cnt U k + (plc U k).toNat
def sumW (U : List (BitVec 32)) : Nat → Nat
  | 0 => 0
  | a + 1 => sumW U a + on32 (U.getD a 0#32)
theorem cnt_word (U : List (BitVec 32)) (a : Nat) : ∀ r, r ≤ 32 → cnt U (32 * a + r) = cnt U (32 * a) + fr32 (U.getD a 0#32) r
  | 0, _ => by simp [fr_zero]
  | r + 1, h => by
    rw [← Nat.add_assoc]
    simp only [cnt]
    rw [cnt_word U a r (by omega), fr_succ _ r (by omega)]
    unfold plc
    rw [show (32 * a + r) / 32 = a by omega, show (32 * a + r) % 32 = r by omega]
    omega
theorem cnt_words (U : List (BitVec 32)) : ∀ a, cnt U (32 * a) = sumW U a
  | 0 => rfl
  | a + 1 => by
    rw [show 32 * (a + 1) = 32 * a + 32 by omega, cnt_word U a 32 (Nat.le_refl _), cnt_words U a, fr_all]
    rfl
theorem cnt_mono (U : List (BitVec 32)) : ∀ p q, p ≤ q → cnt U p ≤ cnt U q := by
  intro p q h
  induction q with
  | zero => have : p = 0 := by omega
            subst this; exact Nat.le_refl _
  | succ q ih =>
    by_cases c : p = q + 1
    · subst c; exact Nat.le_refl _
    · have := ih (by omega); simp only [cnt]; omega
theorem clear_low : ∀ k u, 0 < u → u < 2 ^ k → bsN k (u &&& (u - 1)) + 1 = bsN k u
  | 0, u, h, h2 => by simp at h2; omega
  | k + 1, u, h, h2 => by
    have a1 : (u &&& (u - 1)) % 2 = (u % 2) &&& ((u - 1) % 2) := by
      have := Nat.and_mod_two_pow (a := u) (b := u - 1) (n := 1)
      simpa using this
    have a2 : (u &&& (u - 1)) / 2 = (u / 2) &&& ((u - 1) / 2) := by
      have := Nat.and_div_two_pow (a := u) (b := u - 1) (n := 1)
      simpa using this
    simp only [bsN]
    rw [a1, a2]
    rcases (show u % 2 = 0 ∨ u % 2 = 1 by omega) with c | c
    · have e1 : (u - 1) / 2 = u / 2 - 1 := by omega
      have ih := clear_low k (u / 2) (by omega) (by rw [Nat.pow_succ] at h2; omega)
      rw [c, e1, Nat.zero_and]
      omega
    · have e1 : (u - 1) / 2 = u / 2 := by omega
      have e2 : (u - 1) % 2 = 0 := by omega
      rw [c, e1, e2, Nat.and_zero, Nat.and_self]
      omega
end Go.Proofs.Ytdpmhpmnkollaaa
namespace Go.Proofs.Ytdpmhpmnkollaaa
open Go.RowKit
set_option linter.unusedSimpArgs false
set_option linter.unusedVariables false

noncomputable def enE (l : List Nat) (p : Int) (es : List (Int × Int)) : Int :=
  if dcE l p ≠ 0 then dcE l p else if (dcI l p).op < 3 then 24 else
    match es.getLast? with
    | none => 0
    | some j => if j.1 = (dcI l p).op ∧ ((dcI l p).op = 4 ∧ (dcI l p).n = j.2 ∨ (dcI l p).op = 3 ∧ (dcI l p).n = j.2 - 1) then 25 else 0
noncomputable def enG (l : List Nat) (en : Int) : Nat → Nat → List (Int × Int) → List (Int × Int) × Int × Int
  | 0, k, es => (es, 0, 0)
  | r + 1, k, es => if enE l (en + k) es = 0 then enG l en r (k + 1) (es ++ [((dcI l (en + k)).op, (dcI l (en + k)).n)]) else (es, enE l (en + k) es, en + k)
noncomputable def bkE (l : List Nat) (a : Int) : Int × Int :=
  if dcE l a ≠ 0 then (dcE l a, a) else if (dcI l a).op ≠ 1 then (24, a) else
  if dcE l (a + 1) ≠ 0 then (dcE l (a + 1), a + 1) else if (dcI l (a + 1)).op ≠ 2 then (24, a + 1) else
  if (dcI l (a + 1)).n ≠ (dcI l a).n then (25, a + 1) else (enG l (a + 1 + dcZ l (a + 1)) (sumW (dcI l (a + 1)).m (dcI l (a + 1)).m.length) 0 []).2
theorem enG_succ (l : List Nat) (en : Int) (r k : Nat) (es : List (Int × Int)) : enG l en (r + 1) k es = if enE l (en + k) es = 0 then enG l en r (k + 1) (es ++ [((dcI l (en + k)).op, (dcI l (en + k)).n)]) else (es, enE l (en + k) es, en + k) := rfl
theorem dcZ_zero {l : List Nat} {a : Int} (h : dcE l a = 0) : dcZ l a = 1 + ((dcI l a).m.length : Int) := by unfold dcZ; rw [if_pos h]
structure PB where
  a : Int
  t : Int
  m : List (BitVec 32)
  es : List (Bool × Int)
def prX (p : Int) (e : Int × Int) : Bool × Int := (e.1 == 3, if e.1 == 3 then p + e.2 else e.2)
def prE : Int → List (Int × Int) → List (Bool × Int)
  | _, [] => []
  | p, e :: t => prX p e :: prE (p + 1) t
theorem prE_app : ∀ (p : Int) (A : List (Int × Int)) (e : Int × Int), prE p (A ++ [e]) = prE p A ++ [prX (p + A.length) e]
  | p, [], e => by simp [prE]
  | p, x :: A, e => by
    have : p + 1 + (A.length : Int) = p + ((x :: A).length : Nat) := by simp; omega
    show prX p x :: prE (p + 1) (A ++ [e]) = _
    rw [prE_app (p + 1) A e, this]; rfl
theorem prE_len : ∀ (p : Int) (A : List (Int × Int)), (prE p A).length = A.length
  | p, [] => rfl
  | p, x :: A => by
    show (prE (p + 1) A).length + 1 = _
    rw [prE_len]; rfl
theorem prE_last (p : Int) (A : List (Int × Int)) : (prE p A).getLast? = A.getLast?.map (prX (p + (A.length : Int) - 1)) := by
  rcases List.eq_nil_or_concat A with rfl | ⟨B, e, rfl⟩
  · rfl
  · rw [List.concat_eq_append, prE_app]
    simp only [List.getLast?_append, List.getLast?_singleton, Option.some_or, Option.map_some, List.length_append, List.length_singleton]
    congr 2
    push_cast
    omega
theorem enE_pr (l : List Nat) (en : Int) (es : List (Int × Int)) (h : dcE l (en + es.length) = 0) (ho : (dcI l (en + es.length)).op = 3 ∨ (dcI l (en + es.length)).op = 4) (hes : ∀ e ∈ es, e.1 = 3 ∨ e.1 = 4) :
    enE l (en + es.length) es = if (prE en es).getLast? = some (prX (en + es.length) ((dcI l (en + es.length)).op, (dcI l (en + es.length)).n)) then 25 else 0 := by
  unfold enE
  rw [if_neg (by simp [h]), if_neg (by rcases ho with q | q <;> rw [q] <;> decide), prE_last]
  cases hg : es.getLast? with
  | none => simp
  | some j =>
    have hj := hes j (List.mem_of_getLast? hg)
    obtain ⟨jo, jn⟩ := j
    dsimp only at hj
    dsimp only [Option.map_some]
    generalize (dcI l (en + es.length)).op = o at *
    generalize (dcI l (en + es.length)).n = n at *
    have hiff : (jo = o ∧ (o = 4 ∧ n = jn ∨ o = 3 ∧ n = jn - 1)) ↔ (some (prX (en + (es.length : Int) - 1) (jo, jn)) = some (prX (en + (es.length : Int)) (o, n))) := by
      unfold prX
      rcases ho with rfl | rfl <;> rcases hj with rfl | rfl <;> simp <;> omega
    by_cases hc : (jo = o ∧ (o = 4 ∧ n = jn ∨ o = 3 ∧ n = jn - 1))
    · rw [if_pos hc, if_pos (hiff.1 hc)]
    · rw [if_neg hc, if_neg (fun q => hc (hiff.2 q))]
end Go.Proofs.Ytdpmhpmnkollaaa
namespace Go.Proofs.Ytdpmhpmnkollaaa
open Go.RowKit
set_option linter.unusedSimpArgs false
set_option linter.unusedVariables false

section
variable {P : Program}

theorem put_size (a : Act) (dst : Option Tmp) (v : Value) : (a.put dst v).tmps.size = a.tmps.size := by
  unfold Act.put; cases dst <;> simp
theorem put_other (a : Act) (dst : Option Tmp) (v : Value) (s : Nat) (h : dst ≠ some s) : (a.put dst v).tmps[s]? = a.tmps[s]? := by
  unfold Act.put
  cases dst with
  | none => rfl
  | some d =>
    have : d ≠ s := fun e => h (by rw [e])
    simp [Array.getElem?_setIfInBounds, this]
def rep (l : List Oper) (j : Nat) (N : Value) : List Oper := l.modify j fun o => { o with op := .assign (.const N) }
theorem rep_len (l : List Oper) (j : Nat) (N : Value) : (rep l j N).length = l.length := by unfold rep; simp
theorem rep_ne (l : List Oper) (j : Nat) (N : Value) (i : Nat) (h : i ≠ j) : (rep l j N)[i]? = l[i]? := by
  unfold rep; rw [List.getElem?_modify]; simp [Ne.symm h]
theorem rep_same (l : List Oper) (j : Nat) (N : Value) (i : Nat) : ((rep l j N)[i]?).map (fun o => (o.dst, o.after, o.guard)) = (l[i]?).map (fun o => (o.dst, o.after, o.guard)) := by
  unfold rep
  rw [List.getElem?_modify]
  cases l[i]? <;> simp
  split <;> simp
theorem rep_of (l : List Oper) (j : Nat) (N : Value) (i : Nat) (o : Oper) (h : l[i]? = some o) : ∃ o', (rep l j N)[i]? = some o' ∧ o'.dst = o.dst ∧ o'.after = o.after ∧ o'.guard = o.guard := by
  have := rep_same l j N i
  rw [h] at this
  cases e : (rep l j N)[i]? with
  | none => rw [e] at this; simp at this
  | some o' => rw [e] at this; simp at this; exact ⟨o', rfl, this.1, this.2.1, this.2.2⟩
theorem rep_yield (l : List Oper) (j : Nat) (N : Value) (tmps : Array Value) (k : Nat) : yielded (rep l j N).toArray tmps k = yielded l.toArray tmps k := by
  unfold yielded
  have := rep_same l j N k
  simp only [List.getElem?_toArray]
  cases e : l[k]? with
  | none =>
    cases e' : (rep l j N)[k]? with
    | none => rfl
    | some o => rw [e, e'] at this; simp at this
  | some o =>
    cases e' : (rep l j N)[k]? with
    | none => rw [e, e'] at this; simp at this
    | some o' => rw [e, e'] at this; simp at this; simp [this.1]
theorem yield_take (l : List Oper) (m : Nat) (tmps : Array Value) (k : Nat) (hk : k < m) : yielded (l.take m).toArray tmps k = yielded l.toArray tmps k := by
  unfold yielded
  simp [List.getElem?_take, hk]
def seqB (md : Region.Mode) (ops : Array Oper) : Nat → Nat → Array Bool → Bool
  | 0, _, listed => Region.ready md ops listed == []
  | f + 1, k, listed => (Region.ready md ops listed == [k]) && seqB md ops f (k + 1) (listed.setIfInBounds k true)
theorem any_seq {md : Region.Mode} {ops : Array Oper} {Q : Exit → Act → World → Prop} : ∀ (l : List Oper) (k : Nat) (listed : Array Bool) (a : Act) (w : World), (∀ i, l[i]? = ops[k + i]?) → seqB md ops l.length k listed = true →
    wpList P ops Q l a w → wpAny P md ops Q l.length listed a w
  | [], k, listed, a, w, _, hB, h => by
    simp only [List.length_nil, seqB, beq_iff_eq] at hB
    exact ⟨hB, h⟩
  | o :: l, k, listed, a, w, hl, hB, h => by
    simp only [List.length_cons, seqB, Bool.and_eq_true, beq_iff_eq] at hB
    refine ⟨fun e => (by rw [hB.1] at e; cases e), fun i hi => ?_⟩
    rw [hB.1] at hi
    have e : i = k := by simpa using hi
    subst e
    have h0 : ops[i]? = some o := by simpa using (hl 0).symm
    unfold wpOp
    simp only [h0]
    have ih : ∀ a w, wpList P ops Q l a w → wpAny P md ops Q l.length (listed.setIfInBounds i true) a w := fun a w h => any_seq l (i + 1) (listed.setIfInBounds i true) a w (fun q => by have := hl (q + 1); simpa [Nat.add_assoc, Nat.add_comm 1 q] using this) hB.2 h
    unfold wpList at h
    split
    · rename_i hw
      rw [if_pos hw] at h
      exact h.imp (Oper.wp_mono ih) id
    · rename_i hw
      rw [if_neg hw] at h
      exact ih _ _ h

theorem get_app_lt (lp : Array Bool) (p i : Nat) (h : i < lp.size) (d : Bool) : (lp ++ Array.replicate p false).getD i d = lp.getD i d := by
  simp [Array.getElem?_append, h]
theorem get_app_false (lp : Array Bool) (p i : Nat) : (lp ++ Array.replicate p false).getD i false = lp.getD i false := by
  by_cases h : i < lp.size
  · exact get_app_lt lp p i h false
  · simp [Array.getElem?_append, h, Array.getElem?_replicate]
    split <;> rfl
theorem set_app (lp : Array Bool) (p i : Nat) (h : i < lp.size) : (lp ++ Array.replicate p false).setIfInBounds i true = lp.setIfInBounds i true ++ Array.replicate p false := by
  apply Array.ext
  · simp
  · intro q h1 h2
    rw [Array.getElem_setIfInBounds (hj := by simpa using h1)]
    rw [Array.getElem_append, Array.getElem_append]
    by_cases c : i = q
    · subst c
      simp [h]
    · rw [if_neg c]
      simp only [Array.size_setIfInBounds]
      split
      · rw [Array.getElem_setIfInBounds, if_neg c]
      · rfl
def unl (lp : Array Bool) : Nat := lp.toList.count false
theorem count_set : ∀ (l : List Bool) (i : Nat), l[i]? = some false → (l.set i true).count false + 1 = l.count false := by
  intro l
  induction l with
  | nil => intro i h; simp at h
  | cons b l ih =>
    intro i h
    cases i with
    | zero => simp at h; subst h; simp
    | succ i =>
      have := ih i (by simpa using h)
      simp only [List.set_cons_succ, List.count_cons]
      omega
theorem unl_set (lp : Array Bool) (i : Nat) (h : lp.getD i true = false) : unl (lp.setIfInBounds i true) + 1 = unl lp := by
  unfold unl
  rw [Array.toList_setIfInBounds]
  apply count_set
  rw [Array.getElem?_toList]
  cases e : lp[i]? with
  | none => rw [Array.getD_eq_getD_getElem?, e] at h; simp at h
  | some b => rw [Array.getD_eq_getD_getElem?, e] at h; simp at h; rw [h]
theorem unl_zero (lp : Array Bool) (h : unl lp = 0) : lp = Array.replicate lp.size true := by
  unfold unl at h
  rw [List.count_eq_zero] at h
  apply Array.ext
  · simp
  · intro i h1 h2
    simp
    cases e : lp[i] with
    | true => rfl
    | false => exact absurd (by rw [← e]; simp) h
theorem unl_some (lp : Array Bool) (f : Nat) (h : unl lp = f + 1) : ∃ k, k < lp.size ∧ lp.getD k true = false := by
  unfold unl at h
  have : false ∈ lp.toList := List.count_pos_iff.mp (by omega)
  obtain ⟨k, hk, e⟩ := List.getElem_of_mem this
  have hk' : k < lp.size := by simpa using hk
  exact ⟨k, hk', by rw [Array.getD_eq_getD_getElem?]; simp [hk']; simpa using e⟩
def waitB (l : List Oper) (m : Nat) : Bool := (l.drop m).all fun o => (List.range m).all fun k => o.after.any fun e => Region.binds .any e && e.on == k
theorem ready_pre (l : List Oper) (m j : Nat) (N : Value) (hml : m ≤ l.length) (hw : waitB l m = true) (lp : Array Bool) (hs : lp.size = m) (f : Nat) (hu : unl lp = f + 1) (i : Nat)
    (hi : i ∈ Region.ready .any l.toArray (lp ++ Array.replicate (l.length - m) false)) : i < m ∧ i ∈ Region.ready .any (rep (l.take m) j N).toArray lp := by
  obtain ⟨hun, o, ho, hall⟩ := mem_ready.1 hi
  have ho' : l[i]? = some o := by simpa using ho
  have him : i < m := by
    apply Classical.byContradiction
    intro c
    obtain ⟨k, hk, hf⟩ := unl_some lp f hu
    have hmem : o ∈ l.drop m := by
      have : (l.drop m)[i - m]? = some o := by rw [List.getElem?_drop, show m + (i - m) = i by omega]; exact ho'
      exact List.mem_of_getElem? this
    have h1 := List.all_eq_true.mp hw o hmem
    have h2 := List.all_eq_true.mp h1 k (List.mem_range.mpr (by omega))
    obtain ⟨e, he, heq⟩ := Array.any_eq_true'.mp h2
    simp only [Bool.and_eq_true, beq_iff_eq] at heq
    have h3 := hall e he heq.1
    rw [heq.2, get_app_false] at h3
    rw [Array.getD_eq_getD_getElem?] at h3 hf
    cases q : lp[k]? with
    | none => rw [q] at h3; simp at h3
    | some b => rw [q] at h3 hf; simp at h3 hf; rw [h3] at hf; cases hf
  refine ⟨him, mem_ready.2 ⟨by rw [get_app_lt lp _ i (by omega)] at hun; exact hun, ?_⟩⟩
  obtain ⟨o', h1, h2, h3, h4⟩ := rep_of (l.take m) j N i o (by rw [List.getElem?_take, if_pos him]; exact ho')
  refine ⟨o', by simpa using h1, fun e he hb => ?_⟩
  rw [h3] at he
  have := hall e he hb
  rwa [get_app_false] at this

theorem wanted_rep (l : List Oper) (m j : Nat) (N : Value) (a : Act) (o o' : Oper) (hg : o'.guard = o.guard) (hlt : ∀ k b, o.guard = some (k, b) → k < m) : Region.wanted o' (yielded (rep (l.take m) j N).toArray a.tmps) = Region.wanted o (yielded l.toArray a.tmps) := by
  unfold Region.wanted
  rw [hg]
  cases e : o.guard with
  | none => rfl
  | some kb =>
    obtain ⟨k, b⟩ := kb
    simp only
    rw [rep_yield, yield_take l m a.tmps k (hlt k b e)]
theorem wp_of_yields {ops ops' : Array Oper} {C : World → Prop} {Q : Exit → Act → World → Prop} {i : Nat} {o : Oper} {v : Value} {a : Act} {w : World} {K : Act → World → Prop} (ho : ops[i]? = some o) (hw : Region.wanted o (yielded ops' a.tmps) = Region.wanted o (yielded ops a.tmps))
    (hy : YieldsIn P ops' C o v a) (hC : C w) (h : ∀ w', C w' → K (a.put o.dst v) w') : wpOp P ops Q i K a w := by
  unfold wpOp
  simp only [ho]
  rcases hy with ⟨h1, h2⟩ | ⟨h1, h2⟩
  · rw [if_pos (by rw [← hw]; exact h1)]
    exact .inl (Oper.wp_of_quiet (K := fun a' => a' = a.put o.dst v) hC (fun a' w' hw' e => by rw [e]; exact h w' hw') ⟨v, h2, rfl⟩)
  · rw [if_neg (by rw [← hw, h1]; decide)]
    rw [← h2]
    exact h w hC
structure QpOk (l : List Oper) (m j : Nat) : Prop where
  ml : m ≤ l.length
  lex : ∀ N, Region.lexB .any (rep (l.take m) j N).toArray = true
  wait : waitB l m = true
  seq : seqB .any l.toArray (l.length - m) m (Array.replicate m true ++ Array.replicate (l.length - m) false) = true
  guards : ∀ (i : Nat) o, l[i]? = some o → ∀ k b, o.guard = some (k, b) → k < m
  edges : ∀ (i : Nat) o, l[i]? = some o → ∀ e ∈ o.after, Region.binds .any e = true → e.on < i
def guardsB (l : List Oper) (m : Nat) : Bool := l.all fun o => match o.guard with | some (k, _) => decide (k < m) | none => true
theorem guards_of {l : List Oper} {m : Nat} (h : guardsB l m = true) : ∀ (i : Nat) o, l[i]? = some o → ∀ k b, o.guard = some (k, b) → k < m := by
  intro i o ho k b hg
  have := List.all_eq_true.mp h o (List.mem_of_getElem? ho)
  rw [hg] at this
  simpa using this
def edgesB (l : List Oper) : Bool := (List.range l.length).all fun i => match l[i]? with | some o => o.after.all fun e => !Region.binds .any e || decide (e.on < i) | none => true
theorem edges_of {l : List Oper} (h : edgesB l = true) : ∀ (i : Nat) o, l[i]? = some o → ∀ e ∈ o.after, Region.binds .any e = true → e.on < i := by
  intro i o ho e he hb
  have hi : i < l.length := (List.getElem?_eq_some_iff.mp ho).1
  have h1 := List.all_eq_true.mp h i (List.mem_range.mpr hi)
  simp only [ho] at h1
  have := Array.all_eq_true_iff_forall_mem.1 h1 e he
  simpa [hb] using this
theorem qpOk {l : List Oper} (m j : Nat) (h1 : m ≤ l.length) (h2 : ∀ N, Region.lexB .any (rep (l.take m) j N).toArray = true) (h3 : waitB l m = true)
    (h4 : seqB .any l.toArray (l.length - m) m (Array.replicate m true ++ Array.replicate (l.length - m) false) = true) (h5 : guardsB l m = true) (h6 : edgesB l = true) : QpOk l m j :=
  ⟨h1, h2, h3, h4, guards_of h5, edges_of h6⟩
theorem erase_get (l l' : List Value) (d s : Nat) (h : l.eraseIdx d = l'.eraseIdx d) (hs : s ≠ d) : l[s]? = l'[s]? := by
  rcases Nat.lt_or_gt_of_ne hs with q | q
  · have := congrArg (fun x => x[s]?) h
    simpa [List.getElem?_eraseIdx, q] using this
  · have := congrArg (fun x => x[s - 1]?) h
    simp only [List.getElem?_eraseIdx] at this
    rw [if_neg (by omega), if_neg (by omega), show s - 1 + 1 = s by omega] at this
    exact this
theorem some_ready {l : List Oper} {m j : Nat} (ok : QpOk l m j) (lp : Array Bool) (hs : lp.size = m) : ∀ k, k < m → lp.getD k true = false → Region.ready .any l.toArray (lp ++ Array.replicate (l.length - m) false) ≠ [] := by
  intro k
  induction k using Nat.strongRecOn with
  | ind k ih =>
    intro hk hf hr
    have hkl : k < l.length := by have := ok.ml; omega
    by_cases c : ∀ e ∈ (l[k]).after, Region.binds .any e = true → (lp ++ Array.replicate (l.length - m) false).getD e.on false = true
    · have : k ∈ Region.ready .any l.toArray (lp ++ Array.replicate (l.length - m) false) := mem_ready.2 ⟨by rw [get_app_lt lp _ k (by omega)]; exact hf, l[k], by simp [hkl], c⟩
      rw [hr] at this
      cases this
    · simp only [Classical.not_forall] at c
      obtain ⟨e, he, hb, hn⟩ := c
      have hlt := ok.edges k l[k] (by simp [hkl]) e he hb
      rw [get_app_false] at hn
      refine ih e.on hlt (by omega) ?_ hr
      have hlt2 : e.on < lp.size := by omega
      rw [Array.getD_eq_getD_getElem?] at hn ⊢
      simp [hlt2] at hn ⊢
      exact hn
theorem done_any {l : List Oper} {m j : Nat} (ok : QpOk l m j) {C : World → Prop} {N : Value} {A : Act} {Q : Exit → Act → World → Prop}
    (hpost : ∀ w, C w → wpList P l.toArray Q (l.drop m) A w) : ∀ (fuel : Nat) (lp : Array Bool) (a : Act) (w : World), lp.size = m → unl lp = fuel → (j < m → lp.getD j false = true) → C w →
      wpAnyQ P .any (rep (l.take m) j N).toArray C (fun a' => a' = A) fuel lp a → wpAny P .any l.toArray Q (fuel + (l.length - m)) (lp ++ Array.replicate (l.length - m) false) a w := by
  intro fuel
  induction fuel with
  | zero =>
    intro lp a w hs hu hj hC h
    rw [h.2, unl_zero lp hu, hs, Nat.zero_add, show l.length - m = (l.drop m).length by simp]
    refine any_seq (l.drop m) m _ A w (fun i => by simp) ?_ (hpost w hC)
    have := ok.seq
    rwa [show l.length - m = (l.drop m).length by simp] at this
  | succ fuel ih =>
    intro lp a w hs hu hj hC h
    rw [show fuel + 1 + (l.length - m) = (fuel + (l.length - m)) + 1 by omega]
    have key : ∀ i ∈ Region.ready .any l.toArray (lp ++ Array.replicate (l.length - m) false), wpOp P l.toArray Q i (wpAny P .any l.toArray Q (fuel + (l.length - m)) ((lp ++ Array.replicate (l.length - m) false).setIfInBounds i true)) a w := by
      intro i hi
      obtain ⟨him, hir⟩ := ready_pre l m j N ok.ml ok.wait lp hs fuel hu i hi
      obtain ⟨hun, _⟩ := mem_ready.1 hir
      have hij : i ≠ j := by
        intro e
        subst e
        have hj := hj him
        rw [Array.getD_eq_getD_getElem?] at hun hj
        cases q : lp[i]? with
        | none => rw [q] at hun; simp at hun
        | some b => rw [q] at hun hj; simp at hun hj; rw [hun] at hj; cases hj
      obtain ⟨_, o, ho, _⟩ := mem_ready.1 hi
      have ho' : l[i]? = some o := by simpa using ho
      have hor : (rep (l.take m) j N).toArray[i]? = some o := by
        simp only [List.getElem?_toArray]
        rw [rep_ne _ _ _ _ hij, List.getElem?_take, if_pos him]; exact ho'
      obtain ⟨v, hy, hK⟩ := yieldsIn_of_qOp hor (h.2 i hir)
      refine wp_of_yields ho (wanted_rep l m j N a o o rfl (ok.guards i o ho')) hy hC (fun w' hw' => ?_)
      rw [set_app lp _ i (by omega)]
      refine ih _ _ w' (by simp [hs]) (by have := unl_set lp i hun; omega) ?_ hw' hK
      exact fun q => getD_set_true (hj q)
    refine ⟨fun e => ?_, key⟩
    obtain ⟨k, hk, hf⟩ := unl_some lp fuel hu
    exact absurd e (some_ready ok lp hs k (by omega) hf)
theorem rep_out (l : List Oper) (j : Nat) (N : Value) (h : l.length ≤ j) : rep l j N = l := by
  apply List.ext_getElem?
  intro i
  by_cases c : i = j
  · subst c
    rw [List.getElem?_eq_none (by rw [rep_len]; exact h), List.getElem?_eq_none h]
  · exact rep_ne l j N i c
def putAll (a : Act) : List (Option Tmp) → List Value → Act
  | d :: ds, v :: vs => putAll (a.put d v) ds vs
  | _, _ => a
end
end Go.Proofs.Ytdpmhpmnkollaaa
namespace Go.Proofs.Ytdpmhpmnkollaaa
open Go.RowKit
set_option linter.unusedSimpArgs false
set_option linter.unusedVariables false

section
variable {P : Program}

end
end Go.Proofs.Ytdpmhpmnkollaaa
