/-
  Part 4 of the proof: 2 texts, one behind the other.
-/
import Derived.Test.YtnaihocdemcejaaPart3
import Derived.ArgAppend
/-
  What the document's Get and Put do.
-/
namespace Go.Proofs.Ytnaihocdemcejaa
open Go.RowKit
set_option linter.unusedSimpArgs false
set_option linter.unusedVariables false

theorem numN_snoc (l : List Nat) (b : Nat) : numN (l ++ [b]) = numN l * 256 + b := by unfold numN; rw [List.foldl_append]; rfl
theorem fold_lt (l : List Nat) (h : ∀ b ∈ l, b < 256) : ∀ v, l.foldl (fun v b => v * 256 + b) v < (v + 1) * 256 ^ l.length := by
  induction l with
  | nil => intro v; simp
  | cons b l ih =>
    intro v
    have h1 := ih (fun x hx => h x (by simp [hx])) (v * 256 + b)
    have h2 := h b (by simp)
    rw [List.foldl_cons, List.length_cons, Nat.pow_succ]
    refine Nat.lt_of_lt_of_le h1 ?_
    rw [Nat.mul_comm (256 ^ l.length) 256, ← Nat.mul_assoc]
    exact Nat.mul_le_mul_right _ (by omega)
theorem numN_lt (l : List Nat) (h : ∀ b ∈ l, b < 256) : numN l < 256 ^ l.length := by
  have := fold_lt l h 0
  unfold numN
  omega
set_option maxRecDepth 100000 in
set_option maxHeartbeats 8000000 in
theorem rget13 (v : Value) (l : List Nat) (n K : Int) (k : Nat) (hK : K = (k : Int)) (hk0 : 0 < k) (hk : k ≤ 4) (w : World) (hv : RwX cB w v l) (hl : l.length ≤ 140737488355328) (hx : ∀ b ∈ l, b < 256) (h0 : -9223372036854775808 ≤ n) (h1 : n ≤ 9223372036854775807) :
    Calls Try.prog 29 #[v, .int .i64 n, .int .i64 K] w fun e w' => e = .returned (.tuple #[.int .u32 ((gtN l n k : Nat) : Int), .bool (decide (0 ≤ n ∧ n ≤ (l.length : Int) - k))]) ∧ w' = w := by
  subst hK
  obtain ⟨ao, cc, rfl, hc, hv⟩ := hv
  have hli : (l.length : Int) ≤ 140737488355328 := by omega
  have hki : (k : Int) ≤ 4 := by omega
  unfold gtN
  by_cases h : 0 ≤ n ∧ n ≤ (l.length : Int) - (k : Int)
  · rw [if_pos h, decide_eq_true h]
    obtain ⟨p, rfl⟩ : ∃ p : Nat, n = (p : Int) := ⟨n.toNat, by omega⟩
    rw [Int.toNat_natCast]
    have hp : p + k ≤ l.length := by omega
    obtain ⟨bo, off, rfl, hcell⟩ : ∃ bo off, ao = some ⟨bo, off, none⟩ ∧ ∀ j x, l[j]? = some x → w.cell? ⟨bo, off + j, none⟩ = some (cB x) := by
      rcases hv with h | h
      · rw [h] at hp; simp at hp; omega
      · exact h
    have hpk : wrap64 ((p : Int) + (k : Int)) = (p : Int) + (k : Int) := by unfold wrap64; omega
    have c1 : ¬ (l.length : Int) < (p : Int) := by omega
    have c2 : ¬ (l.length : Int) - (p : Int) < (k : Int) := by omega
    have HX := hid13 hx
    have HC := hid13 hcell
    have HP := hid13 hp
    have HK4 := hid13 hk
    clear h hv hcell hx hc h0 h1 hp hk hk0
    go_enter Try.func29, Try.ntmps29
    go_wp2_with fail
    clear c1 c2
    go_loopg [8, 9] k (fun g a i wr => wr = w ∧ ∃ (q : Nat) (M : Int), q + g = p + k ∧ g ≤ k ∧ i = .int .i64 (q : Int) ∧ a = .int .u32 M ∧ Hid (M = ((numN ((l.drop p).take (k - g)) : Nat) : Int)))
    case atStart => exact ⟨rfl, p, 0, rfl, Nat.le_refl _, rfl, rfl, by show _ = _; rw [Nat.sub_self, List.take_zero]; rfl⟩
    case round =>
      obtain ⟨hw, q, M, hq, hgk, rfl, rfl, HM⟩ := hrel
      replace hw := hw.symm
      subst hw
      by_cases hlt : q < p + k
      · have hqi : (q : Int) < (p : Int) + (k : Int) := by omega
        have hql : q < l.length := by have := HP.out; omega
        obtain ⟨b, hb⟩ : ∃ b, l[q]? = some b := ⟨l[q], by simp [hql]⟩
        obtain ⟨B, hB⟩ : ∃ B : Int, B = (b : Int) := ⟨_, rfl⟩
        obtain ⟨m, hm⟩ : ∃ m, m = numN ((l.drop p).take (k - gk)) := ⟨_, rfl⟩
        have hMm : M = (m : Int) := by rw [hm]; exact HM.out
        have r1 : w.cell? ⟨bo, off + q, none⟩ = some (.int .u8 B) := by rw [hB]; exact HC.out q b hb
        have hql2 : (q : Int) < (l.length : Int) := by omega
        have hb8 : b < 256 := HX.out b (List.mem_of_getElem? hb)
        have hm3 : m < 16777216 := by
          have h2 := numN_lt ((l.drop p).take (k - gk)) (fun x hx => HX.out x (List.mem_of_mem_drop (List.mem_of_mem_take hx)))
          have h3 : ((l.drop p).take (k - gk)).length ≤ 3 := by rw [List.length_take]; have := HK4.out; omega
          have h4 := Nat.pow_le_pow_right (n := 256) (by omega) h3
          have : 256 ^ 3 = 16777216 := by decide
          omega
        obtain ⟨M2, hM2⟩ : ∃ M2 : Int, M2 = ((m * 256 + b : Nat) : Int) := ⟨_, rfl⟩
        have O1 : bits .or .u32 (M * 256) B = M2 := by rw [hM2]; exact orN32 (m * 256) b 8 (by omega) (by omega) (by omega) _ _ (by omega) hB
        have HM2 : Hid (M2 = ((numN ((l.drop p).take (k - (gk - 1))) : Nat) : Int)) := by
          show _ = _
          have e : k - (gk - 1) = (k - gk) + 1 := by omega
          have e2 : (l.drop p)[k - gk]? = some b := by rw [List.getElem?_drop]; rw [← hb]; congr 1; omega
          rw [e, List.take_add_one, e2, Option.toList_some, numN_snoc, ← hm, hM2]
        have hM0 : 0 ≤ M := by omega
        have hM1 : M < 16777216 := by omega
        have hB0 : 0 ≤ B := by omega
        have hB1 : B < 256 := by omega
        have mk : IntKind.i64.wrap ((q : Int) + 1) = (q : Int) + 1 := by rw [IntKind.wrap_i64]; omega
        have HK2 : Hid (gk - 1 < gk ∧ q + 1 + (gk - 1) = p + k ∧ gk - 1 ≤ k) := ⟨by omega, by omega, by omega⟩
        clear hb hm3 HM hq hgk hlt hql hM2 hMm hm hb8 hB
        go_wp2
        go_roundg (gk - 1)
        case measure => exact HK2.out.1
        case rel => exact ⟨rfl, q + 1, M2, HK2.out.2.1, HK2.out.2.2, rfl, rfl, HM2.out⟩
      · have hqi : ¬ (q : Int) < (p : Int) + (k : Int) := by omega
        have HF : Hid (M = ((numN ((l.drop p).take k) : Nat) : Int)) := by
          obtain rfl : gk = 0 := by omega
          exact HM.out
        go_wp2_with fail
        exact bodyPost_ret (v := .tuple #[.int .u32 M, .bool true]) (by simp [results, Try.results29, go_sem]) rfl ⟨by rw [HF.out], rfl⟩
  · rw [if_neg h, decide_eq_false h]
    by_cases d0 : n < 0
    · clear h
      go_enter Try.func29, Try.ntmps29
      go_wp2_with fail
      exact bodyPost_ret (v := .tuple #[.int .u32 0, .bool false]) (by simp [results, Try.results29, go_sem]) rfl ⟨rfl, rfl⟩
    · by_cases d1 : (l.length : Int) < n
      · clear h
        go_enter Try.func29, Try.ntmps29
        go_wp2_with fail
        exact bodyPost_ret (v := .tuple #[.int .u32 0, .bool false]) (by simp [results, Try.results29, go_sem]) rfl ⟨rfl, rfl⟩
      · have d2 : (l.length : Int) - n < (k : Int) := by omega
        have mw : IntKind.i64.wrap ((l.length : Int) - n) = (l.length : Int) - n := by rw [IntKind.wrap_i64]; omega
        clear h
        go_enter Try.func29, Try.ntmps29
        go_wp2_with fail
        exact bodyPost_ret (v := .tuple #[.int .u32 0, .bool false]) (by simp [results, Try.results29, go_sem]) rfl ⟨rfl, rfl⟩
/-- The row ahead of an append: it is full, or it is one's own. -/
def PS13 (w wr : World) (vb : Value) (R : List Nat) : Prop :=
  Below w.heap.size w wr ∧ (wr.ownsRow w.heap.size 5 1 vb R.length (R.map cB) ∨ (RowA wr 1 vb R.length (R.map cB) ∧ ∃ ao, vb = .slice ao R.length R.length))
set_option maxRecDepth 20000 in
theorem wpList_put13 {ops : Array Oper} {rest : List Oper} {o : Oper} {a : Act} {Q : Exit → Act → World → Prop} (hgd : o.guard = none) (s x : Operand)
    (ho : o.op = .call { callee := .builtin .append, args := #[s, x], argTypes := #[25, 25] }) (w wr : World) (vb : Value) (R : List Nat) (hS : PS13 w wr vb R) (b : Nat) (hl : R.length ≤ 140737488355200) (hs : a.eval s = vb) (hx : a.eval x = .slice (some ⟨wr.heap.size, 0, none⟩) 1 1)
    (h : ∀ v' w', w'.ownsRow w.heap.size 5 1 v' (R ++ [b]).length ((R ++ [b]).map cB) → Below w.heap.size w w' → wpList Try.prog ops Q rest (a.put o.dst v') w') : wpList Try.prog ops Q (o :: rest) a (wr.alloc (.cells #[.int .u8 (b : Int)] 5)) := by
  obtain ⟨i0, hi, hz0, hz1, hz2⟩ := info13 Try.infoB13
  obtain ⟨hB, hS⟩ := hS
  have q9 := bl1 wr (.cells #[.int .u8 (b : Int)] 5)
  have h63 : R.length + 1 ≤ maxLen := by unfold maxLen; omega
  have h47 : (R.length + 1) * 1 ≤ 140737488355328 := by omega
  have hsz : w.heap.size ≤ (wr.alloc (.cells #[.int .u8 (b : Int)] 5)).heap.size := Nat.le_trans hB.size q9.size
  have hB9 := keepb q9 hB
  have hmap : R.map cB ++ [.int .u8 (b : Int)] = (R ++ [b]).map cB := by rw [List.map_append]; rfl
  have hlen : (R ++ [b]).length = R.length + 1 := by simp
  rcases hS with hS | ⟨hS, ao, hv⟩
  · have hO := own_b13 q9 hS
    refine wpList_append_lies _ hgd s x 25 ho w.heap.size 5 i0 (.int .u8 0) 1 1 Try.underlying25 hi hz0 hz1 hz2 rfl (by decide) vb R.length (R.map cB) hs hO ⟨wr.heap.size, 0, none⟩ 1 1 [.int .u8 (b : Int)] hx rfl (news13 (by simp [go_sem])) (by intro u hu; simp at hu; subst hu; rfl) (by decide) h63 h47 hsz _ rfl ?_
    intro g cap w' h1 h2 _ _
    refine h _ w' ?_ (hB9.grown h2 hB9.size (fun z e => (hO.lt z e).1))
    rw [hlen, ← hmap]; exact h1
  · subst hv
    obtain ⟨hl0, ao', c', e, hc, hr⟩ := hS.below q9
    injection e with e1 e2 e3
    subst e1
    refine wpList_append_grows _ hgd s x 25 ho 5 i0 (.int .u8 0) 1 1 Try.underlying25 hi hz0 hz1 hz2 rfl (by decide) ao R.length R.length (R.map cB) hs ?_ hl0 ?_ ⟨wr.heap.size, 0, none⟩ 1 1 [.int .u8 (b : Int)] hx rfl (news13 (by simp [go_sem])) (by intro u hu; simp at hu; subst hu; rfl) (by omega) h63 h47 ?_
    · intro hn
      rcases hr with ⟨-, -, h⟩ | ⟨ad, h, -⟩
      · exact ⟨h, h⟩
      · rw [hn] at h; cases h
    · intro bb hb j u hj
      rcases hr with ⟨h, -, -⟩ | ⟨ad, h, hr⟩
      · rw [hb] at h; cases h
      · rw [hb] at h; injection h with h; subst h; exact hr j u hj
    · intro v' w' h1 h2
      refine h v' w' ?_ (hB9.grown h2 hB9.size (fun z e => by cases e))
      have := own_wide13 h1 hsz
      rw [hlen, ← hmap]; exact this
/-- The last c bytes of a number, the greatest first. -/
def lastB (x : Nat) : Nat → List Nat
  | 0 => []
  | c + 1 => x / 256 ^ c % 256 :: lastB x c
theorem lastB_two (x : Nat) : lastB x 2 = by2 (x % 65536) := by
  unfold by2
  simp only [lastB]
  congr 1
  · omega
  · congr 1; omega
theorem lastB_four (x : Nat) (h : x < 4294967296) : lastB x 4 = by4 x := by
  unfold by4
  simp only [lastB]
  congr 1
  · omega
  · congr 1; congr 1; congr 1; omega
set_option maxRecDepth 100000 in
set_option maxHeartbeats 8000000 in
theorem rput13 (ao : Option Addr) (l : List Nat) (x : Nat) (K : Int) (k : Nat) (hK : K = (k : Int)) (hk0 : 0 < k) (hk : k ≤ 4) (w : World) (hA : RowA w 1 (.slice ao l.length l.length) l.length (l.map cB)) (hl : l.length ≤ 140737488355000) (hx : x < 4294967296) :
    Calls Try.prog 26 #[.slice ao l.length l.length, .int .u32 (x : Int), .int .i64 K] w fun e w' => ∃ v', e = .returned v' ∧ w'.ownsRow w.heap.size 5 1 v' (l ++ lastB x k).length ((l ++ lastB x k).map cB) ∧ Below w.heap.size w w' := by
  subst hK
  have HS0 : Hid (PS13 w w (.slice ao l.length l.length) l) := ⟨Below.refl _ _, .inr ⟨hA, ao, rfl⟩⟩
  obtain ⟨N, hN⟩ : ∃ N : Int, N = (x : Int) := ⟨_, rfl⟩
  have HN := hid13 hN
  have hN0 : 0 ≤ N := by omega
  have hN1 : N < 4294967296 := by omega
  have hq : N / 16777216 < 256 := by omega
  have hq0 : 0 ≤ N / 16777216 := by omega
  rw [← hN]
  have hki : (k : Int) ≤ 4 := by omega
  have HK0 : Hid (0 < k ∧ k ≤ 4 ∧ l.length ≤ 140737488355000) := ⟨hk0, hk, hl⟩
  clear hN hA hx hk0 hk hl
  go_enter Try.func26, Try.ntmps26
  go_wp2_with fail
  go_loopg [0, 7] k (fun g vb i wr => ∃ (c : Nat) (v : Value) (R : List Nat), c = g ∧ c ≤ k ∧ vb = v ∧ i = .int .i64 ((c : Int) - 1) ∧ Hid (PS13 w wr v R) ∧ (c < k → wr.ownsRow w.heap.size 5 1 v R.length (R.map cB)) ∧ Hid (R ++ lastB x c = l ++ lastB x k))
  case atStart => exact ⟨k, _, l, rfl, Nat.le_refl _, rfl, rfl, HS0, fun h => by omega, rfl⟩
  case round =>
    clear HS0
    obtain ⟨c, vb, R, rfl, hck, hvb, rfl, HS, HO, HR0⟩ := hrel
    subst hvb
    cases c with
    | zero =>
      have HO2 := hid13 (HO HK0.out.1)
      have e : R = l ++ lastB x k := by have := HR0.out; simp only [lastB, List.append_nil] at this; exact this
      subst e
      clear HO
      go_wp2_with fail
      exact bodyPost_ret (v := u0) (by simp [results, Try.results26, go_sem]) rfl ⟨_, rfl, HO2.out, HS.out.1⟩
    | succ c =>
      have HR : Hid (R.length ≤ 140737488355200) := by
        have h1 := congrArg List.length HR0.out
        have h2 : ∀ c, (lastB x c).length = c := by intro c; induction c with | zero => rfl | succ c ih => simp [lastB, ih]
        rw [List.length_append, List.length_append, h2, h2] at h1
        have := HK0.out
        show _ ≤ _
        omega
      obtain ⟨b, hb⟩ : ∃ b, b = x / 256 ^ c % 256 := ⟨_, rfl⟩
      have HP : Hid ((R ++ [b]) ++ lastB x c = l ++ lastB x k) := by
        have := HR0.out
        simp only [lastB] at this
        rw [List.append_assoc, hb]; exact this
      obtain ⟨y, hyb⟩ : ∃ y : Int, y = (b : Int) := ⟨_, rfl⟩
      have HY : Hid (N = (x : Int) ∧ x < 4294967296 ∧ y = ((x / 256 ^ c % 256 : Nat) : Int)) := ⟨HN.out, by have := HN.out; omega, by rw [hyb, hb]⟩
      have HK : Hid (c < c + 1 ∧ c ≤ k) := ⟨by omega, by omega⟩
      have hc4 : c < 4 := by have := HK0.out; omega
      have hp1 : ((c + 1 : Nat) : Int) - 1 = (c : Int) := by omega
      rw [hp1]
      clear HO HR0 hb hp1 hck
      rcases c with _ | _ | _ | _ | c
      · have hy : N % 256 = y := by have := HY.out; simp at this; omega
        go_wp2_with (at_builtin; apply stopHere9)
        refine (show wpList _ _ _ _ _ _ from ?_)
        try rw [hyb]
        refine wpList_put13 rfl _ _ rfl w wr u0 R HS.out b HR.out rfl rfl ?_
        intro v5 w5 ho5 hb5
        have HS5 : Hid (PS13 w w5 v5 (R ++ [b])) := ⟨hb5, .inl ho5⟩
        have HW5 := hid13 ho5
        clear ho5 hb5 HS
        go_wp2
        go_roundg 0
        case measure => exact HK.out.1
        case rel => exact ⟨0, v5, R ++ [b], rfl, HK.out.2, rfl, rfl, HS5, fun _ => HW5.out, HP.out⟩
      · have hy : N / 256 % 256 = y := by have := HY.out; simp at this; omega
        go_wp2_with (at_builtin; apply stopHere9)
        refine (show wpList _ _ _ _ _ _ from ?_)
        try rw [hyb]
        refine wpList_put13 rfl _ _ rfl w wr u0 R HS.out b HR.out rfl rfl ?_
        intro v5 w5 ho5 hb5
        have HS5 : Hid (PS13 w w5 v5 (R ++ [b])) := ⟨hb5, .inl ho5⟩
        have HW5 := hid13 ho5
        clear ho5 hb5 HS
        go_wp2
        go_roundg 1
        case measure => exact HK.out.1
        case rel => exact ⟨1, v5, R ++ [b], rfl, HK.out.2, rfl, rfl, HS5, fun _ => HW5.out, HP.out⟩
      · have hy : N / 65536 % 256 = y := by have := HY.out; simp at this; omega
        go_wp2_with (at_builtin; apply stopHere9)
        refine (show wpList _ _ _ _ _ _ from ?_)
        try rw [hyb]
        refine wpList_put13 rfl _ _ rfl w wr u0 R HS.out b HR.out rfl rfl ?_
        intro v5 w5 ho5 hb5
        have HS5 : Hid (PS13 w w5 v5 (R ++ [b])) := ⟨hb5, .inl ho5⟩
        have HW5 := hid13 ho5
        clear ho5 hb5 HS
        go_wp2
        go_roundg 2
        case measure => exact HK.out.1
        case rel => exact ⟨2, v5, R ++ [b], rfl, HK.out.2, rfl, rfl, HS5, fun _ => HW5.out, HP.out⟩
      · have hy : N / 16777216 = y := by have := HY.out; simp at this; omega
        go_wp2_with (at_builtin; apply stopHere9)
        refine (show wpList _ _ _ _ _ _ from ?_)
        try rw [hyb]
        refine wpList_put13 rfl _ _ rfl w wr u0 R HS.out b HR.out rfl rfl ?_
        intro v5 w5 ho5 hb5
        have HS5 : Hid (PS13 w w5 v5 (R ++ [b])) := ⟨hb5, .inl ho5⟩
        have HW5 := hid13 ho5
        clear ho5 hb5 HS
        go_wp2
        go_roundg 3
        case measure => exact HK.out.1
        case rel => exact ⟨3, v5, R ++ [b], rfl, HK.out.2, rfl, rfl, HS5, fun _ => HW5.out, HP.out⟩
      · omega
end Go.Proofs.Ytnaihocdemcejaa
/-
  What package code's stand, wordAt and readMap do.
-/
namespace Go.Proofs.Ytnaihocdemcejaa
open Go.RowKit
set_option linter.unusedSimpArgs false
set_option linter.unusedVariables false

/-- The word at a place. -/
def wdV (l : List Nat) (k : Nat) : BitVec 32 := BitVec.ofNat 32 (numN ((l.drop (4 * k)).take 4))
theorem wd_lt (l : List Nat) (k : Nat) (hx : ∀ b ∈ l, b < 256) : numN ((l.drop (4 * k)).take 4) < 4294967296 := by
  have h2 := numN_lt ((l.drop (4 * k)).take 4) (fun x h => hx x (List.mem_of_mem_drop (List.mem_of_mem_take h)))
  have h3 : ((l.drop (4 * k)).take 4).length ≤ 4 := by rw [List.length_take]; omega
  have h4 := Nat.pow_le_pow_right (n := 256) (by omega) h3
  have : 256 ^ 4 = 4294967296 := by decide
  omega
theorem wd_uI (l : List Nat) (k : Nat) (hx : ∀ b ∈ l, b < 256) : uI (wdV l k) = ((numN ((l.drop (4 * k)).take 4) : Nat) : Int) := uI_of _ (wd_lt l k hx)
def stB (m : Nat) (at' : Int) (c : Int) : Bool := decide (0 ≤ at') && decide (at' ≤ (m : Int) / 4 - c)
theorem cstand_any (ao : Option Addr) (m cc : Nat) (n c : Int) (w : World) (hc : 0 ≤ c ∧ c ≤ 1000000) (hm : m ≤ 140737488355328) :
    Calls Try.prog 37 #[.slice ao m cc, .int .i64 n, .int .i64 c] w fun e w' => e = .returned (.bool (stB m n c)) ∧ w' = w := by
  unfold stB
  have hw : IntKind.i64.wrap ((m : Int) / 4 - c) = (m : Int) / 4 - c := by rw [IntKind.wrap_i64]; omega
  obtain ⟨q, hq⟩ : ∃ q, q = (m : Int) / 4 - c := ⟨_, rfl⟩
  by_cases h : 0 ≤ n
  · rw [decide_eq_true h]
    go_enter Try.func37, Try.ntmps37
    go_wp2
    go_ret
    exact ⟨rfl, rfl⟩
  · rw [decide_eq_false h]
    go_enter Try.func37, Try.ntmps37
    go_wp2
    go_ret
    exact ⟨rfl, rfl⟩
theorem wordAt_any (v : Value) (l : List Nat) (k : Nat) (w : World) (hv : RwX cB w v l) (hl : l.length ≤ 140737488355328) (hx : ∀ b ∈ l, b < 256) (hk : k < l.length / 4) :
    Calls Try.prog 38 #[v, .int .i64 (k : Int)] w fun e w' => e = .returned (.int .u32 (uI (wdV l k))) ∧ Below w.heap.size w w' := by
  have hw : IntKind.i64.wrap ((k : Int) * 4) = (k : Int) * 4 := by rw [IntKind.wrap_i64]; omega
  have K1 := get32_any v l ((k : Int) * 4) w hv hl hx (by omega) (by omega)
  have hc : 0 ≤ (k : Int) * 4 ∧ (k : Int) * 4 ≤ (l.length : Int) - ((4 : Nat) : Int) := by constructor <;> omega
  have e1 : ((gtN l ((k : Int) * 4) 4 : Nat) : Int) = uI (wdV l k) := by
    rw [wd_uI l k hx]
    unfold gtN
    rw [if_pos hc]
    have : ((k : Int) * 4).toNat = 4 * k := by omega
    rw [this]
  have e2 : gtE l ((k : Int) * 4) 4 = 0 := by unfold gtE; rw [if_pos hc]
  rw [e1, e2] at K1
  obtain ⟨ao, c, rfl, -⟩ := hv
  clear hc e1 e2
  go_enter Try.func38, Try.ntmps38
  go_wp2_with fail
  refine K1.mono ?_
  rintro e w1 ⟨rfl, hb⟩
  have HB := hid13 hb
  clear hb K1
  go_wp2
  go_ret
  exact ⟨rfl, HB.out⟩
/-- The words from a place on. -/
def mpL (l : List Nat) (k c : Nat) : List (BitVec 32) := (List.range c).map fun j => wdV l (k + j)
theorem mpL_len (l : List Nat) (k c : Nat) : (mpL l k c).length = c := by unfold mpL; simp
theorem mpL_succ (l : List Nat) (k c : Nat) : mpL l k (c + 1) = mpL l k c ++ [wdV l (k + c)] := by unfold mpL; rw [List.range_succ, List.map_append]; rfl
theorem mpL_top (l : List Nat) (k n : Nat) : isMapB (mpL l k (mwN n)) n = topB (wdV l k) (2 ^ n) := by
  unfold isMapB
  rw [mpL_len, decide_eq_true rfl, Bool.true_and]
  have h := mwN_lo n
  obtain ⟨c, hc⟩ : ∃ c, mwN n = c + 1 := ⟨mwN n - 1, by omega⟩
  rw [hc]
  unfold mpL
  rw [List.range_succ_eq_map, List.map_cons]
  rfl
def rmP (l : List Nat) (k n : Nat) : List (BitVec 32) × Int :=
  if k + mwN n ≤ l.length / 4 then (if isMapB (mpL l k (mwN n)) n = true then (mpL l k (mwN n), 0) else ([], 25)) else ([], 30)
set_option maxRecDepth 100000 in
set_option maxHeartbeats 4000000 in
theorem readMap_any (v : Value) (l : List Nat) (k n : Nat) (w : World) (hv : RwX cB w v l) (hl : l.length ≤ 140737488355328) (hx : ∀ b ∈ l, b < 256) (hn : n ≤ 24) (hk : k ≤ 140737488355328) :
    Calls Try.prog 39 #[v, .int .i64 (k : Int), .int .i64 (n : Int)] w fun e w' => ∃ v', e = .returned (.tuple #[v', .int .i64 (rmP l k n).2]) ∧ w'.ownsRow w.heap.size 56 1 v' (rmP l k n).1.length ((rmP l k n).1.map cU) ∧ Below w.heap.size w w' := by
  have K1 := fun w => mapWords_any n hn w
  obtain ⟨ao, cc, hvf, -⟩ := id hv
  obtain ⟨i0, hi, hz0, hz1, hz2⟩ := info13 Try.infoU13
  obtain ⟨c, hc⟩ : ∃ c, c = mwN n := ⟨_, rfl⟩
  have hch := mwN_hi n hn
  have HR : Hid (rmP l k n = if k + c ≤ l.length / 4 then (if isMapB (mpL l k c) n = true then (mpL l k c, (0 : Int)) else ([], 25)) else ([], 30)) := by show _ = _; rw [hc]; rfl
  rw [← hc] at K1 hch
  have K2 := fun w => cstand_any ao l.length cc (k : Int) (c : Int) w ⟨by omega, by omega⟩ hl
  subst hvf
  by_cases hs : k + c ≤ l.length / 4
  · have e : stB l.length (k : Int) (c : Int) = true := by unfold stB; simp; omega
    rw [e] at K2
    have hmt : isMapB (mpL l k c) n = topB (wdV l k) (2 ^ n) := by rw [hc]; exact mpL_top l k n
    have HR' := HR.out
    rw [if_pos hs, hmt] at HR'
    clear HR hmt
    have hw0 := wordAt_any (.slice ao l.length cc) l k w hv hl hx (by have := mwN_lo n; omega)
    have KB := fun w => beginsMap_any (wdV l k) n w hn
    generalize topB (wdV l k) (2 ^ n) = z at *
    cases z with
    | false =>
      have HR : Hid (rmP l k n = ([], 25)) := HR'
      clear e hc hv hn hx hl hk hs HR' hch hi hz0 hz1 hz2
      go_enter Try.func39, Try.ntmps39
      go_wp2_with (first | (go_at_call 33; refine (K1 _).mono ?_; rintro e w1 ⟨rfl, hw1⟩; replace hw1 := hw1.symm; subst hw1) | (go_at_call 37; refine (K2 _).mono ?_; rintro e w1 ⟨rfl, hw1⟩; replace hw1 := hw1.symm; subst hw1) | fail)
      refine hw0.mono ?_
      rintro e w1 ⟨rfl, hb⟩
      have HB := hid13 hb
      clear hb
      go_wp2_with (first | (go_at_call 34; refine (KB _).mono ?_; rintro e w1 ⟨rfl, hw1⟩; replace hw1 := hw1.symm; subst hw1) | fail)
      exact bodyPost_ret (v := .tuple #[.slice none 0 0, .int .i64 25]) (by simp [results, Try.results39, go_sem]) rfl ⟨_, by rw [HR.out], by rw [HR.out]; exact World.ownsRow_nil _ _ _ _, HB.out⟩
    | true =>
    have HR : Hid (rmP l k n = (mpL l k c, 0)) := HR'
    clear HR'
    have hby : i0.bytes * c ≤ 281474976710656 := by rw [hz2]; omega
    have hmx : c ≤ maxLen := by unfold maxLen; omega
    have HV := hid13 hv
    have HN := hid13 hn
    have HC : Hid (c = mwN n ∧ c ≤ 524288 ∧ k + c ≤ l.length / 4 ∧ l.length ≤ 140737488355328) := ⟨hc, hch, hs, hl⟩
    have HX := hid13 hx
    clear e hc hv hn hx
    go_enter Try.func39, Try.ntmps39
    go_wp2_with (first | (go_at_call 33; refine (K1 _).mono ?_; rintro e w1 ⟨rfl, hw1⟩; replace hw1 := hw1.symm; subst hw1) | (go_at_call 37; refine (K2 _).mono ?_; rintro e w1 ⟨rfl, hw1⟩; replace hw1 := hw1.symm; subst hw1) | fail)
    refine hw0.mono ?_
    rintro e w1 ⟨rfl, hb1⟩
    have hle1 : w.heap.size ≤ w1.heap.size := hb1.size
    have HB1 := hid13 hb1
    have HLE := hid13 hle1
    clear hb1 hw0
    go_wp2_with (first | (go_at_call 34; refine (KB _).mono ?_; rintro e w9 ⟨rfl, hw9⟩; replace hw9 := hw9.symm; subst hw9) | (at_make; apply stopHere9))
    refine (show wpList _ _ _ _ _ _ from ?_)
    refine wpList_make_full _ rfl _ _ 22 rfl w.heap.size 56 i0 (.int .u32 0) 1 Try.underlying22 hi hz0 hz1 .i64 .i64 _ _ c rfl rfl rfl rfl hby hmx hle1 ?_
    intro w2 hown2 hgrow
    have HS0 : Hid (Below w.heap.size w w2 ∧ w2.ownsRow w.heap.size 56 1 (.slice (some ⟨w1.heap.size, 0, none⟩) c c) c ((mpL l k 0 ++ List.replicate c 0#32).map cU)) := by
      refine ⟨HB1.out.grown hgrow hle1 (fun z hz => by cases hz), ?_⟩
      have e : (mpL l k 0 ++ List.replicate c 0#32).map cU = (madeCells (Value.int .u32 0).cells (c * 1)).toList := by
        show _ = (madeCells #[Value.int .u32 0] (c * 1)).toList
        rw [toList_madeCells_one, Nat.mul_one]
        show (List.replicate c 0#32).map cU = _
        rw [List.map_replicate]
        unfold cU
        rw [uI_zero]
      rw [e]; exact hown2
    clear hown2 hgrow hby K1 K2 KB hmx hl hk hs hch hle1
    go_wp2_with fail
    go_loopg [10, 28] c (fun g x10 i wr => ∃ (j : Nat), j + g = c ∧ i = .int .i64 (j : Int) ∧ Hid (Below w.heap.size w wr ∧ wr.ownsRow w.heap.size 56 1 (.slice (some ⟨w1.heap.size, 0, none⟩) c c) c ((mpL l k j ++ List.replicate (c - j) 0#32).map cU)))
    case atStart => exact ⟨0, by omega, rfl, HS0⟩
    case round =>
      clear HS0
      obtain ⟨j, hj, rfl, HS⟩ := hrel
      by_cases hlt : j < c
      · have hli : (j : Int) < (c : Int) := by omega
        have K3 := fun w' (hb : Below w.heap.size w w') => wordAt_any (.slice ao l.length cc) l (k + j) w' (HV.out.below hb) HC.out.2.2.2 HX.out (by have := HC.out.2.2.1; omega)
        have K3' := K3 wr HS.out.1
        rw [show ((k + j : Nat) : Int) = (k : Int) + (j : Int) by omega] at K3'
        have mk : IntKind.i64.wrap ((k : Int) + (j : Int)) = (k : Int) + (j : Int) := by rw [IntKind.wrap_i64]; have := HC.out; omega
        have mj : IntKind.i64.wrap ((j : Int) + 1) = (j : Int) + 1 := by rw [IntKind.wrap_i64]; have := HC.out; omega
        have HK : Hid (j + gk = c ∧ j < c) := ⟨hj, hlt⟩
        clear K3 hj hlt
        go_wp2_with fail
        refine K3'.mono ?_
        rintro e w3 ⟨rfl, hb3⟩
        have hO3 := own_b13 hb3 HS.out.2
        have hln : (mpL l k j ++ List.replicate (c - j) 0#32).length = c := by rw [List.length_append, mpL_len, List.length_replicate]; have := HK.out; omega
        have c3 : w3.cell? ⟨w1.heap.size, j, none⟩ = some (.int .u32 0) := by
          rw [hO3.cellAt j (by have := HK.out; omega), List.getElem?_map, List.getElem?_append_right (by rw [mpL_len]; exact Nat.le_refl _), mpL_len, Nat.sub_self, List.getElem?_replicate, if_pos (by have := HK.out; omega)]
          show some (cU 0#32) = _
          unfold cU; rw [uI_zero]
        have f3 := hO3.frozenAt j
        have hst := (hO3.stored j (.int .u32 (uI (wdV l (k + j))))).1
        have e1 : ((mpL l k j ++ List.replicate (c - j) 0#32).map cU).set j (.int .u32 (uI (wdV l (k + j)))) = (mpL l k (j + 1) ++ List.replicate (c - (j + 1)) 0#32).map cU := by
          show ((mpL l k j ++ List.replicate (c - j) 0#32).map cU).set j (cU (wdV l (k + j))) = _
          rw [← List.map_set, mpL_succ]
          congr 1
          rw [List.set_append_right _ _ (by rw [mpL_len]; exact Nat.le_refl _), mpL_len, Nat.sub_self]
          obtain ⟨z, hz⟩ : ∃ z, c - j = z + 1 := ⟨c - j - 1, by have := HK.out; omega⟩
          rw [hz, show c - (j + 1) = z by omega, List.replicate_succ, List.set_cons_zero, List.append_assoc]
          rfl
        rw [e1] at hst
        have HS4 : Hid (Below w.heap.size w (w3.setCell ⟨w1.heap.size, j, none⟩ (.int .u32 (uI (wdV l (k + j))))) ∧ _) := ⟨(keepb hb3 HS.out.1).setCell HLE.out _, hst⟩
        clear K3' hb3 hO3 hln hst e1 HS
        go_wp2
        go_roundg (gk - 1)
        case measure => have := HK.out; omega
        case rel => exact ⟨j + 1, by have := HK.out; omega, rfl, HS4⟩
      · have hli : ¬ (j : Int) < (c : Int) := by omega
        obtain rfl : j = c := by omega
        have HO : Hid (wr.ownsRow w.heap.size 56 1 (.slice (some ⟨w1.heap.size, 0, none⟩) j j) j ((mpL l k j).map cU)) := by
          have := HS.out.2
          rw [Nat.sub_self, List.replicate_zero, List.append_nil] at this
          exact this
        have HB := hid13 HS.out.1
        clear HS hj hlt
        go_wp2
        exact bodyPost_ret (v := .tuple #[.slice (some ⟨w1.heap.size, 0, none⟩) j j, .int .i64 0]) (by simp [results, Try.results39, go_sem]) rfl ⟨_, by rw [HR.out], by rw [HR.out]; show World.ownsRow _ _ _ _ _ (mpL l k j).length _; rw [mpL_len]; exact HO.out, HB.out⟩
  · have e : stB l.length (k : Int) (c : Int) = false := by unfold stB; simp; omega
    rw [e] at K2
    have HR' := HR.out
    rw [if_neg hs] at HR'
    have HR2 : Hid (rmP l k n = ([], 30)) := HR'
    clear HR HR' e hc hv hn hx hl hk hs
    go_enter Try.func39, Try.ntmps39
    go_wp2_with (first | (go_at_call 33; refine (K1 _).mono ?_; rintro e w1 ⟨rfl, hw1⟩; replace hw1 := hw1.symm; subst hw1) | (go_at_call 37; refine (K2 _).mono ?_; rintro e w1 ⟨rfl, hw1⟩; replace hw1 := hw1.symm; subst hw1))
    exact bodyPost_ret (v := .tuple #[.slice none 0 0, .int .i64 30]) (by simp [results, Try.results39, go_sem]) rfl ⟨_, by rw [HR2.out], by rw [HR2.out]; exact World.ownsRow_nil _ _ _ _, Below.refl _ _⟩
end Go.Proofs.Ytnaihocdemcejaa
