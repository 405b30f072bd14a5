/-
  Part 4 of the proof: 13 texts, one behind the other.
-/
import Derived.Test.YtgbhbooogofmbaaDoorPart2
import Derived.Test.YtgbhbooogofmbaaDoorPart3
import Derived.Test.YtgbhbooogofmbaaDoorPart1
import Derived.ArgAppend
import Derived.Laws.CopyRow
import Derived.Laws.MakeOwn
import Derived.Laws.OwnMore
import Derived.RangeFuncNested
namespace Go.Proofs.YtgbhbooogofmbaaDoor
open Go.RowKit Go.Shelf
set_option linter.unusedSimpArgs false
set_option linter.unusedVariables false

section
variable {P : Program}
theorem qpw_any {l : List Oper} (m : Nat) (ok : QpOk l m m) {C : World → Prop} {Q : Exit → Act → World → Prop} {a : Act} {w : World} (ds : List (Option Tmp)) (vals : List Value)
    (hC : C w) (hwalk : QW P (l.take m).toArray C (fun a' => a' = putAll a ds vals) (l.take m) a) (hpost : ∀ w, C w → wpList P l.toArray Q (l.drop m) (putAll a ds vals) w) : wpAny P .any l.toArray Q l.toArray.size (Array.replicate l.toArray.size false) a w := by
  have hml := ok.ml
  have hlen : (l.take m).length = m := by rw [List.length_take]; omega
  have any : wpAnyQ P .any (l.take m).toArray C (fun a' => a' = putAll a ds vals) m (Array.replicate m false) a := by
    have hB := ok.lex undef
    rw [rep_out _ _ _ (by omega)] at hB
    simp only [Region.lexB, Bool.and_eq_true] at hB
    have := wpAnyQ_lex (C := C) (md := .any) hB.1 (l.take m) 0 (Array.replicate m false) a (by simp) (by have := hB.2; simpa [hlen, hml] using this) hwalk.out
    rwa [hlen] at this
  have hu : unl (Array.replicate m false) = m := by unfold unl; simp
  have main := done_any (P := P) (N := undef) ok hpost m (Array.replicate m false) a w (by simp) hu (fun q => absurd q (Nat.lt_irrefl _)) hC (by rw [rep_out _ _ _ (by omega)]; exact any)
  have e1 : m + (l.length - m) = l.toArray.size := by simp; omega
  have e2 : Array.replicate m false ++ Array.replicate (l.length - m) false = Array.replicate l.toArray.size false := by
    rw [Array.replicate_append_replicate]; congr 1
  rw [e1, e2] at main
  exact main
theorem qpw_region {id : Nat} {l : List Oper} (m : Nat) (ok : QpOk l m m) {C : World → Prop} {Q : Exit → Act → World → Prop} {a : Act} {w : World} (ds : List (Option Tmp)) (vals : List Value) (hm : P.follows .mixedOrders = true)
    (hC : C w.drew) (hwalk : QW P (l.take m).toArray C (fun a' => a' = putAll a ds vals) (l.take m) a) (hpost : ∀ w, C w → wpList P l.toArray Q (l.drop m) (putAll a ds vals) w) : (Code.region id l.toArray true).wp P Q a w :=
  wp_region_any hm (qpw_any m ok ds vals hC hwalk hpost)
end
theorem max_16 (a b : Int) (w : World) : (Builtin.max_ #[3, 3] 3 #[.int .i64 a, .int .i64 b]).run Tryd.prog w = .ok (.int .i64 (max a b)) w := by
  by_cases h : a ≤ b
  · rw [Int.max_eq_right h]
    by_cases h2 : a = b
    · subst h2; go_simp
    · have h3 : a < b := by omega
      go_simp
      try simp [*]
  · rw [Int.max_eq_left (by omega)]
    have h3 : ¬ a < b := by omega
    go_simp
    try simp [*]
end Go.Proofs.YtgbhbooogofmbaaDoor
namespace Go.Proofs.YtgbhbooogofmbaaDoor
open Go.RowKit
set_option linter.unusedSimpArgs false
set_option linter.unusedVariables false

set_option maxRecDepth 100000 in
theorem halved_any (x : BitVec 32) (w : World) :
    Calls Tryd.prog 52 #[.int .u32 (uI x)] w fun e w' => e = .returned (.int .u32 (uI (hb x))) ∧ w' = w := by
  have h1 := odd32 x
  have h2 := half32 x
  cases c : x.getLsbD 0
  · rw [hb_even x c]
    rw [c] at h1
    simp only [Bool.false_eq_true, if_false] at h1
    clear c
    go_enter Tryd.func52, Tryd.ntmps52
    go_wp2
    go_ret
    exact ⟨rfl, rfl⟩
  · rw [hb_odd x c]
    rw [c] at h1
    simp only [if_true] at h1
    have h3 := xorM (x >>> 1)
    clear c
    go_enter Tryd.func52, Tryd.ntmps52
    go_wp2
    go_ret
    exact ⟨rfl, rfl⟩
set_option maxRecDepth 100000 in
set_option maxHeartbeats 4000000 in
theorem times_any (x y : BitVec 32) (w : World) :
    Calls Tryd.prog 50 #[.int .u32 (uI x), .int .u32 (uI y)] w fun e w' => e = .returned (.int .u32 (uI (prd 32 x y 0#32))) ∧ w' = w := by
  go_enter Tryd.func50, Tryd.ntmps50
  go_wp2_with fail
  go_loopg [0, 1, 5] 32 (fun k a b p wr => wr = w ∧ k ≤ 32 ∧ ∃ A B P : BitVec 32, a = .int .u32 (uI A) ∧ b = .int .u32 (uI B) ∧ p = .int .u32 (uI P) ∧ Hid (prd k A B P = prd 32 x y 0#32 ∧ A <<< k = 0#32))
  case atStart => exact ⟨rfl, by omega, x, y, 0#32, rfl, rfl, by rw [uI_zero], rfl, by simp⟩
  case round =>
    obtain ⟨rfl, hk, A, B, P, rfl, rfl, rfl, HP⟩ := hrel
    by_cases h0 : A = 0#32
    · subst h0
      have hz := uI_zero
      obtain ⟨e1, -⟩ := HP.out
      rw [prd_zero] at e1
      rw [hz]
      clear HP hz
      go_wp2_with fail
      go_ret
      exact ⟨congrArg Ending.returned (congrArg (Value.int .u32) (congrArg uI e1)), rfl⟩
    · have hz : ¬ uI A = 0 := fun h => h0 ((uI_is0 A).mp h)
      obtain ⟨j, rfl⟩ : ∃ j, gk = j + 1 := by
        cases gk with
        | zero => exact absurd (by have := HP.out.2; simpa using this) h0
        | succ j => exact ⟨j, rfl⟩
      have htop := top32 A
      have HD := HP.out
      have hN : Hid (prd j (A <<< 1) (hb B) (if A.getLsbD 31 then P ^^^ B else P) = prd 32 x y 0#32 ∧ (A <<< 1) <<< j = 0#32) := ⟨HD.1, by rw [← BitVec.shiftLeft_add, Nat.add_comm]; exact HD.2⟩
      clear HP HD h0
      cases c : A.getLsbD 31
      · rw [c] at htop hN
        simp only [Bool.false_eq_true, if_false] at htop hN
        clear c
        go_wp2_with (go_at_call 52; refine (halved_any B _).mono ?_; rintro e w1 ⟨rfl, rfl⟩)
        go_roundg j
        case measure => omega
        case rel => exact ⟨rfl, by omega, _, _, _, congrArg (Value.int .u32) (dbl32 A), rfl, rfl, hN⟩
      · rw [c] at htop hN
        simp only [if_true] at htop hN
        clear c
        have hxx := xor32 P B
        go_wp2_with (go_at_call 52; refine (halved_any B _).mono ?_; rintro e w1 ⟨rfl, rfl⟩)
        go_roundg j
        case measure => omega
        case rel => exact ⟨rfl, by omega, _, _, _, congrArg (Value.int .u32) (dbl32 A), rfl, rfl, hN⟩
theorem oddN (n : Nat) (h : n < 9223372036854775808) : bits .and .i64 (n : Int) 1 = ((n % 2 : Nat) : Int) := by
  unfold bits
  simp only [IntKind.bits]
  have e : (BitVec.ofInt 64 (n : Int) &&& BitVec.ofInt 64 1).toNat = n % 2 := by
    rw [BitVec.toNat_and]
    have e1 : (BitVec.ofInt 64 (n : Int)).toNat = n := by rw [BitVec.toNat_ofInt]; omega
    have e2 : (BitVec.ofInt 64 1).toNat = 1 := by decide
    rw [e1, e2]
    exact Nat.and_one_is_mod n
  show IntKind.i64.wrap (((BitVec.ofInt 64 (n : Int) &&& BitVec.ofInt 64 1).toNat : Nat) : Int) = _
  rw [e, IntKind.wrap_i64]
  omega
set_option maxRecDepth 100000 in
set_option maxHeartbeats 4000000 in
theorem byBytes_any (n : Nat) (hn : n < 9223372036854775808) (w : World) :
    Calls Tryd.prog 51 #[.int .i64 (n : Int)] w fun e w' => e = .returned (.int .u32 (uI (hbN (8 * n) cOne))) ∧ w' = w := by
  go_enter Tryd.func51, Tryd.ntmps51
  go_wp2_with fail
  go_loopg [0, 3, 4] n (fun k a b p wr => wr = w ∧ k ≤ n ∧ ∃ P Q : Nat, a = .int .i64 (k : Int) ∧ b = .int .u32 (uI (hbN P cOne)) ∧ p = .int .u32 (uI (hbN Q cOne)) ∧ Hid (P + Q * k = 8 * n))
  case atStart =>
    refine ⟨rfl, Nat.le_refl _, 0, 8, rfl, ?_, ?_, by show 0 + 8 * n = 8 * n; omega⟩
    · exact congrArg (Value.int .u32) (lit32 2147483648 (by decide))
    · rw [byByte_eq]; exact congrArg (Value.int .u32) (lit32 8388608 (by decide))
  case round =>
    obtain ⟨rfl, hk, P, Q, rfl, rfl, rfl, HP⟩ := hrel
    by_cases h0 : gk = 0
    · subst h0
      go_wp2_with fail
      go_ret
      refine ⟨congrArg Ending.returned (congrArg (Value.int .u32) (congrArg uI ?_)), rfl⟩
      have := HP.out
      rw [show 8 * n = P by omega]
    · have hpos : 0 < (gk : Int) := by omega
      have hodd := oddN gk (by omega)
      have hhalf : Hid ((gk : Int) / (2 : Int) = ((gk / 2 : Nat) : Int)) := by show (gk : Int) / (2 : Int) = ((gk / 2 : Nat) : Int); omega
      have hd := Nat.div_add_mod gk 2
      have hq : Q * gk = Q * (2 * (gk / 2)) + Q * (gk % 2) := by rw [← Nat.mul_add, hd]
      have hq2 : Q * (2 * (gk / 2)) = (Q + Q) * (gk / 2) := by rw [← Nat.mul_assoc, Nat.mul_comm Q 2, Nat.two_mul]
      have E := HP.out
      rcases (show gk % 2 = 0 ∨ gk % 2 = 1 by omega) with c | c
      · rw [c] at hodd hq
        have HN : Hid (P + (Q + Q) * (gk / 2) = 8 * n) := by show P + (Q + Q) * (gk / 2) = 8 * n; omega
        have HK : Hid (gk / 2 < gk ∧ gk / 2 ≤ n) := by constructor <;> omega
        clear hd hq hq2 E c HP hk h0
        go_wp2_with (go_at_call 50; refine (times_any _ _ _).mono ?_; rintro e w1 ⟨rfl, rfl⟩)
        go_roundg (gk / 2)
        case measure => exact HK.out.1
        case rel => exact ⟨rfl, HK.out.2, P, Q + Q, congrArg (Value.int .i64) hhalf.out, rfl, congrArg (Value.int .u32) (congrArg uI (prd_pow Q Q)), HN⟩
      · rw [c] at hodd hq
        have HN : Hid (P + Q + (Q + Q) * (gk / 2) = 8 * n) := by show P + Q + (Q + Q) * (gk / 2) = 8 * n; omega
        have HK : Hid (gk / 2 < gk ∧ gk / 2 ≤ n) := by constructor <;> omega
        clear hd hq hq2 E c HP hk h0
        go_wp2_with (go_at_call 50; refine (times_any _ _ _).mono ?_; rintro e w1 ⟨rfl, rfl⟩)
        go_roundg (gk / 2)
        case measure => exact HK.out.1
        case rel => exact ⟨rfl, HK.out.2, P + Q, Q + Q, congrArg (Value.int .i64) hhalf.out, congrArg (Value.int .u32) (congrArg uI (prd_pow P Q)), congrArg (Value.int .u32) (congrArg uI (prd_pow Q Q)), HN⟩
def jnU (a b : BitVec 32) (n : Int) : BitVec 32 := if n < 0 then 0#32 else hbN (8 * n.toNat) a ^^^ b
def jnE (n : Int) : Int := if n < 0 then 1 else 0
set_option maxRecDepth 100000 in
theorem join_any (a b : BitVec 32) (n : Int) (hn : n ≤ 9223372036854775807) (w : World) :
    Calls Tryd.prog 47 #[.int .u32 (uI a), .int .u32 (uI b), .int .i64 n] w fun e w' => e = .returned (.tuple #[.int .u32 (uI (jnU a b n)), .int .i64 (jnE n)]) ∧ w' = w := by
  unfold jnU jnE
  by_cases h : n < 0
  · rw [if_pos h, if_pos h, uI_zero]
    go_enter Tryd.func47, Tryd.ntmps47
    go_wp2
    exact bodyPost_ret (v := .tuple #[.int .u32 0, .int .i64 1]) (by simp [results, Tryd.results47, go_sem]) rfl ⟨rfl, rfl⟩
  · rw [if_neg h, if_neg h]
    obtain ⟨k, rfl⟩ : ∃ k : Nat, n = (k : Int) := ⟨n.toNat, by omega⟩
    have hk : k < 9223372036854775808 := by omega
    have hx := xor32 (hbN (8 * k) a) b
    have hp := congrArg uI (prd_hbN a (8 * k))
    simp only [Int.toNat_natCast]
    clear hn
    go_enter Tryd.func47, Tryd.ntmps47
    go_wp2_with (first | (go_at_call 51; refine (byBytes_any k hk _).mono ?_; rintro e w1 ⟨rfl, rfl⟩) | (go_at_call 50; refine (times_any _ _ _).mono ?_; rintro e w1 ⟨rfl, rfl⟩))
    exact bodyPost_ret (v := .tuple #[.int .u32 (uI (hbN (8 * k) a ^^^ b)), .int .i64 0]) (by simp [results, Tryd.results47, go_sem, hx, hp]) rfl ⟨rfl, rfl⟩
end Go.Proofs.YtgbhbooogofmbaaDoor
namespace Go.Proofs.YtgbhbooogofmbaaDoor
open Go.RowKit
set_option linter.unusedSimpArgs false
set_option linter.unusedVariables false

def wthT (a n : Int) : Int := if a.tmod n < 0 then a.tmod n + n else a.tmod n
theorem wthT_in (a n : Int) (hn : 0 < n) : 0 ≤ wthT a n ∧ wthT a n < n := by
  unfold wthT
  have h1 := Int.tmod_lt_of_pos a hn
  have h2 := Int.lt_tmod_of_pos a hn
  split <;> constructor <;> omega
theorem turn8 (a t : Nat) (ha : a < 256) (ht : t < 8) : bits .xor .u8 (a : Int) ((2 ^ t : Nat) : Int) = ((a ^^^ 2 ^ t : Nat) : Int) ∧ a ^^^ 2 ^ t < 256 ∧ a ^^^ 2 ^ t ≠ a := by
  have h : ∀ (x : Fin 256) (y : Fin 8), bits .xor .u8 (x.val : Int) ((2 ^ y.val : Nat) : Int) = ((x.val ^^^ 2 ^ y.val : Nat) : Int) ∧ x.val ^^^ 2 ^ y.val < 256 ∧ x.val ^^^ 2 ^ y.val ≠ x.val := by decide +kernel
  exact h ⟨a, ha⟩ ⟨t, ht⟩
theorem sh8u (n : Nat) (h : n < 8) : Op.shift .shl .u8 1 .i64 (n : Int) = pure (.int .u8 ((2 ^ n : Nat) : Int)) := by
  rw [shift_shl_any .u8 .i64 1 _ (by omega)]
  have : ∀ m : Fin 8, IntKind.u8.wrap (1 * 2 ^ min ((m.val : Nat) : Int).toNat IntKind.u8.bits) = ((2 ^ m.val : Nat) : Int) := by decide +kernel
  exact congrArg (fun z => pure (Value.int .u8 z)) (this ⟨n, h⟩)
theorem sum_one {W : World} {N : Nat} {v : Value} {l : List Nat} (hc : W.cell? ⟨N, 0, none⟩ = some v) (hr : RwX cB W v l) (hl : l.length ≤ 9223372036854775806) (hx : ∀ b ∈ l, b < 256) (hT : Hf W) :
    Calls Tryd.prog 24 #[.slice (some ⟨N, 0, none⟩) 1 1] W fun e w' => e = .returned (.int .u32 (uI (crS l))) ∧ w' = W := by
  have h := sum_any (.slice (some ⟨N, 0, none⟩) 1 1) [(v, l)] W ⟨_, _, rfl, Nat.le_refl _, .inr ⟨N, 0, rfl, fun j x hj => by
    match j, hj with
    | 0, hj => cases hj; exact hc
    | j + 1, hj => cases hj⟩⟩ (fun p hp => by
      simp only [List.mem_cons, List.mem_nil_iff, or_false] at hp
      subst hp
      exact ⟨hr, hl, hx⟩) (by show 1 ≤ _; decide) hT
  simp only [List.map_cons, List.map_nil, List.flatten_cons, List.flatten_nil, List.append_nil] at h
  exact h
theorem sum_two {W : World} {N : Nat} {v u : Value} {l m : List Nat} (hc : W.cell? ⟨N, 0, none⟩ = some v) (hd : W.cell? ⟨N, 1, none⟩ = some u) (hr : RwX cB W v l) (hs : RwX cB W u m) (hl : l.length ≤ 9223372036854775806) (hm : m.length ≤ 9223372036854775806) (hx : ∀ b ∈ l, b < 256) (hy : ∀ b ∈ m, b < 256) (hT : Hf W) :
    Calls Tryd.prog 24 #[.slice (some ⟨N, 0, none⟩) 2 2] W fun e w' => e = .returned (.int .u32 (uI (crS (l ++ m)))) ∧ w' = W := by
  have h := sum_any (.slice (some ⟨N, 0, none⟩) 2 2) [(v, l), (u, m)] W ⟨_, _, rfl, Nat.le_refl _, .inr ⟨N, 0, rfl, fun j x hj => by
    match j, hj with
    | 0, hj => cases hj; exact hc
    | 1, hj => cases hj; exact hd
    | j + 2, hj => cases hj⟩⟩ (fun p hp => by
      simp only [List.mem_cons, List.mem_nil_iff, or_false] at hp
      rcases hp with rfl | rfl
      · exact ⟨hr, hl, hx⟩
      · exact ⟨hs, hm, hy⟩) (by show 2 ≤ _; decide) hT
  simp only [List.map_cons, List.map_nil, List.flatten_cons, List.flatten_nil, List.append_nil] at h
  exact h
theorem rwx_from {W : World} {ao : Option Addr} {n c k : Nat} {l : List Nat} (h : RwX cB W (.slice ao n c) l) (hk : k ≤ l.length) : RwX cB W (.slice (if c = k then ao else ao.map (·.add (k * 1))) (l.length - k) (c - k)) (l.drop k) := by
  obtain ⟨ao', c', e, hc, h⟩ := h
  injection e with e1 e2 e3
  subst e1 e3
  refine ⟨_, _, by rw [List.length_drop], by rw [List.length_drop]; omega, ?_⟩
  rcases h with h | ⟨b, off, e, h⟩
  · left; rw [h]; exact List.drop_nil
  · by_cases hck : c = k
    · left; exact List.drop_eq_nil_of_le (by omega)
    · right
      rw [if_neg hck, e]
      refine ⟨b, off + k, by simp [addA], fun j x hj => ?_⟩
      rw [List.getElem?_drop] at hj
      rw [Nat.add_assoc]
      exact h _ _ hj
theorem set_apart (l : List Nat) (i a y : Nat) (h : l[i]? = some a) : l = l.take i ++ a :: l.drop (i + 1) ∧ l.set i y = l.take i ++ y :: l.drop (i + 1) := by
  have hi := (List.getElem?_eq_some_iff.1 h).1
  have e : l[i] = a := (List.getElem?_eq_some_iff.1 h).2
  constructor
  · rw [← e, List.getElem_cons_drop, List.take_append_drop]
  · rw [List.set_eq_take_append_cons_drop, if_pos hi]
end Go.Proofs.YtgbhbooogofmbaaDoor
namespace Go.Proofs.YtgbhbooogofmbaaDoor
open Go.RowKit
set_option linter.unusedSimpArgs false
set_option linter.unusedVariables false

end Go.Proofs.YtgbhbooogofmbaaDoor
namespace Go.Proofs.YtgbhbooogofmbaaDoor
open Go.RowKit
set_option linter.unusedSimpArgs false
set_option linter.unusedVariables false

def AtI (w : World) (B : Nat) (op n : Int) (v : Value) : Prop := w.cell? ⟨B, 0, none⟩ = some (.int .i64 op) ∧ w.cell? ⟨B, 1, none⟩ = some (.int .i64 n) ∧ w.cell? ⟨B, 2, none⟩ = some v
theorem AtI.below {w w' : World} {B : Nat} {op n : Int} {v : Value} (h : AtI w B op n v) (hb : Below w.heap.size w w') : AtI w' B op n v := ⟨keepc hb h.1, keepc hb h.2.1, keepc hb h.2.2⟩
end Go.Proofs.YtgbhbooogofmbaaDoor
namespace Go.Proofs.YtgbhbooogofmbaaDoor
open Go.RowKit
set_option linter.unusedSimpArgs false
set_option linter.unusedVariables false

theorem fold_lt (l : List Nat) (h : ∀ b ∈ l, b < 256) : ∀ v, l.foldl (fun v b => v * 256 + b) v < (v + 1) * 256 ^ l.length := by
  induction l with
  | nil => intro v; simp
  | cons b l ih =>
    intro v
    have h1 := ih (fun x hx => h x (by simp [hx])) (v * 256 + b)
    have h2 := h b (by simp)
    rw [List.foldl_cons, List.length_cons, Nat.pow_succ]
    refine Nat.lt_of_lt_of_le h1 ?_
    rw [Nat.mul_comm (256 ^ l.length) 256, ← Nat.mul_assoc]
    exact Nat.mul_le_mul_right _ (by omega)
theorem numN_lt (l : List Nat) (h : ∀ b ∈ l, b < 256) : numN13 l < 256 ^ l.length := by
  have := fold_lt l h 0
  unfold numN13
  omega
end Go.Proofs.YtgbhbooogofmbaaDoor
namespace Go.Proofs.YtgbhbooogofmbaaDoor
open Go.RowKit
set_option linter.unusedSimpArgs false
set_option linter.unusedVariables false

end Go.Proofs.YtgbhbooogofmbaaDoor
namespace Go.Proofs.YtgbhbooogofmbaaDoor
open Go.RowKit
set_option linter.unusedSimpArgs false
set_option linter.unusedVariables false

def AtIF (w : World) (B : Nat) (op n : Int) (v : Value) : Prop := AtI w B op n v ∧ w.frozen? ⟨B, 0, none⟩ = false ∧ w.frozen? ⟨B, 1, none⟩ = false ∧ w.frozen? ⟨B, 2, none⟩ = false
theorem AtIF.below {w w' : World} {B : Nat} {op n : Int} {v : Value} (h : AtIF w B op n v) (hb : Below w.heap.size w w') : AtIF w' B op n v :=
  ⟨h.1.below hb, keepf hb h.1.1 h.2.1, keepf hb h.1.2.1 h.2.2.1, keepf hb h.1.2.2 h.2.2.2⟩
end Go.Proofs.YtgbhbooogofmbaaDoor
namespace Go.Proofs.YtgbhbooogofmbaaDoor
open Go.RowKit Go.Shelf
set_option linter.unusedSimpArgs false
set_option linter.unusedVariables false
attribute [local go_sem] Oper.semAt_some

def KZ (Z : Nat → Prop) (W W' : World) : Prop := W.heap.size ≤ W'.heap.size ∧ ∀ (z : Nat) (o : Obj), W.heap[z]? = some o → Z z → W'.heap[z]? = some o
theorem KZ.trans {Z : Nat → Prop} {X Y V : World} (h : KZ Z X Y) (g : KZ Z Y V) : KZ Z X V := ⟨Nat.le_trans h.1 g.1, fun z o h1 h2 => g.2 z o (h.2 z o h1 h2) h2⟩
end Go.Proofs.YtgbhbooogofmbaaDoor
namespace Go.Proofs.YtgbhbooogofmbaaDoor
open Go.RowKit
set_option linter.unusedSimpArgs false
set_option linter.unusedVariables false

end Go.Proofs.YtgbhbooogofmbaaDoor
namespace Go.Proofs.YtgbhbooogofmbaaDoor
open Go.RowKit
set_option linter.unusedSimpArgs false
set_option linter.unusedVariables false

end Go.Proofs.YtgbhbooogofmbaaDoor
namespace Go.Proofs.YtgbhbooogofmbaaDoor
open Go.RowKit Go.Shelf
set_option linter.unusedSimpArgs false
set_option linter.unusedVariables false

theorem gh_quiet14 {P : Program} {o : Oper} {a' : Act} {w' : World} {K : Act → World → Prop} {Q' : Exit → Act → World → Prop} {v : Value} (hr : (execOp a'.eval o).run P w' = .ok (.value v) w') (hK : K (a'.put o.dst v) w') : o.wp P a' w' K Q' := by
  unfold Oper.wp Oper.upon
  rw [hr]
  exact hK
theorem gh_same14 {x y : Array Value} {d s : Nat} (h : x.toList.eraseIdx d = y.toList.eraseIdx d) (hs : s ≠ d) : x[s]? = y[s]? := by
  have := erase_get _ _ d s h hs
  simpa using this
theorem Slt.old14 {l : List Oper} {a A : Act} {lp : Array Bool} {a' : Act} (h : Slt l a A lp a') (s : Nat) (hs : ∀ o ∈ l, o.dst ≠ some s) : a'.tmps[s]? = a.tmps[s]? := h.oth s (fun k o hk _ => hs o (List.mem_of_getElem? hk))
structure EnW (w : World) (N G B : Nat) (W : World) (vc vb : Value) (R : List Nat) : Prop where
  b : Below w.heap.size w W
  c : W.cell? ⟨B, 0, none⟩ = some vc
  f : W.frozen? ⟨B, 0, none⟩ = false
  o : W.ownsRow w.heap.size 5 1 vb R.length (R.map cB)
  n : ∀ z, vb.ownBlock = some z → z = G ∨ N ≤ z
  s : N ≤ W.heap.size
section
variable {w W W' : World} {N G B : Nat} {vc vb vb' : Value} {R : List Nat}
theorem EnW.below (h : EnW w N G B W vc vb R) (hb : Below W.heap.size W W') : EnW w N G B W' vc vb R :=
  ⟨keepb hb h.b, keepc hb h.c, keepf hb h.c h.f, own_b13 hb h.o, h.n, Nat.le_trans h.s hb.size⟩
theorem own_cells14 {W : World} {base e size n : Nat} {v : Value} {xs : List Value} (h : W.ownsRow base e size v n xs) {z : Nat} (hz : v.ownBlock = some z) : ∃ cs T fr, W.heap[z]? = some (.cells cs T fr) := by
  rcases h.2 with ⟨rfl, -⟩ | ⟨g, cap, cur, rfl, h1, h2, -⟩
  · cases hz
  · simp only [Value.ownBlock, Option.some.injEq] at hz
    subst hz
    exact ⟨_, _, _, h2⟩
theorem EnW.kept (h : EnW w N G B W vc vb R) {row : Option Nat} (hg : W.grownBy W' row) (hN : w.heap.size ≤ N) (hr : ∀ r, row = some r → N ≤ r ∧ ∃ o : Obj, W.heap[r]? = some o ∧ o.isCells = false) : EnW w N G B W' vc vb R := by
  have hr' : ∀ r, row = some r → ∃ o : Obj, W.heap[r]? = some o ∧ o.isCells = false := fun r e => (hr r e).2
  have hB : row ≠ some B := by
    intro e
    obtain ⟨o, h1, h2⟩ := hr' B e
    have := h.c
    rw [World.cell?, h1] at this
    cases o with
    | cells cs T fr => cases h2
    | _ => simp at this
  have eB : W'.heap[B]? = W.heap[B]? := hg.block B (cell_in h.c) (fun e => hB e.symm)
  refine ⟨h.b.grown hg (Nat.le_trans hN h.s) (fun k e => by have := (hr k e).1; omega), (World.cell?_of_block (a := ⟨B, 0, none⟩) eB).trans h.c, (World.frozen?_of_block (a := ⟨B, 0, none⟩) eB).trans h.f, h.o.kept hg ?_, h.n, Nat.le_trans h.s hg.size⟩
  cases hv : vb.ownBlock with
  | none => exact .inl rfl
  | some z =>
    refine .inr fun e => ?_
    obtain ⟨o, h1, h2⟩ := hr' z e.symm
    obtain ⟨cs, T, fr, h3⟩ := own_cells14 h.o hv
    rw [h3] at h1
    cases h1
    cases h2
theorem EnW.set (h : EnW w N G B W vc vb R) (hBG : B ≠ G) (hBN : B < N) (hwB : w.heap.size ≤ B) : EnW w N G B (W.setCell ⟨B, 0, none⟩ vb) vb vb R := by
  have hne : vb.ownBlock ≠ some B := by
    intro e
    rcases h.n B e with h1 | h1
    · exact hBG h1
    · omega
  have hc := h.c
  have hf := h.f
  refine ⟨h.b.setCell (p := ⟨B, 0, none⟩) hwB _, by simp [go_sem, hc], by simp [go_sem, hf], ?_, h.n, by simp [World.setCell]; exact h.s⟩
  refine ⟨h.o.1, ?_⟩
  rcases h.o.2 with h1 | ⟨g, cap, cur, e, h1, h2, h3⟩
  · exact .inl h1
  · refine .inr ⟨g, cap, cur, e, h1, ?_, h3⟩
    have hgB : ¬ g = B := by
      rintro rfl
      exact hne (by rw [e]; rfl)
    exact (Below.heap_setCell W ⟨B, 0, none⟩ vb g hgB).trans h2
end
theorem KZ.refl (Z : Nat → Prop) (W : World) : KZ Z W W := ⟨Nat.le_refl _, fun _ _ h _ => h⟩
end Go.Proofs.YtgbhbooogofmbaaDoor
namespace Go.Proofs.YtgbhbooogofmbaaDoor
open Go.RowKit Go.Shelf
set_option linter.unusedSimpArgs false
set_option linter.unusedVariables false

theorem lt_16 {w : World} {z : Nat} {o : Obj} (hz : w.heap[z]? = some o) : z < w.heap.size := (Array.getElem?_eq_some_iff.1 hz).1
theorem far_16 {W : World} {z P o : Nat} {v : Value} (h : z ≠ P) : (W.setCell ⟨P, o, none⟩ v).heap[z]? = W.heap[z]? := Below.heap_setCell W ⟨P, o, none⟩ v z h
def KX (X : Nat → Prop) (V U : World) : Prop := V.heap.size ≤ U.heap.size ∧ ∀ z, z < V.heap.size → ¬ X z → U.heap[z]? = V.heap[z]?
theorem KX.refl (X : Nat → Prop) (V : World) : KX X V V := ⟨Nat.le_refl _, fun _ _ _ => rfl⟩
theorem KX.trans {X : Nat → Prop} {A B C : World} (h : KX X A B) (g : KX X B C) : KX X A C := ⟨Nat.le_trans h.1 g.1, fun z h1 h2 => (g.2 z (Nat.lt_of_lt_of_le h1 h.1) h2).trans (h.2 z h1 h2)⟩
theorem KX.below {X : Nat → Prop} {V U U' : World} (h : KX X V U) (hb : Below U.heap.size U U') : KX X V U' := ⟨Nat.le_trans h.1 hb.size, fun z h1 h2 => (hb.block z (Nat.lt_of_lt_of_le h1 h.1)).trans (h.2 z h1 h2)⟩
theorem KX.set {X : Nat → Prop} {V U : World} (h : KX X V U) (b o : Nat) (u : Value) (hb : X b ∨ V.heap.size ≤ b) : KX X V (U.setCell ⟨b, o, none⟩ u) := ⟨by simpa using h.1, fun z h1 h2 => (far_16 (by rintro rfl; rcases hb with q | q; exact h2 q; omega)).trans (h.2 z h1 h2)⟩
theorem KX.own {β : Type} {X : Nat → Prop} {B : Nat} {V : World} (hV : V.heap.size ≤ B) : OwnFrom B (fun (_ : β) U => KX X V U) := fun s A A' row hs hg hr => ⟨Nat.le_trans hs.1 hg.size, fun z h1 h2 => (hg.block z (Nat.lt_of_lt_of_le h1 hs.1) (fun e => by have := (hr z e.symm).1; omega)).trans (hs.2 z h1 h2)⟩
def MkS (B : Nat) (ls : List Nat) (W : World) : Prop := ls.Nodup ∧ ∀ D ∈ ls, B ≤ D ∧ W.heap[D]? = some (.deferred (some []))
theorem MkS.cons {B : Nat} {ls : List Nat} {V U : World} {X : Nat → Prop} {D : Nat} (h : MkS B ls V) (hk : KX X V U) (hX : ∀ z, X z → z < B) (h1 : V.heap.size ≤ D) (hB : B ≤ V.heap.size) (h2 : U.heap[D]? = some (.deferred (some []))) : MkS B (D :: ls) U := by
  have hlt : ∀ E ∈ ls, E < V.heap.size := fun E hE => lt_16 (h.2 E hE).2
  refine ⟨List.nodup_cons.mpr ⟨fun hm => by have := hlt D hm; omega, h.1⟩, fun E hE => ?_⟩
  rcases List.mem_cons.mp hE with rfl | hE
  · exact ⟨by omega, h2⟩
  · exact ⟨(h.2 E hE).1, (hk.2 E (hlt E hE) (fun q => by have := hX E q; have := (h.2 E hE).1; omega)).trans (h.2 E hE).2⟩
theorem MkS.keep {B : Nat} {ls : List Nat} {V U : World} {X : Nat → Prop} (h : MkS B ls V) (hk : KX X V U) (hX : ∀ z, X z → z < B) : MkS B ls U :=
  ⟨h.1, fun E hE => ⟨(h.2 E hE).1, (hk.2 E (lt_16 (h.2 E hE).2) (fun q => by have := hX E q; have := (h.2 E hE).1; omega)).trans (h.2 E hE).2⟩⟩
end Go.Proofs.YtgbhbooogofmbaaDoor
