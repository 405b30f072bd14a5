/-
  Part 28 of the proof: 7 texts, one behind the other.
-/
import Derived.Test.YtofpbommhklooaaPart12
import Derived.Test.YtofpbommhklooaaPart20
import Derived.Test.YtofpbommhklooaaPart3
import Derived.Test.YtofpbommhklooaaPart9
import Derived.Test.YtofpbommhklooaaPart14
import Derived.Test.YtofpbommhklooaaPart10
/-
  The nodes so many bits below one: descend.
-/
namespace Go.Proofs.Ytofpbommhklooaa
open Go.RowKit Go.Shelf
set_option linter.unusedSimpArgs false
set_option linter.unusedVariables false

/-- The nodes so many bits below one. -/
def dnL (L : List Nd) : Nat → Int → List Int
  | 0, n => [n]
  | b + 1, n => if (ndAt L n).height < ((b + 1 : Nat) : Int) then [] else (if kidV L n 0 = -1 then [] else dnL L b (kidV L n 0)) ++ (if kidV L n 1 = -1 then [] else dnL L b (kidV L n 1))
/-- Those of the first kids. -/
def dnU (L : List Nd) (b : Nat) (n : Int) : Nat → List Int
  | 0 => []
  | 1 => if kidV L n 0 = -1 then [] else dnL L b (kidV L n 0)
  | _ => (if kidV L n 0 = -1 then [] else dnL L b (kidV L n 0)) ++ (if kidV L n 1 = -1 then [] else dnL L b (kidV L n 1))
theorem dnU_step (L : List Nd) (b : Nat) (n : Int) (i : Nat) (h : i < 2) : dnU L b n (i + 1) = dnU L b n i ++ (if kidV L n i = -1 then [] else dnL L b (kidV L n i)) := by
  match i, h with
  | 0, _ => simp [dnU]
  | 1, _ => simp [dnU]
theorem dnU_two (L : List Nd) (b : Nat) (n : Int) (i : Nat) (h : i < 2) : dnU L b n (i + 1) <+: dnU L b n 2 := by
  match i, h with
  | 0, _ => exact List.prefix_append _ _
  | 1, _ => exact List.prefix_refl _
set_option maxRecDepth 100000 in
set_option maxHeartbeats 8000000 in
theorem descend_in (n : Nat) (Z : Nat → Prop) (Bd H0 B : Nat) (F : Int) (g cap : Nat) (wv : Value) (L : List Nd) (hZB : Z B ∨ Bd ≤ B) (hZg : Z g ∨ Bd ≤ g) (ho : ∀ x ∈ L, x.ok) (hl : L.length ≤ 2147483647)
    (l : Nat) (J Jx : List Int → World → Prop) (T : List Int) (hJ : OwnFrom H0 J)
    (hY : ∀ pre x V, J pre V → pre ++ [x] <+: T → YieldAt Fence.wide (n - 1) Try.prog l (encI x) V fun e V' => (e = .returned (.bool true) ∧ J (pre ++ [x]) V' ∧ KW Z Bd V V') ∨ (e = .returned (.bool false) ∧ Jx (pre ++ [x]) V' ∧ KW Z Bd V V')) :
    ∀ (b : Nat) (k : Int) (pre : List Int) (W : World), (b : Int) ≤ 9223372036854775807 → TrN W B F g cap wv L → J pre W → pre ++ dnL L b k <+: T →
      CallsIn Fence.wide n Try.prog 59 #[.pointer (some ⟨B, 0, none⟩), .int .i64 k, .int .i64 (b : Int), .func (.yield l) #[] #[]] W fun e W' => (e = .returned (.bool true) ∧ J (pre ++ dnL L b k) W' ∧ TrN W' B F g cap wv L) ∨ (e = .returned (.bool false) ∧ ∃ pre2, pre2 <+: T ∧ Jx pre2 W') := by
  intro b
  induction b with
  | zero =>
    intro k pre W hb hM hJp hT
    have KH := thei_any B F g cap wv L k W hM ho
    have ok := ndAt_ok ho k
    have hh : ¬ (ndAt L k).height < 0 := by unfold Nd.ok at ok; omega
    have hh' : decide ((ndAt L k).height < 0) = false := by simpa using hh
    have HT : Hid (pre ++ [k] <+: T) := hidX (by rw [dnL] at hT; exact hT)
    have HJp := hidX hJp
    have HJ := hidX hJ
    have HM := hidX hM
    have HY := hidX hY
    rw [dnL]
    clear ok hh hT hJp hM hY hJ
    revert KH hh'
    generalize (ndAt L k).height = h
    intro KH hh'
    have e0 : ((0 : Nat) : Int) = 0 := rfl
    rw [e0]
    refine callsIn_of_wp Try.func59 rfl trivial ?_ rfl
    simp only [Try.ntmps59, List.size_toArray, List.length_cons, List.length_nil, Nat.reduceAdd, Nat.reduceSub, Array.replicate_succ, Array.replicate_zero, List.push_toArray, List.append_toArray, List.nil_append, List.cons_append]
    gi_wp2_with fail
    refine ⟨trivial, fun q => (by cases q), (callsIn_wide.2 KH).mono ?_⟩
    rintro e W1 ⟨rfl, hb1⟩
    have HM1 := hidX (HM.out.below hb1)
    have hJ1 := HJ.out _ _ _ none HJp.out (below_grownX hb1) (fun r e => by cases e)
    obtain ⟨fn, tmps, assign, body, hy, hR⟩ := HY.out pre k W1 hJ1 HT.out
    dsimp only [encI] at hy
    clear KH hb1 HM HJp hJ1
    gi_wp2
    refine ⟨fun q => (by cases q), hR.mono ?_⟩
    rintro e W3 (⟨rfl, hJ3, hk3⟩ | ⟨rfl, hx3, -⟩)
    · have HJ3 := hidX hJ3
      have HM3 := hidX (HM1.out.kw hk3 hZB hZg)
      clear hJ3 hk3 hy hR
      gi_wp2
      exact bodyPost_ret (v := .bool true) (by simp [results, Try.results59, go_sem]) rfl (.inl ⟨rfl, HJ3.out, HM3.out⟩)
    · have HX3 := hidX hx3
      clear hx3 hy hR
      gi_wp2
      exact bodyPost_ret (v := .bool false) (by simp [results, Try.results59, go_sem]) rfl (.inr ⟨rfl, _, HT.out, HX3.out⟩)
  | succ b ih =>
    intro k pre W hb hM hJp hT
    have KH := thei_any B F g cap wv L k W hM ho
    have HJp := hidX hJp
    have HJ := hidX hJ
    have HM := hidX hM
    have HO := hidX (And.intro ho hl)
    have HIH := hidX ih
    have hb0 : ¬ ((b + 1 : Nat) : Int) = 0 := by omega
    have hb0' : (((b + 1 : Nat) : Int) == 0) = false := by simpa using hb0
    have hb1 : IntKind.i64.wrap (((b + 1 : Nat) : Int) - 1) = (b : Int) := by rw [IntKind.wrap_i64]; push_cast; omega
    have hbb : (b : Int) ≤ 9223372036854775807 := by omega
    by_cases c : (ndAt L k).height < ((b + 1 : Nat) : Int)
    · have c' : decide ((ndAt L k).height < ((b + 1 : Nat) : Int)) = true := by simpa using c
      have e : dnL L (b + 1) k = [] := by rw [dnL, if_pos c]
      rw [e, List.append_nil]
      clear ih hY hJ hJp hM hT e c
      revert KH c'
      generalize (ndAt L k).height = h
      generalize ((b + 1 : Nat) : Int) = bz at *
      intro KH c'
      refine callsIn_of_wp Try.func59 rfl trivial ?_ rfl
      simp only [Try.ntmps59, List.size_toArray, List.length_cons, List.length_nil, Nat.reduceAdd, Nat.reduceSub, Array.replicate_succ, Array.replicate_zero, List.push_toArray, List.append_toArray, List.nil_append, List.cons_append]
      gi_wp2_with fail
      refine ⟨trivial, fun q => (by cases q), (callsIn_wide.2 KH).mono ?_⟩
      rintro e W1 ⟨rfl, hb2⟩
      have HM1 := hidX (HM.out.below hb2)
      have HJ1 := hidX (HJ.out _ _ _ none HJp.out (below_grownX hb2) (fun r e => by cases e))
      clear KH hb2 HM HJp
      gi_wp2
      exact bodyPost_ret (v := .bool true) (by simp [results, Try.results59, go_sem]) rfl (.inl ⟨rfl, HJ1.out, HM1.out⟩)
    · have c' : decide ((ndAt L k).height < ((b + 1 : Nat) : Int)) = false := by simpa using c
      have e : dnL L (b + 1) k = dnU L b k 2 := by rw [dnL, if_neg c]; rfl
      rw [e] at hT ⊢
      have HT := hidX hT
      clear ih hY hJ hJp hM hT e c
      revert KH c'
      generalize (ndAt L k).height = h
      generalize ((b + 1 : Nat) : Int) = bz at *
      intro KH c'
      refine callsIn_of_wp Try.func59 rfl trivial ?_ rfl
      simp only [Try.ntmps59, List.size_toArray, List.length_cons, List.length_nil, Nat.reduceAdd, Nat.reduceSub, Array.replicate_succ, Array.replicate_zero, List.push_toArray, List.append_toArray, List.nil_append, List.cons_append]
      gi_wp2_with fail
      refine ⟨trivial, fun q => (by cases q), (callsIn_wide.2 KH).mono ?_⟩
      rintro e W1 ⟨rfl, hb2⟩
      have HM1 := hidX (HM.out.below hb2)
      have HJ1 := hidX (HJ.out _ _ _ none HJp.out (below_grownX hb2) (fun r e => by cases e))
      clear KH hb2 HM HJp
      gi_wp2_with fail
      gi_loopw [21] (fun p wr => ∃ i : Nat, p = .int .i64 (i : Int) ∧ Hid (i ≤ 2) ∧ Hid (J (pre ++ dnU L b k i) wr) ∧ Hid (TrN wr B F g cap wv L)) (fun p wr => 2 - (intOf p).toNat)
      case atStart => exact ⟨0, rfl, hidX (by omega), hidX (by rw [dnU, List.append_nil]; exact HJ1.out), HM1⟩
      case round =>
        clear HJ1 HM1
        obtain ⟨i, rfl, Hi, HJw, HMw⟩ := hrel
        by_cases ci : i < 2
        · have ci' : (i : Int) < 2 := by omega
          have hiw : IntKind.i64.wrap ((i : Int) + 1) = ((i + 1 : Nat) : Int) := by rw [IntKind.wrap_i64]; push_cast; omega
          have KK := tkid_any B F g cap wv L k i wr HMw.out HO.out.1 HO.out.2
          have HSt := hidX (dnU_step L b k i ci)
          have HTt := hidX (dnU_two L b k i ci)
          have HIk := hidX (fun W h1 h2 h3 => HIH.out (kidV L k i) (pre ++ dnU L b k i) W hbb h1 h2 h3)
          revert KK HSt HIk
          generalize kidV L k i = kd
          intro KK HSt HIk
          gi_wp2_with fail
          refine ⟨trivial, fun q => (by cases q), (callsIn_wide.2 KK).mono ?_⟩
          rintro e W2 ⟨rfl, hb2⟩
          have HM2 := hidX (HMw.out.below hb2)
          have HJ2 := hidX (HJ.out _ _ _ none HJw.out (below_grownX hb2) (fun r e => by cases e))
          clear KK hb2 HMw HJw
          by_cases ck : kd = -1
          · subst ck
            have HJ3 : Hid (J (pre ++ dnU L b k (i + 1)) W2) := hidX (by rw [HSt.out, if_pos rfl, List.append_nil]; exact HJ2.out)
            gi_wp2
            refine ⟨trivial, ?_⟩
            gi_wp2
            go_roundw
            case rel => exact ⟨i + 1, rfl, hidX (by omega), HJ3, HM2⟩
            case measure => simp [intOf]; omega
          · have ck' : (kd != -1) = true := by simpa using ck
            have hpt : (pre ++ dnU L b k i) ++ dnL L b kd <+: T := by
              have := HSt.out
              rw [if_neg ck] at this
              rw [List.append_assoc, ← this]
              exact List.IsPrefix.trans (List.prefix_append_right_inj pre |>.mpr HTt.out) HT.out
            have KR := HIk.out W2 HM2.out HJ2.out hpt
            have HE : Hid (dnU L b k (i + 1) = dnU L b k i ++ dnL L b kd) := hidX (by have := HSt.out; rwa [if_neg ck] at this)
            clear ck hpt HIk HSt HTt
            gi_wp2_with fail
            refine ⟨trivial, fun q => (by cases q), ((callsIn_wide (n := n - 1)).2 ((callsIn_wide (n := n)).1 KR)).mono ?_⟩
            rintro e W3 (⟨rfl, hJ3, hM3⟩ | ⟨rfl, pre2, hp2, hx3⟩)
            · have HJ3 : Hid (J (pre ++ dnU L b k (i + 1)) W3) := hidX (by rw [HE.out, ← List.append_assoc]; exact hJ3)
              have HM3 := hidX hM3
              clear hJ3 hM3 KR
              gi_wp2
              go_roundw
              case rel => exact ⟨i + 1, rfl, hidX (by omega), HJ3, HM3⟩
              case measure => simp [intOf]; omega
            · have HX3 : Hid (∃ pre2, pre2 <+: T ∧ Jx pre2 W3) := hidX ⟨pre2, hp2, hx3⟩
              clear hp2 hx3 KR
              gi_wp2
              exact bodyPost_ret (v := .bool false) (by simp [results, Try.results59, go_sem]) rfl (.inr ⟨rfl, HX3.out⟩)
        · obtain rfl : i = 2 := by have := Hi.out; omega
          gi_wp2
          exact bodyPost_ret (v := .bool true) (by simp [results, Try.results59, go_sem]) rfl (.inl ⟨rfl, HJw.out, HMw.out⟩)
/-- What Down goes over. -/
def dwnL (L : List Nd) (k bits : Int) : List Int := if isN L k = true ∧ 0 ≤ bits then dnL L bits.toNat k else []
set_option maxRecDepth 100000 in
set_option maxHeartbeats 8000000 in
theorem below_each (n : Nat) (Z : Nat → Prop) (Bd B : Nat) (F : Int) (g cap : Nat) (wv : Value) (L : List Nd) (k bits : Int) (hbits : bits ≤ 9223372036854775807) (w : World) (hM : TrN w B F g cap wv L) (hZB : Z B ∨ Bd ≤ B) (hZg : Z g ∨ Bd ≤ g) (ho : ∀ x ∈ L, x.ok) (hl : L.length ≤ 2147483647) :
    SeqY n Try.prog 33 #[.agg #[.pointer (some ⟨B, 0, none⟩), .int .i64 k, .int .i64 bits]] #[] encI (KW Z Bd) (fun ys => ys = dwnL L k bits) (fun pre => pre <+: dwnL L k bits) Bd w := by
  intro l J Jx W hW hB hJ hJx hY h0
  have q0 := bl1 W (.cells #[.pointer (some ⟨B, 0, none⟩), .int .i64 k, .int .i64 bits] 74)
  have HM0 := hidX ((hM.below hW).below q0)
  have hj0 := hJ [] _ _ none h0 (below_grownX q0) (fun r e => by cases e)
  have HJ0 := hidX hj0
  have hc0 : (W.alloc (.cells #[.pointer (some ⟨B, 0, none⟩), .int .i64 k, .int .i64 bits] 74)).cell? ⟨W.heap.size, 0, none⟩ = some (.pointer (some ⟨B, 0, none⟩)) := by simp [go_sem]
  have hc1 : (W.alloc (.cells #[.pointer (some ⟨B, 0, none⟩), .int .i64 k, .int .i64 bits] 74)).cell? ⟨W.heap.size, 1, none⟩ = some (.int .i64 k) := by simp [go_sem]
  have hc2 : (W.alloc (.cells #[.pointer (some ⟨B, 0, none⟩), .int .i64 k, .int .i64 bits] 74)).cell? ⟨W.heap.size, 2, none⟩ = some (.int .i64 bits) := by simp [go_sem]
  have KH := thas_any B F g cap wv L k _ HM0.out
  have HD : Hid (∀ b : Nat, (b : Int) = bits → dwnL L k bits = dnL L b k → CallsIn Fence.wide (n - 1) Try.prog 59 #[.pointer (some ⟨B, 0, none⟩), .int .i64 k, .int .i64 (b : Int), .func (.yield l) #[] #[]] (W.alloc (.cells #[.pointer (some ⟨B, 0, none⟩), .int .i64 k, .int .i64 bits] 74)) fun e W' => (e = .returned (.bool true) ∧ J (dwnL L k bits) W') ∨ (e = .returned (.bool false) ∧ ∃ pre2, pre2 <+: dwnL L k bits ∧ Jx pre2 W')) := hidX (fun b hb hd => by
    have KD := descend_in n Z Bd W.heap.size B F g cap wv L hZB hZg ho hl l J Jx (dwnL L k bits) hJ hY b k [] _ (by omega) HM0.out hj0 (by rw [hd]; exact List.prefix_refl _)
    refine ((callsIn_wide (n := n - 1)).2 ((callsIn_wide (n := n)).1 KD)).mono ?_
    rintro e W' (⟨he, h1, -⟩ | h1)
    · exact .inl ⟨he, by rw [List.nil_append, ← hd] at h1; exact h1⟩
    · exact .inr h1)
  have HE1 : Hid (¬ (isN L k = true ∧ 0 ≤ bits) → dwnL L k bits = []) := hidX (fun h => by rw [dwnL, if_neg h])
  have HE2 : Hid (isN L k = true → 0 ≤ bits → dwnL L k bits = dnL L bits.toNat k) := hidX (fun h1 h2 => by rw [dwnL, if_pos ⟨h1, h2⟩])
  clear hJ hJx hY h0 hM q0 hB hj0 hZB hZg ho hl HM0
  refine callsIn_of_wp Try.func33 rfl trivial ?_ rfl
  simp only [Try.ntmps33, List.size_toArray, List.length_cons, List.length_nil, Nat.reduceAdd, Nat.reduceSub, Array.replicate_succ, Array.replicate_zero, List.push_toArray, List.append_toArray, List.nil_append, List.cons_append, List.append_nil]
  gi_wp2_with fail
  refine ⟨trivial, fun q => (by cases q), (callsIn_wide.2 KH).mono ?_⟩
  rintro e W1 ⟨rfl, rfl⟩
  clear KH
  revert HJ0 hc0 hc1 hc2 HD
  generalize W.alloc (.cells #[.pointer (some ⟨B, 0, none⟩), .int .i64 k, .int .i64 bits] 74) = V1
  intro HJ0 hc0 hc1 hc2 HD
  cases c : isN L k with
  | false =>
    have HE := hidX (HE1.out (by rw [c]; simp))
    clear HE1 HE2 HD c
    gi_wp2
    go_end0
    exact ⟨⟨_, rfl⟩, .inl ⟨[], HE.out.symm, HJ0.out⟩⟩
  | true =>
    by_cases c2 : 0 ≤ bits
    · obtain ⟨b, rfl⟩ : ∃ b : Nat, bits = b := ⟨bits.toNat, by omega⟩
      have e2 := HE2.out c c2
      rw [Int.toNat_natCast] at e2
      have KD := HD.out b rfl e2
      have HS := hidX (show dwnL L k (b : Int) = dwnL L k (b : Int) from rfl)
      clear HE1 HE2 HD c e2
      gi_wp2_with fail
      refine ⟨trivial, fun q => (by cases q), KD.mono ?_⟩
      rintro e W2 (⟨rfl, h1⟩ | ⟨rfl, pre2, h1, h2⟩)
      · have H1 := hidX h1
        clear h1 KD
        gi_wp2
        go_end0
        exact ⟨⟨_, rfl⟩, .inl ⟨_, rfl, H1.out⟩⟩
      · have H1 := hidX h1
        have H2 := hidX h2
        clear h1 h2 KD
        gi_wp2
        go_end0
        exact ⟨⟨_, rfl⟩, .inr ⟨_, H1.out, H2.out⟩⟩
    · have HE := hidX (HE1.out (fun q => c2 q.2))
      clear HE1 HE2 HD c
      gi_wp2
      go_end0
      exact ⟨⟨_, rfl⟩, .inl ⟨[], HE.out.symm, HJ0.out⟩⟩
theorem tdown_any (B : Nat) (k bits : Int) (w : World) :
    Calls Try.prog 15 #[.pointer (some ⟨B, 0, none⟩), .int .i64 k, .int .i64 bits] w fun e w' => e = .returned (.func (.func 33) #[.agg #[.pointer (some ⟨B, 0, none⟩), .int .i64 k, .int .i64 bits]] #[]) ∧ w' = w := by
  go_enter Try.func15, Try.ntmps15
  go_wp2
  exact bodyPost_ret (v := .func (.func 33) #[.agg #[.pointer (some ⟨B, 0, none⟩), .int .i64 k, .int .i64 bits]] #[]) (by simp [results, Try.results15, go_sem]) rfl ⟨rfl, rfl⟩
end Go.Proofs.Ytofpbommhklooaa
/-
  Plain: what lies so many bits below a node; what lies within it.
-/
namespace Go.Proofs.Ytofpbommhklooaa
open Go.RowKit
set_option linter.unusedSimpArgs false
set_option linter.unusedVariables false

/-- Of so many nodes, from one on, those of a length. -/
def atL (L : List Nd) (v : Int) (a : Nat) : Nat → List Int
  | 0 => []
  | m + 1 => atL L v a m ++ (if ln L (a + m) = v then [((a + m : Nat) : Int)] else [])
theorem atL_add (L : List Nd) (v : Int) (a n : Nat) : ∀ m, atL L v a (n + m) = atL L v a n ++ atL L v (a + n) m
  | 0 => by simp [atL]
  | m + 1 => by
    have := atL_add L v a n m
    show atL L v a (n + m) ++ _ = atL L v a n ++ (atL L v (a + n) m ++ _)
    have e : a + n.add m = a + n + m := (Nat.add_assoc a n m).symm
    rw [this, e, List.append_assoc]
theorem atL_none (L : List Nd) (v : Int) (a : Nat) : ∀ m, (∀ i, a ≤ i → i < a + m → ln L i ≠ v) → atL L v a m = []
  | 0, _ => rfl
  | m + 1, h => by
    simp only [atL]
    rw [atL_none L v a m (fun i h1 h2 => h i h1 (by omega)), if_neg (h (a + m) (by omega) (by omega))]
    rfl
theorem atL_mem (L : List Nd) (v : Int) (a : Nat) : ∀ m (y : Int), y ∈ atL L v a m → ∃ i : Nat, y = (i : Int) ∧ a ≤ i ∧ i < a + m ∧ ln L i = v
  | 0, y, h => by simp [atL] at h
  | m + 1, y, h => by
    simp only [atL, List.mem_append] at h
    rcases h with h | h
    · obtain ⟨i, h1, h2, h3, h4⟩ := atL_mem L v a m y h
      exact ⟨i, h1, h2, by omega, h4⟩
    · split at h
      · simp only [List.mem_singleton] at h
        rename_i hv
        exact ⟨a + m, h, by omega, by omega, hv⟩
      · simp at h
section
variable {F : Int} {l : List Rte} {ws : List (BitVec 128)} {L : List Nd}
theorem Tre.dn (t : Tre l ws L) : ∀ (b i e : Nat), End L i e → dnL L b (i : Int) = atL L (ln L i + b) i (e - i)
  | 0, i, e, h => by
    have h1 := h.1
    have h3 := h.2.2.1
    have a := atL_add L (ln L i + ((0 : Nat) : Int)) i 1 (e - i - 1)
    rw [show 1 + (e - i - 1) = e - i by omega] at a
    rw [a, atL_none L _ (i + 1) (e - i - 1) (fun j q1 q2 => by have := h3 j (by omega) (by omega); omega)]
    simp [dnL, atL]
  | b + 1, i, e, h => by
    have hi : i < L.length := by have := h.1; have := h.2.1; omega
    have h1 := h.1
    obtain ⟨e', hE, hc, hh⟩ := t.node hi
    have ee := hE.one h
    subst ee
    obtain ⟨ka, kb, q⟩ := t.kidq h
    have a := atL_add L (ln L i + ((b + 1 : Nat) : Int)) i 1 (e' - i - 1)
    rw [show 1 + (e' - i - 1) = e' - i by omega] at a
    have a0 : atL L (ln L i + ((b + 1 : Nat) : Int)) i 1 = [] := atL_none L _ i 1 (fun j q1 q2 => by rw [show j = i by omega]; omega)
    simp only [dnL]
    rw [nd8_at hi, q.k0, q.k1]
    by_cases c : (nd8 L i).height < ((b + 1 : Nat) : Int)
    · rw [if_pos c]
      refine (atL_none L _ i (e' - i) (fun j q1 q2 => ?_)).symm
      have := topR_ge L i (e' - i) j q1 q2
      omega
    · rw [if_neg c, a, a0, List.nil_append]
      rcases q.ca with ha | ⟨ha, g1, g2, g3⟩
      · rw [if_pos ha, List.nil_append]
        rcases q.cb with hb | ⟨m, hb, m1, m2, m3, m4, m5, m6, m7⟩
        · have := q.lf ha hb
          subst this
          rw [if_pos hb, show i + 1 - i - 1 = 0 by omega]; rfl
        · have em := m6 ha
          subst em
          rw [if_neg (by omega), hb, t.dn b (i + 1) e' m5, m3, show e' - i - 1 = e' - (i + 1) by omega]
          congr 1; push_cast; omega
      · rw [if_neg (by omega), ha]
        rcases q.cb with hb | ⟨m, hb, m1, m2, m3, m4, m5, m6, m7⟩
        · rw [if_pos hb, List.append_nil, t.dn b (i + 1) e' (q.ea (by omega) hb), g2, show e' - i - 1 = e' - (i + 1) by omega]
          congr 1; push_cast; omega
        · have e1 := m7 (by omega)
          have em := e1.1
          have a2 := atL_add L (ln L i + ((b + 1 : Nat) : Int)) (i + 1) (m - (i + 1)) (e' - m)
          rw [show m - (i + 1) + (e' - m) = e' - i - 1 by omega, show i + 1 + (m - (i + 1)) = m by omega] at a2
          rw [if_neg (by omega), hb, a2, t.dn b (i + 1) m e1, t.dn b m e' m5, g2, m3]
          have e9 : ln L i + 1 + (b : Int) = ln L i + ((b + 1 : Nat) : Int) := by push_cast; omega
          rw [e9]
theorem Ctx.rt (c : Ctx F l ws L) {i : Nat} (h : i < L.length) : Rt F (pfA ws L i) (ln L i) := ⟨(c.lnF h).1, (c.lnF h).2, by unfold pfA; rw [cut_cut2 _ _ _ (c.lnF h).1 (Int.le_refl _)]⟩
/-- What lies within a node stands right behind it. -/
theorem Ctx.within (c : Ctx F l ws L) {n e j : Nat} (h : End L n e) (hj : j < L.length) : withinB (pfA ws L j) (ln L j) (pfA ws L n) (ln L n) = true ↔ n ≤ j ∧ j < e := by
  have hn : n < L.length := by have := h.1; have := h.2.1; omega
  rw [within_iff]
  constructor
  · intro ⟨q1, q2⟩
    have le : n ≤ j := by
      apply Classical.byContradiction; intro d
      have := c.t.lt (i := j) (j := n) (by omega) hn
      rw [pcmp_lt] at this
      have : (pfA ws L n).toNat ≤ (pfA ws L j).toNat := by rw [← q2, cut_nat]; exact Nat.div_mul_le_self _ _
      omega
    refine ⟨le, ?_⟩
    apply Classical.byContradiction; intro d
    have hel : e < L.length := by omega
    have l1 := h.2.2.2 hel
    have h1 := c.t.lt (i := n) (j := e) h.1 hel
    have h2 : pcmpZ (pfA ws L e) (ln L e) (pfA ws L j) (ln L j) ≤ 0 := by
      by_cases z : e = j
      · subst z
        rw [pcmp_le]; exact .inr ⟨rfl, Int.le_refl _⟩
      · have := c.t.lt (i := e) (j := j) (by omega) hj; omega
    have := between F _ _ _ _ _ _ (c.rt hn) (c.rt hel) (by omega) h2 ((within_iff _ _ _ _).mpr ⟨q1, q2⟩)
    rw [within_iff] at this
    have el : ln L e = ln L n := by omega
    have ep : pfA ws L e = pfA ws L n := by
      rw [← this.2, ← el]
      unfold pfA
      rw [cut_cut2 _ _ _ (c.lnF hel).1 (Int.le_refl _)]
    have := c.uniqP hel hn el ep
    have := h.1
    omega
  · intro ⟨q1, q2⟩
    have ll : ln L n ≤ ln L j := by
      by_cases z : n = j
      · rw [z]; exact Int.le_refl _
      · have := h.2.2.1 j (by omega) q2; omega
    refine ⟨ll, ?_⟩
    have := c.t.cut h j q1 q2
    unfold pfA
    rw [cut_cut _ _ _ (c.lnF hn).1 ll]; exact this
end
end Go.Proofs.Ytofpbommhklooaa
/-
  Plain: what the law TrieDown counts.
-/
namespace Go.Proofs.Ytofpbommhklooaa
open Go.RowKit
set_option linter.unusedSimpArgs false
set_option linter.unusedVariables false

theorem atL_inc (L : List Nd) (v : Int) (a : Nat) : ∀ m, (atL L v a m).Pairwise (fun x y => x < y)
  | 0 => List.Pairwise.nil
  | m + 1 => by
    simp only [atL]
    rw [List.pairwise_append]
    refine ⟨atL_inc L v a m, ?_, ?_⟩
    · split
      · exact List.pairwise_singleton _ _
      · exact List.Pairwise.nil
    · intro x hx y hy
      obtain ⟨i, rfl, h1, h2, h3⟩ := atL_mem L v a m x hx
      split at hy
      · simp only [List.mem_singleton] at hy; omega
      · simp at hy
/-- The last of a list, -1: none. -/
def lstI (l : List Int) : Int := l.getLast?.getD (-1)
theorem lstI_one (l : List Int) (y : Int) : lstI (l ++ [y]) = y := by simp [lstI]
theorem lst_lt {l pre : List Int} {y : Int} (h : l.Pairwise (fun x y => x < y)) (hp : pre ++ [y] <+: l) (h0 : 0 ≤ y) : lstI pre < y := by
  obtain ⟨t, rfl⟩ := hp
  unfold lstI
  cases hl : pre.getLast? with
  | none => simp; omega
  | some z =>
    have hz : z ∈ pre := List.mem_of_getLast? hl
    rw [List.append_assoc, List.pairwise_append] at h
    have := h.2.2 z hz y (by simp)
    simpa using this
/-- How many of the nodes ahead of a number lie so many bits below. -/
def cwD (L : List Nd) (v : Int) (n e j : Nat) : Int := ((atL L v n (min j e - n)).length : Int)
theorem cwD_step (L : List Nd) (v : Int) (n e j : Nat) : cwD L v n e (j + 1) = cwD L v n e j + (if (n ≤ j ∧ j < e) ∧ ln L j = v then 1 else 0) := by
  unfold cwD
  by_cases c : n ≤ j ∧ j < e
  · rw [show min (j + 1) e - n = (j - n) + 1 by omega, show min j e - n = j - n by omega]
    simp only [atL, List.length_append]
    rw [show n + (j - n) = j by omega]
    by_cases d : ln L j = v
    · rw [if_pos d, if_pos ⟨c, d⟩]; simp
    · rw [if_neg d, if_neg (fun q => d q.2)]; simp
  · rw [if_neg (fun q => c q.1), show min (j + 1) e - n = min j e - n by omega]; omega
theorem cwD_zero (L : List Nd) (v : Int) (n e : Nat) : cwD L v n e 0 = 0 := by unfold cwD; rw [show min 0 e - n = 0 by omega]; rfl
theorem cwD_end (L : List Nd) (v : Int) (n e j : Nat) (h : e ≤ j) : cwD L v n e j = ((atL L v n (e - n)).length : Int) := by unfold cwD; rw [show min j e = e by omega]
theorem atL_len (L : List Nd) (v : Int) (a : Nat) : ∀ m, (atL L v a m).length ≤ m
  | 0 => by simp [atL]
  | m + 1 => by
    have := atL_len L v a m
    simp only [atL, List.length_append]
    split <;> simp <;> omega
theorem cwD_bd (L : List Nd) (v : Int) (n e j : Nat) : 0 ≤ cwD L v n e j ∧ cwD L v n e j ≤ e := by
  have := atL_len L v n (min j e - n)
  unfold cwD
  omega
end Go.Proofs.Ytofpbommhklooaa
/-
  What a call of package prefix's Kids does.
-/
namespace Go.Proofs.Ytofpbommhklooaa
open Go.RowKit
set_option linter.unusedSimpArgs false
set_option linter.unusedVariables false

def kidL (F : Int) (x : BitVec 128) (n : Int) : BitVec 128 := if F ≤ n then 0#128 else x
def kidH (F : Int) (x : BitVec 128) (n : Int) : BitVec 128 := if F ≤ n then 0#128 else x ||| bit1 n
def kidN (F : Int) (n : Int) : Int := if F ≤ n then 0 else n + 1
/-- The prefix, the low kid, and the answers, in memory. -/
def KS (w : World) (x : BitVec 128) (n : Int) (W : World) : Prop := AtP W w.heap.size x n ∧ AtP W (w.heap.size + 1) 0#128 0 ∧ AtP W (w.heap.size + 1 + 1) 0#128 0 ∧ AtP W (w.heap.size + 1 + 1 + 1) x (n + 1) ∧ Below w.heap.size w W
theorem KS.below {w W W' : World} {x : BitVec 128} {n : Int} (h : KS w x n W) (hb : Below W.heap.size W W') : KS w x n W' := ⟨h.1.below hb, h.2.1.below hb, h.2.2.1.below hb, h.2.2.2.1.below hb, keepb hb h.2.2.2.2⟩
theorem KS.al {w W : World} {x : BitVec 128} {n : Int} (h : KS w x n W) (o : Obj) : KS w x n (W.alloc o) := h.below (bl1 W o)
theorem KS.drew {w W : World} {x : BitVec 128} {n : Int} (h : KS w x n W) : KS w x n W.drew := ⟨h.1, h.2.1, h.2.2.1, h.2.2.2.1, h.2.2.2.2.drew⟩
theorem AtP.setO {W : World} {B : Nat} {x : BitVec 128} {n : Int} (h : AtP W B x n) {N : Nat} (hN : ¬ N = B) (u v t : Value) : AtP (((W.setCell ⟨N, 0, none⟩ u).setCell ⟨N, 1, none⟩ v).setCell ⟨N, 2, none⟩ t) B x n := by
  obtain ⟨a0, a1, a2, a3, a4, a5⟩ := h
  have d1 : ¬ B = N := fun e => hN e.symm
  refine ⟨?_, ?_, ?_, ?_, ?_, ?_⟩ <;> simp [go_sem, *]
theorem AtP.set {W : World} {B : Nat} {x : BitVec 128} {n : Int} (h : AtP W B x n) (y : BitVec 128) (m : Int) : AtP (((W.setCell ⟨B, 0, none⟩ (.int .u64 (hI y))).setCell ⟨B, 1, none⟩ (.int .u64 (lI y))).setCell ⟨B, 2, none⟩ (.int .i64 m)) B y m := by
  obtain ⟨a0, a1, a2, a3, a4, a5⟩ := h
  refine ⟨?_, ?_, ?_, ?_, ?_, ?_⟩ <;> simp [go_sem, *]
theorem AtP.lt {W : World} {B : Nat} {x : BitVec 128} {n : Int} (h : AtP W B x n) : B < W.heap.size := cell_in h.1
theorem KS.set {w W : World} {x : BitVec 128} {n : Int} (h : KS w x n W) {N : Nat} (hN : w.heap.size + 1 + 1 + 1 < N) (u v t : Value) : KS w x n (((W.setCell ⟨N, 0, none⟩ u).setCell ⟨N, 1, none⟩ v).setCell ⟨N, 2, none⟩ t) :=
  ⟨h.1.setO (by omega) u v t, h.2.1.setO (by omega) u v t, h.2.2.1.setO (by omega) u v t, h.2.2.2.1.setO (by omega) u v t, bset3 h.2.2.2.2 (by omega) u v t⟩
theorem KS.first (w : World) (x : BitVec 128) (n : Int) : KS w x n ((((w.alloc (.cells #[.int .u64 (hI x), .int .u64 (lI x), .int .i64 n] 45)).alloc (.cells #[.int .u64 0, .int .u64 0, .int .i64 0] 45)).alloc (.cells #[.int .u64 0, .int .u64 0, .int .i64 0] 45)).alloc (.cells #[.int .u64 (hI x), .int .u64 (lI x), .int .i64 (n + 1)] 45)) := by
  refine ⟨?_, ?_, ?_, ?_, (bl3 _ _ _ _).alloc (by simp; omega) _⟩
  · exact (((atp_new w w.heap.size x n 45 rfl).below (bl1 _ _)).below (bl1 _ _)).below (bl1 _ _)
  · exact ((atp_new _ (w.heap.size + 1) 0#128 0 45 (by simp)).below (bl1 _ _)).below (bl1 _ _)
  · exact (atp_new _ (w.heap.size + 1 + 1) 0#128 0 45 (by simp)).below (bl1 _ _)
  · exact atp_new _ (w.heap.size + 1 + 1 + 1) x (n + 1) 45 (by simp)
theorem atp_new0 (w : World) : AtP (w.alloc (.cells #[.int .u64 0, .int .u64 0, .int .i64 0] 45)) w.heap.size 0#128 0 := atp_new w w.heap.size 0#128 0 45 rfl
theorem atp_new0d (w : World) (N : Nat) (h : N = w.heap.size) : AtP (w.alloc (.cells #[.int .u64 0, .int .u64 0, .int .i64 0] 45)).drew N 0#128 0 := atp_new w N 0#128 0 45 h

end Go.Proofs.Ytofpbommhklooaa
/-
  What a call of the reference's Kids does.
-/
namespace Go.Proofs.Ytofpbommhklooaa
open Go.RowKit
set_option linter.unusedSimpArgs false
set_option linter.unusedVariables false

theorem eval_of {a : Act} {s : Nat} {v : Value} (h : a.tmps[s]? = some v) : a.eval (.tmp s) = v := by
  show a.tmps.getD s undef = v
  rw [Array.getD_eq_getD_getElem?, h]; rfl
/-- The prefix and both answers in memory; the first one as it stands. -/
def RK (w : World) (x : BitVec 128) (n : Int) (y : BitVec 128) (m : Int) (W : World) : Prop := AtP W w.heap.size x n ∧ AtP W (w.heap.size + 1) y m ∧ AtP W (w.heap.size + 1 + 1) 0#128 0 ∧ Below w.heap.size w W
theorem RK.below {w W W' : World} {x y : BitVec 128} {n m : Int} (h : RK w x n y m W) (hb : Below W.heap.size W W') : RK w x n y m W' := ⟨h.1.below hb, h.2.1.below hb, h.2.2.1.below hb, keepb hb h.2.2.2⟩
theorem rkids_no (F : Int) (x : BitVec 128) (n : Int) (w : World) (h : F ≤ n) :
    Calls Try.prog 45 #[.int .i64 F, .agg #[.int .u64 (hI x), .int .u64 (lI x), .int .i64 n]] w fun e w' => e = .returned (.tuple #[.agg #[.int .u64 0, .int .u64 0, .int .i64 0], .agg #[.int .u64 0, .int .u64 0, .int .i64 0], .bool false]) ∧ Below w.heap.size w w' := by
  go_enter Try.func45, Try.ntmps45
  go_wp2
  exact bodyPost_ret (v := .tuple #[.agg #[.int .u64 0, .int .u64 0, .int .i64 0], .agg #[.int .u64 0, .int .u64 0, .int .i64 0], .bool false]) (by simp [results, Try.results45, go_sem, *]) rfl ⟨rfl, bl3 _ _ _ _⟩
set_option maxHeartbeats 4000000 in
set_option maxRecDepth 20000 in
theorem rkids_yes (F : Int) (x : BitVec 128) (n : Int) (w : World) (h : ¬ F ≤ n) (h0 : 0 ≤ n) (h1 : F ≤ 128) :
    Calls Try.prog 45 #[.int .i64 F, .agg #[.int .u64 (hI x), .int .u64 (lI x), .int .i64 n]] w fun e w' => e = .returned (.tuple #[.agg #[.int .u64 (hI x), .int .u64 (lI x), .int .i64 (n + 1)], .agg #[.int .u64 (hI (putW x n 1)), .int .u64 (lI (putW x n 1)), .int .i64 (n + 1)], .bool true]) ∧ Below w.heap.size w w' := by
  have hu : IntKind.i64.wrap (n + 1) = n + 1 := by rw [IntKind.wrap_i64]; omega
  have KB := fun w => put_any x n 1 w (by omega) h0 (by omega)
  revert KB
  generalize putW x n 1 = y
  intro KB
  have L0 : RK w x n 0#128 0 (((w.alloc (.cells #[.int .u64 (hI x), .int .u64 (lI x), .int .i64 n] 45)).alloc (.cells #[.int .u64 0, .int .u64 0, .int .i64 0] 45)).alloc (.cells #[.int .u64 0, .int .u64 0, .int .i64 0] 45)) :=
    by
      refine ⟨?_, ?_, ?_, bl3 _ _ _ _⟩
      · exact ((atp_new w w.heap.size x n 45 rfl).below (bl1 _ _)).below (bl1 _ _)
      · exact (atp_new (w.alloc (.cells #[.int .u64 (hI x), .int .u64 (lI x), .int .i64 n] 45)) (w.heap.size + 1) 0#128 0 45 (by simp)).below (bl1 _ _)
      · exact atp_new ((w.alloc (.cells #[.int .u64 (hI x), .int .u64 (lI x), .int .i64 n] 45)).alloc (.cells #[.int .u64 0, .int .u64 0, .int .i64 0] 45)) (w.heap.size + 1 + 1) 0#128 0 45 (by simp)
  go_enter Try.func45, Try.ntmps45
  go_wp2_with fail
  refine sp_region 16 15 (alOk (qpOk 16 15 (by decide) (fun N => by kernel_rfl) (by kernel_rfl) (by kernel_rfl) (by kernel_rfl) (by kernel_rfl)) (by decide) rfl rfl (by kernel_rfl)) (D := RK w x n 0#128 0) (C1 := fun _ W => RK w x n x (n + 1) W) (A := fun _ => { tmps := #[.int .i64 (F), .agg #[.int .u64 (hI x), .int .u64 (lI x), .int .i64 (n)], undef, .pointer (some ⟨w.heap.size, 0, none⟩), .pointer (some ⟨w.heap.size + 1, 0, none⟩), .pointer (some ⟨w.heap.size + 1 + 1, 0, none⟩), .bool false, .pointer (some ⟨w.heap.size, 2, none⟩), .int .i64 (n), .int .i64 (F), .bool false, undef, undef, .pointer (some ⟨w.heap.size, 0, none⟩), .agg #[.int .u64 (hI x), .int .u64 (lI x)], .pointer (some ⟨w.heap.size, 2, none⟩), .int .i64 (n), .int .i64 (n + 1), .agg #[.int .u64 (hI x), .int .u64 (lI x), .int .i64 (n + 1)], .pointer (some ⟨w.heap.size, 0, none⟩), .agg #[.int .u64 (hI x), .int .u64 (lI x)], .pointer (some ⟨w.heap.size, 2, none⟩), .int .i64 (n), .agg #[.int .u64 (hI y), .int .u64 (lI y)], .pointer (some ⟨w.heap.size, 2, none⟩), .int .i64 (n), .int .i64 (n + 1), .agg #[.int .u64 (hI y), .int .u64 (lI y), .int .i64 (n + 1)]], defers := [] }) (fun _ => undef) [4, 18] (by kernel_rfl) ?hA (read_of (by kernel_rfl)) ?hal ⟨L0.1, L0.2.1, L0.2.2.1, L0.2.2.2.drew⟩ ?walk ?fin
  case hA => intro i o s N _ _ _ _; rfl
  case hal =>
    intro W a hD hr K Q' hK
    have e4 : a.tmps[4]? = some (.pointer (some ⟨w.heap.size + 1, 0, none⟩)) := (hr 4 (by simp)).trans rfl
    have e18 : a.tmps[18]? = some (.agg #[.int .u64 (hI x), .int .u64 (lI x), .int .i64 (n + 1)]) := (hr 18 (by simp)).trans rfl
    have r0 := (hD.2.1).set x (n + 1)
    obtain ⟨q1, ⟨y0, y1, y2, y3, y4, y5⟩, q3, q4⟩ := hD
    have hw : RK w x n x (n + 1) (((W.setCell ⟨w.heap.size + 1, 0, none⟩ (.int .u64 (hI x))).setCell ⟨w.heap.size + 1, 1, none⟩ (.int .u64 (lI x))).setCell ⟨w.heap.size + 1, 2, none⟩ (.int .i64 (n + 1))) :=
      ⟨q1.setO (by omega) _ _ _, r0, q3.setO (by omega) _ _ _, bset3 q4 (by omega) _ _ _⟩
    have hK' := hK 0 _ hw
    unfold Oper.wp
    simp [execOp, e4, e18, go_sem, y0, y1, y2, y3, y4, y5, Oper.upon]
    exact hK'
  case walk =>
    intro N X hX
    have hXD : ∀ W, X W → W.cell? ⟨w.heap.size, 0, none⟩ = some (.int .u64 (hI x)) ∧ W.cell? ⟨w.heap.size, 1, none⟩ = some (.int .u64 (lI x)) ∧ W.cell? ⟨w.heap.size, 2, none⟩ = some (.int .i64 n) := by
      rcases hX with rfl | rfl
      · exact fun W h => ⟨h.1.1, h.1.2.1, h.1.2.2.1⟩
      · exact fun W h => ⟨h.1.1, h.1.2.1, h.1.2.2.1⟩
    have hXb : ∀ W W', X W → Below W.heap.size W W' → X W' := by
      rcases hX with rfl | rfl
      · exact fun W W' h hb => h.below hb
      · exact fun W W' h hb => RK.below h hb
    clear hX L0
    dsimp only [rep, List.take, List.modify, List.modifyTailIdx, List.modifyTailIdx.go, List.modifyHead]
    refine q_run (v := .pointer (some ⟨w.heap.size, 0, none⟩)) (by rfl) ?_ ?_
    · (intro w1 hC; obtain ⟨p0, p1, p2⟩ := hXD w1 hC; go_simp; first | done | (simp; done) | (simp [*]; done) | omega | (simp; omega) | (rw [IntKind.wrap_i64]; omega) | (intro hx; omega) | rfl)
    simp only [Act.put, List.setIfInBounds_toArray, List.set_cons_zero, List.set_cons_succ]
    refine q_run (v := .agg #[.int .u64 (hI x), .int .u64 (lI x)]) (by rfl) ?_ ?_
    · (intro w1 hC; obtain ⟨p0, p1, p2⟩ := hXD w1 hC; go_simp; first | done | (simp; done) | (simp [*]; done) | omega | (simp; omega) | (rw [IntKind.wrap_i64]; omega) | (intro hx; omega) | rfl)
    simp only [Act.put, List.setIfInBounds_toArray, List.set_cons_zero, List.set_cons_succ]
    refine q_run (v := .pointer (some ⟨w.heap.size, 2, none⟩)) (by rfl) ?_ ?_
    · (intro w1 hC; obtain ⟨p0, p1, p2⟩ := hXD w1 hC; go_simp; first | done | (simp; done) | (simp [*]; done) | omega | (simp; omega) | (rw [IntKind.wrap_i64]; omega) | (intro hx; omega) | rfl)
    simp only [Act.put, List.setIfInBounds_toArray, List.set_cons_zero, List.set_cons_succ]
    refine q_run (v := .int .i64 (n)) (by rfl) ?_ ?_
    · (intro w1 hC; obtain ⟨p0, p1, p2⟩ := hXD w1 hC; go_simp; first | done | (simp; done) | (simp [*]; done) | omega | (simp; omega) | (rw [IntKind.wrap_i64]; omega) | (intro hx; omega) | rfl)
    simp only [Act.put, List.setIfInBounds_toArray, List.set_cons_zero, List.set_cons_succ]
    refine q_run (v := .int .i64 (n + 1)) (by rfl) ?_ ?_
    · (intro w1 hC; obtain ⟨p0, p1, p2⟩ := hXD w1 hC; go_simp)
    simp only [Act.put, List.setIfInBounds_toArray, List.set_cons_zero, List.set_cons_succ]
    refine q_run (v := .agg #[.int .u64 (hI x), .int .u64 (lI x), .int .i64 (n + 1)]) (by rfl) ?_ ?_
    · (intro w1 hC; obtain ⟨p0, p1, p2⟩ := hXD w1 hC; go_simp; first | done | (simp; done) | (simp [*]; done) | omega | (simp; omega) | (rw [IntKind.wrap_i64]; omega) | (intro hx; omega) | rfl)
    simp only [Act.put, List.setIfInBounds_toArray, List.set_cons_zero, List.set_cons_succ]
    refine q_run (v := .pointer (some ⟨w.heap.size, 0, none⟩)) (by rfl) ?_ ?_
    · (intro w1 hC; obtain ⟨p0, p1, p2⟩ := hXD w1 hC; go_simp; first | done | (simp; done) | (simp [*]; done) | omega | (simp; omega) | (rw [IntKind.wrap_i64]; omega) | (intro hx; omega) | rfl)
    simp only [Act.put, List.setIfInBounds_toArray, List.set_cons_zero, List.set_cons_succ]
    refine q_run (v := .agg #[.int .u64 (hI x), .int .u64 (lI x)]) (by rfl) ?_ ?_
    · (intro w1 hC; obtain ⟨p0, p1, p2⟩ := hXD w1 hC; go_simp; first | done | (simp; done) | (simp [*]; done) | omega | (simp; omega) | (rw [IntKind.wrap_i64]; omega) | (intro hx; omega) | rfl)
    simp only [Act.put, List.setIfInBounds_toArray, List.set_cons_zero, List.set_cons_succ]
    refine q_run (v := .pointer (some ⟨w.heap.size, 2, none⟩)) (by rfl) ?_ ?_
    · (intro w1 hC; obtain ⟨p0, p1, p2⟩ := hXD w1 hC; go_simp; first | done | (simp; done) | (simp [*]; done) | omega | (simp; omega) | (rw [IntKind.wrap_i64]; omega) | (intro hx; omega) | rfl)
    simp only [Act.put, List.setIfInBounds_toArray, List.set_cons_zero, List.set_cons_succ]
    refine q_run (v := .int .i64 (n)) (by rfl) ?_ ?_
    · (intro w1 hC; obtain ⟨p0, p1, p2⟩ := hXD w1 hC; go_simp; first | done | (simp; done) | (simp [*]; done) | omega | (simp; omega) | (rw [IntKind.wrap_i64]; omega) | (intro hx; omega) | rfl)
    simp only [Act.put, List.setIfInBounds_toArray, List.set_cons_zero, List.set_cons_succ]
    refine q_call (v := .agg #[.int .u64 (hI y), .int .u64 (lI y)]) (f := 63) (args := #[.agg #[.int .u64 (hI x), .int .u64 (lI x)], .int .i64 (n), .int .i64 (1)]) (by rfl) ?_ ?_ ?_
    · (intro w1 hC; clear hC; go_simp)
    · exact fun w1 hC => (KB w1).mono fun e w' ⟨he, hb⟩ => ⟨he, hXb w1 _ hC hb⟩
    simp only [Act.put, List.setIfInBounds_toArray, List.set_cons_zero, List.set_cons_succ]
    refine q_run (v := .pointer (some ⟨w.heap.size, 2, none⟩)) (by rfl) ?_ ?_
    · (intro w1 hC; obtain ⟨p0, p1, p2⟩ := hXD w1 hC; go_simp; first | done | (simp; done) | (simp [*]; done) | omega | (simp; omega) | (rw [IntKind.wrap_i64]; omega) | (intro hx; omega) | rfl)
    simp only [Act.put, List.setIfInBounds_toArray, List.set_cons_zero, List.set_cons_succ]
    refine q_run (v := .int .i64 (n)) (by rfl) ?_ ?_
    · (intro w1 hC; obtain ⟨p0, p1, p2⟩ := hXD w1 hC; go_simp; first | done | (simp; done) | (simp [*]; done) | omega | (simp; omega) | (rw [IntKind.wrap_i64]; omega) | (intro hx; omega) | rfl)
    simp only [Act.put, List.setIfInBounds_toArray, List.set_cons_zero, List.set_cons_succ]
    refine q_run (v := .int .i64 (n + 1)) (by rfl) ?_ ?_
    · (intro w1 hC; obtain ⟨p0, p1, p2⟩ := hXD w1 hC; go_simp)
    simp only [Act.put, List.setIfInBounds_toArray, List.set_cons_zero, List.set_cons_succ]
    refine q_run (v := .agg #[.int .u64 (hI y), .int .u64 (lI y), .int .i64 (n + 1)]) (by rfl) ?_ ?_
    · (intro w1 hC; obtain ⟨p0, p1, p2⟩ := hXD w1 hC; go_simp; first | done | (simp; done) | (simp [*]; done) | omega | (simp; omega) | (rw [IntKind.wrap_i64]; omega) | (intro hx; omega) | rfl)
    simp only [Act.put, List.setIfInBounds_toArray, List.set_cons_zero, List.set_cons_succ]
    refine q_run (v := undef) (by rfl) ?_ ?_
    · (intro w1 hC; go_simp)
    exact wpQuiet_nil rfl
  case fin =>
    intro N W hC
    obtain ⟨-, ⟨y0, y1, y2, -, -, -⟩, hZ, kB⟩ := hC
    obtain ⟨z0, z1, z2, z3, z4, z5⟩ := id hZ
    dsimp only [List.drop]
    go_wp2
    exact bodyPost_ret (v := .tuple #[.agg #[.int .u64 (hI x), .int .u64 (lI x), .int .i64 (n + 1)], .agg #[.int .u64 (hI y), .int .u64 (lI y), .int .i64 (n + 1)], .bool true]) (by simp [results, Try.results45, go_sem, y0, y1, y2, z0, z1, z2]) rfl ⟨rfl, bset3 kB (by omega) _ _ _⟩
theorem rkids_any (F : Int) (x : BitVec 128) (n : Int) (w : World) (h0 : 0 ≤ n) (h1 : F ≤ 128) :
    Calls Try.prog 45 #[.int .i64 F, .agg #[.int .u64 (hI x), .int .u64 (lI x), .int .i64 n]] w fun e w' => e = .returned (.tuple #[.agg #[.int .u64 (hI (kidL F x n)), .int .u64 (lI (kidL F x n)), .int .i64 (kidN F n)], .agg #[.int .u64 (hI (if F ≤ n then 0#128 else putW x n 1)), .int .u64 (lI (if F ≤ n then 0#128 else putW x n 1)), .int .i64 (kidN F n)], .bool (decide (n < F))]) ∧ Below w.heap.size w w' := by
  unfold kidL kidN
  by_cases h : F ≤ n
  · have h' : ¬ n < F := by omega
    rw [if_pos h, if_pos h, if_pos h, hI_zero, lI_zero]
    simp only [h', decide_false]
    exact rkids_no F x n w h
  · have h' : n < F := by omega
    rw [if_neg h, if_neg h, if_neg h]
    simp only [h', decide_true]
    exact rkids_yes F x n w h h0 h1
end Go.Proofs.Ytofpbommhklooaa
/-
  What the calls of the reference's chapter 3 do: Sibling, Kids.
-/
namespace Go.Proofs.Ytofpbommhklooaa
open Go.RowKit
set_option linter.unusedSimpArgs false
set_option linter.unusedVariables false

def rsibV (x : BitVec 128) (n : Int) : BitVec 128 := if n ≤ 0 then 0#128 else putW x (n - 1) (1 - bitZ x (n - 1))
end Go.Proofs.Ytofpbommhklooaa
/-
  Plain facts: kids and siblings, told by the program and by the reference, are the same.
-/
namespace Go.Proofs.Ytofpbommhklooaa
open Go.RowKit
set_option linter.unusedSimpArgs false
set_option linter.unusedVariables false

theorem bit1_bit (i : Int) (h0 : 0 ≤ i) (j : Nat) (hj : j < 128) : (bit1 i).getLsbD j = decide ((j : Int) = 127 - i) := by
  unfold bit1
  rw [BitVec.getLsbD_ushiftRight]
  by_cases c : i.toNat + j < 128
  · rw [maskW_bit 1 _ c]
    congr 1
    apply propext
    constructor
    · intro h
      have : 128 - (1 : Int).toNat = 127 := by decide
      omega
    · intro h
      have : 128 - (1 : Int).toNat = 127 := by decide
      omega
  · rw [BitVec.getLsbD_of_ge _ _ (by omega)]
    symm
    simp
    omega
/-- Behind its length a right prefix has no bits. -/
theorem rt_bit (F : Int) (x : BitVec 128) (n : Int) (h : Rt F x n) (j : Nat) (hj : j < 128) (hn : (j : Int) < 128 - n) : x.getLsbD j = false := by
  have hx := congrArg (fun z => z.getLsbD j) h.2.2
  simp only [cut_bit x n j hj] at hx
  have h0 := h.1
  have c : ¬ 128 - n.toNat ≤ j := by omega
  simp [c] at hx
  exact hx.symm ▸ rfl
theorem kid_put (F : Int) (x : BitVec 128) (n : Int) (h : Rt F x n) (h1 : F ≤ 128) (hn : n < F) : putW x n 1 = x ||| bit1 n := by
  apply BitVec.eq_of_getLsbD_eq
  intro j hj
  have h0 := h.1
  rw [putW_bit x n 1 (by omega) h0 (by omega) j hj, BitVec.getLsbD_or, bit1_bit n h0 j hj]
  by_cases c : j = (127 - n).toNat
  · have d : (j : Int) = 127 - n := by omega
    simp [c, d]
    omega
  · have d : ¬ (j : Int) = 127 - n := by omega
    simp [c, d]
theorem kidH_eq (F : Int) (x : BitVec 128) (n : Int) (h : Rt F x n) (h1 : F ≤ 128) : (if F ≤ n then 0#128 else putW x n 1) = kidH F x n := by
  unfold kidH
  by_cases c : F ≤ n
  · rw [if_pos c, if_pos c]
  · rw [if_neg c, if_neg c, kid_put F x n h h1 (by omega)]
theorem sib_eq (F : Int) (x : BitVec 128) (n : Int) (h : Rt F x n) (h1 : F ≤ 128) : rsibV x n = sibV x n := by
  have h0 := h.1
  have h2 := h.2.1
  unfold rsibV sibV
  by_cases c : n ≤ 0
  · rw [if_pos c, if_pos c]
  · rw [if_neg c, if_neg c]
    have hz : bitZ x (n - 1) = if x.getLsbD (127 - (n - 1).toNat) = true then 1 else 0 := by
      unfold bitZ bitB
      have e : decide (0 ≤ n - 1) = true := by simp; omega
      rw [e, Bool.true_and, BitVec.getMsbD_eq_getLsbD]
      have : decide ((n - 1).toNat < 128) = true := by simp; omega
      rw [this, Bool.true_and]
    apply BitVec.eq_of_getLsbD_eq
    intro j hj
    rw [putW_bit x (n - 1) _ (by rw [hz]; split <;> omega) (by omega) (by omega) j hj, BitVec.getLsbD_xor, bit1_bit (n - 1) (by omega) j hj]
    by_cases d : j = (127 - (n - 1)).toNat
    · have e : (j : Int) = 127 - (n - 1) := by omega
      rw [if_pos d, hz, show 127 - (n - 1).toNat = j by omega]
      cases x.getLsbD j <;> simp [e]
    · have e : ¬ (j : Int) = 127 - (n - 1) := by omega
      rw [if_neg d]
      simp [e]
end Go.Proofs.Ytofpbommhklooaa
