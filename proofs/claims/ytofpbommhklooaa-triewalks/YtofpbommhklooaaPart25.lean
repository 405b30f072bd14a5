/-
  Part 25 of the proof: 4 texts, one behind the other.
-/
import Derived.Test.YtofpbommhklooaaPart23
import Derived.Test.YtofpbommhklooaaPart24
import Derived.Test.YtofpbommhklooaaPart15
import Derived.Test.YtofpbommhklooaaPart18
import Derived.Test.YtofpbommhklooaaPart10
/-
  What the questions of a table's tree tell: a node's prefix, a prefix's node, the way of an address.
-/
namespace Go.Proofs.Ytofpbommhklooaa
open Go.RowKit Go.Shelf
set_option linter.unusedSimpArgs false
set_option linter.unusedVariables false

/-- The tree of a right table. -/
structure Ctx (F : Int) (l : List Rte) (ws : List (BitVec 128)) (L : List Nd) : Prop where
  t : Tre l ws L
  fm : F = 32 ∨ F = 128
  rr : ∀ r ∈ l, RtH F r
  ll : l.length ≤ 1048576
  od : OrdR l
theorem right_zero {F : Int} {l : List Rte} (h : RightT F l) : TabE F l 0 := ⟨fun q => absurd h.2.1 q, fun _ => .inl ⟨h.2.2, rfl⟩⟩
section
variable {F : Int} {l : List Rte} {ws : List (BitVec 128)} {L : List Nd}
theorem Ctx.of (t : Tre l ws L) (h : TabE F l 0) : Ctx F l ws L := by
  obtain ⟨a, b, c, d⟩ := tab8_ok h
  exact ⟨t, a, c, b, d⟩
theorem Ctx.fam (c : Ctx F l ws L) : fam F = true := by rcases c.fm with rfl | rfl <;> decide
theorem Ctx.F0 (c : Ctx F l ws L) : 0 ≤ F ∧ F ≤ 128 := by rcases c.fm with rfl | rfl <;> omega
theorem Ctx.lnF (c : Ctx F l ws L) {i : Nat} (h : i < L.length) : 0 ≤ ln L i ∧ ln L i ≤ F := ⟨(c.t.ln128 h).1, (c.t.nf F c.F0.1 (fun r hr => (c.rr r hr).1.2.1)).2 i h⟩
theorem Ctx.ok (c : Ctx F l ws L) : ∀ x ∈ L, x.ok := c.t.ok c.ll
theorem Ctx.len (c : Ctx F l ws L) : L.length ≤ 134217729 := by have := c.t.nl; have := c.ll; omega
theorem Ctx.ad_mem (c : Ctx F l ws L) {i : Nat} (h : i < L.length) : ad ws L i ∈ ws := by
  have b := (c.t.inv.bnd i h).2.1
  unfold ad
  rw [List.getD_eq_getElem?_getD, List.getElem?_eq_getElem (by omega)]
  exact List.getElem_mem _
theorem Ctx.adF (c : Ctx F l ws L) {i : Nat} (h : i < L.length) : cutW (ad ws L i) F = ad ws L i := c.t.wfam c.F0.1 c.rr _ (c.ad_mem h)
/-- A node's prefix is right. -/
theorem Ctx.chk (c : Ctx F l ws L) {i : Nat} (h : i < L.length) : checkE F (pfA ws L i) (ln L i) = 0 := by
  have b := c.lnF h
  refine chkIn8 c.fam b.1 b.2 ?_
  unfold pfA
  rw [cut_cut2 _ _ _ b.1 (Int.le_refl _)]
theorem Ctx.inn (c : Ctx F l ws L) {i : Nat} (h : i < L.length) : InN ws L (pfA ws L i) i := by
  unfold InN pfA
  rw [cut_cut2 _ _ _ (c.lnF h).1 (Int.le_refl _)]
theorem tfind8_any (c : Ctx F l ws L) (B g cap wg wc : Nat) (x : BitVec 128) (pl : Int) (w : World) (h : TrT w B F g cap wg wc L ws) :
    Calls Try.prog 17 #[.pointer (some ⟨B, 0, none⟩), .agg #[.int .u64 (hI x), .int .u64 (lI x), .int .i64 pl]] w fun e w' => (∃ m : Int, e = .returned (.int .i64 m) ∧ ((∃ i : Nat, m = (i : Int) ∧ i < L.length ∧ ln L i = pl ∧ pfA ws L i = x) ∨ (m = -1 ∧ ∀ i, i < L.length → ln L i = pl → pfA ws L i ≠ x))) ∧ Below w.heap.size w w' := by
  obtain ⟨N, wq⟩ := c.t.path x
  have wt := wq.to
  rw [Int.natCast_zero] at wt
  have KF := tfind_any (N + 1) B F g cap (.slice (some ⟨wg, 0, none⟩) ws.length wc) L x pl (fun _ => wt) w h.tn c.t.pos c.ok (by have := c.len; omega)
  refine KF.mono ?_
  rintro e w' ⟨rfl, hb⟩
  refine ⟨⟨_, rfl, ?_⟩, hb⟩
  by_cases hc : checkE F x pl = 0
  · obtain ⟨-, -, -, hx⟩ := check_out hc
    rw [if_pos hc]
    unfold pthL
    rw [if_pos (check_fam hc)]
    rcases c.t.find wq pl with ⟨m, q1, q2, q3, q4⟩ | ⟨q1, q2⟩
    · refine .inl ⟨m, q4, q1, q2, ?_⟩
      unfold InN at q3
      unfold pfA
      rw [← q3, q2, hx]
    · refine .inr ⟨q1, fun i hi hl he => q2 i hi hl ?_⟩
      unfold InN
      unfold pfA at he
      rw [he, hl, hx]
  · rw [if_neg hc]
    refine .inr ⟨rfl, fun i hi hl he => hc ?_⟩
    have := c.chk hi
    rwa [he, hl] at this
theorem Ctx.uniqP (c : Ctx F l ws L) {i j : Nat} (hi : i < L.length) (hj : j < L.length) (hl : ln L i = ln L j) (h : pfA ws L i = pfA ws L j) : i = j := by
  refine c.t.uniq (x := pfA ws L i) hi hj hl (c.inn hi) ?_
  rw [h]; exact c.inn hj
/-- The node of a node's prefix is it. -/
theorem tfindAt_any (c : Ctx F l ws L) (B g cap wg wc k : Nat) (w : World) (h : TrT w B F g cap wg wc L ws) (hk : k < L.length) :
    Calls Try.prog 17 #[.pointer (some ⟨B, 0, none⟩), .agg #[.int .u64 (hI (pfA ws L k)), .int .u64 (lI (pfA ws L k)), .int .i64 (ln L k)]] w fun e w' => e = .returned (.int .i64 (k : Int)) ∧ Below w.heap.size w w' := by
  refine (tfind8_any c B g cap wg wc (pfA ws L k) (ln L k) w h).mono ?_
  rintro e w' ⟨⟨m, rfl, hm⟩, hb⟩
  rcases hm with ⟨i, rfl, q1, q2, q3⟩ | ⟨-, q⟩
  · rw [c.uniqP q1 hk q2 q3]; exact ⟨rfl, hb⟩
  · exact absurd rfl (q k hk rfl)
/-- The node of a route's prefix. -/
theorem tfindR_any (c : Ctx F l ws L) (B g cap wg wc : Nat) (r : Rte) (hr : r ∈ l) (w : World) (h : TrT w B F g cap wg wc L ws) :
    Calls Try.prog 17 #[.pointer (some ⟨B, 0, none⟩), .agg #[.int .u64 (hI r.1.1), .int .u64 (lI r.1.1), .int .i64 r.1.2]] w fun e w' => (∃ m : Nat, e = .returned (.int .i64 (m : Int)) ∧ m < L.length ∧ (ndAt L (m : Int)).hop = r.2) ∧ Below w.heap.size w w' := by
  refine (tfind8_any c B g cap wg wc r.1.1 r.1.2 w h).mono ?_
  rintro e w' ⟨⟨m, rfl, hm⟩, hb⟩
  obtain ⟨i, q1, q2, q3⟩ := c.t.hasr hr
  have hx := (c.rr r hr).1.2.2
  rcases hm with ⟨j, rfl, p1, p2, p3⟩ | ⟨-, q⟩
  · refine ⟨⟨j, rfl, p1, ?_⟩, hb⟩
    rw [nd8_at p1]
    refine c.t.route hr p1 p2 ?_
    rw [← p3]; exact c.inn p1
  · refine absurd ?_ (q i q1 q2)
    unfold InN at q3
    unfold pfA
    rw [← q3, q2, hx]
end
/-- What a law knows: the tree, the table's variable, what stays. -/
def CT8 (w : World) (F : Int) (v : Value) (B g cap wg wc : Nat) (L : List Nd) (ws : List (BitVec 128)) (X : World) : Prop := TrT X B F g cap wg wc L ws ∧ AtT X w.heap.size F v ∧ Below w.heap.size w X
theorem CT8.below {w X Y : World} {F : Int} {v : Value} {B g cap wg wc : Nat} {L : List Nd} {ws : List (BitVec 128)} (k : CT8 w F v B g cap wg wc L ws X) (hb : Below X.heap.size X Y) : CT8 w F v B g cap wg wc L ws Y := ⟨k.1.below hb, k.2.1.below hb, keepb hb k.2.2⟩
end Go.Proofs.Ytofpbommhklooaa
/-
  The nodes so many bits below one: descend.
-/
namespace Go.Proofs.Ytofpbommhklooaa
open Go.RowKit Go.Shelf
set_option linter.unusedSimpArgs false
set_option linter.unusedVariables false

/-- The nodes so many bits below one. -/
def dnL (L : List Nd) : Nat → Int → List Int
  | 0, n => [n]
  | b + 1, n => if (ndAt L n).height < ((b + 1 : Nat) : Int) then [] else (if kidV L n 0 = -1 then [] else dnL L b (kidV L n 0)) ++ (if kidV L n 1 = -1 then [] else dnL L b (kidV L n 1))
/-- Those of the first kids. -/
def dnU (L : List Nd) (b : Nat) (n : Int) : Nat → List Int
  | 0 => []
  | 1 => if kidV L n 0 = -1 then [] else dnL L b (kidV L n 0)
  | _ => (if kidV L n 0 = -1 then [] else dnL L b (kidV L n 0)) ++ (if kidV L n 1 = -1 then [] else dnL L b (kidV L n 1))
theorem dnU_step (L : List Nd) (b : Nat) (n : Int) (i : Nat) (h : i < 2) : dnU L b n (i + 1) = dnU L b n i ++ (if kidV L n i = -1 then [] else dnL L b (kidV L n i)) := by
  match i, h with
  | 0, _ => simp [dnU]
  | 1, _ => simp [dnU]
theorem dnU_two (L : List Nd) (b : Nat) (n : Int) (i : Nat) (h : i < 2) : dnU L b n (i + 1) <+: dnU L b n 2 := by
  match i, h with
  | 0, _ => exact List.prefix_append _ _
  | 1, _ => exact List.prefix_refl _
set_option maxRecDepth 100000 in
set_option maxHeartbeats 8000000 in
theorem descend_in (n : Nat) (Z : Nat → Prop) (Bd H0 B : Nat) (F : Int) (g cap : Nat) (wv : Value) (L : List Nd) (hZB : Z B ∨ Bd ≤ B) (hZg : Z g ∨ Bd ≤ g) (ho : ∀ x ∈ L, x.ok) (hl : L.length ≤ 2147483647)
    (l : Nat) (J Jx : List Int → World → Prop) (T : List Int) (hJ : OwnFrom H0 J)
    (hY : ∀ pre x V, J pre V → pre ++ [x] <+: T → YieldAt Fence.wide (n - 1) Try.prog l (encI x) V fun e V' => (e = .returned (.bool true) ∧ J (pre ++ [x]) V' ∧ KW Z Bd V V') ∨ (e = .returned (.bool false) ∧ Jx (pre ++ [x]) V' ∧ KW Z Bd V V')) :
    ∀ (b : Nat) (k : Int) (pre : List Int) (W : World), (b : Int) ≤ 9223372036854775807 → TrN W B F g cap wv L → J pre W → pre ++ dnL L b k <+: T →
      CallsIn Fence.wide n Try.prog 59 #[.pointer (some ⟨B, 0, none⟩), .int .i64 k, .int .i64 (b : Int), .func (.yield l) #[] #[]] W fun e W' => (e = .returned (.bool true) ∧ J (pre ++ dnL L b k) W' ∧ TrN W' B F g cap wv L) ∨ (e = .returned (.bool false) ∧ ∃ pre2, pre2 <+: T ∧ Jx pre2 W') := by
  intro b
  induction b with
  | zero =>
    intro k pre W hb hM hJp hT
    have KH := thei_any B F g cap wv L k W hM ho
    have ok := ndAt_ok ho k
    have hh : ¬ (ndAt L k).height < 0 := by unfold Nd.ok at ok; omega
    have hh' : decide ((ndAt L k).height < 0) = false := by simpa using hh
    have HT : Hid (pre ++ [k] <+: T) := hidX (by rw [dnL] at hT; exact hT)
    have HJp := hidX hJp
    have HJ := hidX hJ
    have HM := hidX hM
    have HY := hidX hY
    rw [dnL]
    clear ok hh hT hJp hM hY hJ
    revert KH hh'
    generalize (ndAt L k).height = h
    intro KH hh'
    have e0 : ((0 : Nat) : Int) = 0 := rfl
    rw [e0]
    refine callsIn_of_wp Try.func59 rfl trivial ?_ rfl
    simp only [Try.ntmps59, List.size_toArray, List.length_cons, List.length_nil, Nat.reduceAdd, Nat.reduceSub, Array.replicate_succ, Array.replicate_zero, List.push_toArray, List.append_toArray, List.nil_append, List.cons_append]
    gi_wp2_with fail
    refine ⟨trivial, fun q => (by cases q), (callsIn_wide.2 KH).mono ?_⟩
    rintro e W1 ⟨rfl, hb1⟩
    have HM1 := hidX (HM.out.below hb1)
    have hJ1 := HJ.out _ _ _ none HJp.out (below_grownX hb1) (fun r e => by cases e)
    obtain ⟨fn, tmps, assign, body, hy, hR⟩ := HY.out pre k W1 hJ1 HT.out
    dsimp only [encI] at hy
    clear KH hb1 HM HJp hJ1
    gi_wp2
    refine ⟨fun q => (by cases q), hR.mono ?_⟩
    rintro e W3 (⟨rfl, hJ3, hk3⟩ | ⟨rfl, hx3, -⟩)
    · have HJ3 := hidX hJ3
      have HM3 := hidX (HM1.out.kw hk3 hZB hZg)
      clear hJ3 hk3 hy hR
      gi_wp2
      exact bodyPost_ret (v := .bool true) (by simp [results, Try.results59, go_sem]) rfl (.inl ⟨rfl, HJ3.out, HM3.out⟩)
    · have HX3 := hidX hx3
      clear hx3 hy hR
      gi_wp2
      exact bodyPost_ret (v := .bool false) (by simp [results, Try.results59, go_sem]) rfl (.inr ⟨rfl, _, HT.out, HX3.out⟩)
  | succ b ih =>
    intro k pre W hb hM hJp hT
    have KH := thei_any B F g cap wv L k W hM ho
    have HJp := hidX hJp
    have HJ := hidX hJ
    have HM := hidX hM
    have HO := hidX (And.intro ho hl)
    have HIH := hidX ih
    have hb0 : ¬ ((b + 1 : Nat) : Int) = 0 := by omega
    have hb0' : (((b + 1 : Nat) : Int) == 0) = false := by simpa using hb0
    have hb1 : IntKind.i64.wrap (((b + 1 : Nat) : Int) - 1) = (b : Int) := by rw [IntKind.wrap_i64]; push_cast; omega
    have hbb : (b : Int) ≤ 9223372036854775807 := by omega
    by_cases c : (ndAt L k).height < ((b + 1 : Nat) : Int)
    · have c' : decide ((ndAt L k).height < ((b + 1 : Nat) : Int)) = true := by simpa using c
      have e : dnL L (b + 1) k = [] := by rw [dnL, if_pos c]
      rw [e, List.append_nil]
      clear ih hY hJ hJp hM hT e c
      revert KH c'
      generalize (ndAt L k).height = h
      generalize ((b + 1 : Nat) : Int) = bz at *
      intro KH c'
      refine callsIn_of_wp Try.func59 rfl trivial ?_ rfl
      simp only [Try.ntmps59, List.size_toArray, List.length_cons, List.length_nil, Nat.reduceAdd, Nat.reduceSub, Array.replicate_succ, Array.replicate_zero, List.push_toArray, List.append_toArray, List.nil_append, List.cons_append]
      gi_wp2_with fail
      refine ⟨trivial, fun q => (by cases q), (callsIn_wide.2 KH).mono ?_⟩
      rintro e W1 ⟨rfl, hb2⟩
      have HM1 := hidX (HM.out.below hb2)
      have HJ1 := hidX (HJ.out _ _ _ none HJp.out (below_grownX hb2) (fun r e => by cases e))
      clear KH hb2 HM HJp
      gi_wp2
      exact bodyPost_ret (v := .bool true) (by simp [results, Try.results59, go_sem]) rfl (.inl ⟨rfl, HJ1.out, HM1.out⟩)
    · have c' : decide ((ndAt L k).height < ((b + 1 : Nat) : Int)) = false := by simpa using c
      have e : dnL L (b + 1) k = dnU L b k 2 := by rw [dnL, if_neg c]; rfl
      rw [e] at hT ⊢
      have HT := hidX hT
      clear ih hY hJ hJp hM hT e c
      revert KH c'
      generalize (ndAt L k).height = h
      generalize ((b + 1 : Nat) : Int) = bz at *
      intro KH c'
      refine callsIn_of_wp Try.func59 rfl trivial ?_ rfl
      simp only [Try.ntmps59, List.size_toArray, List.length_cons, List.length_nil, Nat.reduceAdd, Nat.reduceSub, Array.replicate_succ, Array.replicate_zero, List.push_toArray, List.append_toArray, List.nil_append, List.cons_append]
      gi_wp2_with fail
      refine ⟨trivial, fun q => (by cases q), (callsIn_wide.2 KH).mono ?_⟩
      rintro e W1 ⟨rfl, hb2⟩
      have HM1 := hidX (HM.out.below hb2)
      have HJ1 := hidX (HJ.out _ _ _ none HJp.out (below_grownX hb2) (fun r e => by cases e))
      clear KH hb2 HM HJp
      gi_wp2_with fail
      gi_loopw [21] (fun p wr => ∃ i : Nat, p = .int .i64 (i : Int) ∧ Hid (i ≤ 2) ∧ Hid (J (pre ++ dnU L b k i) wr) ∧ Hid (TrN wr B F g cap wv L)) (fun p wr => 2 - (intOf p).toNat)
      case atStart => exact ⟨0, rfl, hidX (by omega), hidX (by rw [dnU, List.append_nil]; exact HJ1.out), HM1⟩
      case round =>
        clear HJ1 HM1
        obtain ⟨i, rfl, Hi, HJw, HMw⟩ := hrel
        by_cases ci : i < 2
        · have ci' : (i : Int) < 2 := by omega
          have hiw : IntKind.i64.wrap ((i : Int) + 1) = ((i + 1 : Nat) : Int) := by rw [IntKind.wrap_i64]; push_cast; omega
          have KK := tkid_any B F g cap wv L k i wr HMw.out HO.out.1 HO.out.2
          have HSt := hidX (dnU_step L b k i ci)
          have HTt := hidX (dnU_two L b k i ci)
          have HIk := hidX (fun W h1 h2 h3 => HIH.out (kidV L k i) (pre ++ dnU L b k i) W hbb h1 h2 h3)
          revert KK HSt HIk
          generalize kidV L k i = kd
          intro KK HSt HIk
          gi_wp2_with fail
          refine ⟨trivial, fun q => (by cases q), (callsIn_wide.2 KK).mono ?_⟩
          rintro e W2 ⟨rfl, hb2⟩
          have HM2 := hidX (HMw.out.below hb2)
          have HJ2 := hidX (HJ.out _ _ _ none HJw.out (below_grownX hb2) (fun r e => by cases e))
          clear KK hb2 HMw HJw
          by_cases ck : kd = -1
          · subst ck
            have HJ3 : Hid (J (pre ++ dnU L b k (i + 1)) W2) := hidX (by rw [HSt.out, if_pos rfl, List.append_nil]; exact HJ2.out)
            gi_wp2
            refine ⟨trivial, ?_⟩
            gi_wp2
            go_roundw
            case rel => exact ⟨i + 1, rfl, hidX (by omega), HJ3, HM2⟩
            case measure => simp [intOf]; omega
          · have ck' : (kd != -1) = true := by simpa using ck
            have hpt : (pre ++ dnU L b k i) ++ dnL L b kd <+: T := by
              have := HSt.out
              rw [if_neg ck] at this
              rw [List.append_assoc, ← this]
              exact List.IsPrefix.trans (List.prefix_append_right_inj pre |>.mpr HTt.out) HT.out
            have KR := HIk.out W2 HM2.out HJ2.out hpt
            have HE : Hid (dnU L b k (i + 1) = dnU L b k i ++ dnL L b kd) := hidX (by have := HSt.out; rwa [if_neg ck] at this)
            clear ck hpt HIk HSt HTt
            gi_wp2_with fail
            refine ⟨trivial, fun q => (by cases q), ((callsIn_wide (n := n - 1)).2 ((callsIn_wide (n := n)).1 KR)).mono ?_⟩
            rintro e W3 (⟨rfl, hJ3, hM3⟩ | ⟨rfl, pre2, hp2, hx3⟩)
            · have HJ3 : Hid (J (pre ++ dnU L b k (i + 1)) W3) := hidX (by rw [HE.out, ← List.append_assoc]; exact hJ3)
              have HM3 := hidX hM3
              clear hJ3 hM3 KR
              gi_wp2
              go_roundw
              case rel => exact ⟨i + 1, rfl, hidX (by omega), HJ3, HM3⟩
              case measure => simp [intOf]; omega
            · have HX3 : Hid (∃ pre2, pre2 <+: T ∧ Jx pre2 W3) := hidX ⟨pre2, hp2, hx3⟩
              clear hp2 hx3 KR
              gi_wp2
              exact bodyPost_ret (v := .bool false) (by simp [results, Try.results59, go_sem]) rfl (.inr ⟨rfl, HX3.out⟩)
        · obtain rfl : i = 2 := by have := Hi.out; omega
          gi_wp2
          exact bodyPost_ret (v := .bool true) (by simp [results, Try.results59, go_sem]) rfl (.inl ⟨rfl, HJw.out, HMw.out⟩)
/-- What Down goes over. -/
def dwnL (L : List Nd) (k bits : Int) : List Int := if isN L k = true ∧ 0 ≤ bits then dnL L bits.toNat k else []
set_option maxRecDepth 100000 in
set_option maxHeartbeats 8000000 in
theorem below_each (n : Nat) (Z : Nat → Prop) (Bd B : Nat) (F : Int) (g cap : Nat) (wv : Value) (L : List Nd) (k bits : Int) (hbits : bits ≤ 9223372036854775807) (w : World) (hM : TrN w B F g cap wv L) (hZB : Z B ∨ Bd ≤ B) (hZg : Z g ∨ Bd ≤ g) (ho : ∀ x ∈ L, x.ok) (hl : L.length ≤ 2147483647) :
    SeqY n Try.prog 33 #[.agg #[.pointer (some ⟨B, 0, none⟩), .int .i64 k, .int .i64 bits]] #[] encI (KW Z Bd) (fun ys => ys = dwnL L k bits) (fun pre => pre <+: dwnL L k bits) Bd w := by
  intro l J Jx W hW hB hJ hJx hY h0
  have q0 := bl1 W (.cells #[.pointer (some ⟨B, 0, none⟩), .int .i64 k, .int .i64 bits] 74)
  have HM0 := hidX ((hM.below hW).below q0)
  have hj0 := hJ [] _ _ none h0 (below_grownX q0) (fun r e => by cases e)
  have HJ0 := hidX hj0
  have hc0 : (W.alloc (.cells #[.pointer (some ⟨B, 0, none⟩), .int .i64 k, .int .i64 bits] 74)).cell? ⟨W.heap.size, 0, none⟩ = some (.pointer (some ⟨B, 0, none⟩)) := by simp [go_sem]
  have hc1 : (W.alloc (.cells #[.pointer (some ⟨B, 0, none⟩), .int .i64 k, .int .i64 bits] 74)).cell? ⟨W.heap.size, 1, none⟩ = some (.int .i64 k) := by simp [go_sem]
  have hc2 : (W.alloc (.cells #[.pointer (some ⟨B, 0, none⟩), .int .i64 k, .int .i64 bits] 74)).cell? ⟨W.heap.size, 2, none⟩ = some (.int .i64 bits) := by simp [go_sem]
  have KH := thas_any B F g cap wv L k _ HM0.out
  have HD : Hid (∀ b : Nat, (b : Int) = bits → dwnL L k bits = dnL L b k → CallsIn Fence.wide (n - 1) Try.prog 59 #[.pointer (some ⟨B, 0, none⟩), .int .i64 k, .int .i64 (b : Int), .func (.yield l) #[] #[]] (W.alloc (.cells #[.pointer (some ⟨B, 0, none⟩), .int .i64 k, .int .i64 bits] 74)) fun e W' => (e = .returned (.bool true) ∧ J (dwnL L k bits) W') ∨ (e = .returned (.bool false) ∧ ∃ pre2, pre2 <+: dwnL L k bits ∧ Jx pre2 W')) := hidX (fun b hb hd => by
    have KD := descend_in n Z Bd W.heap.size B F g cap wv L hZB hZg ho hl l J Jx (dwnL L k bits) hJ hY b k [] _ (by omega) HM0.out hj0 (by rw [hd]; exact List.prefix_refl _)
    refine ((callsIn_wide (n := n - 1)).2 ((callsIn_wide (n := n)).1 KD)).mono ?_
    rintro e W' (⟨he, h1, -⟩ | h1)
    · exact .inl ⟨he, by rw [List.nil_append, ← hd] at h1; exact h1⟩
    · exact .inr h1)
  have HE1 : Hid (¬ (isN L k = true ∧ 0 ≤ bits) → dwnL L k bits = []) := hidX (fun h => by rw [dwnL, if_neg h])
  have HE2 : Hid (isN L k = true → 0 ≤ bits → dwnL L k bits = dnL L bits.toNat k) := hidX (fun h1 h2 => by rw [dwnL, if_pos ⟨h1, h2⟩])
  clear hJ hJx hY h0 hM q0 hB hj0 hZB hZg ho hl HM0
  refine callsIn_of_wp Try.func33 rfl trivial ?_ rfl
  simp only [Try.ntmps33, List.size_toArray, List.length_cons, List.length_nil, Nat.reduceAdd, Nat.reduceSub, Array.replicate_succ, Array.replicate_zero, List.push_toArray, List.append_toArray, List.nil_append, List.cons_append, List.append_nil]
  gi_wp2_with fail
  refine ⟨trivial, fun q => (by cases q), (callsIn_wide.2 KH).mono ?_⟩
  rintro e W1 ⟨rfl, rfl⟩
  clear KH
  revert HJ0 hc0 hc1 hc2 HD
  generalize W.alloc (.cells #[.pointer (some ⟨B, 0, none⟩), .int .i64 k, .int .i64 bits] 74) = V1
  intro HJ0 hc0 hc1 hc2 HD
  cases c : isN L k with
  | false =>
    have HE := hidX (HE1.out (by rw [c]; simp))
    clear HE1 HE2 HD c
    gi_wp2
    go_end0
    exact ⟨⟨_, rfl⟩, .inl ⟨[], HE.out.symm, HJ0.out⟩⟩
  | true =>
    by_cases c2 : 0 ≤ bits
    · obtain ⟨b, rfl⟩ : ∃ b : Nat, bits = b := ⟨bits.toNat, by omega⟩
      have e2 := HE2.out c c2
      rw [Int.toNat_natCast] at e2
      have KD := HD.out b rfl e2
      have HS := hidX (show dwnL L k (b : Int) = dwnL L k (b : Int) from rfl)
      clear HE1 HE2 HD c e2
      gi_wp2_with fail
      refine ⟨trivial, fun q => (by cases q), KD.mono ?_⟩
      rintro e W2 (⟨rfl, h1⟩ | ⟨rfl, pre2, h1, h2⟩)
      · have H1 := hidX h1
        clear h1 KD
        gi_wp2
        go_end0
        exact ⟨⟨_, rfl⟩, .inl ⟨_, rfl, H1.out⟩⟩
      · have H1 := hidX h1
        have H2 := hidX h2
        clear h1 h2 KD
        gi_wp2
        go_end0
        exact ⟨⟨_, rfl⟩, .inr ⟨_, H1.out, H2.out⟩⟩
    · have HE := hidX (HE1.out (fun q => c2 q.2))
      clear HE1 HE2 HD c
      gi_wp2
      go_end0
      exact ⟨⟨_, rfl⟩, .inl ⟨[], HE.out.symm, HJ0.out⟩⟩
theorem tdown_any (B : Nat) (k bits : Int) (w : World) :
    Calls Try.prog 15 #[.pointer (some ⟨B, 0, none⟩), .int .i64 k, .int .i64 bits] w fun e w' => e = .returned (.func (.func 33) #[.agg #[.pointer (some ⟨B, 0, none⟩), .int .i64 k, .int .i64 bits]] #[]) ∧ w' = w := by
  go_enter Try.func15, Try.ntmps15
  go_wp2
  exact bodyPost_ret (v := .func (.func 33) #[.agg #[.pointer (some ⟨B, 0, none⟩), .int .i64 k, .int .i64 bits]] #[]) (by simp [results, Try.results15, go_sem]) rfl ⟨rfl, rfl⟩
end Go.Proofs.Ytofpbommhklooaa
/-
  Plain: what lies so many bits below a node; what lies within it.
-/
namespace Go.Proofs.Ytofpbommhklooaa
open Go.RowKit
set_option linter.unusedSimpArgs false
set_option linter.unusedVariables false

/-- Of so many nodes, from one on, those of a length. -/
def atL (L : List Nd) (v : Int) (a : Nat) : Nat → List Int
  | 0 => []
  | m + 1 => atL L v a m ++ (if ln L (a + m) = v then [((a + m : Nat) : Int)] else [])
theorem atL_add (L : List Nd) (v : Int) (a n : Nat) : ∀ m, atL L v a (n + m) = atL L v a n ++ atL L v (a + n) m
  | 0 => by simp [atL]
  | m + 1 => by
    have := atL_add L v a n m
    show atL L v a (n + m) ++ _ = atL L v a n ++ (atL L v (a + n) m ++ _)
    have e : a + n.add m = a + n + m := (Nat.add_assoc a n m).symm
    rw [this, e, List.append_assoc]
theorem atL_none (L : List Nd) (v : Int) (a : Nat) : ∀ m, (∀ i, a ≤ i → i < a + m → ln L i ≠ v) → atL L v a m = []
  | 0, _ => rfl
  | m + 1, h => by
    simp only [atL]
    rw [atL_none L v a m (fun i h1 h2 => h i h1 (by omega)), if_neg (h (a + m) (by omega) (by omega))]
    rfl
theorem atL_mem (L : List Nd) (v : Int) (a : Nat) : ∀ m (y : Int), y ∈ atL L v a m → ∃ i : Nat, y = (i : Int) ∧ a ≤ i ∧ i < a + m ∧ ln L i = v
  | 0, y, h => by simp [atL] at h
  | m + 1, y, h => by
    simp only [atL, List.mem_append] at h
    rcases h with h | h
    · obtain ⟨i, h1, h2, h3, h4⟩ := atL_mem L v a m y h
      exact ⟨i, h1, h2, by omega, h4⟩
    · split at h
      · simp only [List.mem_singleton] at h
        rename_i hv
        exact ⟨a + m, h, by omega, by omega, hv⟩
      · simp at h
section
variable {F : Int} {l : List Rte} {ws : List (BitVec 128)} {L : List Nd}
theorem Tre.dn (t : Tre l ws L) : ∀ (b i e : Nat), End L i e → dnL L b (i : Int) = atL L (ln L i + b) i (e - i)
  | 0, i, e, h => by
    have h1 := h.1
    have h3 := h.2.2.1
    have a := atL_add L (ln L i + ((0 : Nat) : Int)) i 1 (e - i - 1)
    rw [show 1 + (e - i - 1) = e - i by omega] at a
    rw [a, atL_none L _ (i + 1) (e - i - 1) (fun j q1 q2 => by have := h3 j (by omega) (by omega); omega)]
    simp [dnL, atL]
  | b + 1, i, e, h => by
    have hi : i < L.length := by have := h.1; have := h.2.1; omega
    have h1 := h.1
    obtain ⟨e', hE, hc, hh⟩ := t.node hi
    have ee := hE.one h
    subst ee
    obtain ⟨ka, kb, q⟩ := t.kidq h
    have a := atL_add L (ln L i + ((b + 1 : Nat) : Int)) i 1 (e' - i - 1)
    rw [show 1 + (e' - i - 1) = e' - i by omega] at a
    have a0 : atL L (ln L i + ((b + 1 : Nat) : Int)) i 1 = [] := atL_none L _ i 1 (fun j q1 q2 => by rw [show j = i by omega]; omega)
    simp only [dnL]
    rw [nd8_at hi, q.k0, q.k1]
    by_cases c : (nd8 L i).height < ((b + 1 : Nat) : Int)
    · rw [if_pos c]
      refine (atL_none L _ i (e' - i) (fun j q1 q2 => ?_)).symm
      have := topR_ge L i (e' - i) j q1 q2
      omega
    · rw [if_neg c, a, a0, List.nil_append]
      rcases q.ca with ha | ⟨ha, g1, g2, g3⟩
      · rw [if_pos ha, List.nil_append]
        rcases q.cb with hb | ⟨m, hb, m1, m2, m3, m4, m5, m6, m7⟩
        · have := q.lf ha hb
          subst this
          rw [if_pos hb, show i + 1 - i - 1 = 0 by omega]; rfl
        · have em := m6 ha
          subst em
          rw [if_neg (by omega), hb, t.dn b (i + 1) e' m5, m3, show e' - i - 1 = e' - (i + 1) by omega]
          congr 1; push_cast; omega
      · rw [if_neg (by omega), ha]
        rcases q.cb with hb | ⟨m, hb, m1, m2, m3, m4, m5, m6, m7⟩
        · rw [if_pos hb, List.append_nil, t.dn b (i + 1) e' (q.ea (by omega) hb), g2, show e' - i - 1 = e' - (i + 1) by omega]
          congr 1; push_cast; omega
        · have e1 := m7 (by omega)
          have em := e1.1
          have a2 := atL_add L (ln L i + ((b + 1 : Nat) : Int)) (i + 1) (m - (i + 1)) (e' - m)
          rw [show m - (i + 1) + (e' - m) = e' - i - 1 by omega, show i + 1 + (m - (i + 1)) = m by omega] at a2
          rw [if_neg (by omega), hb, a2, t.dn b (i + 1) m e1, t.dn b m e' m5, g2, m3]
          have e9 : ln L i + 1 + (b : Int) = ln L i + ((b + 1 : Nat) : Int) := by push_cast; omega
          rw [e9]
theorem Ctx.rt (c : Ctx F l ws L) {i : Nat} (h : i < L.length) : Rt F (pfA ws L i) (ln L i) := ⟨(c.lnF h).1, (c.lnF h).2, by unfold pfA; rw [cut_cut2 _ _ _ (c.lnF h).1 (Int.le_refl _)]⟩
/-- What lies within a node stands right behind it. -/
theorem Ctx.within (c : Ctx F l ws L) {n e j : Nat} (h : End L n e) (hj : j < L.length) : withinB (pfA ws L j) (ln L j) (pfA ws L n) (ln L n) = true ↔ n ≤ j ∧ j < e := by
  have hn : n < L.length := by have := h.1; have := h.2.1; omega
  rw [within_iff]
  constructor
  · intro ⟨q1, q2⟩
    have le : n ≤ j := by
      apply Classical.byContradiction; intro d
      have := c.t.lt (i := j) (j := n) (by omega) hn
      rw [pcmp_lt] at this
      have : (pfA ws L n).toNat ≤ (pfA ws L j).toNat := by rw [← q2, cut_nat]; exact Nat.div_mul_le_self _ _
      omega
    refine ⟨le, ?_⟩
    apply Classical.byContradiction; intro d
    have hel : e < L.length := by omega
    have l1 := h.2.2.2 hel
    have h1 := c.t.lt (i := n) (j := e) h.1 hel
    have h2 : pcmpZ (pfA ws L e) (ln L e) (pfA ws L j) (ln L j) ≤ 0 := by
      by_cases z : e = j
      · subst z
        rw [pcmp_le]; exact .inr ⟨rfl, Int.le_refl _⟩
      · have := c.t.lt (i := e) (j := j) (by omega) hj; omega
    have := between F _ _ _ _ _ _ (c.rt hn) (c.rt hel) (by omega) h2 ((within_iff _ _ _ _).mpr ⟨q1, q2⟩)
    rw [within_iff] at this
    have el : ln L e = ln L n := by omega
    have ep : pfA ws L e = pfA ws L n := by
      rw [← this.2, ← el]
      unfold pfA
      rw [cut_cut2 _ _ _ (c.lnF hel).1 (Int.le_refl _)]
    have := c.uniqP hel hn el ep
    have := h.1
    omega
  · intro ⟨q1, q2⟩
    have ll : ln L n ≤ ln L j := by
      by_cases z : n = j
      · rw [z]; exact Int.le_refl _
      · have := h.2.2.1 j (by omega) q2; omega
    refine ⟨ll, ?_⟩
    have := c.t.cut h j q1 q2
    unfold pfA
    rw [cut_cut _ _ _ (c.lnF hn).1 ll]; exact this
end
end Go.Proofs.Ytofpbommhklooaa
/-
  The document's lists tell what the tree's nodes tell.
-/
namespace Go.Proofs.Ytofpbommhklooaa
open Go.RowKit
set_option linter.unusedSimpArgs false
set_option linter.unusedVariables false

theorem bit_past (z : BitVec 128) (k : Int) (h0 : 0 ≤ k) (h1 : k < 128) : bitZ (cutW z k) k = 0 := by
  unfold bitZ
  rw [bitB_in _ k h0 (by omega)]
  unfold cutW
  rw [BitVec.getLsbD_and, maskW_bit k _ (by omega), decide_eq_false (by omega)]
  simp
theorem put_bit1 (x : BitVec 128) (k : Int) (h0 : 0 ≤ k) (h1 : k < 128) : bitZ (putW x k 1) k = 1 := by
  unfold bitZ
  rw [bitB_in _ k h0 (by omega), putW_bit x k 1 (.inr rfl) h0 (by omega) _ (by omega)]
  simp
theorem put_cut (x : BitVec 128) (k m : Int) (h0 : 0 ≤ k) (h1 : k < 128) (hm : m ≤ k) : cutW (putW x k 1) m = cutW x m := by
  unfold cutW
  apply BitVec.eq_of_getLsbD_eq
  intro j hj
  rw [BitVec.getLsbD_and, BitVec.getLsbD_and, putW_bit x k 1 (.inr rfl) h0 (by omega) j hj, maskW_bit m j hj]
  by_cases c : j = (127 - k).toNat
  · rw [decide_eq_false (show ¬ 128 - m.toNat ≤ j by omega)]; simp
  · rw [if_neg c]
theorem put_cut2 (x : BitVec 128) (k : Int) (h0 : 0 ≤ k) (h1 : k < 128) (hx : cutW x k = x) : cutW (putW x k 1) (k + 1) = putW x k 1 := by
  apply BitVec.eq_of_getLsbD_eq
  intro j hj
  rw [← hx]
  unfold cutW
  rw [BitVec.getLsbD_and, putW_bit _ k 1 (.inr rfl) h0 (by omega) j hj, maskW_bit (k + 1) j hj, BitVec.getLsbD_and, maskW_bit k j hj]
  by_cases c : j = (127 - k).toNat
  · rw [if_pos c, decide_eq_true (show 128 - (k + 1).toNat ≤ j by omega)]; simp
  · rw [if_neg c]
    by_cases d : 128 - k.toNat ≤ j
    · rw [decide_eq_true (show 128 - (k + 1).toNat ≤ j by omega)]; simp
    · rw [decide_eq_false d]; simp
section
variable {F : Int} {l : List Rte} {ws : List (BitVec 128)} {L : List Nd} {P : List (BitVec 128 × Int)} {Z : List Int}
theorem Dc.pf (d : Dc ws L P Z) {i : Nat} (h : i < L.length) : P[i]? = some (pfA ws L i, ln L i) := d.p i h
theorem Dc.inv (d : Dc ws L P Z) {i : Nat} {x : BitVec 128} {m : Int} (h : P[i]? = some (x, m)) : i < L.length ∧ x = pfA ws L i ∧ m = ln L i := by
  have hi : i < L.length := by rw [← d.pl]; exact (List.getElem?_eq_some_iff.mp h).1
  rw [d.pf hi] at h
  injection h with h
  injection h with h1 h2
  exact ⟨hi, h1.symm, h2.symm⟩
theorem Dc.srt (d : Dc ws L P Z) (t : Tre l ws L) : SrtP P := by
  intro i j x m y u hij hx hy
  obtain ⟨-, rfl, rfl⟩ := d.inv hx
  obtain ⟨hj, rfl, rfl⟩ := d.inv hy
  exact t.lt hij hj
theorem Dc.endP (d : Dc ws L P Z) (c : Ctx F l ws L) {n e : Nat} (h : End L n e) : EndP P n e := by
  refine ⟨h.1, by rw [d.pl]; exact h.2.1, fun k x m y u h1 h2 hx hy => ?_⟩
  obtain ⟨hk, rfl, rfl⟩ := d.inv hx
  obtain ⟨hn, rfl, rfl⟩ := d.inv hy
  have b := c.t.ln128 hn
  rw [within_eq _ _ _ _ b.1 b.2 (by unfold pfA; rw [cut_cut2 _ _ _ b.1 (Int.le_refl _)])]
  have := c.within h hk
  by_cases q : k < e
  · rw [decide_eq_true q]; exact this.mpr ⟨by omega, q⟩
  · rw [decide_eq_false q]
    cases hw : withinB (pfA ws L k) (ln L k) (pfA ws L n) (ln L n)
    · rfl
    · exact absurd (this.mp hw).2 q
/-- A kid's prefix: who bears it, stands below, by that bit. -/
theorem Ctx.kidP (c : Ctx F l ws L) {n e i : Nat} {x : BitVec 128} (h : End L n e) (hi : i < L.length) (hl : ln L i = ln L n + 1) (hx : cutW x (ln L n) = pfA ws L n) (hxx : pfA ws L i = x) : n < i ∧ i < e ∧ bitZ (ad ws L i) (ln L n) = bitZ x (ln L n) := by
  have hn : n < L.length := by have := h.1; have := h.2.1; omega
  have hw := (c.within h hi).mp ((within_iff _ _ _ _).mpr ⟨by omega, by rw [hxx, hx]⟩)
  have hne : n ≠ i := fun q => by subst q; omega
  refine ⟨by omega, hw.2, ?_⟩
  refine (c.t.step h (by omega) hw.2 hl (x := x) hx).mp ?_
  rw [← hxx]; exact c.inn hi
theorem Ctx.kidB (c : Ctx F l ws L) {n e m : Nat} {x : BitVec 128} (h : End L n e) (hm : n < m) (hme : m < e) (hl : ln L m = ln L n + 1) (hx : cutW x (ln L n) = pfA ws L n) (hxx : cutW x (ln L n + 1) = x) (hb : bitZ (ad ws L m) (ln L n) = bitZ x (ln L n)) : pfA ws L m = x := by
  have := (c.t.step h hm hme hl (x := x) hx).mpr hb
  unfold InN at this
  unfold pfA
  rw [← this, hl, hxx]
theorem Ctx.found (c : Ctx F l ws L) (d : Dc ws L P Z) {m : Nat} {x : BitVec 128} {k q : Int} (hm : m < L.length) (hl : ln L m = k) (hx : pfA ws L m = x) (h : FdR P x k q) : q = (m : Int) := by
  rcases h with ⟨i, rfl, hi⟩ | ⟨-, h⟩
  · obtain ⟨h1, h2, h3⟩ := d.inv hi
    rw [c.uniqP h1 hm (by rw [hl, h3]) (by rw [hx, h2])]
  · exact absurd (by rw [d.pf hm, hl, hx]) (h m)
theorem Ctx.lost (c : Ctx F l ws L) (d : Dc ws L P Z) {x : BitVec 128} {k q : Int} (hno : ∀ i, i < L.length → ln L i = k → pfA ws L i = x → False) (h : FdR P x k q) : q = -1 := by
  rcases h with ⟨i, rfl, hi⟩ | ⟨h, -⟩
  · obtain ⟨h1, h2, h3⟩ := d.inv hi
    exact (hno i h1 h3.symm h2.symm).elim
  · exact h
theorem Ctx.pcut (c : Ctx F l ws L) {n : Nat} (hn : n < L.length) : cutW (pfA ws L n) (ln L n) = pfA ws L n := by
  unfold pfA; rw [cut_cut2 _ _ _ (c.lnF hn).1 (Int.le_refl _)]
theorem Ctx.kid0 (c : Ctx F l ws L) (d : Dc ws L P Z) {n : Nat} {q : Int} (hn : n < L.length) (hF : ln L n < F) (h : FdR P (pfA ws L n) (ln L n + 1) q) : q = kidV L n 0 := by
  obtain ⟨e, hE, -, -⟩ := c.t.node hn
  obtain ⟨a, b, k⟩ := c.t.kidq hE
  have b0 := c.lnF hn
  have f1 := c.F0.2
  have hbit : bitZ (pfA ws L n) (ln L n) = 0 := bit_past _ _ b0.1 (by omega)
  rw [k.k0]
  rcases k.ca with ha | ⟨ha, h1, h2, h3⟩
  · rw [ha]
    refine c.lost d (fun i hi hl hx => ?_) h
    obtain ⟨q1, q2, q3⟩ := c.kidP hE hi hl (c.pcut hn) hx
    rw [hbit] at q3
    rcases k.cb with hb | ⟨m, hb, m1, m2, m3, m4, m5, m6, m7⟩
    · have := k.lf ha hb; omega
    · have := m6 ha
      by_cases z : i = m
      · subst z; omega
      · have := m5.2.2.1 i (by omega) q2; omega
  · rw [ha]
    have he := hE.2.1
    refine c.found d (by omega) h2 (c.kidB hE (by omega) h1 h2 (c.pcut hn) ?_ (by rw [h3, hbit])) h
    unfold pfA
    rw [cut_cut2 _ _ _ b0.1 (by omega)]
theorem Ctx.kid1 (c : Ctx F l ws L) (d : Dc ws L P Z) {n : Nat} {q : Int} (hn : n < L.length) (hF : ln L n < F) (h : FdR P (putW (pfA ws L n) (ln L n) 1) (ln L n + 1) q) : q = kidV L n 1 := by
  obtain ⟨e, hE, -, -⟩ := c.t.node hn
  obtain ⟨a, b, k⟩ := c.t.kidq hE
  have b0 := c.lnF hn
  have f1 := c.F0.2
  have hbit : bitZ (putW (pfA ws L n) (ln L n) 1) (ln L n) = 1 := put_bit1 _ _ b0.1 (by omega)
  have hc1 : cutW (putW (pfA ws L n) (ln L n) 1) (ln L n) = pfA ws L n := by rw [put_cut _ _ _ b0.1 (by omega) (Int.le_refl _), c.pcut hn]
  have hc2 := put_cut2 (pfA ws L n) (ln L n) b0.1 (by omega) (c.pcut hn)
  rw [k.k1]
  rcases k.cb with hb | ⟨m, hb, m1, m2, m3, m4, -, -, -⟩
  · rw [hb]
    refine c.lost d (fun i hi hl hx => ?_) h
    obtain ⟨q1, q2, q3⟩ := c.kidP hE hi hl hc1 hx
    rw [hbit] at q3
    rcases k.ca with ha | ⟨ha, h1, h2, h3⟩
    · have := k.lf ha hb; omega
    · have hz := k.ea (by omega) hb
      by_cases z : i = n + 1
      · subst z; omega
      · have := hz.2.2.1 i (by omega) q2; omega
  · rw [hb]
    have he := hE.2.1
    exact c.found d (by omega) m3 (c.kidB hE m1 m2 m3 hc1 hc2 (by rw [m4, hbit])) h
theorem Ctx.kidF (c : Ctx F l ws L) {n : Nat} (hn : n < L.length) (hF : F ≤ ln L n) : kidV L n 0 = -1 ∧ kidV L n 1 = -1 := by
  obtain ⟨e, hE, -, -⟩ := c.t.node hn
  obtain ⟨a, b, k⟩ := c.t.kidq hE
  have he := hE.2.1
  rw [k.k0, k.k1]
  constructor
  · rcases k.ca with ha | ⟨ha, h1, h2, h3⟩
    · exact ha
    · have := (c.lnF (i := n + 1) (by omega)).2; omega
  · rcases k.cb with hb | ⟨m, hb, m1, m2, m3, -⟩
    · exact hb
    · have := (c.lnF (i := m) (by omega)).2; omega
end
end Go.Proofs.Ytofpbommhklooaa
