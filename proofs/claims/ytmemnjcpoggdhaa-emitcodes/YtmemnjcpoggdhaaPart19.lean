/-
  Part 19 of the proof: 4 texts, one behind the other.
-/
import Derived.Test.YtmemnjcpoggdhaaPart3
import Derived.Test.YtmemnjcpoggdhaaPart14
import Derived.Test.YtmemnjcpoggdhaaPart11
import Derived.Test.YtmemnjcpoggdhaaPart4
import Derived.Test.YtmemnjcpoggdhaaPart1
import Derived.ProofKit
import Derived.Deep.Slices
import Derived.Deep.Strs
import Derived.Carry
import Derived.SizedLaws
import Derived.Lib.SmallJoins
namespace Go.Proofs.Ytmemnjcpoggdhaa
open Go.RowKit
set_option linter.unusedSimpArgs false
set_option linter.unusedVariables false
attribute [local go_sem] Oper.semAt_some

def fwN : List Nde → Nat
  | [] => 0
  | d :: L => 1 + d.r.length + fwN L
theorem fw_take (L : List Nde) (k : Nat) (h : k < L.length) : fwN (L.take (k + 1)) = fwN (L.take k) + 1 + L[k].r.length := by
  induction L generalizing k with
  | nil => simp at h
  | cons d L ih =>
    cases k with
    | zero => simp [fwN]
    | succ k =>
      simp only [List.take_succ_cons, fwN, List.getElem_cons_succ]
      rw [ih k (by simpa using h)]
      omega
theorem fw_mem {L : List Nde} {d : Nde} (h : d ∈ L) : d.r.length < fwN L := by
  induction L with
  | nil => cases h
  | cons e L ih =>
    rcases List.mem_cons.mp h with h | h
    · subst h; simp only [fwN]; omega
    · have := ih h; simp only [fwN]; omega
theorem fw_le {L : List Nde} {K : Nat} (hr : ∀ d ∈ L, d.r.length ≤ K) : ∀ k, fwN (L.take k) ≤ k * (K + 1)
  | 0 => by simp [fwN]
  | k + 1 => by
    have ih := fw_le hr k
    rw [Nat.succ_mul]
    by_cases h : k < L.length
    · rw [fw_take L k h]
      have := hr _ (List.getElem_mem h)
      omega
    · rw [List.take_of_length_le (by omega)]
      rw [List.take_of_length_le (by omega)] at ih
      omega
def fewB (L : List Nde) : Bool := decide (L.length < 500) && decide (fwN (L.take 500) < 5000)
theorem few_ok {L : List Nde} (h : fewB L = true) : L.length < 500 ∧ ∀ d ∈ L, d.r.length < 5000 := by
  unfold fewB at h
  simp only [Bool.and_eq_true, decide_eq_true_eq] at h
  rw [List.take_of_length_le (by omega)] at h
  exact ⟨h.1, fun d hd => by have := fw_mem hd; omega⟩
set_option maxRecDepth 20000 in
set_option maxHeartbeats 4000000 in
theorem few_any (v : Value) (L : List Nde) (w : World) (hv : RwD w v L) (hl : L.length ≤ 140737488355328) (hr : ∀ d ∈ L, d.r.length ≤ 140737488355328) :
    Calls Try.prog 10 #[v] w fun e w' => e = .returned (.bool (fewB L)) ∧ w' = w := by
  obtain ⟨ao, c, rfl, hc, hrow⟩ := hv
  have HC := hid13 hrow
  have HL : Hid (L.length ≤ 140737488355328 ∧ ∀ d ∈ L, d.r.length ≤ 140737488355328) := ⟨hl, hr⟩
  have hl' : (L.length : Int) ≤ 140737488355328 := by omega
  have HF : Hid (fewB L = (decide (L.length < 500) && decide (fwN (L.take 500) < 5000))) := rfl
  generalize fewB L = fb at *
  clear hr hrow hl
  go_enter Try.func10, Try.ntmps10
  go_wp2_with fail
  go_loopw [3, 4] (fun nv kv wr => ∃ k n : Nat, k ≤ L.length ∧ k ≤ 500 ∧ nv = .int .i64 n ∧ kv = .int .i64 k ∧ Hid (n = fwN (L.take k)) ∧ wr = w) (fun _ kv _ => L.length - (intOf kv).toNat)
  case atStart => exact ⟨0, 0, by omega, by omega, rfl, rfl, (rfl : 0 = fwN (L.take 0)), rfl⟩
  case round =>
    obtain ⟨k, n, hk, hk5, rfl, rfl, hN, rfl⟩ := hrel
    have hnb : n ≤ 70368744177664500 := by
      have h1 := fw_le HL.out.2 k
      rw [← hN.out] at h1
      have h2 := Nat.mul_le_mul_right (140737488355328 + 1) hk5
      exact Nat.le_trans h1 (Nat.le_trans h2 (by decide))
    by_cases hlt : (k : Int) < (L.length : Int)
    · by_cases h5 : (k : Int) < 500
      · have hks : k < L.length := by omega
        obtain ⟨b, off, rfl, hcell⟩ := HC.out.resolve_left (by rintro rfl; simp at hks)
        obtain ⟨vr, x0, x1, hR⟩ := hcell k _ (List.getElem?_eq_getElem hks)
        have hrk := HL.out.2 _ (List.getElem_mem hks)
        obtain ⟨vo, vc, hvr, -, -⟩ := hR
        subst hvr
        have ht := fw_take L k hks
        generalize L[k].r.length = m at *
        have m1 : wrap64 ((n : Int) + 1) = (n : Int) + 1 := by unfold wrap64; omega
        have m2 : wrap64 ((n : Int) + 1 + (m : Int)) = (n : Int) + 1 + (m : Int) := by unfold wrap64; omega
        have m3 : wrap64 ((k : Int) + 1) = (k : Int) + 1 := by unfold wrap64; omega
        clear hcell x0
        go_wp2
        go_roundw
        case rel => exact ⟨k + 1, n + 1 + m, by omega, by omega, by push_cast; rfl, by push_cast; rfl, (by rw [ht, ← hN.out] : n + 1 + m = fwN (L.take (k + 1))), trivial⟩
        case measure => first | (simp [intOf]; omega) | (unfold intOf; simp; omega)
      · have hl5 : ¬ (L.length : Int) < 500 := by omega
        have hfb : fb = false := by rw [HF.out]; simp; omega
        subst hfb
        clear HC
        go_wp2
        go_ret
        exact ⟨rfl, rfl⟩
    · have hke : k = L.length := by omega
      subst hke
      by_cases h5 : (L.length : Int) < 500
      · have h5' : L.length < 500 := by omega
        have hF2 := HF.out
        have hN2 := hN.out
        rw [List.take_of_length_le (Nat.le_refl _)] at hN2
        rw [List.take_of_length_le (Nat.le_of_lt h5'), ← hN2] at hF2
        by_cases hn : (n : Int) < 5000
        · have hfb : fb = true := by rw [hF2]; simp; omega
          subst hfb
          clear HC hF2 hN2 HF hN
          go_wp2
          go_ret
          exact ⟨rfl, rfl⟩
        · have hfb : fb = false := by rw [hF2]; simp; omega
          subst hfb
          clear HC hF2 hN2 HF hN
          go_wp2
          go_ret
          exact ⟨rfl, rfl⟩
      · have hfb : fb = false := by rw [HF.out]; simp; omega
        subst hfb
        clear HC
        go_wp2
        go_ret
        exact ⟨rfl, rfl⟩
end Go.Proofs.Ytmemnjcpoggdhaa
namespace Go.Proofs.Ytmemnjcpoggdhaa
open Go.RowKit Go.Shelf
set_option linter.unusedSimpArgs false
set_option linter.unusedVariables false
attribute [local go_sem] Oper.semAt_some

theorem wsum_le {L : List Nde} (hr : ∀ d ∈ L, d.r.length ≤ 1000000000) : ∀ (o : List Int), (∀ k ∈ o, (L.getD k.toNat ⟨0, []⟩).b ≤ 24) → wsum L o ≤ o.length * 1000524290
  | [], _ => by simp [wsum]
  | k :: o, h => by
    have ih := wsum_le hr o (fun j hj => h j (List.mem_cons_of_mem _ hj))
    have h1 : szN (L.getD k.toNat ⟨0, []⟩) ≤ 1000524290 := by
      refine sz_le (h k (List.mem_cons_self ..)) ?_
      rw [List.getD_eq_getElem?_getD]
      cases hk : L[k.toNat]? with
      | none => simp
      | some d => exact hr d (List.mem_of_getElem? hk)
    show szN _ + wsum L o ≤ (o.length + 1) * 1000524290
    omega
theorem lay_words {F : Int} {L : List Nde} (hl : L.length ≤ 1000000000) (hr : ∀ d ∈ L, d.r.length ≤ 1000000000) : (layR F L).1.2.2 ≤ 1000524290000000000 := by
  unfold layR
  split
  · rename_i h
    have ok := (chk_ok h).1
    split
    · rename_i P n hp
      have pl := pl_ok (ordL L) _ P 0 n (ord_ok ok).nd (fun k hk => by have := ord_in ok k hk; simp; omega) hp
      have h1 := wsum_le hr (ordL L) pl.bits
      have h2 := ord_len ok
      have h3 := pl.n
      dsimp only
      have : (ordL L).length * 1000524290 ≤ 1000000000 * 1000524290 := Nat.mul_le_mul_right _ (by omega)
      omega
    · simp
  · simp
def codE (F : Int) (L : List Nde) (most : Int) : Int := if (layR F L).2 = 0 then (if min most 4194304 < 4 * ((layR F L).1.2.2 : Int) then 18 else 0) else (layR F L).2
def codB (F : Int) (L : List Nde) (most : Int) : List Nat := if codE F L most = 0 then lyB L (layR F L).1.2.1 0 (layR F L).1.1 else []
theorem lay_zero {F : Int} {L : List Nde} (h : (layR F L).2 = 0) : NdsOk L ∧ (chkM F L).2 = 0 ∧ plG L (ordL L) (List.replicate L.length 0) 0 = some ((layR F L).1.2.1, (layR F L).1.2.2) ∧ (layR F L).1.1 = ordL L := by
  unfold layR at h ⊢
  by_cases hc : (chkM F L).2 = 0
  · rw [if_pos hc] at h ⊢
    cases hp : plG L (ordL L) (List.replicate L.length 0) 0 with
    | none => rw [hp] at h; cases h
    | some q =>
      obtain ⟨P, n⟩ := q
      exact ⟨(chk_ok hc).1, hc, rfl, rfl⟩
  · rw [if_neg hc] at h
    exact absurd h hc
set_option maxRecDepth 20000 in
set_option maxHeartbeats 8000000 in
theorem code_any (F : Int) (v : Value) (L : List Nde) (most : Int) (w : World) (hv : RwD w v L) (hl : L.length ≤ 1000000000) (hr : ∀ d ∈ L, d.r.length ≤ 1000000000) :
    Calls Try.prog 19 #[.int .i64 F, v, .int .i64 most] w fun e w' => ∃ v', e = .returned (.tuple #[v', .int .i64 (codE F L most)]) ∧ w'.ownsRow w.heap.size 5 1 v' (codB F L most).length ((codB F L most).map cB) ∧ Below w.heap.size w w' := by
  have KL := layoutOf_any F v L w hv hl hr
  have HLw := hid13 (lay_words (F := F) hl hr)
  have HLz := hid13 (fun h => lay_zero (F := F) (L := L) h)
  have HV := hid13 hv
  have HS : Hid (L.length ≤ 1000000000 ∧ ∀ d ∈ L, d.r.length ≤ 1000000000) := ⟨hl, hr⟩
  have HE : Hid (∀ R, layR F L = R → codE F L most = (if R.2 = 0 then (if min most 4194304 < 4 * (R.1.2.2 : Int) then 18 else 0) else R.2) ∧ codB F L most = if codE F L most = 0 then lyB L R.1.2.1 0 R.1.1 else []) := hid13 (fun R h => by subst h; exact ⟨rfl, rfl⟩)
  have mn := min_16 most 4194304
  obtain ⟨mm, hmm⟩ : ∃ mm, mm = min most 4194304 := ⟨_, rfl⟩
  rw [← hmm] at mn HE
  have HM : Hid (mm ≤ 4194304) := by show _ ≤ _; omega
  generalize codE F L most = cE at *
  generalize codB F L most = cB' at *
  generalize layR F L = R at *
  obtain ⟨⟨o, P, n⟩, e⟩ := R
  dsimp only at KL HLw HLz
  clear hv hr hl hmm
  go_enter Try.func19, Try.ntmps19
  go_wp2_with fail
  refine KL.mono ?_
  rintro e2 w2 ⟨vo, vp, rfl, ho, hp, hb⟩
  have HO := hid13 ho
  have HP := hid13 hp
  have HB := hid13 hb
  obtain ⟨oa, oc, hvo⟩ := own_form ho
  obtain ⟨pa, pc, hvp⟩ := own_form hp
  subst hvo hvp
  have q3 := bl1 w2 (.cells #[.slice oa o.length oc, .slice pa P.length pc, .int .i64 (n : Int)] 76)
  have HO3 := hid13 (own_b13 q3 HO.out)
  have HP3 := hid13 (own_b13 q3 HP.out)
  have HB3 := hid13 (keepb q3 HB.out)
  clear KL ho hp hb q3 HO HP
  by_cases h0 : e = 0
  · obtain ⟨ok, hck, hpl, hoo⟩ := HLz.out h0
    have hE := HE.out _ rfl
    dsimp only at hE
    rw [if_pos h0] at hE
    obtain ⟨b4, hb4⟩ : ∃ b4, b4 = (n : Int) * 4 := ⟨_, rfl⟩
    have m4' : wrap64 ((n : Int) * 4) = b4 := by unfold wrap64; have := HLw.out; omega
    have HH4 := hid13 hb4
    subst h0
    by_cases hc : mm < b4
    · have HE2 : Hid (cE = 18 ∧ cB' = []) := by
        have h1 : cE = 18 := by rw [hE.1, if_pos (by omega)]
        exact ⟨h1, by rw [hE.2, h1]; rfl⟩
      clear hE HE HLz hb4 ok hck hpl hoo
      go_wp2
      refine bodyPost_ret (v := .tuple #[.slice none 0 0, .int .i64 18]) (by simp [results, Try.results19, go_sem]) rfl ⟨_, by rw [HE2.out.1], ?_, HB3.out⟩
      rw [HE2.out.2]; exact World.ownsRow_nil _ _ _ _
    · have hn : n ≤ 1048576 := by have := HM.out; omega
      obtain ⟨hlo, hws⟩ := lay_ok ok hpl hn
      have HE2 : Hid (cE = 0 ∧ cB' = lyB L P 0 o) := by
        have h1 : cE = 0 := by rw [hE.1, if_neg (by omega)]
        exact ⟨h1, by rw [hE.2, if_pos h1]⟩
      rw [← hoo] at hlo hws
      have KY := lay_any w v (.slice oa o.length oc) (.slice pa P.length pc) L o P n _ HB3.out HV.out HO3.out HP3.out HS.out.1 HS.out.2 (by rw [hoo]; have := ord_len ok; have := HS.out.1; omega) hlo hws hn
      clear hE HE HLz hb4 ok hck hpl hoo hlo hws hn
      go_wp2_with fail
      refine KY.mono ?_
      rintro e3 w3 ⟨v', rfl, hO9, hB9⟩
      have HO9 := hid13 hO9
      have HB9 := hid13 hB9
      clear KY hO9 hB9
      go_wp2
      refine bodyPost_ret (v := .tuple #[v', .int .i64 0]) (by simp [results, Try.results19, go_sem]) rfl ⟨_, by rw [HE2.out.1], ?_, HB9.out⟩
      rw [HE2.out.2]; exact HO9.out
  · have hn : (e != 0) = true := by simpa using h0
    have HE2 : Hid (cE = e ∧ cB' = []) := by
      have hE := HE.out _ rfl
      dsimp only at hE
      rw [if_neg h0] at hE
      exact ⟨hE.1, by rw [hE.2, if_neg (by rw [hE.1]; exact h0)]⟩
    clear HE HLz
    go_wp2
    refine bodyPost_ret (v := .tuple #[.slice none 0 0, .int .i64 e]) (by simp [results, Try.results19, go_sem]) rfl ⟨_, by rw [HE2.out.1], ?_, HB3.out⟩
    rw [HE2.out.2]; exact World.ownsRow_nil _ _ _ _
end Go.Proofs.Ytmemnjcpoggdhaa
namespace Go.Proofs.Ytmemnjcpoggdhaa
open Go.RowKit Go.Shelf
set_option linter.unusedSimpArgs false
set_option linter.unusedVariables false
attribute [local go_sem] Oper.semAt_some

def knL : List Nde := [⟨1, [⟨0#128, false, 5⟩, ⟨1#128, false, 0⟩]⟩]
theorem kn_E : codE 32 knL 1000 = 0 := by decide +kernel
theorem kn_B : codB 32 knL 1000 = [1, 0, 0, 1, 2, 0, 0, 1, 192, 0, 0, 0, 4, 0, 0, 5, 4, 0, 0, 0] := by decide +kernel
set_option maxRecDepth 20000 in
set_option maxHeartbeats 8000000 in
theorem known16 (w : World) :
    Calls Try.prog 9 #[] w fun e w' => e = .returned (.bool true) ∧ Below w.heap.size w w' := by
  have hb1 : Below w.heap.size w ((w.alloc (.cells #[.int .u64 0, .int .u64 0, .bool false, .int .i64 5, .int .u64 0, .int .u64 1, .bool false, .int .i64 0] 68)).alloc (.cells #[.int .i64 1, .slice (some ⟨w.heap.size, 0, none⟩) 2 2] 71)) := bl2 w _ _
  have hI1 : hI 1#128 = 0 := by decide +kernel
  have lI1 : lI 1#128 = 1 := by decide +kernel
  have hv : RwD ((w.alloc (.cells #[.int .u64 0, .int .u64 0, .bool false, .int .i64 5, .int .u64 0, .int .u64 1, .bool false, .int .i64 0] 68)).alloc (.cells #[.int .i64 1, .slice (some ⟨w.heap.size, 0, none⟩) 2 2] 71)) (.slice (some ⟨w.heap.size + 1, 0, none⟩) 1 1) knL := by
    refine ⟨_, 1, rfl, Nat.le_refl _, .inr ⟨w.heap.size + 1, 0, rfl, fun j d hj => ?_⟩⟩
    cases j with
    | succ j => simp [knL] at hj
    | zero =>
      simp [knL] at hj
      subst hj
      refine ⟨.slice (some ⟨w.heap.size, 0, none⟩) 2 2, by simp [go_sem], by simp [go_sem], _, 2, rfl, Nat.le_refl _, .inr ⟨w.heap.size, 0, rfl, fun j r hj => ?_⟩⟩
      match j, hj with
      | 0, hj =>
        simp at hj
        subst hj
        unfold RnAt
        rw [hI_zero, lI_zero]
        refine ⟨?_, ?_, ?_, ?_⟩ <;> simp [go_sem]
      | 1, hj =>
        simp at hj
        subst hj
        unfold RnAt
        rw [hI1, lI1]
        refine ⟨?_, ?_, ?_, ?_⟩ <;> simp [go_sem]
      | j + 2, hj => simp at hj
  have KC := code_any 32 _ knL 1000 _ hv (by decide) (by decide)
  rw [kn_E, kn_B] at KC
  have HB1 := hid13 hb1
  clear hv hb1 hI1 lI1
  go_enter Try.func9, Try.ntmps9
  go_wp2_with fail
  refine KC.mono ?_
  rintro e w2 ⟨v', rfl, ho, hb⟩
  have HB2 := hid13 (keepb hb HB1.out)
  have hc := conv13 (l := [1, 0, 0, 1, 2, 0, 0, 1, 192, 0, 0, 0, 4, 0, 0, 5, 4, 0, 0, 0]) (own_rwx ho) (by decide)
  have hs : bsA [1, 0, 0, 1, 2, 0, 0, 1, 192, 0, 0, 0, 4, 0, 0, 5, 4, 0, 0, 0] = ⟨#[1, 0, 0, 1, 2, 0, 0, 1, 192, 0, 0, 0, 4, 0, 0, 5, 4, 0, 0, 0]⟩ := rfl
  rw [hs] at hc
  clear KC ho hb HB1
  go_wp2
  exact bodyPost_ret (v := .bool true) (by simp [results, Try.results9, go_sem]) rfl ⟨rfl, HB2.out⟩
end Go.Proofs.Ytmemnjcpoggdhaa
namespace Go.Proofs.Ytmemnjcpoggdhaa
open Go.ChangeShapes Go.WideShapes Go.ChangeAt Go.RowKit Go.Joins
set_option linter.unusedSimpArgs false
set_option linter.unusedVariables false

theorem Try.laidOut : laidOutB Try.prog = true := by kernel_rfl
theorem Try.cells16a : Try.prog.cellsOf 3 = 1 := by kernel_rfl
theorem Try.cells16b : Try.prog.cellsOf 4 = 1 := by kernel_rfl
theorem Try.cells16c : Try.prog.cellsOf 64 = 1 := by kernel_rfl
theorem Try.cells16d : Try.prog.cellsOf 66 = 2 := by kernel_rfl
theorem Try.cells16e : Try.prog.cellsOf 68 = 4 := by kernel_rfl
theorem Try.cells16f : Try.prog.cellsOf 69 = 1 := by kernel_rfl
theorem Try.cells16g : Try.prog.cellsOf 71 = 2 := by kernel_rfl
theorem i64_bd16 {a : Int} (h : (Lit.int .i64 a).wf = true) : -9223372036854775808 ≤ a ∧ a ≤ 9223372036854775807 := by
  simp [Lit.wf, IntKind.min, IntKind.max, IntKind.signed, IntKind.bits] at h; omega
theorem u64_bd16 {a : Int} (h : (Lit.int .u64 a).wf = true) : 0 ≤ a ∧ a < 18446744073709551616 := by
  simp [Lit.wf, IntKind.min, IntKind.max, IntKind.signed, IntKind.bits] at h; omega
theorem mk_word16 (a b : Int) (ha : 0 ≤ a ∧ a < 18446744073709551616) (hb : 0 ≤ b ∧ b < 18446744073709551616) : ∃ x : BitVec 128, hI x = a ∧ lI x = b := by
  refine ⟨BitVec.ofNat 128 (a.toNat * 18446744073709551616 + b.toNat), ?_, ?_⟩
  · rw [hIN, BitVec.toNat_ofNat]
    have : (2 : Nat) ^ 128 = 340282366920938463463374607431768211456 := by decide
    omega
  · rw [lIN, BitVec.toNat_ofNat]
    have : (2 : Nat) ^ 128 = 340282366920938463463374607431768211456 := by decide
    omega
section
variable {H : Type} {enc : TypeId × Value → H} {w : World} {spare : Nat → Bool} {held : Bool}
set_option maxRecDepth 100000 in
theorem trod_word16 {n : Nat} {c0 c1 : Value} {x : DataW H × List MemPlace} (h : DataW.trod enc Try.prog w 0 spare held n 66 [c0, c1] = some x) :
    ∃ a b : Int, c0 = .int .u64 a ∧ c1 = .int .u64 b ∧ (Lit.int .u64 a).wf = true ∧ (Lit.int .u64 b).wf = true := by
  obtain ⟨u0, u1, m, hu, _, g0, g1⟩ := trod_struct2 Try.underlying66 h
  have g0' : DataW.trod enc Try.prog w 0 spare held m 64 [c0] = some u0 := by simpa [Value.cells, Try.cells16c] using g0
  have g1' : DataW.trod enc Try.prog w 0 spare held m 64 [c1] = some u1 := by simpa [Value.cells, Try.cells16c] using g1
  obtain ⟨a, ea, rfl, wa⟩ := DataW.trod_int Try.underlying64 g0'
  obtain ⟨b, eb, rfl, wb⟩ := DataW.trod_int Try.underlying64 g1'
  simp at ea eb
  exact ⟨a, b, ea, eb, wa, wb⟩
set_option maxRecDepth 100000 in
theorem trod_run16 {n : Nat} {c0 c1 c2 c3 : Value} {x : DataW H × List MemPlace} (h : DataW.trod enc Try.prog w 0 spare held n 68 [c0, c1, c2, c3] = some x) :
    ∃ r : Rn, c0 = .int .u64 (hI r.f) ∧ c1 = .int .u64 (lI r.f) ∧ c2 = .bool r.k ∧ c3 = .int .i64 r.n ∧ -9223372036854775808 ≤ r.n ∧ r.n ≤ 9223372036854775807 := by
  obtain ⟨y0, y1, y2, m, hx, _, h0, h1, h2⟩ := Deep.trod_struct3 Try.underlying68 h
  have h0' : DataW.trod enc Try.prog w 0 spare held m 66 [c0, c1] = some y0 := by simpa [Value.cells, Try.cells16d, Try.cells16b, Try.cells16a] using h0
  have h1' : DataW.trod enc Try.prog w 0 spare held m 4 [c2] = some y1 := by simpa [Value.cells, Try.cells16d, Try.cells16b, Try.cells16a] using h1
  have h2' : DataW.trod enc Try.prog w 0 spare held m 3 [c3] = some y2 := by simpa [Value.cells, Try.cells16d, Try.cells16b, Try.cells16a] using h2
  obtain ⟨a, b, rfl, rfl, wa, wb⟩ := trod_word16 h0'
  obtain ⟨k, ek, -⟩ := DataW.trod_bool Try.underlying4 h1'
  obtain ⟨z, ez, -, wz⟩ := DataW.trod_int Try.underlying3 h2'
  simp at ek ez
  subst ek ez
  obtain ⟨f, e1, e2⟩ := mk_word16 a b (u64_bd16 wa) (u64_bd16 wb)
  have := i64_bd16 wz
  exact ⟨⟨f, k, z⟩, by rw [e1], by rw [e2], rfl, rfl, this.1, this.2⟩
def rowN (l : List Rn) : List Value := l.flatMap fun r => [.int .u64 (hI r.f), .int .u64 (lI r.f), .bool r.k, .int .i64 r.n]
theorem rowN_len (l : List Rn) : (rowN l).length = l.length * 4 := by
  unfold rowN
  induction l with
  | nil => rfl
  | cons r l ih => rw [List.flatMap_cons, List.length_append, ih]; simp; omega
theorem rowN_at : ∀ (l : List Rn) (j : Nat) (u : Value), (rowN l)[j]? = some u → ∃ r, l[j / 4]? = some r ∧ [Value.int .u64 (hI r.f), .int .u64 (lI r.f), .bool r.k, .int .i64 r.n][j % 4]? = some u
  | [], j, u, h => by simp [rowN] at h
  | r :: l, j, u, h => by
    by_cases hj : j < 4
    · refine ⟨r, by rw [Nat.div_eq_of_lt hj]; rfl, ?_⟩
      rw [Nat.mod_eq_of_lt hj]
      unfold rowN at h
      rw [List.flatMap_cons, List.getElem?_append_left (by simpa using hj)] at h
      exact h
    · obtain ⟨k, rfl⟩ : ∃ k, j = k + 4 := ⟨j - 4, by omega⟩
      unfold rowN at h
      rw [List.flatMap_cons, List.getElem?_append_right (by simp)] at h
      obtain ⟨r', h1, h2⟩ := rowN_at l k u (by simpa [rowN] using h)
      refine ⟨r', by rw [show (k + 4) / 4 = k / 4 + 1 by omega]; simpa using h1, by rw [show (k + 4) % 4 = k % 4 by omega]; exact h2⟩
def rlD (d : DataW H) (n : Nat) : Prop := n = 0 ∨ ∃ el sp, d = .slice el sp ∧ el.length = n
set_option maxRecDepth 100000 in
theorem trod_runs16 {fuel : Nat} {va : Value} {x : DataW H × List MemPlace} (hf : DataW.trod enc Try.prog w 0 (fun _ => true) held fuel 69 [va] = some x) :
    ∃ l : List Rn, RwN w va l ∧ RowA w 4 va l.length (rowN l) ∧ (∀ r ∈ l, -9223372036854775808 ≤ r.n ∧ r.n ≤ 9223372036854775807) ∧ rlD x.1 l.length := by
  rcases Deep.open_slice Try.underlying69 hf with ⟨hcs, hx⟩ | ⟨a, len', cap', m, n, D, Pl, hcs, _, hl, hm, hmm, hx, hel⟩
  · simp at hcs
    subst hcs
    exact ⟨[], ⟨none, 0, rfl, Nat.le_refl _, .inl rfl⟩, ⟨rfl, none, 0, rfl, Nat.le_refl _, .inl ⟨rfl, rfl, rfl⟩⟩, (fun _ h => by cases h), .inl rfl⟩
  · simp at hcs
    subst hcs
    simp at hmm
    subst hmm
    rw [Try.cells16e] at hel
    haveI : Inhabited Rn := ⟨⟨0#128, false, 0⟩⟩
    obtain ⟨f, hf⟩ := Deep.choose_lt (α := Rn) (n := len') (p := fun i r => (w.cell? (a.add (i * 4)) = some (.int .u64 (hI r.f)) ∧ w.cell? (a.add (i * 4 + 1)) = some (.int .u64 (lI r.f)) ∧ w.cell? (a.add (i * 4 + 2)) = some (.bool r.k) ∧ w.cell? (a.add (i * 4 + 3)) = some (.int .i64 r.n)) ∧ -9223372036854775808 ≤ r.n ∧ r.n ≤ 9223372036854775807) (fun i hi => by
      obtain ⟨cs', h1, h2⟩ := hel i (by omega)
      obtain ⟨_, hlen, hc⟩ := World.cells?_some h1
      match cs', hlen with
      | [c0, c1, c2, c3], _ =>
        obtain ⟨r, e0, e1, e2, e3, hb⟩ := trod_run16 h2
        subst e0 e1 e2 e3
        refine ⟨r, ⟨?_, ?_, ?_, ?_⟩, hb⟩
        · have := hc 0 (by simp); simpa [Deep.add_add] using this
        · have := hc 1 (by simp); simpa [Deep.add_add] using this
        · have := hc 2 (by simp); simpa [Deep.add_add] using this
        · have := hc 3 (by simp); simpa [Deep.add_add] using this)
    have hlen : ((List.range len').map f).length = len' := by simp
    have hget : ∀ j r, ((List.range len').map f)[j]? = some r → j < len' ∧ r = f j := by
      intro j r hj
      have hlt : j < len' := by have := (List.getElem?_eq_some_iff.1 hj).1; simpa using this
      rw [List.getElem?_map, List.getElem?_range hlt] at hj
      simp only [Option.map_some, Option.some.injEq] at hj
      exact ⟨hlt, hj.symm⟩
    refine ⟨(List.range len').map f, ⟨some a, m, by rw [hlen], by rw [hlen]; exact hl, ?_⟩, ⟨by rw [rowN_len], some a, m, by rw [hlen], by rw [hlen]; exact hl, .inr ⟨a, rfl, fun j u hj => ?_⟩⟩, ?_, ?_⟩
    · by_cases hz : len' = 0
      · subst hz
        exact .inl (by simp)
      · have h00 := (hf 0 (by omega)).1.1
        have ea : a = ⟨a.block, a.off, none⟩ := by
          have : a.add (0 * 4) = a := by simp [Addr.add]
          rw [this] at h00
          exact spot9 h00
        refine .inr ⟨a.block, a.off, by rw [← ea], fun j r hj => ?_⟩
        obtain ⟨hlt, rfl⟩ := hget j r hj
        obtain ⟨⟨g0, g1, g2, g3⟩, -⟩ := hf j hlt
        rw [ea, addA] at g0 g1 g2 g3
        exact ⟨g0, g1, g2, g3⟩
    · obtain ⟨r, h1, h2⟩ := rowN_at _ j u hj
      obtain ⟨hlt, rfl⟩ := hget _ r h1
      obtain ⟨⟨g0, g1, g2, g3⟩, -⟩ := hf _ hlt
      have hm4 : j % 4 = 0 ∨ j % 4 = 1 ∨ j % 4 = 2 ∨ j % 4 = 3 := by omega
      rcases hm4 with q | q | q | q <;> rw [q] at h2 <;> simp at h2 <;> subst h2
      · rwa [show j / 4 * 4 = j by omega] at g0
      · rwa [show j / 4 * 4 + 1 = j by omega] at g1
      · rwa [show j / 4 * 4 + 2 = j by omega] at g2
      · rwa [show j / 4 * 4 + 3 = j by omega] at g3
    · intro r hr
      obtain ⟨i, hi⟩ := List.getElem?_of_mem hr
      obtain ⟨hlt, rfl⟩ := hget i r hi
      exact (hf i hlt).2
    · rw [hx]
      exact .inr ⟨_, _, rfl, by simp⟩
structure NdIn (w : World) (b : Int) (v : Value) (l : List Rn) : Prop where
  r : RwN w v l
  a : RowA w 4 v l.length (rowN l)
  b : -9223372036854775808 ≤ b ∧ b ≤ 9223372036854775807
  n : ∀ r ∈ l, -9223372036854775808 ≤ r.n ∧ r.n ≤ 9223372036854775807
set_option maxRecDepth 100000 in
theorem trod_node16 {n : Nat} {c0 c1 : Value} {x : DataW H × List MemPlace} (h : DataW.trod enc Try.prog w 0 (fun _ => true) held n 71 [c0, c1] = some x) :
    ∃ (b : Int) (l : List Rn), c0 = .int .i64 b ∧ NdIn w b c1 l ∧ ∃ y0 y1, x.1 = .agg [y0, y1] ∧ rlD y1 l.length := by
  obtain ⟨y0, y1, m, hx, _, h0, h1⟩ := trod_struct2 Try.underlying71 h
  have h0' : DataW.trod enc Try.prog w 0 (fun _ => true) held m 3 [c0] = some y0 := by simpa [Value.cells, Try.cells16a, Try.cells16f] using h0
  have h1' : DataW.trod enc Try.prog w 0 (fun _ => true) held m 69 [c1] = some y1 := by simpa [Value.cells, Try.cells16a, Try.cells16f] using h1
  obtain ⟨z, ez, -, wz⟩ := DataW.trod_int Try.underlying3 h0'
  simp at ez
  subst ez
  obtain ⟨l, k1, k2, k3, k4⟩ := trod_runs16 h1'
  exact ⟨z, l, rfl, ⟨k1, k2, i64_bd16 wz, k3⟩, _, _, by rw [hx], k4⟩
structure NdsIn (w : World) (v : Value) (V : List Value) (L : List Nde) : Prop where
  d : RwD w v L
  l : V.length = L.length
  e : ∀ (j : Nat) (u : Value) (d : Nde), V[j]? = some u → L[j]? = some d → NdIn w d.b u d.r
  c : ∀ ao c, v = .slice ao L.length c → ∀ (j : Nat) (u : Value) (d : Nde), V[j]? = some u → L[j]? = some d → ∃ b off, ao = some ⟨b, off, none⟩ ∧ w.cell? ⟨b, off + j * 2, none⟩ = some (.int .i64 d.b) ∧ w.cell? ⟨b, off + j * 2 + 1, none⟩ = some u
set_option maxRecDepth 100000 in
theorem open_nodes16 {r : Reach} {b0 : Nat} {v : Value} {d : DataW H} {p : List MemPlace} (hv : Value.okWide Try.prog w r b0 22 v) (h : DataW.Trod enc Try.prog w 0 (fun _ => true) held 22 v d p) :
    ∃ (V : List Value) (L : List Nde), NdsIn w v V L ∧ rlD d L.length ∧ (∀ el sp, d = .slice el sp → ∀ (j : Nat) (d' : Nde), L[j]? = some d' → ∃ y0 y1, DataW.agg [y0, y1] ∈ el ∧ rlD y1 d'.r.length) := by
  obtain ⟨a0, len, cap, rfl⟩ := okWide_slice Try.underlying22 hv
  obtain ⟨fuel, hf⟩ := h
  rcases Deep.open_slice Try.underlying22 hf with ⟨hcs, hx⟩ | ⟨a, len', cap', m, n, D, Pl, hcs, _, hl, hm, hmm, hx, hel⟩
  · simp [Value.cells] at hcs
    obtain ⟨rfl, rfl, rfl⟩ := hcs
    exact ⟨[], [], ⟨⟨none, 0, rfl, Nat.le_refl _, .inl rfl⟩, rfl, fun j u d h => (by simp at h), fun ao c _ j u d h => (by simp at h)⟩, .inl rfl, fun el sp _ j d' h => (by simp at h)⟩
  · simp [Value.cells] at hcs
    obtain ⟨rfl, rfl, rfl⟩ := hcs
    simp at hmm
    subst hmm
    rw [Try.cells16g] at hel
    simp only [Prod.mk.injEq] at hx
    obtain ⟨hx1, -⟩ := hx
    haveI : Inhabited (Value × Nde) := ⟨(undef, ⟨0, []⟩)⟩
    obtain ⟨f, hf⟩ := Deep.choose_lt (α := Value × Nde) (n := len) (p := fun i x => (w.cell? (a.add (i * 2)) = some (.int .i64 x.2.b) ∧ w.cell? (a.add (i * 2 + 1)) = some x.1) ∧ NdIn w x.2.b x.1 x.2.r ∧ ∃ y0 y1, D i = .agg [y0, y1] ∧ rlD y1 x.2.r.length) (fun i hi => by
      obtain ⟨cs', h1, h2⟩ := hel i (by omega)
      obtain ⟨_, hlen, hc⟩ := World.cells?_some h1
      match cs', hlen with
      | [c0, c1], _ =>
        obtain ⟨b, l, rfl, hn, hd⟩ := trod_node16 h2
        refine ⟨(c1, ⟨b, l⟩), ⟨?_, ?_⟩, hn, hd⟩
        · have := hc 0 (by simp); simpa [Deep.add_add] using this
        · have := hc 1 (by simp); simpa [Deep.add_add] using this)
    have hget : ∀ {β : Type} (g : Value × Nde → β) (j : Nat) (y : β), ((List.range len).map fun i => g (f i))[j]? = some y → j < len ∧ y = g (f j) := by
      intro β g j y hj
      have hlt : j < len := by have := (List.getElem?_eq_some_iff.1 hj).1; simpa using this
      rw [List.getElem?_map, List.getElem?_range hlt] at hj
      simp only [Option.map_some, Option.some.injEq] at hj
      exact ⟨hlt, hj.symm⟩
    have hspot : 0 < len → a = ⟨a.block, a.off, none⟩ := fun hz => by
      have h00 := (hf 0 hz).1.1
      have : a.add (0 * 2) = a := by simp [Addr.add]
      rw [this] at h00
      exact spot9 h00
    refine ⟨(List.range len).map (fun i => (f i).1), (List.range len).map (fun i => (f i).2), ⟨⟨some a, m, by simp, by simpa using hl, ?_⟩, by simp, ?_, ?_⟩, ?_, ?_⟩
    · by_cases hz : len = 0
      · subst hz
        exact .inl (by simp)
      · have ea := hspot (by omega)
        refine .inr ⟨a.block, a.off, by rw [← ea], fun j d hj => ?_⟩
        obtain ⟨hlt, rfl⟩ := hget (·.2) j d hj
        obtain ⟨⟨g0, g1⟩, g2, -⟩ := hf j hlt
        rw [ea, addA] at g0 g1
        exact ⟨_, g0, g1, g2.r⟩
    · intro j u d hu hd
      obtain ⟨hlt, rfl⟩ := hget (·.1) j u hu
      obtain ⟨-, rfl⟩ := hget (·.2) j d hd
      exact (hf j hlt).2.1
    · intro ao c' hv' j u d hu hd
      obtain ⟨hlt, rfl⟩ := hget (·.1) j u hu
      obtain ⟨-, rfl⟩ := hget (·.2) j d hd
      have ea := hspot (by omega)
      obtain ⟨⟨g0, g1⟩, -⟩ := hf j hlt
      rw [ea, addA] at g0 g1
      injection hv' with e1
      exact ⟨a.block, a.off, by rw [← ea, e1], g0, g1⟩
    · exact .inr ⟨_, _, hx1, by simp⟩
    · intro el sp he j d' hd
      obtain ⟨hlt, rfl⟩ := hget (·.2) j d' hd
      obtain ⟨y0, y1, e1, e2⟩ := (hf j hlt).2.2
      rw [hx1] at he
      injection he with he
      refine ⟨y0, y1, ?_, e2⟩
      rw [← he, ← e1]
      exact List.mem_map.2 ⟨j, List.mem_range.2 hlt, rfl⟩
theorem weightsAll_mem16 {P : Program} {e : TypeId} {n : Nat} {d : DataW H} : ∀ {el : List (DataW H)}, d ∈ el → n ∈ d.weights P e → n ∈ DataW.weightsAll P e el
  | x :: el, hd, hn => by
    rcases List.mem_cons.1 hd with rfl | hd
    · simp [DataW.weightsAll, hn]
    · simp [DataW.weightsAll, weightsAll_mem16 hd hn]
theorem Try.bytes16a : Try.prog.bytesOf 68 = 32 := by kernel_rfl
theorem Try.bytes16b : Try.prog.bytesOf 71 = 32 := by kernel_rfl
theorem nodes_sized16 {ts : List TypeId} {ds : List (DataW H)} (h : (DataW.weightsEach Try.prog ts ds).all (· ≤ reachBytes) = true) {j : Nat} {d : DataW H} {L : List Nde} (ht : ts[j]? = some 22) (hd : ds[j]? = some d) (hl : rlD d L.length) (hel : ∀ el sp, d = .slice el sp → ∀ (j : Nat) (d' : Nde), L[j]? = some d' → ∃ y0 y1, DataW.agg [y0, y1] ∈ el ∧ rlD y1 d'.r.length) :
    L.length ≤ 140737488355328 ∧ ∀ d' ∈ L, d'.r.length ≤ 140737488355328 := by
  have hrb : reachBytes ≤ 140737488355328 := by
    have := reachBytes_lt
    have : (2 : Nat) ^ 47 = 140737488355328 := by decide
    omega
  rcases hl with hl | ⟨el, sp, rfl, hl⟩
  · have : L = [] := List.eq_nil_of_length_eq_zero hl
    subst this
    exact ⟨by simp, fun d' h => by cases h⟩
  · have hw : ∀ n ∈ DataW.weights Try.prog 22 (.slice el sp), n ≤ reachBytes := fun n hn => by
      have := List.all_eq_true.1 h _ (DataW.weights_mem_each ht hd n hn)
      simpa using this
    have hu : DataW.weights Try.prog 22 (.slice el sp) = (el.length + sp.length) * Try.prog.bytesOf 71 :: (DataW.weightsAll Try.prog 71 el ++ DataW.weightsAll Try.prog 71 sp) := by simp [DataW.weights, Try.underlying22]
    rw [hu, Try.bytes16b] at hw
    refine ⟨?_, fun d' hd' => ?_⟩
    · have := hw _ (List.mem_cons_self ..)
      have : el.length * 32 ≤ (el.length + sp.length) * 32 := Nat.mul_le_mul_right _ (by omega)
      omega
    · obtain ⟨i, hi⟩ := List.getElem?_of_mem hd'
      obtain ⟨y0, y1, hm, hr⟩ := hel el sp rfl i d' hi
      rcases hr with hr | ⟨el2, sp2, rfl, hr⟩
      · omega
      · have hn : (el2.length + sp2.length) * Try.prog.bytesOf 68 ∈ DataW.weights Try.prog 71 (.agg [y0, .slice el2 sp2]) := by
          simp [DataW.weights, DataW.weightsEach, Try.underlying71, Try.underlying69]
        have := hw _ (List.mem_cons_of_mem _ (List.mem_append_left _ (weightsAll_mem16 hm hn)))
        rw [Try.bytes16a] at this
        have : el2.length * 32 ≤ (el2.length + sp2.length) * 32 := Nat.mul_le_mul_right _ (by omega)
        omega
end
end Go.Proofs.Ytmemnjcpoggdhaa
