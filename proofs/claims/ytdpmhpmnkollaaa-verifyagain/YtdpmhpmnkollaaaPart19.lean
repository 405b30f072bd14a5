/-
  Part 19 of the proof: 5 texts, one behind the other.
-/
import Derived.Test.YtdpmhpmnkollaaaPart18
import Derived.Test.YtdpmhpmnkollaaaPart1
import Derived.Test.YtdpmhpmnkollaaaPart17
import Derived.ProofKit
import Derived.Deep.Slices
import Derived.Deep.Strs
import Derived.Carry
import Derived.SizedLaws
import Derived.Lib.SmallJoins
import Derived.Deep.RegionHeld3
import Derived.Deep.AppendLies
import Derived.Laws.AppendOwnNone
namespace Go.Proofs.Ytdpmhpmnkollaaa
set_option linter.unusedSimpArgs false
set_option linter.unusedVariables false

theorem cmp_neg {x y : BitVec 128} : cmpZ x y < 0 ↔ x.toNat < y.toNat := by
  unfold cmpZ
  by_cases h : x.toNat < y.toNat
  · rw [if_pos h]; simp [h]
  · rw [if_neg h]
    constructor
    · intro q; split at q <;> omega
    · intro q; exact absurd q h
theorem adj_rise : ∀ (l : List Rn), adjG l = true → ∀ (i j : Nat) (a b : Rn), i < j → l[i]? = some a → l[j]? = some b → a.f.toNat < b.f.toNat
  | [], _, i, j, a, b, _, ha, _ => by simp at ha
  | [x], _, i, j, a, b, hij, ha, hb => by
    cases j with
    | zero => omega
    | succ j => simp at hb
  | x :: y :: t, h, i, j, a, b, hij, ha, hb => by
    unfold adjG at h
    simp only [Bool.and_eq_true, decide_eq_true_eq] at h
    have hxy := cmp_neg.1 h.1.1
    cases j with
    | zero => omega
    | succ j =>
      have hb' : (y :: t)[j]? = some b := by simpa using hb
      cases i with
      | zero =>
        simp at ha
        subst ha
        cases j with
        | zero => simp at hb'; subst hb'; exact hxy
        | succ j =>
          have := adj_rise (y :: t) h.2 0 (j + 1) y b (by omega) rfl hb'
          omega
      | succ i => exact adj_rise (y :: t) h.2 i j a b (by omega) (by simpa using ha) hb'
structure IoOk (d : Nde) : Prop where
  ne : d.r ≠ []
  z : ∀ r, d.r[0]? = some r → r.f = 0#128
  rise : ∀ (i j : Nat) (a b : Rn), i < j → d.r[i]? = some a → d.r[j]? = some b → a.f.toNat < b.f.toNat
  lt : ∀ r ∈ d.r, r.f.toNat < 2 ^ d.b.toNat
theorem io_ok {d : Nde} (h : ioB d = true) : IoOk d := by
  obtain ⟨b, l⟩ := d
  have hne : l ≠ [] := by rintro rfl; rw [io_nil] at h; cases h
  have hp := List.length_pos_iff.mpr hne
  rw [io_one b l hne] at h
  simp only [Bool.and_eq_true, beq_iff_eq] at h
  obtain ⟨h1, h2, h3⟩ := h
  have hr := adj_rise l h2
  have hlast : (l[l.length - 1]'(by omega)).f.toNat < 2 ^ b.toNat := by
    have e := congrArg BitVec.toNat h3
    rw [BitVec.toNat_ushiftRight, Nat.shiftRight_eq_div_pow] at e
    have e0 : (0#128).toNat = 0 := rfl
    rw [e0] at e
    rcases Nat.div_eq_zero_iff.mp e with q | q
    · have : (0 : Nat) < 2 ^ b.toNat := Nat.two_pow_pos _
      omega
    · exact q
  refine ⟨hne, fun r hr0 => ?_, hr, fun r hrm => ?_⟩
  · dsimp only at hr0
    rw [List.getElem?_eq_getElem hp] at hr0
    cases hr0
    exact h1
  · dsimp only at hrm ⊢
    obtain ⟨i, hi⟩ := List.getElem?_of_mem hrm
    have hil := (List.getElem?_eq_some_iff.mp hi).1
    by_cases hc : i = l.length - 1
    · subst hc
      rw [List.getElem?_eq_getElem hil] at hi
      cases hi
      exact hlast
    · have := hr i (l.length - 1) r _ (by omega) hi (List.getElem?_eq_getElem (by omega))
      omega
theorem io_zero {d : Nde} (h : IoOk d) (hb : d.b = 0) : d.r.length = 1 := by
  have hp := List.length_pos_iff.mpr h.ne
  by_cases hc : d.r.length = 1
  · exact hc
  · have h1 : 1 < d.r.length := by omega
    have := h.rise 0 1 _ _ (by omega) (List.getElem?_eq_getElem hp) (List.getElem?_eq_getElem h1)
    have h2 := h.lt _ (List.getElem_mem h1)
    rw [hb] at h2
    simp at h2
    omega
theorem stM_head (m : List (BitVec 32)) (s : Nat) (hm : m ≠ []) (i : Nat) (hi : i < 32) : ((stM16 m s).headD 0#32).getLsbD i = ((m.headD 0#32).getLsbD i || decide (s + i = 31)) := by
  obtain ⟨x, t, rfl⟩ := List.exists_cons_of_ne_nil hm
  unfold stM16
  by_cases hs : s / 32 = 0
  · rw [hs]
    have h2 : s < 32 := by omega
    simp only [List.set_cons_zero, List.headD_cons, List.getD_cons_zero]
    rw [BitVec.getLsbD_or, BitVec.getLsbD_shiftLeft, Nat.mod_eq_of_lt h2]
    have e1 : (1#32).getLsbD (i - (31 - s)) = decide (i - (31 - s) = 0) := by
      cases hh : i - (31 - s) with
      | zero => rfl
      | succ k =>
        have : (1#32).getLsbD (k + 1) = false := by
          rw [BitVec.getLsbD_ofNat]
          have : Nat.testBit 1 (k + 1) = false := by
            cases hq : Nat.testBit 1 (k + 1) with
            | false => rfl
            | true => exact absurd (Nat.testBit_one_eq_true_iff_self_eq_zero.mp hq) (by omega)
          rw [this]; simp
        rw [this]; simp
    rw [e1]
    congr 1
    by_cases c : s + i = 31
    · rw [decide_eq_true c, decide_eq_true hi, decide_eq_false (by omega : ¬ i < 31 - s), decide_eq_true (by omega : i - (31 - s) = 0)]; rfl
    · rw [decide_eq_false c]
      by_cases c2 : i < 31 - s
      · rw [decide_eq_true c2]; simp
      · rw [decide_eq_false (by omega : ¬ i - (31 - s) = 0)]; simp
  · obtain ⟨k, hk⟩ : ∃ k, s / 32 = k + 1 := ⟨s / 32 - 1, by omega⟩
    rw [hk]
    simp only [List.set_cons_succ, List.headD_cons]
    rw [decide_eq_false (by omega : ¬ s + i = 31), Bool.or_false]
theorem map_head : ∀ (l : List Rn) (m : List (BitVec 32)) (hm : m ≠ []) (i : Nat) (hi : i < 32), ((l.foldl (fun m r => stM16 m r.f.toNat) m).headD 0#32).getLsbD i = ((m.headD 0#32).getLsbD i || l.any fun r => decide (r.f.toNat + i = 31))
  | [], m, hm, i, hi => by simp
  | r :: l, m, hm, i, hi => by
    rw [List.foldl_cons, map_head l (stM16 m r.f.toNat) (by intro e; have := congrArg List.length e; rw [stM_len] at this; exact hm (List.eq_nil_of_length_eq_zero this)) i hi, stM_head m _ hm i hi, List.any_cons, Bool.or_assoc]
theorem map_ok {d : Nde} (h : IoOk d) (n : Nat) (hn : d.b = (n : Int)) (h1 : n ≤ 24) : isMapB (mapL n d.r) n = true := by
  have hrep : List.replicate (mwN n) (0#32) ≠ [] := by
    intro e
    have := congrArg List.length e
    simp at this
    have := mwN_lo n
    omega
  have hb : ∀ i, i < 32 → ((mapL n d.r).headD 0#32).getLsbD i = d.r.any fun r => decide (r.f.toNat + i = 31) := by
    intro i hi
    unfold mapL
    rw [map_head d.r _ hrep i hi]
    obtain ⟨k, hk⟩ : ∃ k, mwN n = k + 1 := ⟨mwN n - 1, by have := mwN_lo n; omega⟩
    rw [hk, List.replicate_succ]
    simp
  unfold isMapB
  rw [decide_eq_true (mapL_len n d.r), Bool.true_and]
  unfold topB
  have hp := List.length_pos_iff.mpr h.ne
  rw [Bool.and_eq_true, beq_iff_eq]
  constructor
  · rw [hb 31 (by omega)]
    rw [List.any_eq_true]
    refine ⟨d.r[0], List.getElem_mem hp, ?_⟩
    have := h.z _ (List.getElem?_eq_getElem hp)
    rw [this]; decide
  · apply BitVec.eq_of_getLsbD_eq
    intro i hi
    rw [BitVec.getLsbD_shiftLeft]
    by_cases c : i < 2 ^ n
    · rw [decide_eq_true c]; simp
    · rw [hb (i - 2 ^ n) (Nat.lt_of_le_of_lt (Nat.sub_le _ _) hi)]
      have hlt : ∀ r ∈ d.r, r.f.toNat < 2 ^ n := fun r hr => by have := h.lt r hr; rwa [hn, Int.toNat_natCast] at this
      generalize 2 ^ n = p at *
      have : (d.r.any fun r => decide (r.f.toNat + (i - p) = 31)) = false := by
        rw [List.any_eq_false]
        intro r hr
        have := hlt r hr
        simp only [decide_eq_true_eq]
        omega
      rw [this]; simp
structure PlOk (L : List Nde) (o P0 P : List Int) (n0 n : Nat) : Prop where
  n : n = n0 + wsum L o
  len : P.length = P0.length
  out : ∀ j : Nat, (j : Int) ∉ o → P[j]? = P0[j]?
  at' : ∀ A k B, o = A ++ k :: B → P[k.toNat]? = some ((n0 + wsum L A : Nat) : Int)
  bits : ∀ k ∈ o, (L.getD k.toNat ⟨0, []⟩).b ≤ 24
theorem pl_ok {L : List Nde} : ∀ (o P0 P : List Int) (n0 n : Nat), o.Nodup → (∀ k ∈ o, 0 ≤ k ∧ k.toNat < P0.length) → plG L o P0 n0 = some (P, n) → PlOk L o P0 P n0 n
  | [], P0, P, n0, n, _, _, h => by
    unfold plG at h
    cases h
    exact ⟨rfl, rfl, fun _ _ => rfl, fun A k B e => by simp at e, fun k hk => by cases hk⟩
  | k :: o, P0, P, n0, n, hnd, hin, h => by
    unfold plG at h
    by_cases hb : (L.getD k.toNat ⟨0, []⟩).b ≤ 24
    · rw [if_pos hb] at h
      obtain ⟨hk1, hk2⟩ := List.nodup_cons.mp hnd
      have ih := pl_ok o (P0.set k.toNat (n0 : Int)) P _ n hk2 (fun j hj => by rw [List.length_set]; exact hin j (List.mem_cons_of_mem _ hj)) h
      have h0 := hin k (List.mem_cons_self ..)
      refine ⟨by rw [ih.n]; show _ = n0 + (szN _ + wsum L o); omega, by rw [ih.len]; simp, fun j hj => ?_, fun A x B e => ?_, fun j hj => ?_⟩
      · rw [ih.out j (fun q => hj (List.mem_cons_of_mem _ q)), List.getElem?_set_ne]
        intro q
        apply hj
        rw [show (j : Int) = k by omega]
        exact List.mem_cons_self ..
      · cases A with
        | nil =>
          simp at e
          obtain ⟨e1, e2⟩ := e
          subst e1 e2
          rw [ih.out k.toNat (fun q => hk1 (by rwa [show ((k.toNat : Nat) : Int) = k by omega] at q)), List.getElem?_set_self h0.2]
          rfl
        | cons a A =>
          simp at e
          obtain ⟨e1, e2⟩ := e
          subst e1
          rw [ih.at' A x B e2]
          show some (((n0 + szN _ + wsum L A : Nat)) : Int) = some (((n0 + (szN _ + wsum L A) : Nat)) : Int)
          rw [Nat.add_assoc]
      · rcases List.mem_cons.mp hj with rfl | q
        · exact hb
        · exact ih.bits j q
    · rw [if_neg hb] at h; cases h
theorem wsum_app (L : List Nde) : ∀ (A B : List Int), wsum L (A ++ B) = wsum L A + wsum L B
  | [], B => by simp [wsum]
  | a :: A, B => by show szN _ + wsum L (A ++ B) = szN _ + wsum L A + wsum L B; rw [wsum_app L A B]; omega
theorem sz_pos (d : Nde) : 1 ≤ szN d := by unfold szN; split <;> omega
theorem nd_lay {L : List Nde} {P : List Int} {A B : List Int} {k : Nat} {d : Nde} {n : Nat} (ok : NdsOk L) (ho : OrdOk L (A ++ (k : Int) :: B)) (hd : L[k]? = some d) (hp : PlOk L (A ++ (k : Int) :: B) (List.replicate L.length 0) P 0 n) (hn : n ≤ 1048576) : NdLay P (wsum L A) d := by
  have nd := ok.2 k d hd
  have io := io_ok nd.io
  have hb : d.b ≤ 24 := by
    have := hp.bits (k : Int) (by simp)
    rw [Int.toNat_natCast, List.getD_eq_getElem?_getD, hd] at this
    exact this
  have hsz : L.getD (k : Int).toNat ⟨0, []⟩ = d := by rw [Int.toNat_natCast, List.getD_eq_getElem?_getD, hd]; rfl
  have htot : n = wsum L A + (szN d + wsum L B) := by
    rw [hp.n, Nat.zero_add, wsum_app]
    show _ + (szN (L.getD (k : Int).toNat ⟨0, []⟩) + wsum L B) = _
    rw [hsz]
  refine ⟨nd.b0, hb, io.lt, fun hz => ?_, ?_, fun hz => io_zero io hz⟩
  · obtain ⟨nb, hnb⟩ : ∃ nb : Nat, d.b = (nb : Int) := ⟨d.b.toNat, by have := nd.b0; omega⟩
    have h1 := nd.b0
    constructor
    · rw [chk_plain (by decide) (by unfold kLo kHi; simp; omega) (by decide)]; rfl
    · rw [chk_map (by decide) (by unfold kLo kHi; simp; omega) rfl, hnb, Int.toNat_natCast, map_ok io nb hnb (by omega)]; rfl
  · intro j r hr
    have hrm := List.mem_of_getElem? hr
    have hjl : j < d.r.length := (List.getElem?_eq_some_iff.mp hr).1
    have hpos : (if d.b = 0 then wsum L A else wsum L A + 2 + mwN d.b.toNat) + j < wsum L A + szN d := by
      by_cases hz : d.b = 0
      · rw [if_pos hz]
        have := io_zero io hz
        have := sz_pos d
        omega
      · rw [if_neg hz]
        unfold szN
        rw [if_neg hz]
        omega
    generalize (if d.b = 0 then wsum L A else wsum L A + 2 + mwN d.b.toNat) + j = p at *
    unfold rnO rnI
    cases hk : r.k with
    | false =>
      have := nd.hop r hrm hk
      refine ⟨?_, fun q => by cases q⟩
      simp only [Bool.false_eq_true, if_false]
      rw [chk_plain (by decide) (by unfold kLo kHi; simp; omega) (by decide)]; rfl
    | true =>
      obtain ⟨a1, a2, a3⟩ := ok.lead hd hrm hk
      have hin := ho.kid A (k : Int) B rfl d r (by rw [Int.toNat_natCast]; exact hd) hrm hk
      obtain ⟨B1, B2, hB⟩ := List.append_of_mem hin
      have hat := hp.at' (A ++ (k : Int) :: B1) r.n B2 (by rw [hB]; simp)
      rw [Nat.zero_add, wsum_app] at hat
      have hs1 : wsum L ((k : Int) :: B1) = szN d + wsum L B1 := by
        show szN (L.getD (k : Int).toNat ⟨0, []⟩) + wsum L B1 = _
        rw [hsz]
      rw [hs1] at hat
      have hs2 : wsum L B = wsum L B1 + (szN (L.getD r.n.toNat ⟨0, []⟩) + wsum L B2) := by rw [hB, wsum_app]; rfl
      have hs3 := sz_pos (L.getD r.n.toNat ⟨0, []⟩)
      simp only [if_true]
      rw [List.getD_eq_getElem?_getD, hat]
      refine ⟨?_, fun _ => ⟨r.n.toNat, _, a3, hat, by omega, by omega⟩⟩
      simp only [Option.getD_some]
      rw [chk_plain (by decide) (by unfold kLo kHi; simp; omega) (by decide)]; rfl
theorem lay_ok {L : List Nde} {P : List Int} {n : Nat} (ok : NdsOk L) (hp : plG L (ordL L) (List.replicate L.length 0) 0 = some (P, n)) (hn : n ≤ 1048576) : LayOk L P 0 (ordL L) ∧ wsum L (ordL L) = n := by
  have ho := ord_ok ok
  have hin := ord_in ok
  have pl := pl_ok (ordL L) _ P 0 n ho.nd (fun k hk => by have := hin k hk; simp; omega) hp
  refine ⟨?_, by have := pl.n; omega⟩
  generalize ordL L = o at *
  have key : ∀ (B A : List Int), o = A ++ B → LayOk L P (wsum L A) B := by
    intro B
    induction B with
    | nil => intro A _; trivial
    | cons x B ih =>
      intro A hA
      have hx := hin x (by rw [hA]; simp)
      obtain ⟨k, rfl⟩ : ∃ k : Nat, x = (k : Int) := ⟨x.toNat, by omega⟩
      obtain ⟨d, hd⟩ : ∃ d, L[k]? = some d := ⟨L[k]'(by omega), List.getElem?_eq_getElem _⟩
      subst hA
      refine ⟨⟨d, by rw [Int.toNat_natCast]; exact hd, by omega, nd_lay ok ho hd pl hn⟩, ?_⟩
      have := ih (A ++ [(k : Int)]) (by simp)
      rw [wsum_app] at this
      have e : wsum L [(k : Int)] = szN (L.getD (k : Int).toNat ⟨0, []⟩) := by show szN _ + 0 = _; omega
      rw [e] at this
      exact this
  exact key o [] rfl
end Go.Proofs.Ytdpmhpmnkollaaa
namespace Go.Proofs.Ytdpmhpmnkollaaa
open Go.RowKit Go.Shelf
set_option linter.unusedSimpArgs false
set_option linter.unusedVariables false
attribute [local go_sem] Oper.semAt_some

theorem wsum_le {L : List Nde} (hr : ∀ d ∈ L, d.r.length ≤ 1000000000) : ∀ (o : List Int), (∀ k ∈ o, (L.getD k.toNat ⟨0, []⟩).b ≤ 24) → wsum L o ≤ o.length * 1000524290
  | [], _ => by simp [wsum]
  | k :: o, h => by
    have ih := wsum_le hr o (fun j hj => h j (List.mem_cons_of_mem _ hj))
    have h1 : szN (L.getD k.toNat ⟨0, []⟩) ≤ 1000524290 := by
      refine sz_le (h k (List.mem_cons_self ..)) ?_
      rw [List.getD_eq_getElem?_getD]
      cases hk : L[k.toNat]? with
      | none => simp
      | some d => exact hr d (List.mem_of_getElem? hk)
    show szN _ + wsum L o ≤ (o.length + 1) * 1000524290
    omega
theorem lay_words {F : Int} {L : List Nde} (hl : L.length ≤ 1000000000) (hr : ∀ d ∈ L, d.r.length ≤ 1000000000) : (layR F L).1.2.2 ≤ 1000524290000000000 := by
  unfold layR
  split
  · rename_i h
    have ok := (chk_ok h).1
    split
    · rename_i P n hp
      have pl := pl_ok (ordL L) _ P 0 n (ord_ok ok).nd (fun k hk => by have := ord_in ok k hk; simp; omega) hp
      have h1 := wsum_le hr (ordL L) pl.bits
      have h2 := ord_len ok
      have h3 := pl.n
      dsimp only
      have : (ordL L).length * 1000524290 ≤ 1000000000 * 1000524290 := Nat.mul_le_mul_right _ (by omega)
      omega
    · simp
  · simp
def codE (F : Int) (L : List Nde) (most : Int) : Int := if (layR F L).2 = 0 then (if min most 4194304 < 4 * ((layR F L).1.2.2 : Int) then 18 else 0) else (layR F L).2
def codB (F : Int) (L : List Nde) (most : Int) : List Nat := if codE F L most = 0 then lyB L (layR F L).1.2.1 0 (layR F L).1.1 else []
theorem lay_zero {F : Int} {L : List Nde} (h : (layR F L).2 = 0) : NdsOk L ∧ (chkM F L).2 = 0 ∧ plG L (ordL L) (List.replicate L.length 0) 0 = some ((layR F L).1.2.1, (layR F L).1.2.2) ∧ (layR F L).1.1 = ordL L := by
  unfold layR at h ⊢
  by_cases hc : (chkM F L).2 = 0
  · rw [if_pos hc] at h ⊢
    cases hp : plG L (ordL L) (List.replicate L.length 0) 0 with
    | none => rw [hp] at h; cases h
    | some q =>
      obtain ⟨P, n⟩ := q
      exact ⟨(chk_ok hc).1, hc, rfl, rfl⟩
  · rw [if_neg hc] at h
    exact absurd h hc
end Go.Proofs.Ytdpmhpmnkollaaa
namespace Go.Proofs.Ytdpmhpmnkollaaa
open Go.RowKit Go.Shelf
set_option linter.unusedSimpArgs false
set_option linter.unusedVariables false
attribute [local go_sem] Oper.semAt_some

end Go.Proofs.Ytdpmhpmnkollaaa
namespace Go.Proofs.Ytdpmhpmnkollaaa
open Go.ChangeShapes Go.WideShapes Go.ChangeAt Go.RowKit Go.Joins
set_option linter.unusedSimpArgs false
set_option linter.unusedVariables false

theorem Try.laidOut16 : laidOutB Try.prog = true := by kernel_rfl
theorem Try.cells16a : Try.prog.cellsOf 3 = 1 := by kernel_rfl
theorem Try.cells16b : Try.prog.cellsOf 4 = 1 := by kernel_rfl
theorem Try.cells16c : Try.prog.cellsOf 46 = 1 := by kernel_rfl
theorem Try.cells16d : Try.prog.cellsOf 48 = 2 := by kernel_rfl
theorem Try.cells16e : Try.prog.cellsOf 50 = 4 := by kernel_rfl
theorem Try.cells16f : Try.prog.cellsOf 51 = 1 := by kernel_rfl
theorem Try.cells16g : Try.prog.cellsOf 53 = 2 := by kernel_rfl
theorem i64_bd16 {a : Int} (h : (Lit.int .i64 a).wf = true) : -9223372036854775808 ≤ a ∧ a ≤ 9223372036854775807 := by
  simp [Lit.wf, IntKind.min, IntKind.max, IntKind.signed, IntKind.bits] at h; omega
theorem u64_bd16 {a : Int} (h : (Lit.int .u64 a).wf = true) : 0 ≤ a ∧ a < 18446744073709551616 := by
  simp [Lit.wf, IntKind.min, IntKind.max, IntKind.signed, IntKind.bits] at h; omega
theorem mk_word16 (a b : Int) (ha : 0 ≤ a ∧ a < 18446744073709551616) (hb : 0 ≤ b ∧ b < 18446744073709551616) : ∃ x : BitVec 128, hI x = a ∧ lI x = b := by
  refine ⟨BitVec.ofNat 128 (a.toNat * 18446744073709551616 + b.toNat), ?_, ?_⟩
  · rw [hIN, BitVec.toNat_ofNat]
    have : (2 : Nat) ^ 128 = 340282366920938463463374607431768211456 := by decide
    omega
  · rw [lIN, BitVec.toNat_ofNat]
    have : (2 : Nat) ^ 128 = 340282366920938463463374607431768211456 := by decide
    omega
section
variable {H : Type} {enc : TypeId × Value → H} {w : World} {spare : Nat → Bool} {held : Bool}
set_option maxRecDepth 100000 in
theorem trod_word16 {n : Nat} {c0 c1 : Value} {x : DataW H × List MemPlace} (h : DataW.trod enc Try.prog w 0 spare held n 48 [c0, c1] = some x) :
    ∃ a b : Int, c0 = .int .u64 a ∧ c1 = .int .u64 b ∧ (Lit.int .u64 a).wf = true ∧ (Lit.int .u64 b).wf = true := by
  obtain ⟨u0, u1, m, hu, _, g0, g1⟩ := trod_struct2 Try.underlying48 h
  have g0' : DataW.trod enc Try.prog w 0 spare held m 46 [c0] = some u0 := by simpa [Value.cells, Try.cells16c] using g0
  have g1' : DataW.trod enc Try.prog w 0 spare held m 46 [c1] = some u1 := by simpa [Value.cells, Try.cells16c] using g1
  obtain ⟨a, ea, rfl, wa⟩ := DataW.trod_int Try.underlying46 g0'
  obtain ⟨b, eb, rfl, wb⟩ := DataW.trod_int Try.underlying46 g1'
  simp at ea eb
  exact ⟨a, b, ea, eb, wa, wb⟩
set_option maxRecDepth 100000 in
theorem trod_run16 {n : Nat} {c0 c1 c2 c3 : Value} {x : DataW H × List MemPlace} (h : DataW.trod enc Try.prog w 0 spare held n 50 [c0, c1, c2, c3] = some x) :
    ∃ r : Rn, c0 = .int .u64 (hI r.f) ∧ c1 = .int .u64 (lI r.f) ∧ c2 = .bool r.k ∧ c3 = .int .i64 r.n ∧ -9223372036854775808 ≤ r.n ∧ r.n ≤ 9223372036854775807 := by
  obtain ⟨y0, y1, y2, m, hx, _, h0, h1, h2⟩ := Deep.trod_struct3 Try.underlying50 h
  have h0' : DataW.trod enc Try.prog w 0 spare held m 48 [c0, c1] = some y0 := by simpa [Value.cells, Try.cells16d, Try.cells16b, Try.cells16a] using h0
  have h1' : DataW.trod enc Try.prog w 0 spare held m 4 [c2] = some y1 := by simpa [Value.cells, Try.cells16d, Try.cells16b, Try.cells16a] using h1
  have h2' : DataW.trod enc Try.prog w 0 spare held m 3 [c3] = some y2 := by simpa [Value.cells, Try.cells16d, Try.cells16b, Try.cells16a] using h2
  obtain ⟨a, b, rfl, rfl, wa, wb⟩ := trod_word16 h0'
  obtain ⟨k, ek, -⟩ := DataW.trod_bool Try.underlying4 h1'
  obtain ⟨z, ez, -, wz⟩ := DataW.trod_int Try.underlying3 h2'
  simp at ek ez
  subst ek ez
  obtain ⟨f, e1, e2⟩ := mk_word16 a b (u64_bd16 wa) (u64_bd16 wb)
  have := i64_bd16 wz
  exact ⟨⟨f, k, z⟩, by rw [e1], by rw [e2], rfl, rfl, this.1, this.2⟩
def rowN (l : List Rn) : List Value := l.flatMap fun r => [.int .u64 (hI r.f), .int .u64 (lI r.f), .bool r.k, .int .i64 r.n]
theorem rowN_len (l : List Rn) : (rowN l).length = l.length * 4 := by
  unfold rowN
  induction l with
  | nil => rfl
  | cons r l ih => rw [List.flatMap_cons, List.length_append, ih]; simp; omega
theorem rowN_at : ∀ (l : List Rn) (j : Nat) (u : Value), (rowN l)[j]? = some u → ∃ r, l[j / 4]? = some r ∧ [Value.int .u64 (hI r.f), .int .u64 (lI r.f), .bool r.k, .int .i64 r.n][j % 4]? = some u
  | [], j, u, h => by simp [rowN] at h
  | r :: l, j, u, h => by
    by_cases hj : j < 4
    · refine ⟨r, by rw [Nat.div_eq_of_lt hj]; rfl, ?_⟩
      rw [Nat.mod_eq_of_lt hj]
      unfold rowN at h
      rw [List.flatMap_cons, List.getElem?_append_left (by simpa using hj)] at h
      exact h
    · obtain ⟨k, rfl⟩ : ∃ k, j = k + 4 := ⟨j - 4, by omega⟩
      unfold rowN at h
      rw [List.flatMap_cons, List.getElem?_append_right (by simp)] at h
      obtain ⟨r', h1, h2⟩ := rowN_at l k u (by simpa [rowN] using h)
      refine ⟨r', by rw [show (k + 4) / 4 = k / 4 + 1 by omega]; simpa using h1, by rw [show (k + 4) % 4 = k % 4 by omega]; exact h2⟩
def rlD (d : DataW H) (n : Nat) : Prop := n = 0 ∨ ∃ el sp, d = .slice el sp ∧ el.length = n
set_option maxRecDepth 100000 in
theorem trod_runs16 {fuel : Nat} {va : Value} {x : DataW H × List MemPlace} (hf : DataW.trod enc Try.prog w 0 (fun _ => true) held fuel 51 [va] = some x) :
    ∃ l : List Rn, RwN w va l ∧ RowA w 4 va l.length (rowN l) ∧ (∀ r ∈ l, -9223372036854775808 ≤ r.n ∧ r.n ≤ 9223372036854775807) ∧ rlD x.1 l.length := by
  rcases Deep.open_slice Try.underlying51 hf with ⟨hcs, hx⟩ | ⟨a, len', cap', m, n, D, Pl, hcs, _, hl, hm, hmm, hx, hel⟩
  · simp at hcs
    subst hcs
    exact ⟨[], ⟨none, 0, rfl, Nat.le_refl _, .inl rfl⟩, ⟨rfl, none, 0, rfl, Nat.le_refl _, .inl ⟨rfl, rfl, rfl⟩⟩, (fun _ h => by cases h), .inl rfl⟩
  · simp at hcs
    subst hcs
    simp at hmm
    subst hmm
    rw [Try.cells16e] at hel
    haveI : Inhabited Rn := ⟨⟨0#128, false, 0⟩⟩
    obtain ⟨f, hf⟩ := Deep.choose_lt (α := Rn) (n := len') (p := fun i r => (w.cell? (a.add (i * 4)) = some (.int .u64 (hI r.f)) ∧ w.cell? (a.add (i * 4 + 1)) = some (.int .u64 (lI r.f)) ∧ w.cell? (a.add (i * 4 + 2)) = some (.bool r.k) ∧ w.cell? (a.add (i * 4 + 3)) = some (.int .i64 r.n)) ∧ -9223372036854775808 ≤ r.n ∧ r.n ≤ 9223372036854775807) (fun i hi => by
      obtain ⟨cs', h1, h2⟩ := hel i (by omega)
      obtain ⟨_, hlen, hc⟩ := World.cells?_some h1
      match cs', hlen with
      | [c0, c1, c2, c3], _ =>
        obtain ⟨r, e0, e1, e2, e3, hb⟩ := trod_run16 h2
        subst e0 e1 e2 e3
        refine ⟨r, ⟨?_, ?_, ?_, ?_⟩, hb⟩
        · have := hc 0 (by simp); simpa [Deep.add_add] using this
        · have := hc 1 (by simp); simpa [Deep.add_add] using this
        · have := hc 2 (by simp); simpa [Deep.add_add] using this
        · have := hc 3 (by simp); simpa [Deep.add_add] using this)
    have hlen : ((List.range len').map f).length = len' := by simp
    have hget : ∀ j r, ((List.range len').map f)[j]? = some r → j < len' ∧ r = f j := by
      intro j r hj
      have hlt : j < len' := by have := (List.getElem?_eq_some_iff.1 hj).1; simpa using this
      rw [List.getElem?_map, List.getElem?_range hlt] at hj
      simp only [Option.map_some, Option.some.injEq] at hj
      exact ⟨hlt, hj.symm⟩
    refine ⟨(List.range len').map f, ⟨some a, m, by rw [hlen], by rw [hlen]; exact hl, ?_⟩, ⟨by rw [rowN_len], some a, m, by rw [hlen], by rw [hlen]; exact hl, .inr ⟨a, rfl, fun j u hj => ?_⟩⟩, ?_, ?_⟩
    · by_cases hz : len' = 0
      · subst hz
        exact .inl (by simp)
      · have h00 := (hf 0 (by omega)).1.1
        have ea : a = ⟨a.block, a.off, none⟩ := by
          have : a.add (0 * 4) = a := by simp [Addr.add]
          rw [this] at h00
          exact spot9 h00
        refine .inr ⟨a.block, a.off, by rw [← ea], fun j r hj => ?_⟩
        obtain ⟨hlt, rfl⟩ := hget j r hj
        obtain ⟨⟨g0, g1, g2, g3⟩, -⟩ := hf j hlt
        rw [ea, addA] at g0 g1 g2 g3
        exact ⟨g0, g1, g2, g3⟩
    · obtain ⟨r, h1, h2⟩ := rowN_at _ j u hj
      obtain ⟨hlt, rfl⟩ := hget _ r h1
      obtain ⟨⟨g0, g1, g2, g3⟩, -⟩ := hf _ hlt
      have hm4 : j % 4 = 0 ∨ j % 4 = 1 ∨ j % 4 = 2 ∨ j % 4 = 3 := by omega
      rcases hm4 with q | q | q | q <;> rw [q] at h2 <;> simp at h2 <;> subst h2
      · rwa [show j / 4 * 4 = j by omega] at g0
      · rwa [show j / 4 * 4 + 1 = j by omega] at g1
      · rwa [show j / 4 * 4 + 2 = j by omega] at g2
      · rwa [show j / 4 * 4 + 3 = j by omega] at g3
    · intro r hr
      obtain ⟨i, hi⟩ := List.getElem?_of_mem hr
      obtain ⟨hlt, rfl⟩ := hget i r hi
      exact (hf i hlt).2
    · rw [hx]
      exact .inr ⟨_, _, rfl, by simp⟩
structure NdIn (w : World) (b : Int) (v : Value) (l : List Rn) : Prop where
  r : RwN w v l
  a : RowA w 4 v l.length (rowN l)
  b : -9223372036854775808 ≤ b ∧ b ≤ 9223372036854775807
  n : ∀ r ∈ l, -9223372036854775808 ≤ r.n ∧ r.n ≤ 9223372036854775807
set_option maxRecDepth 100000 in
theorem trod_node16 {n : Nat} {c0 c1 : Value} {x : DataW H × List MemPlace} (h : DataW.trod enc Try.prog w 0 (fun _ => true) held n 53 [c0, c1] = some x) :
    ∃ (b : Int) (l : List Rn), c0 = .int .i64 b ∧ NdIn w b c1 l ∧ ∃ y0 y1, x.1 = .agg [y0, y1] ∧ rlD y1 l.length := by
  obtain ⟨y0, y1, m, hx, _, h0, h1⟩ := trod_struct2 Try.underlying53 h
  have h0' : DataW.trod enc Try.prog w 0 (fun _ => true) held m 3 [c0] = some y0 := by simpa [Value.cells, Try.cells16a, Try.cells16f] using h0
  have h1' : DataW.trod enc Try.prog w 0 (fun _ => true) held m 51 [c1] = some y1 := by simpa [Value.cells, Try.cells16a, Try.cells16f] using h1
  obtain ⟨z, ez, -, wz⟩ := DataW.trod_int Try.underlying3 h0'
  simp at ez
  subst ez
  obtain ⟨l, k1, k2, k3, k4⟩ := trod_runs16 h1'
  exact ⟨z, l, rfl, ⟨k1, k2, i64_bd16 wz, k3⟩, _, _, by rw [hx], k4⟩
structure NdsIn (w : World) (v : Value) (V : List Value) (L : List Nde) : Prop where
  d : RwD w v L
  l : V.length = L.length
  e : ∀ (j : Nat) (u : Value) (d : Nde), V[j]? = some u → L[j]? = some d → NdIn w d.b u d.r
  c : ∀ ao c, v = .slice ao L.length c → ∀ (j : Nat) (u : Value) (d : Nde), V[j]? = some u → L[j]? = some d → ∃ b off, ao = some ⟨b, off, none⟩ ∧ w.cell? ⟨b, off + j * 2, none⟩ = some (.int .i64 d.b) ∧ w.cell? ⟨b, off + j * 2 + 1, none⟩ = some u
set_option maxRecDepth 100000 in
theorem open_nodes16 {r : Reach} {b0 : Nat} {v : Value} {d : DataW H} {p : List MemPlace} (hv : Value.okWide Try.prog w r b0 22 v) (h : DataW.Trod enc Try.prog w 0 (fun _ => true) held 22 v d p) :
    ∃ (V : List Value) (L : List Nde), NdsIn w v V L ∧ rlD d L.length ∧ (∀ el sp, d = .slice el sp → ∀ (j : Nat) (d' : Nde), L[j]? = some d' → ∃ y0 y1, DataW.agg [y0, y1] ∈ el ∧ rlD y1 d'.r.length) := by
  obtain ⟨a0, len, cap, rfl⟩ := okWide_slice Try.underlying22 hv
  obtain ⟨fuel, hf⟩ := h
  rcases Deep.open_slice Try.underlying22 hf with ⟨hcs, hx⟩ | ⟨a, len', cap', m, n, D, Pl, hcs, _, hl, hm, hmm, hx, hel⟩
  · simp [Value.cells] at hcs
    obtain ⟨rfl, rfl, rfl⟩ := hcs
    exact ⟨[], [], ⟨⟨none, 0, rfl, Nat.le_refl _, .inl rfl⟩, rfl, fun j u d h => (by simp at h), fun ao c _ j u d h => (by simp at h)⟩, .inl rfl, fun el sp _ j d' h => (by simp at h)⟩
  · simp [Value.cells] at hcs
    obtain ⟨rfl, rfl, rfl⟩ := hcs
    simp at hmm
    subst hmm
    rw [Try.cells16g] at hel
    simp only [Prod.mk.injEq] at hx
    obtain ⟨hx1, -⟩ := hx
    haveI : Inhabited (Value × Nde) := ⟨(undef, ⟨0, []⟩)⟩
    obtain ⟨f, hf⟩ := Deep.choose_lt (α := Value × Nde) (n := len) (p := fun i x => (w.cell? (a.add (i * 2)) = some (.int .i64 x.2.b) ∧ w.cell? (a.add (i * 2 + 1)) = some x.1) ∧ NdIn w x.2.b x.1 x.2.r ∧ ∃ y0 y1, D i = .agg [y0, y1] ∧ rlD y1 x.2.r.length) (fun i hi => by
      obtain ⟨cs', h1, h2⟩ := hel i (by omega)
      obtain ⟨_, hlen, hc⟩ := World.cells?_some h1
      match cs', hlen with
      | [c0, c1], _ =>
        obtain ⟨b, l, rfl, hn, hd⟩ := trod_node16 h2
        refine ⟨(c1, ⟨b, l⟩), ⟨?_, ?_⟩, hn, hd⟩
        · have := hc 0 (by simp); simpa [Deep.add_add] using this
        · have := hc 1 (by simp); simpa [Deep.add_add] using this)
    have hget : ∀ {β : Type} (g : Value × Nde → β) (j : Nat) (y : β), ((List.range len).map fun i => g (f i))[j]? = some y → j < len ∧ y = g (f j) := by
      intro β g j y hj
      have hlt : j < len := by have := (List.getElem?_eq_some_iff.1 hj).1; simpa using this
      rw [List.getElem?_map, List.getElem?_range hlt] at hj
      simp only [Option.map_some, Option.some.injEq] at hj
      exact ⟨hlt, hj.symm⟩
    have hspot : 0 < len → a = ⟨a.block, a.off, none⟩ := fun hz => by
      have h00 := (hf 0 hz).1.1
      have : a.add (0 * 2) = a := by simp [Addr.add]
      rw [this] at h00
      exact spot9 h00
    refine ⟨(List.range len).map (fun i => (f i).1), (List.range len).map (fun i => (f i).2), ⟨⟨some a, m, by simp, by simpa using hl, ?_⟩, by simp, ?_, ?_⟩, ?_, ?_⟩
    · by_cases hz : len = 0
      · subst hz
        exact .inl (by simp)
      · have ea := hspot (by omega)
        refine .inr ⟨a.block, a.off, by rw [← ea], fun j d hj => ?_⟩
        obtain ⟨hlt, rfl⟩ := hget (·.2) j d hj
        obtain ⟨⟨g0, g1⟩, g2, -⟩ := hf j hlt
        rw [ea, addA] at g0 g1
        exact ⟨_, g0, g1, g2.r⟩
    · intro j u d hu hd
      obtain ⟨hlt, rfl⟩ := hget (·.1) j u hu
      obtain ⟨-, rfl⟩ := hget (·.2) j d hd
      exact (hf j hlt).2.1
    · intro ao c' hv' j u d hu hd
      obtain ⟨hlt, rfl⟩ := hget (·.1) j u hu
      obtain ⟨-, rfl⟩ := hget (·.2) j d hd
      have ea := hspot (by omega)
      obtain ⟨⟨g0, g1⟩, -⟩ := hf j hlt
      rw [ea, addA] at g0 g1
      injection hv' with e1
      exact ⟨a.block, a.off, by rw [← ea, e1], g0, g1⟩
    · exact .inr ⟨_, _, hx1, by simp⟩
    · intro el sp he j d' hd
      obtain ⟨hlt, rfl⟩ := hget (·.2) j d' hd
      obtain ⟨y0, y1, e1, e2⟩ := (hf j hlt).2.2
      rw [hx1] at he
      injection he with he
      refine ⟨y0, y1, ?_, e2⟩
      rw [← he, ← e1]
      exact List.mem_map.2 ⟨j, List.mem_range.2 hlt, rfl⟩
theorem weightsAll_mem16 {P : Program} {e : TypeId} {n : Nat} {d : DataW H} : ∀ {el : List (DataW H)}, d ∈ el → n ∈ d.weights P e → n ∈ DataW.weightsAll P e el
  | x :: el, hd, hn => by
    rcases List.mem_cons.1 hd with rfl | hd
    · simp [DataW.weightsAll, hn]
    · simp [DataW.weightsAll, weightsAll_mem16 hd hn]
theorem Try.bytes16a : Try.prog.bytesOf 50 = 32 := by kernel_rfl
theorem Try.bytes16b : Try.prog.bytesOf 53 = 32 := by kernel_rfl
theorem nodes_sized16 {ts : List TypeId} {ds : List (DataW H)} (h : (DataW.weightsEach Try.prog ts ds).all (· ≤ reachBytes) = true) {j : Nat} {d : DataW H} {L : List Nde} (ht : ts[j]? = some 22) (hd : ds[j]? = some d) (hl : rlD d L.length) (hel : ∀ el sp, d = .slice el sp → ∀ (j : Nat) (d' : Nde), L[j]? = some d' → ∃ y0 y1, DataW.agg [y0, y1] ∈ el ∧ rlD y1 d'.r.length) :
    L.length ≤ 140737488355328 ∧ ∀ d' ∈ L, d'.r.length ≤ 140737488355328 := by
  have hrb : reachBytes ≤ 140737488355328 := by
    have := reachBytes_lt
    have : (2 : Nat) ^ 47 = 140737488355328 := by decide
    omega
  rcases hl with hl | ⟨el, sp, rfl, hl⟩
  · have : L = [] := List.eq_nil_of_length_eq_zero hl
    subst this
    exact ⟨by simp, fun d' h => by cases h⟩
  · have hw : ∀ n ∈ DataW.weights Try.prog 22 (.slice el sp), n ≤ reachBytes := fun n hn => by
      have := List.all_eq_true.1 h _ (DataW.weights_mem_each ht hd n hn)
      simpa using this
    have hu : DataW.weights Try.prog 22 (.slice el sp) = (el.length + sp.length) * Try.prog.bytesOf 53 :: (DataW.weightsAll Try.prog 53 el ++ DataW.weightsAll Try.prog 53 sp) := by simp [DataW.weights, Try.underlying22]
    rw [hu, Try.bytes16b] at hw
    refine ⟨?_, fun d' hd' => ?_⟩
    · have := hw _ (List.mem_cons_self ..)
      have : el.length * 32 ≤ (el.length + sp.length) * 32 := Nat.mul_le_mul_right _ (by omega)
      omega
    · obtain ⟨i, hi⟩ := List.getElem?_of_mem hd'
      obtain ⟨y0, y1, hm, hr⟩ := hel el sp rfl i d' hi
      rcases hr with hr | ⟨el2, sp2, rfl, hr⟩
      · omega
      · have hn : (el2.length + sp2.length) * Try.prog.bytesOf 50 ∈ DataW.weights Try.prog 53 (.agg [y0, .slice el2 sp2]) := by
          simp [DataW.weights, DataW.weightsEach, Try.underlying53, Try.underlying51]
        have := hw _ (List.mem_cons_of_mem _ (List.mem_append_left _ (weightsAll_mem16 hm hn)))
        rw [Try.bytes16a] at this
        have : el2.length * 32 ≤ (el2.length + sp2.length) * 32 := Nat.mul_le_mul_right _ (by omega)
        omega
end
end Go.Proofs.Ytdpmhpmnkollaaa
namespace Go.Proofs.Ytdpmhpmnkollaaa
open Go.RowKit
set_option linter.unusedSimpArgs false
set_option linter.unusedVariables false
attribute [local go_sem] Oper.semAt_some

theorem step_append_rowA16 {P : Program} {w : World} {ops : Array Oper} {o : Oper} {a : Act} {K : Act → World → Prop} {Q : Exit → Act → World → Prop} {E : Prop} (hgd : o.guard = none) (s x : Operand) (t : TypeId)
    (ho : o.op = .call { callee := .builtin .append, args := #[s, x], argTypes := #[t, t] })
    (base : Nat) (e : TypeId) (i : TypeInfo) (z : Value) (size bytes : Nat) (ht : P.underlying t = some (.slice e)) (hi : P.info? e = some i) (hz : i.zero = some z)
    (hsize : i.size = size) (hby : i.bytes = bytes) (hzs : z.cells.size = size) (hsz : 0 < size)
    (v : Value) (n : Nat) (xs : List Value) (hs : a.eval s = v) (hown : w.ownsRow base e size v n xs)
    (vx : Value) (m : Nat) (news : List Value) (hx : a.eval x = vx) (hsrc : RowA w size vx m news) (h1 : ∀ y ∈ news, y.oneCell' = true)
    (h63 : n + m ≤ maxLen) (hbytes : (n + m) * bytes ≤ 140737488355328) (hbase : base ≤ w.heap.size)
    (h : ∀ ao cap w', w'.ownsRow base e size (.slice ao (n + m) cap) (n + m) (xs ++ news) → w.grownBy w' v.ownBlock → K (a.put o.dst (.slice ao (n + m) cap)) w') :
    if Region.wanted o (yielded ops a.tmps) = true then Oper.wp P o a w K Q else E := by
  have hw : Region.wanted o (yielded ops a.tmps) = true := by simp [Region.wanted, hgd]
  rw [if_pos hw]
  obtain ⟨hl, xo, c, rfl, hcc, hsrc⟩ := hsrc
  rcases hsrc with ⟨rfl, rfl, rfl⟩ | ⟨ad, rfl, hc⟩
  · have : news = [] := List.eq_nil_of_length_eq_zero (by omega)
    subst this
    obtain ⟨ao, cp, hv⟩ := own_form hown
    have hK := h ao cp w (by rw [List.append_nil, Nat.add_zero, ← hv]; exact hown) ⟨rfl, rfl, rfl, Nat.le_refl _, fun _ _ _ => rfl⟩
    rw [Nat.add_zero, ← hv] at hK
    have hrun := run_append_owned_none (P := P) (w := w) base t o.type e i size ht hi v n xs hown
    unfold Oper.wp
    simp [execOp, ho, resolve, invoke, builtin, hs, hx, hrun, Result.andThen]
    exact hK
  · refine wp_append_own w s x t ho base e i z size bytes ht hi hz hsize hby hzs hsz v n xs hs hown ad m c news hx hl hc h1 h63 hbytes hbase ?_
    intro v' w' h2 h3 _
    obtain ⟨ao, cp, hv⟩ := own_form h2
    rw [hv]
    rw [hv] at h2
    exact h ao cp w' h2 h3
def TwIn (w : World) (v : Value) (L : List Nde) : Prop := ∃ ao c, v = .slice ao L.length c ∧ L.length ≤ c ∧ (L = [] ∨ ∃ b off, ao = some ⟨b, off, none⟩ ∧ ∀ j d, L[j]? = some d → ∃ vr, w.cell? ⟨b, off + j * 2, none⟩ = some (.int .i64 d.b) ∧ w.cell? ⟨b, off + j * 2 + 1, none⟩ = some vr ∧ RowA w 4 vr d.r.length (rowN d.r))
theorem TwIn.below {w w' : World} {v : Value} {L : List Nde} (h : TwIn w v L) (hb : Below w.heap.size w w') : TwIn w' v L := by
  obtain ⟨ao, c, e, hc, h⟩ := h
  refine ⟨ao, c, e, hc, h.imp id ?_⟩
  rintro ⟨b, off, e, h⟩
  refine ⟨b, off, e, fun j d hj => ?_⟩
  obtain ⟨vr, h1, h2, h3⟩ := h j d hj
  exact ⟨vr, keepc hb h1, keepc hb h2, h3.below hb⟩
theorem rowN_get : ∀ (l : List Rn) (j : Nat) (r : Rn), l[j]? = some r → (rowN l)[j * 4]? = some (.int .u64 (hI r.f)) ∧ (rowN l)[j * 4 + 1]? = some (.int .u64 (lI r.f)) ∧ (rowN l)[j * 4 + 2]? = some (.bool r.k) ∧ (rowN l)[j * 4 + 3]? = some (.int .i64 r.n)
  | [], j, r, h => by simp at h
  | x :: l, 0, r, h => by
    simp at h
    subst h
    unfold rowN
    rw [List.flatMap_cons]
    exact ⟨rfl, rfl, rfl, rfl⟩
  | x :: l, j + 1, r, h => by
    have ih := rowN_get l j r (by simpa using h)
    have e : ∀ t, (rowN (x :: l))[(j + 1) * 4 + t]? = (rowN l)[j * 4 + t]? := fun t => by
      have : rowN (x :: l) = [Value.int .u64 (hI x.f), .int .u64 (lI x.f), .bool x.k, .int .i64 x.n] ++ rowN l := by unfold rowN; rw [List.flatMap_cons]
      rw [this, List.getElem?_append_right (by simp; omega)]
      congr 1
      simp; omega
    have e0 := e 0
    simp only [Nat.add_zero] at e0
    rw [e0, e, e, e]
    exact ih
theorem own_rwn16 {W : World} {base : Nat} {v : Value} {l : List Rn} (h : W.ownsRow base 50 4 v l.length (rowN l)) : RwN W v l := by
  by_cases hl : l = []
  · subst hl
    obtain ⟨ao, c, hv⟩ := own_form h
    exact ⟨ao, c, hv, Nat.zero_le _, .inl rfl⟩
  · have hp := List.length_pos_iff.mpr hl
    obtain ⟨g, c, hv, hc⟩ : ∃ g c, v = .slice (some ⟨g, 0, none⟩) l.length c ∧ l.length ≤ c := by
      rcases h.2 with ⟨-, h0⟩ | ⟨g, c, cur, e, -, -, h3, -⟩
      · omega
      · exact ⟨g, c, e, h3⟩
    subst hv
    refine ⟨_, c, rfl, hc, .inr ⟨g, 0, rfl, fun j r hj => ?_⟩⟩
    have hjl := (List.getElem?_eq_some_iff.mp hj).1
    obtain ⟨c0, c1, c2, c3⟩ := rowN_get l j r hj
    have q := fun t (ht : t < l.length * 4) => h.cellAt t ht
    rw [Nat.zero_add]
    exact ⟨(q _ (by omega)).trans c0, (q _ (by omega)).trans c1, (q _ (by omega)).trans c2, (q _ (by omega)).trans c3⟩
def rowD : List Nde → List Value → List Value
  | d :: L, v :: V => .int .i64 d.b :: v :: rowD L V
  | _, _ => []
theorem rowD_app : ∀ (L : List Nde) (V : List Value) (d : Nde) (v : Value), L.length = V.length → rowD (L ++ [d]) (V ++ [v]) = rowD L V ++ [.int .i64 d.b, v]
  | [], [], d, v, _ => rfl
  | x :: L, y :: V, d, v, h => by
    show _ :: _ :: rowD (L ++ [d]) (V ++ [v]) = _
    rw [rowD_app L V d v (by simpa using h)]; rfl
  | [], y :: V, d, v, h => by simp at h
  | x :: L, [], d, v, h => by simp at h
theorem rowD_get : ∀ (L : List Nde) (V : List Value) (j : Nat) (d : Nde) (v : Value), L[j]? = some d → V[j]? = some v → (rowD L V)[j * 2]? = some (.int .i64 d.b) ∧ (rowD L V)[j * 2 + 1]? = some v
  | [], V, j, d, v, h, _ => by simp at h
  | x :: L, [], j, d, v, _, h => by simp at h
  | x :: L, y :: V, 0, d, v, h1, h2 => by
    simp at h1 h2
    subst h1 h2
    exact ⟨rfl, rfl⟩
  | x :: L, y :: V, j + 1, d, v, h1, h2 => by
    have ih := rowD_get L V j d v (by simpa using h1) (by simpa using h2)
    have e0 : (j + 1) * 2 = j * 2 + 2 := by omega
    rw [e0]
    exact ih
theorem rwd_of {W : World} {base : Nat} {v : Value} {L : List Nde} {V : List Value} (h : W.ownsRow base 53 2 v L.length (rowD L V)) (hl : V.length = L.length) (hr : ∀ (j : Nat) (d : Nde) (vr : Value), L[j]? = some d → V[j]? = some vr → RwN W vr d.r) : RwD W v L := by
  by_cases hL : L = []
  · subst hL
    obtain ⟨ao, c, hv⟩ := own_form h
    exact ⟨ao, c, hv, Nat.zero_le _, .inl rfl⟩
  · have hp := List.length_pos_iff.mpr hL
    obtain ⟨g, c, hv, hc⟩ : ∃ g c, v = .slice (some ⟨g, 0, none⟩) L.length c ∧ L.length ≤ c := by
      rcases h.2 with ⟨-, h0⟩ | ⟨g, c, cur, e, -, -, h3, -⟩
      · omega
      · exact ⟨g, c, e, h3⟩
    subst hv
    refine ⟨_, c, rfl, hc, .inr ⟨g, 0, rfl, fun j d hj => ?_⟩⟩
    have hjl := (List.getElem?_eq_some_iff.mp hj).1
    have hvj : V[j]? = some V[j] := List.getElem?_eq_getElem (by omega)
    obtain ⟨c0, c1⟩ := rowD_get L V j d _ hj hvj
    rw [Nat.zero_add]
    exact ⟨V[j], (h.cellAt _ (by omega)).trans c0, (h.cellAt _ (by omega)).trans c1, hr j d _ hj hvj⟩
theorem Try.infoRn16 : (Try.prog.info? 50).map (fun i => (i.zero, i.size, i.bytes)) = some (some (.agg #[.int .u64 0, .int .u64 0, .bool false, .int .i64 0]), 4, 32) := by kernel_rfl
theorem Try.infoD16 : (Try.prog.info? 53).map (fun i => (i.zero, i.size, i.bytes)) = some (some (.agg #[.int .i64 0, .slice none 0 0]), 2, 32) := by kernel_rfl
theorem two_one16 (b : Int) (ao : Option Addr) (n c : Nat) : ∀ u ∈ [Value.int .i64 b, .slice ao n c], u.oneCell' = true := by
  intro u hu
  simp at hu
  rcases hu with h | h <;> subst h <;> rfl
end Go.Proofs.Ytdpmhpmnkollaaa
