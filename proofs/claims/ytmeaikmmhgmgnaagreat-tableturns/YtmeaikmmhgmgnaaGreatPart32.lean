/-
  Part 32 of the proof: 4 texts, one behind the other.
-/
import Derived.Test.YtmeaikmmhgmgnaaGreatPart30
import Derived.Test.YtmeaikmmhgmgnaaGreatPart31
import Derived.Test.YtmeaikmmhgmgnaaGreatPart20
import Derived.Test.YtmeaikmmhgmgnaaGreatPart23
import Derived.Test.YtmeaikmmhgmgnaaGreatPart11
import Derived.Test.YtmeaikmmhgmgnaaGreatPart25
import Derived.Test.YtmeaikmmhgmgnaaGreatPart9
namespace Go.Proofs.YtmeaikmmhgmgnaaGreat
open Go.RowKit
set_option linter.unusedSimpArgs false
set_option linter.unusedVariables false

structure PsV (w : World) (Bt : Nat) (F : Int) (vC v : Value) (S : List Rte) (W : World) : Prop where
  res : W.heap[w.heap.size]? = some (.cells #[.int .i64 0, .slice none 0 0] 25)
  flt : W.heap[w.heap.size + 1]? = some (.cells #[.int .i64 0, .int .i64 0, .int .i64 0] 28)
  t : W.heap[Bt]? = some (.cells #[.int .i64 F, vC] 25)
  own : W.ownsRow (Bt + 1) 47 4 v S.length (rowR S)
  lt : w.heap.size + 1 < Bt
  low : Below w.heap.size w W
section
variable {w W W' : World} {Bt : Nat} {F : Int} {vC v : Value} {S : List Rte}
theorem PsV.below (h : PsV w Bt F vC v S W) (hb : Below W.heap.size W W') : PsV w Bt F vC v S W' :=
  ⟨(hb.block _ (blk_lt5 h.res)).trans h.res, (hb.block _ (blk_lt5 h.flt)).trans h.flt, (hb.block _ (blk_lt5 h.t)).trans h.t, own_below hb h.own, h.lt, keepb hb h.low⟩
theorem PsV.setd {v' : Value} {S' : List Rte} (h : PsV w Bt F vC v S W) (hp : PtR (Bt + 1) v S' W v' W') : PsV w Bt F vC v' S' W' := by
  have hne : ∀ z, z ≤ Bt → ¬ v.ownBlock = some z := fun z hz e => by have := (h.own.lt z e).1; omega
  have hl := h.lt
  refine ⟨?_, ?_, ?_, hp.1, h.lt, ?_⟩
  · rw [hp.2.1.block _ (blk_lt5 h.res) (fun e => hne _ (by omega) e.symm)]; exact h.res
  · rw [hp.2.1.block _ (blk_lt5 h.flt) (fun e => hne _ (by omega) e.symm)]; exact h.flt
  · rw [hp.2.1.block _ (blk_lt5 h.t) (fun e => hne _ (by omega) e.symm)]; exact h.t
  · exact ⟨by rw [hp.2.1.os, h.low.os], by rw [hp.2.1.tape, h.low.tape], by rw [hp.2.1.output, h.low.output], Nat.le_trans h.low.size hp.2.1.size, fun z hz => by rw [hp.2.1.block z (by have := h.low.size; omega) (fun e => hne z (by omega) e.symm), h.low.block z hz]⟩
theorem PsV.put (h : PsV w Bt F vC v S W) : PsV w Bt F v v S (W.setCell ⟨Bt, 1, none⟩ v) := by
  have hl := h.lt
  refine ⟨?_, ?_, ?_, ?_, h.lt, h.low.setCell (by show w.heap.size ≤ Bt; omega) _⟩
  · rw [hSet _ (by omega)]; exact h.res
  · rw [hSet _ (by omega)]; exact h.flt
  · exact (set_blk5 (o := 1) h.t v).trans rfl
  · exact own_heap h.own (fun z e => hSet _ (by have := (h.own.lt z e).1; omega))
end
structure PI (F : Int) (s : ByteArray) (R0 : ResT) (L : List Rte) (line a i : Nat) : Prop where
  ai : a ≤ i
  le : i ≤ s.size + 1
  no : ∀ k, a ≤ k → k < i → k < s.size → byteAt s k ≠ 10
  ln : L.length ≤ a
  lm : line ≤ a + 1
  in_ : a ≤ s.size → i ≤ s.size
  go : (a ≤ s.size ∧ ∃ f, s.size + 1 ≤ f + a ∧ lnsR F s f a line a L 0 = R0) ∨ (a = s.size + 1 ∧ R0 = ((0, 0, 0), L))
theorem PI.lin {F : Int} {s : ByteArray} {R0 : ResT} {L : List Rte} {line a i : Nat} (h : PI F s R0 L line a i) (hi : i ≤ s.size) (hn : i = s.size ∨ byteAt s i = 10) : Lin s a i := ⟨h.ai, hi, fun k h1 h2 => h.no k h1 h2 (by omega), hn⟩
theorem PI.step {F : Int} {s : ByteArray} {R0 : ResT} {L : List Rte} {line a i : Nat} (h : PI F s R0 L line a i) (hs : s.size ≤ 65536) (hi : i ≤ s.size) (hn : i = s.size ∨ byteAt s i = 10) :
    ((enR F (s.extract a i)).2.2.1 ≠ 0 → R0 = (((enR F (s.extract a i)).2.2.1, (line : Int), (enR F (s.extract a i)).2.2.2), [])) ∧
    ((enR F (s.extract a i)).2.2.1 = 0 → PI F s R0 (if (enR F (s.extract a i)).2.1 = true then L ++ [(enR F (s.extract a i)).1] else L) (line + 1) (i + 1) (i + 1)) := by
  have hl := h.lin hi hn
  have hai := h.ai
  have hln := h.ln
  have hlm := h.lm
  rcases h.go with ⟨ha, f, hf, hg⟩ | ⟨ha, _⟩
  · obtain ⟨f0, rfl⟩ : ∃ f0, f = f0 + 1 := ⟨f - 1, by omega⟩
    rw [lns_step hl F f0 line L (by omega)] at hg
    unfold lnN at hg
    refine ⟨fun e => ?_, fun e => ?_⟩
    · rw [if_pos e] at hg; exact hg.symm
    · rw [if_neg (by simpa using e)] at hg
      refine ⟨Nat.le_refl _, by omega, fun k h1 h2 => by omega, ?_, by omega, fun q => by omega, ?_⟩
      · split
        · rw [List.length_append]; simp; omega
        · omega
      · by_cases c : i = s.size
        · rw [if_pos c] at hg
          exact .inr ⟨by omega, hg.symm⟩
        · rw [if_neg c] at hg
          exact .inl ⟨by omega, f0, by omega, hg⟩
  · omega
set_option maxRecDepth 20000 in
set_option maxHeartbeats 64000000 in
theorem rparse9_any (F : Int) (s : ByteArray) (w : World) (hs : s.size ≤ 65536) :
    Calls Tryz.prog 8 #[.int .i64 F, .string s] w (PrsQ F s w) := by
  have q1 := bl1 w (.cells #[.int .i64 0, .slice none 0 0] 25)
  have q2 := bl1 (w.alloc (.cells #[.int .i64 0, .slice none 0 0] 25)) (.cells #[.int .i64 0, .int .i64 0, .int .i64 0] 28)
  have s1 : (w.alloc (.cells #[.int .i64 0, .slice none 0 0] 25)).heap.size = w.heap.size + 1 := by simp
  have HP : Hid (∀ X, X = (w.alloc (.cells #[.int .i64 0, .slice none 0 0] 25)).alloc (.cells #[.int .i64 0, .int .i64 0, .int .i64 0] 28) → X.heap[w.heap.size]? = some (.cells #[.int .i64 0, .slice none 0 0] 25) ∧ X.heap[w.heap.size + 1]? = some (.cells #[.int .i64 0, .int .i64 0, .int .i64 0] 28) ∧ Below w.heap.size w X) := hidR (by
    rintro X rfl
    refine ⟨?_, ?_, keepb q2 q1⟩
    · rw [q2.block _ (by omega)]
      exact Array.getElem?_push_size
    · rw [← s1]
      exact Array.getElem?_push_size)
  have KI := fun w => isFamily_any F w
  clear q1 q2 s1
  go_enter Tryz.func8, Tryz.ntmps8
  go_wp2_with fail
  revert HP
  generalize hW0 : (w.alloc (.cells #[.int .i64 0, .slice none 0 0] 25)).alloc (.cells #[.int .i64 0, .int .i64 0, .int .i64 0] 28) = W0
  intro HP
  obtain ⟨hp1, hp2, hp3⟩ := HP.out W0 rfl
  clear HP hW0
  refine (KI W0).mono ?_
  rintro e W1 ⟨rfl, rfl⟩
  cases hF : fam F with
  | false =>
    have HQ : Hid (∀ W, Below w.heap.size w W → PrsQ F s w (.returned (.tuple #[.agg #[.int .i64 0, .slice none 0 0], .agg #[.int .i64 11, .int .i64 0, .int .i64 0]])) W) := hidR (fun W hb => by
      have e : prR F s = ((11, 0, 0), []) := by unfold prR; rw [hF]; rfl
      refine ⟨⟨.slice none 0 0, [], ?_, ?_, ⟨rfl, .inl ⟨rfl, rfl⟩⟩⟩, hb⟩
      · rw [e]; rfl
      · rw [e]; rfl)
    have c0 := at_blk hp1 0 (.int .i64 0) rfl
    have c1 := at_blk hp1 1 (.slice none 0 0) rfl
    have c2 := at_blk hp2 0 (.int .i64 0) rfl
    have c3 := at_blk hp2 1 (.int .i64 0) rfl
    have c4 := at_blk hp2 2 (.int .i64 0) rfl
    have d0 := fr_blk5 (j := 0) hp1
    have d1 := fr_blk5 (j := 1) hp1
    have d2 := fr_blk5 (j := 0) hp2
    have d3 := fr_blk5 (j := 1) hp2
    have d4 := fr_blk5 (j := 2) hp2
    have HF := hidR (HQ.out (((((W1.setCell ⟨w.heap.size, 0, none⟩ (.int .i64 0)).setCell ⟨w.heap.size, 1, none⟩ (.slice none 0 0)).setCell ⟨w.heap.size + 1, 0, none⟩ (.int .i64 11)).setCell ⟨w.heap.size + 1, 1, none⟩ (.int .i64 0)).setCell ⟨w.heap.size + 1, 2, none⟩ (.int .i64 0)) (((((hp3.setCell (p := ⟨w.heap.size, 0, none⟩) (Nat.le_refl _) _).setCell (p := ⟨w.heap.size, 1, none⟩) (Nat.le_refl _) _).setCell (p := ⟨w.heap.size + 1, 0, none⟩) (Nat.le_succ _) _).setCell (p := ⟨w.heap.size + 1, 1, none⟩) (Nat.le_succ _) _).setCell (p := ⟨w.heap.size + 1, 2, none⟩) (Nat.le_succ _) _))
    clear HQ hp1 hp2 hp3 KI
    go_wp2
    exact bodyPost_ret (v := .tuple #[.agg #[.int .i64 0, .slice none 0 0], .agg #[.int .i64 11, .int .i64 0, .int .i64 0]]) (by simp [results, Tryz.results8, go_sem, c0, c1, c2, c3, c4]) rfl HF.out
  | true =>
    obtain ⟨R0, hR0⟩ : ∃ R0, R0 = lnsR F s (s.size + 1) 0 1 0 [] 0 := ⟨_, rfl⟩
    have HPR : Hid (prR F s = R0) := hidR (by unfold prR; rw [if_pos hF, hR0])
    have hbl := bl1 W1 (.cells #[.int .i64 F, .slice none 0 0] 25)
    have hws := blk_lt5 hp2
    have HV0 : Hid (PsV w W1.heap.size F (.slice none 0 0) (.slice none 0 0) [] (W1.alloc (.cells #[.int .i64 F, .slice none 0 0] 25))) := hidR ⟨(hbl.block _ (blk_lt5 hp1)).trans hp1, (hbl.block _ hws).trans hp2, Array.getElem?_push_size, ⟨rfl, .inl ⟨rfl, rfl⟩⟩, by omega, keepb hbl hp3⟩
    have HI0 : Hid (PI F s R0 [] 1 0 0) := hidR ⟨Nat.le_refl _, by omega, fun k h1 h2 => by omega, by simp, by omega, fun _ => by omega, .inl ⟨by omega, s.size + 1, by omega, hR0.symm⟩⟩
    clear hbl hws hp1 hp2 hp3 KI hR0 hF
    go_wp2_with fail
    revert HV0
    generalize W1.alloc (.cells #[.int .i64 F, .slice none 0 0] 25) = W2
    generalize W1.heap.size = Bt
    intro HV0
    go_loopw [7, 8, 9, 10, 11, 12, 13, 14, 15] (fun ne ov ln fr iv _ _ _ _ wr => ∃ (L : List Rte) (line a i : Nat) (vS : Value), ne = .int .i64 ((L.length : Nat) : Int) ∧ ov = .int .i64 0 ∧ ln = .int .i64 (line : Int) ∧ fr = .int .i64 (a : Int) ∧ iv = .int .i64 (i : Int) ∧ Hid (PI F s R0 L line a i) ∧ Hid (PsV w Bt F vS vS (L.foldl setF []) wr)) (fun _ _ _ _ iv _ _ _ _ _ => s.size + 1 - (intOf iv).toNat)
    case atStart => exact ⟨[], 1, 0, 0, _, rfl, rfl, rfl, rfl, rfl, HI0, HV0⟩
    case round =>
      clear HV0 HI0
      obtain ⟨L, line, a, i, vS, rfl, rfl, rfl, rfl, rfl, HI, HV⟩ := hrel
      have hil := HI.out.le
      have hai := HI.out.ai
      have hll := HI.out.ln
      have hlm := HI.out.lm
      have wi : IntKind.i64.wrap ((i : Int) + 1) = ((i + 1 : Nat) : Int) := by rw [IntKind.wrap_i64]; push_cast; omega
      by_cases hle : (i : Int) ≤ (s.size : Int)
      · by_cases hmid : i < s.size ∧ byteAt s i ≠ 10
        · have hisz : i < s.size := hmid.1
          have hbt := byteAt_in s i hisz
          have hlt : (i : Int) < (s.size : Int) := by omega
          have h10 : ¬ byteAt s i = 10 := hmid.2
          have h10b : (byteAt s i == 10) = false := by simpa using h10
          have h10c : (byteAt s i != 10) = true := by simpa using h10
          have HI2 : Hid (PI F s R0 L line a (i + 1)) := hidR ⟨by omega, by omega, fun k h1 h2 h3 => by
            by_cases e : k = i
            · rw [e]; exact hmid.2
            · exact HI.out.no k h1 (by omega) h3, HI.out.ln, HI.out.lm, fun q => by omega, HI.out.go⟩
          clear HI hmid
          generalize byteAt s i = b at *
          go_wp2_with fail
          go_roundw
          case rel => exact ⟨L, line, a, i + 1, vS, rfl, rfl, rfl, rfl, rfl, HI2, HV⟩
          case measure => simp [intOf]; omega
        · have hle2 : i ≤ s.size := by omega
          have hend : i = s.size ∨ byteAt s i = 10 := by
            by_cases c : i < s.size
            · right
              by_cases d : byteAt s i = 10
              · exact d
              · exact absurd ⟨c, d⟩ hmid
            · left; omega
          obtain ⟨hst1, hst2⟩ := HI.out.step hs hle2 hend
          have hlin := HI.out.lin hle2 hend
          have hsz := hlin.size
          have KE := fun w => rentry_any F (s.extract a i) w (by omega) (fun k hk => by rw [hlin.byte (by omega)]; exact hlin.no _ (by omega) (by omega))
          have HS1 := hidR hst1
          have HS2 := hidR hst2
          have hw1 : (a : Int) ≤ (i : Int) := by omega
          have wl : IntKind.i64.wrap ((line : Int) + 1) = ((line + 1 : Nat) : Int) := by rw [IntKind.wrap_i64]; push_cast; omega
          have wn : IntKind.i64.wrap ((L.length : Int) + 1) = ((L.length + 1 : Nat) : Int) := by rw [IntKind.wrap_i64]; push_cast; omega
          have hn9 : ¬ ((L.length + 1 : Nat) : Int) = 1048577 := by omega
          have hn8 : (((L.length + 1 : Nat) : Int) == 1048577) = false := by simp; omega
          clear hst1 hst2 hlin hsz hmid
          generalize enR F (s.extract a i) = en at KE HS1 HS2
          obtain ⟨⟨⟨rx, rn⟩, rh⟩, is, ee, col⟩ := en
          dsimp only [enV] at KE HS1 HS2
          by_cases hlt : i < s.size
          · have hbt := byteAt_in s i hlt
            have hb10 : byteAt s i = 10 := by rcases hend with q | q; omega; exact q
            have hlti : (i : Int) < (s.size : Int) := by omega
            clear hend
            generalize byteAt s i = b at *
            subst hb10
            go_wp2_with fail
            refine (KE _).mono ?_
            rintro e W3 ⟨rfl, hb⟩
            have k1 := bl1 W3 (.cells #[.int .u64 (hI rx), .int .u64 (lI rx), .int .i64 rn, .int .i64 rh] 47)
            have HV3 := hidR ((HV.out.below hb).below k1)
            have HN3 : Hid ((W3.alloc (.cells #[.int .u64 (hI rx), .int .u64 (lI rx), .int .i64 rn, .int .i64 rh] 47)).heap[W3.heap.size]? = some (.cells #[.int .u64 (hI rx), .int .u64 (lI rx), .int .i64 rn, .int .i64 rh] 47)) := hidR Array.getElem?_push_size
            clear KE hb k1 HV
            by_cases hee : ee = 0
            · subst hee
              have HI2 := hidR (HS2.out (by first | rfl | trivial))
              clear HS1 HS2
              cases is with
              | true =>
                have hVt := HV3.out.t
                have t1 := at_blk hVt 1 vS rfl
                have t2 := fr_blk5 (j := 1) hVt
                have n0 := at_blk HN3.out 0 (.int .u64 (hI rx)) rfl
                have n1 := at_blk HN3.out 1 (.int .u64 (lI rx)) rfl
                have n2 := at_blk HN3.out 2 (.int .i64 rn) rfl
                have n3 := at_blk HN3.out 3 (.int .i64 rh) rfl
                have KS := rset_any (Bt + 1) vS (L.foldl setF []) rx rn rh _ HV3.out.own (by have := blk_lt5 hVt; omega) (by have := fold_len L []; simp at this; omega)
                clear hVt
                go_wp2_with fail
                refine KS.mono ?_
                rintro e W4 ⟨v', rfl, hp⟩
                have hV4 := HV3.out.setd hp
                have c1 := at_blk hV4.t 1 vS rfl
                have c2 := fr_blk5 (j := 1) hV4.t
                have HV5 : Hid (PsV w Bt F v' v' ((L ++ [((rx, rn), rh)]).foldl setF []) (W4.setCell ⟨Bt, 1, none⟩ v')) := hidR (by rw [List.foldl_append]; exact hV4.put)
                have HL5 : Hid ((L ++ [((rx, rn), rh)]).length = L.length + 1) := hidR (by simp)
                obtain ⟨so, sc, rfl⟩ := own_form hV4.own
                clear KS hp hV4 t1 t2 n0 n1 n2 n3 HV3 HN3 HI
                generalize (setF (L.foldl setF []) ((rx, rn), rh)).length = sl at *
                go_wp2_with fail
                go_roundw
                case rel => exact ⟨L ++ [((rx, rn), rh)], line + 1, i + 1, i + 1, _, by rw [HL5.out]; push_cast; rfl, rfl, rfl, rfl, rfl, HI2, HV5⟩
                case measure => simp [intOf]; omega
              | false =>
                clear HN3 HI
                go_wp2_with fail
                go_roundw
                case rel => exact ⟨L, line + 1, i + 1, i + 1, vS, rfl, rfl, rfl, rfl, rfl, HI2, HV3⟩
                case measure => simp [intOf]; omega
            · have HR := hidR (HS1.out hee)
              have heb : (ee == 0) = false := by simpa using hee
              have HQ : Hid (∀ W, Below w.heap.size w W → PrsQ F s w (.returned (.tuple #[.agg #[.int .i64 0, .slice none 0 0], .agg #[.int .i64 ee, .int .i64 (line : Int), .int .i64 col]])) W) := hidR (fun W hb => by
                have hpr := HPR.out.trans HR.out
                refine ⟨⟨.slice none 0 0, [], ?_, ?_, ⟨rfl, .inl ⟨rfl, rfl⟩⟩⟩, hb⟩
                · rw [hpr]
                  show _ = Ending.returned (.tuple #[.agg #[.int .i64 (if ee = 0 then F else 0), _], _])
                  rw [if_neg hee]
                · rw [hpr]
                  show _ = (if ee = 0 then _ else [])
                  rw [if_neg hee])
              have c0 := at_blk HV3.out.res 0 (.int .i64 0) rfl
              have c1 := at_blk HV3.out.res 1 (.slice none 0 0) rfl
              have c2 := at_blk HV3.out.flt 0 (.int .i64 0) rfl
              have c3 := at_blk HV3.out.flt 1 (.int .i64 0) rfl
              have c4 := at_blk HV3.out.flt 2 (.int .i64 0) rfl
              have d0 := fr_blk5 (j := 0) HV3.out.res
              have d1 := fr_blk5 (j := 1) HV3.out.res
              have d2 := fr_blk5 (j := 0) HV3.out.flt
              have d3 := fr_blk5 (j := 1) HV3.out.flt
              have d4 := fr_blk5 (j := 2) HV3.out.flt
              have HLo := hidR HV3.out.low
              clear HV3 HN3 HS1 HS2 HI
              have HF := hidR (HQ.out ((((((W3.alloc (.cells #[.int .u64 (hI rx), .int .u64 (lI rx), .int .i64 rn, .int .i64 rh] 47)).setCell ⟨w.heap.size, 0, none⟩ (.int .i64 0)).setCell ⟨w.heap.size, 1, none⟩ (.slice none 0 0)).setCell ⟨w.heap.size + 1, 0, none⟩ (.int .i64 ee)).setCell ⟨w.heap.size + 1, 1, none⟩ (.int .i64 (line : Int))).setCell ⟨w.heap.size + 1, 2, none⟩ (.int .i64 col)) (((((HLo.out.setCell (p := ⟨w.heap.size, 0, none⟩) (Nat.le_refl _) _).setCell (p := ⟨w.heap.size, 1, none⟩) (Nat.le_refl _) _).setCell (p := ⟨w.heap.size + 1, 0, none⟩) (Nat.le_succ _) _).setCell (p := ⟨w.heap.size + 1, 1, none⟩) (Nat.le_succ _) _).setCell (p := ⟨w.heap.size + 1, 2, none⟩) (Nat.le_succ _) _))
              clear HLo HQ
              go_wp2
              exact bodyPost_ret (v := .tuple #[.agg #[.int .i64 0, .slice none 0 0], .agg #[.int .i64 ee, .int .i64 (line : Int), .int .i64 col]]) (by simp [results, Tryz.results8, go_sem, c0, c1, c2, c3, c4]) rfl HF.out
          · have hlti : ¬ (i : Int) < (s.size : Int) := by omega
            clear hend
            go_wp2_with fail
            refine (KE _).mono ?_
            rintro e W3 ⟨rfl, hb⟩
            have k1 := bl1 W3 (.cells #[.int .u64 (hI rx), .int .u64 (lI rx), .int .i64 rn, .int .i64 rh] 47)
            have HV3 := hidR ((HV.out.below hb).below k1)
            have HN3 : Hid ((W3.alloc (.cells #[.int .u64 (hI rx), .int .u64 (lI rx), .int .i64 rn, .int .i64 rh] 47)).heap[W3.heap.size]? = some (.cells #[.int .u64 (hI rx), .int .u64 (lI rx), .int .i64 rn, .int .i64 rh] 47)) := hidR Array.getElem?_push_size
            clear KE hb k1 HV
            by_cases hee : ee = 0
            · subst hee
              have HI2 := hidR (HS2.out (by first | rfl | trivial))
              clear HS1 HS2
              cases is with
              | true =>
                have hVt := HV3.out.t
                have t1 := at_blk hVt 1 vS rfl
                have t2 := fr_blk5 (j := 1) hVt
                have n0 := at_blk HN3.out 0 (.int .u64 (hI rx)) rfl
                have n1 := at_blk HN3.out 1 (.int .u64 (lI rx)) rfl
                have n2 := at_blk HN3.out 2 (.int .i64 rn) rfl
                have n3 := at_blk HN3.out 3 (.int .i64 rh) rfl
                have KS := rset_any (Bt + 1) vS (L.foldl setF []) rx rn rh _ HV3.out.own (by have := blk_lt5 hVt; omega) (by have := fold_len L []; simp at this; omega)
                clear hVt
                go_wp2_with fail
                refine KS.mono ?_
                rintro e W4 ⟨v', rfl, hp⟩
                have hV4 := HV3.out.setd hp
                have c1 := at_blk hV4.t 1 vS rfl
                have c2 := fr_blk5 (j := 1) hV4.t
                have HV5 : Hid (PsV w Bt F v' v' ((L ++ [((rx, rn), rh)]).foldl setF []) (W4.setCell ⟨Bt, 1, none⟩ v')) := hidR (by rw [List.foldl_append]; exact hV4.put)
                have HL5 : Hid ((L ++ [((rx, rn), rh)]).length = L.length + 1) := hidR (by simp)
                obtain ⟨so, sc, rfl⟩ := own_form hV4.own
                clear KS hp hV4 t1 t2 n0 n1 n2 n3 HV3 HN3 HI
                generalize (setF (L.foldl setF []) ((rx, rn), rh)).length = sl at *
                go_wp2_with fail
                go_roundw
                case rel => exact ⟨L ++ [((rx, rn), rh)], line + 1, i + 1, i + 1, _, by rw [HL5.out]; push_cast; rfl, rfl, rfl, rfl, rfl, HI2, HV5⟩
                case measure => simp [intOf]; omega
              | false =>
                clear HN3 HI
                go_wp2_with fail
                go_roundw
                case rel => exact ⟨L, line + 1, i + 1, i + 1, vS, rfl, rfl, rfl, rfl, rfl, HI2, HV3⟩
                case measure => simp [intOf]; omega
            · have HR := hidR (HS1.out hee)
              have heb : (ee == 0) = false := by simpa using hee
              have HQ : Hid (∀ W, Below w.heap.size w W → PrsQ F s w (.returned (.tuple #[.agg #[.int .i64 0, .slice none 0 0], .agg #[.int .i64 ee, .int .i64 (line : Int), .int .i64 col]])) W) := hidR (fun W hb => by
                have hpr := HPR.out.trans HR.out
                refine ⟨⟨.slice none 0 0, [], ?_, ?_, ⟨rfl, .inl ⟨rfl, rfl⟩⟩⟩, hb⟩
                · rw [hpr]
                  show _ = Ending.returned (.tuple #[.agg #[.int .i64 (if ee = 0 then F else 0), _], _])
                  rw [if_neg hee]
                · rw [hpr]
                  show _ = (if ee = 0 then _ else [])
                  rw [if_neg hee])
              have c0 := at_blk HV3.out.res 0 (.int .i64 0) rfl
              have c1 := at_blk HV3.out.res 1 (.slice none 0 0) rfl
              have c2 := at_blk HV3.out.flt 0 (.int .i64 0) rfl
              have c3 := at_blk HV3.out.flt 1 (.int .i64 0) rfl
              have c4 := at_blk HV3.out.flt 2 (.int .i64 0) rfl
              have d0 := fr_blk5 (j := 0) HV3.out.res
              have d1 := fr_blk5 (j := 1) HV3.out.res
              have d2 := fr_blk5 (j := 0) HV3.out.flt
              have d3 := fr_blk5 (j := 1) HV3.out.flt
              have d4 := fr_blk5 (j := 2) HV3.out.flt
              have HLo := hidR HV3.out.low
              clear HV3 HN3 HS1 HS2 HI
              have HF := hidR (HQ.out ((((((W3.alloc (.cells #[.int .u64 (hI rx), .int .u64 (lI rx), .int .i64 rn, .int .i64 rh] 47)).setCell ⟨w.heap.size, 0, none⟩ (.int .i64 0)).setCell ⟨w.heap.size, 1, none⟩ (.slice none 0 0)).setCell ⟨w.heap.size + 1, 0, none⟩ (.int .i64 ee)).setCell ⟨w.heap.size + 1, 1, none⟩ (.int .i64 (line : Int))).setCell ⟨w.heap.size + 1, 2, none⟩ (.int .i64 col)) (((((HLo.out.setCell (p := ⟨w.heap.size, 0, none⟩) (Nat.le_refl _) _).setCell (p := ⟨w.heap.size, 1, none⟩) (Nat.le_refl _) _).setCell (p := ⟨w.heap.size + 1, 0, none⟩) (Nat.le_succ _) _).setCell (p := ⟨w.heap.size + 1, 1, none⟩) (Nat.le_succ _) _).setCell (p := ⟨w.heap.size + 1, 2, none⟩) (Nat.le_succ _) _))
              clear HLo HQ
              go_wp2
              exact bodyPost_ret (v := .tuple #[.agg #[.int .i64 0, .slice none 0 0], .agg #[.int .i64 ee, .int .i64 (line : Int), .int .i64 col]]) (by simp [results, Tryz.results8, go_sem, c0, c1, c2, c3, c4]) rfl HF.out
      · have ha9 : a = s.size + 1 := by
          by_cases c : a ≤ s.size
          · have := HI.out.in_ c; omega
          · omega
        have HR : Hid (R0 = ((0, 0, 0), L)) := hidR (by
          rcases HI.out.go with ⟨q, _⟩ | ⟨_, q⟩
          · omega
          · exact q)
        have hl2 := HV.out.lt
        obtain ⟨so, sc, rfl⟩ := own_form HV.out.own
        have s0 := at_blk HV.out.t 0 (.int .i64 F) rfl
        have s1 := at_blk HV.out.t 1 _ rfl
        have c0 := at_blk HV.out.res 0 (.int .i64 0) rfl
        have c1 := at_blk HV.out.res 1 (.slice none 0 0) rfl
        have c2 := at_blk HV.out.flt 0 (.int .i64 0) rfl
        have c3 := at_blk HV.out.flt 1 (.int .i64 0) rfl
        have c4 := at_blk HV.out.flt 2 (.int .i64 0) rfl
        have d0 := fr_blk5 (j := 0) HV.out.res
        have d1 := fr_blk5 (j := 1) HV.out.res
        have d2 := fr_blk5 (j := 0) HV.out.flt
        have d3 := fr_blk5 (j := 1) HV.out.flt
        have d4 := fr_blk5 (j := 2) HV.out.flt
        have HF : Hid (PrsQ F s w (.returned (.tuple #[.agg #[.int .i64 F, .slice so (L.foldl setF []).length sc], .agg #[.int .i64 0, .int .i64 0, .int .i64 0]])) (((((wr.setCell ⟨w.heap.size, 0, none⟩ (.int .i64 F)).setCell ⟨w.heap.size, 1, none⟩ (.slice so (L.foldl setF []).length sc)).setCell ⟨w.heap.size + 1, 0, none⟩ (.int .i64 0)).setCell ⟨w.heap.size + 1, 1, none⟩ (.int .i64 0)).setCell ⟨w.heap.size + 1, 2, none⟩ (.int .i64 0))) := hidR (by
          have hpr := HPR.out.trans HR.out
          refine ⟨⟨_, _, by rw [hpr]; rfl, rfl, ?_⟩, ((((HV.out.low.setCell (p := ⟨w.heap.size, 0, none⟩) (Nat.le_refl _) _).setCell (p := ⟨w.heap.size, 1, none⟩) (Nat.le_refl _) _).setCell (p := ⟨w.heap.size + 1, 0, none⟩) (Nat.le_succ _) _).setCell (p := ⟨w.heap.size + 1, 1, none⟩) (Nat.le_succ _) _).setCell (p := ⟨w.heap.size + 1, 2, none⟩) (Nat.le_succ _) _⟩
          rw [hpr]
          show World.ownsRow _ _ _ _ _ (L.foldl setF []).length (rowR (L.foldl setF []))
          exact own_wide (own_heap HV.out.own (fun z e => by have := (HV.out.own.lt z e).1; rw [hSet _ (by omega), hSet _ (by omega), hSet _ (by omega), hSet _ (by omega), hSet _ (by omega)])) (by omega))
        clear HV HI HR
        generalize (L.foldl setF []).length = sl at *
        go_wp2
        exact bodyPost_ret (v := .tuple #[.agg #[.int .i64 F, .slice so sl sc], .agg #[.int .i64 0, .int .i64 0, .int .i64 0]]) (by simp [results, Tryz.results8, go_sem, c0, c1, c2, c3, c4]) rfl HF.out
end Go.Proofs.YtmeaikmmhgmgnaaGreat
namespace Go.Proofs.YtmeaikmmhgmgnaaGreat
open Go.RowKit
set_option linter.unusedSimpArgs false
set_option linter.unusedVariables false
attribute [local go_sem] Oper.semAt_some

set_option maxRecDepth 20000 in
set_option maxHeartbeats 8000000 in
theorem parseS_any (F : Int) (s : ByteArray) (w : World) (hF : fam F = true) (hs : s.size ≤ 1000000000) (L S : List Rte) (hres : lnsR F s (s.size + 1) 0 1 0 [] 0 = ((0, 0, 0), L)) (hL0 : 0 < L.length) (hL : L.length ≤ 1000000000)
    (KS : ∀ (base g c : Nat) W, RwO W base g c L.length L → Calls Tryz.prog 48 #[.slice (some ⟨g, 0, none⟩) L.length c, .func (.func 49) #[] #[]] W fun e w' => e = .returned (.tuple #[]) ∧ RwO w' base g c L.length S ∧ Bo g W w') :
    Calls Tryz.prog 7 #[.int .i64 F, .string s] w fun e w' => (∃ v, e = .returned (.tuple #[.agg #[.int .i64 F, v], .agg #[.int .i64 0, .int .i64 0, .int .i64 0]]) ∧ Row w' 4 v (ltL S).length (rowR (ltL S))) ∧ Below w.heap.size w w' := by
  have q1 := bl1 w (.cells #[.int .i64 0, .slice none 0 0] 25)
  have q2 := bl1 (w.alloc (.cells #[.int .i64 0, .slice none 0 0] 25)) (.cells #[.int .i64 0, .int .i64 0, .int .i64 0] 28)
  have s1 : (w.alloc (.cells #[.int .i64 0, .slice none 0 0] 25)).heap.size = w.heap.size + 1 := by simp
  have HP : Hid (∀ X, X = (w.alloc (.cells #[.int .i64 0, .slice none 0 0] 25)).alloc (.cells #[.int .i64 0, .int .i64 0, .int .i64 0] 28) → X.heap[w.heap.size]? = some (.cells #[.int .i64 0, .slice none 0 0] 25) ∧ X.heap[w.heap.size + 1]? = some (.cells #[.int .i64 0, .int .i64 0, .int .i64 0] 28) ∧ Below w.heap.size w X) := hidR (by
    rintro X rfl
    refine ⟨?_, ?_, keepb q2 q1⟩
    · rw [q2.block _ (by omega)]
      exact Array.getElem?_push_size
    · rw [← s1]
      exact Array.getElem?_push_size)
  have KA := fun w => alast_any F w
  have hE : lastE F = 0 := by unfold lastE; rw [if_pos hF]
  rw [hE] at KA
  clear q1 q2 s1 hE
  go_enter Tryz.func7, Tryz.ntmps7
  go_wp2_with fail
  revert HP
  generalize hW0 : (w.alloc (.cells #[.int .i64 0, .slice none 0 0] 25)).alloc (.cells #[.int .i64 0, .int .i64 0, .int .i64 0] 28) = W0
  intro HP
  obtain ⟨hp1, hp2, hp3⟩ := HP.out W0 rfl
  clear HP hW0
  refine (KA W0).mono ?_
  rintro e W1 ⟨rfl, hb⟩
  have b2 := bl1 W1 (.cells #[.int .u64 (hI (lastV F)), .int .u64 (lI (lastV F))] 35)
  have b3 := bl1 (W1.alloc (.cells #[.int .u64 (hI (lastV F)), .int .u64 (lI (lastV F))] 35)) (.cells #[.int .i64 F, .string s, .int .i64 0, .int .i64 1, .int .i64 0] 59)
  have sz1 : (W1.alloc (.cells #[.int .u64 (hI (lastV F)), .int .u64 (lI (lastV F))] 35)).heap.size = W1.heap.size + 1 := by simp
  have bb := keepb b3 (keepb b2 hb)
  have HT : Hid (((W1.alloc (.cells #[.int .u64 (hI (lastV F)), .int .u64 (lI (lastV F))] 35)).alloc (.cells #[.int .i64 F, .string s, .int .i64 0, .int .i64 1, .int .i64 0] 59)).heap[w.heap.size]? = some (.cells #[.int .i64 0, .slice none 0 0] 25)) := hidR ((bb.block _ (blk_lt5 hp1)).trans hp1)
  have HF : Hid (((W1.alloc (.cells #[.int .u64 (hI (lastV F)), .int .u64 (lI (lastV F))] 35)).alloc (.cells #[.int .i64 F, .string s, .int .i64 0, .int .i64 1, .int .i64 0] 59)).heap[w.heap.size + 1]? = some (.cells #[.int .i64 0, .int .i64 0, .int .i64 0] 28)) := hidR ((bb.block _ (blk_lt5 hp2)).trans hp2)
  have HB := hidR (keepb bb hp3)
  have HR : Hid (RdV ((W1.alloc (.cells #[.int .u64 (hI (lastV F)), .int .u64 (lI (lastV F))] 35)).alloc (.cells #[.int .i64 F, .string s, .int .i64 0, .int .i64 1, .int .i64 0] 59)) (W1.heap.size + 1) F s 0 1 0) := hidR (by
    show _ = _
    rw [← sz1]
    exact Array.getElem?_push_size)
  have hlt : w.heap.size + 1 < W1.heap.size := by have := hb.size; have := blk_lt5 hp2; omega
  clear b2 b3 bb hp1 hp2 hp3 hb sz1 KA
  go_wp2_with fail
  revert HT HF HB HR hlt
  generalize (W1.alloc (.cells #[.int .u64 (hI (lastV F)), .int .u64 (lI (lastV F))] 35)).alloc (.cells #[.int .i64 F, .string s, .int .i64 0, .int .i64 1, .int .i64 0] 59) = W2
  generalize W1.heap.size = R1
  intro HT HF HB HR hlt
  refine (entries5_any (R1 + 1) F s W2 HR.out hs ((0, 0, 0), L) hres).mono ?_
  rintro e W3 ⟨⟨lv, rfl, hO⟩, hb⟩
  have hR2 : R1 + 1 < W2.heap.size := HR.out.lt
  obtain ⟨g, c, rfl⟩ : ∃ g c, lv = .slice (some ⟨g, 0, none⟩) L.length c := by
    rcases hO.2 with ⟨_, e1⟩ | ⟨g, cap, cur, e0, _⟩
    · have e2 : L.length = 0 := e1
      omega
    · exact ⟨g, cap, e0⟩
  have q4 := bl1 W3 (.cells #[.int .i64 0, .int .i64 0, .int .i64 0] 28)
  have hgb : W2.heap.size + 4 ≤ g := (hO.lt g rfl).1
  have HO := hidR (show RwO (W3.alloc (.cells #[.int .i64 0, .int .i64 0, .int .i64 0] 28)) (W2.heap.size + 4) g c L.length L from RwO.below ⟨rfl, hO⟩ q4)
  have HT3 := hidR ((q4.block _ (blk_lt5 ((hb.blk _ (blk_lt5 HT.out) (by omega)).trans HT.out))).trans ((hb.blk _ (blk_lt5 HT.out) (by omega)).trans HT.out))
  have HF3 := hidR ((q4.block _ (blk_lt5 ((hb.blk _ (blk_lt5 HF.out) (by omega)).trans HF.out))).trans ((hb.blk _ (blk_lt5 HF.out) (by omega)).trans HF.out))
  have HB3 := hidR (keepb q4 (Bo.low hb HB.out (by have := HB.out.size; omega) (Nat.le_refl _)))
  clear hO hb q4 HT HF HB HR hres
  go_wp2_with fail
  revert HO HT3 HF3 HB3
  generalize W3.alloc (.cells #[.int .i64 0, .int .i64 0, .int .i64 0] 28) = W4
  intro HO HT3 HF3 HB3
  refine (inOrder_any F (W2.heap.size + 4) g c L.length L S W4 HO.out hL0 hL (fun W h => KS _ _ _ W h)).mono ?_
  rintro e W5 ⟨rfl, hD, hb⟩
  have hT5 := (hb.blk _ (blk_lt5 HT3.out) (by omega)).trans HT3.out
  have hF5 := (hb.blk _ (blk_lt5 HF3.out) (by omega)).trans HF3.out
  have HB5 := hidR (Bo.low hb HB3.out (by have := HB3.out.size; omega) (Nat.le_refl _))
  have c0 := at_blk hT5 0 (.int .i64 0) rfl
  have c1 := at_blk hT5 1 (.slice none 0 0) rfl
  have c2 := at_blk hF5 0 (.int .i64 0) rfl
  have c3 := at_blk hF5 1 (.int .i64 0) rfl
  have c4 := at_blk hF5 2 (.int .i64 0) rfl
  have d0 := fr_blk5 (j := 0) hT5
  have d1 := fr_blk5 (j := 1) hT5
  have d2 := fr_blk5 (j := 0) hF5
  have d3 := fr_blk5 (j := 1) hF5
  have d4 := fr_blk5 (j := 2) hF5
  have HZ : Hid (Row (((((W5.setCell ⟨w.heap.size, 0, none⟩ (.int .i64 F)).setCell ⟨w.heap.size, 1, none⟩ (.slice (some ⟨g, 0, none⟩) (ltL S).length c)).setCell ⟨w.heap.size + 1, 0, none⟩ (.int .i64 0)).setCell ⟨w.heap.size + 1, 1, none⟩ (.int .i64 0)).setCell ⟨w.heap.size + 1, 2, none⟩ (.int .i64 0)) 4 (.slice (some ⟨g, 0, none⟩) (ltL S).length c) (ltL S).length (rowR (ltL S)) ∧ Below w.heap.size w (((((W5.setCell ⟨w.heap.size, 0, none⟩ (.int .i64 F)).setCell ⟨w.heap.size, 1, none⟩ (.slice (some ⟨g, 0, none⟩) (ltL S).length c)).setCell ⟨w.heap.size + 1, 0, none⟩ (.int .i64 0)).setCell ⟨w.heap.size + 1, 1, none⟩ (.int .i64 0)).setCell ⟨w.heap.size + 1, 2, none⟩ (.int .i64 0))) := hidR (by
    obtain ⟨D', h1, h2, h3⟩ := hD
    have h4 : RwO (((((W5.setCell ⟨w.heap.size, 0, none⟩ (.int .i64 F)).setCell ⟨w.heap.size, 1, none⟩ (.slice (some ⟨g, 0, none⟩) (ltL S).length c)).setCell ⟨w.heap.size + 1, 0, none⟩ (.int .i64 0)).setCell ⟨w.heap.size + 1, 1, none⟩ (.int .i64 0)).setCell ⟨w.heap.size + 1, 2, none⟩ (.int .i64 0)) (W2.heap.size + 4) g c L.length D' := h1.heap (by rw [hSet _ (by omega), hSet _ (by omega), hSet _ (by omega), hSet _ (by omega), hSet _ (by omega)])
    have r := own_row h4.2
    obtain ⟨r1, ao, c', r2, r3, r4⟩ := r
    injection r2 with r5 _ r6
    subst r5 r6
    refine ⟨⟨rowR_len _, _, _, rfl, by omega, ?_⟩, ((((HB5.out.setCell (p := ⟨w.heap.size, 0, none⟩) (Nat.le_refl _) _).setCell (p := ⟨w.heap.size, 1, none⟩) (Nat.le_refl _) _).setCell (p := ⟨w.heap.size + 1, 0, none⟩) (Nat.le_succ _) _).setCell (p := ⟨w.heap.size + 1, 1, none⟩) (Nat.le_succ _) _).setCell (p := ⟨w.heap.size + 1, 2, none⟩) (Nat.le_succ _) _⟩
    rcases r4 with ⟨e, _⟩ | ⟨b, off, e, r4⟩
    · cases e
    · injection e with e
      injection e with e1 e2
      subst e1 e2
      refine .inr ⟨_, _, rfl, fun j u hj => r4 j u ?_⟩
      rw [← h2, ← rowR_take] at hj
      have hjl := (List.getElem?_eq_some_iff.mp hj).1
      rw [List.length_take] at hjl
      rw [← hj, List.getElem?_take_of_lt (by omega)])
  clear hD hb hT5 hF5 HO HT3 HF3 HB3 HB5 KS
  go_wp2
  exact bodyPost_ret (v := .tuple #[.agg #[.int .i64 F, .slice (some ⟨g, 0, none⟩) (ltL S).length c], .agg #[.int .i64 0, .int .i64 0, .int .i64 0]]) (by simp [results, Tryz.results7, go_sem, c0, c1, c2, c3, c4]) rfl ⟨⟨_, rfl, HZ.out.1⟩, HZ.out.2⟩
end Go.Proofs.YtmeaikmmhgmgnaaGreat
namespace Go.Proofs.YtmeaikmmhgmgnaaGreat
open Go.RowKit
set_option linter.unusedSimpArgs false
set_option linter.unusedVariables false

theorem cut_le (x : BitVec 128) (n : Int) : (cutW x n).toNat ≤ x.toNat := by
  rw [cut_nat]; exact Nat.div_mul_le_self _ _
end Go.Proofs.YtmeaikmmhgmgnaaGreat
namespace Go.Proofs.YtmeaikmmhgmgnaaGreat
open Go.RowKit
set_option linter.unusedSimpArgs false
set_option linter.unusedVariables false

def inR (px : BitVec 128) (pn : Int) (r : Rte) : Bool := withinB px pn r.1.1 r.1.2
def RtR (F : Int) (l : List Rte) : Prop := ∀ r ∈ l, Rt F r.1.1 r.1.2
theorem toP_le {y : BitVec 128} {m : Int} {l : List Rte} (hO : OrdR l) {k : Nat} (h : UpTo y m l k) : ∀ (j : Nat) (hj : j < l.length), j < k ↔ pcmpZ l[j].1.1 l[j].1.2 y m ≤ 0 := by
  obtain ⟨hk, i, ok, ⟨h1, h2, h3⟩, h4⟩ := h
  intro j hj
  have hj2 := h2 j hj
  unfold toP at hj2 h3
  constructor
  · intro hjk
    by_cases c : j < i
    · have := hj2.mp c; omega
    · have hji : j = i := by
        rw [h4] at hjk
        split at hjk <;> omega
      subst hji
      have hok : ok = true := by
        cases ok with
        | true => rfl
        | false => rw [h4, if_neg (by simp)] at hjk; omega
      rw [hok, List.getElem?_eq_getElem hj] at h3
      have := of_decide_eq_true h3.symm
      omega
  · intro hle
    by_cases c : j < i
    · rw [h4]; split <;> omega
    · by_cases c2 : pcmpZ l[j].1.1 l[j].1.2 y m < 0
      · exact absurd (hj2.mpr c2) c
      · have h0 : pcmpZ l[j].1.1 l[j].1.2 y m = 0 := by omega
        by_cases c3 : j = i
        · subst c3
          rw [List.getElem?_eq_getElem hj] at h3
          have : ok = true := by rw [h3]; exact decide_eq_true h0
          rw [h4, if_pos this]; omega
        · exfalso
          have hij : i < j := by omega
          have hi := hO i j hj hij
          have e := (pcmp_eq0 _ _ _ _).mp h0
          have hi2 := h2 i (by omega)
          unfold toP at hi2
          rw [← e.1, ← e.2] at hi2
          have := hi2.mpr hi
          omega
theorem in_le {F : Int} {px : BitVec 128} {pn : Int} {r : Rte} (hr : Rt F r.1.1 r.1.2) (h : withinB px pn r.1.1 r.1.2 = true) : pcmpZ r.1.1 r.1.2 px pn ≤ 0 := by
  obtain ⟨h1, h2⟩ := (within_iff _ _ _ _).mp h
  rw [pcmp_le]
  have := cut_le px r.1.2
  rw [h2] at this
  by_cases c : r.1.1.toNat < px.toNat
  · exact .inl c
  · exact .inr ⟨BitVec.eq_of_toNat_eq (by omega), h1⟩
theorem within_trans {F : Int} {x : BitVec 128} {n : Int} {y : BitVec 128} {m : Int} {z : BitVec 128} {k : Int} (hz : 0 ≤ k) (h1 : withinB x n y m = true) (h2 : withinB y m z k = true) : withinB x n z k = true := by
  obtain ⟨a1, a2⟩ := (within_iff _ _ _ _).mp h1
  obtain ⟨b1, b2⟩ := (within_iff _ _ _ _).mp h2
  refine (within_iff _ _ _ _).mpr ⟨by omega, ?_⟩
  rw [← b2, ← a2, cut_cut _ _ _ hz b1]
structure UpS (F : Int) (l : List Rte) (px : BitVec 128) (pn : Int) (nx : BitVec 128) (nn : Int) (k : Nat) (pre : List Rte) : Prop where
  kl : k ≤ l.length
  nr : Rt F nx nn
  pw : withinB px pn nx nn = true
  le : ∀ (j : Nat) (hj : j < l.length), j < k → pcmpZ l[j].1.1 l[j].1.2 nx nn ≤ 0
  has : ∀ (j : Nat) (hj : j < l.length), j < k → inR px pn l[j] = true → withinB nx nn l[j].1.1 l[j].1.2 = true
  pr : pre = ((l.drop k).filter (inR px pn)).reverse
theorem filter_none {px : BitVec 128} {pn : Int} {l : List Rte} : ∀ (d k : Nat), k + d ≤ l.length → (∀ (j : Nat) (hj : j < l.length), k ≤ j → j < k + d → inR px pn l[j] = false) → (l.drop k).filter (inR px pn) = (l.drop (k + d)).filter (inR px pn)
  | 0, k, _, _ => rfl
  | d + 1, k, hk, h => by
    have hkl : k < l.length := by omega
    rw [List.drop_eq_getElem_cons hkl, List.filter_cons_of_neg (by rw [h k hkl (by omega) (by omega)]; simp), filter_none d (k + 1) (by omega) (fun j hj h1 h2 => h j hj (by omega) (by omega)), show k + 1 + d = k + (d + 1) by omega]
theorem up_first {F : Int} {l : List Rte} {px : BitVec 128} {pn : Int} {k : Nat} (hO : OrdR l) (hR : RtR F l) (hp : Rt F px pn) (hk : UpTo px pn l k) : UpS F l px pn px pn k [] := by
  have hj := toP_le hO hk
  have self : withinB px pn px pn = true := (within_iff _ _ _ _).mpr ⟨Int.le_refl _, hp.2.2⟩
  refine ⟨hk.1, hp, self, fun j h1 h2 => (hj j h1).mp h2, fun j h1 _ h3 => h3, ?_⟩
  have e := filter_none (px := px) (pn := pn) (l := l) (l.length - k) k (by have := hk.1; omega) (fun j h1 h2 _ => by
    cases h : inR px pn l[j] with
    | false => rfl
    | true =>
      have := (hj j h1).mpr (in_le (hR _ (List.getElem_mem h1)) h)
      omega)
  rw [e, show k + (l.length - k) = l.length by have := hk.1; omega, List.drop_length]
  rfl
theorem up_step {F : Int} {l : List Rte} {px : BitVec 128} {pn : Int} {nx : BitVec 128} {nn : Int} {k : Nat} {pre : List Rte} (hF : F ≤ 128) (hO : OrdR l) (hR : RtR F l) (hp : Rt F px pn) (s : UpS F l px pn nx nn (k + 1) pre) {k' : Nat} (hk : k < l.length)
    (hU : UpTo (cutW nx (meetN nx nn l[k].1.1 l[k].1.2)) (meetN nx nn l[k].1.1 l[k].1.2) (l.take k) k') :
    withinB nx nn l[k].1.1 l[k].1.2 = inR px pn l[k] ∧ UpS F l px pn (cutW nx (meetN nx nn l[k].1.1 l[k].1.2)) (meetN nx nn l[k].1.1 l[k].1.2) k' (pre ++ if inR px pn l[k] = true then [l[k]] else []) := by
  obtain ⟨rx, rn, hrr⟩ : ∃ rx rn, rx = l[k].1.1 ∧ rn = l[k].1.2 := ⟨_, _, rfl, rfl⟩
  have hr : Rt F l[k].1.1 l[k].1.2 := hR _ (List.getElem_mem hk)
  have hn := s.nr
  have same : withinB nx nn l[k].1.1 l[k].1.2 = inR px pn l[k] := by
    cases h : inR px pn l[k] with
    | true => exact s.has k hk (by omega) h
    | false =>
      cases h2 : withinB nx nn l[k].1.1 l[k].1.2 with
      | false => rfl
      | true =>
        have := within_trans (F := F) hr.1 s.pw h2
        unfold inR at h
        rw [this] at h; cases h
  refine ⟨same, ?_⟩
  have m0 := meetN_nn nx nn l[k].1.1 l[k].1.2 hn.1 hr.1
  have ml := meetN_le nx nn l[k].1.1 l[k].1.2
  have nin : withinB nx nn (cutW nx (meetN nx nn l[k].1.1 l[k].1.2)) (meetN nx nn l[k].1.1 l[k].1.2) = true := (within_iff _ _ _ _).mpr ⟨ml.1, rfl⟩
  have nrt : Rt F (cutW nx (meetN nx nn l[k].1.1 l[k].1.2)) (meetN nx nn l[k].1.1 l[k].1.2) := ⟨m0, by have := hn.2.1; omega, cut_cut _ _ _ m0 (Int.le_refl _)⟩
  have hOt : OrdR (l.take k) := fun a b hb hab => by
    rw [List.length_take] at hb
    have := hO a b (by omega) hab
    simpa [List.getElem_take] using this
  have hlt : (l.take k).length = k := by rw [List.length_take]; omega
  have hj := toP_le hOt hU
  have hk' : k' ≤ k := by have := hU.1; omega
  -- a route further ahead that has the prefix has what is near now
  have key : ∀ (j : Nat) (hjl : j < l.length), j < k → inR px pn l[j] = true → withinB (cutW nx (meetN nx nn l[k].1.1 l[k].1.2)) (meetN nx nn l[k].1.1 l[k].1.2) l[j].1.1 l[j].1.2 = true := by
    intro j hjl hjk hin
    have hrj : Rt F l[j].1.1 l[j].1.2 := hR _ (List.getElem_mem hjl)
    have w1 := s.has j hjl (by omega) hin
    have o1 := hO j k hk hjk
    have o2 := s.le k hk (by omega)
    have w2 := between F l[j].1.1 l[j].1.2 l[k].1.1 l[k].1.2 nx nn hrj hr (by omega) o2 w1
    exact meet_above nx nn l[k].1.1 l[k].1.2 l[j].1.1 l[j].1.2 hrj.1 (by have := hn.2.1; omega) w1 w2
  refine ⟨by omega, nrt, within_trans (F := F) m0 s.pw nin, fun j h1 h2 => ?_, fun j h1 h2 h3 => key j h1 (by omega) h3, ?_⟩
  · have := (hj j (by omega)).mp h2
    simpa [List.getElem_take] using this
  · have e := filter_none (px := px) (pn := pn) (l := l) (k - k') k' (by omega) (fun j h1 h2 h3 => by
      cases h : inR px pn l[j] with
      | false => rfl
      | true =>
        have q := in_le (hR _ (List.getElem_mem h1)) (key j h1 (by omega) h)
        have := (hj j (by omega)).mpr (by simpa [List.getElem_take] using q)
        omega)
    rw [e, show k' + (k - k') = k by omega, s.pr, List.drop_eq_getElem_cons hk]
    by_cases c : inR px pn l[k] = true
    · rw [List.filter_cons_of_pos c, if_pos c]; simp
    · rw [List.filter_cons_of_neg c, if_neg c]; simp
theorem up_end {F : Int} {l : List Rte} {px : BitVec 128} {pn : Int} {nx : BitVec 128} {nn : Int} {pre : List Rte} (s : UpS F l px pn nx nn 0 pre) : pre = (l.filter (inR px pn)).reverse := by
  have := s.pr
  rwa [List.drop_zero] at this
end Go.Proofs.YtmeaikmmhgmgnaaGreat
