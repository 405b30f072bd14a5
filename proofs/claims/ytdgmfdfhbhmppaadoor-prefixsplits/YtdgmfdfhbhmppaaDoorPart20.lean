/-
  Part 20 of the proof: 1 texts, one behind the other.
-/
import Derived.Test.YtdgmfdfhbhmppaaDoorPart19
import Derived.Test.YtdgmfdfhbhmppaaDoorPart18
/-
  What the call of turnpikeref3's Split does.
-/
namespace Go.Proofs.YtdgmfdfhbhmppaaDoor
open Go.RowKit Go.Shelf
set_option linter.unusedSimpArgs false
set_option linter.unusedVariables false

theorem sp_take (F : Int) (hf : fam F = true) (px : BitVec 128) (pl nn : Int) (h : Rt F px pl) (h1 : pl ≤ nn) (h2 : nn ≤ F) (hc : checkE F px pl = 0) (k : Nat) (hk : k < 2 ^ (nn - pl).toNat) : (spL F px pl nn).take (k + 1) = (spL F px pl nn).take k ++ [(xk px nn k, nn)] := by
  have hl : k < (spL F px pl nn).length := by rw [sp_len F px pl nn h1 h2 hc]; exact hk
  have e : (spL F px pl nn).take (k + 1) = (spL F px pl nn).take k ++ [(spL F px pl nn)[k]] := by rw [List.take_add_one, List.getElem?_eq_getElem hl]; rfl
  have q := (sp_at F hf px pl nn h h1 h2 hc ((spL F px pl nn).take k) (spL F px pl nn)[k] (by rw [← e]; exact List.take_prefix _ _)).2
  rw [List.length_take, Nat.min_eq_left (by omega)] at q
  rw [e, q]
/-- The length that a slice's value tells. -/
def slL : Value → Nat
  | .slice _ n _ => n
  | _ => 0
theorem AtP.setW {W : World} {B : Nat} {x : BitVec 128} {n : Int} (k : AtP W B x n) (z : BitVec 128) : AtP ((W.setCell ⟨B, 0, none⟩ (.int .u64 (hI z))).setCell ⟨B, 1, none⟩ (.int .u64 (lI z))) B z n := by
  obtain ⟨a, b, c, d, e, f⟩ := k
  refine ⟨?_, ?_, ?_, ?_, ?_, ?_⟩ <;> simp [go_sem, *]
set_option maxRecDepth 20000 in
set_option maxHeartbeats 8000000 in
theorem rsplit_yes (F : Int) (px : BitVec 128) (pl nn most : Int) (w : World) (hf : fam F = true) (hr : Rt F px pl) (hc : checkE F px pl = 0) (h1 : pl ≤ nn) (h2 : nn ≤ F) (m0 : 0 ≤ most) (m1 : most ≤ 100) :
    Calls Tryd.prog 7 #[.int .i64 F, .agg #[.int .u64 (hI px), .int .u64 (lI px), .int .i64 pl], .int .i64 nn, .int .i64 most] w fun e w' => (∃ v, e = .returned v ∧ w'.ownsRow w.heap.size 26 3 v ((spL F px pl nn).take most.toNat).length (rowP ((spL F px pl nn).take most.toNat))) ∧ Below w.heap.size w w' := by
  obtain ⟨i0, hi, hz0, hz1, hz2⟩ := info_parts Tryd.infoP
  have HQ : Hid (0 < 2 ^ (nn - pl).toNat) := hidX (Nat.pow_pos (by decide))
  have HT := hidX (fun k hk => sp_take F hf px pl nn hr h1 h2 hc k hk)
  have HS := hidX (fun k hk => xk_step F hf px pl nn hr h1 h2 k hk)
  have HLn := hidX (sp_len F px pl nn h1 h2 hc)
  have KC := fun w => rcheck_any F px pl w
  rw [hc] at KC
  have H0 : Hid (xk px nn 0 = px) := hidX (by unfold xk; simp)
  revert HT HLn HS HQ
  generalize spL F px pl nn = L
  generalize 2 ^ (nn - pl).toNat = q
  intro HQ HT HS HLn
  have q1 := bl1 w (.cells #[.int .u64 (hI px), .int .u64 (lI px), .int .i64 pl] 26)
  have HP0 := hidX (atp_new w w.heap.size px pl 26 rfl)
  have HB0 := hidX q1
  have d2 : decide (nn < pl) = false := by simp; omega
  have d3 : decide (F < nn) = false := by simp; omega
  obtain ⟨p0, p1, p2, -, -, -⟩ := HP0.out
  clear q1 hc
  go_enter Tryd.func7, Tryd.ntmps7
  go_wp2_with fail
  refine (KC _).mono ?_
  rintro e w1 ⟨rfl, hb⟩
  have HP1 := hidX (HP0.out.below hb)
  have HB1 := hidX (keepb hb HB0.out)
  clear hb KC HP0 HB0 p0 p1 p2
  obtain ⟨p0, p1, p2, -, -, -⟩ := HP1.out
  go_wp2_with fail
  have q2 := bl1 w1 (.cells #[.int .u64 (hI px), .int .u64 (lI px), .int .i64 nn] 26)
  have HX := hidX (atp_new w1 w1.heap.size px nn 26 rfl)
  have HP2 := hidX (HP1.out.below q2)
  have HB2 := hidX (keepb q2 HB1.out)
  have hsz : w.heap.size < w1.heap.size := HP1.out.lt6
  clear q2 HP1 HB1 p0 p1 p2
  go_loopw [9] (fun l wr => ∃ (k : Nat) (ao : Option Addr) (cap : Nat), l = .slice ao k cap ∧ Hid (k < q ∧ (k : Int) ≤ most) ∧ Hid (wr.ownsRow (w1.heap.size + 1) 26 3 l k (rowP (L.take k))) ∧ Hid (AtP wr w1.heap.size (xk px nn k) nn) ∧ Hid (AtP wr w.heap.size px pl) ∧ Hid (Below w.heap.size w wr))
    (fun l _ => most.toNat - slL l)
  case atStart => exact ⟨0, none, 0, rfl, hidX ⟨HQ.out, m0⟩, hidX (World.ownsRow_nil _ _ _ _), hidX (by rw [H0.out]; exact HX.out), HP2, HB2⟩
  case round =>
    clear HX HP2 HB2
    obtain ⟨k, ao, cap, rfl, HK, HO, HA, HP, HB⟩ := hrel
    have hkm := HK.out.2
    have hk0 : 0 ≤ (k : Int) := by omega
    by_cases c : (k : Int) < most
    · have KL := fun w => rplast_any F (xk px nn k) nn w
      have KN := fun w => rnext_any F (rlastW F (xk px nn k) nn) w
      have KH := fun y w => rhas_any px pl y w
      have h63 : k + 1 ≤ maxLen := by unfold maxLen; omega
      have h47 : (k + 1) * 24 ≤ 140737488355328 := by omega
      have HTk := hidX (HT.out k HK.out.1)
      obtain ⟨HSy, HSn⟩ := HS.out k HK.out.1
      have hEnd : Hid (¬ k + 1 < q → L.take (k + 1) = L.take most.toNat ∧ k + 1 = (L.take most.toNat).length) := hidX (fun h => by
        have h1 := HLn.out
        have h2 := HK.out.1
        have e1 : L.take (k + 1) = L := List.take_of_length_le (by omega)
        have e2 : L.take most.toNat = L := List.take_of_length_le (by omega)
        rw [e1, e2]
        exact ⟨rfl, by omega⟩)
      revert HA KL KN HSy HSn HTk
      generalize xk px nn k = xx
      generalize rlastW F xx nn = la
      intro HA KL KN HTk HSy HSn
      have c' : decide ((k : Int) < most) = true := by simpa using c
      have HSy := hidX HSy
      have HSn := hidX HSn
      have hown := HO.out
      have hgap : some w1.heap.size ≠ (Value.slice ao k cap).ownBlock := fun e => by have := (hown.lt _ e.symm).1; omega
      have hgap2 : some w.heap.size ≠ (Value.slice ao k cap).ownBlock := fun e => by have := (hown.lt _ e.symm).1; omega
      obtain ⟨x0, x1, x2, -, -, -⟩ := HA.out
      have hwr : w1.heap.size < wr.heap.size := HA.out.lt6
      go_wp2_with (first | (
          at_builtin
          refine wpList_append_lies _ rfl _ _ 29 rfl (w1.heap.size + 1) 26 i0 (.agg #[.int .u64 0, .int .u64 0, .int .i64 0]) 3 24 Tryd.underlying29 hi hz0 hz1 hz2 rfl (by decide) _ _ _ rfl (hown.alloc _) ⟨wr.heap.size, 0, none⟩ 1 1 [.int .u64 (hI xx), .int .u64 (lI xx), .int .i64 nn] rfl rfl (by simpa using newsP wr (.int .u64 (hI xx)) (.int .u64 (lI xx)) (.int .i64 nn) 26) (threeP _ _ _) (by decide) h63 h47 (by simp; omega) _ rfl ?_
          intro g4 cap4 w4 hown4 hgrow hat hlt4
          have HA4 := hidX ((HA.out.al _).app hgrow hgap)
          have HP4 := hidX ((HP.out.al _).app hgrow hgap2)
          have hb3 := keepb (bl1 wr (.cells #[.int .u64 (hI xx), .int .u64 (lI xx), .int .i64 nn] 26)) HB.out
          have HB4 := hidX (hb3.grown hgrow hb3.size (fun q hq => by have := (hown.lt q hq).1; omega))
          have HO4 : Hid (w4.ownsRow (w1.heap.size + 1) 26 3 (.slice (some ⟨g4, 0, none⟩) (k + 1) cap4) (k + 1) (rowP (L.take (k + 1)))) := hidX (by rw [HTk.out, rowP_one]; exact hown4)
          clear hgrow hat hown4 hown hgap hgap2 hb3 hlt4 h63 h47 HA HP HB HO x0 x1 x2 HTk
          obtain ⟨x0, x1, x2, -, -, -⟩ := HA4.out))
      refine (KL _).mono ?_
      rintro e w5 ⟨rfl, hb5⟩
      clear x0 x1 x2 KL
      go_wp2_with fail
      refine (KN _).mono ?_
      rintro e w6 ⟨rfl, hb6⟩
      have q6 := bl1 w6 (.cells #[.int .u64 (hI (nextV F la)), .int .u64 (lI (nextV F la))] 24)
      have HA6 := hidX (((HA4.out.below hb5).below hb6).below q6)
      have HP6 := hidX (((HP4.out.below hb5).below hb6).below q6)
      have HB6 := hidX (keepb q6 (keepb hb6 (keepb hb5 HB4.out)))
      have HO6 := hidX (own_below q6 (own_below hb6 (own_below hb5 HO4.out)))
      have HN6 := hidX (at_new w6 w6.heap.size (nextV F la) 24 rfl)
      have hw6 : w1.heap.size < w6.heap.size := ((HA4.out.below hb5).below hb6).lt6
      clear hb5 hb6 q6 HA4 HP4 HB4 HO4 KN
      by_cases cq : k + 1 < q
      · obtain ⟨n1, n2, n3⟩ := HSy.out cq
        have KH := KH (xk px nn (k + 1))
        rw [n3] at KH
        rw [n1]
        rw [n2] at HN6 HA6 HP6 HB6 HO6 ⊢
        clear n1 n2 n3 HSy HSn hEnd
        have HRl : Hid (k + 1 < q ∧ ((k + 1 : Nat) : Int) ≤ most) := hidX ⟨cq, by omega⟩
        have HXk : Hid (∀ W B, AtP W B (xk px nn (k + 1)) nn → AtP W B (xk px nn (k + 1)) nn) := hidX (fun W B h => h)
        obtain ⟨p0, p1, p2, -, -, -⟩ := HP6.out
        obtain ⟨n0, n1, -⟩ := HN6.out
        go_wp2_with fail
        refine (KH _).mono ?_
        rintro e w7 ⟨rfl, hb7⟩
        have HA7 := hidX ((HA6.out.below hb7).setW (xk px nn (k + 1)))
        have HP7 := hidX ((HP6.out.below hb7).heap6 (W' := (w7.setCell ⟨w1.heap.size, 0, none⟩ (.int .u64 (hI (xk px nn (k + 1))))).setCell ⟨w1.heap.size, 1, none⟩ (.int .u64 (lI (xk px nn (k + 1))))) ((hSet6 _ (by omega)).trans (hSet6 _ (by omega))))
        have HB7 := hidX (bset2 (keepb hb7 HB6.out) (C := w1.heap.size) (by omega) (.int .u64 (hI (xk px nn (k + 1)))) (.int .u64 (lI (xk px nn (k + 1)))))
        have hO7 := own_below hb7 HO6.out
        have hne : (Value.slice (some ⟨g4, 0, none⟩) (k + 1) cap4).ownBlock ≠ some w1.heap.size := fun e => by have := (hO7.lt _ e).1; omega
        have HO7 := hidX (own_set (own_set hO7 ⟨w1.heap.size, 0, none⟩ (.int .u64 (hI (xk px nn (k + 1)))) hne) ⟨w1.heap.size, 1, none⟩ (.int .u64 (lI (xk px nn (k + 1)))) hne)
        have HN7 := hidX (HN6.out.below hb7)
        obtain ⟨n0', n1', -⟩ := HN7.out
        obtain ⟨a0, a1, a2, af0, af1, af2⟩ := HA6.out.below hb7
        clear hb7 hO7 hne HA6 HP6 HB6 HO6 HN6 HN7 p0 p1 p2 n0 n1 KH
        go_wp2
        go_roundw
        case rel => exact ⟨k + 1, some ⟨g4, 0, none⟩, cap4, rfl, HRl, HO7, HA7, HP7, HB7⟩
        case measure => simp only [slL]; omega
      · obtain ⟨t1, t2⟩ := hEnd.out cq
        clear HSy hEnd
        have hfin : ∀ W, Below (w6.alloc (.cells #[.int .u64 (hI (nextV F la)), .int .u64 (lI (nextV F la))] 24)).heap.size (w6.alloc (.cells #[.int .u64 (hI (nextV F la)), .int .u64 (lI (nextV F la))] 24)) W → W.ownsRow w.heap.size 26 3 (.slice (some ⟨g4, 0, none⟩) (k + 1) cap4) (L.take most.toNat).length (rowP (L.take most.toNat)) ∧ Below w.heap.size w W := fun W hb => ⟨by rw [← t1, show (L.take (k + 1)).length = k + 1 by rw [t1]; exact t2.symm]; exact own_base (own_below hb HO6.out) (by omega), keepb hb HB6.out⟩
        have HFin := hidX hfin
        clear hfin t1 t2 HO6 HB6 HA6
        cases hnb : nextB F la with
        | false =>
          clear HSn
          go_wp2
          refine bodyPost_ret (v := .slice (some ⟨g4, 0, none⟩) (k + 1) cap4) (by simp [results, Tryd.results7, go_sem, *]) rfl ⟨⟨_, rfl, (HFin.out _ (Below.refl _ _)).1⟩, (HFin.out _ (Below.refl _ _)).2⟩
        | true =>
          have n3 := HSn.out cq hnb
          have KH := KH (nextV F la)
          rw [n3] at KH
          clear HSn n3
          obtain ⟨p0, p1, p2, -, -, -⟩ := HP6.out
          obtain ⟨n0, n1, -⟩ := HN6.out
          go_wp2_with fail
          refine (KH _).mono ?_
          rintro e w7 ⟨rfl, hb7⟩
          have HG := hidX (HFin.out _ hb7)
          clear hb7 HFin HP6 HN6 p0 p1 p2 n0 n1 KH
          go_wp2
          refine bodyPost_ret (v := .slice (some ⟨g4, 0, none⟩) (k + 1) cap4) (by simp [results, Tryd.results7, go_sem, *]) rfl ⟨⟨_, rfl, HG.out.1⟩, HG.out.2⟩
    · have c' : decide ((k : Int) < most) = false := by simpa using c
      have hkk : k = most.toNat := by omega
      have hle : k ≤ L.length := by have := HLn.out; have := HK.out.1; omega
      have HG : Hid (wr.ownsRow w.heap.size 26 3 (.slice ao k cap) (L.take most.toNat).length (rowP (L.take most.toNat))) := hidX (by
        rw [← hkk, List.length_take, Nat.min_eq_left hle]
        exact own_base HO.out (by omega))
      have HB' := HB
      clear HO HA HP HB hkk hle HS HT
      go_wp2
      refine bodyPost_ret (v := .slice ao k cap) (by simp [results, Tryd.results7, go_sem, *]) rfl ⟨⟨_, rfl, by have h := HG.out; rw [List.length_take] at h; exact h⟩, HB'.out⟩
set_option maxHeartbeats 4000000 in
theorem rsplit_any (F : Int) (px : BitVec 128) (pl nn most : Int) (w : World) (m0 : 0 ≤ most) (m1 : most ≤ 100) :
    Calls Tryd.prog 7 #[.int .i64 F, .agg #[.int .u64 (hI px), .int .u64 (lI px), .int .i64 pl], .int .i64 nn, .int .i64 most] w fun e w' => (∃ v, e = .returned v ∧ w'.ownsRow w.heap.size 26 3 v ((spL F px pl nn).take most.toNat).length (rowP ((spL F px pl nn).take most.toNat))) ∧ Below w.heap.size w w' := by
  by_cases hy : checkE F px pl = 0 ∧ pl ≤ nn ∧ nn ≤ F
  · exact rsplit_yes F px pl nn most w (fam_of_check hy.1) (rt_of_check hy.1) hy.1 hy.2.1 hy.2.2 m0 m1
  · have hL : spL F px pl nn = [] := by rw [spL, if_neg hy]
    rw [hL, List.take_nil]
    have KC := fun w => rcheck_any F px pl w
    have q1 := bl1 w (.cells #[.int .u64 (hI px), .int .u64 (lI px), .int .i64 pl] 26)
    have HP0 := hidX (atp_new w w.heap.size px pl 26 rfl)
    have HB0 := hidX q1
    obtain ⟨p0, p1, p2, -, -, -⟩ := HP0.out
    have hd : (checkE F px pl != 0) = true ∨ ((checkE F px pl != 0) = false ∧ decide (nn < pl) = true) ∨ ((checkE F px pl != 0) = false ∧ decide (nn < pl) = false ∧ decide (F < nn) = true) := by
      by_cases a : checkE F px pl = 0
      · by_cases b : pl ≤ nn
        · exact .inr (.inr ⟨by simp [a], by simp; omega, by simp; apply Classical.byContradiction; intro x; exact hy ⟨a, b, by omega⟩⟩)
        · exact .inr (.inl ⟨by simp [a], by simp; omega⟩)
      · exact .inl (by simp [a])
    clear hy hL q1
    revert KC hd
    generalize checkE F px pl = z
    intro KC hd
    go_enter Tryd.func7, Tryd.ntmps7
    go_wp2_with fail
    refine (KC _).mono ?_
    rintro e w1 ⟨rfl, hb⟩
    have HP1 := hidX (HP0.out.below hb)
    have HB1 := hidX (keepb hb HB0.out)
    clear hb KC HP0 HB0 p0 p1 p2
    obtain ⟨p0, p1, p2, -, -, -⟩ := HP1.out
    rcases hd with d1 | ⟨d1, d2⟩ | ⟨d1, d2, d3⟩
    all_goals
      go_wp2
      exact bodyPost_ret (v := .slice none 0 0) (by simp [results, Tryd.results7, go_sem, *]) rfl ⟨⟨_, rfl, World.ownsRow_nil _ _ _ _⟩, HB1.out⟩
end Go.Proofs.YtdgmfdfhbhmppaaDoor
