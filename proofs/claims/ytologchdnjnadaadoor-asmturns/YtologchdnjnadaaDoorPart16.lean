/-
  Part 16 of the proof: 2 texts, one behind the other.
-/
import Derived.Test.YtologchdnjnadaaDoorPart15
import Derived.Test.YtologchdnjnadaaDoorPart11
/-
  The document's line (walk).
-/
namespace Go.Proofs.YtologchdnjnadaaDoor
open Go.RowKit
set_option linter.unusedSimpArgs false
set_option linter.unusedVariables false

theorem str_cell {W : World} {base : Nat} {vo : Option Addr} {vc : Nat} {P : List ByteArray} (h : W.ownsRow base 9 1 (.slice vo P.length vc) P.length (P.map cS)) (k : Nat) (x : ByteArray) (hk : P[k]? = some x) : ∃ b off, vo = some ⟨b, off, none⟩ ∧ W.cell? ⟨b, off + k, none⟩ = some (.string x) := by
  obtain ⟨ao', cp', e, hc, hq⟩ := own_rwx (l := P) (f := cS) h
  injection e with e1 e2 e3
  rcases hq with hq | ⟨g, off, e4, hq⟩
  · subst hq; simp at hk
  · exact ⟨g, off, by rw [e1, e4], hq k x hk⟩
theorem str_cells {W : World} {base : Nat} {b off : Nat} {vc : Nat} {P : List ByteArray} (h : W.ownsRow base 9 1 (.slice (some ⟨b, off, none⟩) P.length vc) P.length (P.map cS)) (k : Nat) (x : ByteArray) (hk : P[k]? = some x) : W.cell? ⟨b, off + k, none⟩ = some (.string x) := by
  obtain ⟨b', off', e, hc⟩ := str_cell h k x hk
  injection e with e
  injection e with e1 e2 e3
  subst e1 e2
  exact hc
theorem opU_le (p : ByteArray) : ∀ j, opU p j ≤ j - 1
  | 0 => Nat.zero_le _
  | j + 1 => by
    unfold opU
    split
    · omega
    · have := opU_le p j; omega
set_option maxRecDepth 20000 in
set_option maxHeartbeats 16000000 in
theorem rdline_any (s : ByteArray) (w : World) (hs : s.size ≤ 1000000) :
    Calls Tryd.prog 22 #[.string s] w fun e w' => ∃ v', e = .returned (.tuple #[v', .int .i64 (lineD (fr s 0)).1]) ∧ w'.ownsRow w.heap.size 5 1 v' (lineD (fr s 0)).2.length ((lineD (fr s 0)).2.map cB) ∧ Below w.heap.size w w' := by
  obtain ⟨i0, hi, hz0, hz1, hz2⟩ := info13 Tryd.infoU13
  have K1 := rpieces_any s w hs
  obtain ⟨res, hres⟩ : ∃ res, res = lineD (fr s 0) := ⟨_, rfl⟩
  rw [← hres]
  have HRES := hid13 hres
  have HPL : Hid ((spl (fr s 0)).length ≤ 1000001) := hid13 (by
    have h : ∀ X : List UInt8, (spl X).length ≤ X.length + 1 := by
      intro X
      induction X with
      | nil => simp [spl]
      | cons c t ih =>
        unfold spl
        split
        · simp; omega
        · split
          · rename_i h r e; rw [e] at ih; simp at ih ⊢; omega
          · simp
    have := h (fr s 0)
    rw [fr_len] at this
    omega)
  clear hres hs
  go_enter Tryd.func22, Tryd.ntmps22
  go_wp2_with fail
  refine K1.mono ?_
  rintro e w1 ⟨v, P, rfl, ho, hb, hP⟩
  obtain ⟨vo, vc, hvf⟩ := own_form ho
  subst hvf
  have HB1 := hid13 hb
  have HO1 := hid13 ho
  have HPs := hid13 hP
  have hPl : P.length ≤ 1000001 := by have := HPL.out; rw [← hP, List.length_map] at this; exact this
  have HPl := hid13 hPl
  clear K1 ho hb hP hPl
  by_cases h2 : P.length < 2
  · have h2i : (P.length : Int) < 2 := by omega
    have HR : Hid (res = (5, [])) := hid13 (by
      rw [HRES.out]
      unfold lineD
      rw [← HPs.out]
      match P, h2 with
      | [], _ => rfl
      | [_], _ => rfl)
    clear h2
    go_wp2
    exact bodyPost_ret (v := .tuple #[.slice none 0 0, .int .i64 5]) (by simp [results, Tryd.results22, go_sem]) rfl ⟨_, by rw [HR.out], by rw [HR.out]; exact World.ownsRow_nil _ _ _ _, HB1.out⟩
  obtain ⟨p0, p1, R, hPd⟩ : ∃ p0 p1 R, P = p0 :: p1 :: R := by
    match P, h2 with
    | [], h => simp at h
    | [_], h => simp at h
    | p0 :: p1 :: R, _ => exact ⟨p0, p1, R, rfl⟩
  have h2i : ¬ (P.length : Int) < 2 := by omega
  have hi0 : (0 : Int) < (P.length : Int) := by omega
  have hi1 : (1 : Int) < (P.length : Int) := by omega
  have HPd := hid13 hPd
  obtain ⟨b, off, hvo, c0⟩ := str_cell HO1.out 0 p0 (by rw [hPd]; rfl)
  subst hvo
  have c1 := str_cells HO1.out 1 p1 (by rw [hPd]; rfl)
  rw [Nat.add_zero] at c0
  have HLD : Hid (res = if fr p0 0 = nmL 0 then (match wordD (fr p1 0) with | some v => if R.map (fun x => fr x 0) = [] then (0, by4 v) else (5, []) | none => (5, [])) else if opD (fr p0 0) = 0 then (5, []) else match numD (fr p1 0) with | none => (5, []) | some n => if opD (fr p0 0) ≠ 2 ∧ R.map (fun x => fr x 0) ≠ [] then (5, []) else wdK (opD (fr p0 0)) n [] R) := hid13 (by
    rw [HRES.out]
    unfold lineD
    rw [← HPs.out, hPd]
    show (if fr p0 0 = nmL 0 then _ else _) = _
    by_cases q : fr p0 0 = nmL 0
    · rw [if_pos q, if_pos q]
      cases wordD (fr p1 0) <;> rfl
    · rw [if_neg q, if_neg q]
      by_cases q2 : opD (fr p0 0) = 0
      · rw [if_pos q2, if_pos q2]
      · rw [if_neg q2, if_neg q2]
        cases numD (fr p1 0) with
        | none => rfl
        | some n =>
          show (if _ then _ else _) = (if _ then _ else _)
          congr 1)
  have HRl : Hid (R = [] ↔ P.length = 2) := hid13 (by rw [hPd]; simp)
  clear hPd h2
  by_cases hw0 : p0 = ⟨#[119, 111, 114, 100]⟩
  · have HLW : Hid (res = match wordD (fr p1 0) with | some v => if R.map (fun x => fr x 0) = [] then (0, by4 v) else (5, []) | none => (5, [])) := hid13 (by rw [HLD.out, if_pos (by rw [hw0]; rfl)])
    rw [hw0] at c0
    have KW := rdword_any p1 w1
    clear hw0 HLD
    go_wp2_with fail
    refine KW.mono ?_
    rintro e w2 ⟨rfl, hw2⟩
    replace hw2 := hw2.symm
    subst hw2
    clear KW
    cases hx : wordD (fr p1 0) with
    | none =>
      have HR : Hid (res = (5, [])) := hid13 (by rw [HLW.out, hx])
      simp only [woV, Option.getD_none, Option.isSome_none]
      clear hx
      go_wp2
      exact bodyPost_ret (v := .tuple #[.slice none 0 0, .int .i64 5]) (by simp [results, Tryd.results22, go_sem]) rfl ⟨_, by rw [HR.out], by rw [HR.out]; exact World.ownsRow_nil _ _ _ _, HB1.out⟩
    | some x =>
      simp only [woV, Option.getD_some, Option.isSome_some]
      have hxl : x < 4294967296 := by
        unfold wordD at hx
        split at hx
        · have := hxP_bd15 8 0 _ x hx
          have e : (0 + 1) * 16 ^ 8 = 4294967296 := by decide
          omega
        · cases hx
      by_cases h3 : P.length = 2
      · have h3i : ¬ (2 : Int) < (P.length : Int) := by omega
        have HR : Hid (res = (0, by4 x)) := hid13 (by rw [HLW.out, hx]; simp only; rw [if_pos (by rw [HRl.out.2 h3]; rfl)])
        have KP := rput13 none [] x 4 4 rfl (by decide) (by decide) w1 ⟨by simp, none, 0, rfl, Nat.le_refl _, .inl ⟨rfl, rfl, rfl⟩⟩ (by simp) hxl
        rw [lastB_four x hxl] at KP
        simp only [List.length_nil] at KP
        clear hx hxl h3
        go_wp2_with fail
        refine KP.mono ?_
        rintro e w3 ⟨v3, rfl, ho3, hb3⟩
        have HF := hid13 (own_wide13 (base' := w.heap.size) ho3 HB1.out.size)
        have HB3 := hid13 (keepb hb3 HB1.out)
        clear KP ho3 hb3
        go_wp2
        exact bodyPost_ret (v := .tuple #[v3, .int .i64 0]) (by simp [results, Tryd.results22, go_sem]) rfl ⟨_, by rw [HR.out], by rw [HR.out]; exact HF.out, HB3.out⟩
      · have h3i : (2 : Int) < (P.length : Int) := by omega
        have HR : Hid (res = (5, [])) := hid13 (by rw [HLW.out, hx]; simp only; rw [if_neg (by intro e; exact h3 (HRl.out.1 (List.map_eq_nil_iff.1 e)))])
        clear hx hxl h3
        go_wp2
        exact bodyPost_ret (v := .tuple #[.slice none 0 0, .int .i64 5]) (by simp [results, Tryd.results22, go_sem]) rfl ⟨_, by rw [HR.out], by rw [HR.out]; exact World.ownsRow_nil _ _ _ _, HB1.out⟩
  have hn1 : (p0.toList == [119, 111, 114, 100]) = false := by
    rw [beq_eq_false_iff_ne, ByteArray.toList_eq]
    intro e
    exact hw0 (by apply ByteArray.ext; apply Array.toList_inj.1; exact e)
  have HLN : Hid (res = if opD (fr p0 0) = 0 then (5, []) else match numD (fr p1 0) with | none => (5, []) | some n => if opD (fr p0 0) ≠ 2 ∧ R.map (fun x => fr x 0) ≠ [] then (5, []) else wdK (opD (fr p0 0)) n [] R) := hid13 (by rw [HLD.out, if_neg (by intro e; exact hw0 (ba_eq.2 e))])
  have q2 := bl1 w1 (.cells #[.int .i64 0, .int .i64 0, .slice none 0 0] 45)
  have HM0 : Hid (LdM w w1.heap.size 0 0 (.slice (some ⟨b, off, none⟩) P.length vc) P (.slice none 0 0) [] (w1.alloc (.cells #[.int .i64 0, .int .i64 0, .slice none 0 0] 45))) := hid13 ⟨own_b13 q2 HO1.out, Array.getElem?_push_size, World.ownsRow_nil _ _ _ _, keepb q2 HB1.out, HB1.out.size⟩
  clear q2 HLD hw0 HO1 HB1
  go_wp2_with fail
  clear c0 c1 hn1
  go_loopg [8] 4 (fun g x8 wr => ∃ j : Nat, j + g = 5 ∧ 1 ≤ j ∧ x8 = .int .i64 (j : Int) ∧ Hid (LdM w w1.heap.size (opU p0 j) 0 (.slice (some ⟨b, off, none⟩) P.length vc) P (.slice none 0 0) [] wr))
  case atStart => exact ⟨1, by omega, by omega, rfl, hid13 HM0.out⟩
  case round =>
    clear HM0
    obtain ⟨j, hj, hj1, rfl, HM⟩ := hrel
    have c0 := str_cells HM.out.p 0 p0 (by rw [HPd.out]; rfl)
    rw [Nat.add_zero] at c0
    by_cases hle : j ≤ 4
    · have hli : (j : Int) ≤ 4 := by omega
      have KN := fun W => rdname_any j hj1 hle W
      have mj : IntKind.i64.wrap ((j : Int) + 1) = (j : Int) + 1 := by rw [IntKind.wrap_i64]; omega
      have hU : opU p0 (j + 1) = if p0 = nmS j then j else opU p0 j := by
        show (if j ≠ 0 ∧ p0 = nmS j then j else opU p0 j) = _
        by_cases q : p0 = nmS j
        · rw [if_pos ⟨by omega, q⟩, if_pos q]
        · rw [if_neg (fun h => q h.2), if_neg q]
      have HJ : Hid (j + gk = 5 ∧ 1 ≤ j ∧ j ≤ 4) := ⟨hj, hj1, hle⟩
      by_cases hq : p0 = nmS j
      · rw [if_pos hq] at hU
        have HU := hid13 hU
        have he : (p0.toList == (nmS j).toList) = true := by rw [hq]; simp
        obtain ⟨Nj, hNj⟩ : ∃ Nj, Nj = nmS j := ⟨_, rfl⟩
        rw [← hNj] at KN he
        clear hU hq hNj hj hj1 hle
        go_wp2
        go_quiet ((go_at_call 19; exact Calls.quiet_of_same (KN _)))
        have HM2 := hid13 (HM.out.below (below_drewN (Below.refl _ _) nq))
        have d0 := HM2.out.c.1
        have f0 := HM2.out.free 0
        have HM3 := hid13 (HM2.out.setO (j : Int))
        clear HM HM2 c0 KN
        generalize wr.drewN nq = W at *
        go_wp2
        go_roundg (gk - 1)
        case measure => have := HJ.out; omega
        case rel => exact ⟨j + 1, by have := HJ.out; omega, by omega, rfl, hid13 (by rw [HU.out]; exact HM3.out)⟩
      · rw [if_neg hq] at hU
        have HU := hid13 hU
        have he : (p0.toList == (nmS j).toList) = false := by
          rw [beq_eq_false_iff_ne, ByteArray.toList_eq, ByteArray.toList_eq]
          intro e
          exact hq (by apply ByteArray.ext; apply Array.toList_inj.1; exact e)
        obtain ⟨Nj, hNj⟩ : ∃ Nj, Nj = nmS j := ⟨_, rfl⟩
        rw [← hNj] at KN he
        clear hU hq hNj hj hj1 hle
        go_wp2
        go_quiet ((go_at_call 19; exact Calls.quiet_of_same (KN _)))
        have HM2 := hid13 (HM.out.below (below_drewN (Below.refl _ _) nq))
        clear HM c0 KN
        generalize wr.drewN nq = W at *
        go_wp2
        go_roundg (gk - 1)
        case measure => have := HJ.out; omega
        case rel => exact ⟨j + 1, by have := HJ.out; omega, by omega, rfl, hid13 (by rw [HU.out]; exact HM2.out)⟩
    · have hli : ¬ (j : Int) ≤ 4 := by omega
      obtain rfl : j = 5 := by omega
      rw [opU_D] at HM
      have hO4 : opD (fr p0 0) ≤ 4 := by rw [← opU_D]; exact opU_le p0 5
      obtain ⟨O, hO⟩ : ∃ O, O = opD (fr p0 0) := ⟨_, rfl⟩
      rw [← hO] at HM HLN hO4
      have HO4 := hid13 hO4
      have c1 := str_cells HM.out.p 1 p1 (by rw [HPd.out]; rfl)
      have KU := rdnumber_any p1 wr
      have f1 := HM.out.free 1
      have d1 := HM.out.c.2.1
      clear hle hj hj1 hO c0
      obtain ⟨nu, hnu⟩ : ∃ nu, nu = nuI (numD (fr p1 0)) := ⟨_, rfl⟩
      rw [← hnu] at KU
      have HNU := hid13 hnu
      clear hnu
      have HM1 := hid13 (HM.out.setN nu)
      go_wp2_with fail
      refine KU.mono ?_
      rintro e w2 ⟨rfl, hw2⟩
      replace hw2 := hw2.symm
      subst hw2
      clear KU HM
      generalize hW3 : wr.setCell ⟨w1.heap.size, 1, none⟩ (.int .i64 nu) = W3 at *
      obtain ⟨e0, e1, e2⟩ := HM1.out.c
      by_cases hO0 : O = 0
      · have HR : Hid (res = (5, [])) := hid13 (by rw [HLN.out, if_pos hO0])
        rw [hO0] at e0
        clear hO0 hO4
        go_wp2
        exact bodyPost_ret (v := .tuple #[.slice none 0 0, .int .i64 5]) (by simp [results, Tryd.results22, go_sem]) rfl ⟨_, by rw [HR.out], by rw [HR.out]; exact World.ownsRow_nil _ _ _ _, HM1.out.b⟩
      have hO0i : ((O : Int) == 0) = false := by rw [beq_eq_false_iff_ne]; omega
      cases hnn : numD (fr p1 0) with
      | none =>
        have HR : Hid (res = (5, [])) := hid13 (by rw [HLN.out, if_neg hO0, hnn])
        have hneg : nu < 0 := by rw [HNU.out, hnn]; decide
        clear hO0 hO4 hnn
        go_wp2
        exact bodyPost_ret (v := .tuple #[.slice none 0 0, .int .i64 5]) (by simp [results, Tryd.results22, go_sem]) rfl ⟨_, by rw [HR.out], by rw [HR.out]; exact World.ownsRow_nil _ _ _ _, HM1.out.b⟩
      | some n =>
        have hnn2 : nu = (n : Int) := by rw [HNU.out, hnn]; rfl
        have HLM : Hid (res = if O ≠ 2 ∧ R.map (fun x => fr x 0) ≠ [] then (5, []) else wdK O n [] R) := hid13 (by rw [HLN.out, if_neg hO0, hnn])
        clear hO0 hO4 hnn HNU HLN
        subst hnn2
        have hneg : ¬ (n : Int) < 0 := by omega
        by_cases hbad : O ≠ 2 ∧ P.length ≠ 2
        · have HR : Hid (res = (5, [])) := hid13 (by rw [HLM.out, if_pos ⟨hbad.1, fun e => hbad.2 (HRl.out.1 (List.map_eq_nil_iff.1 e))⟩])
          have hO2 : ((O : Int) == 2) = false := by rw [beq_eq_false_iff_ne]; have := hbad.1; omega
          have hO2' : ((O : Int) != 2) = true := by simp; have := hbad.1; omega
          have h3i : (2 : Int) < (P.length : Int) := by have := hbad.2; omega
          clear hbad
          go_wp2
          exact bodyPost_ret (v := .tuple #[.slice none 0 0, .int .i64 5]) (by simp [results, Tryd.results22, go_sem]) rfl ⟨_, by rw [HR.out], by rw [HR.out]; exact World.ownsRow_nil _ _ _ _, HM1.out.b⟩
        · have HR : Hid (res = wdK O n [] R) := hid13 (by
            rw [HLM.out, if_neg]
            intro ⟨q1, q2⟩
            exact hbad ⟨q1, fun e => q2 (by rw [HRl.out.2 e]; rfl)⟩)
          have HS0 : Hid (LdM w w1.heap.size O n (.slice (some ⟨b, off, none⟩) P.length vc) P (.slice none 0 0) [] W3 ∧ wdK O n [] (P.drop 2) = res ∧ ([] : List (BitVec 32)).length ≤ 2) := hid13 ⟨HM1.out, by rw [HR.out, HPd.out]; rfl, by simp⟩
          clear HLM HR HM1
          by_cases hO2 : O = 2
          · have hO2' : ((O : Int) != 2) = false := by simp; omega
            clear hbad hO2
            go_wp2
            go_loopg [9, 10, 11] (P.length - 2) (fun g x9 x10 x11 wr => ∃ (k : Nat) (M : List (BitVec 32)) (ao : Option Addr) (ac : Nat), k + g = P.length ∧ x9 = .int .i64 (k : Int) ∧ Hid (LdM w w1.heap.size O n (.slice (some ⟨b, off, none⟩) P.length vc) P (.slice ao M.length ac) M wr ∧ wdK O n M (P.drop k) = res ∧ M.length ≤ k))
            case atStart => exact ⟨2, [], none, 0, by have := h2i; omega, rfl, hid13 HS0.out⟩
            case round =>
              clear HS0
              obtain ⟨k, M, ao, ac, hk, rfl, HM⟩ := hrel
              by_cases hlt : k < P.length
              · have hli : (k : Int) < (P.length : Int) := by omega
                obtain ⟨x, hx⟩ : ∃ x, P[k]? = some x := ⟨P[k], by simp [hlt]⟩
                have cx := str_cells HM.out.1.p k x hx
                have hdr : P.drop k = x :: P.drop (k + 1) := by rw [List.drop_eq_getElem_cons hlt]; rw [List.getElem?_eq_getElem hlt] at hx; injection hx with hx; rw [hx]
                have HD := hid13 hdr
                have HK : Hid (k + gk = P.length ∧ k < P.length) := ⟨hk, hlt⟩
                have KW := rdword_any x wr
                have hk0 : (0 : Int) ≤ (k : Int) := by omega
                have hkn : ((k : Int)).toNat = k := by omega
                clear hx hdr hk hlt
                go_wp2_with fail
                refine KW.mono ?_
                rintro e w5 ⟨rfl, hw5⟩
                replace hw5 := hw5.symm
                subst hw5
                clear KW cx hkn
                cases hv : wordD (fr x 0) with
                | none =>
                  have HR2 : Hid (res = (5, [])) := hid13 (by rw [← HM.out.2.1, HD.out, wdK_no hv])
                  simp only [woV, Option.getD_none, Option.isSome_none]
                  clear hv
                  go_wp2
                  exact bodyPost_ret (v := .tuple #[.slice none 0 0, .int .i64 5]) (by simp [results, Tryd.results22, go_sem]) rfl ⟨_, by rw [HR2.out], by rw [HR2.out]; exact World.ownsRow_nil _ _ _ _, HM.out.1.b⟩
                | some u =>
                  simp only [woV, Option.getD_some, Option.isSome_some]
                  have hul : u < 4294967296 := by
                    unfold wordD at hv
                    split at hv
                    · have := hxP_bd15 8 0 _ u hv
                      have e : (0 + 1) * 16 ^ 8 = 4294967296 := by decide
                      omega
                    · cases hv
                  have HR2 : Hid (wdK O n (M ++ [BitVec.ofNat 32 u]) (P.drop (k + 1)) = res) := hid13 (by rw [← wdK_go hv, ← HD.out]; exact HM.out.2.1)
                  have hu : (u : Int) = uI (BitVec.ofNat 32 u) := (uI_of u hul).symm
                  have HC : Hid (.int .u32 (u : Int) = cU (BitVec.ofNat 32 u)) := hid13 (by unfold cU; rw [hu])
                  clear hv hul hu HD
                  have hkw : IntKind.i64.wrap ((k : Int) + 1) = (k : Int) + 1 := by rw [IntKind.wrap_i64]; have := HK.out.2; have := HPl.out; omega
                  have h63 : M.length + 1 ≤ maxLen := by unfold maxLen; have := HM.out.2.2; have := HK.out; have := HPl.out; omega
                  have h47 : (M.length + 1) * 4 ≤ 140737488355328 := by have := HM.out.2.2; have := HK.out; have := HPl.out; omega
                  have q9 := bl1 wr (.cells #[.int .u32 (u : Int)] 48)
                  have hO := own_b13 q9 HM.out.1.m
                  have hsz : w.heap.size ≤ (wr.alloc (.cells #[.int .u32 (u : Int)] 48)).heap.size := Nat.le_trans HM.out.1.b.size q9.size
                  have HM9 := hid13 (HM.out.1.below q9)
                  have HML := hid13 HM.out.2.2
                  have HO := hid13 hO
                  have HSZ := hid13 hsz
                  have H47 : Hid (M.length + 1 ≤ maxLen ∧ (M.length + 1) * 4 ≤ 140737488355328) := ⟨h63, h47⟩
                  have c2 := HM.out.1.c.2.2
                  clear q9 hO hsz h63 h47 HM
                  go_wp2_with (at_builtin; apply stopHere9)
                  refine (show wpList _ _ _ _ _ _ from ?_)
                  refine wpList_append_lies _ rfl _ _ 43 rfl w.heap.size 48 i0 (.int .u32 0) 1 4 Tryd.underlying43 hi hz0 hz1 hz2 rfl (by decide) _ _ _ rfl HO.out ⟨wr.heap.size, 0, none⟩ 1 1 [.int .u32 (u : Int)] rfl rfl (news13 (by simp [go_sem])) (by intro u hu; simp at hu; subst hu; rfl) (by decide) H47.out.1 H47.out.2 HSZ.out _ rfl ?_
                  intro g4 cap4 w4 hown4 hgrow hat hlt4
                  have hw4 : w4.ownsRow w.heap.size 48 1 (.slice (some ⟨g4, 0, none⟩) (M.length + 1) cap4) (M ++ [BitVec.ofNat 32 u]).length ((M ++ [BitVec.ofNat 32 u]).map cU) := by
                    have e1 : (M ++ [BitVec.ofNat 32 u]).length = M.length + 1 := by simp
                    have e2 : (M ++ [BitVec.ofNat 32 u]).map cU = M.map cU ++ [.int .u32 (u : Int)] := by rw [List.map_append, HC.out]; rfl
                    rw [e1, e2]; exact hown4
                  obtain ⟨hz4, hi4⟩ := HM9.out.app hgrow hw4
                  have HZ := hid13 hz4
                  have d2 := at_b15 hi4 2 _ rfl
                  have f2 := fr_b15 (j := 2) hi4
                  clear hgrow hat hown4 hlt4 hw4 HM9 HO HSZ H47 c2 hi4 hz4
                  go_wp2
                  go_roundg (gk - 1)
                  case measure => have := HK.out; omega
                  case rel => exact ⟨k + 1, M ++ [BitVec.ofNat 32 u], _, _, by have := HK.out; omega, rfl, hid13 ⟨by simpa using HZ.out, HR2.out, by have := HML.out; simp; omega⟩⟩
              · have hli : ¬ (k : Int) < (P.length : Int) := by omega
                obtain rfl : k = P.length := by omega
                have HR2 : Hid (res = (chkE O n M, enL [] O n M)) := hid13 (by rw [← HM.out.2.1, List.drop_length, wdK_end])
                obtain ⟨c0, c1, c2⟩ := HM.out.1.c
                have HI := HM.out.1.i
                clear hlt
                by_cases hz : chkE O n M = 0
                · have KE := rencode14 O n (.slice ao M.length ac) M wr (own_rwx HM.out.1.m) hz
                  have HE : Hid (enL [] O n M = wdB O n M ∧ chkE O n M = 0) := hid13 ⟨by unfold enL; rw [if_pos hz]; simp, hz⟩
                  clear hz
                  go_wp2_with fail
                  refine KE.mono ?_
                  rintro e w6 ⟨v6, rfl, ho6, hb6⟩
                  have HB6 := hid13 (keepb hb6 HM.out.1.b)
                  have HO6 := hid13 (own_wide13 (base' := w.heap.size) ho6 HM.out.1.b.size)
                  clear KE ho6 hb6 HM c0 c1 c2 HI
                  go_wp2
                  exact bodyPost_ret (v := .tuple #[v6, .int .i64 0]) (by simp [results, Tryd.results22, go_sem]) rfl ⟨_, by rw [HR2.out, HE.out.2], by rw [HR2.out]; simp only; rw [HE.out.1]; exact HO6.out, HB6.out⟩
                · have KE := rencode14_no O n (.slice ao M.length ac) M wr (own_rwx HM.out.1.m) hz
                  have HE : Hid (enL [] O n M = []) := hid13 (by unfold enL; rw [if_neg hz])
                  obtain ⟨z, hzz⟩ : ∃ z, z = chkE O n M := ⟨_, rfl⟩
                  rw [← hzz] at KE HR2
                  clear hz hzz
                  go_wp2_with fail
                  refine KE.mono ?_
                  rintro e w6 ⟨rfl, hb6⟩
                  have HB6 := hid13 (keepb hb6 HM.out.1.b)
                  clear KE hb6 HM c0 c1 c2 HI
                  go_wp2
                  exact bodyPost_ret (v := .tuple #[.slice none 0 0, .int .i64 z]) (by simp [results, Tryd.results22, go_sem]) rfl ⟨_, by rw [HR2.out], by rw [HR2.out]; simp only; rw [HE.out]; exact World.ownsRow_nil _ _ _ _, HB6.out⟩
          · have hO2' : ((O : Int) != 2) = true := by simp; omega
            have h3i : ¬ (2 : Int) < (P.length : Int) := by have : P.length = 2 := Decidable.byContradiction fun h => hbad ⟨hO2, h⟩
                                                            omega
            clear hbad hO2
            go_wp2
            go_loopg [9, 10, 11] (P.length - 2) (fun g x9 x10 x11 wr => ∃ (k : Nat) (M : List (BitVec 32)) (ao : Option Addr) (ac : Nat), k + g = P.length ∧ x9 = .int .i64 (k : Int) ∧ Hid (LdM w w1.heap.size O n (.slice (some ⟨b, off, none⟩) P.length vc) P (.slice ao M.length ac) M wr ∧ wdK O n M (P.drop k) = res ∧ M.length ≤ k))
            case atStart => exact ⟨2, [], none, 0, by have := h2i; omega, rfl, hid13 HS0.out⟩
            case round =>
              clear HS0
              obtain ⟨k, M, ao, ac, hk, rfl, HM⟩ := hrel
              by_cases hlt : k < P.length
              · have hli : (k : Int) < (P.length : Int) := by omega
                obtain ⟨x, hx⟩ : ∃ x, P[k]? = some x := ⟨P[k], by simp [hlt]⟩
                have cx := str_cells HM.out.1.p k x hx
                have hdr : P.drop k = x :: P.drop (k + 1) := by rw [List.drop_eq_getElem_cons hlt]; rw [List.getElem?_eq_getElem hlt] at hx; injection hx with hx; rw [hx]
                have HD := hid13 hdr
                have HK : Hid (k + gk = P.length ∧ k < P.length) := ⟨hk, hlt⟩
                have KW := rdword_any x wr
                have hk0 : (0 : Int) ≤ (k : Int) := by omega
                have hkn : ((k : Int)).toNat = k := by omega
                clear hx hdr hk hlt
                go_wp2_with fail
                refine KW.mono ?_
                rintro e w5 ⟨rfl, hw5⟩
                replace hw5 := hw5.symm
                subst hw5
                clear KW cx hkn
                cases hv : wordD (fr x 0) with
                | none =>
                  have HR2 : Hid (res = (5, [])) := hid13 (by rw [← HM.out.2.1, HD.out, wdK_no hv])
                  simp only [woV, Option.getD_none, Option.isSome_none]
                  clear hv
                  go_wp2
                  exact bodyPost_ret (v := .tuple #[.slice none 0 0, .int .i64 5]) (by simp [results, Tryd.results22, go_sem]) rfl ⟨_, by rw [HR2.out], by rw [HR2.out]; exact World.ownsRow_nil _ _ _ _, HM.out.1.b⟩
                | some u =>
                  simp only [woV, Option.getD_some, Option.isSome_some]
                  have hul : u < 4294967296 := by
                    unfold wordD at hv
                    split at hv
                    · have := hxP_bd15 8 0 _ u hv
                      have e : (0 + 1) * 16 ^ 8 = 4294967296 := by decide
                      omega
                    · cases hv
                  have HR2 : Hid (wdK O n (M ++ [BitVec.ofNat 32 u]) (P.drop (k + 1)) = res) := hid13 (by rw [← wdK_go hv, ← HD.out]; exact HM.out.2.1)
                  have hu : (u : Int) = uI (BitVec.ofNat 32 u) := (uI_of u hul).symm
                  have HC : Hid (.int .u32 (u : Int) = cU (BitVec.ofNat 32 u)) := hid13 (by unfold cU; rw [hu])
                  clear hv hul hu HD
                  have hkw : IntKind.i64.wrap ((k : Int) + 1) = (k : Int) + 1 := by rw [IntKind.wrap_i64]; have := HK.out.2; have := HPl.out; omega
                  have h63 : M.length + 1 ≤ maxLen := by unfold maxLen; have := HM.out.2.2; have := HK.out; have := HPl.out; omega
                  have h47 : (M.length + 1) * 4 ≤ 140737488355328 := by have := HM.out.2.2; have := HK.out; have := HPl.out; omega
                  have q9 := bl1 wr (.cells #[.int .u32 (u : Int)] 48)
                  have hO := own_b13 q9 HM.out.1.m
                  have hsz : w.heap.size ≤ (wr.alloc (.cells #[.int .u32 (u : Int)] 48)).heap.size := Nat.le_trans HM.out.1.b.size q9.size
                  have HM9 := hid13 (HM.out.1.below q9)
                  have HML := hid13 HM.out.2.2
                  have HO := hid13 hO
                  have HSZ := hid13 hsz
                  have H47 : Hid (M.length + 1 ≤ maxLen ∧ (M.length + 1) * 4 ≤ 140737488355328) := ⟨h63, h47⟩
                  have c2 := HM.out.1.c.2.2
                  clear q9 hO hsz h63 h47 HM
                  go_wp2_with (at_builtin; apply stopHere9)
                  refine (show wpList _ _ _ _ _ _ from ?_)
                  refine wpList_append_lies _ rfl _ _ 43 rfl w.heap.size 48 i0 (.int .u32 0) 1 4 Tryd.underlying43 hi hz0 hz1 hz2 rfl (by decide) _ _ _ rfl HO.out ⟨wr.heap.size, 0, none⟩ 1 1 [.int .u32 (u : Int)] rfl rfl (news13 (by simp [go_sem])) (by intro u hu; simp at hu; subst hu; rfl) (by decide) H47.out.1 H47.out.2 HSZ.out _ rfl ?_
                  intro g4 cap4 w4 hown4 hgrow hat hlt4
                  have hw4 : w4.ownsRow w.heap.size 48 1 (.slice (some ⟨g4, 0, none⟩) (M.length + 1) cap4) (M ++ [BitVec.ofNat 32 u]).length ((M ++ [BitVec.ofNat 32 u]).map cU) := by
                    have e1 : (M ++ [BitVec.ofNat 32 u]).length = M.length + 1 := by simp
                    have e2 : (M ++ [BitVec.ofNat 32 u]).map cU = M.map cU ++ [.int .u32 (u : Int)] := by rw [List.map_append, HC.out]; rfl
                    rw [e1, e2]; exact hown4
                  obtain ⟨hz4, hi4⟩ := HM9.out.app hgrow hw4
                  have HZ := hid13 hz4
                  have d2 := at_b15 hi4 2 _ rfl
                  have f2 := fr_b15 (j := 2) hi4
                  clear hgrow hat hown4 hlt4 hw4 HM9 HO HSZ H47 c2 hi4 hz4
                  go_wp2
                  go_roundg (gk - 1)
                  case measure => have := HK.out; omega
                  case rel => exact ⟨k + 1, M ++ [BitVec.ofNat 32 u], _, _, by have := HK.out; omega, rfl, hid13 ⟨by simpa using HZ.out, HR2.out, by have := HML.out; simp; omega⟩⟩
              · have hli : ¬ (k : Int) < (P.length : Int) := by omega
                obtain rfl : k = P.length := by omega
                have HR2 : Hid (res = (chkE O n M, enL [] O n M)) := hid13 (by rw [← HM.out.2.1, List.drop_length, wdK_end])
                obtain ⟨c0, c1, c2⟩ := HM.out.1.c
                have HI := HM.out.1.i
                clear hlt
                by_cases hz : chkE O n M = 0
                · have KE := rencode14 O n (.slice ao M.length ac) M wr (own_rwx HM.out.1.m) hz
                  have HE : Hid (enL [] O n M = wdB O n M ∧ chkE O n M = 0) := hid13 ⟨by unfold enL; rw [if_pos hz]; simp, hz⟩
                  clear hz
                  go_wp2_with fail
                  refine KE.mono ?_
                  rintro e w6 ⟨v6, rfl, ho6, hb6⟩
                  have HB6 := hid13 (keepb hb6 HM.out.1.b)
                  have HO6 := hid13 (own_wide13 (base' := w.heap.size) ho6 HM.out.1.b.size)
                  clear KE ho6 hb6 HM c0 c1 c2 HI
                  go_wp2
                  exact bodyPost_ret (v := .tuple #[v6, .int .i64 0]) (by simp [results, Tryd.results22, go_sem]) rfl ⟨_, by rw [HR2.out, HE.out.2], by rw [HR2.out]; simp only; rw [HE.out.1]; exact HO6.out, HB6.out⟩
                · have KE := rencode14_no O n (.slice ao M.length ac) M wr (own_rwx HM.out.1.m) hz
                  have HE : Hid (enL [] O n M = []) := hid13 (by unfold enL; rw [if_neg hz])
                  obtain ⟨z, hzz⟩ : ∃ z, z = chkE O n M := ⟨_, rfl⟩
                  rw [← hzz] at KE HR2
                  clear hz hzz
                  go_wp2_with fail
                  refine KE.mono ?_
                  rintro e w6 ⟨rfl, hb6⟩
                  have HB6 := hid13 (keepb hb6 HM.out.1.b)
                  clear KE hb6 HM c0 c1 c2 HI
                  go_wp2
                  exact bodyPost_ret (v := .tuple #[.slice none 0 0, .int .i64 z]) (by simp [results, Tryd.results22, go_sem]) rfl ⟨_, by rw [HR2.out], by rw [HR2.out]; simp only; rw [HE.out]; exact World.ownsRow_nil _ _ _ _, HB6.out⟩
end Go.Proofs.YtologchdnjnadaaDoor
/-
  Plain: the program reads a line as the document has it.
-/
namespace Go.Proofs.YtologchdnjnadaaDoor
open Go.RowKit
set_option linter.unusedSimpArgs false
set_option linter.unusedVariables false

theorem lt5_cases {op : Nat} (h : op < 5) : op = 0 ∨ op = 1 ∨ op = 2 ∨ op = 3 ∨ op = 4 := by omega
theorem nm_of (op : Nat) (h : op < 5) (W : List UInt8) : nmP (nmL op ++ W) = some op := by
  rcases lt5_cases h with rfl | rfl | rfl | rfl | rfl <;> simp [nmP, nmF, nmL]
theorem nm_clean (op : Nat) (h : op < 5) : ∀ c ∈ nmL op, c ≠ 10 ∧ c ≠ 32 := by
  rcases lt5_cases h with rfl | rfl | rfl | rfl | rfl <;> decide
theorem pre_app {T : List UInt8} (hT : Stp T) : ∀ (p a : List UInt8), (∀ c ∈ p, c ≠ 10 ∧ c ≠ 32) → p.isPrefixOf (a ++ T) = true → ∃ a', a = p ++ a'
  | [], a, _, _ => ⟨a, rfl⟩
  | c :: p, [], hp, h => by
    exfalso
    have hc := hp c List.mem_cons_self
    rcases hT with rfl | ⟨x, t, rfl, hx⟩
    · cases h
    · have h' : ((c == x) && p.isPrefixOf t) = true := h
      rw [Bool.and_eq_true] at h'
      have : c = x := by simpa using h'.1
      rcases hx with rfl | rfl
      · exact hc.1 this
      · exact hc.2 this
  | c :: p, x :: a, hp, h => by
    have h' : ((c == x) && p.isPrefixOf (a ++ T)) = true := h
    rw [Bool.and_eq_true] at h'
    have hcx : c = x := by simpa using h'.1
    obtain ⟨a', ha⟩ := pre_app hT p a (fun y hy => hp y (List.mem_cons_of_mem _ hy)) h'.2
    exact ⟨a', by rw [ha, hcx]; rfl⟩
theorem bw_no {L : List UInt8} {c : Nat} (h : bkL L = none) : bwR L c = (5, [], 0) := by unfold bwR wdP; rw [h]; rfl
theorem nu_no {op : Nat} {L : List UInt8} {c : Nat} (h : bkL L = none) : nuR op L c = (5, [], 0) := by unfold nuR nuP; rw [h]; rfl
theorem ln_no {L : List UInt8} (h : ∀ op, nmP L = some op → bkL (L.drop (nmL op).length) = none) : lnR L = (5, [], 0) := by
  unfold lnR
  cases hq : nmP L with
  | none => rfl
  | some op =>
    show (if op = 0 then _ else _) = _
    by_cases h0 : op = 0
    · subst h0
      rw [if_pos rfl]
      exact bw_no (h 0 hq)
    · rw [if_neg h0]
      exact nu_no (h op hq)
theorem num_eq {b T : List UInt8} (hT : Stp T) : numD b = if numB (b ++ T) = true ∧ (dgP 9 0 b).2 = b.length then some (dgP 9 0 b).1 else none := by
  unfold numD numB
  rw [dg_stp hT]
  have hk := dg_len 9 0 b
  have hh : b ≠ [] → (b ++ T).head? = b.head? := fun hb => by cases b with | nil => exact absurd rfl hb | cons c b => rfl
  generalize hq : dgP 9 0 b = q at *
  obtain ⟨n, k⟩ := q
  simp only at hk ⊢
  by_cases hl : k = b.length
  · by_cases h0 : b.length = 0
    · rw [if_pos (.inl (by omega)), if_neg]
      intro ⟨h1, h2⟩
      rw [hl, h0] at h1
      simp at h1
    · have hb : b ≠ [] := fun e => h0 (by rw [e]; rfl)
      rw [hh hb]
      by_cases h1 : 1 < b.length ∧ b.head? = some 48
      · rw [if_pos (.inr (.inr h1)), if_neg]
        intro ⟨h2, h3⟩
        rw [h1.2] at h2
        simp at h2
        omega
      · have hnn : ¬ (b.length < 1 ∨ 9 < b.length ∨ (1 < b.length ∧ b.head? = some 48)) := fun h => by
          rcases h with h | h | h
          · omega
          · omega
          · exact h1 h
        rw [if_neg hnn, if_pos hl, if_pos]
        refine ⟨?_, hl⟩
        by_cases h2 : k = 1
        · simp [h2]
        · have h3 : 1 < k := by omega
          have h4 : ¬ b.head? = some 48 := fun e => h1 ⟨by omega, e⟩
          simp [h3, h4]
  · by_cases hc : b.length < 1 ∨ 9 < b.length ∨ (1 < b.length ∧ b.head? = some 48)
    · rw [if_pos hc, if_neg (fun h => hl h.2)]
    · rw [if_neg hc, if_neg hl, if_neg (fun h => hl h.2)]
theorem opD_of (op : Nat) (h : op < 5) : opD (nmL op) = op ∧ (op ≠ 0 → nmL op ≠ nmL 0) := by
  rcases lt5_cases h with rfl | rfl | rfl | rfl | rfl <;> decide
theorem opD_no {a : List UInt8} (h : ¬ ∃ op, op < 5 ∧ a = nmL op) : a ≠ nmL 0 ∧ opD a = 0 := by
  refine ⟨fun e => h ⟨0, by decide, e⟩, ?_⟩
  unfold opD
  rw [if_neg (fun e => h ⟨4, by decide, e⟩), if_neg (fun e => h ⟨3, by decide, e⟩), if_neg (fun e => h ⟨2, by decide, e⟩), if_neg (fun e => h ⟨1, by decide, e⟩)]
/-- Two answers that are one, as far as they count. -/
def LnE (r : LnR) (q : Int × List Nat) (n : Nat) : Prop := r.1 = q.1 ∧ r.2.1 = q.2 ∧ (r.1 = 0 → r.2.2 = n)
theorem lnE_no (n : Nat) : LnE (5, [], 0) (5, []) n := ⟨rfl, rfl, fun h => by cases h⟩
theorem line_eq {Z : List UInt8} (hZ : Z = [] ∨ ∃ Z', Z = 10 :: Z') (X : List UInt8) (hX : ∀ c ∈ X, c ≠ 10) : LnE (lnR (X ++ Z)) (lineD X) X.length := by
  obtain ⟨a, ha, hXa⟩ := span32 X
  rcases hXa with rfl | ⟨Y, rfl⟩
  · have e1 : lineD X = (5, []) := by unfold lineD; rw [spl_own _ ha]
    rw [e1, ln_no]
    · exact lnE_no _
    · intro op ho
      obtain ⟨h1, h2⟩ := nmP_lt ho
      obtain ⟨a', rfl⟩ := pre_app (Stp.en hZ) _ X (nm_clean op h1) h2
      rw [List.append_assoc, drop_end]
      cases a' with
      | nil => rcases hZ with rfl | ⟨Z', rfl⟩ <;> rfl
      | cons c t => exact bk_no (.inr ⟨c, t ++ Z, rfl, ha c (by simp)⟩)
  · have hY : ∀ c ∈ Y, c ≠ 10 := fun c hc => hX c (by simp [hc])
    rw [List.append_assoc, List.cons_append]
    have eD : spl (a ++ 32 :: Y) = a :: spl Y := spl_app _ _ ha
    by_cases hop : ∃ op, op < 5 ∧ a = nmL op
    · obtain ⟨op, ho, rfl⟩ := hop
      have eN := nm_of op ho (32 :: (Y ++ Z))
      have eL : (nmL op ++ 32 :: (Y ++ Z)).drop (nmL op).length = 32 :: (Y ++ Z) := drop_end _ _
      obtain ⟨b, hb, hYb⟩ := span32 Y
      have hb10 : ∀ c ∈ b, c ≠ 10 := fun c hc => hY c (by rcases hYb with rfl | ⟨Y', rfl⟩ <;> simp [hc])
      -- what stands behind the second piece
      obtain ⟨T, hT, eY, r, eS, hTr⟩ : ∃ T, Stp T ∧ Y ++ Z = b ++ T ∧ ∃ r, spl Y = b :: r ∧ ((T = Z ∧ r = [] ∧ Y = b) ∨ ∃ Y', T = 32 :: (Y' ++ Z) ∧ r = spl Y' ∧ Y = b ++ 32 :: Y') := by
        rcases hYb with rfl | ⟨Y', rfl⟩
        · exact ⟨Z, Stp.en hZ, rfl, [], spl_own _ hb, .inl ⟨rfl, rfl, rfl⟩⟩
        · exact ⟨32 :: (Y' ++ Z), stp_bl _, by rw [List.append_assoc]; rfl, spl Y', spl_app _ _ hb, .inr ⟨Y', rfl, rfl, rfl⟩⟩
      have eD2 : spl (nmL op ++ 32 :: Y) = nmL op :: b :: r := by rw [eD, eS]
      have eR : lnR (nmL op ++ 32 :: (Y ++ Z)) = if op = 0 then bwR (32 :: (b ++ T)) 4 else nuR op (32 :: (b ++ T)) (nmL op).length := by
        unfold lnR
        rw [eN]
        show (if op = 0 then _ else _) = _
        rw [eL, eY]
        by_cases h0 : op = 0
        · subst h0
          rw [if_pos rfl, if_pos rfl, ← eY]
          rfl
        · rw [if_neg h0, if_neg h0]
      rw [eR]
      by_cases h0 : op = 0
      · subst h0
        rw [if_pos rfl]
        have eLn : lineD (nmL 0 ++ 32 :: Y) = (match wordD b with | some v => if r = [] then (0, by4 v) else (5, []) | none => (5, [])) := by
          unfold lineD; rw [eD2]; simp only [if_pos]
          all_goals (cases wordD b <;> rfl)
        rw [eLn]
        unfold bwR wordD
        have e1 : wdP (32 :: (b ++ T)) = hxP 8 0 b := by
          have : wdP (32 :: (b ++ T)) = hxP 8 0 (b ++ T) := rfl
          rw [this, hx_stop hT]
        rw [e1]
        cases hh : hxP 8 0 b with
        | none =>
          have : (if b.length = 8 then (none : Option Nat) else none) = none := by split <;> rfl
          simp only [this]
          exact lnE_no _
        | some v =>
          have hl := hx_len hh
          by_cases h8 : b.length = 8
          · rw [if_pos h8]
            have e2 : (32 :: (b ++ T)).drop 9 = T := by show (b ++ T).drop 8 = T; rw [← h8]; exact drop_end _ _
            simp only [e2]
            rcases hTr with ⟨rfl, rfl, rfl⟩ | ⟨Y', rfl, rfl, rfl⟩
            · rw [en_yes hZ]
              simp only [if_true]
              exact ⟨rfl, rfl, fun _ => by simp only [List.length_append, List.length_cons]; have : (nmL 0).length = 4 := rfl; omega⟩
            · rw [en_no rfl (by decide), if_neg (by decide), if_neg (spl_ne _)]
              exact lnE_no _
          · rw [if_neg h8]
            obtain ⟨c, t, h1, h2⟩ := drop_mid b T 8 (by omega)
            have e2 : (32 :: (b ++ T)).drop 9 = c :: t := h1
            simp only [e2]
            rw [en_no rfl (hb10 c h2), if_neg (by decide)]
            exact lnE_no _
      · rw [if_neg h0]
        obtain ⟨o1, o2⟩ := opD_of op ho
        have eLn : lineD (nmL op ++ 32 :: Y) = (match numD b with | none => (5, []) | some n => if op ≠ 2 ∧ r ≠ [] then (5, []) else match wordsD r with | none => (5, []) | some ms => (chkE op n ms, enL [] op n ms)) := by
          unfold lineD; rw [eD2]; simp only
          rw [if_neg (o2 h0), o1, if_neg h0]
          all_goals (cases numD b <;> first | rfl | (cases wordsD r <;> rfl))
        rw [eLn, num_eq hT]
        unfold nuR
        have e1 : nuP (32 :: (b ++ T)) = if numB (b ++ T) = true then some ((dgP 9 0 b).1, (dgP 9 0 b).2 + 1) else none := by
          have : nuP (32 :: (b ++ T)) = if numB (b ++ T) = true then some ((dgP 9 0 (b ++ T)).1, (dgP 9 0 (b ++ T)).2 + 1) else none := rfl
          rw [this, dg_stp hT]
        rw [e1]
        by_cases hn : numB (b ++ T) = true
        · rw [if_pos hn]
          simp only
          have hk := (dg_len 9 0 b).2
          generalize dgP 9 0 b = q at *
          obtain ⟨n, k⟩ := q
          simp only at hk ⊢
          by_cases hkb : k = b.length
          · have eI : (if numB (b ++ T) = true ∧ k = b.length then some n else none) = some n := if_pos ⟨hn, hkb⟩
            rw [eI]
            have e2 : (32 :: (b ++ T)).drop (k + 1) = T := by show (b ++ T).drop k = T; rw [hkb]; exact drop_end _ _
            rw [e2]
            simp only
            rcases hTr with ⟨rfl, rfl, rfl⟩ | ⟨Y', rfl, rfl, rfl⟩
            · rw [if_neg (by simp : ¬ (op ≠ 2 ∧ ([] : List (List UInt8)) ≠ []))]
              have hlen : (nmL op).length + (k + 1) = (nmL op ++ 32 :: Y).length := by simp only [List.length_append, List.length_cons]; omega
              by_cases h2 : op = 2
              · subst h2
                rw [if_pos rfl, mwR_end (en_yes hZ)]
                exact ⟨rfl, rfl, fun _ => hlen⟩
              · rw [if_neg h2, if_pos (en_yes hZ)]
                exact ⟨rfl, rfl, fun _ => hlen⟩
            · by_cases h2 : op = 2
              · subst h2
                rw [if_pos rfl, if_neg (by simp)]
                have hY' : ∀ c ∈ Y', c ≠ 10 := fun c hc => hY c (by simp [hc])
                obtain ⟨w1, w2⟩ := words_eq hZ Y'.length Y' (Nat.le_refl _) hY' ((32 :: (Y' ++ Z)).length + 1) (by simp only [List.length_cons, List.length_append]; omega)
                unfold mwR
                rw [w1]
                cases hw : wordsD (spl Y') with
                | none => exact lnE_no _
                | some ms =>
                  have := w2 ms hw
                  exact ⟨rfl, rfl, fun _ => by simp only [List.length_append, List.length_cons]; omega⟩
              · rw [if_neg h2, if_neg (by rw [en_no rfl (by decide)]; decide), if_pos ⟨h2, spl_ne _⟩]
                exact lnE_no _
          · have eI : (if numB (b ++ T) = true ∧ k = b.length then some n else none) = none := if_neg (fun h => hkb h.2)
            rw [eI]
            obtain ⟨c, t, h1, h2⟩ := drop_mid b T k (by omega)
            have e2 : (32 :: (b ++ T)).drop (k + 1) = c :: t := h1
            rw [e2]
            simp only
            by_cases h2' : op = 2
            · rw [if_pos h2', mwR_stop (en_no rfl (hb10 c h2)) (by unfold wdP; rw [bk_no (.inr ⟨c, t, rfl, hb c h2⟩)]; rfl)]
              exact lnE_no _
            · rw [if_neg h2', if_neg (by rw [en_no rfl (hb10 c h2)]; decide)]
              exact lnE_no _
        · rw [if_neg hn, if_neg (fun h => hn h.1)]
          exact lnE_no _
    · obtain ⟨o1, o2⟩ := opD_no hop
      have eLn : lineD (a ++ 32 :: Y) = (5, []) := by
        unfold lineD
        rw [eD]
        cases hq : spl Y with
        | nil => rfl
        | cons b r => simp only; rw [if_neg o1, if_pos o2]
      rw [eLn, ln_no]
      · exact lnE_no _
      · intro op ho
        obtain ⟨h1, h2⟩ := nmP_lt ho
        obtain ⟨a', rfl⟩ := pre_app (stp_bl _) _ a (nm_clean op h1) h2
        rw [List.append_assoc, drop_end]
        cases a' with
        | nil => exact absurd ⟨op, h1, by simp⟩ hop
        | cons c t => exact bk_no (.inr ⟨c, t ++ 32 :: (Y ++ Z), rfl, ha c (by simp)⟩)
end Go.Proofs.YtologchdnjnadaaDoor
