/-
  Part 18 of the proof: 1 texts, one behind the other.
-/
import Derived.Test.YtohnhpicjedfeaaPart17
namespace Go.Proofs.Ytohnhpicjedfeaa
open Go.RowKit
set_option linter.unusedSimpArgs false
set_option linter.unusedVariables false
attribute [local go_sem] Oper.semAt_some

theorem swN_get {D : List Rte} {a b : Nat} : ∀ (i : Nat), a + i ≤ b → b + i ≤ D.length → ∀ t, (swN D a b i)[t]? = if a ≤ t ∧ t < a + i then D[t + (b - a)]? else if b ≤ t ∧ t < b + i then D[t - (b - a)]? else D[t]?
  | 0, _, _, t => by rw [if_neg (by omega), if_neg (by omega)]; rfl
  | i + 1, h1, h2, t => by
    have ih := swN_get i (by omega) (by omega) (D := D) (a := a) (b := b)
    have hx : (swN D a b i)[a + i]? = some (D[a + i]'(by omega)) := by rw [ih, if_neg (by omega), if_neg (by omega)]; exact List.getElem?_eq_getElem _
    have hy : (swN D a b i)[b + i]? = some (D[b + i]'(by omega)) := by rw [ih, if_neg (by omega), if_neg (by omega)]; exact List.getElem?_eq_getElem _
    rw [swN_succ hx hy rfl rfl]
    have hl := swN_len D a b i
    by_cases c1 : t = b + i
    · subst c1
      rw [List.getElem?_set_self (by rw [List.length_set, hl]; omega), if_neg (by omega), if_pos (by omega), show b + i - (b - a) = a + i by omega]
      exact (List.getElem?_eq_getElem _).symm
    · rw [List.getElem?_set_ne (by omega)]
      by_cases c2 : t = a + i
      · subst c2
        rw [List.getElem?_set_self (by rw [hl]; omega), if_pos (by omega), show a + i + (b - a) = b + i by omega]
        exact (List.getElem?_eq_getElem _).symm
      · rw [List.getElem?_set_ne (by omega), ih]
        by_cases c3 : a ≤ t ∧ t < a + i
        · rw [if_pos c3, if_pos (by omega)]
        · rw [if_neg c3, if_neg (show ¬ (a ≤ t ∧ t < a + (i + 1)) by omega)]
          by_cases c4 : b ≤ t ∧ t < b + i
          · rw [if_pos c4, if_pos (show b ≤ t ∧ t < b + (i + 1) by omega)]
          · rw [if_neg c4, if_neg (show ¬ (b ≤ t ∧ t < b + (i + 1)) by omega)]
theorem swN_app (P U Q V R : List Rte) (h : U.length = V.length) : swN (P ++ (U ++ (Q ++ (V ++ R)))) P.length (P.length + U.length + Q.length) U.length = P ++ (V ++ (Q ++ (U ++ R))) := by
  apply List.ext_getElem?
  intro t
  rw [swN_get _ (by omega) (by simp; omega)]
  by_cases c1 : t < P.length
  · rw [if_neg (by omega), if_neg (by omega), List.getElem?_append_left c1, List.getElem?_append_left c1]
  · rw [List.getElem?_append_right (l₁ := P) (l₂ := V ++ (Q ++ (U ++ R))) (by omega)]
    by_cases c2 : t < P.length + U.length
    · rw [if_pos (by omega), List.getElem?_append_right (by omega), List.getElem?_append_right (by omega), List.getElem?_append_right (by omega), List.getElem?_append_left (by omega), List.getElem?_append_left (by omega)]
      congr 1; omega
    · rw [if_neg (by omega), List.getElem?_append_right (l₁ := V) (l₂ := Q ++ (U ++ R)) (by omega)]
      by_cases c3 : t < P.length + U.length + Q.length
      · rw [if_neg (by omega), List.getElem?_append_right (by omega), List.getElem?_append_right (by omega), List.getElem?_append_left (by omega), List.getElem?_append_left (by omega)]
        congr 1; omega
      · rw [List.getElem?_append_right (l₁ := Q) (l₂ := U ++ R) (by omega)]
        by_cases c4 : t < P.length + U.length + Q.length + U.length
        · rw [if_pos (by omega), List.getElem?_append_right (by omega), List.getElem?_append_left (by omega), List.getElem?_append_left (by omega)]
          congr 1; omega
        · rw [if_neg (by omega), List.getElem?_append_right (by omega), List.getElem?_append_right (by omega), List.getElem?_append_right (by omega), List.getElem?_append_right (by omega), List.getElem?_append_right (by omega)]
          congr 1; omega
set_option maxRecDepth 20000 in
set_option maxHeartbeats 16000000 in
theorem rotate_any (base g c n a m b : Nat) (P X Y R : List Rte) (w : World) (h : RwO w base g c n (P ++ (X ++ (Y ++ R)))) (ha : P.length = a) (hm : a + X.length = m) (hb : m + Y.length = b) (hX : 0 < X.length) (hY : 0 < Y.length) (hn : n ≤ 1000000000) :
    Calls Try.prog 80 #[.slice (some ⟨g, 0, none⟩) n c, .int .i64 (a : Int), .int .i64 (m : Int), .int .i64 (b : Int), .func (.func 37) #[] #[]] w fun e w' => e = .returned (.tuple #[]) ∧ RwO w' base g c n (P ++ (Y ++ (X ++ R))) ∧ Bo g w w' := by
  have hl := h.1
  simp only [List.length_append] at hl
  have wi : IntKind.i64.wrap ((m : Int) - (a : Int)) = (X.length : Int) := by rw [IntKind.wrap_i64]; omega
  have wj : IntKind.i64.wrap ((b : Int) - (m : Int)) = (Y.length : Int) := by rw [IntKind.wrap_i64]; omega
  have H0 := hidR h
  obtain ⟨xl, hxl⟩ : ∃ xl, xl = X.length := ⟨_, rfl⟩
  obtain ⟨yl, hyl⟩ : ∃ yl, yl = Y.length := ⟨_, rfl⟩
  rw [← hxl] at wi hm hX
  rw [← hyl] at wj hb hY
  have HL : Hid (xl = X.length ∧ yl = Y.length ∧ P.length = a) := hidR ⟨hxl, hyl, ha⟩
  have hbn : b ≤ n := by omega
  clear h hl hxl hyl ha
  go_enter Try.func80, Try.ntmps80
  go_wp2_with fail
  go_loopw [10, 11] (fun iv jv wr => ∃ (i j : Nat) (P' U V R' : List Rte), iv = .int .i64 (i : Int) ∧ jv = .int .i64 (j : Int) ∧ 0 < i ∧ 0 < j ∧ i ≤ m ∧ m + j ≤ n ∧ Hid (U.length = i ∧ V.length = j ∧ P'.length + i = m) ∧ Hid (P' ++ (V ++ (U ++ R')) = P ++ (Y ++ (X ++ R))) ∧ Hid (RwO wr base g c n (P' ++ (U ++ (V ++ R')))) ∧ Hid (Bo g w wr)) (fun iv jv _ => (intOf iv).toNat + (intOf jv).toNat)
  case atStart => exact ⟨xl, yl, P, X, Y, R, rfl, rfl, hX, hY, by omega, by omega, hidR ⟨HL.out.1.symm, HL.out.2.1.symm, by have := HL.out.2.2; omega⟩, hidR rfl, H0, hidR (Bt.refl _ _)⟩
  case round =>
    clear H0 HL wi wj
    obtain ⟨i, j, P', U, V, R', rfl, rfl, hi, hj, him, hjn, HLn, HT, HR, HB⟩ := hrel
    obtain ⟨ul, vl, pl⟩ := HLn.out
    obtain ⟨p, hp⟩ : ∃ p, p = P'.length := ⟨_, rfl⟩
    have w1 : IntKind.i64.wrap ((m : Int) - (i : Int)) = (p : Int) := by rw [IntKind.wrap_i64]; omega
    rcases Nat.lt_trichotomy j i with cc | cc | cc
    · have e : U = U.take j ++ U.drop j := (List.take_append_drop _ _).symm
      have l1 : (U.take j).length = j := by rw [List.length_take]; omega
      have l2 : (U.drop j).length = i - j := by rw [List.length_drop]; omega
      have hR := HR.out
      rw [e, List.append_assoc] at hR
      have hS := swN_app P' (U.take j) (U.drop j) V R' (by omega)
      rw [l1, l2, show P'.length + j + (i - j) = m by omega, ← hp] at hS
      have KS := swapR_any base g c n p m j _ wr hR (by omega) (by omega) hn
      rw [hS] at KS
      have HT2 : Hid ((P' ++ V) ++ (U.take j ++ (U.drop j ++ R')) = P ++ (Y ++ (X ++ R))) := hidR (by rw [← HT.out, ← List.append_assoc (U.take j) (U.drop j) R', List.take_append_drop, List.append_assoc])
      have HL2 : Hid ((U.drop j).length = i - j ∧ (U.take j).length = j ∧ (P' ++ V).length + (i - j) = m) := hidR ⟨l2, l1, by rw [List.length_append]; omega⟩
      have d1 : ((i : Int) != (j : Int)) = true := by simp; omega
      have d2 : (j : Int) < (i : Int) := by omega
      have w2 : IntKind.i64.wrap ((i : Int) - (j : Int)) = ((i - j : Nat) : Int) := by rw [IntKind.wrap_i64]; omega
      clear hR hS HR HT HLn e l1 l2 ul vl pl hp
      go_wp2_with fail
      refine KS.mono ?_
      rintro e w2 ⟨rfl, h1, h2⟩
      have HR2 : Hid (RwO w2 base g c n ((P' ++ V) ++ (U.drop j ++ (U.take j ++ R')))) := hidR (by rw [List.append_assoc]; exact h1)
      have HB2 := hidR (HB.out.trans h2)
      clear KS h1 h2 HB
      go_wp2
      go_roundw
      case rel => exact ⟨i - j, j, P' ++ V, U.drop j, U.take j, R', rfl, rfl, by omega, hj, by omega, hjn, HL2, HT2, HR2, HB2⟩
      case measure => simp [intOf]; omega
    · subst cc
      have hS := swN_app P' U [] V R' (by omega)
      rw [List.nil_append, List.nil_append, List.length_nil, Nat.add_zero, ul, show P'.length + j = m by omega, ← hp] at hS
      have KS := swapR_any base g c n p m j _ wr HR.out (by omega) (by omega) hn
      rw [hS, HT.out] at KS
      have d1 : ((j : Int) != (j : Int)) = false := by simp
      clear hS HR HT HLn ul vl pl hp
      go_wp2_with fail
      refine KS.mono ?_
      rintro e w2 ⟨rfl, h1, h2⟩
      have HR2 := hidR h1
      have HB2 := hidR (HB.out.trans h2)
      clear KS h1 h2 HB
      go_wp2
      exact bodyPost_end (v := .tuple #[]) (by simp [results, Try.results80, go_sem]) rfl ⟨rfl, HR2.out, HB2.out⟩
    · have e : V = V.take (j - i) ++ V.drop (j - i) := (List.take_append_drop _ _).symm
      have l1 : (V.take (j - i)).length = j - i := by rw [List.length_take]; omega
      have l2 : (V.drop (j - i)).length = i := by rw [List.length_drop]; omega
      have hR := HR.out
      rw [e, List.append_assoc] at hR
      have hS := swN_app P' U (V.take (j - i)) (V.drop (j - i)) R' (by omega)
      obtain ⟨q, hq⟩ : ∃ q, q = m + j - i := ⟨_, rfl⟩
      rw [ul, l1, show P'.length + i + (j - i) = q by omega, ← hp] at hS
      have KS := swapR_any base g c n p q i _ wr hR (by omega) (by omega) hn
      rw [hS] at KS
      have HT2 : Hid (P' ++ (V.take (j - i) ++ (V.drop (j - i) ++ (U ++ R'))) = P ++ (Y ++ (X ++ R))) := hidR (by rw [← HT.out, ← List.append_assoc (V.take (j - i)) (V.drop (j - i)), List.take_append_drop])
      have HL2 : Hid ((V.drop (j - i)).length = i ∧ (V.take (j - i)).length = j - i ∧ P'.length + i = m) := hidR ⟨l2, l1, pl⟩
      have d1 : ((i : Int) != (j : Int)) = true := by simp; omega
      have d2 : ¬ (j : Int) < (i : Int) := by omega
      have w3 : IntKind.i64.wrap ((m : Int) + (j : Int)) = (m : Int) + (j : Int) := by rw [IntKind.wrap_i64]; omega
      have w4 : IntKind.i64.wrap ((m : Int) + (j : Int) - (i : Int)) = (q : Int) := by rw [IntKind.wrap_i64]; omega
      have w2 : IntKind.i64.wrap ((j : Int) - (i : Int)) = ((j - i : Nat) : Int) := by rw [IntKind.wrap_i64]; omega
      clear hR hS HR HT HLn e l1 l2 ul vl pl hp hq
      go_wp2_with fail
      refine KS.mono ?_
      rintro e w2 ⟨rfl, h1, h2⟩
      have HR2 := hidR h1
      have HB2 := hidR (HB.out.trans h2)
      clear KS h1 h2 HB
      go_wp2
      go_roundw
      case rel => exact ⟨i, j - i, P', V.drop (j - i), V.take (j - i), U ++ R', rfl, rfl, hi, by omega, him, by omega, HL2, HT2, HR2, HB2⟩
      case measure => simp [intOf]; omega
end Go.Proofs.Ytohnhpicjedfeaa
