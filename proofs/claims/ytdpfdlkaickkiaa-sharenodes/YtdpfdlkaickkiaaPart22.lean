/-
  Part 22 of the proof: 2 texts, one behind the other.
-/
import Derived.Test.YtdpfdlkaickkiaaPart16
import Derived.Test.YtdpfdlkaickkiaaPart17
import Derived.Test.YtdpfdlkaickkiaaPart21
import Derived.Test.YtdpfdlkaickkiaaPart8
namespace Go.Proofs.Ytdpfdlkaickkiaa
open Go.RowKit Go.Shelf
set_option linter.unusedSimpArgs false
set_option linter.unusedVariables false
attribute [local go_sem] Oper.semAt_some

def plS (L : List Nde) : List Int := plcG (ordS L) 0 (List.replicate L.length 0)
def ioS (L : List Nde) : List Nde := (ordS L).map fun x => nmD (plS L) (L.getD x.toNat ⟨0, []⟩)
theorem rowD_set : ∀ (L : List Nde) (V : List Value) (k : Nat) (d : Nde) (u : Value), L.length = V.length → rowD (L.set k d) (V.set k u) = ((rowD L V).set (k * 2) (.int .i64 d.b)).set (k * 2 + 1) u
  | [], [], k, d, u, _ => by simp [rowD]
  | [], _ :: _, _, _, _, h => by simp at h
  | _ :: _, [], _, _, _, h => by simp at h
  | x :: L, y :: V, 0, d, u, _ => rfl
  | x :: L, y :: V, k + 1, d, u, h => by
    have := rowD_set L V k d u (by simpa using h)
    rw [show (k + 1) * 2 = k * 2 + 1 + 1 by omega]
    show _ :: _ :: rowD (L.set k d) (V.set k u) = _
    rw [this]; rfl
theorem NdO.set12 {X : World} {base g cap k : Nat} {V : List Value} {L : List Nde} {d : Nde} {u : Value} {n : Nat} (h : NdO X base (.slice (some ⟨g, 0, none⟩) n cap) V L) (hn : L.length = n) (hk : k < n) (hr : X.ownsRow base 54 4 u d.r.length (rowN d.r)) (hf : ∀ (j : Nat) (x : Value), V[j]? = some x → j ≠ k → ∀ z, x.ownBlock = some z → u.ownBlock ≠ some z) : NdO ((X.setCell ⟨g, k * 2, none⟩ (.int .i64 d.b)).setCell ⟨g, k * 2 + 1, none⟩ u) base (.slice (some ⟨g, 0, none⟩) n cap) (V.set k u) (L.set k d) := by
  subst hn
  obtain ⟨cs, hgc⟩ := own_typed18 h.o g rfl
  have hne : ∀ {n : Nat} {x : Value} {xs : List Value}, X.ownsRow base 54 4 x n xs → x.ownBlock ≠ some g := fun ho e => by
    obtain ⟨cs2, h2⟩ := own_typed18 ho g e
    rw [hgc] at h2
    injection h2 with h2
    injection h2 with _ h3 _
    exact absurd h3 (by decide)
  have hown : ∀ {n : Nat} {x : Value} {xs : List Value}, X.ownsRow base 54 4 x n xs → ((X.setCell ⟨g, k * 2, none⟩ (.int .i64 d.b)).setCell ⟨g, k * 2 + 1, none⟩ u).ownsRow base 54 4 x n xs := fun ho => own_far16 (own_far16 ho _ (hne ho)) _ (hne ho)
  refine ⟨?_, by rw [List.length_set, List.length_set]; exact h.l, fun j e x h1 h2 => ?_, fun i j x y z h1 h2 h3 h4 => ?_⟩
  · rw [rowD_set L V k d u h.l.symm, List.length_set]
    exact own_put18 (own_put18 h.o _ (by omega)) _ (by omega)
  · rw [List.getElem?_set] at h1 h2
    by_cases hj : k = j
    · rw [if_pos hj, if_pos (by omega)] at h1
      rw [if_pos hj, if_pos (by have := h.l; omega)] at h2
      cases h1
      cases h2
      exact hown hr
    · rw [if_neg hj] at h1 h2
      exact hown (h.r j e x h1 h2)
  · rw [List.getElem?_set] at h1 h2
    by_cases hi : k = i <;> by_cases hj : k = j
    · omega
    · rw [if_pos hi] at h1
      rw [if_neg hj] at h2
      split at h1
      · cases h1
        exact absurd h3 (hf j y h2 (fun e => hj e.symm) z h4)
      · cases h1
    · rw [if_neg hi] at h1
      rw [if_pos hj] at h2
      split at h2
      · cases h2
        exact absurd h4 (hf i x h1 (fun e => hi e.symm) z h3)
      · cases h2
    · rw [if_neg hi] at h1
      rw [if_neg hj] at h2
      exact h.d i j x y z h1 h2 h3 h4
theorem put12 (l : List Nde) (k m : Nat) (d z : Nde) (h : l[k]? = some d) : (l.take k ++ List.replicate (m + 1) z).set k d = l.take (k + 1) ++ List.replicate m z := by
  have hk : k < l.length := (List.getElem?_eq_some_iff.mp h).1
  have hl : (l.take k).length = k := by rw [List.length_take]; omega
  rw [List.set_append_right _ _ (by omega), hl, Nat.sub_self, List.take_add_one, h]
  simp [List.replicate_succ]
theorem madeNd12 : ∀ n : Nat, (madeCells #[.int .i64 0, .slice none 0 0] (n * 2)).toList = rowD (List.replicate n ⟨0, []⟩) (List.replicate n (.slice none 0 0))
  | 0 => by simp [madeCells, rowD]
  | n + 1 => by
    have ih := madeNd12 n
    rw [List.replicate_succ', List.replicate_succ', rowD_app _ _ _ _ (by simp), ← ih]
    unfold madeCells
    rw [show (n + 1) * 2 = n * 2 + 1 + 1 by omega, Array.range_succ, Array.range_succ]
    simp
theorem place12 (g B : Nat) (P : List Int) (k : Nat) (w : World) (hB : w.heap[B]? = some (.cells #[.slice (some ⟨g, 0, none⟩) P.length P.length] 61)) (hg : w.heap[g]? = some (.cells (P.map cI).toArray 3)) (hk : k < P.length) :
    Calls Try.prog 46 #[.int .i64 (k : Int), .pointer (some ⟨B, 0, none⟩)] w fun e w' => e = .returned (.int .i64 (P.getD k 0)) ∧ Below w.heap.size w w' := by
  have b0 := at_16 hB 0 _ rfl
  have g0 : w.cell? ⟨g, k, none⟩ = some (.int .i64 (P.getD k 0)) := at_16 hg k _ (by rw [List.getElem?_toArray, List.getElem?_map, List.getElem?_eq_getElem hk, List.getD_eq_getElem?_getD, List.getElem?_eq_getElem hk]; rfl)
  have hk2 : (k : Int) < (P.length : Int) := by omega
  clear hB hg hk
  go_enter Try.func46, Try.ntmps46
  go_wp2
  exact bodyPost_ret (v := .int .i64 (P.getD k 0)) (by simp [results, Try.results46, go_sem]) rfl ⟨rfl, Below.refl _ _⟩
set_option maxRecDepth 20000 in
set_option maxHeartbeats 8000000 in
theorem inOrder12_any (v vo vm : Value) (L : List Nde) (w : World) (hv : RwD w v L) (ok : RevOk L) (h0 : 0 < L.length) (hl : L.length ≤ 1000000) (hr : ∀ d ∈ L, d.r.length ≤ 1000000) (hb : ∀ d ∈ L, 0 ≤ d.b ∧ d.b ≤ 128) (hol : (ordS L).length = L.length) (hin : ∀ x ∈ ordS L, 0 ≤ x ∧ x < (L.length : Int)) :
    Calls Try.prog 24 #[.agg #[v, vo, vm]] w fun e w' => ∃ v' V, e = .returned v' ∧ NdO w' w.heap.size v' V (ioS L) ∧ Below w.heap.size w w' := by
  obtain ⟨i0, hi, hz0, hz1, hz2⟩ := info13 Try.infoN16
  obtain ⟨ao, c, hvf, -⟩ := id hv
  subst hvf
  have HV := hid13 hv
  have KW := fun W h => walkS_any (.slice ao L.length c) L (L.length - 1) (hid13 rfl) W h ok h0 (by omega) (fun d hd => Nat.le_trans (hr d hd) (by omega))
  rw [Int.ofNat_sub (by omega : 1 ≤ L.length)] at KW
  have HL : Hid (L.length ≤ 1000000 ∧ (∀ d ∈ L, d.r.length ≤ 1000000) ∧ 0 < L.length ∧ (∀ d ∈ L, 0 ≤ d.b ∧ d.b ≤ 128) ∧ (ordS L).length = L.length ∧ (∀ x ∈ ordS L, 0 ≤ x ∧ x < (L.length : Int))) := ⟨hl, hr, h0, hb, hol, hin⟩
  have HOk := hid13 ok
  have hw1 : IntKind.i64.wrap ((L.length : Int) - 1) = (L.length : Int) - 1 := by rw [IntKind.wrap_i64]; omega
  have q0 := bl1 w (.cells #[.slice ao L.length c, vo, vm] 64)
  have n0 := new_16 w (.cells #[.slice ao L.length c, vo, vm] 64)
  have s0 : (w.alloc (.cells #[.slice ao L.length c, vo, vm] 64)).heap.size = w.heap.size + 1 := World.size_alloc ..
  have K1 := KW _ (hv.below q0)
  clear hv KW ok h0 hr hb hin
  go_enter Try.func24, Try.ntmps24
  go_wp2_with fail
  refine K1.mono ?_
  revert q0 n0 s0
  generalize w.alloc (.cells #[.slice ao L.length c, vo, vm] 64) = W1
  intro q0 n0 s0
  rintro e W2 ⟨v2, rfl, hO2, hB2⟩
  obtain ⟨O, hO⟩ : ∃ O, O = ordS L := ⟨_, rfl⟩
  rw [hol, ← hO] at hO2
  obtain ⟨go, cap, hv2, -⟩ := own_some18 hO2 HL.out.2.2.1
  subst hv2
  have HQ1 : Hid (W1.heap.size = w.heap.size + 1 ∧ Below w.heap.size w W2 ∧ W2.heap[w.heap.size]? = some (.cells #[.slice ao L.length c, vo, vm] 64)) := ⟨s0, q0.trans (hB2.mono (by omega)), (hB2.block _ (lt_16 n0)).trans n0⟩
  have HO2 := hid13 hO2
  have HO : Hid (ordS L = O) := hO.symm
  clear q0 n0 s0 hO2 hB2 K1 hO hol
  go_wp2_with (at_make; apply stopHere9)
  refine (show wpList _ _ _ _ _ _ from ?_)
  refine wpList_make16 _ rfl _ _ 61 rfl 3 i0 (.int .i64 0) Try.underlying61 hi hz0 .i64 .i64 _ _ L.length L.length rfl rfl rfl rfl (Nat.le_refl _) (by rw [hz2]; omega) (by unfold maxLen; omega) ?_
  have eO : madeCells (Value.int IntKind.i64 0).cells (L.length * i0.size) = ((List.replicate L.length (0 : Int)).map cI).toArray := by rw [hz1, Nat.mul_one, List.map_replicate]; exact made_one16 _ _
  rw [eO]
  clear eO
  obtain ⟨O1, hO1⟩ : ∃ O : Obj, O = .cells ((List.replicate L.length (0 : Int)).map cI).toArray 3 := ⟨_, rfl⟩
  rw [← hO1]
  have HY0 : Hid (PcV W2 (List.replicate L.length 0) (W2.alloc O1)) := hid13 ⟨by rw [hO1]; exact new_16 _ _, bl1 _ _⟩
  have HP3 : Hid (∀ U, U = (W2.alloc O1).alloc (.cells #[.slice (some ⟨W2.heap.size, 0, none⟩) L.length L.length] 61) → PcV W2 (List.replicate L.length 0) U ∧ U.heap[W2.heap.size + 1]? = some (.cells #[.slice (some ⟨W2.heap.size, 0, none⟩) L.length L.length] 61)) := hid13 (by
    rintro U rfl
    have n3 := new_16 (W2.alloc O1) (.cells #[.slice (some ⟨W2.heap.size, 0, none⟩) L.length L.length] 61)
    rw [World.size_alloc] at n3
    exact ⟨HY0.out.below (bl1 _ _), n3⟩)
  clear hO1
  go_wp2_with fail
  revert HP3
  generalize ((W2.alloc O1).alloc (.cells #[.slice (some ⟨W2.heap.size, 0, none⟩) L.length L.length] 61)) = W3
  intro HP3
  obtain ⟨p3, b3⟩ := HP3.out W3 rfl
  obtain ⟨R, hR⟩ : ∃ R, R = plS L := ⟨_, rfl⟩
  have HR0 : Hid (PcV W2 (List.replicate L.length 0) W3 ∧ W3.heap[W2.heap.size + 1]? = some (.cells #[.slice (some ⟨W2.heap.size, 0, none⟩) L.length L.length] 61) ∧ (List.replicate L.length (0 : Int)).length = L.length ∧ plcG O 0 (List.replicate L.length 0) = R) := hid13 ⟨p3, b3, by simp, by rw [hR, ← HO.out]; rfl⟩
  have HRd : Hid (plS L = R) := hR.symm
  clear p3 b3 hR HY0 HP3
  have HOl : Hid (O.length = L.length ∧ ∀ x ∈ O, 0 ≤ x ∧ x < (L.length : Int)) := hid13 (by rw [← HO.out]; exact ⟨HL.out.2.2.2.2.1, HL.out.2.2.2.2.2⟩)
  go_loopg [22] L.length (fun g iv wr => ∃ (i : Nat) (P : List Int), i + g = L.length ∧ iv = .int .i64 (i : Int) ∧ Hid (PcV W2 P wr ∧ wr.heap[W2.heap.size + 1]? = some (.cells #[.slice (some ⟨W2.heap.size, 0, none⟩) L.length L.length] 61) ∧ P.length = L.length ∧ plcG (O.drop i) i P = R))
  case atStart => exact ⟨0, _, by omega, rfl, HR0⟩
  case round =>
    clear HR0
    obtain ⟨i, P, hk, rfl, HS⟩ := hrel
    have mi : IntKind.i64.wrap ((i : Int) + 1) = ((i + 1 : Nat) : Int) := by rw [IntKind.wrap_i64]; push_cast; omega
    by_cases hlt : (i : Int) < (L.length : Int)
    · have hli : i < O.length := by have := HOl.out.1; omega
      obtain ⟨x, hx⟩ : ∃ x, O[i]? = some x := ⟨O[i], by simp [hli]⟩
      obtain ⟨hx0, hx1⟩ := HOl.out.2 x (List.mem_of_getElem? hx)
      obtain ⟨k, rfl⟩ : ∃ k : Nat, x = (k : Int) := ⟨x.toNat, by omega⟩
      have o0 := keepc HS.out.1.b (own_at18 HO2.out (j := i) (u := cI (k : Int)) (by rw [List.getElem?_map, hx]; rfl)).1
      have HT : Hid (plcG (O.drop (i + 1)) (i + 1) (P.set k (i : Int)) = R) := hid13 (by rw [← HS.out.2.2.2, plc_drop O i _ hx]; rfl)
      have hPk : k < P.length := by have := HS.out.2.2.1; omega
      have b0 := at_16 HS.out.2.1 0 _ rfl
      have p2 := HS.out.1.cell hPk
      have p2f := fr_16 (j := k) HS.out.1.g
      have HY4 := hid13 (HS.out.1.put k (i : Int))
      have HB4 : Hid ((wr.setCell ⟨W2.heap.size, k, none⟩ (.int .i64 (i : Int))).heap[W2.heap.size + 1]? = some (.cells #[.slice (some ⟨W2.heap.size, 0, none⟩) L.length L.length] 61)) := hid13 ((far_16 (by omega)).trans HS.out.2.1)
      have HPl : Hid ((P.set k (i : Int)).length = L.length) := hid13 (by rw [List.length_set]; exact HS.out.2.2.1)
      have HJ : Hid (i < L.length ∧ i + gk = L.length) := ⟨by omega, hk⟩
      unfold cI at o0
      clear hx hPk HS hk hx0 hli
      go_wp2
      go_roundg (gk - 1)
      case measure => have := HJ.out; omega
      case rel => exact ⟨i + 1, P.set k (i : Int), by have := HJ.out; omega, rfl, hid13 ⟨HY4.out, HB4.out, HPl.out, HT.out⟩⟩
    · have hie : i = L.length := by omega
      have HPR : Hid (P = R) := hid13 (by have := HS.out.2.2.2; rw [hie, List.drop_of_length_le (by have := HOl.out.1; omega)] at this; exact this)
      have HY := hid13 HS.out
      rw [HPR.out] at HY
      obtain ⟨W5, hW5⟩ : ∃ W5, W5 = wr := ⟨_, rfl⟩
      rw [← hW5] at HY ⊢
      clear HS HPR hie hk hW5 mi
      go_wp2_with (at_make; apply stopHere9)
      refine (show wpList _ _ _ _ _ _ from ?_)
      obtain ⟨j0, hj, hj0, hj1, hj2⟩ := info13 Try.infoD16
      refine wpList_make16 _ rfl _ _ 22 rfl 57 j0 (.agg #[.int .i64 0, .slice none 0 0]) Try.underlying22 hj hj0 .i64 .i64 _ _ L.length L.length rfl rfl rfl rfl (Nat.le_refl _) (by rw [hj2]; omega) (by unfold maxLen; omega) ?_
      obtain ⟨Gl, hGl⟩ : ∃ Gl, Gl = W5.heap.size := ⟨_, rfl⟩
      rw [← hGl]
      have HN0 : Hid (∀ U, U = W5.alloc (.cells (madeCells #[.int .i64 0, .slice none 0 0] (L.length * j0.size)) 57) → (NdO U w.heap.size (.slice (some ⟨Gl, 0, none⟩) L.length L.length) (List.replicate L.length (.slice none 0 0)) (List.replicate L.length ⟨0, []⟩) ∧ Below Gl W5 U)) := hid13 (by
        rintro U rfl
        have n3 := new_16 W5 (.cells (madeCells #[.int .i64 0, .slice none 0 0] (L.length * j0.size)) 57)
        refine ⟨⟨?_, by simp, fun j d u h1 h2 => ?_, fun i j x y z h1 h2 h3 h4 => ?_⟩, by rw [hGl]; exact bl1 _ _⟩
        · rw [← madeNd12 L.length, List.length_replicate]
          refine ⟨by simp [madeCells], .inr ⟨Gl, L.length, _, rfl, ?_, by rw [hGl]; exact n3, Nat.le_refl _, by unfold maxLen; have := HL.out.1; omega, by rw [size_madeCells, hj1], ?_⟩⟩
          · rw [hGl]; have := HY.out.1.b.size; have := HQ1.out.2.1.size; omega
          · rw [hj1]
            rw [List.take_of_length_le (by rw [Array.length_toList, size_madeCells]; exact Nat.le_refl _)]
        · have e1 := List.eq_of_mem_replicate (List.mem_of_getElem? h1)
          have e2 := List.eq_of_mem_replicate (List.mem_of_getElem? h2)
          subst e1 e2
          exact World.ownsRow_nil _ _ _ _
        · have e1 := List.eq_of_mem_replicate (List.mem_of_getElem? h1)
          subst e1
          cases h3)
      have HG5 : Hid (Gl = W5.heap.size) := hGl
      clear hGl hj hj0 hj1 hj2
      go_wp2_with fail
      revert HN0
      generalize W5.alloc (.cells (madeCells #[.int .i64 0, .slice none 0 0] (L.length * j0.size)) 57) = W6
      intro HN0
      obtain ⟨N, hN⟩ : ∃ N, N = O.map fun x => nmD R (L.getD x.toNat ⟨0, []⟩) := ⟨_, rfl⟩
      have HNl : Hid (ioS L = N ∧ N.length = L.length) := hid13 ⟨by rw [hN]; unfold ioS; rw [HRd.out, HO.out], by rw [hN, List.length_map]; exact HOl.out.1⟩
      have HN6 : Hid (NdO W6 w.heap.size (.slice (some ⟨Gl, 0, none⟩) L.length L.length) (List.replicate L.length (.slice none 0 0)) (N.take 0 ++ List.replicate L.length ⟨0, []⟩) ∧ Below Gl W5 W6) := hid13 (by
        have := HN0.out W6 rfl
        rw [List.take_zero, List.nil_append]; exact this)
      clear HN0
      go_loopg [37] L.length (fun gk iv wr => ∃ (k : Nat) (V : List Value), k + gk = L.length ∧ iv = .int .i64 (k : Int) ∧ Hid (NdO wr w.heap.size (.slice (some ⟨Gl, 0, none⟩) L.length L.length) V (N.take k ++ List.replicate gk ⟨0, []⟩) ∧ Below Gl W5 wr))
      case atStart => exact ⟨0, _, by omega, rfl, HN6⟩
      case round =>
        clear HN6
        obtain ⟨k, V, hk, rfl, HI⟩ := hrel
        have mk : IntKind.i64.wrap ((k : Int) + 1) = ((k + 1 : Nat) : Int) := by rw [IntKind.wrap_i64]; push_cast; omega
        by_cases hlt : (k : Int) < (L.length : Int)
        · have hkl : k < O.length := by have := HOl.out.1; omega
          obtain ⟨x, hx⟩ : ∃ x, O[k]? = some x := ⟨O[k], by simp [hkl]⟩
          obtain ⟨hx0, hx1⟩ := HOl.out.2 x (List.mem_of_getElem? hx)
          obtain ⟨kx, rfl⟩ : ∃ kx : Nat, x = (kx : Int) := ⟨x.toNat, by omega⟩
          have hxL : kx < L.length := by omega
          have hBW : Below w.heap.size w wr := (HQ1.out.2.1.trans (HY.out.1.b.mono HQ1.out.2.1.size)).trans (HI.out.2.mono (by have := HG5.out; have := HY.out.1.b.size; have := HQ1.out.2.1.size; omega))
          obtain ⟨⟨db, dr⟩, hd⟩ : ∃ d, L[kx]? = some d := ⟨L[kx], by simp [hxL]⟩
          have hgd : L.getD ((kx : Nat) : Int).toNat ⟨0, []⟩ = ⟨db, dr⟩ := by rw [Int.toNat_natCast, List.getD_eq_getElem?_getD, hd]; rfl
          have hNk : N[k]? = some (nmD R ⟨db, dr⟩) := by rw [hN, List.getElem?_map, hx]; show some (nmD R (L.getD ((kx : Nat) : Int).toNat ⟨0, []⟩)) = _; rw [hgd]
          obtain ⟨ao', c', hv9, -, hrw⟩ := HV.out
          injection hv9 with hv9 _ hv8
          subst hv9 hv8
          obtain ⟨ob, off, hob, hoc⟩ := hrw.resolve_left (by rintro rfl; simp at hxL)
          subst hob
          obtain ⟨vr0, x0, x1, hR0⟩ := hoc kx _ hd
          dsimp only at x0 x1 hR0
          obtain ⟨ra, rc, hvr0, -⟩ := id hR0
          subst hvr0
          have hs5 := HY.out.1.b.size
          have hB5 : Below W5.heap.size W5 wr := by rw [← HG5.out]; exact HI.out.2
          have hB2 : Below W2.heap.size W2 wr := HY.out.1.b.trans (hB5.mono hs5)
          have o0 := keepc hB2 (own_at18 HO2.out (j := k) (u := cI (kx : Int)) (by rw [List.getElem?_map, hx]; rfl)).1
          unfold cI at o0
          have y0 := keepc hBW x0
          have y1 := keepc hBW x1
          have z0 := at_16 ((hB2.block _ (lt_16 HQ1.out.2.2)).trans HQ1.out.2.2) 0 _ rfl
          have hkd := HOk.out kx _ hd
          dsimp only at hkd
          have KN := numbered_any db (.slice ra dr.length rc) dr 46 #[.pointer (some ⟨W2.heap.size + 1, 0, none⟩)] wr (fun _ r => R.getD r.n.toNat 0) (fun _ X => Below wr.heap.size wr X) (fun _ => False) (Nat.le_trans (HL.out.2.1 _ (List.mem_of_getElem? hd)) (by omega)) (enters_of Try.func46 (by kernel_rfl) rfl) (fun z q => q.elim)
            (fun pre A B h1 h2 => h1.trans (h2.mono (Nat.le_refl _))) (fun pre X h => (hR0.below hBW).below h) (fun _ _ _ _ h => h)
            (fun pre r t X he hk1 h1 h2 => by
              obtain ⟨r0, r1⟩ := hkd r (by rw [he]; simp) hk1
              have hb1 := hB5.trans (h1.mono hB5.size)
              have hP : X.heap[W2.heap.size + 1]? = _ := (hb1.block _ (lt_16 HY.out.2.1)).trans HY.out.2.1
              have hG : X.heap[W2.heap.size]? = _ := (hb1.block _ (lt_16 HY.out.1.g)).trans HY.out.1.g
              rw [← HY.out.2.2.1] at hP
              have := place12 W2.heap.size (W2.heap.size + 1) R r.n.toNat X hP hG (by rw [HY.out.2.2.1]; omega)
              rw [Int.toNat_of_nonneg r0] at this
              refine this.mono ?_
              rintro e X' ⟨rfl, hb⟩
              exact ⟨rfl, h1.trans (hb.mono h1.size), kx_below hb⟩) (Below.refl _ _)
          have HNk := hid13 hNk
          have HB5 := hid13 hB5
          have HBW := hid13 hBW
          have HJ : Hid (k < L.length ∧ k + gk = L.length) := ⟨by omega, hk⟩
          clear hkl hx hx0 hd hgd hNk hoc hrw x0 x1 hR0 hB5 hB2 hBW hkd hk hs5
          go_wp2_with fail
          refine KN.mono ?_
          rintro e W7 ⟨vo2, rfl, hO7, hB7, -⟩
          obtain ⟨va2, vc2, hvo2⟩ := own_form hO7
          obtain ⟨vl2, hvl2⟩ : ∃ n, n = (nbG (fun _ r => R.getD r.n.toNat 0) [] [] dr).length := ⟨_, rfl⟩
          rw [← hvl2] at hvo2
          subst hvo2
          clear hvl2
          have hN7 := HI.out.1.below hB7
          obtain ⟨cs7, hc7⟩ := own_typed18 hN7.o Gl rfl
          obtain ⟨m, rfl⟩ : ∃ m, gk = m + 1 := ⟨gk - 1, by have := HJ.out; omega⟩
          have hNN : (N.take k ++ List.replicate (m + 1) (⟨0, []⟩ : Nde)).length = L.length := by rw [List.length_append, List.length_take, List.length_replicate, HNl.out.2]; have := HJ.out; omega
          have hV7 : V.length = L.length := by rw [hN7.l, hNN]
          have hkl : k < L.length := HJ.out.1
          have hko := hN7.o
          rw [hNN] at hko
          obtain ⟨e7, he7⟩ : ∃ e7, (rowD (N.take k ++ List.replicate (m + 1) (⟨0, []⟩ : Nde)) V)[k * 2]? = some e7 := by
            have : (rowD (N.take k ++ List.replicate (m + 1) (⟨0, []⟩ : Nde)) V).length = L.length * 2 := hko.1
            exact ⟨_, List.getElem?_eq_getElem (by omega)⟩
          obtain ⟨f7, hf7⟩ : ∃ e7, (rowD (N.take k ++ List.replicate (m + 1) (⟨0, []⟩ : Nde)) V)[k * 2 + 1]? = some e7 := by
            have : (rowD (N.take k ++ List.replicate (m + 1) (⟨0, []⟩ : Nde)) V).length = L.length * 2 := hko.1
            exact ⟨_, List.getElem?_eq_getElem (by omega)⟩
          obtain ⟨a0, a1⟩ := own_at18 hko he7
          obtain ⟨a2, a3⟩ := own_at18 (own_put18 hko (.int .i64 db) (j := k * 2) (by omega)) (j := k * 2 + 1) (u := f7) (by rw [List.getElem?_set_ne (by omega)]; exact hf7)
          obtain ⟨a4, a5⟩ := own_at18 hko hf7
          have hO8 : W7.ownsRow w.heap.size 54 4 (.slice va2 vl2 vc2) (nmD R ⟨db, dr⟩).r.length (rowN (nmD R ⟨db, dr⟩).r) := own_base16 hO7 HBW.out.size
          have hS8 := hN7.set12 (k := k) (d := nmD R ⟨db, dr⟩) (u := .slice va2 vl2 vc2) hNN hkl hO8 (fun j x hx _ z hz hz2 => by
            have h9 : ∃ d9, (N.take k ++ List.replicate (m + 1) (⟨0, []⟩ : Nde))[j]? = some d9 := ⟨_, List.getElem?_eq_getElem (by have := (List.getElem?_eq_some_iff.mp hx).1; omega)⟩
            obtain ⟨d9, hd9⟩ := h9
            obtain ⟨c9, hc9⟩ := own_typed18 (HI.out.1.r j d9 x hd9 hx) z hz
            have := own_ge16 hO7 hz2
            have := lt_16 hc9
            omega)
          rw [put12 N k m _ _ HNk.out] at hS8
          have HS8 := hid13 hS8
          have HB8 : Hid (Below Gl W5 ((W7.setCell ⟨Gl, k * 2, none⟩ (.int .i64 db)).setCell ⟨Gl, k * 2 + 1, none⟩ (.slice va2 vl2 vc2))) := hid13 (((HI.out.2.trans (hB7.mono (by have := HG5.out; have := HB5.out.size; omega))).setCell (p := ⟨Gl, k * 2, none⟩) (Nat.le_refl _) _).setCell (p := ⟨Gl, k * 2 + 1, none⟩) (Nat.le_refl _) _)
          clear hN7 hc7 hNN hV7 hko he7 hf7 hO8 hS8 hO7 hB7 HI KN y0 y1 z0 o0
          go_wp2
          have hm : k + 1 + m = L.length := by have := HJ.out; omega
          go_roundg m
          case measure => omega
          case rel => exact ⟨k + 1, _, hm, rfl, hid13 ⟨HS8.out, HB8.out⟩⟩
        · have hke : k = L.length := by omega
          have hg0 : gk = 0 := by omega
          have HF : Hid (NdO wr w.heap.size (.slice (some ⟨Gl, 0, none⟩) L.length L.length) V (ioS L)) := hid13 (by
            have := HI.out.1
            rw [hg0, hke, List.replicate_zero, List.append_nil, List.take_of_length_le (by rw [HNl.out.2]; exact Nat.le_refl _), ← HNl.out.1] at this
            exact this)
          have HBW : Hid (Below w.heap.size w wr) := hid13 ((HQ1.out.2.1.trans (HY.out.1.b.mono HQ1.out.2.1.size)).trans (HI.out.2.mono (by have := HG5.out; have := HY.out.1.b.size; have := HQ1.out.2.1.size; omega)))
          clear HI hN hke hg0 hk mk
          go_wp2
          exact bodyPost_ret (v := .slice (some ⟨Gl, 0, none⟩) L.length L.length) (by simp [results, Try.results24, go_sem]) rfl ⟨_, rfl, ⟨V, HF.out⟩, HBW.out⟩
end Go.Proofs.Ytdpfdlkaickkiaa
namespace Go.Proofs.Ytdpfdlkaickkiaa
open Go.RowKit Go.Shelf
set_option linter.unusedSimpArgs false
set_option linter.unusedVariables false
attribute [local go_sem] Oper.semAt_some

set_option maxRecDepth 20000 in
set_option maxHeartbeats 4000000 in
theorem rsame12 (b b' : Int) (v u : Value) (l m : List Rn) (w : World) (hv : RwN w v l) (hu : RwN w u m) (hl : l.length ≤ 9223372036854775807) :
    Calls Try.prog 49 #[.agg #[.int .i64 b, v], .agg #[.int .i64 b', u]] w fun e w' => e = .returned (.bool (sqD ⟨b, l⟩ ⟨b', m⟩)) ∧ Below w.heap.size w w' := by
  have hb := bl2 w (.cells #[.int .i64 b, v] 57) (.cells #[.int .i64 b', u] 57)
  have n1 := new_16 w (.cells #[.int .i64 b, v] 57)
  have n2 := new_16 (w.alloc (.cells #[.int .i64 b, v] 57)) (.cells #[.int .i64 b', u] 57)
  rw [World.size_alloc] at n2
  have n1 := old_16 (.cells #[.int .i64 b', u] 57) n1
  have hv2 := hv.below hb
  have hu2 := hu.below hb
  obtain ⟨W, hW⟩ : ∃ W, W = (w.alloc (.cells #[.int .i64 b, v] 57)).alloc (.cells #[.int .i64 b', u] 57) := ⟨_, rfl⟩
  rw [← hW] at hb n1 n2 hv2 hu2
  obtain ⟨ao, c, hvf, -, hvr⟩ := id hv2
  obtain ⟨au, d, huf, -, hur⟩ := id hu2
  subst hvf huf
  have HV := hid13 hvr
  have HU := hid13 hur
  obtain ⟨R, hR⟩ : ∃ R, R = sqD ⟨b, l⟩ ⟨b', m⟩ := ⟨_, rfl⟩
  have HR := hid13 hR
  rw [← hR]
  have HB0 := hid13 hb
  have HN : Hid (W.heap[w.heap.size]? = some (.cells #[.int .i64 b, .slice ao l.length c] 57) ∧ W.heap[w.heap.size + 1]? = some (.cells #[.int .i64 b', .slice au m.length d] 57)) := ⟨n1, n2⟩
  have x0 := at_16 n1 0 _ rfl
  have x1 := at_16 n1 1 _ rfl
  have y0 := at_16 n2 0 _ rfl
  have y1 := at_16 n2 1 _ rfl
  clear hv hu hv2 hu2 hvr hur n1 n2 hb hR
  by_cases hbb : b = b'
  · subst hbb
    by_cases hlen : l.length = m.length
    · have HLn := hid13 hlen
      have HU' : Hid (m = [] ∨ ∃ b off, au = some ⟨b, off, none⟩ ∧ ∀ j r, m[j]? = some r → RnAt W b (off + j * 4) r) := HU
      have HN' : Hid (W.heap[w.heap.size]? = some (.cells #[.int .i64 b, .slice ao l.length c] 57) ∧ W.heap[w.heap.size + 1]? = some (.cells #[.int .i64 b, .slice au l.length d] 57)) := hid13 (by rw [hlen]; exact hlen ▸ HN.out)
      rw [← hlen] at y1
      have hW2 := hW
      rw [← hlen] at hW2 ⊢
      clear hlen HU HN hW
      go_enter Try.func49, Try.ntmps49
      go_wp2_with fail
      rw [← hW2]
      go_loopg [5] l.length (fun g kv wr => ∃ k : Nat, k + g = l.length ∧ kv = .int .i64 (k : Int) ∧ Hid (UptS l m k) ∧ Hid (Below W.heap.size W wr))
      case atStart => exact ⟨0, by omega, rfl, ⟨HLn.out, fun j hj => by omega⟩, Below.refl _ _⟩
      case round =>
        obtain ⟨k, hk, rfl, HUp, hB⟩ := hrel
        have x1 := keepc hB.out x1
        have y1 := keepc hB.out y1
        by_cases hlt : (k : Int) < (l.length : Int)
        · have hks : k < l.length := by omega
          have hkm : k < m.length := by have := HLn.out; omega
          obtain ⟨b, off, rfl, hc⟩ := HV.out.resolve_left (by rintro rfl; simp at hks)
          obtain ⟨b', off', rfl, hc'⟩ := HU'.out.resolve_left (by rintro rfl; simp at hkm)
          have h1 := List.getElem?_eq_getElem hks
          have h2 := List.getElem?_eq_getElem hkm
          obtain ⟨a0, a1, a2, a3⟩ := (hc k _ h1).below hB.out
          obtain ⟨c0, c1, c2, c3⟩ := (hc' k _ h2).below hB.out
          have hE := fun w => eqRn_run l[k].f l[k].k l[k].n m[k].f m[k].k m[k].n w
          generalize l[k] = r at *
          generalize m[k] = s at *
          have hNo := hid13 (fun h => uptS_no (l := l) (m := m) (k := k) h1 h2 h)
          have hYe := hid13 (fun (h : r = s) => uptS_step HUp.out h1 (by rw [h]; exact h2))
          have mk : IntKind.i64.wrap ((k : Int) + 1) = (k : Int) + 1 := by rw [IntKind.wrap_i64]; omega
          have HK : Hid (k + gk = l.length ∧ k < l.length) := ⟨hk, hks⟩
          have HB2 : Hid (∀ n, Below W.heap.size W (wr.drewN n)) := fun n => below_drewN hB.out n
          clear hc hc' h1 h2 hk
          by_cases hrs : r = s
          · rw [(eqRn_iff r s).mpr hrs] at hE
            have HY := hid13 (hYe.out hrs)
            clear hrs hNo hYe
            go_wp2_with fail
            go_quiet (fail)
            go_wp2
            go_roundg (gk - 1)
            case measure => have := HK.out; omega
            case rel => exact ⟨k + 1, by have := HK.out; omega, rfl, HY, HB2.out _⟩
          · have hf : eqRn r s = false := by
              cases e : eqRn r s with
              | false => rfl
              | true => exact absurd ((eqRn_iff r s).mp e) hrs
            rw [hf] at hE
            have HN : Hid (R = false) := by show _ = _; rw [HR.out]; unfold sqD; rw [hNo.out hrs]; simp
            clear hrs hNo hYe hf
            go_wp2_with fail
            go_quiet (fail)
            go_wp2
            go_ret
            exact ⟨by rw [HN.out]; rfl, HB0.out.trans ((HB2.out _).mono HB0.out.size)⟩
        · have HY : Hid (R = true) := by show _ = _; rw [HR.out]; unfold sqD; rw [uptS_yes HUp.out (by omega)]; simp
          clear hk
          go_wp2
          go_ret
          exact ⟨by rw [HY.out]; rfl, HB0.out.trans (hB.out.mono HB0.out.size)⟩
    · have HN2 : Hid (R = false) := by show _ = _; rw [HR.out]; unfold sqD; rw [sqR_no (l := l) (m := m) (fun e => hlen (by rw [e]))]; simp
      have hne : ((l.length : Int) != (m.length : Int)) = true := by simp; omega
      clear hlen
      go_enter Try.func49, Try.ntmps49
      go_wp2
      go_ret
      exact ⟨by rw [HN2.out]; rfl, by rw [← hW]; exact HB0.out⟩
  · have HN2 : Hid (R = false) := by show _ = _; rw [HR.out]; unfold sqD; simp [hbb]
    have hne : (b != b') = true := by simpa using hbb
    go_enter Try.func49, Try.ntmps49
    go_wp2
    go_ret
    exact ⟨by rw [HN2.out]; rfl, by rw [← hW]; exact HB0.out⟩
end Go.Proofs.Ytdpfdlkaickkiaa
