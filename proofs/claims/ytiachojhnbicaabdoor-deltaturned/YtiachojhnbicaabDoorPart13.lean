/-
  Part 13 of the proof: 1 texts, one behind the other.
-/
import Derived.Test.YtiachojhnbicaabDoorPart5
import Derived.Test.YtiachojhnbicaabDoorPart6
import Derived.Test.YtiachojhnbicaabDoorPart12
import Derived.Test.YtiachojhnbicaabDoorPart3
namespace Go.Proofs.YtiachojhnbicaabDoor
open Go.RowKit Go.Shelf
set_option linter.unusedSimpArgs false
set_option linter.unusedVariables false
attribute [local go_sem] Oper.semAt_some

def rm21 (b : List Nat) (E at0 : Nat) : List Nat := (b.drop at0).take (E - at0)
theorem rm21_drop (b : List Nat) (E at0 k : Nat) : (rm21 b E at0).drop k = rm21 b E (at0 + k) := by
  unfold rm21
  rw [List.drop_take, List.drop_drop, show E - at0 - k = E - (at0 + k) by omega]
theorem rm21_take (b : List Nat) (E at0 z : Nat) (h : z ≤ E - at0) : (rm21 b E at0).take z = (b.drop at0).take z := by
  unfold rm21
  rw [List.take_take, Nat.min_eq_left h]
theorem rm21_len (b : List Nat) (E at0 : Nat) (h : E ≤ b.length) : (rm21 b E at0).length = E - at0 := by
  unfold rm21
  rw [List.length_take, List.length_drop]
  omega
theorem psR_rm (a b : List Nat) (h20 : 20 ≤ b.length) : psR a b =
    if b.take 4 ≠ [84, 80, 68, 49] then ((21 : Int), ([] : List Pt))
    else if numN13 ((b.drop (b.length - 4)).take 4) ≠ (crS (b.take (b.length - 4))).toNat then (23, [])
    else if ¬ (numN13 ((b.drop 4).take 4) = a.length ∧ numN13 ((b.drop 8).take 4) = (crS a).toNat) then (33, [])
    else match lsP (numN13 ((b.drop 12).take 4)) (rm21 b (b.length - 4) 16) with
      | none => (22, [])
      | some (L, r) => if r ≠ [] then (22, []) else if fitB a.length L = true then (0, L) else (33, []) := by
  have e0 : (b.drop 4).take (b.length - 8) = rm21 b (b.length - 4) 4 := by unfold rm21; rw [show b.length - 4 - 4 = b.length - 8 by omega]
  unfold psR
  rw [if_neg (by omega : ¬ b.length < 20), e0, rm21_drop, rm21_drop, rm21_drop, rm21_take _ _ _ _ (by omega), rm21_take _ _ _ _ (by omega), rm21_take _ _ _ _ (by omega)]
  rfl
theorem rget21 (v : Value) (b : List Nat) (k : Nat) (w : World) (hv : RwX cB w v b) (hl : b.length ≤ 140737480000000) (hx : ∀ z ∈ b, z < 256) (hk : k + 4 ≤ b.length) :
    Calls Tryd.prog 27 #[v, .int .i64 (k : Int), .int .i64 4] w fun e w' => e = .returned (.tuple #[.int .u32 ((numN13 ((b.drop k).take 4) : Nat) : Int), .bool true]) ∧ w' = w := by
  have h := rget13 v b (k : Int) 4 4 rfl (by decide) (by decide) w hv (by omega) hx (by omega) (by omega)
  have e1 : gtN b (k : Int) 4 = numN13 ((b.drop k).take 4) := by
    unfold gtN
    rw [if_pos ⟨by omega, by omega⟩, Int.toNat_natCast]
  have e2 : decide (0 ≤ (k : Int) ∧ (k : Int) ≤ (b.length : Int) - ((4 : Nat) : Int)) = true := decide_eq_true ⟨by omega, by omega⟩
  rw [e1, e2] at h
  exact h
structure RM21 (w0 : World) (wr : World) (PB : Nat) (ck cd : Value) (x : List Nat) (f1 f9 f11 : Bool) (g : Value) (X : World) : Prop where
  b : Below wr.heap.size wr X
  c0 : f11 = false → X.heap[PB]? = some (.cells #[ck, cd, .slice none 0 0] 38)
  c1 : f11 = true → X.heap[PB]? = some (.cells #[ck, cd, g] 38)
  d9 : f9 = true → X.ownsRow wr.heap.size 5 1 g x.length (x.map cB)
  p : f11 = true → f9 = true
  s : wr.heap.size ≤ PB
  q : f9 = true → f1 = true
set_option maxRecDepth 100000 in
set_option maxHeartbeats 64000000 in
theorem rparse21 (va : Value) (a : List Nat) (vb : Value) (b : List Nat) (w : World) (ha : RwX cB w va a) (hax : ∀ z ∈ a, z < 256) (han : a.length ≤ 1000000000) (hb : RwX cB w vb b) (hbA : RowA w 1 vb b.length (b.map cB)) (hbx : ∀ z ∈ b, z < 256) (hbn : b.length ≤ 1000000000) :
    Calls Tryd.prog 20 #[va, vb] w fun e w' => RdT21 a b w e w' := by
  obtain ⟨i0, ji, jz0, jz1, jz2⟩ := info13 Tryd.infoB13
  obtain ⟨j0, ki, kz0, kz1, kz2⟩ := info13 Tryd.infoP21
  obtain ⟨ao, ac, hva, -⟩ := id ha
  obtain ⟨bo, bc, hvb, hbc, -⟩ := id hb
  subst hva hvb
  have HA : Hid (RwX cB w (.slice ao a.length ac) a ∧ (∀ z ∈ a, z < 256) ∧ a.length ≤ 1000000000) := ⟨ha, hax, han⟩
  have HB : Hid (RwX cB w (.slice bo b.length bc) b ∧ RowA w 1 (.slice bo b.length bc) b.length (b.map cB) ∧ (∀ z ∈ b, z < 256) ∧ b.length ≤ 1000000000 ∧ b.length ≤ bc) := ⟨hb, hbA, hbx, hbn, hbc⟩
  have HRet : Hid (∀ E w', psR a b = (E, []) → Below w.heap.size w w' → RdT21 a b w (.returned (.tuple #[.slice none 0 0, .int .i64 E])) w') := by
    intro E w' hE hb
    exact ⟨.slice none 0 0, by rw [hE], by rw [hE]; exact ⟨none, 0, rfl, Nat.le_refl _, .inl rfl⟩, hb⟩
  have HBq : Hid (Below w.heap.size w w) := Below.refl _ _
  clear ha hax han hb hbA hbx hbn hbc
  by_cases h20 : 20 ≤ b.length
  rotate_left 1
  · have l1 : decide ((b.length : Int) < 20) = true := decide_eq_true (by omega)
    have l1' : (b.length : Int) < 20 := by omega
    have HE : Hid (psR a b = (22, [])) := by show _ = _; unfold psR; rw [if_pos (by omega)]
    clear h20
    go_enter Tryd.func20, Tryd.ntmps20
    go_wp2
    exact bodyPost_ret (v := .tuple #[.slice none 0 0, .int .i64 22]) (by simp [results, Tryd.results20, go_sem, *]) rfl (HRet.out 22 _ HE.out HBq.out)
  have l1' : ¬ (b.length : Int) < 20 := by omega
  obtain ⟨E, hE⟩ : ∃ E, E = b.length - 4 := ⟨_, rfl⟩
  have HPs := hid13 (psR_rm a b h20)
  rw [← hE] at HPs
  have hs1 : ∀ X, Sem.run Tryd.prog (Instr.sliceAt 22 (.slice bo b.length bc) none (some (.int .i64 4)) none) X = .ok (.slice bo 4 bc) X := fun X => run_slice_to (P := Tryd.prog) (w := X) Tryd.underlying22 ji bo b.length bc 4 (by have := HB.out; omega)
  have hs2 : ∀ X, Sem.run Tryd.prog (Instr.sliceAt 22 (.slice bo b.length bc) none (some (.int .i64 (E : Int))) none) X = .ok (.slice bo E bc) X := fun X => run_slice_to (P := Tryd.prog) (w := X) Tryd.underlying22 ji bo b.length bc E (by have := HB.out; omega)
  have cv := conv13 (rwx_take21 HB.out.1 (by omega : 4 ≤ b.length)) (fun z hz => HB.out.2.2.1 z (List.mem_of_mem_take hz))
  have hbq := bsA_eq (x := b.take 4) (y := [84, 80, 68, 49]) (fun z hz => HB.out.2.2.1 z (List.mem_of_mem_take hz)) (by decide)
  rw [show (bsA [84, 80, 68, 49]).toList = [84, 80, 68, 49] from bsA_list _] at hbq
  have w1 : IntKind.i64.wrap ((b.length : Int) - 4) = (E : Int) := by rw [IntKind.wrap_i64]; have := HB.out; omega
  have HL : Hid (E + 4 = b.length ∧ 16 ≤ E ∧ b.length ≤ 1000000000) := ⟨by omega, by omega, HB.out.2.2.2.1⟩
  have hbt : 20 ≤ b.length := h20
  clear h20
  by_cases hm : b.take 4 = [84, 80, 68, 49]
  rotate_left 1
  · rw [decide_eq_false hm] at hbq
    have HE : Hid (psR a b = (21, [])) := by show _ = _; rw [HPs.out, if_pos hm]
    generalize bsA (b.take 4) = st at *
    clear hm hE hbt
    go_enter Tryd.func20, Tryd.ntmps20
    go_wp2
    exact bodyPost_ret (v := .tuple #[.slice none 0 0, .int .i64 21]) (by simp [results, Tryd.results20, go_sem, *]) rfl (HRet.out 21 _ HE.out HBq.out)
  rw [decide_eq_true hm] at hbq
  generalize bsA (b.take 4) = st at *
  obtain ⟨sm, hsm⟩ : ∃ s, s = numN13 ((b.drop E).take 4) := ⟨_, rfl⟩
  obtain ⟨cs, hcs⟩ : ∃ s, s = (crS (b.take E)).toNat := ⟨_, rfl⟩
  have K1 := rget21 _ b E w HB.out.1 (by have := HB.out; omega) HB.out.2.2.1 (by omega)
  have K2 := rsum13 (.slice bo E bc) (b.take E) w (rwx_take21 HB.out.1 (by omega)) (by rw [List.length_take]; have := HB.out; omega) (fun z hz => HB.out.2.2.1 z (List.mem_of_mem_take hz))
  rw [← hsm] at K1
  rw [uI_eq, ← hcs] at K2
  have HSm : Hid (sm = numN13 ((b.drop E).take 4) ∧ cs = (crS (b.take E)).toNat) := ⟨hsm, hcs⟩
  have HMg : Hid (b.take 4 = [84, 80, 68, 49]) := hm
  clear hm hsm hcs hE hbt
  by_cases hq : sm = cs
  rotate_left 1
  · have hb1 : ((sm : Int) != (cs : Int)) = true := by simp; omega
    have HE : Hid (psR a b = (23, [])) := by show _ = _; rw [HPs.out, if_neg (nn21 HMg.out), ← HSm.out.1, ← HSm.out.2, if_pos hq]
    clear hq
    go_enter Tryd.func20, Tryd.ntmps20
    go_wp2_with fail
    refine K1.mono ?_
    rintro e w2 ⟨rfl, hw2⟩
    replace hw2 := hw2.symm
    subst hw2
    go_wp2_with fail
    refine K2.mono ?_
    rintro e w2 ⟨rfl, hw2⟩
    replace hw2 := hw2.symm
    subst hw2
    clear K1 K2
    go_wp2
    exact bodyPost_ret (v := .tuple #[.slice none 0 0, .int .i64 23]) (by simp [results, Tryd.results20, go_sem, *]) rfl (HRet.out 23 _ HE.out HBq.out)
  have hb1 : ((sm : Int) != (cs : Int)) = false := by rw [hq]; simp
  have HSq : Hid (sm = cs) := hq
  clear hq
  obtain ⟨n0, hn0⟩ : ∃ s, s = numN13 ((b.drop 4).take 4) := ⟨_, rfl⟩
  obtain ⟨n1, hn1⟩ : ∃ s, s = numN13 ((b.drop 8).take 4) := ⟨_, rfl⟩
  obtain ⟨mn, hmn⟩ : ∃ s, s = numN13 ((b.drop 12).take 4) := ⟨_, rfl⟩
  obtain ⟨ca, hca⟩ : ∃ s, s = (crS a).toNat := ⟨_, rfl⟩
  have K3 := rget21 _ b 4 w HB.out.1 (by have := HB.out; omega) HB.out.2.2.1 (by have := HL.out; omega)
  have K4 := rget21 _ b 8 w HB.out.1 (by have := HB.out; omega) HB.out.2.2.1 (by have := HL.out; omega)
  have K5 := rsum13 (.slice ao a.length ac) a w HA.out.1 (by have := HA.out; omega) HA.out.2.1
  have K6 := rget21 _ b 12 w HB.out.1 (by have := HB.out; omega) HB.out.2.2.1 (by have := HL.out; omega)
  rw [← hn0] at K3
  rw [← hn1] at K4
  rw [uI_eq, ← hca] at K5
  rw [← hmn] at K6
  have b0 : n0 < 4294967296 := by rw [hn0]; exact numN4_lt _ (fun z hz => HB.out.2.2.1 z (List.mem_of_mem_drop hz))
  have b2 : mn < 4294967296 := by rw [hmn]; exact numN4_lt _ (fun z hz => HB.out.2.2.1 z (List.mem_of_mem_drop hz))
  have c0 : IntKind.i64.wrap (n0 : Int) = (n0 : Int) := by rw [IntKind.wrap_i64]; omega
  have c3 : IntKind.i64.wrap (mn : Int) = (mn : Int) := by rw [IntKind.wrap_i64]; omega
  have HNs : Hid (n0 = numN13 ((b.drop 4).take 4) ∧ n1 = numN13 ((b.drop 8).take 4) ∧ mn = numN13 ((b.drop 12).take 4) ∧ ca = (crS a).toNat ∧ mn < 4294967296) := ⟨hn0, hn1, hmn, hca, b2⟩
  have HP2 : Hid (psR a b = if ¬ (n0 = a.length ∧ n1 = ca) then ((33 : Int), ([] : List Pt)) else match lsP mn (rm21 b E 16) with
      | none => (22, [])
      | some (L, r) => if r ≠ [] then (22, []) else if fitB a.length L = true then (0, L) else (33, [])) := by
    show _ = _
    rw [HPs.out, if_neg (nn21 HMg.out), ← HSm.out.1, ← HSm.out.2, if_neg (nn21 HSq.out), ← hn0, ← hn1, ← hmn, ← hca]
  clear hn0 hn1 hmn hca b0 b2 HPs HSm HSq HMg
  by_cases hq0 : n0 = a.length
  rotate_left 1
  · have hb2 : ((n0 : Int) != (a.length : Int)) = true := by simp; omega
    have HE : Hid (psR a b = (33, [])) := by show _ = _; rw [HP2.out, if_pos (fun q => hq0 q.1)]
    clear hq0
    go_enter Tryd.func20, Tryd.ntmps20
    go_wp2_with fail
    refine K1.mono ?_
    rintro e w2 ⟨rfl, hw2⟩
    replace hw2 := hw2.symm
    subst hw2
    go_wp2_with fail
    refine K2.mono ?_
    rintro e w2 ⟨rfl, hw2⟩
    replace hw2 := hw2.symm
    subst hw2
    go_wp2_with fail
    refine K3.mono ?_
    rintro e w2 ⟨rfl, hw2⟩
    replace hw2 := hw2.symm
    subst hw2
    go_wp2_with fail
    refine K4.mono ?_
    rintro e w2 ⟨rfl, hw2⟩
    replace hw2 := hw2.symm
    subst hw2
    clear K1 K2 K3 K4 K5 K6
    go_wp2
    exact bodyPost_ret (v := .tuple #[.slice none 0 0, .int .i64 33]) (by simp [results, Tryd.results20, go_sem, *]) rfl (HRet.out 33 _ HE.out HBq.out)
  have hb2 : ((n0 : Int) != (a.length : Int)) = false := by rw [hq0]; simp
  by_cases hq1 : n1 = ca
  rotate_left 1
  · have hb3 : ((n1 : Int) != (ca : Int)) = true := by simp; omega
    have HE : Hid (psR a b = (33, [])) := by show _ = _; rw [HP2.out, if_pos (fun q => hq1 q.2)]
    clear hq0 hq1
    go_enter Tryd.func20, Tryd.ntmps20
    go_wp2_with fail
    refine K1.mono ?_
    rintro e w2 ⟨rfl, hw2⟩
    replace hw2 := hw2.symm
    subst hw2
    go_wp2_with fail
    refine K2.mono ?_
    rintro e w2 ⟨rfl, hw2⟩
    replace hw2 := hw2.symm
    subst hw2
    go_wp2_with fail
    refine K3.mono ?_
    rintro e w2 ⟨rfl, hw2⟩
    replace hw2 := hw2.symm
    subst hw2
    go_wp2_with fail
    refine K4.mono ?_
    rintro e w2 ⟨rfl, hw2⟩
    replace hw2 := hw2.symm
    subst hw2
    go_wp2_with fail
    refine K5.mono ?_
    rintro e w2 ⟨rfl, hw2⟩
    replace hw2 := hw2.symm
    subst hw2
    clear K1 K2 K3 K4 K5 K6
    go_wp2
    exact bodyPost_ret (v := .tuple #[.slice none 0 0, .int .i64 33]) (by simp [results, Tryd.results20, go_sem, *]) rfl (HRet.out 33 _ HE.out HBq.out)
  have hb3 : ((n1 : Int) != (ca : Int)) = false := by rw [hq1]; simp
  have HP3 : Hid (psR a b = match lsP mn (rm21 b E 16) with
      | none => ((22 : Int), ([] : List Pt))
      | some (L, r) => if r ≠ [] then (22, []) else if fitB a.length L = true then (0, L) else (33, [])) := by
    show _ = _
    rw [HP2.out, if_neg (nn21 ⟨hq0, hq1⟩)]
  clear hq0 hq1 HP2
  go_enter Tryd.func20, Tryd.ntmps20
  go_wp2_with fail
  refine K1.mono ?_
  rintro e w2 ⟨rfl, hw2⟩
  replace hw2 := hw2.symm
  subst hw2
  go_wp2_with fail
  refine K2.mono ?_
  rintro e w2 ⟨rfl, hw2⟩
  replace hw2 := hw2.symm
  subst hw2
  go_wp2_with fail
  refine K3.mono ?_
  rintro e w2 ⟨rfl, hw2⟩
  replace hw2 := hw2.symm
  subst hw2
  go_wp2_with fail
  refine K4.mono ?_
  rintro e w2 ⟨rfl, hw2⟩
  replace hw2 := hw2.symm
  subst hw2
  go_wp2_with fail
  refine K5.mono ?_
  rintro e w2 ⟨rfl, hw2⟩
  replace hw2 := hw2.symm
  subst hw2
  go_wp2_with fail
  refine K6.mono ?_
  rintro e w2 ⟨rfl, hw2⟩
  replace hw2 := hw2.symm
  subst hw2
  clear K1 K2 K3 K4 K5 K6 hb1 hb2 hb3 hbq cv hs1 hs2 w1 c0
  go_wp2
  have HO0 : Hid (w.ownsRow w.heap.size 38 3 (.slice none 0 0) 0 []) := World.ownsRow_nil _ _ _ _
  go_loopg [15, 16, 17] mn (fun g vp pa i wr => ∃ (k at0 : Nat) (V : List Value) (L : List Pt) (po : Option Addr) (pc : Nat), k + g = mn ∧ i = .int .i64 (k : Int) ∧ pa = .int .i64 (at0 : Int) ∧ vp = .slice po k pc ∧ Hid (16 ≤ at0 ∧ at0 ≤ E ∧ 12 * k ≤ at0) ∧ Hid (wr.ownsRow w.heap.size 38 3 (.slice po k pc) k (rowP21 L V)) ∧ Hid (V.length = k ∧ L.length = k) ∧ Hid (∀ (j : Nat) (d : Pt) (u : Value), L[j]? = some d → V[j]? = some u → DtN21 w.heap.size wr (.slice po k pc) u d.x) ∧ Hid (Below w.heap.size w wr) ∧ Hid (lsP mn (rm21 b E 16) = (lsP g (rm21 b E at0)).map fun q => (L ++ q.1, q.2)))
  case atStart => exact ⟨0, 16, [], [], none, 0, by omega, rfl, rfl, rfl, ⟨by omega, by have := HL.out; omega, by omega⟩, HO0.out, ⟨rfl, rfl⟩, (fun j d u _ h => by simp at h), HBq.out, by show _ = _; cases lsP mn (rm21 b E 16) <;> simp⟩
  case round =>
    clear HO0 HBq
    obtain ⟨k, at0, V, L, po, pc, hk, rfl, rfl, rfl, HAt, HO, HVl, HVr, HBr, HE0⟩ := hrel
    by_cases hlt : k < mn
    rotate_left 1
    · have hg0 : gk = 0 := by omega
      have l1 : ¬ (k : Int) < (mn : Int) := by omega
      have HLs : Hid (lsP mn (rm21 b E 16) = some (L, rm21 b E at0)) := by
        show _ = _
        rw [HE0.out, hg0]
        simp [lsP]
      have HPt : Hid (PtR21 wr (.slice po L.length pc) L) := by
        have ho := HO.out
        rw [← HVl.out.2] at ho
        exact ptr_of21 ho (by rw [HVl.out.1, HVl.out.2]) (fun j d u h1 h2 => HVr.out j d u h1 h2 wr (fun z hz hlt _ => rfl))
      have hkl : k = L.length := HVl.out.2.symm
      have hml : (rm21 b E at0).length = E - at0 := rm21_len b E at0 (by have := HL.out; omega)
      have HBq := HBr
      clear hlt hk hg0 HO HVr HE0
      by_cases hae : at0 = E
      rotate_left 1
      · have l2 : ((at0 : Int) != (E : Int)) = true := by simp; omega
        have HE : Hid (psR a b = (22, [])) := by
          show _ = _
          rw [HP3.out, HLs.out]
          simp only
          rw [if_pos (by intro q; rw [q] at hml; simp at hml; have := HAt.out; omega)]
        clear hae hml hkl
        go_wp2
        exact bodyPost_ret (v := .tuple #[.slice none 0 0, .int .i64 22]) (by simp [results, Tryd.results20, go_sem, *]) rfl (HRet.out 22 _ HE.out HBq.out)
      have l2 : ((at0 : Int) != (E : Int)) = false := by rw [hae]; simp
      have hr0 : rm21 b E at0 = [] := List.eq_nil_of_length_eq_zero (by rw [hml]; omega)
      subst hkl
      have KF := rfit21 (a.length : Int) _ L wr (by omega) (by have := HA.out; omega) HPt.out (by have := HAt.out; have := HL.out; omega)
      cases hfb : fitB (a.length : Int) L with
      | false =>
        have HE : Hid (psR a b = (33, [])) := by
          show _ = _
          rw [HP3.out, HLs.out]
          simp only
          rw [hr0, if_neg (nn21 rfl), if_neg (by rw [hfb]; decide)]
        rw [hfb] at KF
        clear hae hml hfb hr0
        go_wp2_with fail
        refine KF.mono ?_
        rintro e w3 ⟨rfl, hb3⟩
        have HBq : Hid (Below w.heap.size w w3) := keepb hb3 HBr.out
        clear hb3 KF
        go_wp2
        exact bodyPost_ret (v := .tuple #[.slice none 0 0, .int .i64 33]) (by simp [results, Tryd.results20, go_sem, *]) rfl (HRet.out 33 _ HE.out HBq.out)
      | true =>
        have HE : Hid (psR a b = (0, L)) := by
          show _ = _
          rw [HP3.out, HLs.out]
          simp only
          rw [hr0, if_neg (nn21 rfl), if_pos hfb]
        rw [hfb] at KF
        clear hae hml hfb hr0
        go_wp2_with fail
        refine KF.mono ?_
        rintro e w3 ⟨rfl, hb3⟩
        have HBq : Hid (Below w.heap.size w w3) := keepb hb3 HBr.out
        have HPt3 := hid13 (HPt.out.below hb3)
        clear hb3 KF
        go_wp2
        exact bodyPost_ret (v := .tuple #[.slice po L.length pc, .int .i64 0]) (by simp [results, Tryd.results20, go_sem, *]) rfl ⟨.slice po L.length pc, by rw [HE.out], by rw [HE.out]; exact HPt3.out, HBq.out⟩
    have l1 : (k : Int) < (mn : Int) := by omega
    obtain ⟨g1, hg1⟩ : ∃ g1, gk = g1 + 1 := ⟨gk - 1, by omega⟩
    have hml : (rm21 b E at0).length = E - at0 := rm21_len b E at0 (by have := HL.out; omega)
    have w2 : IntKind.i64.wrap ((E : Int) - (at0 : Int)) = ((E - at0 : Nat) : Int) := by rw [IntKind.wrap_i64]; have := HAt.out; have := HL.out; omega
    by_cases h12 : E - at0 < 12
    · have l2 : ((E - at0 : Nat) : Int) < 12 := by omega
      have hpc : pcP (rm21 b E at0) = none := by unfold pcP; rw [if_pos (by rw [hml]; exact h12)]
      have HE : Hid (psR a b = (22, [])) := by
        show _ = _
        rw [HP3.out, HE0.out, hg1]
        simp [lsP, hpc]
      have HBq := HBr
      obtain ⟨dE, hdE⟩ : ∃ d, d = E - at0 := ⟨_, rfl⟩
      rw [← hdE] at w2 l2
      clear hlt hk hg1 hml hpc h12 HO HVr HE0 hdE
      go_wp2
      exact bodyPost_ret (v := .tuple #[.slice none 0 0, .int .i64 22]) (by simp [results, Tryd.results20, go_sem, *]) rfl (HRet.out 22 _ HE.out HBq.out)
    have l2 : ¬ ((E - at0 : Nat) : Int) < 12 := by omega
    obtain ⟨nk, hnk⟩ : ∃ s, s = numN13 ((b.drop at0).take 4) := ⟨_, rfl⟩
    obtain ⟨nd, hnd⟩ : ∃ s, s = numN13 ((b.drop (at0 + 4)).take 4) := ⟨_, rfl⟩
    obtain ⟨nm, hnm⟩ : ∃ s, s = numN13 ((b.drop (at0 + 8)).take 4) := ⟨_, rfl⟩
    obtain ⟨a4, ha4⟩ : ∃ s, s = at0 + 4 := ⟨_, rfl⟩
    obtain ⟨a8, ha8⟩ : ∃ s, s = at0 + 8 := ⟨_, rfl⟩
    obtain ⟨a12, ha12⟩ : ∃ s, s = at0 + 12 := ⟨_, rfl⟩
    have K1 := rget21 _ b at0 wr (HB.out.1.below HBr.out) (by have := HB.out; omega) HB.out.2.2.1 (by have := HL.out; omega)
    have K2 := rget21 _ b a4 wr (HB.out.1.below HBr.out) (by have := HB.out; omega) HB.out.2.2.1 (by have := HL.out; omega)
    have K3 := rget21 _ b a8 wr (HB.out.1.below HBr.out) (by have := HB.out; omega) HB.out.2.2.1 (by have := HL.out; omega)
    rw [← hnk] at K1
    rw [ha4, ← hnd, ← ha4] at K2
    rw [ha8, ← hnm, ← ha8] at K3
    have w4 : IntKind.i64.wrap ((at0 : Int) + 4) = (a4 : Int) := by rw [IntKind.wrap_i64]; have := HAt.out; have := HL.out; omega
    have w8 : IntKind.i64.wrap ((at0 : Int) + 8) = (a8 : Int) := by rw [IntKind.wrap_i64]; have := HAt.out; have := HL.out; omega
    have w12 : IntKind.i64.wrap ((at0 : Int) + 12) = (a12 : Int) := by rw [IntKind.wrap_i64]; have := HAt.out; have := HL.out; omega
    have hlt4 : ∀ z, numN13 ((b.drop z).take 4) < 4294967296 := fun z => numN4_lt _ (fun y hy => HB.out.2.2.1 y (List.mem_of_mem_drop hy))
    have bk : nk < 4294967296 := by rw [hnk]; exact hlt4 _
    have bd : nd < 4294967296 := by rw [hnd]; exact hlt4 _
    have bm : nm < 4294967296 := by rw [hnm]; exact hlt4 _
    have ck : IntKind.i64.wrap (nk : Int) = (nk : Int) := by rw [IntKind.wrap_i64]; omega
    have cd : IntKind.i64.wrap (nd : Int) = (nd : Int) := by rw [IntKind.wrap_i64]; omega
    have cm : IntKind.i64.wrap (nm : Int) = (nm : Int) := by rw [IntKind.wrap_i64]; omega
    obtain ⟨e12, he12⟩ : ∃ s, s = E - a12 := ⟨_, rfl⟩
    have w13 : IntKind.i64.wrap ((E : Int) - (a12 : Int)) = (e12 : Int) := by rw [IntKind.wrap_i64]; have := HAt.out; have := HL.out; omega
    have hpcE : pcP (rm21 b E at0) = if e12 < nm then none else some (⟨(nk : Int), (nd : Int), (b.drop a12).take nm⟩, rm21 b E (a12 + nm)) := by
      unfold pcP
      rw [if_neg (by rw [hml]; omega), rm21_drop, rm21_drop, rm21_drop, rm21_take _ _ _ _ (by omega), rm21_take _ _ _ _ (by omega), rm21_take _ _ _ _ (by omega), ← hnk, ← hnd, ← hnm, rm21_len b E _ (by have := HL.out; omega), ← ha12, ← he12]
      by_cases hc : e12 < nm
      · rw [if_pos hc, if_pos hc]
      · rw [if_neg hc, if_neg hc, rm21_take _ _ _ _ (by omega), rm21_drop]
    obtain ⟨dE, hdE⟩ : ∃ d, d = E - at0 := ⟨_, rfl⟩
    rw [← hdE] at w2 l2
    by_cases hem : e12 < nm
    · have l3 : (e12 : Int) < (nm : Int) := by omega
      rw [if_pos hem] at hpcE
      have HE : Hid (psR a b = (22, [])) := by
        show _ = _
        rw [HP3.out, HE0.out, hg1]
        simp [lsP, hpcE]
      have HBq := HBr
      clear hlt hk hg1 hml hpcE h12 HO HVr HE0 hnk hnd hnm ha4 ha8 ha12 bk bd bm hlt4 he12 hem hdE
      go_wp2_with fail
      refine K1.mono ?_
      rintro e w3 ⟨rfl, hw3⟩
      replace hw3 := hw3.symm
      subst hw3
      go_wp2_with fail
      refine K2.mono ?_
      rintro e w3 ⟨rfl, hw3⟩
      replace hw3 := hw3.symm
      subst hw3
      go_wp2_with fail
      refine K3.mono ?_
      rintro e w3 ⟨rfl, hw3⟩
      replace hw3 := hw3.symm
      subst hw3
      clear K1 K2 K3
      go_wp2
      exact bodyPost_ret (v := .tuple #[.slice none 0 0, .int .i64 22]) (by simp [results, Tryd.results20, go_sem, *]) rfl (HRet.out 22 _ HE.out HBq.out)
    have l3 : ¬ (e12 : Int) < (nm : Int) := by omega
    rw [if_neg hem] at hpcE
    obtain ⟨x, hx⟩ : ∃ x, x = (b.drop a12).take nm := ⟨_, rfl⟩
    obtain ⟨an, han⟩ : ∃ s, s = a12 + nm := ⟨_, rfl⟩
    rw [← hx, ← han] at hpcE
    have hxl : x.length = nm := by rw [hx, List.length_take, List.length_drop]; have := HL.out; omega
    have HEq : Hid (lsP mn (rm21 b E 16) = (lsP g1 (rm21 b E an)).map fun q => ((L ++ [⟨(nk : Int), (nd : Int), x⟩]) ++ q.1, q.2)) := by
      show _ = _
      rw [HE0.out, hg1]
      cases hq : lsP g1 (rm21 b E an) with
      | none => simp [lsP, hpcE, hq]
      | some q => simp [lsP, hpcE, hq]
    have wn : IntKind.i64.wrap ((a12 : Int) + (nm : Int)) = (an : Int) := by rw [IntKind.wrap_i64]; have := HAt.out; have := HL.out; omega
    have wk : IntKind.i64.wrap ((k : Int) + 1) = ((k + 1 : Nat) : Int) := by rw [IntKind.wrap_i64]; have := HAt.out; have := HL.out; omega
    have HS : Hid (∀ X, Sem.run Tryd.prog (Instr.sliceAt 22 (.slice bo b.length bc) (some (.int .i64 (a12 : Int))) (some (.int .i64 (an : Int))) none) X = .ok (.slice (if bc = a12 then bo else bo.map (·.add (a12 * 1))) nm (bc - a12)) X) := by
      intro X
      have h := slice_mid17 (P := Tryd.prog) (w := X) Tryd.underlying22 ji jz1 bo b.length bc a12 an (by omega) (by have := HB.out; have := HL.out; omega)
      rw [show an - a12 = nm by omega] at h
      exact h
    have HXr : Hid (RowA w 1 (.slice (if bc = a12 then bo else bo.map (·.add (a12 * 1))) nm (bc - a12)) x.length (x.map cB)) := by
      rw [hxl, hx]
      exact rowA_mid21 HB.out.2.1 (by have := HL.out; omega)
    generalize (if bc = a12 then bo else bo.map (·.add (a12 * 1))) = xo at *
    have HK : Hid (k < mn ∧ k + gk = mn ∧ gk = g1 + 1 ∧ 16 ≤ an ∧ an ≤ E ∧ 12 * (k + 1) ≤ an ∧ x.length = nm ∧ nm ≤ 1000000000) := ⟨hlt, hk, hg1, by have := HAt.out; omega, by have := HAt.out; omega, by have := HAt.out; omega, hxl, by have := HL.out; omega⟩
    have h63 : k + 1 ≤ maxLen := by unfold maxLen; have := HAt.out; have := HL.out; omega
    have h47 : (k + 1) * 40 ≤ 140737488355328 := by have := HAt.out; have := HL.out; omega
    clear hlt hk hg1 hml hpcE h12 HE0 hnk hnd hnm ha4 ha8 ha12 bk bd bm hlt4 he12 hem hdE hx han hxl
    go_wp2_with fail
    refine K1.mono ?_
    rintro e w3 ⟨rfl, hw3⟩
    replace hw3 := hw3.symm
    subst hw3
    go_wp2_with fail
    refine K2.mono ?_
    rintro e w3 ⟨rfl, hw3⟩
    replace hw3 := hw3.symm
    subst hw3
    go_wp2_with fail
    refine K3.mono ?_
    rintro e w3 ⟨rfl, hw3⟩
    replace hw3 := hw3.symm
    subst hw3
    clear K1 K2 K3 w4 w8
    have q1 := bl1 wr (.cells #[.int .i64 (nk : Int), .int .i64 (nd : Int), .slice none 0 0] 38)
    obtain ⟨W1, hW1⟩ : ∃ W1, W1 = wr.alloc (.cells #[.int .i64 (nk : Int), .int .i64 (nd : Int), .slice none 0 0] 38) := ⟨_, rfl⟩
    have hcb : W1.heap[wr.heap.size]? = some (.cells #[.int .i64 (nk : Int), .int .i64 (nd : Int), .slice none 0 0] 38) := by rw [hW1]; exact new_16 _ _
    rw [← hW1] at q1
    have HR0 : Hid (RM21 w wr wr.heap.size (.int .i64 (nk : Int)) (.int .i64 (nd : Int)) x false false false undef W1.drew) := ⟨q1.drew, fun _ => hcb, fun q => (by cases q), fun q => (by cases q), fun q => (by cases q), Nat.le_refl _, fun q => (by cases q)⟩
    clear q1 hcb
    go_wp2_with fail
    rw [← hW1]
    clear hW1
    refine gh_region (γ := Value) (qpOk 12 12 (by decide) (fun N => by kernel_rfl) (by kernel_rfl) (by kernel_rfl) (by kernel_rfl) (by kernel_rfl)) (by kernel_rfl) (by kernel_rfl) [some 116, some 117, some 118, some 119, some 120, some 121, some 122, some 123, some 124, some 125, some 126, none] (fun g => [.pointer (some ⟨wr.heap.size, 2, none⟩), .slice none 0 0, .slice bo b.length bc, .int .i64 (a12 : Int), .int .i64 (a12 : Int), .int .u32 (nm : Int), .int .i64 (nm : Int), .int .i64 (an : Int), .slice xo nm (bc - a12), g, .pointer (some ⟨wr.heap.size, 2, none⟩), undef]) (by kernel_rfl) (by simp) (fun lp g X => RM21 w wr wr.heap.size (.int .i64 (nk : Int)) (.int .i64 (nd : Int)) x (lp.getD 1 false) (lp.getD 9 false) (lp.getD 11 false) g X) undef HR0.out ?step28 ?fin28
    case step28 =>
      intro q o lp g w' a' ho hsz hun hdep hR hS K Q' hK
      have hfl : ∀ j, j ≠ q → (lp.setIfInBounds q true).getD j false = lp.getD j false := fun j hj => by rw [Array.getD_eq_getD_getElem?, Array.getD_eq_getD_getElem?, Array.getElem?_setIfInBounds_ne (by omega)]
      have hq : q < 12 := (List.getElem?_eq_some_iff.mp ho).1
      match q, ho, hun, hdep, hK, hfl, hq with
      | 0, ho, hun, hdep, hK, hfl, _ =>
        obtain rfl := Option.some.inj ho
        have o24 : a'.tmps[24]? = some (.pointer (some ⟨wr.heap.size, 0, none⟩)) := (hS.old14 24 (by simp)).trans rfl
        have hK' := hK g w' (fun _ _ _ _ _ _ => rfl) (by rw [hfl 1 (by decide), hfl 9 (by decide), hfl 11 (by decide)]; exact hR) (.pointer (some ⟨wr.heap.size, 2, none⟩)) (by simp only [valO, Option.bind_some]; (try simp only [putAll, Act.put, List.setIfInBounds_toArray, List.set_cons_zero, List.set_cons_succ]); (try rfl))
        clear hS hdep hR
        refine gh_quiet14 (v := .pointer (some ⟨wr.heap.size, 2, none⟩)) ?_ ?_
        · (simp only [execOp, Act.eval, o24]; go_simp; first | done | (simp; done) | (simp [*]; done) | omega | (rw [IntKind.wrap_i64]; omega))
        · exact hK'
      | 1, ho, hun, hdep, hK, hfl, _ =>
        obtain rfl := Option.some.inj ho
        have d0 : lp.getD 0 false = true := hdep { on := 0, ground := .data } (by simp) rfl
        have e116 : a'.tmps[116]? = some (.pointer (some ⟨wr.heap.size, 2, none⟩)) := (hS.don 0 _ 116 rfl d0 rfl).trans (by simp only [putAll, Act.put, List.setIfInBounds_toArray, List.set_cons_zero, List.set_cons_succ]; rfl)
        have n11 : lp.getD 11 false = false := by
          cases h : lp.getD 11 false with
          | false => rfl
          | true => have := hR.q (hR.p h); rw [hun] at this; cases this
        have z2 := at_16 (hR.c0 n11) 2 _ rfl
        have hK' := hK g w' (fun _ _ _ _ _ _ => rfl) (by rw [hfl 9 (by decide), hfl 11 (by decide), getD_set_same (by rw [hsz]; decide)]; exact ⟨hR.b, hR.c0, hR.c1, hR.d9, hR.p, hR.s, fun _ => rfl⟩) (.slice none 0 0) (by simp only [valO, Option.bind_some]; simp only [putAll, Act.put, List.setIfInBounds_toArray, List.set_cons_zero, List.set_cons_succ]; rfl)
        clear hS hdep hR
        refine gh_quiet14 (v := .slice none 0 0) ?_ ?_
        · (simp only [execOp, Act.eval, e116]; go_simp; first | done | (simp; done))
        · exact hK'
      | 2, ho, hun, hdep, hK, hfl, _ =>
        obtain rfl := Option.some.inj ho
        have o1 : a'.tmps[1]? = some (.slice bo b.length bc) := (hS.old14 1 (by simp)).trans rfl
        have hK' := hK g w' (fun _ _ _ _ _ _ => rfl) (by rw [hfl 1 (by decide), hfl 9 (by decide), hfl 11 (by decide)]; exact hR) (.slice bo b.length bc) (by simp only [valO, Option.bind_some]; (try simp only [putAll, Act.put, List.setIfInBounds_toArray, List.set_cons_zero, List.set_cons_succ]); (try rfl))
        clear hS hdep hR
        refine gh_quiet14 (v := .slice bo b.length bc) ?_ ?_
        · (simp only [execOp, Act.eval, o1]; go_simp; first | done | (simp; done) | (simp [*]; done) | omega | (rw [IntKind.wrap_i64]; omega))
        · exact hK'
      | 3, ho, hun, hdep, hK, hfl, _ =>
        obtain rfl := Option.some.inj ho
        have o16 : a'.tmps[16]? = some (.int .i64 (a12 : Int)) := (hS.old14 16 (by simp)).trans rfl
        have hK' := hK g w' (fun _ _ _ _ _ _ => rfl) (by rw [hfl 1 (by decide), hfl 9 (by decide), hfl 11 (by decide)]; exact hR) (.int .i64 (a12 : Int)) (by simp only [valO, Option.bind_some]; (try simp only [putAll, Act.put, List.setIfInBounds_toArray, List.set_cons_zero, List.set_cons_succ]); (try rfl))
        clear hS hdep hR
        refine gh_quiet14 (v := .int .i64 (a12 : Int)) ?_ ?_
        · (simp only [execOp, Act.eval, o16]; go_simp; first | done | (simp; done) | (simp [*]; done) | omega | (rw [IntKind.wrap_i64]; omega))
        · exact hK'
      | 4, ho, hun, hdep, hK, hfl, _ =>
        obtain rfl := Option.some.inj ho
        have o16 : a'.tmps[16]? = some (.int .i64 (a12 : Int)) := (hS.old14 16 (by simp)).trans rfl
        have hK' := hK g w' (fun _ _ _ _ _ _ => rfl) (by rw [hfl 1 (by decide), hfl 9 (by decide), hfl 11 (by decide)]; exact hR) (.int .i64 (a12 : Int)) (by simp only [valO, Option.bind_some]; (try simp only [putAll, Act.put, List.setIfInBounds_toArray, List.set_cons_zero, List.set_cons_succ]); (try rfl))
        clear hS hdep hR
        refine gh_quiet14 (v := .int .i64 (a12 : Int)) ?_ ?_
        · (simp only [execOp, Act.eval, o16]; go_simp; first | done | (simp; done) | (simp [*]; done) | omega | (rw [IntKind.wrap_i64]; omega))
        · exact hK'
      | 5, ho, hun, hdep, hK, hfl, _ =>
        obtain rfl := Option.some.inj ho
        have o22 : a'.tmps[22]? = some (.int .u32 (nm : Int)) := (hS.old14 22 (by simp)).trans rfl
        have hK' := hK g w' (fun _ _ _ _ _ _ => rfl) (by rw [hfl 1 (by decide), hfl 9 (by decide), hfl 11 (by decide)]; exact hR) (.int .u32 (nm : Int)) (by simp only [valO, Option.bind_some]; (try simp only [putAll, Act.put, List.setIfInBounds_toArray, List.set_cons_zero, List.set_cons_succ]); (try rfl))
        clear hS hdep hR
        refine gh_quiet14 (v := .int .u32 (nm : Int)) ?_ ?_
        · (simp only [execOp, Act.eval, o22]; go_simp; first | done | (simp; done) | (simp [*]; done) | omega | (rw [IntKind.wrap_i64]; omega))
        · exact hK'
      | 6, ho, hun, hdep, hK, hfl, _ =>
        obtain rfl := Option.some.inj ho
        have d5 : lp.getD 5 false = true := hdep { on := 5, ground := .data } (by simp) rfl
        have e121 : a'.tmps[121]? = some (.int .u32 (nm : Int)) := (hS.don 5 _ 121 rfl d5 rfl).trans (by simp only [putAll, Act.put, List.setIfInBounds_toArray, List.set_cons_zero, List.set_cons_succ]; rfl)
        have hK' := hK g w' (fun _ _ _ _ _ _ => rfl) (by rw [hfl 1 (by decide), hfl 9 (by decide), hfl 11 (by decide)]; exact hR) (.int .i64 (nm : Int)) (by simp only [valO, Option.bind_some]; (try simp only [putAll, Act.put, List.setIfInBounds_toArray, List.set_cons_zero, List.set_cons_succ]); (try rfl))
        clear hS hdep hR
        refine gh_quiet14 (v := .int .i64 (nm : Int)) ?_ ?_
        · (simp only [execOp, Act.eval, e121]; go_simp; first | done | (simp; done) | (simp [*]; done) | omega | (rw [IntKind.wrap_i64]; omega))
        · exact hK'
      | 7, ho, hun, hdep, hK, hfl, _ =>
        obtain rfl := Option.some.inj ho
        have d4 : lp.getD 4 false = true := hdep { on := 4, ground := .data } (by simp) rfl
        have e120 : a'.tmps[120]? = some (.int .i64 (a12 : Int)) := (hS.don 4 _ 120 rfl d4 rfl).trans (by simp only [putAll, Act.put, List.setIfInBounds_toArray, List.set_cons_zero, List.set_cons_succ]; rfl)
        have d6 : lp.getD 6 false = true := hdep { on := 6, ground := .data } (by simp) rfl
        have e122 : a'.tmps[122]? = some (.int .i64 (nm : Int)) := (hS.don 6 _ 122 rfl d6 rfl).trans (by simp only [putAll, Act.put, List.setIfInBounds_toArray, List.set_cons_zero, List.set_cons_succ]; rfl)
        have hK' := hK g w' (fun _ _ _ _ _ _ => rfl) (by rw [hfl 1 (by decide), hfl 9 (by decide), hfl 11 (by decide)]; exact hR) (.int .i64 (an : Int)) (by simp only [valO, Option.bind_some]; (try simp only [putAll, Act.put, List.setIfInBounds_toArray, List.set_cons_zero, List.set_cons_succ]); (try rfl))
        clear hS hdep hR
        refine gh_quiet14 (v := .int .i64 (an : Int)) ?_ ?_
        · (simp only [execOp, Act.eval, e120, e122]; go_simp; first | done | (simp; done) | (simp [*]; done) | omega | (rw [IntKind.wrap_i64]; omega))
        · exact hK'
      | 8, ho, hun, hdep, hK, hfl, _ =>
        obtain rfl := Option.some.inj ho
        have d2 : lp.getD 2 false = true := hdep { on := 2, ground := .data } (by simp) rfl
        have e118 : a'.tmps[118]? = some (.slice bo b.length bc) := (hS.don 2 _ 118 rfl d2 rfl).trans (by simp only [putAll, Act.put, List.setIfInBounds_toArray, List.set_cons_zero, List.set_cons_succ]; rfl)
        have d3 : lp.getD 3 false = true := hdep { on := 3, ground := .data } (by simp) rfl
        have e119 : a'.tmps[119]? = some (.int .i64 (a12 : Int)) := (hS.don 3 _ 119 rfl d3 rfl).trans (by simp only [putAll, Act.put, List.setIfInBounds_toArray, List.set_cons_zero, List.set_cons_succ]; rfl)
        have d7 : lp.getD 7 false = true := hdep { on := 7, ground := .data } (by simp) rfl
        have e123 : a'.tmps[123]? = some (.int .i64 (an : Int)) := (hS.don 7 _ 123 rfl d7 rfl).trans (by simp only [putAll, Act.put, List.setIfInBounds_toArray, List.set_cons_zero, List.set_cons_succ]; rfl)
        have hK' := hK g w' (fun _ _ _ _ _ _ => rfl) (by rw [hfl 1 (by decide), hfl 9 (by decide), hfl 11 (by decide)]; exact hR) (.slice xo nm (bc - a12)) (by simp only [valO, Option.bind_some]; simp only [putAll, Act.put, List.setIfInBounds_toArray, List.set_cons_zero, List.set_cons_succ]; rfl)
        clear hS hdep hR
        refine gh_quiet14 (v := .slice xo nm (bc - a12)) ?_ ?_
        · (simp only [execOp, Act.eval, Option.map_some, Option.map_none, Array.getD_eq_getD_getElem?, e118, e119, e123, Option.getD_some]; exact ex17 (HS.out w'))
        · exact hK'
      | 9, ho, hun, hdep, hK, hfl, _ =>
        obtain rfl := Option.some.inj ho
        have d1 : lp.getD 1 false = true := hdep { on := 1, ground := .data } (by simp) rfl
        have e117 : a'.tmps[117]? = some (.slice none 0 0) := (hS.don 1 _ 117 rfl d1 rfl).trans (by simp only [putAll, Act.put, List.setIfInBounds_toArray, List.set_cons_zero, List.set_cons_succ]; rfl)
        have d8 : lp.getD 8 false = true := hdep { on := 8, ground := .data } (by simp) rfl
        have e124 : a'.tmps[124]? = some (.slice xo nm (bc - a12)) := (hS.don 8 _ 124 rfl d8 rfl).trans (by simp only [putAll, Act.put, List.setIfInBounds_toArray, List.set_cons_zero, List.set_cons_succ]; rfl)
        have n11 : lp.getD 11 false = false := by
          cases h : lp.getD 11 false with
          | false => rfl
          | true => have := hR.p h; rw [hun] at this; cases this
        have hO : w'.ownsRow wr.heap.size 5 1 (.slice none 0 0) 0 [] := World.ownsRow_nil _ _ _ _
        refine wp_append_rowA (.tmp 117) (.tmp 124) 22 rfl wr.heap.size 5 i0 (.int .u8 0) 1 1 Tryd.underlying22 ji jz0 jz1 jz2 rfl (by decide) _ 0 [] (by simp [Act.eval, e117]) hO _ x.length (x.map cB) (by simp [Act.eval, e124]) ((HXr.out.below HBr.out).below hR.b) (cB_one _) (by have := HK.out; unfold maxLen; omega) (by have := HK.out; omega) hR.b.size ?_
        intro aoN cN wN hON hgN
        rw [Nat.zero_add, List.nil_append] at hON
        rw [Nat.zero_add]
        have hbN : Below wr.heap.size wr wN := hR.b.grown hgN hR.b.size (fun z hz => by cases hz)
        have hcN : wN.heap[wr.heap.size]? = some (.cells #[.int .i64 (nk : Int), .int .i64 (nd : Int), .slice none 0 0] 38) := (hgN.block _ (lt_16 (hR.c0 n11)) (fun e => by cases e)).trans (hR.c0 n11)
        exact hK (.slice aoN x.length cN) wN (fun k' ok s hk hl hd => gh_same14 (d := 125) (s := s) (by simp only [putAll, Act.put, List.setIfInBounds_toArray, List.set_cons_zero, List.set_cons_succ]; rfl) (by rintro rfl; have := dstG_of (by kernel_rfl) k' 9 ok _ 125 hk rfl hd rfl; subst this; rw [hun] at hl; cases hl)) (by rw [hfl 1 (by decide), hfl 11 (by decide), getD_set_same (by rw [hsz]; decide)]; exact ⟨hbN, fun _ => hcN, fun h => (by rw [n11] at h; cases h), fun _ => hON, fun _ => rfl, hR.s, fun _ => d1⟩) _ (by simp only [valO, Option.bind_some]; simp only [putAll, Act.put, List.setIfInBounds_toArray, List.set_cons_zero, List.set_cons_succ]; rfl)
      | 10, ho, hun, hdep, hK, hfl, _ =>
        obtain rfl := Option.some.inj ho
        have o24 : a'.tmps[24]? = some (.pointer (some ⟨wr.heap.size, 0, none⟩)) := (hS.old14 24 (by simp)).trans rfl
        have hK' := hK g w' (fun _ _ _ _ _ _ => rfl) (by rw [hfl 1 (by decide), hfl 9 (by decide), hfl 11 (by decide)]; exact hR) (.pointer (some ⟨wr.heap.size, 2, none⟩)) (by simp only [valO, Option.bind_some]; (try simp only [putAll, Act.put, List.setIfInBounds_toArray, List.set_cons_zero, List.set_cons_succ]); (try rfl))
        clear hS hdep hR
        refine gh_quiet14 (v := .pointer (some ⟨wr.heap.size, 2, none⟩)) ?_ ?_
        · (simp only [execOp, Act.eval, o24]; go_simp; first | done | (simp; done) | (simp [*]; done) | omega | (rw [IntKind.wrap_i64]; omega))
        · exact hK'
      | 11, ho, hun, hdep, hK, hfl, _ =>
        obtain rfl := Option.some.inj ho
        have d10 : lp.getD 10 false = true := hdep { on := 10, ground := .data } (by simp) rfl
        have e126 : a'.tmps[126]? = some (.pointer (some ⟨wr.heap.size, 2, none⟩)) := (hS.don 10 _ 126 rfl d10 rfl).trans (by simp only [putAll, Act.put, List.setIfInBounds_toArray, List.set_cons_zero, List.set_cons_succ]; rfl)
        have d9 : lp.getD 9 false = true := hdep { on := 9, ground := .data } (by simp) rfl
        have e125 : a'.tmps[125]? = some (g) := (hS.don 9 _ 125 rfl d9 rfl).trans (by simp only [putAll, Act.put, List.setIfInBounds_toArray, List.set_cons_zero, List.set_cons_succ]; rfl)
        have hc := hR.c0 hun
        have hO := hR.d9 d9
        obtain ⟨zo, zc, hzv⟩ := own_form hO
        have z2 := at_16 hc 2 _ rfl
        have f2 := fr_16 (j := 2) hc
        have hnb : g.ownBlock ≠ some wr.heap.size := own_not18 hO hc (by decide)
        have hs2 : (w'.setCell ⟨wr.heap.size, 2, none⟩ g).heap[wr.heap.size]? = some (.cells #[.int .i64 (nk : Int), .int .i64 (nd : Int), g] 38) := by have := set_16 (o := 2) hc g; simpa using this
        have hK' := hK g (w'.setCell ⟨wr.heap.size, 2, none⟩ g) (fun _ _ _ _ _ _ => rfl) (by rw [hfl 1 (by decide), hfl 9 (by decide), getD_set_same (by rw [hsz]; decide)]; exact ⟨hR.b.setCell (p := ⟨wr.heap.size, 2, none⟩) (Nat.le_refl _) g, fun h => (by cases h), fun _ => hs2, fun _ => own_keep18 hO (fun z hz => far_16 (fun q => hnb (by rw [← q]; exact hz))), fun _ => d9, hR.s, hR.q⟩) undef rfl
        clear hS hdep hR hK hc hO hnb hs2
        subst hzv
        unfold Oper.wp
        simp only [execOp, Act.eval, Array.getD_eq_getD_getElem?]
        simp [go_sem, e126, e125, z2, f2, Oper.upon]
        exact hK'
      | n + 12, ho, hun, hdep, hK, hfl, hq => exact absurd hq (by omega)
    case fin28 =>
      intro g X hX
      have hc := hX.c1 rfl
      have hO := hX.d9 rfl
      have hbX := hX.b
      simp only [putAll, Act.put, List.setIfInBounds_toArray, List.set_cons_zero, List.set_cons_succ]
      obtain ⟨vx, hvx⟩ : ∃ v, v = g := ⟨_, rfl⟩
      rw [← hvx] at hc hO
      have HBX : Hid (Below w.heap.size w X) := HBr.out.trans (hbX.mono HBr.out.size)
      have hszr : w.heap.size ≤ wr.heap.size := HBr.out.size
      have HOx := hid13 hO
      have HO1 : Hid (X.ownsRow w.heap.size 38 3 (.slice po k pc) k (rowP21 L V)) := own_b13 hbX HO.out
      obtain ⟨zo, zc, hzv⟩ := own_form hO
      subst hzv
      have z0 := at_16 hc 0 _ rfl
      have z1 := at_16 hc 1 _ rfl
      have z2 := at_16 hc 2 _ rfl
      have H1 : Hid (wr.heap.size ≤ X.heap.size ∧ w.heap.size ≤ wr.heap.size ∧ (∀ z, w.heap.size ≤ z → z < wr.heap.size → X.heap[z]? = wr.heap[z]?)) := ⟨hbX.size, hszr, fun z _ h2 => hbX.block z h2⟩
      have hbase : w.heap.size ≤ (X.alloc (.cells #[.int .i64 (nk : Int), .int .i64 (nd : Int), .slice zo x.length zc] 38)).heap.size := by have := hbX.size; simp; omega
      clear hX hO hbX hc hvx HR0 HS HXr hszr
      go_wp2_with (at_builtin; apply stopHere9)
      refine (show wpList _ _ _ _ _ _ from ?_)
      refine wpList_append_lies _ rfl _ _ 27 rfl w.heap.size 38 j0 (.agg #[.int .i64 0, .int .i64 0, .slice none 0 0]) 3 40 Tryd.underlying27 ki kz0 kz1 kz2 rfl (by decide) _ _ _ rfl (HO1.out.alloc _) ⟨X.heap.size, 0, none⟩ 1 1 [_, _, _] rfl rfl (news_three21 _ _ _ _ _) (three_one21 _ _ _ _ _) (by decide) h63 h47 hbase _ rfl ?_
      intro g4 cap w4 hown4 hgrow hat hlt4
      have hob : ∀ z, (Value.slice po k pc).ownBlock = some z → w.heap.size ≤ z := fun z hz => (HO1.out.lt z hz).1
      have HB4 : Hid (Below w.heap.size w w4) := by
        have hb : Below X.heap.size X (X.alloc (.cells #[.int .i64 (nk : Int), .int .i64 (nd : Int), .slice zo x.length zc] 38)) := bl1 _ _
        exact (keepb hb HBX.out).grown hgrow hbase hob
      have HV4 := hid13 (tw_stepN21 (m := k + 1) (c1 := cap) (d := ⟨(nk : Int), (nd : Int), x⟩) HVr.out (fun z hz => (HO.out.lt z hz).2) H1.out.1 H1.out.2.1 H1.out.2.2 (own_dt21 HOx.out) (fun z hz => (HOx.out.lt z hz).1) hgrow hat HVl.out.1 HVl.out.2)
      have HO4 : Hid (w4.ownsRow w.heap.size 38 3 (.slice (some ⟨g4, 0, none⟩) (k + 1) cap) (k + 1) (rowP21 (L ++ [⟨(nk : Int), (nd : Int), x⟩]) (V ++ [.slice zo x.length zc]))) := by
        show World.ownsRow _ _ _ _ _ _ _
        rw [rowP21_app _ _ _ _ (by rw [HVl.out.1, HVl.out.2])]
        exact hown4
      have HVl4 : Hid ((V ++ [Value.slice zo x.length zc]).length = k + 1 ∧ (L ++ [(⟨(nk : Int), (nd : Int), x⟩ : Pt)]).length = k + 1) := ⟨by rw [List.length_append, HVl.out.1]; rfl, by rw [List.length_append, HVl.out.2]; rfl⟩
      clear hown4 hgrow hat hlt4 HVr HO HOx HO1 H1 hbase h63 h47 hob z0 z1 z2
      go_wp2
      go_roundg g1
      case measure => have := HK.out; omega
      case rel => exact ⟨k + 1, an, _, _, _, _, by have := HK.out; omega, rfl, rfl, rfl, ⟨HK.out.2.2.2.1, HK.out.2.2.2.2.1, HK.out.2.2.2.2.2.1⟩, HO4, HVl4, HV4, HB4, HEq⟩
end Go.Proofs.YtiachojhnbicaabDoor
