/-
  Part 9 of the proof: 3 texts, one behind the other.
-/
import Derived.Test.YtnaihocdemcejaaPart8
import Derived.Test.YtnaihocdemcejaaPart3
/-
  A copy of bytes; the sequence of a code's instructions.
-/
namespace Go.Proofs.Ytnaihocdemcejaa
open Go.RowKit Go.Shelf
set_option linter.unusedSimpArgs false
set_option linter.unusedVariables false
attribute [local go_sem] Oper.semAt_some

set_option maxHeartbeats 2000000 in
theorem clone14 (v : Value) (l : List Nat) (w : World) (hA : RowA w 1 v l.length (l.map cB)) (hl : l.length ≤ 140737480000000) :
    Calls Try.prog 31 #[v] w fun e w' => ∃ v', e = .returned v' ∧ w'.ownsRow w.heap.size 5 1 v' l.length (l.map cB) ∧ Below w.heap.size w w' := by
  obtain ⟨i0, hi, hz0, hz1, hz2⟩ := info13 Try.infoB13
  obtain ⟨-, ao, c, hvf, -⟩ := id hA
  subst hvf
  have hq : ∀ (w : World) (a : Option Addr) (n c n' c' : Nat), (binOp .eql 25 (.slice a n c) (.slice none n' c')).run Try.prog w = .ok (.bool a.isNone) w := fun w a n c n' c' => Lib.run_eql_slice_nil w 25 5 a n c n' c' Try.underlying25
  have q3 := bl1 w (.cells #[] 5)
  have HR3 := hid13 (hA.below q3)
  have HO3 : Hid ((w.alloc (.cells #[] 5)).ownsRow w.heap.size 5 1 (.slice (some ⟨w.heap.size, 0, none⟩) 0 0) 0 []) := World.ownsRow_made w #[] 0 (Nat.le_refl _) (by unfold maxLen; omega) (by simp)
  have HQ := hid13 q3
  cases ao with
  | none =>
    have hl0 : l = [] := by
      obtain ⟨-, ao', c', e, -, h⟩ := hA
      injection e with e1 e2 e3
      subst e1
      rcases h with ⟨-, -, h⟩ | ⟨b, h, -⟩
      · simpa using h
      · cases h
    subst hl0
    clear hA q3 HR3 HO3 HQ
    go_enter Try.func31, Try.ntmps31
    go_wp2
    go_ret
    exact ⟨_, rfl, World.ownsRow_nil _ _ _ _, Below.refl _ _⟩
  | some ad =>
    clear hA
    go_enter Try.func31, Try.ntmps31
    go_wp2_with (at_builtin; apply stopHere9)
    refine (show wpList _ _ _ _ _ _ from ?_)
    refine wpList_append_rowA rfl _ _ 25 rfl w.heap.size 5 i0 (.int .u8 0) 1 1 Try.underlying25 hi hz0 hz1 hz2 rfl (by decide) _ 0 [] rfl HO3.out _ l.length (l.map cB) rfl HR3.out (cB_one l) (by unfold maxLen; omega) (by omega) q3.size ?_
    intro ao4 c4 w4 hO4 hg4
    rw [Nat.zero_add, List.nil_append] at hO4
    rw [Nat.zero_add]
    have HB4 : Hid (Below w.heap.size w w4) := hid13 (HQ.out.grown hg4 HQ.out.size (fun z hz => (HO3.out.lt z hz).1))
    have HO4 := hid13 hO4
    clear hO4 hg4 q3 HR3 HO3 HQ
    go_wp2
    go_ret
    exact ⟨_, rfl, HO4.out, HB4.out⟩
set_option maxHeartbeats 2000000 in
theorem all14 (v : Value) (l : List Nat) (w : World) (hA : RowA w 1 v l.length (l.map cB)) (hl : l.length ≤ 140737480000000) :
    Calls Try.prog 19 #[v] w fun e w' => ∃ A v', e = .returned (.func (.func 32) #[] #[.pointer (some ⟨A, 0, none⟩)]) ∧ w'.ownsRow w.heap.size 5 1 v' l.length (l.map cB) ∧ w'.heap[A]? = some (.cells #[v'] 25) ∧ w.heap.size ≤ A ∧ Below w.heap.size w w' := by
  have hmf : ∀ (fn : Fn) (first cap : Array Value) (w : World), (Instr.makeFunc fn first cap).run Try.prog w = .ok (.func fn first cap) w := fun _ _ _ _ => rfl
  have K1 := clone14 v l w hA hl
  obtain ⟨-, ao, c, hvf, -⟩ := id hA
  subst hvf
  clear hA hl
  go_enter Try.func19, Try.ntmps19
  go_wp2_with fail
  refine K1.mono ?_
  rintro e w1 ⟨v', rfl, ho, hb⟩
  have q2 := bl1 w1 (.cells #[v'] 25)
  have HO := hid13 (own_b13 q2 ho)
  have HB := hid13 (keepb q2 hb)
  have HS := hid13 hb.size
  obtain ⟨bo, bc, hv⟩ := own_form ho
  subst hv
  clear K1 ho hb q2
  go_wp2
  go_ret
  exact ⟨_, _, rfl, HO.out, Array.getElem?_push_size, HS.out, HB.out⟩
end Go.Proofs.Ytnaihocdemcejaa
/-
  What the sequence of a code's instructions tells.
-/
namespace Go.Proofs.Ytnaihocdemcejaa
open Go.RowKit Go.Shelf
set_option linter.unusedSimpArgs false
set_option linter.unusedVariables false
attribute [local go_sem] Oper.semAt_some

/-- An instruction that is read lies within the code. -/
theorem dc_in {l : List Nat} {a : Int} (h : dcE l a = 0) : 0 ≤ a ∧ a.toNat < l.length / 4 := by
  unfold dcE at h
  by_cases hs : stB l.length a 1 = true
  · unfold stB at hs; simp at hs; constructor <;> omega
  · rw [if_neg hs] at h; cases h
theorem dc_one {l : List Nat} {a : Int} (h : dcE l a = 0) : 1 ≤ dcZ l a := by
  unfold dcZ; rw [if_pos h]; omega
theorem dc_most (l : List Nat) (a : Int) : dcZ l a ≤ 524289 := by
  unfold dcZ
  split
  · rename_i h
    unfold dcI
    rw [if_pos h]
    have := rdP_len l a.toNat
    simp only
    omega
  · decide
/-- Where the next instruction begins. -/
noncomputable def nxA (l : List Nat) (pre : List Nat) : Nat := match pre.getLast? with | none => 0 | some x => x + (dcZ l (x : Int)).toNat
theorem nxA_nil (l : List Nat) : nxA l [] = 0 := rfl
theorem nxA_app (l pre : List Nat) (x : Nat) : nxA l (pre ++ [x]) = x + (dcZ l (x : Int)).toNat := by unfold nxA; rw [List.getLast?_concat]
/-- The last one is the next one of those ahead of it, and is read. -/
def spA (l : List Nat) (ys : List Nat) : Prop := ∃ pre x, ys = pre ++ [x] ∧ x = nxA l pre ∧ dcE l (x : Int) = 0
theorem spA_app {l pre : List Nat} {x : Nat} (h : spA l (pre ++ [x])) : x = nxA l pre ∧ dcE l (x : Int) = 0 := by
  obtain ⟨p, y, e, h1, h2⟩ := h
  obtain ⟨e1, e2⟩ := List.append_inj' e rfl
  injection e2 with e2
  subst e1 e2
  exact ⟨h1, h2⟩
/-- An element in memory. -/
noncomputable def elA (l : List Nat) (x : Nat) (args : Array Value) (V : World) : Prop := ∃ v', args = #[.int .i64 (x : Int), insV (dcI l (x : Int)) v'] ∧ RwX cU V v' (dcI l (x : Int)).m
/-- What the sequence reads. -/
structure OwM (Z : Nat → Prop) (A : Nat) (ao : Option Addr) (c : Nat) (l : List Nat) (W : World) : Prop where
  a : W.cell? ⟨A, 0, none⟩ = some (.slice ao l.length c)
  za : Z A
  r : RwX cB W (.slice ao l.length c) l
  zr : l ≠ [] → ∀ ad, ao = some ad → Z ad.block
theorem OwM.kz {Z : Nat → Prop} {A : Nat} {ao : Option Addr} {c : Nat} {l : List Nat} {W W' : World} (h : OwM Z A ao c l W) (g : KZ Z W W') : OwM Z A ao c l W' := by
  refine ⟨kz_cell g h.za h.a, h.za, ?_, h.zr⟩
  obtain ⟨ao', c', e, hc, hr⟩ := h.r
  injection e with e1 e2 e3
  subst e1 e3
  refine ⟨ao, c, rfl, hc, ?_⟩
  rcases hr with hr | ⟨b, off, e, hr⟩
  · exact .inl hr
  · exact .inr ⟨b, off, e, fun j x hj => kz_cell g (h.zr (by rintro rfl; cases hj) _ e) (hr j x hj)⟩
set_option maxRecDepth 20000 in
set_option maxHeartbeats 16000000 in
theorem all1_any (n : Nat) (Z : Nat → Prop) (A : Nat) (ao : Option Addr) (c : Nat) (l : List Nat) (hl : l.length ≤ 1000000000) (hx : ∀ b ∈ l, b < 256) (Bd : Nat) (w : World) (hM : OwM Z A ao c l w) :
    SeqM n Try.prog 32 #[.pointer (some ⟨A, 0, none⟩)] (elA l) (KZ Z) (fun ys => dcE l (nxA l ys : Int) ≠ 0) (spA l) Bd w := by
  intro L J Jx W hW hB hJ hJx hY h0
  have HM := hid13 (hM.kz (kz_below hW))
  have HJ := hid13 hJ
  have HY := hid13 hY
  have H0 := hid13 h0
  have HL : Hid (l.length ≤ 1000000000 ∧ ∀ b ∈ l, b < 256) := ⟨hl, hx⟩
  clear hJ hJx hY h0 hM hl hx
  refine callsIn_of_wp Try.func32 rfl trivial ?_ rfl
  simp only [Try.ntmps32, List.size_toArray, List.length_cons, List.length_nil, Nat.reduceAdd, Nat.reduceSub, Array.replicate_succ, Array.replicate_zero, List.push_toArray, List.append_toArray, List.nil_append, List.cons_append]
  gi_wp2
  gi_loopw [3, 4, 5, 6] (fun x3 x4 x5 x6 wr => ∃ (pre : List Nat) (k : Nat), x3 = .int .i64 (k : Int) ∧ Hid (k = nxA l pre ∧ J pre wr ∧ OwM Z A ao c l wr ∧ k ≤ 1000000000 + 524289)) (fun x3 x4 x5 x6 wr => 1000000000 + 524289 - (intOf13 x3).toNat)
  case atStart => exact ⟨[], 0, rfl, hid13 ⟨rfl, H0.out, HM.out, by omega⟩⟩
  case round =>
    clear H0 HM
    obtain ⟨pre, k, rfl, HS⟩ := hrel
    have KD := decode_any (.slice ao l.length c) l (k : Int) wr HS.out.2.2.1.r (by have := HL.out.1; omega) HL.out.2
    have c0 := HS.out.2.2.1.a
    have HYk := hid13 (fun (v' : Value) (V : World) (h1 : J pre V) (h2 : RwX cU V v' (dcI l (k : Int)).m) (h3 : dcE l (k : Int) = 0) => HY.out pre k #[.int .i64 (k : Int), insV (dcI l (k : Int)) v'] V h1 ⟨v', rfl, h2⟩ ⟨pre, k, rfl, HS.out.1, h3⟩)
    have HI := hid13 (fun h : dcE l (k : Int) = 0 => (⟨dc_in h, dc_one h, dc_most l (k : Int)⟩ : (0 ≤ (k : Int) ∧ (k : Int).toNat < l.length / 4) ∧ 1 ≤ dcZ l (k : Int) ∧ dcZ l (k : Int) ≤ 524289))
    have HNx := hid13 (nxA_app l pre k)
    have HSp := hid13 (fun h : dcE l (k : Int) = 0 => (⟨pre, k, rfl, HS.out.1, h⟩ : spA l (pre ++ [k])))
    have HEn := hid13 (fun h : dcE l (k : Int) ≠ 0 => (by rw [← HS.out.1]; exact h : dcE l ((nxA l pre : Nat) : Int) ≠ 0))
    generalize dcE l (k : Int) = ee at *
    generalize dcZ l (k : Int) = zz at *
    generalize dcI l (k : Int) = ii at *
    obtain ⟨io, im, mm⟩ := ii
    simp only [insV] at KD HYk
    gi_wp2_with fail
    refine ⟨trivial, fun q => (by cases q), (callsIn_wide.2 KD).mono ?_⟩
    rintro e w1 ⟨v', rfl, ho, hb⟩
    have q2 := bl1 w1 (.cells #[.int .i64 io, .int .i64 im, v'] 24)
    have HB2 := hid13 (keepb q2 hb)
    have HJ2 := hid13 (HJ.out pre wr _ none HS.out.2.1 (below_grownX14 HB2.out) (fun r e => by cases e))
    have HM2 := hid13 (HS.out.2.2.1.kz (kz_below HB2.out))
    have HV2 := hid13 ((own_rwx ho).below q2)
    obtain ⟨d0, d1, d2⟩ := ati_new w1 io im v' 24
    obtain ⟨bo, bc, hv⟩ := own_form ho
    subst hv
    clear KD ho hb q2 c0
    by_cases he : ee = 0
    · subst he
      obtain ⟨fn, tmps, assign, body, hy, hR⟩ := HYk.out _ _ HJ2.out HV2.out rfl
      have HK := hid13 (HI.out rfl)
      have HSp2 := hid13 (HSp.out rfl)
      have mk : IntKind.i64.wrap ((k : Int) + zz) = (k : Int) + zz := by rw [IntKind.wrap_i64]; have := HK.out; have := HL.out.1; omega
      clear HI HSp HEn HYk
      gi_wp2
      refine ⟨fun q => (by cases q), hR.mono ?_⟩
      rintro e W4 (⟨rfl, hJ4, hk4⟩ | ⟨rfl, hx4, -⟩)
      · have HM4 := hid13 (HM2.out.kz hk4)
        have HJ4 := hid13 hJ4
        clear hJ4 hk4 hy hR HM2 HJ2 HV2 HB2 d0 d1 d2
        gi_wp2
        go_roundw
        case rel => exact ⟨pre ++ [k], k + zz.toNat, by have := HK.out; congr 1; omega, hid13 ⟨HNx.out.symm, HJ4.out, HM4.out, by have := HK.out; have := HL.out.1; omega⟩⟩
        case measure =>
          have := HK.out
          have := HL.out.1
          first | (simp [intOf13]; omega) | (unfold intOf13; simp; omega)
      · have HX4 := hid13 hx4
        clear hx4 hy hR HM2 HJ2 HV2 HB2 d0 d1 d2
        gi_wp2
        exact bodyPost_ret (v := .tuple #[]) (by simp [results, Try.results32]) rfl ⟨⟨_, rfl⟩, .inr ⟨_, HSp2.out, HX4.out⟩⟩
    · have HEn2 := hid13 (HEn.out he)
      have he1 : (ee == 0) = false := by rw [beq_eq_false_iff_ne]; exact he
      have he2 : (ee != 0) = true := by simpa using he
      clear HI HSp HEn HYk
      gi_wp2
      refine ⟨fun f q => (by cases q), ?_⟩
      gi_wp2
      exact bodyPost_ret (v := .tuple #[]) (by simp [results, Try.results32]) rfl ⟨⟨_, rfl⟩, .inl ⟨_, HEn2.out, HJ2.out⟩⟩
end Go.Proofs.Ytnaihocdemcejaa
/-
  What the document's MapWords, isMap, Check and Size of chapter 14 do.
-/
namespace Go.Proofs.Ytnaihocdemcejaa
open Go.RowKit
set_option linter.unusedSimpArgs false
set_option linter.unusedVariables false

theorem rmapWords_any (n : Nat) (h : n ≤ 24) (w : World) :
    Calls Try.prog 30 #[.int .i64 (n : Int)] w fun e w' => e = .returned (.int .i64 (mwN n : Int)) ∧ w' = w := by
  by_cases c : n < 5
  · have c1 : (n : Int) < 5 := by omega
    have e : Hid (mwN n = 1) := by show _ = _; unfold mwN; rw [if_pos c]
    clear c h
    go_enter Try.func30, Try.ntmps30
    go_wp2
    go_ret
    exact ⟨by rw [e.out]; rfl, rfl⟩
  · have c1 : ¬ (n : Int) < 5 := by omega
    obtain ⟨j, hj⟩ : ∃ j, j = n - 5 := ⟨_, rfl⟩
    have hs := sh64 j (by omega)
    obtain ⟨P, hP⟩ : ∃ P : Nat, P = 2 ^ j := ⟨_, rfl⟩
    rw [← hP] at hs
    have e : Hid (mwN n = P) := by show _ = _; unfold mwN; rw [if_neg c, hP, hj]
    have hw : IntKind.i64.wrap ((n : Int) - 5) = (j : Int) := by rw [IntKind.wrap_i64]; omega
    clear c h hP hj
    go_enter Try.func30, Try.ntmps30
    go_wp2
    go_ret
    exact ⟨by rw [e.out]; rfl, rfl⟩
set_option maxRecDepth 100000 in
set_option maxHeartbeats 4000000 in
theorem risMap_any (v : Value) (m : List (BitVec 32)) (n : Nat) (w : World) (hv : RwX cU w v m) (h : n ≤ 24) :
    Calls Try.prog 27 #[v, .int .i64 (n : Int)] w fun e w' => e = .returned (.bool (isMapB m n)) ∧ Below w.heap.size w w' := by
  have KM := fun w => rmapWords_any n h w
  obtain ⟨ao, c, rfl, hc, hr⟩ := hv
  have hs1 := sh64u n h
  by_cases h1 : m.length = mwN n
  · obtain ⟨x, t, rfl⟩ : ∃ x t, m = x :: t := by
      cases m with
      | nil => have := mwN_lo n; simp at h1; omega
      | cons x t => exact ⟨x, t, rfl⟩
    obtain ⟨b, off, rfl, hcell⟩ : ∃ b off, ao = some ⟨b, off, none⟩ ∧ ∀ j y, (x :: t)[j]? = some y → w.cell? ⟨b, off + j, none⟩ = some (cU y) := by
      rcases hr with h | h
      · cases h
      · exact h
    have c0 : w.cell? ⟨b, off, none⟩ = some (.int .u32 (uI x)) := hcell 0 x rfl
    have HE : Hid (isMapB (x :: t) n = topB x (2 ^ n)) := by show _ = _; rw [isMapB_cons, decide_eq_true h1, Bool.true_and]
    obtain ⟨L, hL⟩ : ∃ L, L = (x :: t).length := ⟨_, rfl⟩
    rw [← hL] at h1 ⊢
    have hL0 : (0 : Int) < (L : Int) := by rw [hL]; simp
    rw [← h1] at KM
    obtain ⟨P, hP⟩ : ∃ P : Nat, P = 2 ^ n := ⟨_, rfl⟩
    rw [← hP] at hs1 HE
    have hs2 := sh32u x P
    have hh := hi32 x
    have HP : Hid (5 ≤ n → x <<< P = 0#32) := by
      intro h5
      refine BitVec.shiftLeft_eq_zero ?_
      rw [hP]
      have := Nat.pow_le_pow_right (n := 2) (by decide) h5
      exact this
    clear hcell hr h1 hL hc h hP
    unfold topB at HE
    cases g : x.getLsbD 31 with
    | true =>
      rw [g] at hh HE
      replace HE : Hid (isMapB (x :: t) n = (x <<< P == 0#32)) := HE
      simp only [if_true] at hh
      clear g
      by_cases h5 : 5 ≤ n
      · have HE2 : Hid (isMapB (x :: t) n = true) := by show _ = _; rw [HE.out, HP.out h5]; rfl
        have h5' : (5 : Int) ≤ (n : Int) := by omega
        clear h5 HE HP
        go_enter Try.func27, Try.ntmps27
        go_wp2_with (go_at_call 30; refine (KM _).mono ?_; rintro e w1 ⟨rfl, hw1⟩; replace hw1 := hw1.symm; subst hw1)
        go_quiet (fail)
        have HB : Hid (Below w.heap.size w (w.drewN nq)) := below_drewN (Below.refl _ _) nq
        go_wp2
        go_ret
        exact ⟨by rw [HE2.out]; rfl, HB.out⟩
      · have h5' : decide ((5 : Int) ≤ (n : Int)) = false := decide_eq_false (by omega)
        clear h5 HP
        by_cases hz : x <<< P = 0#32
        · have HE2 : Hid (isMapB (x :: t) n = true) := by show _ = _; rw [HE.out, hz]; rfl
          rw [hz, uI_zero] at hs2
          clear hz HE
          go_enter Try.func27, Try.ntmps27
          go_wp2_with (go_at_call 30; refine (KM _).mono ?_; rintro e w1 ⟨rfl, hw1⟩; replace hw1 := hw1.symm; subst hw1)
          go_quiet (fail)
          have HB : Hid (Below w.heap.size w (w.drewN nq)) := below_drewN (Below.refl _ _) nq
          go_wp2
          go_ret
          exact ⟨by rw [HE2.out]; rfl, HB.out⟩
        · have HE2 : Hid (isMapB (x :: t) n = false) := by show _ = _; rw [HE.out]; simpa using hz
          obtain ⟨Y, hY⟩ : ∃ Y, Y = uI (x <<< P) := ⟨_, rfl⟩
          have hY0 : (Y == 0) = false := by
            rw [hY]; simp only [beq_eq_false_iff_ne]
            exact fun e => hz ((uI_is0 _).1 e)
          rw [← hY] at hs2
          clear hz hY HE
          go_enter Try.func27, Try.ntmps27
          go_wp2_with (go_at_call 30; refine (KM _).mono ?_; rintro e w1 ⟨rfl, hw1⟩; replace hw1 := hw1.symm; subst hw1)
          go_quiet (fail)
          have HB : Hid (Below w.heap.size w (w.drewN nq)) := below_drewN (Below.refl _ _) nq
          go_wp2
          go_ret
          exact ⟨by rw [HE2.out]; rfl, HB.out⟩
    | false =>
      rw [g] at hh HE
      replace hh : uI x / 2147483648 = 0 := hh
      replace HE : Hid (isMapB (x :: t) n = false) := HE
      clear hs2 hs1 g HP
      go_enter Try.func27, Try.ntmps27
      go_wp2_with (go_at_call 30; refine (KM _).mono ?_; rintro e w1 ⟨rfl, hw1⟩; replace hw1 := hw1.symm; subst hw1)
      go_ret
      exact ⟨by rw [HE.out]; rfl, Below.refl _ _⟩
  · have HE : Hid (isMapB m n = false) := by show _ = _; unfold isMapB; rw [decide_eq_false h1]; rfl
    obtain ⟨L, hL⟩ : ∃ L, L = mwN n := ⟨_, rfl⟩
    rw [← hL] at KM h1
    have h1' : (((m.length : Nat) : Int) != (L : Int)) = true := by simp; omega
    clear hs1 hr hL h1
    go_enter Try.func27, Try.ntmps27
    go_wp2_with (go_at_call 30; refine (KM _).mono ?_; rintro e w1 ⟨rfl, hw1⟩; replace hw1 := hw1.symm; subst hw1)
    go_ret
    exact ⟨by rw [HE.out]; rfl, Below.refl _ _⟩
set_option maxRecDepth 100000 in
set_option maxHeartbeats 8000000 in
theorem rcheck14 (op n : Int) (v : Value) (m : List (BitVec 32)) (w : World) (hv : RwX cU w v m) :
    Calls Try.prog 15 #[.agg #[.int .i64 op, .int .i64 n, v]] w fun e w' => e = .returned (.int .i64 (chkE op n m)) ∧ Below w.heap.size w w' := by
  obtain ⟨ao, c, hvf, -⟩ := id hv
  have q1 := bl1 w (.cells #[.int .i64 op, .int .i64 n, v] 24)
  have a1 := ati_new w op n v 24
  have HV := hid13 (hv.below q1)
  obtain ⟨w1, hw1⟩ : ∃ w1, w1 = w.alloc (.cells #[.int .i64 op, .int .i64 n, v] 24) := ⟨_, rfl⟩
  rw [← hw1] at q1 HV
  have HB := hid13 q1
  subst hvf
  clear q1 hv a1
  cases ho : isOp op with
  | false =>
    have HE := hid13 (chk_no (n := n) (m := m) ho)
    obtain ⟨h1, h2, h3, h4⟩ := isOp_none ho
    clear ho
    go_enter Try.func15, Try.ntmps15
    go_wp2
    go_ret
    exact ⟨by rw [HE.out]; rfl, by rw [← hw1]; exact HB.out⟩
  | true =>
    cases ht : (decide (kLo op ≤ n) && decide (n ≤ kHi op)) with
    | false =>
      have HE := hid13 (chk_arg (m := m) ho ht)
      rcases isOp_cases ho with rfl | rfl | rfl | rfl
      · have hb : n < 1 ∨ 24 < n := by unfold kLo kHi at ht; simp at ht; omega
        clear ht ho
        rcases hb with hb | hb
        · go_enter Try.func15, Try.ntmps15
          go_wp2
          go_ret
          exact ⟨by rw [HE.out]; rfl, by rw [← hw1]; exact HB.out⟩
        · have hb2 : ¬ n < 1 := by omega
          go_enter Try.func15, Try.ntmps15
          go_wp2
          go_ret
          exact ⟨by rw [HE.out]; rfl, by rw [← hw1]; exact HB.out⟩
      · have hb : n < 1 ∨ 24 < n := by unfold kLo kHi at ht; simp at ht; omega
        clear ht ho
        rcases hb with hb | hb
        · go_enter Try.func15, Try.ntmps15
          go_wp2
          go_ret
          exact ⟨by rw [HE.out]; rfl, by rw [← hw1]; exact HB.out⟩
        · have hb2 : ¬ n < 1 := by omega
          go_enter Try.func15, Try.ntmps15
          go_wp2
          go_ret
          exact ⟨by rw [HE.out]; rfl, by rw [← hw1]; exact HB.out⟩
      · have hb : n < 1 ∨ 16777216 ≤ n := by unfold kLo kHi at ht; simp at ht; omega
        clear ht ho
        rcases hb with hb | hb
        · go_enter Try.func15, Try.ntmps15
          go_wp2
          go_ret
          exact ⟨by rw [HE.out]; rfl, by rw [← hw1]; exact HB.out⟩
        · have hb2 : ¬ n < 1 := by omega
          go_enter Try.func15, Try.ntmps15
          go_wp2
          go_ret
          exact ⟨by rw [HE.out]; rfl, by rw [← hw1]; exact HB.out⟩
      · have hb : n < 0 ∨ 65535 < n := by unfold kLo kHi at ht; simp at ht; omega
        clear ht ho
        rcases hb with hb | hb
        · go_enter Try.func15, Try.ntmps15
          go_wp2
          go_ret
          exact ⟨by rw [HE.out]; rfl, by rw [← hw1]; exact HB.out⟩
        · have hb2 : ¬ n < 0 := by omega
          go_enter Try.func15, Try.ntmps15
          go_wp2
          go_ret
          exact ⟨by rw [HE.out]; rfl, by rw [← hw1]; exact HB.out⟩
    | true =>
      by_cases h2 : op = 2
      · subst h2
        have hE := chk_map (m := m) ho ht rfl
        have hb : 1 ≤ n ∧ n ≤ 24 := by unfold kLo kHi at ht; simpa using ht
        obtain ⟨k, rfl⟩ : ∃ k : Nat, n = (k : Int) := ⟨n.toNat, by omega⟩
        rw [Int.toNat_natCast] at hE
        have HE := hid13 hE
        have K1 := risMap_any _ m k w1 HV.out (by omega)
        have b1 : ¬ (k : Int) < 1 := by omega
        have b2 : ¬ (24 : Int) < (k : Int) := by omega
        clear ht ho hE hb
        go_enter Try.func15, Try.ntmps15
        go_wp2_with fail
        rw [← hw1]
        refine K1.mono ?_
        rintro e w2 ⟨rfl, hb2⟩
        have HB2 := hid13 (keepb hb2 HB.out)
        have k2 : w2.cell? ⟨w.heap.size, 0, none⟩ = some (.int .i64 2) := keepc hb2 (by rw [hw1]; simp [go_sem])
        clear hb2 hw1 K1
        generalize isMapB m k = z at *
        cases z with
        | true =>
          replace HE : Hid (chkE 2 (k : Int) m = 0) := HE
          go_wp2
          go_ret
          exact ⟨by rw [HE.out]; rfl, HB2.out⟩
        | false =>
          replace HE : Hid (chkE 2 (k : Int) m = 25) := HE
          go_wp2
          go_ret
          exact ⟨by rw [HE.out]; rfl, HB2.out⟩
      · have hE := chk_plain (m := m) ho ht h2
        by_cases hm : m = []
        · rw [if_pos hm] at hE
          have HE := hid13 hE
          have hl : m.length = 0 := by rw [hm]; rfl
          rw [hl] at hw1 ⊢
          rcases isOp_cases ho with rfl | rfl | rfl | rfl
          · have hb : 1 ≤ n ∧ n ≤ 24 := by unfold kLo kHi at ht; simpa using ht
            have b1 : ¬ n < 1 := by omega
            have b2 : ¬ 24 < n := by omega
            clear ht ho hb hm hl hE h2
            go_enter Try.func15, Try.ntmps15
            go_wp2
            go_ret
            exact ⟨by rw [HE.out]; rfl, by rw [← hw1]; exact HB.out⟩
          · exact absurd rfl h2
          · have hb : 1 ≤ n ∧ n ≤ 16777215 := by unfold kLo kHi at ht; simpa using ht
            have b1 : ¬ n < 1 := by omega
            have b2 : ¬ 16777216 ≤ n := by omega
            clear ht ho hb hm hl hE h2
            go_enter Try.func15, Try.ntmps15
            go_wp2
            go_ret
            exact ⟨by rw [HE.out]; rfl, by rw [← hw1]; exact HB.out⟩
          · have hb : 0 ≤ n ∧ n ≤ 65535 := by unfold kLo kHi at ht; simpa using ht
            have b1 : ¬ n < 0 := by omega
            have b2 : ¬ 65535 < n := by omega
            clear ht ho hb hm hl hE h2
            go_enter Try.func15, Try.ntmps15
            go_wp2
            go_ret
            exact ⟨by rw [HE.out]; rfl, by rw [← hw1]; exact HB.out⟩
        · rw [if_neg hm] at hE
          have HE := hid13 hE
          have hl : (0 : Int) < (m.length : Int) := by have := List.length_pos_iff.2 hm; omega
          rcases isOp_cases ho with rfl | rfl | rfl | rfl
          · have hb : 1 ≤ n ∧ n ≤ 24 := by unfold kLo kHi at ht; simpa using ht
            have b1 : ¬ n < 1 := by omega
            have b2 : ¬ 24 < n := by omega
            clear ht ho hb hm hE h2
            go_enter Try.func15, Try.ntmps15
            go_wp2
            go_ret
            exact ⟨by rw [HE.out]; rfl, by rw [← hw1]; exact HB.out⟩
          · exact absurd rfl h2
          · have hb : 1 ≤ n ∧ n ≤ 16777215 := by unfold kLo kHi at ht; simpa using ht
            have b1 : ¬ n < 1 := by omega
            have b2 : ¬ 16777216 ≤ n := by omega
            clear ht ho hb hm hE h2
            go_enter Try.func15, Try.ntmps15
            go_wp2
            go_ret
            exact ⟨by rw [HE.out]; rfl, by rw [← hw1]; exact HB.out⟩
          · have hb : 0 ≤ n ∧ n ≤ 65535 := by unfold kLo kHi at ht; simpa using ht
            have b1 : ¬ n < 0 := by omega
            have b2 : ¬ 65535 < n := by omega
            clear ht ho hb hm hE h2
            go_enter Try.func15, Try.ntmps15
            go_wp2
            go_ret
            exact ⟨by rw [HE.out]; rfl, by rw [← hw1]; exact HB.out⟩
set_option maxRecDepth 100000 in
theorem rsize14 (op n : Int) (v : Value) (m : List (BitVec 32)) (w : World) (hv : RwX cU w v m) (hl : m.length ≤ 140737488355328) :
    Calls Try.prog 16 #[.agg #[.int .i64 op, .int .i64 n, v]] w fun e w' => e = .returned (.int .i64 (szI op n m)) ∧ Below w.heap.size w w' := by
  obtain ⟨ao, c, hvf, -⟩ := id hv
  have q1 := bl1 w (.cells #[.int .i64 op, .int .i64 n, v] 24)
  have a1 := ati_new w op n v 24
  have K1 := rcheck14 op n v m _ (hv.below q1)
  have HB := hid13 q1
  subst hvf
  obtain ⟨a10, a11, a12⟩ := a1
  clear q1 hv
  go_enter Try.func16, Try.ntmps16
  go_wp2_with fail
  refine K1.mono ?_
  rintro e w2 ⟨rfl, hb2⟩
  have HB2 := hid13 (keepb hb2 HB.out)
  have a22 := keepc hb2 a12
  clear a10 a11 a12 K1 hb2 HB
  have hw : wrap64 (1 + (m.length : Int)) = 1 + (m.length : Int) := by unfold wrap64; omega
  by_cases h : chkE op n m = 0
  · rw [h]
    have H := hid13 h
    clear h
    go_wp2
    go_ret
    exact ⟨by unfold szI; rw [if_pos H.out]; rfl, HB2.out⟩
  · go_wp2
    go_ret
    exact ⟨by unfold szI; rw [if_neg h]; rfl, HB2.out⟩
end Go.Proofs.Ytnaihocdemcejaa
