/-
  Part 31 of the proof: 1 texts, one behind the other.
-/
import Derived.Test.YtonagfmkplbooaaGreatDoorPart27
import Derived.Test.YtonagfmkplbooaaGreatDoorPart5
import Derived.Test.YtonagfmkplbooaaGreatDoorPart23
import Derived.BigQuiet
/-
  What the call of turnpikeref4's Cover does.
-/
namespace Go.Proofs.YtonagfmkplbooaaGreatDoor
open Go.RowKit
set_option linter.unusedSimpArgs false
set_option linter.unusedVariables false

/-- What lies in memory while a prefix is tried. -/
def CB (w : World) (A B P : Nat) (c b : BitVec 128) (n : Int) (W : World) : Prop := At W A c ∧ At W B b ∧ AtP W P c n ∧ Below w.heap.size w W
theorem CB.below {w : World} {A B P : Nat} {c b : BitVec 128} {n : Int} {W W' : World} (h : CB w A B P c b n W) (hb : Below W.heap.size W W') : CB w A B P c b n W' := ⟨h.1.below hb, h.2.1.below hb, h.2.2.1.below hb, keepb hb h.2.2.2⟩
theorem CB.all {w : World} {A B P : Nat} {c b : BitVec 128} {n : Int} {W : World} (h : CB w A B P c b n W) : W.cell? ⟨A, 0, none⟩ = some (.int .u64 (hI c)) ∧ W.cell? ⟨A, 1, none⟩ = some (.int .u64 (lI c)) ∧ W.cell? ⟨B, 0, none⟩ = some (.int .u64 (hI b)) ∧ W.cell? ⟨B, 1, none⟩ = some (.int .u64 (lI b)) ∧ W.cell? ⟨P, 0, none⟩ = some (.int .u64 (hI c)) ∧ W.cell? ⟨P, 1, none⟩ = some (.int .u64 (lI c)) ∧ W.cell? ⟨P, 2, none⟩ = some (.int .i64 n) ∧ Hid (CB w A B P c b n W) :=
  ⟨h.1.1, h.1.2.1, h.2.1.1, h.2.1.2.1, h.2.2.1.1, h.2.2.1.2.1, h.2.2.1.2.2.1, h⟩
set_option maxRecDepth 20000 in
set_option maxHeartbeats 4000000 in
theorem rcover_yes (F : Int) (a b : BitVec 128) (T : List (BitVec 128 × Int)) (k0 : Nat) (HC : T = covL F b (k0 + 1) a) (hk0 : b.toNat < a.toNat + (k0 + 1)) (HR : Rng F a b) (HL : T.length ≤ 254) (w : World)
    (hF : F ≤ 128) (KA : ∀ w, Calls Tryz.prog 74 #[.int .i64 F, .agg #[.int .u64 (hI a), .int .u64 (lI a)]] w fun e w' => e = .returned (.int .i64 0) ∧ Below w.heap.size w w')
    (KB : ∀ w, Calls Tryz.prog 74 #[.int .i64 F, .agg #[.int .u64 (hI b), .int .u64 (lI b)]] w fun e w' => e = .returned (.int .i64 0) ∧ Below w.heap.size w w')
    (c0 : Int) (hc0 : ¬ c0 < 0) (KC : ∀ w, Calls Tryz.prog 72 #[.agg #[.int .u64 (hI b), .int .u64 (lI b)], .agg #[.int .u64 (hI a), .int .u64 (lI a)]] w fun e w' => e = .returned (.int .i64 c0) ∧ Below w.heap.size w w') :
    Calls Tryz.prog 55 #[.int .i64 F, .agg #[.int .u64 (hI a), .int .u64 (lI a)], .agg #[.int .u64 (hI b), .int .u64 (lI b)]] w fun e w' => (∃ v, e = .returned (.tuple #[v, .int .i64 0]) ∧ w'.ownsRow w.heap.size 29 3 v T.length (rowP T)) ∧ Below w.heap.size w w' := by
  obtain ⟨i0, hi, hz0, hz1, hz2⟩ := info_parts Tryz.infoP
  have HC : Hid (T = covL F b (k0 + 1) a) := HC
  have hk0 : Hid (b.toNat < a.toNat + (k0 + 1)) := hk0
  have HR : Hid (Rng F a b) := HR
  have HL : Hid (T.length ≤ 254) := HL
  have L0 : ∀ (o p : Obj), Below w.heap.size w ((w.alloc o).alloc p) := fun o p => bl2 w o p
  go_enter Tryz.func55, Tryz.ntmps55
  have hA : At ((w.alloc (.cells #[.int .u64 (hI a), .int .u64 (lI a)] 27)).alloc (.cells #[.int .u64 (hI b), .int .u64 (lI b)] 27)) w.heap.size a := (at_new w w.heap.size a 27 rfl).al _
  have hB : At ((w.alloc (.cells #[.int .u64 (hI a), .int .u64 (lI a)] 27)).alloc (.cells #[.int .u64 (hI b), .int .u64 (lI b)] 27)) (w.heap.size + 1) b := at_new _ (w.heap.size + 1) b 27 (by simp)
  go_wp2_with fail
  refine (KA _).mono ?_
  rintro e w1 ⟨rfl, hb1⟩
  have hA := hA.below hb1
  have hB := hB.below hb1
  have kB := keepb hb1 (L0 _ _)
  clear hb1 KA L0
  obtain ⟨b0, b1, -, -, -⟩ := id hB
  go_wp2_with fail
  refine (KB _).mono ?_
  rintro e w2 ⟨rfl, hb2⟩
  have hA := hA.below hb2
  have hB := hB.below hb2
  have kB := keepb hb2 kB
  clear hb2 KB b0 b1
  obtain ⟨b0, b1, -, -, -⟩ := id hB
  obtain ⟨a0, a1, -, -, -⟩ := id hA
  go_wp2_with fail
  refine (KC _).mono ?_
  rintro e w3 ⟨rfl, hb3⟩
  have hA := hA.below hb3
  have hs3 : w.heap.size + 2 ≤ w3.heap.size := (hB.below hb3).2.2.2.2
  have hB := (hB.below hb3).al (.cells #[.int .u64 (hI a), .int .u64 (lI a)] 27)
  have kB := keepb hb3 kB
  have hX := at_new w3 w3.heap.size a 27 rfl
  have kB := kB.alloc kB.size (.cells #[.int .u64 (hI a), .int .u64 (lI a)] 27)
  clear hb3 KC b0 b1 a0 a1
  obtain ⟨a0, a1, -, -, -⟩ := id hA
  go_wp2_with fail
  go_loopw [9] (fun l wr => ∃ (pre : List (BitVec 128 × Int)) (k : Nat) (c : BitVec 128), Hid (T = pre ++ covL F b (k + 1) c) ∧ Hid (b.toNat < c.toNat + (k + 1)) ∧ Hid (Rng F c b) ∧ wr.ownsRow (w3.heap.size + 1) 29 3 l pre.length (rowP pre) ∧ At wr w3.heap.size c ∧ At wr (w.heap.size + 1) b ∧ Below w.heap.size w wr)
    (fun _ wr => b.toNat + 1 - natAt wr w3.heap.size)
  case atStart => exact ⟨[], k0, a, HC, hk0, HR, World.ownsRow_nil _ _ _ _, hX, hB, kB⟩
  case round =>
    clear hA hB kB HC hk0 HR hX a0 a1
    obtain ⟨pre, k, c, hT1, hk, hr, hown, hA, hB, kB⟩ := hrel
    obtain ⟨hwr, hwl⟩ := wid_rt F c b hr.out
    have hw0 := hwr.1
    have hw1 := hwr.2.1
    have HW : Hid (∀ m : Int, 0 ≤ m → m ≤ F → ((cutW c m = c ∧ (lastW F c m).toNat ≤ b.toNat) ↔ widN F c b ≤ m)) := fun m h0 h1 => wid_iff F c b hr.out.1 hr.out.2.1 hr.out.2.2 m h0 h1
    have HWR : Hid (Rt F c (widN F c b)) := hwr
    clear hwl
    go_wp2_with fail
    rename_i Q' K hK
    have KU := fun w => rcut_any c (widN F c b) w
    rw [hwr.2.2] at KU
    have KL := fun w => rplast_any F c (widN F c b) w
    rw [last_eq F c (widN F c b) hwr.1 hwr.2.1] at KL
    have KN := fun w => rnext_any F (lastW F c (widN F c b)) w
    have hE := fun w => eqW_run (lastW F c (widN F c b)) b w
    have HV : Hid (∀ q, (lastW F c (widN F c b) == b) = q → (q = true → covL F b (k + 1) c = [(c, widN F c b)]) ∧ (q = false → covL F b (k + 1) c = (c, widN F c b) :: covL F b k (nextV F (lastW F c (widN F c b))) ∧ Rng F (nextV F (lastW F c (widN F c b))) b ∧ c.toNat < (nextV F (lastW F c (widN F c b))).toNat)) := by
      intro q hq
      constructor
      · rintro rfl
        exact cov_end F b k c (by simpa using hq)
      · rintro rfl
        have hn : ¬ lastW F c (widN F c b) = b := by simpa using hq
        obtain ⟨n1, n2, n3⟩ := rng_next F c b hr.out hn
        exact ⟨cov_on F b k c hn, n2, by have := Nat.two_pow_pos (128 - (widN F c b).toNat); omega⟩
    have hlen : Hid (pre.length + 1 ≤ 254) := by
      show _ ≤ _
      have := len_le T pre _ hT1.out HL.out
      simp only [covL, List.length_cons] at this
      omega
    have hAr : natAt wr w3.heap.size = c.toNat := natAt_of hA
    have tail : ∀ (n : Int), n = widN F c b → ∀ (x12 x32 x33 x34 x35 x36 x37 x38 x39 x40 x41 x42 x43 x44 x45 x46 x47 x48 x49 x50 x51 : Value) (W : World), W.ownsRow (w3.heap.size + 1) 29 3 u9 pre.length (rowP pre) → At W w3.heap.size c → At W (w.heap.size + 1) b → Below w.heap.size w W →
        K { tmps := #[.int .i64 F, .agg #[.int .u64 (hI a), .int .u64 (lI a)], .agg #[.int .u64 (hI b), .int .u64 (lI b)], undef, .pointer (some ⟨w.heap.size, 0, none⟩), .pointer (some ⟨w.heap.size + 1, 0, none⟩), u6, u7, .int .i64 0, u9, .pointer (some ⟨w3.heap.size, 0, none⟩), .int .i64 n, x12, u13, u14, .int .i64 F, .agg #[.int .u64 (hI a), .int .u64 (lI a)], .int .i64 0, .int .i64 0, .bool true, .int .i64 F, .agg #[.int .u64 (hI b), .int .u64 (lI b)], .int .i64 0, .int .i64 0, .bool false, undef, .agg #[.int .u64 (hI b), .int .u64 (lI b)], .agg #[.int .u64 (hI a), .int .u64 (lI a)], .int .i64 c0, .bool (decide (c0 < 0)), .agg #[.int .u64 (hI a), .int .u64 (lI a)], .int .i64 F, x32, x33, x34, x35, x36, x37, x38, x39, x40, x41, x42, x43, x44, x45, x46, x47, x48, x49, x50, x51, u52, u53, u54, u55, u56, u57, u58, u59, u60, u61, u62, u63, u64, u65, u66, u67, u68, u69, u70, u71], defers := [] } W := by
      intro n hn x12 x32 x33 x34 x35 x36 x37 x38 x39 x40 x41 x42 x43 x44 x45 x46 x47 x48 x49 x50 x51 W hown hA hB kB
      subst hn
      clear HW HWR hw0 hw1 hwr
      revert KU KL KN hE HV
      generalize nextV F (lastW F c (widN F c b)) = nx
      generalize nextB F (lastW F c (widN F c b)) = nb
      generalize lastW F c (widN F c b) = la
      generalize widN F c b = n
      intro KU KL KN hE HV
      have h63 : pre.length + 1 ≤ maxLen := by have := hlen.out; unfold maxLen; omega
      have h47 : (pre.length + 1) * 24 ≤ 140737488355328 := by have := hlen.out; omega
      refine hK _ _ ?_
      clear hK
      obtain ⟨a0, a1, -, -, -⟩ := id hA
      go_wp2_with fail
      refine (KU _).mono ?_
      rintro e w5 ⟨rfl, hb2⟩
      clear KU a0 a1
      have hA2 := (hA.below hb2).al (.cells #[.int .u64 (hI c), .int .u64 (lI c), .int .i64 n] 29)
      have hB2 := (hB.below hb2).al (.cells #[.int .u64 (hI c), .int .u64 (lI c), .int .i64 n] 29)
      have hP2 := atp_new w5 w5.heap.size c n 29 rfl
      have kB2 := keepb hb2 kB
      have kB3 := kB2.alloc kB2.size (.cells #[.int .u64 (hI c), .int .u64 (lI c), .int .i64 n] 29)
      have hown2 := own_below hb2 hown
      have hs2 : w3.heap.size + 1 ≤ w5.heap.size := (hA.below hb2).2.2.2.2
      have hgap : some w5.heap.size ≠ u9.ownBlock := by
        intro e
        have := (hown2.lt _ e.symm).2
        omega
      clear hown hA hB kB hb2
      obtain ⟨p0, p1, p2, -, -, -⟩ := id hP2
      go_wp2_with (first | (
          at_builtin
          refine wpList_append_lies _ rfl _ _ 76 rfl (w3.heap.size + 1) 29 i0 (.agg #[.int .u64 0, .int .u64 0, .int .i64 0]) 3 24 Tryz.underlying76 hi hz0 hz1 hz2 rfl (by decide) _ _ _ rfl ((hown2.alloc _).alloc _) ⟨w5.heap.size + 1, 0, none⟩ 1 1 [.int .u64 (hI c), .int .u64 (lI c), .int .i64 n] rfl rfl (by simpa using newsP (w5.alloc (.cells #[.int .u64 (hI c), .int .u64 (lI c), .int .i64 n] 29)) (.int .u64 (hI c)) (.int .u64 (lI c)) (.int .i64 n) 29) (threeP _ _ _) (by decide) h63 h47 (by simp; omega) _ rfl ?_
          intro g4 cap4 w4 hown4 hgrow hat hlt4
          have hne0 : some w3.heap.size ≠ u9.ownBlock := fun e => by have := (hown2.lt _ e.symm).1; omega
          have hne1 : some (w.heap.size + 1) ≠ u9.ownBlock := fun e => by have := (hown2.lt _ e.symm).1; omega
          have hA4 := (hA2.al _).app hgrow hne0
          have hB4 := (hB2.al _).app hgrow hne1
          have hP4 := (hP2.al _).app hgrow hgap
          have kB4 : Below w.heap.size w w4 := (kB3.alloc kB3.size _).grown hgrow (kB3.alloc kB3.size _).size (fun q hq => by have := (hown2.lt q hq).1; omega)
          have hrow4 : Hid (w4.ownsRow (w3.heap.size + 1) 29 3 (.slice (some ⟨g4, 0, none⟩) (pre.length + 1) cap4) (pre ++ [(c, n)]).length (rowP (pre ++ [(c, n)]))) := by
            show World.ownsRow _ _ _ _ _ _ _
            rw [rowP_one, List.length_append]
            exact hown4
          clear hgrow hat hown4 hown2 hA2 hB2 hP2 kB2 kB3 hgap hne0 hne1 hs2 p0 p1 p2 hlt4 h63 h47 hi hz0 hz1 hz2
          obtain ⟨p0, p1, p2, -, -, -⟩ := id hP4))
      refine (KL _).mono ?_
      rintro e w5 ⟨rfl, hb5⟩
      have hA5 := (hA4.below hb5).al (.cells #[.int .u64 (hI la), .int .u64 (lI la)] 27)
      have hB5 := (hB4.below hb5).al (.cells #[.int .u64 (hI la), .int .u64 (lI la)] 27)
      have hL5 := at_new w5 w5.heap.size la 27 rfl
      have kB5 := keepb hb5 kB4
      have kB5 := kB5.alloc kB5.size (.cells #[.int .u64 (hI la), .int .u64 (lI la)] 27)
      have hrow5 : Hid (World.ownsRow _ _ _ _ _ _ _) := (own_below hb5 hrow4.out).alloc (.cells #[.int .u64 (hI la), .int .u64 (lI la)] 27)
      clear hA4 hB4 hP4 kB4 hrow4 hb5 p0 p1 p2 KL
      obtain ⟨b0, b1, -, -, -⟩ := id hB5
      obtain ⟨l0, l1, -, -, -⟩ := id hL5
      cases hq : (la == b)
      · rw [hq] at hE
        go_wp2_with fail
        refine (KN _).mono ?_
        rintro e w6 ⟨rfl, hb6⟩
        have hA6 := hA5.below hb6
        have hB6 := hB5.below hb6
        have kB6 := keepb hb6 kB5
        have hrow6 : Hid (World.ownsRow _ _ _ _ _ _ _) := own_below hb6 hrow5.out
        clear hA5 hB5 hL5 kB5 hrow5 hb6 KN b0 b1 l0 l1 hE
        obtain ⟨a0, a1, a2, a3, -⟩ := id hA6
        go_wp2
        go_roundw
        case rel =>
          obtain ⟨m1, m2, m3⟩ := (HV.out false hq).2 rfl
          cases k with
          | zero => exact absurd m2.2.2 (by have := hk.out; omega)
          | succ k =>
            refine ⟨pre ++ [(c, n)], k, nx, ?_, ?_, m2, own_set (own_set hrow6.out ⟨w3.heap.size, 0, none⟩ _ ?_) ⟨w3.heap.size, 1, none⟩ _ ?_, hA6.set nx, hB6.other _ _ (by omega), bset2 kB6 (by omega) _ _⟩
            · show T = _
              rw [hT1.out, m1, List.append_assoc]; rfl
            · show b.toNat < nx.toNat + (k + 1)
              have := hk.out; omega
            · intro e
              have := (hrow6.out.lt _ e).1
              simp only at this
              omega
            · intro e
              have := (hrow6.out.lt _ e).1
              simp only at this
              omega
        case measure =>
          obtain ⟨m1, m2, m3⟩ := (HV.out false hq).2 rfl
          rw [natAt_of (hA6.set nx), hAr]
          have := m2.2.2
          omega
      · rw [hq] at hE
        go_wp2
        refine bodyPost_ret (v := .tuple #[.slice (some ⟨g4, 0, none⟩) (pre.length + 1) cap4, .int .i64 0]) (by simp [results, Tryz.results55, go_sem, *]) rfl ⟨⟨_, rfl, ?_⟩, kB5⟩
        have e : T = pre ++ [(c, n)] := by rw [hT1.out, (HV.out true hq).1 rfl]
        rw [e]
        exact own_base hrow5.out (by omega)
    clear KU KL KN hE HV hK hlen hAr HL hi hz0 hz1 hz2 hwr
    go_loopw [11] (fun n w4 => ∃ m : Int, n = .int .i64 m ∧ widN F c b ≤ m ∧ m ≤ F ∧ w4.ownsRow (w3.heap.size + 1) 29 3 u9 pre.length (rowP pre) ∧ At w4 w3.heap.size c ∧ At w4 (w.heap.size + 1) b ∧ Below w.heap.size w w4)
      (fun n _ => (intOf n).toNat)
    case atStart => exact ⟨F, rfl, hw1, Int.le_refl _, hown, hA, hB, kB⟩
    case round =>
      clear hown hA hB kB
      obtain ⟨m, rfl, hm0, hm1, hown, hA, hB, kB⟩ := hrel
      obtain ⟨a0, a1, -, -, -⟩ := id hA
      by_cases hm : 0 < m
      · have hmw : IntKind.i64.wrap (m - 1) = m - 1 := by rw [IntKind.wrap_i64]; omega
        have KU := fun w => rcut_any c (m - 1) w
        have HWm := HW.out (m - 1) (by omega) (by omega)
        have KL := fun w => rplast_any F (cutW c (m - 1)) (m - 1) w
        rw [last_eq F _ (m - 1) (by omega) (by omega)] at KL
        go_wp2_with fail
        refine (KU _).mono ?_
        rintro e w5 ⟨rfl, hb5⟩
        have hA5 := (hA.below hb5).al (.cells #[.int .u64 (hI (cutW c (m - 1))), .int .u64 (lI (cutW c (m - 1))), .int .i64 (m - 1)] 29)
        have hB5 := (hB.below hb5).al (.cells #[.int .u64 (hI (cutW c (m - 1))), .int .u64 (lI (cutW c (m - 1))), .int .i64 (m - 1)] 29)
        have hP5 := atp_new w5 w5.heap.size (cutW c (m - 1)) (m - 1) 29 rfl
        have kB5 := keepb hb5 kB
        have kB5 := kB5.alloc kB5.size (.cells #[.int .u64 (hI (cutW c (m - 1))), .int .u64 (lI (cutW c (m - 1))), .int .i64 (m - 1)] 29)
        have hown5 : Hid (World.ownsRow _ _ _ _ _ _ _) := (own_below hb5 hown).alloc (.cells #[.int .u64 (hI (cutW c (m - 1))), .int .u64 (lI (cutW c (m - 1))), .int .i64 (m - 1)] 29)
        clear hown hA hB kB hb5 a0 a1 KU HW HWR
        have hE := fun w => eqW_run (cutW c (m - 1)) c w
        by_cases hcc : cutW c (m - 1) = c
        · rw [hcc] at KL HWm hA5 hB5 hP5 kB5 hown5 hE ⊢
          rw [show (c == c) = true by simp] at hE
          have KC := fun w => rcmp_any (lastW F c (m - 1)) b w
          have hz : 0 < cmpZ (lastW F c (m - 1)) b ↔ ¬ widN F c b ≤ m - 1 := by
            rw [← HWm]
            have := cmp_le (lastW F c (m - 1)) b
            constructor
            · intro h q
              have := this.mpr q.2
              omega
            · intro h
              apply Classical.byContradiction
              intro q
              exact h ⟨rfl, this.mp (by omega)⟩
          revert KL KC hz
          generalize cmpZ (lastW F c (m - 1)) b = z
          generalize lastW F c (m - 1) = la
          intro KL KC hz
          have hz : Hid (0 < z ↔ ¬ widN F c b ≤ m - 1) := hz
          clear HWm hcc
          obtain ⟨a0, a1, -, -, -⟩ := id hA5
          obtain ⟨b0, b1, -, -, -⟩ := id hB5
          obtain ⟨p0, p1, p2, -, -, -⟩ := id hP5
          have hCB : CB w w3.heap.size (w.heap.size + 1) w5.heap.size c b (m - 1) (w5.alloc (.cells #[.int .u64 (hI c), .int .u64 (lI c), .int .i64 (m - 1)] 29)).drew := ⟨hA5, hB5, hP5, kB5.drew⟩
          have hown5 : Hid (World.ownsRow _ _ _ _ _ _ _) := hown5.out.drew
          go_wp2_with fail
          go_region_held3 (fun w' => w'.cell? ⟨w3.heap.size, 0, none⟩ = some (.int .u64 (hI c)) ∧ w'.cell? ⟨w3.heap.size, 1, none⟩ = some (.int .u64 (lI c)) ∧ w'.cell? ⟨w.heap.size + 1, 0, none⟩ = some (.int .u64 (hI b)) ∧ w'.cell? ⟨w.heap.size + 1, 1, none⟩ = some (.int .u64 (lI b)) ∧ w'.cell? ⟨w5.heap.size, 0, none⟩ = some (.int .u64 (hI c)) ∧ w'.cell? ⟨w5.heap.size, 1, none⟩ = some (.int .u64 (lI c)) ∧ w'.cell? ⟨w5.heap.size, 2, none⟩ = some (.int .i64 (m - 1)) ∧ Hid (CB w w3.heap.size (w.heap.size + 1) w5.heap.size c b (m - 1) w'))
            (first
              | exact hCB.all
              | (obtain ⟨-, -, -, -, -, -, -, k9⟩ := ‹_ ∧ _ ∧ _ ∧ _ ∧ _ ∧ _ ∧ _ ∧ _›; exact (k9.out.below hb6).all))
            (first
              | (go_at_call 51; refine (KL _).mono ?_; rintro e w6 ⟨rfl, hb6⟩; have hown5 := own_belowH hb6 hown5)
              | (go_at_call 72; refine (KC _).mono ?_; rintro e w6 ⟨rfl, hb6⟩; have hown5 := own_belowH hb6 hown5))
          obtain ⟨-, -, -, -, -, -, -, k9⟩ := ‹_ ∧ _ ∧ _ ∧ _ ∧ _ ∧ _ ∧ _ ∧ _›
          obtain ⟨hA6, hB6, -, kB6⟩ := k9.out
          clear k9
          go_wp2
          all_goals first
            | (have hmz : m = widN F c b := by have := hz.out; omega
               exact tail m hmz _ _ _ _ _ _ _ _ _ _ _ _ _ _ _ _ _ _ _ _ _ _ hown5.out hA6 hB6 kB6)
            | (have hmz : widN F c b ≤ m - 1 := by have := hz.out; omega
               go_roundw
               case rel => exact ⟨m - 1, rfl, hmz, by omega, hown5.out, hA6, hB6, kB6⟩
               case measure => simp [intOf]; omega)
        · rw [show (cutW c (m - 1) == c) = false by simpa using hcc] at hE
          have hmz : Hid (m = widN F c b) := by
            show _ = _
            have : ¬ widN F c b ≤ m - 1 := fun q => hcc (HWm.mpr q).1
            omega
          obtain ⟨a0, a1, -, -, -⟩ := id hA5
          obtain ⟨p0, p1, p2, -, -, -⟩ := id hP5
          clear HWm KL hcc
          generalize cutW c (m - 1) = y at *
          go_wp2_with fail
          go_quiet (fail)
          go_wp2_with fail
          exact tail m hmz.out _ _ _ _ _ _ _ _ _ _ _ _ _ _ _ _ _ _ _ _ _ _ hown5.out hA5 hB5 (below_drewN kB5 _)
      · have hd : decide (0 < m) = false := by simpa using hm
        have hmz : Hid (m = widN F c b) := by show _ = _; omega
        go_wp2_with fail
        exact tail m hmz.out _ _ _ _ _ _ _ _ _ _ _ _ _ _ _ _ _ _ _ _ _ _ hown hA hB kB

set_option maxHeartbeats 2000000 in
theorem rcover_any (F : Int) (a b : BitVec 128) (w : World) :
    Calls Tryz.prog 55 #[.int .i64 F, .agg #[.int .u64 (hI a), .int .u64 (lI a)], .agg #[.int .u64 (hI b), .int .u64 (lI b)]] w fun e w' => (∃ v, e = .returned (.tuple #[v, .int .i64 (covE F a b)]) ∧ w'.ownsRow w.heap.size 29 3 v (covT F a b).length (rowP (covT F a b))) ∧ Below w.heap.size w w' := by
  have KA := fun w => rright_any F a w
  have KB := fun w => rright_any F b w
  have KC := fun w => rcmp_any b a w
  by_cases he : covE F a b = 0
  · have hr := covE_rng F a b he
    have hct : covT F a b = covL F b (b.toNat - a.toNat + 1) a := by unfold covT; rw [if_pos he]
    rw [he]
    rw [hr.1] at KA
    rw [hr.2.1] at KB
    exact rcover_yes F a b _ (b.toNat - a.toNat) hct (by have := hr.2.2; omega) hr (covT_len F a b) w (fam_bd F (right0 F a hr.1).1).2 KA KB (cmpZ b a) (by rw [cmp_lt0]; have := hr.2.2; omega) KC
  · have ht : covT F a b = [] := by unfold covT; rw [if_neg he]
    rw [ht]
    clear ht
    unfold covE at he ⊢
    revert he KA KB KC
    generalize rightE F a = ra
    generalize rightE F b = rb
    generalize cmpZ b a = c
    intro KA KB KC he
    have L0 : ∀ (o p : Obj), Below w.heap.size w ((w.alloc o).alloc p) := fun o p => bl2 w o p
    have hA : At ((w.alloc (.cells #[.int .u64 (hI a), .int .u64 (lI a)] 27)).alloc (.cells #[.int .u64 (hI b), .int .u64 (lI b)] 27)) w.heap.size a := (at_new w w.heap.size a 27 rfl).al _
    have hB : At ((w.alloc (.cells #[.int .u64 (hI a), .int .u64 (lI a)] 27)).alloc (.cells #[.int .u64 (hI b), .int .u64 (lI b)] 27)) (w.heap.size + 1) b := at_new _ (w.heap.size + 1) b 27 (by simp)
    by_cases h1 : ra = 0
    · subst h1
      rw [if_pos rfl] at he ⊢
      by_cases h2 : rb = 0
      · subst h2
        rw [if_pos rfl] at he ⊢
        have h3 : c < 0 := by
          apply Classical.byContradiction
          intro q
          rw [if_neg q] at he
          exact he rfl
        rw [if_pos h3]
        clear he
        go_enter Tryz.func55, Tryz.ntmps55
        go_wp2_with fail
        refine (KA _).mono ?_
        rintro e w1 ⟨rfl, hb1⟩
        have hA := hA.below hb1
        have hB := hB.below hb1
        have kB := keepb hb1 (L0 _ _)
        clear hb1 KA L0
        obtain ⟨b0, b1, -, -, -⟩ := id hB
        go_wp2_with fail
        refine (KB _).mono ?_
        rintro e w2 ⟨rfl, hb2⟩
        have hA := hA.below hb2
        have hB := hB.below hb2
        have kB := keepb hb2 kB
        clear hb2 KB b0 b1
        obtain ⟨b0, b1, -, -, -⟩ := id hB
        obtain ⟨a0, a1, -, -, -⟩ := id hA
        go_wp2_with fail
        refine (KC _).mono ?_
        rintro e w3 ⟨rfl, hb3⟩
        have kB := keepb hb3 kB
        clear hb3 KC b0 b1 a0 a1 hA hB
        go_wp2
        exact bodyPost_ret (v := .tuple #[.slice none 0 0, .int .i64 19]) (by simp [results, Tryz.results55, go_sem, *]) rfl ⟨⟨_, rfl, World.ownsRow_nil _ _ _ _⟩, kB⟩
      · rw [if_neg h2]
        clear he KC
        have hn : (rb != 0) = true := by simp [h2]
        go_enter Tryz.func55, Tryz.ntmps55
        go_wp2_with fail
        refine (KA _).mono ?_
        rintro e w1 ⟨rfl, hb1⟩
        have hB := hB.below hb1
        have kB := keepb hb1 (L0 _ _)
        clear hb1 KA L0 hA
        obtain ⟨b0, b1, -, -, -⟩ := id hB
        go_wp2_with fail
        refine (KB _).mono ?_
        rintro e w2 ⟨rfl, hb2⟩
        have kB := keepb hb2 kB
        clear hb2 KB b0 b1
        go_wp2
        exact bodyPost_ret (v := .tuple #[.slice none 0 0, .int .i64 rb]) (by simp [results, Tryz.results55, go_sem, *]) rfl ⟨⟨_, rfl, World.ownsRow_nil _ _ _ _⟩, kB⟩
    · rw [if_neg h1]
      clear he KC KB
      have hn : (ra != 0) = true := by simp [h1]
      go_enter Tryz.func55, Tryz.ntmps55
      go_wp2_with fail
      refine (KA _).mono ?_
      rintro e w1 ⟨rfl, hb1⟩
      have kB := keepb hb1 (L0 _ _)
      clear hb1 KA L0 hA
      go_wp2
      exact bodyPost_ret (v := .tuple #[.slice none 0 0, .int .i64 ra]) (by simp [results, Tryz.results55, go_sem, *]) rfl ⟨⟨_, rfl, World.ownsRow_nil _ _ _ _⟩, kB⟩
end Go.Proofs.YtonagfmkplbooaaGreatDoor
